/-
  Texts that the proof of the law stands on: D2, E2, N25, N26, Q9, E4, Map, E5, D3, E6, E7, E8, N4, N28, K2, F1, E11, D5, E12, Tb, E1, E10, Later, E15, L4, L2, Z45, U5, G5, H4, Y7, Y8, Y10, Y40, Y17, Y41, MApp, U6, Y42, Y43, U7, U8, U9, Z1.
-/
import Derived.Test.YtphpablchlpagaaDoorDeA
import Derived.Handy
import Derived.Deep.RegionHeld
import Derived.BigQuiet
import Derived.Deep.QuietTactic
import Derived.Deep.RegionHeld3
import Derived.Maps.Own
import Derived.Maps.OwnOps
import Derived.Maps.OwnSet
import Derived.Maps.Views
import Derived.Test.YtphpablchlpagaaDoorProg
import Derived.WideKeyPair
import Derived.WideKeyEntry
import Derived.WideKeyElems3
import Derived.Maps.Keyed
import Derived.Maps.AppendAt
import Derived.RegionTactic
import Derived.ChangeAlike
import Derived.Maps.OwnIn
import Derived.Shelf.RegionOpen
import Derived.Deep.DeepMust
import Derived.Deep.CutRange
import Derived.Laws.AppendOwnNone
import Derived.Deep.AppendLies
import Derived.Deep.RegionLaw
import Derived.Deep.LoopGhost
set_option linter.unusedVariables false
set_option linter.unusedSimpArgs false
namespace Go.Proofs.YtphpablchlpagaaDoor
open Go.RowKit Go.Shelf
/-- The two states in their order. -/
def canon (p q : Nat) : Nat × Nat := (min p q, max p q)
theorem canon_cases (p q : Nat) : (p ≤ q ∧ canon p q = (p, q)) ∨ (q ≤ p ∧ canon p q = (q, p)) := by
  unfold canon
  rcases Nat.le_total p q with h | h
  · exact .inl ⟨h, by rw [Nat.min_eq_left h, Nat.max_eq_right h]⟩
  · exact .inr ⟨h, by rw [Nat.min_eq_right h, Nat.max_eq_left h]⟩
theorem canon_mdist {m : List (List Int)} {p q k : Nat} : mdist m (canon p q).1 (canon p q).2 k ↔ mdist m p q k := by
  rcases canon_cases p q with ⟨_, e⟩ | ⟨_, e⟩ <;> rw [e]
  exact ⟨mdist_symm, mdist_symm⟩
theorem canon_le (p q : Nat) : (canon p q).1 ≤ (canon p q).2 := by unfold canon; exact Nat.le_trans (Nat.min_le_left _ _) (Nat.le_max_left _ _)
theorem canon_lt {n p q : Nat} (hp : p < n) (hq : q < n) : (canon p q).2 < n := by
  rcases canon_cases p q with ⟨_, e⟩ | ⟨_, e⟩ <;> rw [e] <;> assumption
/-- Where the search stands at entry i: what it has found, with lengths. -/
structure MB (m : List (List Int)) (F : List (Nat × Nat × Nat)) (i : Nat) : Prop where
  ok : ∀ e ∈ F, e.1 ≤ e.2.1 ∧ e.2.1 < m.length ∧ mdist m e.1 e.2.1 e.2.2
  uniq : (F.map fun e => (e.1, e.2.1)).Nodup
  sorted : F.Pairwise fun a b => a.2.2 ≤ b.2.2
  near : ∀ e, F[i]? = some e → ∀ f ∈ F, f.2.2 ≤ e.2.2 + 1
  diag : ∀ s, s < m.length → (s, s, 0) ∈ F
  closed : ∀ j, j < i → ∀ e, F[j]? = some e → ∀ p q x, p < q → q < m.length → x < letters m → canon (nx m p (x : Int)) (nx m q (x : Int)) = (e.1, e.2.1) → ∃ l, (p, q, l) ∈ F
theorem MB.full {m : List (List Int)} {F : List (Nat × Nat × Nat)} {i : Nat} (hv : validM m = true) (h : MB m F i) : ∀ l p q, p ≤ q → q < m.length → mdist m p q l → (∀ e, F[i]? = some e → l ≤ e.2.2) → (i < F.length ∨ i = F.length) → (p, q, l) ∈ F ∨ (∃ e, F[i]? = some e ∧ l = e.2.2 + 1)
  | 0, p, q, hpq, hq, hd, _, _ => by
    obtain rfl := mdist_zero.1 hd
    exact .inl (h.diag p hq)
  | l + 1, p, q, hpq, hq, hd, hi, hil => by
    have hne : p ≠ q := fun e => by
      have := mdist_unique hd (mdist_zero.2 e)
      omega
    obtain ⟨x, hx, h2⟩ := mdist_step hd
    have n1 := ldM_ok hv p x (by omega) hx
    have n2 := ldM_ok hv q x hq hx
    rcases MB.full hv h l _ _ (canon_le _ _) (canon_lt n1 n2) (canon_mdist.2 h2) (fun e he => by have := hi e he; omega) hil with h3 | ⟨e, he, hl⟩
    · obtain ⟨j, hj, hje⟩ := List.mem_iff_getElem.1 h3
      have hji : j < i := by
        apply Classical.byContradiction
        intro hji
        rcases hil with hlt | heq
        · have he : F[i]? = some F[i] := List.getElem?_eq_getElem hlt
          have hle := hi _ he
          by_cases e : j = i
          · subst e
            rw [hje] at hle
            simp at hle
            omega
          · have := List.pairwise_iff_getElem.1 h.sorted i j hlt hj (by omega)
            rw [hje] at this
            simp at this
            omega
        · omega
      obtain ⟨l', hl'⟩ := h.closed j hji _ (by rw [List.getElem?_eq_getElem hj, hje]) p q x (by omega) hq hx rfl
      have := mdist_unique (h.ok _ hl').2.2 hd
      simp only at this
      subst this
      exact .inl hl'
    · have := hi e he
      omega
theorem MB.all {m : List (List Int)} {F : List (Nat × Nat × Nat)} (hv : validM m = true) (h : MB m F F.length) {l p q : Nat} (hpq : p ≤ q) (hq : q < m.length) (hd : mdist m p q l) : (p, q, l) ∈ F := by
  rcases h.full hv l p q hpq hq hd (fun e he => by simp at he) (.inr rfl) with h1 | ⟨e, he, _⟩
  · exact h1
  · simp at he
theorem MB.add {m : List (List Int)} {F : List (Nat × Nat × Nat)} {i : Nat} (hv : validM m = true) (h : MB m F i) {e : Nat × Nat × Nat} (he : F[i]? = some e) {p q x : Nat} (hpq : p < q) (hq : q < m.length) (hx : x < letters m)
    (hc : canon (nx m p (x : Int)) (nx m q (x : Int)) = (e.1, e.2.1)) (hno : ∀ l, (p, q, l) ∉ F) : MB m (F ++ [(p, q, e.2.2 + 1)]) i := by
  have hil : i < F.length := (List.getElem?_eq_some_iff.1 he).1
  have hee := List.mem_of_getElem? he
  have hme := (h.ok e hee).2.2
  have hm1 : mdist m (nx m p (x : Int)) (nx m q (x : Int)) e.2.2 := canon_mdist.1 (by rw [hc]; exact hme)
  have hd : mdist m p q (e.2.2 + 1) := by
    refine mdist_up hx hm1 fun j hj hp => ?_
    obtain ⟨j', hj', hd'⟩ := mdist_some hp
    rcases h.full hv j' p q (by omega) hq hd' (fun e' he' => by rw [he] at he'; cases he'; omega) (.inl hil) with h1 | ⟨e', he', hl⟩
    · exact hno _ h1
    · rw [he] at he'; cases he'; omega
  refine ⟨?_, ?_, ?_, ?_, fun s hs => List.mem_append_left _ (h.diag s hs), ?_⟩
  · intro f hf
    rcases List.mem_append.1 hf with h1 | h1
    · exact h.ok f h1
    · obtain rfl := List.mem_singleton.1 h1
      exact ⟨by simp; omega, hq, hd⟩
  · rw [List.map_append, List.nodup_append]
    refine ⟨h.uniq, by simp, ?_⟩
    rintro a ha b hb rfl
    obtain ⟨f, hf, rfl⟩ := List.mem_map.1 ha
    simp at hb
    exact hno f.2.2 (by rw [← hb.1, ← hb.2]; exact hf)
  · rw [List.pairwise_append]
    refine ⟨h.sorted, by simp, fun a ha b hb => ?_⟩
    obtain rfl := List.mem_singleton.1 hb
    exact h.near e he a ha
  · intro e' he' f hf
    rw [List.getElem?_append_left hil, he] at he'
    cases he'
    rcases List.mem_append.1 hf with h1 | h1
    · exact h.near e he f h1
    · obtain rfl := List.mem_singleton.1 h1
      exact Nat.le_refl _
  · intro j hj e' he' p' q' x' a1 a2 a3 a4
    rw [List.getElem?_append_left (by omega)] at he'
    obtain ⟨l, hl⟩ := h.closed j hj e' he' p' q' x' a1 a2 a3 a4
    exact ⟨l, List.mem_append_left _ hl⟩
theorem MB.next {m : List (List Int)} {F : List (Nat × Nat × Nat)} {i : Nat} (h : MB m F i) {e : Nat × Nat × Nat} (he : F[i]? = some e)
    (hall : ∀ p q x, p < q → q < m.length → x < letters m → canon (nx m p (x : Int)) (nx m q (x : Int)) = (e.1, e.2.1) → ∃ l, (p, q, l) ∈ F) : MB m F (i + 1) := by
  refine ⟨h.ok, h.uniq, h.sorted, ?_, h.diag, ?_⟩
  · intro e' he' f hf
    obtain ⟨b1, b2⟩ := List.getElem?_eq_some_iff.1 he
    obtain ⟨c1, c2⟩ := List.getElem?_eq_some_iff.1 he'
    have := List.pairwise_iff_getElem.1 h.sorted i (i + 1) b1 c1 (by omega)
    rw [b2, c2] at this
    have := h.near e he f hf
    omega
  · intro j hj e' he' p q x a1 a2 a3 a4
    by_cases hji : j = i
    · subst hji
      rw [he] at he'; cases he'
      exact hall p q x a1 a2 a3 a4
    · exact h.closed j (by omega) e' he' p q x a1 a2 a3 a4
/-- The merged pairs. -/
def diag0 (n : Nat) : List (Nat × Nat × Nat) := (List.range n).map fun s => (s, s, 0)
theorem MB.start (m : List (List Int)) : MB m (diag0 m.length) 0 := by
  refine ⟨?_, ?_, ?_, ?_, ?_, fun j hj => by omega⟩
  · intro e he
    obtain ⟨s, hs, rfl⟩ := List.mem_map.1 he
    exact ⟨Nat.le_refl _, List.mem_range.1 hs, mdist_zero.2 rfl⟩
  · unfold diag0 List.Nodup
    rw [List.map_map, List.pairwise_map]
    refine List.Pairwise.imp (fun {a b} hlt e => ?_) List.pairwise_lt_range
    simp at e
    omega
  · unfold diag0
    rw [List.pairwise_map]
    exact List.Pairwise.imp (fun _ => Nat.le_refl _) List.pairwise_lt_range
  · intro e he f hf
    obtain ⟨s, hs, rfl⟩ := List.mem_map.1 hf
    exact Nat.zero_le _
  · exact fun s hs => List.mem_map.2 ⟨s, List.mem_range.2 hs, rfl⟩
/-- No more than n^2 are found. -/
theorem MB.len {m : List (List Int)} {F : List (Nat × Nat × Nat)} {i : Nat} (h : MB m F i) : F.length ≤ m.length * m.length := by
  have hnd : (F.map fun e => ((e.1 * m.length + e.2.1 : Nat) : Int)).Nodup := by
    have hu := h.uniq
    unfold List.Nodup at hu ⊢
    rw [List.pairwise_map] at hu ⊢
    refine List.Pairwise.imp_of_mem (fun {a b} ha hb hne e => hne ?_) hu
    have e' : a.1 * m.length + a.2.1 = b.1 * m.length + b.2.1 := by omega
    have l1 := (h.ok a ha).2.1
    have l2 := (h.ok b hb).2.1
    have e1 : a.1 = b.1 := by
      have := congrArg (· / m.length) e'
      simp only [Nat.add_comm (_ * _), Nat.add_mul_div_right _ _ (show 0 < m.length by omega), Nat.div_eq_of_lt l1, Nat.div_eq_of_lt l2] at this
      omega
    rw [e1] at e'
    rw [e1, show a.2.1 = b.2.1 by omega]
  have := nodup_len (m.length * m.length) _ hnd (fun x hx => by
    obtain ⟨e, he, rfl⟩ := List.mem_map.1 hx
    have l1 := h.ok e he
    have := Nat.mul_le_mul_right m.length (show e.1 + 1 ≤ m.length by omega)
    rw [Nat.succ_mul] at this
    omega)
  simpa using this
end Go.Proofs.YtphpablchlpagaaDoor
namespace Go.Proofs.YtphpablchlpagaaDoor
open Go.RowKit Go.Shelf
theorem canon_ints (p q : Nat) : (((canon p q).1 : Nat) : Int) = min (p : Int) (q : Int) ∧ (((canon p q).2 : Nat) : Int) = max (p : Int) (q : Int) := by
  unfold canon
  constructor <;> simp only <;> omega
set_option maxHeartbeats 1000000 in
theorem pairOf_any (p q : Nat) (w : World) (hp : p < 1000000) (hq : q < 1000000) :
    Calls Tryd.prog 78 #[.int .i64 p, .int .i64 q] w fun e w' => e = .returned (.agg #[.int .i64 ((canon p q).1 : Nat), .int .i64 ((canon p q).2 : Nat)]) ∧ Below w.heap.size w w' := by
  obtain ⟨e1, e2⟩ := canon_ints p q
  rw [e1, e2]
  go_enter Tryd.func78, Tryd.ntmps78
  go_wp2
  all_goals
    go_returns
    refine ⟨?_, bal (Below.refl _ _) _⟩
    simp only [Ending.returned.injEq, Value.agg.injEq, Array.mk.injEq, List.cons.injEq, Value.int.injEq, and_true, true_and]
    try omega
end Go.Proofs.YtphpablchlpagaaDoor
namespace Go.Proofs.YtphpablchlpagaaDoor
open Go.RowKit Go.Shelf
attribute [local go_sem] Oper.semAt_some
theorem ownsRow_pos' {w : World} {base : Nat} {e : TypeId} {s : Nat} {v : Value} {n : Nat} {xs : List Value} (h : w.ownsRow base e s v n xs) (hn : 1 ≤ n) : ∃ g cap, v = .slice (some ⟨g, 0, none⟩) n cap := by
  rcases h.2 with ⟨_, h0⟩ | ⟨g, cap, cur, hv, _⟩
  · omega
  · exact ⟨g, cap, hv⟩
theorem ownsRow_slice {w : World} {base : Nat} {e : TypeId} {s : Nat} {v : Value} {n : Nat} {xs : List Value} (h : w.ownsRow base e s v n xs) : ∃ A cap, v = .slice A n cap := by
  rcases h.2 with ⟨hu, h0⟩ | ⟨g, cap, cur, hv, _⟩
  · exact ⟨none, 0, by rw [hu, h0]⟩
  · exact ⟨_, cap, hv⟩
theorem held_three {w1 w' : World} {p q r : Addr} {u v x : Value} (h1 : w1.cell? p = some u) (h2 : w1.cell? q = some v) (h3 : w1.cell? r = some x) (hb : Below w1.heap.size w1 w') : Below w1.heap.size w1 w' ∧ w'.cell? p = some u ∧ w'.cell? q = some v ∧ w'.cell? r = some x :=
  ⟨hb, (hb.cell (p := p) (World.block_lt_of_cell? _ _ h1)).trans h1, (hb.cell (p := q) (World.block_lt_of_cell? _ _ h2)).trans h2, (hb.cell (p := r) (World.block_lt_of_cell? _ _ h3)).trans h3⟩
end Go.Proofs.YtphpablchlpagaaDoor
namespace Go.Proofs.YtphpablchlpagaaDoor
open Go.RowKit Go.Shelf
theorem getI_cell {l : List Int} {i : Nat} (hi : i < l.length) : (l.map fun x => Value.int .i64 x)[i]? = some (.int .i64 (l.getD i 0)) := by
  simp [List.getElem?_map, List.getElem?_eq_getElem hi, List.getD_eq_getElem?_getD]
end Go.Proofs.YtphpablchlpagaaDoor
namespace Go.Proofs.YtphpablchlpagaaDoor
open Go.RowKit Go.Shelf
/-- A list by a function. -/
def Lf (n : Nat) (f : Nat → Int) : List Int := (List.range n).map f
theorem Lf_len (n : Nat) (f : Nat → Int) : (Lf n f).length = n := by simp [Lf]
theorem Lf_get {n : Nat} (f : Nat → Int) {i : Nat} (hi : i < n) : (Lf n f).getD i 0 = f i := by
  simp [Lf, List.getD_eq_getElem?_getD, List.getElem?_map, List.getElem?_range hi]
theorem Lf_congr {n : Nat} {f g : Nat → Int} (h : ∀ i, i < n → f i = g i) : Lf n f = Lf n g := List.map_congr_left fun i hi => h i (List.mem_range.1 hi)
theorem Lf_set {n : Nat} (f : Nat → Int) (s : Nat) (v : Int) : (Lf n f).set s v = Lf n (fun i => if i = s then v else f i) := by
  apply List.ext_getElem
  · simp [Lf]
  · intro i h1 h2
    rw [List.getElem_set]
    simp only [Lf, List.getElem_map, List.getElem_range]
    by_cases e : s = i
    · rw [if_pos e, if_pos e.symm]
    · rw [if_neg e, if_neg (fun h => e h.symm)]
theorem Lf_cell {n : Nat} (f : Nat → Int) {i : Nat} (hi : i < n) : ((Lf n f).map fun x => Value.int .i64 x)[i]? = some (.int .i64 (f i)) := by
  rw [getI_cell (by rw [Lf_len]; exact hi), Lf_get f hi]
end Go.Proofs.YtphpablchlpagaaDoor
namespace Go.Proofs.YtphpablchlpagaaDoor
open Go.RowKit Go.Shelf
theorem new_cell (w : World) (cs : Array Value) (t : TypeId) (i : Nat) (v : Value) (h : cs[i]? = some v) : (w.alloc (.cells cs t)).cell? ⟨w.heap.size, i, none⟩ = some v := by
  unfold World.cell?
  simp only [World.alloc_heap_new]
  simpa using h
theorem new_cell' (w : World) (cs : Array Value) (t : TypeId) (i : Nat) (v : Value) {k : Nat} (hk : w.heap.size = k) (h : cs[i]? = some v) : (w.alloc (.cells cs t)).cell? ⟨k, i, none⟩ = some v := by subst hk; exact new_cell w cs t i v h
theorem pair_block {w : World} {R : Nat} {t : TypeId} {u v : Value} (h : w.heap[R]? = some (.cells #[u, v] t (0, 0))) : w.cell? ⟨R, 0, none⟩ = some u ∧ w.cell? ⟨R, 1, none⟩ = some v ∧ w.frozen? ⟨R, 0, none⟩ = false ∧ w.frozen? ⟨R, 1, none⟩ = false := by
  refine ⟨?_, ?_, ?_, ?_⟩ <;> simp [World.cell?, World.frozen?, h]
theorem pair_stored {w : World} {R : Nat} {t : TypeId} {u v : Value} (h : w.heap[R]? = some (.cells #[u, v] t (0, 0))) (a b : Value) : ((w.setCell ⟨R, 0, none⟩ a).setCell ⟨R, 1, none⟩ b).heap[R]? = some (.cells #[a, b] t (0, 0)) := by
  have h1 : (w.setCell ⟨R, 0, none⟩ a).heap[R]? = some (.cells #[a, v] t (0, 0)) := by
    simp [World.setCell, Array.getElem?_modify, h]
  unfold World.setCell at h1 ⊢
  simp only [Array.getElem?_modify, if_true] at h1 ⊢
  rw [h] at h1 ⊢
  simp
/-- What the region's loads read. -/
def LeadS (w : World) (R : Nat) (a1 a2 a3 a4 a5 a6 a7 : Addr) (u1 u2 u3 u4 u5 u6 u7 : Value) (w' : World) : Prop :=
  Below w.heap.size w w' ∧ w'.cell? a1 = some u1 ∧ w'.cell? a2 = some u2 ∧ w'.cell? a3 = some u3 ∧ w'.cell? a4 = some u4 ∧ w'.cell? a5 = some u5 ∧ w'.cell? a6 = some u6 ∧ w'.cell? a7 = some u7
theorem held_lead {w X : World} {R : Nat} {a1 a2 a3 a4 a5 a6 a7 : Addr} {u1 u2 u3 u4 u5 u6 u7 : Value} (h : LeadS w R a1 a2 a3 a4 a5 a6 a7 u1 u2 u3 u4 u5 u6 u7 X) {w' : World} (hb : Below X.heap.size X w') : LeadS w R a1 a2 a3 a4 a5 a6 a7 u1 u2 u3 u4 u5 u6 u7 w' := by
  obtain ⟨h0, c1, c2, c3, c4, c5, c6, c7⟩ := h
  have k := fun (a : Addr) (u : Value) (c : X.cell? a = some u) => (hb.cell (p := a) (World.block_lt_of_cell? _ _ c)).trans c
  exact ⟨btr h0 hb, k _ _ c1, k _ _ c2, k _ _ c3, k _ _ c4, k _ _ c5, k _ _ c6, k _ _ c7⟩
theorem held_lead_set {w X : World} {R i : Nat} {u : Value} {a1 a2 a3 a4 a5 a6 a7 : Addr} {u1 u2 u3 u4 u5 u6 u7 : Value} (N : w.heap.size ≤ R ∧ a1.block ≠ R ∧ a2.block ≠ R ∧ a3.block ≠ R ∧ a4.block ≠ R ∧ a5.block ≠ R ∧ a6.block ≠ R ∧ a7.block ≠ R) (h : LeadS w R a1 a2 a3 a4 a5 a6 a7 u1 u2 u3 u4 u5 u6 u7 X) : LeadS w R a1 a2 a3 a4 a5 a6 a7 u1 u2 u3 u4 u5 u6 u7 (X.setCell ⟨R, i, none⟩ u) := by
  obtain ⟨h0, c1, c2, c3, c4, c5, c6, c7⟩ := h
  obtain ⟨hR, n1, n2, n3, n4, n5, n6, n7⟩ := N
  have k := fun (a : Addr) (v : Value) (hn : a.block ≠ R) (c : X.cell? a = some v) => show (X.setCell ⟨R, i, none⟩ u).cell? a = some v from (World.cell?_of_block (Below.heap_setCell _ _ _ _ hn)).trans c
  exact ⟨h0.setCell (p := ⟨R, i, none⟩) hR u, k _ _ n1 c1, k _ _ n2 c2, k _ _ n3 c3, k _ _ n4 c4, k _ _ n5 c5, k _ _ n6 c6, k _ _ n7 c7⟩
set_option maxRecDepth 100000 in
set_option maxHeartbeats 2000000 in
theorem lead_pair (v : Value) (m : List (List Int)) (p q x : Nat) (w : World) (h : Rows w v m) (hv : validM m = true) (hp : p < m.length) (hq : q < m.length) (hx : x < letters m) :
    Calls Tryd.prog 67 #[.agg #[v], .agg #[.int .i64 p, .int .i64 q], .int .i64 x] w fun e w' => e = .returned (.agg #[.int .i64 ((canon (nx m p (x : Int)) (nx m q (x : Int))).1 : Nat), .int .i64 ((canon (nx m p (x : Int)) (nx m q (x : Int))).2 : Nat)]) ∧ Below w.heap.size w w' := by
  obtain ⟨p1, p2, p3, p4, p5⟩ := valid_parts hv
  obtain ⟨A, cap, rfl, hml, hcm⟩ := id h
  obtain ⟨b, off, r, hA, hcell, hrow⟩ := hcm p hp
  subst hA
  have hrl := (p5 p hp).1
  obtain ⟨Ar, capr, rfl, -, hcr⟩ := id hrow
  rw [hrl] at hcell
  obtain ⟨br, offr, hAr, hct⟩ := hcr x (by omega)
  subst hAr
  obtain ⟨hn1, hn⟩ := nx_ok hv (s := p) hp (x := (x : Int)) (by omega) (by omega)
  rw [Int.toNat_natCast] at hn
  rw [hn] at hct
  obtain ⟨b2, o2, r2, hA2, hcellq, hrowq⟩ := hcm q hq
  cases hA2
  have hrlq := (p5 q hq).1
  obtain ⟨Aq, capq, rfl, -, hcq⟩ := id hrowq
  rw [hrlq] at hcellq
  obtain ⟨bq, offq, hAq, hctq⟩ := hcq x (by omega)
  subst hAq
  obtain ⟨hq1, hqn⟩ := nx_ok hv (s := q) hq (x := (x : Int)) (by omega) (by omega)
  rw [Int.toNat_natCast] at hqn
  rw [hqn] at hctq
  clear hcr hrow hn hrl hcq hrowq hqn hrlq hcm p5
  generalize nx m p (x : Int) = d at *
  generalize nx m q (x : Int) = d' at *
  have hps : (p : Int) < m.length := by omega
  have hqs : (q : Int) < m.length := by omega
  have hxs : (x : Int) < letters m := by omega
  go_enter Tryd.func67, Tryd.ntmps67
  go_wp2_with fail
  have hX := bal (bal (bal (Below.refl _ w) (.cells #[.slice (some ⟨b, off, none⟩) m.length cap] 24)) (.cells #[.int .i64 p, .int .i64 q] 75)) (.cells #[.int .i64 0, .int .i64 0] 75)
  have c0 := (bal (bal (Below.refl _ _) (.cells #[.int .i64 p, .int .i64 q] 75)) (.cells #[.int .i64 0, .int .i64 0] 75)).cell (p := ⟨w.heap.size, 0, none⟩) (by simp) |>.trans (new_cell w #[.slice (some ⟨b, off, none⟩) m.length cap] 24 0 _ rfl)
  have c1 := (bal (Below.refl _ ((w.alloc (.cells #[.slice (some ⟨b, off, none⟩) m.length cap] 24)).alloc (.cells #[.int .i64 p, .int .i64 q] 75))) (.cells #[.int .i64 0, .int .i64 0] 75)).cell (p := ⟨w.heap.size + 1, 0, none⟩) (by simp) |>.trans (new_cell' (w.alloc (.cells #[.slice (some ⟨b, off, none⟩) m.length cap] 24)) #[.int .i64 p, .int .i64 q] 75 0 _ (by simp) rfl)
  have c2 := (bal (Below.refl _ ((w.alloc (.cells #[.slice (some ⟨b, off, none⟩) m.length cap] 24)).alloc (.cells #[.int .i64 p, .int .i64 q] 75))) (.cells #[.int .i64 0, .int .i64 0] 75)).cell (p := ⟨w.heap.size + 1, 1, none⟩) (by simp) |>.trans (new_cell' (w.alloc (.cells #[.slice (some ⟨b, off, none⟩) m.length cap] 24)) #[.int .i64 p, .int .i64 q] 75 1 _ (by simp) rfl)
  have c3 : (((w.alloc (.cells #[.slice (some ⟨b, off, none⟩) m.length cap] 24)).alloc (.cells #[.int .i64 p, .int .i64 q] 75)).alloc (.cells #[.int .i64 0, .int .i64 0] 75)).heap[w.heap.size + 1 + 1]? = some (.cells #[.int .i64 0, .int .i64 0] 75 (0, 0)) := by
    have := World.alloc_heap_new ((w.alloc (.cells #[.slice (some ⟨b, off, none⟩) m.length cap] 24)).alloc (.cells #[.int .i64 p, .int .i64 q] 75)) (.cells #[.int .i64 0, .int .i64 0] 75)
    rwa [World.size_alloc, World.size_alloc] at this
  generalize hWX : ((w.alloc (.cells #[.slice (some ⟨b, off, none⟩) m.length cap] 24)).alloc (.cells #[.int .i64 p, .int .i64 q] 75)).alloc (.cells #[.int .i64 0, .int .i64 0] 75) = X at *
  clear hWX
  have k1 := (hX.cell (p := ⟨b, off + p, none⟩) (World.block_lt_of_cell? _ _ hcell)).trans hcell
  have k2 := (hX.cell (p := ⟨b, off + q, none⟩) (World.block_lt_of_cell? _ _ hcellq)).trans hcellq
  have k3 := (hX.cell (p := ⟨br, offr + x, none⟩) (World.block_lt_of_cell? _ _ hct)).trans hct
  have k4 := (hX.cell (p := ⟨bq, offq + x, none⟩) (World.block_lt_of_cell? _ _ hctq)).trans hctq
  have HX := hid hX
  have l1 := World.block_lt_of_cell? _ _ hcell
  have l2 := World.block_lt_of_cell? _ _ hct
  have l3 := World.block_lt_of_cell? _ _ hctq
  simp only at l1 l2 l3
  have S0 : LeadS w (w.heap.size + 1 + 1) ⟨w.heap.size, 0, none⟩ ⟨w.heap.size + 1, 0, none⟩ ⟨w.heap.size + 1, 1, none⟩ ⟨b, off + p, none⟩ ⟨b, off + q, none⟩ ⟨br, offr + x, none⟩ ⟨bq, offq + x, none⟩ _ _ _ _ _ _ _ X := ⟨hX, c0, c1, c2, k1, k2, k3, k4⟩
  have keep := hid (fun (w' : World) (hb : Below X.heap.size X w') => held_lead S0 hb)
  have N := hid (show w.heap.size ≤ w.heap.size + 1 + 1 ∧ w.heap.size ≠ w.heap.size + 1 + 1 ∧ w.heap.size + 1 ≠ w.heap.size + 1 + 1 ∧ w.heap.size + 1 ≠ w.heap.size + 1 + 1 ∧ b ≠ w.heap.size + 1 + 1 ∧ b ≠ w.heap.size + 1 + 1 ∧ br ≠ w.heap.size + 1 + 1 ∧ bq ≠ w.heap.size + 1 + 1 by omega)
  have Hc3 := hid c3
  clear hcell hcellq hct hctq h hml hX S0 k1 k2 k3 k4 l1 l2 l3 c0 c1 c2 c3
  go_region_held3 (fun w' => Below w.heap.size w w' ∧ w'.cell? ⟨w.heap.size, 0, none⟩ = some (.slice (some ⟨b, off, none⟩) m.length cap) ∧ w'.cell? ⟨w.heap.size + 1, 0, none⟩ = some (.int .i64 p) ∧ w'.cell? ⟨w.heap.size + 1, 1, none⟩ = some (.int .i64 q) ∧ w'.cell? ⟨b, off + p, none⟩ = some (.slice (some ⟨br, offr, none⟩) (letters m) capr) ∧ w'.cell? ⟨b, off + q, none⟩ = some (.slice (some ⟨bq, offq, none⟩) (letters m) capq) ∧ w'.cell? ⟨br, offr + x, none⟩ = some (.int .i64 d) ∧ w'.cell? ⟨bq, offq + x, none⟩ = some (.int .i64 d')) (first | exact keep.out _ (below_dr X 1) | exact keep.out _ (by assumption) | exact held_lead_set (a1 := ⟨w.heap.size, 0, none⟩) (a2 := ⟨w.heap.size + 1, 0, none⟩) (a3 := ⟨w.heap.size + 1, 1, none⟩) (a4 := ⟨b, off + p, none⟩) (a5 := ⟨b, off + q, none⟩) (a6 := ⟨br, offr + x, none⟩) (a7 := ⟨bq, offq + x, none⟩) N.out (held_lead_set (a1 := ⟨w.heap.size, 0, none⟩) (a2 := ⟨w.heap.size + 1, 0, none⟩) (a3 := ⟨w.heap.size + 1, 1, none⟩) (a4 := ⟨b, off + p, none⟩) (a5 := ⟨b, off + q, none⟩) (a6 := ⟨br, offr + x, none⟩) (a7 := ⟨bq, offq + x, none⟩) N.out (by assumption)))
    (first | (go_at_call 78; go_must (refine (pairOf_any d d' _ (by omega) (by omega)).mono ?_; rintro e y1 ⟨rfl, hy1⟩; have g1 : Below X.heap.size X y1 := btr (by first | exact below_dr X 1 | exact Below.refl _ _ | assumption) hy1; obtain ⟨r1, r2, r3, r4⟩ := pair_block ((g1.block _ (Array.getElem?_eq_some_iff.1 Hc3.out).1).trans Hc3.out))))
  have e1 := pair_stored ((g1.block _ (Array.getElem?_eq_some_iff.1 Hc3.out).1).trans Hc3.out) (.int .i64 ((canon d d').1 : Nat)) (.int .i64 ((canon d d').2 : Nat))
  obtain ⟨r5, r6, -, -⟩ := pair_block e1
  clear e1
  have HB := hid (show Below w.heap.size w _ from (btr HX.out g1).setCell (p := ⟨w.heap.size + 1 + 1, 0, none⟩) (by show w.heap.size ≤ w.heap.size + 1 + 1; omega) (.int .i64 ((canon d d').1 : Nat)) |>.setCell (p := ⟨w.heap.size + 1 + 1, 1, none⟩) (by show w.heap.size ≤ w.heap.size + 1 + 1; omega) (.int .i64 ((canon d d').2 : Nat)))
  generalize (y1.setCell ⟨w.heap.size + 1 + 1, 0, none⟩ (.int .i64 ((canon d d').1 : Nat))).setCell ⟨w.heap.size + 1 + 1, 1, none⟩ (.int .i64 ((canon d d').2 : Nat)) = Y at *
  rename_i hh
  clear hh
  clear r1 r2 r3 r4 Hc3 keep N hy1 g1 HX
  go_wp2
  exact bodyPost_ret (v := .agg #[.int .i64 ((canon d d').1 : Nat), .int .i64 ((canon d d').2 : Nat)]) (by simp [results, Tryd.results67, go_sem, r5, r6]) rfl ⟨rfl, HB.out⟩
end Go.Proofs.YtphpablchlpagaaDoor
namespace Go.Proofs.YtphpablchlpagaaDoor
open Go.RowKit Go.Maps Go.WideAt
def heldR (v : Value) : Option (DataW Value × List MemPlace) := some (.held v, [])
/-- Block b is a map of at most n entries, c of them; the key l holds S l (z where there is none), and is there if T l. -/
def ValMap (w : World) (P : Program) (k : TypeId) (b n : Nat) (z : Value) (S : Lit → Value) (T : Lit → Bool) (c : Nat) : Prop :=
  ∃ D : DataW Value, w.ownsMap P k heldR b n D ∧ IsMap D ∧ Maps.size D = c ∧ ∀ l, D.atKey l (.held z) = .held (S l) ∧ Maps.has D l = T l
section
variable {w : World} {P : Program} {k : TypeId} {b n c : Nat} {z : Value} {S : Lit → Value} {T : Lit → Bool}
theorem ValMap.made (w : World) (P : Program) (k : TypeId) (z : Value) : ValMap (w.alloc (.map #[] 0)) P k w.heap.size 0 z (fun _ => z) (fun _ => false) 0 :=
  ⟨.map [], World.ownsMap_made w _ _ _, ⟨[], rfl⟩, rfl, fun l => ⟨rfl, rfl⟩⟩
theorem ValMap.look {t e : TypeId} (h : ValMap w P k b n z S T c) (K : Keyed P k) (ht : P.underlying t = some (.map k e)) (hz : (zeroValue e).run P w = .ok z w) {key : Value} {kl : Lit} (hkey : keyOf P k key = some kl) :
    (Instr.lookup t (.map (some b)) key false).run P w = .ok (S kl) w := by
  obtain ⟨D, hD, _, _, hS⟩ := h
  obtain ⟨v, ps, hrun, hv⟩ := hD.lookup K ht hz (rfl : heldR z = some (.held z, [])) hkey
  rw [(hS kl).1] at hv
  simp only [heldR, Option.some.injEq, Prod.mk.injEq, DataW.held.injEq] at hv
  rw [hrun, hv.1]
theorem ValMap.look_ok {t e : TypeId} (h : ValMap w P k b n z S T c) (K : Keyed P k) (ht : P.underlying t = some (.map k e)) (hz : (zeroValue e).run P w = .ok z w) {key : Value} {kl : Lit} (hkey : keyOf P k key = some kl) :
    (Instr.lookup t (.map (some b)) key true).run P w = .ok (.tuple #[S kl, .bool (T kl)]) w := by
  obtain ⟨D, hD, _, _, hS⟩ := h
  obtain ⟨v, ps, hrun, hv⟩ := hD.look_ok K ht hz (rfl : heldR z = some (.held z, [])) hkey
  rw [(hS kl).1] at hv
  simp only [heldR, Option.some.injEq, Prod.mk.injEq, DataW.held.injEq] at hv
  rw [hrun, hv.1, (hS kl).2]
open Classical in
theorem ValMap.put {t e : TypeId} (h : ValMap w P k b n z S T c) (K : Keyed P k) (ht : P.underlying t = some (.map k e)) (hn : n < maxLen) {key : Value} {kl : Lit} (hkey : keyOf P k key = some kl) (v : Value) :
    ∃ w', (Instr.mapUpdate t (.map (some b)) key v).run P w = .ok () w' ∧ ValMap w' P k b (n + 1) z (fun l => if l = kl then v else S l) (fun l => if l = kl then true else T l) (if T kl = true then c else c + 1) ∧ w.grownBy w' (some b) := by
  obtain ⟨D, hD, hM, hc, hS⟩ := h
  obtain ⟨w', hrun, h1, h2⟩ := hD.update K ht hn hkey (rfl : heldR v = some (.held v, []))
  refine ⟨w', hrun, ⟨_, h1, ?_, ?_, fun l => ?_⟩, h2⟩
  · obtain ⟨es, rfl⟩ := hM; exact ⟨_, rfl⟩
  · rw [size_put (hD.tidy K), hc, (hS kl).2]
  · by_cases e : l = kl
    · subst e
      rw [atKey_put_same hM (K.key hkey), has_put_same hM (K.key hkey)]
      simp
    · rw [atKey_put_other e, has_put_other e]
      simp only [if_neg e]
      exact hS l
theorem ValMap.kept {w' : World} (h : ValMap w P k b n z S T c) (hk : w'.heap[b]? = w.heap[b]?) : ValMap w' P k b n z S T c := by
  obtain ⟨D, ⟨es, clock, hb, F, hs, hD⟩, hM, hS⟩ := h
  exact ⟨D, ⟨es, clock, hk.trans hb, F, hs, hD⟩, hM, hS⟩
theorem ValMap.lt (h : ValMap w P k b n z S T c) : b < w.heap.size := by
  obtain ⟨D, hD, _⟩ := h; exact hD.lt
theorem ValMap.len {t e : TypeId} (h : ValMap w P k b n z S T c) (ht : P.underlying t = some (.map k e)) (ty : TypeId) : (Builtin.len_ #[t] ty #[.map (some b)]).run P w = .ok (.int .i64 c) w := by
  obtain ⟨D, hD, _, rfl, _⟩ := h
  exact hD.len ht ty
end
end Go.Proofs.YtphpablchlpagaaDoor
namespace Go.Proofs.YtphpablchlpagaaDoor
open Go.RowKit Go.Shelf Go.Maps Go.WideAt Go.WideMaps Go.WideElems
theorem arrPair : ArrKey Tryd.prog 75 3 2 := ⟨Tryd.underlying75, by kernel_rfl, by kernel_rfl, by kernel_rfl⟩
theorem lawPair : KeyLaw Tryd.prog 75 := arrPair.law
theorem keyPair : Keyed Tryd.prog 75 := Keyed.of_law lawPair
/-- A pair as a key. -/
def keyL (p q : Nat) : Lit := .string (keyBytes [.int .i64 p, .int .i64 q])
theorem keyOf_PV (p q : Nat) (hp : p < 1000000) (hq : q < 1000000) : keyOf Tryd.prog 75 (.agg #[.int .i64 p, .int .i64 q]) = some (keyL p q) :=
  keyOf_pair arrPair Tryd.underlying3 ⟨Tryd.prog.types.size - 1, by kernel_rfl⟩ (WalkArith.wf_i64 (by omega)) (WalkArith.wf_i64 (by omega))
theorem keyL_inj {p q p' q' : Nat} (hp : p < 1000000) (hq : q < 1000000) (hp' : p' < 1000000) (hq' : q' < 1000000) (h : keyL p q = keyL p' q') : p = p' ∧ q = q' := by
  have h1 := keyOf_PV p q hp hq
  rw [h] at h1
  have := keyPair.inj h1 (keyOf_PV p' q' hp' hq')
  simp only [Value.agg.injEq, Array.mk.injEq, List.cons.injEq, Value.int.injEq, and_true, true_and] at this
  omega
theorem zeroPairs (w : World) : (zeroValue 93).run Tryd.prog w = .ok (.slice none 0 0) w := by kernel_rfl
theorem zeroInt (w : World) : (zeroValue 3).run Tryd.prog w = .ok (.int .i64 0) w := by kernel_rfl
open Classical in
/-- The entry at a key, and the store that belongs to it. -/
theorem ValMap.entry {w : World} {P : Program} {k t e : TypeId} {b n c : Nat} {z : Value} {S : Lit → Value} {T : Lit → Bool} (h : ValMap w P k b n z S T c) (K : KeyLaw P k) (ht : P.underlying t = some (.map k e)) (hz : ∀ u : World, (zeroValue e).run P u = .ok z u) (hn : n < maxLen) {key : Value} {kl : Lit} (hkey : keyOf P k key = some kl) :
    ∃ st w1, (Instr.mapEntry t (.map (some b)) key).run P w = .ok (.tuple #[S kl, goInt st]) w1 ∧ w.grownBy w1 (some b) ∧ w1.heap.size = w.heap.size ∧
      ∀ (w2 : World) (v : Value), w2.heap[b]? = w1.heap[b]? → ∃ w3 c', (Instr.entryStore t (.map (some b)) (goInt st) v).run P w2 = .ok () w3 ∧ ValMap w3 P k b (n + 1) z (fun l => if l = kl then v else S l) (fun l => if l = kl then true else T l) c' ∧ w2.grownBy w3 (some b) := by
  have h0 := h
  obtain ⟨D, ⟨es, clock, hb, F, hs, rfl⟩, hM, hc, hS⟩ := h
  obtain ⟨v0, st, es1, clock1, hrun, hv0, hback⟩ := entry_then_store K ht hz hb F hkey
  have hv : v0 = S kl := by
    have hs1 := (hS kl).1
    rcases hv0 with ⟨e0, hm0, h3, rfl⟩ | ⟨hno, rfl⟩
    · have := atKey_some K F hkey hm0 h3 (rfl : heldR e0.val = some (.held e0.val, [])) (.held z)
      rw [this] at hs1
      simpa using hs1
    · have := atKey_none K F hkey hno (.held v0)
      rw [this] at hs1
      simpa using hs1
  subst hv
  refine ⟨st, _, hrun, ⟨rfl, rfl, rfl, by simp [Go.ChangeMaps.setBlock], fun i _ hi => Go.ChangeMaps.heap_setBlock_other hb _ (fun e => hi (by rw [e]))⟩, by simp [Go.ChangeMaps.setBlock], fun w2 v hw2 => ?_⟩
  have hb1 : (Go.ChangeMaps.setBlock w b (.map es1 clock1)).heap[b]? = some (.map es1 clock1) := Go.ChangeMaps.heap_setBlock_same hb _
  obtain ⟨es', clock', hr2, hr3⟩ := hback w2 v (hw2.trans hb1)
  obtain ⟨w', hp1, hp2, hp3⟩ := h0.put (Keyed.of_law K) ht hn hkey v
  rw [hr3] at hp1
  simp only [Result.ok.injEq, true_and] at hp1
  subst hp1
  have hb2 := hw2.trans hb1
  refine ⟨_, _, hr2, hp2.kept ?_, ⟨rfl, rfl, rfl, by simp [Go.ChangeMaps.setBlock], fun i _ hi => Go.ChangeMaps.heap_setBlock_other hb2 _ (fun e => hi (by rw [e]))⟩⟩
  rw [Go.ChangeMaps.heap_setBlock_same hb2, Go.ChangeMaps.heap_setBlock_same hb]
/-- A map of the call's own whose keys are pairs: V: what they hold (z where there is nothing), T: which are there, c: how many. -/
def PMap (w : World) (b n : Nat) (z : Value) (V : Nat → Nat → Value) (T : Nat → Nat → Bool) (c : Nat) : Prop :=
  ∃ S T', ValMap w Tryd.prog 75 b n z S T' c ∧ ∀ p q, p < 1000000 → q < 1000000 → S (keyL p q) = V p q ∧ T' (keyL p q) = T p q
section
variable {w : World} {b n c : Nat} {z : Value} {V : Nat → Nat → Value} {T : Nat → Nat → Bool}
theorem PMap.made (w : World) (z : Value) : PMap (w.alloc (.map #[] 0)) w.heap.size 0 z (fun _ _ => z) (fun _ _ => false) 0 :=
  ⟨_, _, ValMap.made w _ _ z, fun _ _ _ _ => ⟨rfl, rfl⟩⟩
theorem PMap.kept {w' : World} (h : PMap w b n z V T c) (hk : w'.heap[b]? = w.heap[b]?) : PMap w' b n z V T c := by
  obtain ⟨S, T', h1, h2⟩ := h
  exact ⟨S, T', h1.kept hk, h2⟩
theorem PMap.lt (h : PMap w b n z V T c) : b < w.heap.size := by
  obtain ⟨S, T', h1, h2⟩ := h; exact h1.lt
theorem PMap.below {w' : World} (h : PMap w b n z V T c) (hb : Below w.heap.size w w') : PMap w' b n z V T c := h.kept (hb.block b h.lt)
theorem PMap.congr {V' : Nat → Nat → Value} {T' : Nat → Nat → Bool} (h : PMap w b n z V T c) (h2 : ∀ p q, p < 1000000 → q < 1000000 → V p q = V' p q ∧ T p q = T' p q) : PMap w b n z V' T' c := by
  obtain ⟨S, T0, h1, h3⟩ := h
  exact ⟨S, T0, h1, fun p q hp hq => ⟨(h3 p q hp hq).1.trans (h2 p q hp hq).1, (h3 p q hp hq).2.trans (h2 p q hp hq).2⟩⟩
theorem PMap.look {t e : TypeId} (h : PMap w b n z V T c) (ht : Tryd.prog.underlying t = some (.map 75 e)) (hz : (zeroValue e).run Tryd.prog w = .ok z w) {p q : Nat} (hp : p < 1000000) (hq : q < 1000000) :
    (Instr.lookup t (.map (some b)) (.agg #[.int .i64 p, .int .i64 q]) false).run Tryd.prog w = .ok (V p q) w := by
  obtain ⟨S, T', h1, h2⟩ := h
  rw [h1.look keyPair ht hz (keyOf_PV p q hp hq), (h2 p q hp hq).1]
theorem PMap.look_ok {t e : TypeId} (h : PMap w b n z V T c) (ht : Tryd.prog.underlying t = some (.map 75 e)) (hz : (zeroValue e).run Tryd.prog w = .ok z w) {p q : Nat} (hp : p < 1000000) (hq : q < 1000000) :
    (Instr.lookup t (.map (some b)) (.agg #[.int .i64 p, .int .i64 q]) true).run Tryd.prog w = .ok (.tuple #[V p q, .bool (T p q)]) w := by
  obtain ⟨S, T', h1, h2⟩ := h
  rw [h1.look_ok keyPair ht hz (keyOf_PV p q hp hq), (h2 p q hp hq).1, (h2 p q hp hq).2]
theorem PMap.len {t e : TypeId} (h : PMap w b n z V T c) (ht : Tryd.prog.underlying t = some (.map 75 e)) (ty : TypeId) : (Builtin.len_ #[t] ty #[.map (some b)]).run Tryd.prog w = .ok (.int .i64 c) w := by
  obtain ⟨S, T', h1, h2⟩ := h
  exact h1.len ht ty
open Classical in
theorem keyL_upd {α : Type} {S : Lit → α} {V : Nat → Nat → α} {p q : Nat} (hp : p < 1000000) (hq : q < 1000000) (v : α) (h : ∀ a b, a < 1000000 → b < 1000000 → S (keyL a b) = V a b) {a b : Nat} (ha : a < 1000000) (hb : b < 1000000) :
    (if keyL a b = keyL p q then v else S (keyL a b)) = if a = p ∧ b = q then v else V a b := by
  by_cases e : a = p ∧ b = q
  · rw [if_pos e, if_pos (by rw [e.1, e.2])]
  · rw [if_neg e, if_neg (fun h => e (keyL_inj ha hb hp hq h))]
    exact h a b ha hb
theorem PMap.put {t e : TypeId} (h : PMap w b n z V T c) (ht : Tryd.prog.underlying t = some (.map 75 e)) (hn : n < maxLen) {p q : Nat} (hp : p < 1000000) (hq : q < 1000000) (v : Value) :
    ∃ w', (Instr.mapUpdate t (.map (some b)) (.agg #[.int .i64 p, .int .i64 q]) v).run Tryd.prog w = .ok () w' ∧ PMap w' b (n + 1) z (fun a d => if a = p ∧ d = q then v else V a d) (fun a d => if a = p ∧ d = q then true else T a d) (if T p q = true then c else c + 1) ∧ w.grownBy w' (some b) := by
  obtain ⟨S, T', h1, h2⟩ := h
  obtain ⟨w', g1, g2, g3⟩ := h1.put keyPair ht hn (keyOf_PV p q hp hq) v
  rw [(h2 p q hp hq).2] at g2
  exact ⟨w', g1, ⟨_, _, g2, fun a d ha hd => ⟨keyL_upd hp hq v (fun a b ha hb => (h2 a b ha hb).1) ha hd, keyL_upd hp hq true (fun a b ha hb => (h2 a b ha hb).2) ha hd⟩⟩, g3⟩
theorem PMap.entry {t e : TypeId} (h : PMap w b n z V T c) (ht : Tryd.prog.underlying t = some (.map 75 e)) (hz : ∀ u : World, (zeroValue e).run Tryd.prog u = .ok z u) (hn : n < maxLen) {p q : Nat} (hp : p < 1000000) (hq : q < 1000000) :
    ∃ st w1, (Instr.mapEntry t (.map (some b)) (.agg #[.int .i64 p, .int .i64 q])).run Tryd.prog w = .ok (.tuple #[V p q, goInt st]) w1 ∧ w.grownBy w1 (some b) ∧ w1.heap.size = w.heap.size ∧
      ∀ (w2 : World) (v : Value), w2.heap[b]? = w1.heap[b]? → ∃ w3 c', (Instr.entryStore t (.map (some b)) (goInt st) v).run Tryd.prog w2 = .ok () w3 ∧
        PMap w3 b (n + 1) z (fun a d => if a = p ∧ d = q then v else V a d) (fun a d => if a = p ∧ d = q then true else T a d) c' ∧ w2.grownBy w3 (some b) := by
  obtain ⟨S, T', h1, h2⟩ := h
  obtain ⟨st, w1, g1, g2, g3, g4⟩ := h1.entry lawPair ht hz hn (keyOf_PV p q hp hq)
  rw [(h2 p q hp hq).1] at g1
  refine ⟨st, w1, g1, g2, g3, fun w2 v hw2 => ?_⟩
  obtain ⟨w3, c', k1, k2, k3⟩ := g4 w2 v hw2
  exact ⟨w3, c', k1, ⟨_, _, k2, fun a d ha hd => ⟨keyL_upd hp hq v (fun a b ha hb => (h2 a b ha hb).1) ha hd, keyL_upd hp hq true (fun a b ha hb => (h2 a b ha hb).2) ha hd⟩⟩, k3⟩
end
/-- The cells of a list of pairs. -/
def pairCells (L : List (Nat × Nat)) : List Value := L.flatMap fun e => [.int .i64 (e.1 : Nat), .int .i64 (e.2 : Nat)]
theorem pairCells_snoc (L : List (Nat × Nat)) (p q : Nat) : pairCells (L ++ [(p, q)]) = pairCells L ++ [.int .i64 p, .int .i64 q] := by
  unfold pairCells
  rw [List.flatMap_append]
  simp
theorem pairCells_get : ∀ (L : List (Nat × Nat)) (i : Nat) (e : Nat × Nat), L[i]? = some e → (pairCells L)[i * 2]? = some (.int .i64 (e.1 : Nat)) ∧ (pairCells L)[i * 2 + 1]? = some (.int .i64 (e.2 : Nat))
  | [], i, e, h => by simp at h
  | f :: L, 0, e, h => by
    simp at h
    subst h
    exact ⟨rfl, rfl⟩
  | f :: L, i + 1, e, h => by
    have := pairCells_get L i e (by simpa using h)
    unfold pairCells at this ⊢
    rw [List.flatMap_cons, show (i + 1) * 2 = i * 2 + 1 + 1 by omega]
    exact this
/-- A slice of pairs of the call's own. -/
def PRow (w : World) (n₀ : Nat) (v : Value) (L : List (Nat × Nat)) : Prop := w.ownsRow n₀ 75 2 v L.length (pairCells L)
theorem PRow.cell {w : World} {n₀ g cap l : Nat} {L : List (Nat × Nat)} (h : PRow w n₀ (.slice (some ⟨g, 0, none⟩) l cap) L) {i : Nat} {e : Nat × Nat} (he : L[i]? = some e) :
    w.cell? ⟨g, i * 2, none⟩ = some (.int .i64 (e.1 : Nat)) ∧ w.cell? ⟨g, i * 2 + 1, none⟩ = some (.int .i64 (e.2 : Nat)) := by
  obtain ⟨h1, h2⟩ := pairCells_get L i e he
  have k := World.ownsRow.cells h (g := g) rfl
  have a1 := k _ _ h1
  have a2 := k _ _ h2
  simp only [Addr.add] at a1 a2
  refine ⟨?_, ?_⟩
  · by_cases e : i * 2 = 0
    · rw [e] at a1 ⊢; simpa using a1
    · simpa [e] using a1
  · simpa using a2
/-- The slices of pairs, one for each key, each in a block of its own. -/
structure Grp (w : World) (n₀ b N : Nat) (V : Nat → Nat → Value) (L : Nat → Nat → List (Nat × Nat)) : Prop where
  map : ∃ T c, PMap w b N (.slice none 0 0) V T c
  rows : ∀ i j, PRow w n₀ (V i j) (L i j)
  apart : ∀ i j i' j' k, (V i j).ownBlock = some k → (V i' j').ownBlock = some k → i = i' ∧ j = j'
  off : ∀ i j, (V i j).ownBlock ≠ some b
theorem Grp.made (w : World) (n₀ : Nat) : Grp (w.alloc (.map #[] 0)) n₀ w.heap.size 0 (fun _ _ => .slice none 0 0) (fun _ _ => []) :=
  ⟨⟨_, _, PMap.made w _⟩, fun _ _ => World.ownsRow_nil _ _ _ _, fun _ _ _ _ _ h => by simp [Value.ownBlock] at h, fun _ _ h => by simp [Value.ownBlock] at h⟩
theorem Grp.below {w w' : World} {n₀ b N : Nat} {V : Nat → Nat → Value} {L : Nat → Nat → List (Nat × Nat)} (h : Grp w n₀ b N V L) (hb : Below w.heap.size w w') : Grp w' n₀ b N V L := by
  obtain ⟨T, c, hm⟩ := h.map
  exact ⟨⟨T, c, hm.below hb⟩, fun i j => ownsRow_same (h.rows i j) fun g hg => hb.block g ((h.rows i j).lt g hg).2, h.apart, h.off⟩
end Go.Proofs.YtphpablchlpagaaDoor
namespace Go.Proofs.YtphpablchlpagaaDoor
open Go.RowKit Go.Shelf
/-- All pairs of states, the first not greater. -/
def allPairs (n : Nat) : List (Nat × Nat) := (List.range n).flatMap fun q => (List.range (q + 1)).map fun p => (p, q)
theorem allPairs_mem {n : Nat} {k : Nat × Nat} : k ∈ allPairs n ↔ k.1 ≤ k.2 ∧ k.2 < n := by
  unfold allPairs
  simp only [List.mem_flatMap, List.mem_map, List.mem_range]
  constructor
  · rintro ⟨q, hq, p, hp, rfl⟩; exact ⟨by simp only; omega, hq⟩
  · rintro ⟨h1, h2⟩; exact ⟨k.2, h2, k.1, by omega, rfl⟩
theorem allPairs_succ (n : Nat) : allPairs (n + 1) = allPairs n ++ (List.range (n + 1)).map fun p => (p, n) := by
  unfold allPairs
  rw [List.range_succ, List.flatMap_append]
  simp [List.range_succ]
theorem allPairs_len : ∀ n, 2 * (allPairs n).length = n * (n + 1)
  | 0 => rfl
  | n + 1 => by
    rw [allPairs_succ, List.length_append, List.length_map, List.length_range, Nat.mul_add, allPairs_len n]
    grind
theorem allPairs_nodup : ∀ n, (allPairs n).Nodup
  | 0 => by simp [allPairs]
  | n + 1 => by
    rw [allPairs_succ, List.nodup_append]
    refine ⟨allPairs_nodup n, ?_, ?_⟩
    · unfold List.Nodup
      rw [List.pairwise_map]
      refine List.Pairwise.imp (fun {a b} hlt e => ?_) List.pairwise_lt_range
      have := congrArg Prod.fst e
      simp only at this
      omega
    · rintro a ha b hb rfl
      have h1 := allPairs_mem.1 ha
      obtain ⟨p, _, rfl⟩ := List.mem_map.1 hb
      exact absurd h1.2 (Nat.lt_irrefl _)
theorem nodup_sub {K : Type} [DecidableEq K] : ∀ {A B : List K}, A.Nodup → (∀ x ∈ A, x ∈ B) → A.length ≤ B.length
  | [], _, _, _ => Nat.zero_le _
  | x :: A, B, hA, h => by
    have hx := h x (by simp)
    have h1 := List.nodup_cons.1 hA
    have := nodup_sub (B := B.erase x) h1.2 fun y hy => (List.mem_erase_of_ne fun e => by subst e; exact h1.1 hy).2 (h y (by simp [hy]))
    rw [List.length_erase_of_mem hx] at this
    have := List.length_pos_of_mem hx
    simp only [List.length_cons]
    omega
/-- The search has found n(n + 1)/2 pairs if and only if each pair is merged. -/
theorem MB.count {m : List (List Int)} {F : List (Nat × Nat × Nat)} (hv : validM m = true) (h : MB m F F.length) : m.length * (m.length + 1) ≤ 2 * F.length ↔ ∀ p q, p < q → q < m.length → ∃ k, mergeP m p q k := by
  have hF : F.length = (F.map fun e => (e.1, e.2.1)).length := by simp
  have hsub : ∀ x ∈ (F.map fun e => (e.1, e.2.1)), x ∈ allPairs m.length := fun x hx => by
    obtain ⟨e, he, rfl⟩ := List.mem_map.1 hx
    exact allPairs_mem.2 ⟨(h.ok e he).1, (h.ok e he).2.1⟩
  have hl := allPairs_len m.length
  constructor
  · intro hc p q hpq hq
    apply Classical.byContradiction
    intro hno
    have hni : (p, q) ∉ (F.map fun e => (e.1, e.2.1)) := fun hm => by
      obtain ⟨e, he, hee⟩ := List.mem_map.1 hm
      simp only [Prod.mk.injEq] at hee
      have := (h.ok e he).2.2.1
      rw [hee.1, hee.2] at this
      exact hno ⟨_, this⟩
    have hle := nodup_sub (A := (p, q) :: (F.map fun e => (e.1, e.2.1))) (B := allPairs m.length) (List.nodup_cons.2 ⟨hni, h.uniq⟩) (fun x hx => by
      rcases List.mem_cons.1 hx with rfl | hx
      · exact allPairs_mem.2 ⟨by simp only; omega, hq⟩
      · exact hsub x hx)
    rw [List.length_cons, ← hF] at hle
    omega
  · intro hall
    have hle := nodup_sub (A := allPairs m.length) (B := (F.map fun e => (e.1, e.2.1))) (allPairs_nodup _) (fun x hx => by
      have hx' := allPairs_mem.1 hx
      rcases Nat.lt_or_ge x.1 x.2 with hlt | hge
      · obtain ⟨k, hk⟩ := hall x.1 x.2 hlt hx'.2
        obtain ⟨j, _, hd⟩ := mdist_some hk
        exact List.mem_map.2 ⟨_, h.all hv hx'.1 hx'.2 hd, rfl⟩
      · exact List.mem_map.2 ⟨_, h.diag x.1 (by omega), by simp only; exact Prod.ext rfl (by simp only; omega)⟩)
    rw [← hF] at hle
    omega
end Go.Proofs.YtphpablchlpagaaDoor
namespace Go.Proofs.YtphpablchlpagaaDoor
open Go.RowKit Go.Shelf
/-- Behind an entry, an append to its slice and the store of what came. -/
theorem Grp.step {W W1 w' w3 : World} {n₀ b N i j p q c' : Nat} {V : Nat → Nat → Value} {L : Nat → Nat → List (Nat × Nat)} {T : Nat → Nat → Bool} {v' : Value} (h : Grp W n₀ b N V L) (h1 : W.grownBy W1 (some b)) (hs1 : W1.heap.size = W.heap.size)
    (ho : w'.ownsRow n₀ 75 2 v' ((L i j).length + 1) (pairCells (L i j) ++ [.int .i64 p, .int .i64 q])) (h2 : W1.grownBy w' (V i j).ownBlock) (hat : v'.ownBlock = (V i j).ownBlock ∨ v'.ownBlock = some W1.heap.size)
    (hm : PMap w3 b (N + 1) (.slice none 0 0) (fun a d => if a = i ∧ d = j then v' else V a d) T c') (h3 : w'.grownBy w3 (some b)) :
    Grp w3 n₀ b (N + 1) (fun a d => if a = i ∧ d = j then v' else V a d) (fun a d => if a = i ∧ d = j then L i j ++ [(p, q)] else L a d) := by
  obtain ⟨T0, c0, hm0⟩ := h.map
  have hbl := hm0.lt
  have hvb : v'.ownBlock ≠ some b := by
    rcases hat with e | e
    · rw [e]; exact h.off i j
    · rw [e]; intro e2; simp at e2; omega
  have hold : ∀ a d k, (V a d).ownBlock = some k → k < W.heap.size := fun a d k hk => ((h.rows a d).lt k hk).2
  refine ⟨⟨_, _, hm⟩, fun a d => ?_, fun a d a' d' k e1 e2 => ?_, fun a d => ?_⟩
  · by_cases e : a = i ∧ d = j
    · simp only [if_pos e]
      unfold PRow
      rw [List.length_append, pairCells_snoc]
      exact ho.kept h3 (.inr hvb)
    · simp only [if_neg e]
      refine ownsRow_same (h.rows a d) fun g hg => ?_
      have hgl := hold a d g hg
      have hgb : g ≠ b := fun e2 => h.off a d (e2 ▸ hg)
      have hgv : some g ≠ (V i j).ownBlock := fun e2 => e (h.apart a d i j g hg e2.symm)
      have z1 := h1.block g hgl (by simpa using hgb)
      have z2 := h2.block g (by omega) hgv
      have z3 := h3.block g (Nat.lt_of_lt_of_le (by omega) h2.size) (by simpa using hgb)
      exact z3.trans (z2.trans z1)
  · by_cases x1 : a = i ∧ d = j <;> by_cases x2 : a' = i ∧ d' = j
    · exact ⟨x1.1.trans x2.1.symm, x1.2.trans x2.2.symm⟩
    · simp only [if_pos x1, if_neg x2] at e1 e2
      rcases hat with e | e
      · rw [e] at e1
        obtain ⟨y1, y2⟩ := h.apart _ _ _ _ _ e1 e2
        exact absurd ⟨y1.symm, y2.symm⟩ x2
      · rw [e] at e1
        have := hold _ _ _ e2
        simp at e1
        omega
    · simp only [if_neg x1, if_pos x2] at e1 e2
      rcases hat with e | e
      · rw [e] at e2
        obtain ⟨y1, y2⟩ := h.apart _ _ _ _ _ e1 e2
        exact absurd ⟨y1, y2⟩ x1
      · rw [e] at e2
        have := hold _ _ _ e1
        simp at e2
        omega
    · simp only [if_neg x1, if_neg x2] at e1 e2
      exact h.apart _ _ _ _ _ e1 e2
  · by_cases e : a = i ∧ d = j
    · simp only [if_pos e]; exact hvb
    · simp only [if_neg e]; exact h.off a d
/-- .. and the rest lies as it lay. -/
theorem Grp.turned {w W W1 w' w3 : World} {n₀ b N i j : Nat} {V : Nat → Nat → Value} {L : Nat → Nat → List (Nat × Nat)} (h : Grp W n₀ b N V L) (hn : n₀ = w.heap.size + 1) (hb : w.heap.size < b) (hB : Below w.heap.size w W) (h1 : W.grownBy W1 (some b)) (h2 : W1.grownBy w' (V i j).ownBlock) (h3 : w'.grownBy w3 (some b)) :
    Below w.heap.size w w3 ∧ w3.heap.size ≥ W.heap.size ∧ ∀ u, W.cell? ⟨w.heap.size, 0, none⟩ = some u → w3.cell? ⟨w.heap.size, 0, none⟩ = some u := by
  have hlt := fun k hk => ((h.rows i j).lt k hk).1
  have s1 := h1.size
  have s2 := h2.size
  have s3 := h3.size
  have s0 := hB.size
  refine ⟨((hB.grown h1 (by omega) (fun q hq => by cases hq; omega)).grown h2 (by omega) (fun q hq => by have := hlt q hq; omega)).grown h3 (by omega) (fun q hq => by cases hq; omega), by omega, fun u hu => ?_⟩
  refine h3.cell (h2.cell (h1.cell hu ?_) (fun e => ?_)) ?_
  · simp; omega
  · have := hlt _ e.symm; simp at this; omega
  · simp; omega
/-- The pair (p', q') with the letter x' was looked at before (p, q) with x. -/
def doneL (m : List (List Int)) (p q x p' q' x' : Nat) : Prop := p' < q' ∧ q' < m.length ∧ x' < letters m ∧ (p' < p ∨ (p' = p ∧ (q' < q ∨ (q' = q ∧ x' < x))))
def LB (m : List (List Int)) (p q x : Nat) (L : Nat → Nat → List (Nat × Nat)) : Prop :=
  ∀ i j e, e ∈ L i j ↔ ∃ x', doneL m p q x e.1 e.2 x' ∧ canon (nx m e.1 (x' : Int)) (nx m e.2 (x' : Int)) = (i, j)
theorem LB.start (m : List (List Int)) : LB m 0 1 0 (fun _ _ => []) := fun i j e => by
  simp only [List.not_mem_nil, false_iff]
  rintro ⟨x', ⟨h1, _, _, h2⟩, _⟩
  omega
theorem LB.same {m : List (List Int)} {p q x p2 q2 x2 : Nat} {L : Nat → Nat → List (Nat × Nat)} (h : LB m p q x L) (hd : ∀ p' q' x', doneL m p q x p' q' x' ↔ doneL m p2 q2 x2 p' q' x') : LB m p2 q2 x2 L := fun i j e => by
  rw [h i j e]
  exact exists_congr fun x' => and_congr_left fun _ => hd _ _ _
theorem LB.nextq {m : List (List Int)} {p q : Nat} {L : Nat → Nat → List (Nat × Nat)} (h : LB m p q (letters m) L) : LB m p (q + 1) 0 L := h.same fun p' q' x' => by unfold doneL; omega
theorem LB.nextp {m : List (List Int)} {p : Nat} {L : Nat → Nat → List (Nat × Nat)} (h : LB m p m.length 0 L) : LB m (p + 1) (p + 1 + 1) 0 L := h.same fun p' q' x' => by unfold doneL; omega
theorem LB.add {m : List (List Int)} {p q x i j : Nat} {L : Nat → Nat → List (Nat × Nat)} (h : LB m p q x L) (hpq : p < q) (hq : q < m.length) (hx : x < letters m) (hc : canon (nx m p (x : Int)) (nx m q (x : Int)) = (i, j)) :
    LB m p q (x + 1) (fun a d => if a = i ∧ d = j then L i j ++ [(p, q)] else L a d) := fun a d e => by
  have hsplit : (∃ x', doneL m p q (x + 1) e.1 e.2 x' ∧ canon (nx m e.1 (x' : Int)) (nx m e.2 (x' : Int)) = (a, d)) ↔ (e ∈ L a d ∨ (e = (p, q) ∧ (i, j) = (a, d))) := by
    rw [h a d e]
    constructor
    · rintro ⟨x', h1, h2⟩
      by_cases e1 : e.1 = p ∧ e.2 = q ∧ x' = x
      · obtain ⟨e2, e3, rfl⟩ := e1
        rw [e2, e3, hc] at h2
        exact .inr ⟨Prod.ext e2 e3, h2⟩
      · exact .inl ⟨x', by unfold doneL at h1 ⊢; omega, h2⟩
    · rintro (⟨x', h1, h2⟩ | ⟨rfl, h2⟩)
      · exact ⟨x', by unfold doneL at h1 ⊢; omega, h2⟩
      · exact ⟨x, ⟨hpq, hq, hx, .inr ⟨rfl, .inr ⟨rfl, Nat.lt_succ_self _⟩⟩⟩, by simp only; rw [hc, h2]⟩
  rw [hsplit]
  by_cases e1 : a = i ∧ d = j
  · simp only [if_pos e1]
    obtain ⟨rfl, rfl⟩ := e1
    simp
  · simp only [if_neg e1, Prod.mk.injEq]
    constructor
    · exact .inl
    · rintro (h | ⟨_, h1, h2⟩)
      · exact h
      · exact absurd ⟨h1.symm, h2.symm⟩ e1
theorem LB.done {m : List (List Int)} {q : Nat} {L : Nat → Nat → List (Nat × Nat)} (h : LB m m.length q 0 L) (i j : Nat) (e : Nat × Nat) : e ∈ L i j ↔ e.1 < e.2 ∧ e.2 < m.length ∧ ∃ x', x' < letters m ∧ canon (nx m e.1 (x' : Int)) (nx m e.2 (x' : Int)) = (i, j) := by
  rw [h i j e]
  constructor
  · rintro ⟨x', ⟨a1, a2, a3, a4⟩, h2⟩
    exact ⟨a1, a2, x', a3, h2⟩
  · rintro ⟨a1, a2, x', a3, h2⟩
    exact ⟨x', ⟨a1, a2, a3, by omega⟩, h2⟩
/-- No list is longer than the number of rounds. -/
theorem upd_len {L : Nat → Nat → List (Nat × Nat)} {N i j : Nat} {e : Nat × Nat} (h : ∀ a d, (L a d).length ≤ N) : ∀ a d, (if a = i ∧ d = j then L i j ++ [e] else L a d).length ≤ N + 1 := fun a d => by
  by_cases e1 : a = i ∧ d = j
  · rw [if_pos e1, List.length_append]; have := h i j; simp; omega
  · rw [if_neg e1]; have := h a d; omega
/-- The length that was found for a pair (0: none), and whether one was. -/
def lenIn (F : List (Nat × Nat × Nat)) (p q : Nat) : Nat := match F.find? (fun e => e.1 == p && e.2.1 == q) with
  | some e => e.2.2
  | none => 0
def inF (F : List (Nat × Nat × Nat)) (p q : Nat) : Bool := F.any fun e => e.1 == p && e.2.1 == q
theorem inF_iff {F : List (Nat × Nat × Nat)} {p q : Nat} : inF F p q = true ↔ ∃ l, (p, q, l) ∈ F := by
  unfold inF
  rw [List.any_eq_true]
  constructor
  · rintro ⟨e, he, h⟩
    simp only [Bool.and_eq_true, beq_iff_eq] at h
    exact ⟨e.2.2, by rw [← h.1, ← h.2]; exact he⟩
  · rintro ⟨l, h⟩
    exact ⟨_, h, by simp⟩
theorem inF_false {F : List (Nat × Nat × Nat)} {p q : Nat} (h : inF F p q = false) (l : Nat) : (p, q, l) ∉ F := fun hm => by
  rw [inF_iff.2 ⟨l, hm⟩] at h
  cases h
theorem lenIn_snoc {F : List (Nat × Nat × Nat)} {p q l : Nat} (h : inF F p q = false) (a d : Nat) : lenIn (F ++ [(p, q, l)]) a d = if a = p ∧ d = q then l else lenIn F a d := by
  unfold lenIn
  rw [List.find?_append]
  by_cases e : a = p ∧ d = q
  · obtain ⟨rfl, rfl⟩ := e
    have : F.find? (fun e => e.1 == a && e.2.1 == d) = none := by
      rw [List.find?_eq_none]
      intro x hx
      unfold inF at h
      simpa using List.any_eq_false.1 h x hx
    rw [this]
    simp
  · rw [if_neg e]
    cases hf : F.find? (fun e => e.1 == a && e.2.1 == d) with
    | some x => simp
    | none =>
      have : ((p == a) && (q == d)) = false := by
        rw [Bool.eq_false_iff]
        simp
        intro h1 h2
        exact e ⟨h1.symm, h2.symm⟩
      simp [this]
theorem inF_snoc (F : List (Nat × Nat × Nat)) (p q l : Nat) (a d : Nat) : inF (F ++ [(p, q, l)]) a d = if a = p ∧ d = q then true else inF F a d := by
  unfold inF
  rw [List.any_append]
  by_cases e : a = p ∧ d = q
  · obtain ⟨rfl, rfl⟩ := e
    simp
  · rw [if_neg e]
    have : ((p == a) && (q == d)) = false := by
      rw [Bool.eq_false_iff]
      simp
      intro h1 h2
      exact e ⟨h1.symm, h2.symm⟩
    simp [this]
theorem lenIn_mem {m : List (List Int)} {F : List (Nat × Nat × Nat)} {i : Nat} (h : MB m F i) {p q l : Nat} (hm : (p, q, l) ∈ F) : lenIn F p q = l := by
  unfold lenIn
  cases hf : F.find? (fun e => e.1 == p && e.2.1 == q) with
  | none =>
    have := List.find?_eq_none.1 hf _ hm
    simp at this
  | some e =>
    have h1 := List.find?_some hf
    have h2 := List.mem_of_find?_eq_some hf
    simp only [Bool.and_eq_true, beq_iff_eq] at h1
    have a1 := (h.ok _ h2).2.2
    rw [h1.1, h1.2] at a1
    exact mdist_unique a1 (h.ok _ hm).2.2
/-- The program's map of lengths. -/
def LMap (w : World) (B : Nat) (F : List (Nat × Nat × Nat)) : Prop := PMap w B F.length (.int .i64 0) (fun p q => .int .i64 (lenIn F p q : Nat)) (inF F) F.length
theorem LMap.made (w : World) : LMap (w.alloc (.map #[] 0)) w.heap.size [] := (PMap.made w (.int .i64 0)).congr fun p q _ _ => ⟨rfl, rfl⟩
theorem LMap.put {w : World} {B : Nat} {F : List (Nat × Nat × Nat)} (h : LMap w B F) (hn : F.length < 1000000) {p q : Nat} (hp : p < 1000000) (hq : q < 1000000) (l : Nat) (hno : inF F p q = false) :
    ∃ w', (Instr.mapUpdate 69 (.map (some B)) (.agg #[.int .i64 p, .int .i64 q]) (.int .i64 l)).run Tryd.prog w = .ok () w' ∧ LMap w' B (F ++ [(p, q, l)]) ∧ w.grownBy w' (some B) := by
  obtain ⟨w', h1, h2, h3⟩ := PMap.put h Tryd.underlying69 (by unfold maxLen; omega) hp hq (.int .i64 l)
  refine ⟨w', h1, ?_, h3⟩
  rw [hno] at h2
  unfold LMap
  rw [List.length_append, List.length_singleton]
  refine PMap.congr (by simpa using h2) fun a d _ _ => ⟨?_, (inF_snoc F p q l a d).symm⟩
  simp only [lenIn_snoc hno]
  split <;> rfl
theorem inF_diag (s : Nat) : inF (diag0 s) s s = false := by
  unfold inF diag0
  rw [List.any_eq_false]
  intro e he
  obtain ⟨t, ht, rfl⟩ := List.mem_map.1 he
  have := List.mem_range.1 ht
  simp
  omega
theorem diag0_succ (s : Nat) : diag0 (s + 1) = diag0 s ++ [(s, s, 0)] := by unfold diag0; rw [List.range_succ, List.map_append]; rfl
theorem diag0_len (s : Nat) : (diag0 s).length = s := by simp [diag0]
/-- The length of a shortest word that merges two states; 0: there is none. -/
def len0 (m : List (List Int)) (p q : Nat) : Int := if 0 ≤ mlen m p q then mlen m p q else 0
/-- What the search hands back. -/
def LenMap (m : List (List Int)) (w : World) (B : Nat) : Prop :=
  ∃ n V T c, PMap w B n (.int .i64 0) V T c ∧ (∀ p q, p ≤ q → q < m.length → V p q = .int .i64 (len0 m p q) ∧ T p q = decide (0 ≤ mlen m p q)) ∧
    (m.length * (m.length + 1) ≤ 2 * c ↔ ∀ p q, p < q → q < m.length → ∃ k, mergeP m p q k) ∧ c ≤ 3600
theorem LenMap.below {m : List (List Int)} {w w' : World} {B : Nat} (h : LenMap m w B) (hb : Below w.heap.size w w') : LenMap m w' B := by
  obtain ⟨n, V, T, c, h1, h2⟩ := h
  exact ⟨n, V, T, c, h1.below hb, h2⟩
theorem LMap.done {m : List (List Int)} {w : World} {B : Nat} {F : List (Nat × Nat × Nat)} (hv : validM m = true) (hm : m.length ≤ 60) (h : LMap w B F) (hM : MB m F F.length) : LenMap m w B := by
  refine ⟨_, _, _, _, h, fun p q hpq hq => ?_, hM.count hv, ?_⟩
  · rcases mlen_spec hv (p := p) (q := q) (by omega) hq with ⟨h1, h2⟩ | ⟨j, h1, h2, h3⟩
    · have hno : ∀ l, (p, q, l) ∉ F := fun l hm => h2 l (hM.ok _ hm).2.2.1
      have hf : inF F p q = false := by
        rw [Bool.eq_false_iff]
        intro e
        obtain ⟨l, hl⟩ := inF_iff.1 e
        exact hno l hl
      have hl : lenIn F p q = 0 := by
        unfold lenIn
        cases hf2 : F.find? (fun e => e.1 == p && e.2.1 == q) with
        | none => rfl
        | some e =>
          have h1 := List.find?_some hf2
          have h2 := List.mem_of_find?_eq_some hf2
          simp only [Bool.and_eq_true, beq_iff_eq] at h1
          exact absurd h2 (by rw [show e = (p, q, e.2.2) from by rw [← h1.1, ← h1.2]]; exact hno _)
      refine ⟨?_, ?_⟩
      · rw [hl, len0, if_neg (by omega)]; rfl
      · rw [hf, h1]; rfl
    · have hmem := hM.all hv hpq hq h3
      refine ⟨?_, ?_⟩
      · rw [lenIn_mem hM hmem, len0, if_pos (by omega), h2]
      · rw [inF_iff.2 ⟨j, hmem⟩, h2]
        exact (decide_eq_true (by omega)).symm
  · have := hM.len
    have h2 : m.length * m.length ≤ 60 * 60 := Nat.mul_le_mul hm hm
    omega
/-- The found pairs. -/
def keysF (F : List (Nat × Nat × Nat)) : List (Nat × Nat) := F.map fun e => (e.1, e.2.1)
theorem keysF_snoc (F : List (Nat × Nat × Nat)) (p q l : Nat) : keysF (F ++ [(p, q, l)]) = keysF F ++ [(p, q)] := by simp [keysF]
theorem keysF_len (F : List (Nat × Nat × Nat)) : (keysF F).length = F.length := by simp [keysF]
theorem keysF_get {F : List (Nat × Nat × Nat)} {i : Nat} {e : Nat × Nat × Nat} (h : F[i]? = some e) : (keysF F)[i]? = some (e.1, e.2.1) := by simp [keysF, h]
theorem LMap.kept {w w' : World} {B : Nat} {F : List (Nat × Nat × Nat)} (h : LMap w B F) (hk : w'.heap[B]? = w.heap[B]?) : LMap w' B F := PMap.kept h hk
/-- Behind the store into the map. -/
theorem found_stored {W0 wr w2 : World} {fv : Value} {K : List (Nat × Nat)} (hB : Below W0.heap.size W0 wr) (hP : PRow wr (W0.heap.size + 1) fv K) (hg : wr.grownBy w2 (some W0.heap.size)) : Below W0.heap.size W0 w2 ∧ PRow w2 (W0.heap.size + 1) fv K :=
  ⟨hB.grown hg hB.size (fun q hq => by cases hq; exact Nat.le_refl _), World.ownsRow.kept hP hg (.inr fun e => by have := (World.ownsRow.lt hP _ e).1; omega)⟩
/-- Behind the append to the list of what was found. -/
theorem found_pushed {W0 w2 w5 : World} {fv v' : Value} {K : List (Nat × Nat)} {F : List (Nat × Nat × Nat)} {p q : Nat} (o : Obj) (hB : Below W0.heap.size W0 w2) (hP : PRow w2 (W0.heap.size + 1) fv K) (hM : LMap w2 W0.heap.size F)
    (hown : w5.ownsRow (W0.heap.size + 1) 75 2 v' (K.length + 1) (pairCells K ++ [.int .i64 p, .int .i64 q])) (hgrow : (w2.alloc o).grownBy w5 fv.ownBlock) :
    Below W0.heap.size W0 w5 ∧ LMap w5 W0.heap.size F ∧ PRow w5 (W0.heap.size + 1) v' (K ++ [(p, q)]) := by
  have hlt := fun k hk => (World.ownsRow.lt hP k hk).1
  have hml := PMap.lt hM
  refine ⟨(bal hB o).grown hgrow (by have := hB.size; simp; omega) (fun k hk => by have := hlt k hk; omega), hM.kept ?_, ?_⟩
  · rw [hgrow.block _ (by simp; omega) (fun e => by have := hlt _ e.symm; omega)]
    exact Below.heap_alloc _ _ _ hml
  · unfold PRow
    rw [List.length_append, pairCells_snoc]
    exact hown
end Go.Proofs.YtphpablchlpagaaDoor
namespace Go.Proofs.YtphpablchlpagaaDoor
open Go.RowKit Go.Shelf
theorem infoPair : (Tryd.prog.info? 75).map (fun i => (i.zero, i.size, i.bytes)) = some (some (.agg #[.int .i64 0, .int .i64 0]), 2, 16) := by kernel_rfl
theorem add_block (a : Addr) (k : Nat) : (a.add k).block = a.block := by unfold Addr.add; split <;> rfl
theorem pair_new (w : World) (t : TypeId) (u v : Value) (B : Nat) (hB : w.heap.size = B) : ∀ k x, [u, v][k]? = some x → (w.alloc (.cells #[u, v] t)).cell? ((⟨B, 0, none⟩ : Addr).add k) = some x := by
  subst hB
  intro k x hx
  have hk : k < 2 := by
    have := (List.getElem?_eq_some_iff.1 hx).1
    simpa using this
  have h2 : k = 0 ∨ k = 1 := by omega
  rcases h2 with rfl | rfl <;> simp at hx <;> subst hx <;> simp [Addr.add]
set_option maxRecDepth 100000 in
set_option maxHeartbeats 8000000 in
theorem mergers_any (v : Value) (m : List (List Int)) (w : World) (h : Rows w v m) (hv : validM m = true) :
    Calls Tryd.prog 46 #[.agg #[v]] w fun e w' => ∃ B, e = .returned (.map (some B)) ∧ LenMap m w' B ∧ Below w.heap.size w w' := by
  obtain ⟨i0, hi, hz0, hz1, hz2⟩ := info_parts infoPair
  obtain ⟨p1, p2, p3, p4, p5⟩ := valid_parts hv
  obtain ⟨A, cap, rfl, hml, hcm⟩ := id h
  have Hcm := hid hcm
  have Hp5 := hid p5
  have hX := bal (bal (Below.refl _ w) (.cells #[.slice A m.length cap] 24)) (.map #[] 0)
  have hbx := (Boxed.new w 24 (.slice A m.length cap)).cell
  have hbx1 := ((bal (Below.refl _ _) (.map #[] 0)).cell (p := ⟨w.heap.size, 0, none⟩) (World.block_lt_of_cell? _ _ hbx)).trans hbx
  have hG0 := Grp.made (w.alloc (.cells #[.slice A m.length cap] 24)) (w.heap.size + 1)
  rw [World.size_alloc] at hG0
  have hmm := @run_makeMap Tryd.prog
  clear p5 hcm hbx
  go_enter Tryd.func46, Tryd.ntmps46
  go_wp2_with fail
  generalize hWX : (w.alloc (.cells #[.slice A m.length cap] 24)).alloc (.map #[] 0) = X at *
  clear hWX
  go_loopw [20] (fun pv wr => ∃ (p N : Nat) (V : Nat → Nat → Value) (L : Nat → Nat → List (Nat × Nat)), p ≤ m.length ∧ pv = .int .i64 (p : Nat) ∧ N ≤ p * 3600 ∧ Grp wr (w.heap.size + 1) (w.heap.size + 1) N V L ∧ LB m p (p + 1) 0 L ∧ (∀ a d, (L a d).length ≤ N) ∧ Below w.heap.size w wr ∧ wr.cell? ⟨w.heap.size, 0, none⟩ = some (.slice A m.length cap)) (fun pv _ => m.length - (intOf pv).toNat)
  case atStart => exact ⟨0, 0, _, _, Nat.zero_le _, rfl, Nat.le_refl _, hG0, LB.start m, fun _ _ => Nat.le_refl _, hX, hbx1⟩
  case round =>
    clear hG0 hX hbx1
    obtain ⟨p, N, V, L, hp, rfl, hN, hG, hL, hLN, hB, hbx⟩ := hrel
    by_cases hpl : p < m.length
    · have hps : (p : Int) < m.length := by omega
      obtain ⟨b1, o1, r1, hA, hcell, hrow⟩ := Hcm.out p hpl
      subst hA
      have hrl := (Hp5.out p hpl).1
      obtain ⟨Ar, capr, rfl, -, -⟩ := id hrow
      rw [hrl] at hcell
      have HG := hid hG
      have HL := hid hL
      have HLN := hid hLN
      clear hG hL hLN hrow
      obtain ⟨wo, rfl⟩ : ∃ wo : World, wo = wr := ⟨_, rfl⟩
      go_wp2_with fail
      go_loopw [5] (fun qv wr => ∃ (q N : Nat) (V : Nat → Nat → Value) (L : Nat → Nat → List (Nat × Nat)), p + 1 ≤ q ∧ q ≤ m.length ∧ qv = .int .i64 (q : Nat) ∧ N ≤ p * 3600 + q * 60 ∧ Grp wr (w.heap.size + 1) (w.heap.size + 1) N V L ∧ LB m p q 0 L ∧ (∀ a d, (L a d).length ≤ N) ∧ Below w.heap.size w wr ∧ wr.cell? ⟨w.heap.size, 0, none⟩ = some (.slice (some ⟨b1, o1, none⟩) m.length cap)) (fun qv _ => m.length - (intOf qv).toNat)
      case atStart => exact ⟨p + 1, N, V, L, Nat.le_refl _, by omega, by go_num, by omega, HG.out, HL.out, HLN.out, hB, hbx⟩
      case round =>
        clear HG HL HLN hB hbx
        obtain ⟨q, N, V, L, hpq, hq, rfl, hN, hG, hL, hLN, hB, hbx⟩ := hrel
        by_cases hql : q < m.length
        · have hqs : (q : Int) < m.length := by omega
          have HG := hid hG
          have HL := hid hL
          have HLN := hid hLN
          have hcell1 := (hB.cell (p := ⟨b1, o1 + p, none⟩) (World.block_lt_of_cell? _ _ hcell)).trans hcell
          clear hG hL hLN
          obtain ⟨wo2, rfl⟩ : ∃ wo : World, wo = wr := ⟨_, rfl⟩
          go_wp2_with fail
          go_loopw [38] (fun xv wr => ∃ (x N : Nat) (V : Nat → Nat → Value) (L : Nat → Nat → List (Nat × Nat)), x ≤ letters m ∧ xv = .int .i64 (x : Nat) ∧ N ≤ p * 3600 + q * 60 + x ∧ Grp wr (w.heap.size + 1) (w.heap.size + 1) N V L ∧ LB m p q x L ∧ (∀ a d, (L a d).length ≤ N) ∧ Below w.heap.size w wr ∧ wr.cell? ⟨w.heap.size, 0, none⟩ = some (.slice (some ⟨b1, o1, none⟩) m.length cap)) (fun xv _ => letters m - (intOf xv).toNat)
          case atStart => exact ⟨0, N, V, L, Nat.zero_le _, rfl, by omega, HG.out, HL.out, HLN.out, hB, hbx⟩
          case round =>
            clear HG HL HLN hB hbx
            obtain ⟨x, N, V, L, hx, rfl, hN, hG, hL, hLN, hB, hbx⟩ := hrel
            by_cases hxl : x < letters m
            · have hxs : (x : Int) < letters m := by omega
              have HG := hid hG
              have HL := hid hL
              have HLN := hid hLN
              clear hG hL hLN
              obtain ⟨hn1, -⟩ := nx_ok hv (s := p) hpl (x := (x : Int)) (by omega) (by omega)
              obtain ⟨hq1, -⟩ := nx_ok hv (s := q) hql (x := (x : Int)) (by omega) (by omega)
              have hHb := h.below hB
              go_wp2_with fail
              refine (lead_pair _ m p q x _ hHb hv hpl hql hxl).mono ?_
              rintro e y1 ⟨rfl, hy1⟩
              have hcl := canon_le (nx m p (x : Int)) (nx m q (x : Int))
              have hct := canon_lt hn1 hq1
              obtain ⟨i, j, hij⟩ : ∃ i j, canon (nx m p (x : Int)) (nx m q (x : Int)) = (i, j) := ⟨_, _, rfl⟩
              have HIJ := hid hij
              simp only [hij] at hcl hct ⊢
              clear hij
              have hB1 := btr hB hy1
              have hZ : Below wr.heap.size wr ((y1.alloc (.cells #[.int .i64 i, .int .i64 j] 75)).alloc (.cells #[.int .i64 p, .int .i64 q] 75)) := bal (bal hy1 _) _
              have hGZ := HG.out.below hZ
              obtain ⟨T0, c0, hm0⟩ := hGZ.map
              obtain ⟨st, W1, he1, he2, he3, he4⟩ := hm0.entry Tryd.underlying91 zeroPairs (by unfold maxLen; omega) (p := i) (q := j) (by omega) (by omega)
              have hbl := hm0.lt
              obtain ⟨_, _, hm9⟩ := HG.out.map
              have hbl0 := hm9.lt
              clear hm9
              have hrow1 := (hGZ.rows i j).kept he2 (.inr (hGZ.off i j))
              have hnews := fun k u (hu : [Value.int .i64 (p : Nat), .int .i64 (q : Nat)][k]? = some u) => he2.cell (pair_new (y1.alloc (.cells #[.int .i64 i, .int .i64 j] 75)) 75 _ _ _ (World.size_alloc _ _) k u hu) (by
                have := hy1.size
                rw [add_block]
                intro e
                injection e with e
                simp only at e
                omega)
              have hNij := HLN.out i j
              have hbxZ := (hZ.cell (p := ⟨w.heap.size, 0, none⟩) (World.block_lt_of_cell? _ _ hbx)).trans hbx
              have hBZ := btr hB hZ
              have Hfin := hid (fun (w' w3 : World) (h2 : W1.grownBy w' (V i j).ownBlock) (h3 : w'.grownBy w3 (some (w.heap.size + 1))) => hGZ.turned rfl (Nat.lt_succ_self _) hBZ he2 h2 h3)
              have Hstep := hid (fun (w' w3 : World) (v' : Value) (T : Nat → Nat → Bool) (c' : Nat) (ho) (h2) (hat) (hm) (h3) => hGZ.step (w' := w') (w3 := w3) (i := i) (j := j) (p := p) (q := q) (c' := c') (T := T) (v' := v') he2 he3 ho h2 hat hm h3)
              have Hoff := hid (hGZ.off i j)
              have Hrow1 := hid hrow1
              have Hnews := hid hnews
              have Hhe4 := hid he4
              have hs1 : W1.heap.size = y1.heap.size + 1 + 1 := by rw [he3]; simp
              have hsz1 := hB1.size
              have Hs1 := hid hs1
              have Hbx := hid (hbxZ)
              have HBl := hid hbl
              clear hrow1 hnews he4 hGZ hm0 hbl hZ hBZ hs1 hy1 hHb hbx hbxZ he2 he3
              go_wp2_with (at_builtin; refine wpList_append_own_at _ rfl _ _ 93 rfl (w.heap.size + 1) 75 i0 (.agg #[.int .i64 0, .int .i64 0]) 2 16 Tryd.underlying93 hi hz0 hz1 hz2 rfl (by decide) _ _ _ rfl Hrow1.out ⟨y1.heap.size + 1, 0, none⟩ 1 1 [.int .i64 p, .int .i64 q] rfl rfl Hnews.out (by simp [Value.oneCell']) (by unfold maxLen; omega) (by omega) (by rw [Hs1.out]; omega) ?_; intro v' w5 hown' hgrow' _ hat; obtain ⟨w3, c', k1, k2, k3⟩ := Hhe4.out w5 v' (hgrow'.block _ (by rw [Hs1.out]; omega) (fun e => Hoff.out e.symm)); have k1' : (Instr.entryStore 91 (.map (some (w.heap.size + 1))) (.int .i64 st) v').run Tryd.prog w5 = .ok () w3 := k1; have HG3 := hid (Hstep.out w5 w3 v' _ c' hown' hgrow' hat k2 k3); have HF3 := hid (Hfin.out w5 w3 hgrow' k3); clear k1 k2 k3 hown' hgrow' hat)
              go_roundw
              case rel =>
                obtain ⟨f1, _, f3⟩ := HF3.out
                exact ⟨x + 1, N + 1, _, _, by omega, by go_num, by omega, HG3.out, HL.out.add (by omega) hql hxl HIJ.out, upd_len HLN.out, f1, f3 _ Hbx.out⟩
              case measure => simp [intOf]; omega
            · obtain rfl : x = letters m := by omega
              have hxs : ¬ ((letters m : Nat) : Int) < letters m := by omega
              have HG := hid hG
              have HL := hid hL
              have HLN := hid hLN
              clear hG hL hLN
              go_wp2_with fail
              go_roundw
              case rel => exact ⟨q + 1, N, V, L, by omega, by omega, by go_num, by omega, HG.out, HL.out.nextq, HLN.out, hB, hbx⟩
              case measure => simp [intOf]; omega
        · obtain rfl : q = m.length := by omega
          have hqs : ¬ ((m.length : Nat) : Int) < m.length := by omega
          have HG := hid hG
          have HL := hid hL
          have HLN := hid hLN
          clear hG hL hLN
          go_wp2_with fail
          go_roundw
          case rel => exact ⟨p + 1, N, V, L, by omega, by go_num, by omega, HG.out, HL.out.nextp, HLN.out, hB, hbx⟩
          case measure => simp [intOf]; omega
    · obtain rfl : p = m.length := by omega
      have hps : ¬ ((m.length : Nat) : Int) < m.length := by omega
      have HG := hid hG
      have HLd := hid hL.done
      have HLN := hid hLN
      clear hG hL hLN
      have hlb := World.block_lt_of_cell? _ _ hbx
      simp only at hlb
      have hbx2 := ((bal (Below.refl _ wr) (.map #[] 0)).cell (p := ⟨w.heap.size, 0, none⟩) hlb).trans hbx
      have hM0 := hid (LMap.made wr)
      go_wp2_with fail
      obtain ⟨W0, rfl⟩ : ∃ wo : World, wo = wr := ⟨_, rfl⟩
      have hB0 := bal (Below.refl _ W0) (.map #[] 0)
      have HB := hid hB
      have Hbx := hid hbx
      go_loopw [9, 63] (fun fv sv wr => ∃ s : Nat, s ≤ m.length ∧ sv = .int .i64 (s : Nat) ∧ LMap wr W0.heap.size (diag0 s) ∧ PRow wr (W0.heap.size + 1) fv (keysF (diag0 s)) ∧ Below W0.heap.size W0 wr) (fun _ sv _ => m.length - (intOf sv).toNat)
      case atStart => exact ⟨0, Nat.zero_le _, rfl, hM0.out, World.ownsRow_nil _ _ _ _, hB0⟩
      case round =>
        clear hM0 hB0 hbx2 hB hbx
        obtain ⟨s, hs, rfl, hM, hP, hB⟩ := hrel
        by_cases hsl : s < m.length
        · have hss : (s : Int) < m.length := by omega
          have hkl : (keysF (diag0 s)).length = s := by rw [keysF_len, diag0_len]
          obtain ⟨w2, g1, g2, g3⟩ := hM.put (by rw [diag0_len]; omega) (p := s) (q := s) (by omega) (by omega) 0 (inF_diag s)
          have g1' : (Instr.mapUpdate 69 (.map (some W0.heap.size)) (.agg #[.int .i64 s, .int .i64 s]) (.int .i64 0)).run Tryd.prog wr = .ok () w2 := g1
          obtain ⟨B2, P2⟩ := found_stored hB hP g3
          have P2' : w2.ownsRow (W0.heap.size + 1) 75 2 u9 s (pairCells (keysF (diag0 s))) := by have := P2; unfold PRow at this; rwa [hkl] at this
          have Hfin := hid (fun (w5 : World) (v' : Value) (o : Obj) (hown : w5.ownsRow (W0.heap.size + 1) 75 2 v' (s + 1) (pairCells (keysF (diag0 s)) ++ [.int .i64 s, .int .i64 s])) (hgrow : (w2.alloc o).grownBy w5 u9.ownBlock) =>
            found_pushed (p := s) (q := s) o B2 P2 g2 (by rw [hkl]; exact hown) hgrow)
          have hw2 := B2.size
          have HP2 := hid (P2'.alloc (.cells #[.int .i64 s, .int .i64 s] 75))
          clear hM hP g1 g2 g3 B2 P2 P2' hB
          go_wp2_with (at_builtin; refine wpList_append_own_at _ rfl _ _ 93 rfl (W0.heap.size + 1) 75 i0 (.agg #[.int .i64 0, .int .i64 0]) 2 16 Tryd.underlying93 hi hz0 hz1 hz2 rfl (by decide) _ _ _ rfl HP2.out ⟨w2.heap.size, 0, none⟩ 1 1 [.int .i64 s, .int .i64 s] rfl rfl (pair_new w2 75 _ _ _ rfl) (by simp [Value.oneCell']) (by unfold maxLen; omega) (by omega) (by simp; omega) ?_; intro v' w5 hown' hgrow' _ hat; have HF := hid (Hfin.out w5 v' _ hown' hgrow'); clear hown' hgrow' hat)
          go_roundw
          case rel =>
            obtain ⟨f1, f2, f3⟩ := HF.out
            refine ⟨s + 1, by omega, by go_num, ?_, ?_, f1⟩
            · rw [diag0_succ]; exact f2
            · rw [diag0_succ, keysF_snoc]; exact f3
          case measure => simp [intOf]; omega
        · obtain rfl : s = m.length := by omega
          have hss : ¬ ((m.length : Nat) : Int) < m.length := by omega
          have HM := hid hM
          have HP := hid hP
          clear hM hP
          go_wp2_with fail
          have hmm60 : m.length * m.length ≤ 3600 := Nat.mul_le_mul (show m.length ≤ 60 by omega) (show m.length ≤ 60 by omega)
          go_loopw [9, 11] (fun fv iv wr => ∃ (i : Nat) (F : List (Nat × Nat × Nat)), i ≤ F.length ∧ iv = .int .i64 (i : Nat) ∧ MB m F i ∧ LMap wr W0.heap.size F ∧ PRow wr (W0.heap.size + 1) fv (keysF F) ∧ Below W0.heap.size W0 wr) (fun _ iv _ => 3600 - (intOf iv).toNat)
          case atStart => exact ⟨0, _, Nat.zero_le _, rfl, MB.start m, HM.out, HP.out, hB⟩
          case round =>
            clear HM HP hB
            obtain ⟨i, F, hi', rfl, hMB, hM, hP, hB⟩ := hrel
            have hFl := hMB.len
            have HM := hid hM
            have HMB := hid hMB
            obtain ⟨fA, fcap, hfv⟩ := ownsRow_slice hP
            rw [keysF_len] at hfv
            subst hfv
            by_cases hil : i < F.length
            · have his : (i : Int) < F.length := by omega
              obtain ⟨e, he⟩ : ∃ e, F[i]? = some e := ⟨_, List.getElem?_eq_getElem hil⟩
              obtain ⟨e1, e2, el⟩ := e
              have hee := hMB.ok _ (List.mem_of_getElem? he)
              simp only at hee
              have hP' := hP
              unfold PRow at hP'
              obtain ⟨g, cg, hgs⟩ := ownsRow_pos' hP' (by rw [keysF_len]; omega)
              simp only [Value.slice.injEq] at hgs
              obtain ⟨rfl, -, rfl⟩ := hgs
              have hc := hP.cell (keysF_get he)
              simp only at hc
              obtain ⟨c1, c2⟩ := hc
              have hGr := HG.out.below hB
              obtain ⟨T0, c0, hm0⟩ := hGr.map
              have hlk := hm0.look Tryd.underlying91 (zeroPairs wr) (p := e1) (q := e2) (by omega) (by omega)
              have hrow := hGr.rows e1 e2
              unfold PRow at hrow
              obtain ⟨LA, lcap, hVs⟩ := ownsRow_slice hrow
              rw [hVs] at hlk hrow
              have Hrow := hid hrow
              have HVs := hid hVs
              have He := hid he
              have HP := hid hP
              have HLd2 := hid (fun x => HLd.out e1 e2 x)
              have hln := HLN.out e1 e2
              clear hVs hrow hm0 hGr hP hP' he hM hMB
              obtain ⟨wo, rfl⟩ : ∃ wo : World, wo = wr := ⟨_, rfl⟩
              go_wp2_with fail
              go_loopw [9, 90] (fun fv kv wr => ∃ (k : Nat) (F : List (Nat × Nat × Nat)), k ≤ (L e1 e2).length ∧ kv = .int .i64 (k : Nat) ∧ MB m F i ∧ F[i]? = some (e1, e2, el) ∧ (∀ j, j < k → ∀ d, (L e1 e2)[j]? = some d → ∃ l, (d.1, d.2, l) ∈ F) ∧ LMap wr W0.heap.size F ∧ PRow wr (W0.heap.size + 1) fv (keysF F) ∧ Below W0.heap.size W0 wr) (fun _ kv _ => (L e1 e2).length - (intOf kv).toNat)
              case atStart => exact ⟨0, F, Nat.zero_le _, rfl, HMB.out, He.out, fun j hj => by omega, HM.out, HP.out, hB⟩
              case round =>
                clear HMB He HM HP hB hlk c1 c2
                obtain ⟨k, F, hk, rfl, hMB, he, hcl, hM, hP, hB⟩ := hrel
                have hFl := hMB.len
                have hil := (List.getElem?_eq_some_iff.1 he).1
                have his : (i : Int) < F.length := by omega
                have hee := hMB.ok _ (List.mem_of_getElem? he)
                simp only at hee
                have hel := mdist_lt hv (by omega) hee.2.1 hee.2.2
                have hP' := hP
                unfold PRow at hP'
                obtain ⟨g, fcap, rfl⟩ := ownsRow_pos' hP' (by rw [keysF_len]; omega)
                rw [keysF_len] at hP hP' ⊢
                have HP := hid hP
                have HMB := hid hMB
                have He := hid he
                have Hcl := hid hcl
                by_cases hkl : k < (L e1 e2).length
                · have hks : (k : Int) < (L e1 e2).length := by omega
                  obtain ⟨d, hd⟩ : ∃ d, (L e1 e2)[k]? = some d := ⟨_, List.getElem?_eq_getElem hkl⟩
                  have hdm := (HLd2.out d).1 (List.mem_of_getElem? hd)
                  obtain ⟨p, q⟩ := d
                  simp only at hdm
                  obtain ⟨hpq, hq, x', hx', hcan⟩ := hdm
                  have hGr := HG.out.below hB
                  have hrow := hGr.rows e1 e2
                  unfold PRow at hrow
                  rw [HVs.out] at hrow
                  obtain ⟨g2, cg2, hgs⟩ := ownsRow_pos' hrow (by omega)
                  simp only [Value.slice.injEq] at hgs
                  obtain ⟨rfl, -, rfl⟩ := hgs
                  have hc := PRow.cell hrow hd
                  simp only at hc
                  obtain ⟨c1, c2⟩ := hc
                  have hMZ : LMap (wr.alloc (.cells #[.int .i64 p, .int .i64 q] 75)) W0.heap.size F := hM.kept (Below.heap_alloc _ _ _ (PMap.lt hM))
                  have hlk := PMap.look_ok hMZ Tryd.underlying69 (zeroInt _) (p := p) (q := q) (by omega) (by omega)
                  have Hd := hid hd
                  clear hrow hGr hd hP' hMB he hcl
                  cases hin : inF F p q with
                  | true =>
                    rw [hin] at hlk
                    have HMZ := hid hMZ
                    have Hin := hid hin
                    have hBZ := bal hB (.cells #[.int .i64 p, .int .i64 q] 75)
                    have HPZ := hid (World.ownsRow.alloc hP (.cells #[.int .i64 p, .int .i64 q] 75))
                    clear hM hMZ hP hin hB HP
                    go_wp2_with fail
                    go_roundw
                    case rel =>
                      refine ⟨k + 1, F, by omega, by go_num, HMB.out, He.out, fun j hj d hd => ?_, HMZ.out, HPZ.out, hBZ⟩
                      by_cases e : j = k
                      · subst e
                        rw [Hd.out] at hd
                        cases hd
                        exact inF_iff.1 Hin.out
                      · exact Hcl.out j (by omega) d hd
                    case measure => simp [intOf]; omega
                  | false =>
                    rw [hin] at hlk
                    have hBZ := bal hB (.cells #[.int .i64 p, .int .i64 q] 75)
                    have hPZ : PRow (wr.alloc (.cells #[.int .i64 p, .int .i64 q] 75)) (W0.heap.size + 1) (.slice (some ⟨g, 0, none⟩) F.length fcap) (keysF F) := World.ownsRow.alloc hP _
                    have k1 : (wr.alloc (.cells #[.int .i64 p, .int .i64 q] 75)).cell? ⟨wr.heap.size, 0, none⟩ = some (.int .i64 p) := new_cell wr #[.int .i64 p, .int .i64 q] 75 0 _ rfl
                    have k2 : (wr.alloc (.cells #[.int .i64 p, .int .i64 q] 75)).cell? ⟨wr.heap.size, 1, none⟩ = some (.int .i64 q) := new_cell wr #[.int .i64 p, .int .i64 q] 75 1 _ rfl
                    have hsz := hB.size
                    have hM1 := PMap.lt hM
                    go_wp2_with fail
                    generalize hWZ : wr.alloc (.cells #[.int .i64 p, .int .i64 q] 75) = Z at *
                    have hMD : LMap Z.drew W0.heap.size F := hMZ
                    have hPD : PRow Z.drew (W0.heap.size + 1) (.slice (some ⟨g, 0, none⟩) F.length fcap) (keysF F) := hPZ
                    have hBD : Below W0.heap.size W0 Z.drew := bdrew hBZ
                    have hlk2 := PMap.look hMD Tryd.underlying69 (zeroInt _) (p := e1) (q := e2) (by omega) (by omega)
                    have hle : lenIn F e1 e2 = el := lenIn_mem HMB.out (List.mem_of_getElem? He.out)
                    rw [hle] at hlk2
                    have hcF := hPD.cell (keysF_get He.out)
                    simp only at hcF
                    obtain ⟨c3, c4⟩ := hcF
                    obtain ⟨w2, g1, g2, g3⟩ := hMD.put (by omega) (p := p) (q := q) (by omega) (by omega) (el + 1) hin
                    have g1' : (Instr.mapUpdate 69 (.map (some W0.heap.size)) (.agg #[.int .i64 p, .int .i64 q]) (.int .i64 ((el : Int) + 1))).run Tryd.prog Z.drew = .ok () w2 := g1
                    obtain ⟨B2, P2⟩ := found_stored hBD hPD g3
                    have hkl2 := keysF_len F
                    have P2' : w2.ownsRow (W0.heap.size + 1) 75 2 (.slice (some ⟨g, 0, none⟩) F.length fcap) F.length (pairCells (keysF F)) := by have := P2; unfold PRow at this; rwa [hkl2] at this
                    have Hfin := hid (fun (w5 : World) (v' : Value) (o : Obj) (hown : w5.ownsRow (W0.heap.size + 1) 75 2 v' (F.length + 1) (pairCells (keysF F) ++ [.int .i64 p, .int .i64 q])) (hgrow : (w2.alloc o).grownBy w5 (Value.slice (some ⟨g, 0, none⟩) F.length fcap).ownBlock) =>
                      found_pushed (p := p) (q := q) o B2 P2 g2 (by rw [hkl2]; exact hown) hgrow)
                    have hw2 := B2.size
                    have HP2 := hid (P2'.alloc (.cells #[.int .i64 p, .int .i64 q] 75))
                    have k3 : w2.cell? ⟨wr.heap.size, 0, none⟩ = some (.int .i64 p) := g3.cell (a := ⟨wr.heap.size, 0, none⟩) k1 (by simp; omega)
                    have k4 : w2.cell? ⟨wr.heap.size, 1, none⟩ = some (.int .i64 q) := g3.cell (a := ⟨wr.heap.size, 1, none⟩) k2 (by simp; omega)
                    have Hadd := hid (MB.add hv HMB.out He.out hpq hq hx' hcan (inF_false hin))
                    simp only at Hadd
                    have c3' := c3
                    have c4' := c4
                    clear hM hMZ hP HP hPZ hMD hPD hBD hBZ g1 g2 g3 B2 P2 P2' hkl2 hle hB hWZ hlk hin hcan c1 c2
                    go_region
                    go_wp2_with (at_builtin; refine wpList_append_own_at _ rfl _ _ 93 rfl (W0.heap.size + 1) 75 i0 (.agg #[.int .i64 0, .int .i64 0]) 2 16 Tryd.underlying93 hi hz0 hz1 hz2 rfl (by decide) _ _ _ rfl HP2.out ⟨w2.heap.size, 0, none⟩ 1 1 [.int .i64 p, .int .i64 q] rfl rfl (pair_new w2 75 _ _ _ rfl) (by simp [Value.oneCell']) (by unfold maxLen; omega) (by omega) (by simp; omega) ?_; intro v' w5 hown' hgrow' _ hat; have HF := hid (Hfin.out w5 v' _ hown' hgrow'); clear hown' hgrow' hat)
                    go_roundw
                    case rel =>
                      obtain ⟨f1, f2, f3⟩ := HF.out
                      refine ⟨k + 1, F ++ [(p, q, el + 1)], by omega, by go_num, Hadd.out, by rw [List.getElem?_append_left hil]; exact He.out, fun j hj d hd => ?_, f2, by rw [keysF_snoc]; exact f3, f1⟩
                      by_cases e : j = k
                      · subst e
                        rw [Hd.out] at hd
                        cases hd
                        exact ⟨el + 1, List.mem_append_right _ (by simp)⟩
                      · obtain ⟨l, hl⟩ := Hcl.out j (by omega) d hd
                        exact ⟨l, List.mem_append_left _ hl⟩
                    case measure => simp [intOf]; omega
                · obtain rfl : k = (L e1 e2).length := by omega
                  have hks : ¬ (((L e1 e2).length : Nat) : Int) < (L e1 e2).length := by omega
                  have HM := hid hM
                  clear hM hP hP' hMB he hcl
                  go_wp2_with fail
                  go_roundw
                  case rel =>
                    refine ⟨i + 1, F, by omega, by go_num, HMB.out.next He.out fun p q x a1 a2 a3 a4 => ?_, HM.out, HP.out, hB⟩
                    have hmem := (HLd2.out (p, q)).2 ⟨a1, a2, x, a3, a4⟩
                    obtain ⟨j, hj, hje⟩ := List.mem_iff_getElem.1 hmem
                    exact Hcl.out j hj (p, q) (by rw [List.getElem?_eq_getElem hj, hje])
                  case measure => simp [intOf]; omega
            · obtain rfl : i = F.length := by omega
              have his : ¬ ((F.length : Nat) : Int) < F.length := by omega
              have HLM := hid (LMap.done hv p2 hM hMB)
              have HBB := hid ((HB.out).trans (hB.mono HB.out.size))
              clear hM hMB hP
              go_wp2_with fail
              go_ret
              exact ⟨_, rfl, HLM.out, HBB.out⟩
end Go.Proofs.YtphpablchlpagaaDoor
namespace Go.Proofs.YtphpablchlpagaaDoor
open Go.RowKit Go.Shelf
theorem LenMap.find {m : List (List Int)} {w : World} {B : Nat} (hv : validM m = true) (hL : LenMap m w B) {p q r : Nat} (hpq : p ≤ q) (hq : q < m.length) (hd : mdist m p q r) :
    (Instr.lookup 69 (.map (some B)) (.agg #[.int .i64 p, .int .i64 q]) false).run Tryd.prog w = .ok (.int .i64 r) w := by
  obtain ⟨p1, p2, -⟩ := valid_parts hv
  obtain ⟨n, V, T, c, h1, h2, -⟩ := hL
  rw [h1.look Tryd.underlying69 (zeroInt _) (p := p) (q := q) (by omega) (by omega), (h2 p q hpq hq).1]
  have := mlen_of hv (by omega) hq hd
  rw [len0, this, if_pos (by omega)]
theorem LenMap.ask {m : List (List Int)} {w : World} {B : Nat} (hv : validM m = true) (hL : LenMap m w B) {p q : Nat} (hpq : p ≤ q) (hq : q < m.length) :
    (Instr.lookup 69 (.map (some B)) (.agg #[.int .i64 p, .int .i64 q]) true).run Tryd.prog w = .ok (.tuple #[.int .i64 (len0 m p q), .bool (decide (0 ≤ mlen m p q))]) w := by
  obtain ⟨p1, p2, -⟩ := valid_parts hv
  obtain ⟨n, V, T, c, h1, h2, -⟩ := hL
  rw [h1.look_ok Tryd.underlying69 (zeroInt _) (p := p) (q := q) (by omega) (by omega), (h2 p q hpq hq).1, (h2 p q hpq hq).2]
theorem infoIntE : (Tryd.prog.info? 3).map (fun i => (i.zero, i.size, i.bytes)) = some (some (.int .i64 0), 1, 8) := by kernel_rfl
end Go.Proofs.YtphpablchlpagaaDoor
namespace Go.Proofs.YtphpablchlpagaaDoor
open Go.RowKit Go.Shelf
attribute [local go_sem] Oper.semAt_some
/-- What is behind the marks of loops over functions: only those marks are turned. -/
def MarksOff (B : Nat) (W W' : World) : Prop := Below B W W' ∧ ∀ (k : Nat) (o : Obj), W.heap[k]? = some o → o.isCells = true → W'.heap[k]? = some o
theorem MarksOff.refl (B : Nat) (W : World) (h : B ≤ W.heap.size) : MarksOff B W W := ⟨(Below.refl _ W).mono h, fun _ _ h _ => h⟩
end Go.Proofs.YtphpablchlpagaaDoor
namespace Go.Proofs.YtphpablchlpagaaDoor
open Go.RowKit Go.Shelf
theorem rows3 (w : World) (a b c : List Int) (va vb vc : Value) (t : TypeId) (k : Nat) (hk : k = w.heap.size) (ha : Ints w va a) (hb : Ints w vb b) (hc : Ints w vc c) : Rows (w.alloc (.cells #[va, vb, vc] t)) (.slice (some ⟨k, 0, none⟩) 3 3) [a, b, c] := by
  subst hk
  refine ⟨_, 3, rfl, by unfold big; simp, fun i hi => ?_⟩
  have h3 : i = 0 ∨ i = 1 ∨ i = 2 := by simp at hi; omega
  rcases h3 with rfl | rfl | rfl
  · exact ⟨w.heap.size, 0, va, rfl, by simp, ha.alloc _⟩
  · exact ⟨w.heap.size, 0, vb, rfl, by simp, hb.alloc _⟩
  · exact ⟨w.heap.size, 0, vc, rfl, by simp, hc.alloc _⟩
theorem lit_rows (w : World) (a b c d e f : Int) : Rows ((((w.alloc (.cells #[.int .i64 a, .int .i64 b] 3)).alloc (.cells #[.int .i64 c, .int .i64 d] 3)).alloc (.cells #[.int .i64 e, .int .i64 f] 3)).alloc
    (.cells #[.slice (some ⟨w.heap.size, 0, none⟩) 2 2, .slice (some ⟨w.heap.size + 1, 0, none⟩) 2 2, .slice (some ⟨w.heap.size + 1 + 1, 0, none⟩) 2 2] 34)) (.slice (some ⟨w.heap.size + 1 + 1 + 1, 0, none⟩) 3 3) [[a, b], [c, d], [e, f]] :=
  rows3 _ _ _ _ _ _ _ _ _ (by simp) (((Ints.two' w a b _ _ rfl).alloc _).alloc _) ((Ints.two' _ c d _ _ (by simp)).alloc _) (Ints.two' _ e f _ _ (by simp))
end Go.Proofs.YtphpablchlpagaaDoor
namespace Go.Proofs.YtphpablchlpagaaDoor
open Go.RowKit Go.Shelf
theorem held_one {w1 w' : World} {p : Addr} {u : Value} (h1 : w1.cell? p = some u) (hb : Below w1.heap.size w1 w') : Below w1.heap.size w1 w' ∧ w'.cell? p = some u :=
  ⟨hb, (hb.cell (p := p) (World.block_lt_of_cell? _ _ h1)).trans h1⟩
end Go.Proofs.YtphpablchlpagaaDoor
namespace Go.Proofs.YtphpablchlpagaaDoor
/-- Polynomials in two letters as lists of terms. -/
def mono (s u : Int) (k : Nat × Nat) : Int := s ^ k.1 * u ^ k.2
end Go.Proofs.YtphpablchlpagaaDoor
namespace Go.Proofs.YtphpablchlpagaaDoor
open Go.RowKit Go.Shelf
attribute [local go_sem] Oper.semAt_some
/-- The four boxes of the function. -/
structure SoonB (w : World) (S B : Nat) (best : Nat × Nat) (W : World) : Prop where
  set : W.heap[w.heap.size]? = some (.cells #[.int .u64 S] 61 (0, 0))
  map : W.heap[w.heap.size + 1]? = some (.cells #[.map (some B)] 69 (0, 0))
  res : W.heap[w.heap.size + 1 + 1]? = some (.cells #[.int .i64 0, .int .i64 0] 75 (0, 0))
  best : W.heap[w.heap.size + 1 + 1 + 1]? = some (.cells #[.int .i64 best.1, .int .i64 best.2] 75 (0, 0))
  below : Below w.heap.size w W
theorem SoonB.keep {w W W' : World} {S B : Nat} {best : Nat × Nat} (h : SoonB w S B best W) (a1 : W'.os = W.os) (a2 : W'.tape = W.tape) (a3 : W'.output = W.output) (a4 : W.heap.size ≤ W'.heap.size) (hk : ∀ k, k < w.heap.size + 1 + 1 + 1 + 1 → W'.heap[k]? = W.heap[k]?) : SoonB w S B best W' := by
  obtain ⟨h1, h2, h3, h4, h5⟩ := h
  refine ⟨(hk _ (by omega)).trans h1, (hk _ (by omega)).trans h2, (hk _ (by omega)).trans h3, (hk _ (by omega)).trans h4, ⟨a1.trans h5.os, a2.trans h5.tape, a3.trans h5.output, Nat.le_trans h5.size a4, fun k hk2 => (hk k (by omega)).trans (h5.block k hk2)⟩⟩
/-- What the inner loop's rounds keep of the outer one's. -/
structure SoonI (w : World) (S B p bp N : Nat) (Xo : Blocks) (Wb : World) (best : Nat × Nat) (W : World) : Prop where
  boxes : SoonB w S B best W
  pbox : W.heap[bp]? = some (.cells #[.int .i64 p] 3 (0, 0))
  kf : KeepsFrom (w.heap.size + 1 + 1 + 1 + 1) Wb W
  kp : Keep w.heap.size Xo Wb W
theorem kf_drewN (B : Nat) (W : World) (n : Nat) : KeepsFrom B W (W.drewN n) := kf_below (below_dr W n)
theorem SoonI.drew {w : World} {S B p bp N : Nat} {Xo : Blocks} {Wb W : World} {best : Nat × Nat} (h : SoonI w S B p bp N Xo Wb best W) (n : Nat) : SoonI w S B p bp N Xo Wb best (W.drewN n) :=
  ⟨h.boxes.keep rfl rfl rfl (Nat.le_refl _) fun _ _ => rfl, h.pbox, h.kf.trans (kf_drewN _ _ _), h.kp.trans (Keep.of_below (below_dr W n))⟩
end Go.Proofs.YtphpablchlpagaaDoor
namespace Go.Proofs.YtphpablchlpagaaDoor
open Go.RowKit Go.Shelf
/-- All pairs of states are merged by some word. -/
def allMerge (m : List (List Int)) : Prop := ∀ p q, p < q → q < m.length → ∃ k, mergeP m p q k
theorem elems_nodup (S : Nat) : (elems S).Nodup := List.Pairwise.imp (fun {a b} h => Nat.ne_of_lt h) (elems_sorted S)
end Go.Proofs.YtphpablchlpagaaDoor
namespace Go.Proofs.YtphpablchlpagaaDoor
open Go.RowKit Go.Shelf
theorem LenMap.len {m : List (List Int)} {w : World} {B : Nat} (hL : LenMap m w B) : ∃ c : Nat, (∀ ty, (Builtin.len_ #[69] ty #[.map (some B)]).run Tryd.prog w = .ok (.int .i64 c) w) ∧ (m.length * (m.length + 1) ≤ 2 * c ↔ allMerge m) ∧ c ≤ 3600 := by
  obtain ⟨n, V, T, c, h1, h2, h3, h4⟩ := hL
  exact ⟨c, fun ty => h1.len Tryd.underlying69 ty, h3, h4⟩
end Go.Proofs.YtphpablchlpagaaDoor
namespace Go.Proofs.YtphpablchlpagaaDoor
open Go.RowKit Go.Shelf
/-- The value v is a list of k rows; row p lies in block B p and holds f p 0, .., f p (n - 1). -/
structure Tbl (W : World) (n₀ : Nat) (v : Value) (n k : Nat) (B : Nat → Nat) (f : Nat → Nat → Int) : Prop where
  outer : W.ownsRow n₀ 34 1 v k ((List.range k).map fun p => .slice (some ⟨B p, 0, none⟩) n n)
  inner : ∀ p, p < k → W.ownsRow n₀ 3 1 (.slice (some ⟨B p, 0, none⟩) n n) n ((Lf n (f p)).map fun x => .int .i64 x)
  apart : ∀ p, p < k → v.ownBlock ≠ some (B p)
  inj : ∀ p q, p < k → q < k → B p = B q → p = q
section
variable {W W' : World} {n₀ n k : Nat} {v : Value} {B : Nat → Nat} {f : Nat → Nat → Int}
theorem Tbl.empty (W : World) (n₀ n : Nat) (B : Nat → Nat) (f : Nat → Nat → Int) : Tbl W n₀ (.slice none 0 0) n 0 B f :=
  ⟨World.ownsRow_nil _ _ _ _, fun p hp => by omega, fun p hp => by omega, fun p q hp => by omega⟩
theorem Tbl.kept (h : Tbl W n₀ v n k B f) (hk : ∀ b, n₀ ≤ b → b < W.heap.size → W'.heap[b]? = W.heap[b]?) : Tbl W' n₀ v n k B f :=
  ⟨owns_kept h.outer hk, fun p hp => owns_kept (h.inner p hp) hk, h.apart, h.inj⟩
theorem Tbl.below (h : Tbl W n₀ v n k B f) (hb : Below W.heap.size W W') : Tbl W' n₀ v n k B f := h.kept fun b _ hs => hb.block b hs
theorem Tbl.congr {g : Nat → Nat → Int} (h : Tbl W n₀ v n k B f) (e : ∀ p q, p < k → q < n → f p q = g p q) : Tbl W n₀ v n k B g :=
  ⟨h.outer, fun p hp => by rw [← Lf_congr (n := n) (f := f p) (g := g p) fun q hq => e p q hp hq]; exact h.inner p hp, h.apart, h.inj⟩
/-- One row more. -/
theorem Tbl.push {v' : Value} {b : Nat} (h : Tbl W n₀ v n k B f) (ho : W'.ownsRow n₀ 34 1 v' (k + 1) (((List.range k).map fun p => .slice (some ⟨B p, 0, none⟩) n n) ++ [.slice (some ⟨b, 0, none⟩) n n]))
    (hr : W'.ownsRow n₀ 3 1 (.slice (some ⟨b, 0, none⟩) n n) n ((Lf n (f k)).map fun x => .int .i64 x)) (hk : ∀ c, n₀ ≤ c → c < W.heap.size → v.ownBlock ≠ some c → W'.heap[c]? = W.heap[c]?)
    (hv : ∀ p, p < k → v'.ownBlock ≠ some (B p)) (hvb : v'.ownBlock ≠ some b) (hb : ∀ p, p < k → B p ≠ b) : Tbl W' n₀ v' n (k + 1) (fun p => if p = k then b else B p) f := by
  have hne : ∀ p, p < k → p ≠ k := fun p hp => by omega
  refine ⟨?_, fun p hp => ?_, fun p hp => ?_, fun p q hp hq e => ?_⟩
  · refine cast ?_ ho
    congr 1
    rw [List.range_succ, List.map_append]
    congr 1
    · refine List.map_congr_left fun p hp => ?_
      rw [if_neg (hne p (List.mem_range.1 hp))]
    · simp
  · by_cases e : p = k
    · subst e; simp only [if_true]; exact hr
    · simp only [if_neg e]
      have hp' : p < k := by omega
      obtain ⟨h1, h2⟩ := h.inner p hp'
      refine ⟨h1, ?_⟩
      rcases h2 with h2 | ⟨g, cap, cur, hv2, hB, hh, r⟩
      · exact .inl h2
      · have hg : g = B p := by
          simp only [Value.slice.injEq, Option.some.injEq, Addr.mk.injEq, and_true, true_and] at hv2
          exact hv2.1.symm
        exact .inr ⟨g, cap, cur, hv2, hB, by rw [hk g hB (lt_of_block hh) (by rw [hg]; exact h.apart p hp')]; exact hh, r⟩
  · by_cases e : p = k
    · subst e; simp only [if_true]; exact hvb
    · simp only [if_neg e]; exact hv p (by omega)
  · by_cases e1 : p = k <;> by_cases e2 : q = k
    · omega
    · simp only [if_pos e1, if_neg e2] at e; exact absurd e.symm (hb q (by omega))
    · simp only [if_neg e1, if_pos e2] at e; exact absurd e (hb p (by omega))
    · simp only [if_neg e1, if_neg e2] at e; exact h.inj p q (by omega) (by omega) e
/-- .. by an append whose element was boxed. -/
theorem Tbl.pushed {w5 : World} {v' : Value} {b : Nat} {o : Obj} (h : Tbl W n₀ v n k B f) (hr : W.ownsRow n₀ 3 1 (.slice (some ⟨b, 0, none⟩) n n) n ((Lf n (f k)).map fun x => .int .i64 x))
    (hvb : v.ownBlock ≠ some b) (hb : ∀ p, p < k → B p ≠ b)
    (hown : w5.ownsRow n₀ 34 1 v' (k + 1) (((List.range k).map fun p => .slice (some ⟨B p, 0, none⟩) n n) ++ [.slice (some ⟨b, 0, none⟩) n n])) (hgrow : (W.alloc o).grownBy w5 v.ownBlock)
    (hat : v'.ownBlock = v.ownBlock ∨ v'.ownBlock = some (W.alloc o).heap.size) : Tbl w5 n₀ v' n (k + 1) (fun p => if p = k then b else B p) f := by
  have hbl := ownq_lt hr
  refine h.push hown ((hr.alloc o).kept hgrow (.inr fun e => hvb (by simpa [Value.ownBlock] using e.symm))) (fun c _ hc hne => ?_) (fun p hp e => ?_) (fun e => ?_) hb
  · rw [hgrow.block c (by simp; omega) (fun e => hne e.symm)]
    exact Below.heap_alloc _ _ _ hc
  · have := (ownq_lt (h.inner p hp)).2
    rcases hat with e2 | e2
    · exact h.apart p hp (e2 ▸ e)
    · rw [e2] at e
      simp at e
      omega
  · rcases hat with e2 | e2
    · exact hvb (e2 ▸ e)
    · rw [e2] at e
      simp at e
      omega
variable {g c : Nat}
theorem Tbl.cell (h : Tbl W n₀ (.slice (some ⟨g, 0, none⟩) k c) n k B f) {p : Nat} (hp : p < k) : W.cell? ⟨g, p, none⟩ = some (.slice (some ⟨B p, 0, none⟩) n n) := by
  rw [h.outer.cellAt p (by omega)]
  simp [List.getElem?_map, List.getElem?_range hp]
theorem Tbl.free (h : Tbl W n₀ v n k B f) {p : Nat} (hp : p < k) (q : Nat) : W.frozen? ⟨B p, q, none⟩ = false := (h.inner p hp).frozenAt q
/-- A number is stored. -/
theorem Tbl.set (h : Tbl W n₀ v n k B f) {p q : Nat} (hp : p < k) (x : Int) : Tbl (W.setCell ⟨B p, q, none⟩ (.int .i64 x)) n₀ v n k B (fun a b => if a = p ∧ b = q then x else f a b) := by
  obtain ⟨h1, h2⟩ := (h.inner p hp).stored q (.int .i64 x)
  refine ⟨h.outer.kept h2 (.inr (h.apart p hp)), fun a ha => ?_, h.apart, h.inj⟩
  by_cases e : a = p
  · subst e
    rw [← List.map_set (f := fun x => Value.int .i64 x), Lf_set] at h1
    refine cast ?_ h1
    congr 2
    exact Lf_congr fun i _ => by simp
  · have : (Lf n fun b => if a = p ∧ b = q then x else f a b) = Lf n (f a) := Lf_congr fun i _ => by rw [if_neg (fun h => e h.1)]
    rw [show (fun b => if a = p ∧ b = q then x else f a b) = fun b => (fun a b => if a = p ∧ b = q then x else f a b) a b from rfl] at this
    rw [this]
    refine (h.inner a ha).kept h2 (.inr ?_)
    intro e2
    simp only [Value.ownBlock, Option.some.injEq] at e2
    exact e (h.inj a p ha hp e2)
end
/-- The reference's table within round k + 1: the pairs before (p, q) are done. -/
def mixT (m : List (List Int)) (k p q a b : Nat) : Int := if a < p ∨ (a = p ∧ b < q) then mlenAt m (k + 1) a b else mlenAt m k a b
theorem mixT_step (m : List (List Int)) (k p q a b : Nat) : mixT m k p (q + 1) a b = if a = p ∧ b = q then mlenAt m (k + 1) p q else mixT m k p q a b := by
  unfold mixT
  by_cases e : a = p ∧ b = q
  · rw [if_pos e, if_pos (by omega), e.1, e.2]
  · rw [if_neg e]
    by_cases e2 : a < p ∨ (a = p ∧ b < q)
    · rw [if_pos e2, if_pos (by omega)]
    · rw [if_neg e2, if_neg (by omega)]
theorem mixT_row (m : List (List Int)) {n k p a b : Nat} (hb : b < n) : mixT m k p n a b = mixT m k (p + 1) 0 a b := by
  unfold mixT
  by_cases e2 : a < p ∨ (a = p ∧ b < n)
  · rw [if_pos e2, if_pos (by omega)]
  · rw [if_neg e2, if_neg (by omega)]
end Go.Proofs.YtphpablchlpagaaDoor
namespace Go.Proofs.YtphpablchlpagaaDoor
open Go.RowKit Go.Shelf
/-- Within round k + 1, before the pair (p, q): whether something has changed. -/
def moreB (m : List (List Int)) (k p q : Nat) (b : Bool) : Prop :=
  (b = true → ∃ a c, a < m.length ∧ c < m.length ∧ mdist m a c (k + 1)) ∧ (b = false → ∀ a c, a < m.length → c < m.length → mixT m k p q a c = mlenAt m k a c)
theorem moreB.same {m : List (List Int)} {k p q : Nat} {b : Bool} (h : moreB m k p q b) (hs : mlenAt m (k + 1) p q = mlenAt m k p q) : moreB m k p (q + 1) b := by
  refine ⟨h.1, fun hb a c ha hc => ?_⟩
  rw [mixT_step]
  by_cases e : a = p ∧ c = q
  · rw [if_pos e, hs, e.1, e.2]
  · rw [if_neg e]; exact h.2 hb a c ha hc
theorem moreB.row {m : List (List Int)} {k p : Nat} {b : Bool} (h : moreB m k p m.length b) : moreB m k (p + 1) 0 b :=
  ⟨h.1, fun hb a c ha hc => by rw [← mixT_row m hc]; exact h.2 hb a c ha hc⟩
end Go.Proofs.YtphpablchlpagaaDoor
namespace Go.Proofs.YtphpablchlpagaaDoor
open Go.RowKit Go.Shelf
/-- The pairs (p, d) with d below q that are never merged; those of all first states below p. -/
def apartRow (m : List (List Int)) (p q : Nat) : List (Nat × Nat) := ((List.range q).filter fun d => decide (p < d) && decide (mlen m p d < 0)).map fun d => (p, d)
def apartAll (m : List (List Int)) (p : Nat) : List (Nat × Nat) := (List.range p).flatMap fun a => apartRow m a m.length
/-- The pairs that no word merges. -/
def apartL (m : List (List Int)) : List (Nat × Nat) := apartAll m m.length
theorem apartRow_succ (m : List (List Int)) (p q : Nat) : apartRow m p (q + 1) = apartRow m p q ++ (if p < q ∧ mlen m p q < 0 then [(p, q)] else []) := by
  unfold apartRow
  rw [List.range_succ, List.filter_append, List.map_append]
  congr 1
  by_cases h : p < q ∧ mlen m p q < 0
  · rw [if_pos h]; simp [h.1, h.2]
  · rw [if_neg h]
    by_cases h1 : p < q
    · have h2 : ¬ mlen m p q < 0 := fun e => h ⟨h1, e⟩
      simp [h1, h2]
    · simp [h1]
theorem apartRow_start (m : List (List Int)) (p q : Nat) (h : q ≤ p + 1) : apartRow m p q = [] := by
  unfold apartRow
  rw [List.map_eq_nil_iff, List.filter_eq_nil_iff]
  intro d hd
  have := List.mem_range.1 hd
  have h2 : ¬ p < d := by omega
  simp [h2]
theorem apartAll_succ (m : List (List Int)) (p : Nat) : apartAll m (p + 1) = apartAll m p ++ apartRow m p m.length := by
  unfold apartAll
  rw [List.range_succ, List.flatMap_append]
  simp
theorem apartRow_len (m : List (List Int)) (p q : Nat) : (apartRow m p q).length ≤ q := by
  unfold apartRow
  rw [List.length_map]
  have := List.length_filter_le (fun d => decide (p < d) && decide (mlen m p d < 0)) (List.range q)
  simpa using this
theorem apartAll_len (m : List (List Int)) : ∀ p, (apartAll m p).length ≤ p * m.length
  | 0 => by simp [apartAll]
  | p + 1 => by
    have h1 := apartAll_len m p
    have h2 := apartRow_len m p m.length
    rw [apartAll_succ, List.length_append, Nat.succ_mul]
    omega
theorem apartL_mem {m : List (List Int)} {e : Nat × Nat} : e ∈ apartL m ↔ e.1 < e.2 ∧ e.2 < m.length ∧ mlen m e.1 e.2 < 0 := by
  unfold apartL apartAll apartRow
  simp only [List.mem_flatMap, List.mem_range, List.mem_map, List.mem_filter, Bool.and_eq_true, decide_eq_true_eq]
  constructor
  · rintro ⟨a, ha, d, ⟨hd, h1, h2⟩, rfl⟩
    exact ⟨h1, hd, h2⟩
  · rintro ⟨h1, h2, h3⟩
    exact ⟨e.1, by omega, e.2, ⟨h2, h1, h3⟩, rfl⟩
/-- No pairs, and an error. -/
theorem infoArr : (Tryd.prog.info? 74).map (fun i => (i.zero, i.size, i.bytes)) = some (some (.agg #[.int .i64 0, .int .i64 0]), 2, 16) := by kernel_rfl
/-- A list of pairs of the call's own, and no error. -/
def PairsIs (w : World) (L : List (Nat × Nat)) (e : Ending) (w' : World) : Prop := ∃ r, e = .returned (.tuple #[r, .int .i64 0]) ∧ w'.ownsRow w.heap.size 74 2 r L.length (pairCells L) ∧ Below w.heap.size w w'
/-- Behind an append of a pair to a row of the call's own. -/
theorem pairs_pushed2 {w w2 wr w5 : World} {n : Nat} {v bx : Value} {t : TypeId} {xs : List Value} {o : Obj} (hB2 : Below w.heap.size w w2) (hB : Below w2.heap.size w2 wr) (hbx : wr.cell? ⟨w.heap.size, 0, none⟩ = some bx) (hO : wr.ownsRow w2.heap.size t 2 v n xs) (hgrow : (wr.alloc o).grownBy w5 v.ownBlock) (hlt2 : w.heap.size < w2.heap.size) :
    Below w2.heap.size w2 w5 ∧ w5.cell? ⟨w.heap.size, 0, none⟩ = some bx := by
  have hlt := fun k hk => (hO.lt k hk).1
  have k3 := World.block_lt_of_cell? _ _ hbx
  simp only at k3
  exact ⟨(bal hB o).grown hgrow (by have := hB.size; simp; omega) (fun k hk => by have := hlt k hk; omega),
    (World.cell?_of_block (a := ⟨w.heap.size, 0, none⟩) ((hgrow.block w.heap.size (by simp; omega) (fun e => by have := hlt _ e.symm; omega)).trans (Below.heap_alloc _ _ _ k3))).trans hbx⟩
set_option maxRecDepth 100000 in
set_option maxHeartbeats 4000000 in
theorem Apart_ok (v : Value) (m : List (List Int)) (w : World) (h : Rows w v m) (hv : validM m = true) :
    Calls Tryd.prog 34 #[.agg #[v]] w (PairsIs w (apartL m)) := by
  obtain ⟨i0, hi, hz0, hz1, hz2⟩ := info_parts infoArr
  obtain ⟨p1, p2, -⟩ := valid_parts hv
  obtain ⟨A, cap, rfl, hml, -⟩ := id h
  have hX := bal (Below.refl _ w) (.cells #[.slice A m.length cap] 24)
  have hbx := (Boxed.new w 24 (.slice A m.length cap)).cell
  have hXs : (w.alloc (.cells #[.slice A m.length cap] 24)).heap.size = w.heap.size + 1 := World.size_alloc _ _
  go_enter Tryd.func34, Tryd.ntmps34
  go_wp2_with fail
  generalize w.alloc (.cells #[.slice A m.length cap] 24) = X at *
  have hr := h.below hX
  refine (Valid_bool _ m true _ hr hv).mono ?_
  rintro e w1 ⟨rfl, h1⟩
  have e0 := (h1.cell (p := ⟨w.heap.size, 0, none⟩) (World.block_lt_of_cell? _ _ hbx)).trans hbx
  have hr1 := hr.below h1
  have HX := hid (btr hX h1)
  clear hbx hr hX h1
  go_wp2_with fail
  refine (mergers_any _ m _ hr1 hv).mono ?_
  rintro e w2 ⟨B, rfl, hL, h2⟩
  have e1 := (h2.cell (p := ⟨w.heap.size, 0, none⟩) (World.block_lt_of_cell? _ _ e0)).trans e0
  have hB2 := btr HX.out h2
  have Hask := hid (fun (p q : Nat) (w' : World) (hb : Below w2.heap.size w2 w') (hpq : p < q) (hq : q < m.length) => (hL.below hb).ask hv (Nat.le_of_lt hpq) hq)
  have HBB := hid hB2
  have hl2 := World.block_lt_of_cell? _ _ e1
  simp only at hl2
  clear e0 hr1 hL h2 HX hXs
  go_wp2_with fail
  go_loopw [4, 18] (fun lv pv wr => ∃ p : Nat, p ≤ m.length ∧ pv = .int .i64 (p : Nat) ∧ wr.ownsRow w2.heap.size 74 2 lv (apartAll m p).length (pairCells (apartAll m p)) ∧ Below w2.heap.size w2 wr ∧ wr.cell? ⟨w.heap.size, 0, none⟩ = some (.slice A m.length cap)) (fun _ pv _ => m.length - (intOf pv).toNat)
  case atStart => exact ⟨0, Nat.zero_le _, rfl, World.ownsRow_nil _ _ _ _, Below.refl _ _, e1⟩
  case round =>
    clear e1
    obtain ⟨p, hp, rfl, hO, hB, hbx⟩ := hrel
    have hmm60 : m.length * m.length ≤ 3600 := Nat.mul_le_mul (show m.length ≤ 60 by omega) (show m.length ≤ 60 by omega)
    by_cases hpl : p < m.length
    · have hps : (p : Int) < m.length := by omega
      have HO := hid hO
      clear hO
      have hlen := apartAll_len m p
      have hlen2 := Nat.mul_le_mul_right m.length (show p ≤ m.length by omega)
      obtain ⟨wo, rfl⟩ : ∃ wo : World, wo = wr := ⟨_, rfl⟩
      go_wp2_with fail
      go_loopw [4, 7] (fun lv qv wr => ∃ (q : Nat) (Lr : List (Nat × Nat)), p + 1 ≤ q ∧ q ≤ m.length ∧ qv = .int .i64 (q : Nat) ∧ Lr = apartAll m p ++ apartRow m p q ∧ wr.ownsRow w2.heap.size 74 2 lv Lr.length (pairCells Lr) ∧ Below w2.heap.size w2 wr ∧ wr.cell? ⟨w.heap.size, 0, none⟩ = some (.slice A m.length cap)) (fun _ qv _ => m.length - (intOf qv).toNat)
      case atStart => exact ⟨p + 1, apartAll m p, Nat.le_refl _, by omega, by go_num, by rw [apartRow_start m p (p + 1) (Nat.le_refl _), List.append_nil], HO.out, hB, hbx⟩
      case round =>
        clear HO hB hbx
        obtain ⟨q, Lr, hpq, hq, rfl, hLr, hO, hB, hbx⟩ := hrel
        by_cases hql : q < m.length
        · have hqs : (q : Int) < m.length := by omega
          have hask := Hask.out p q wr hB (by omega) hql
          have hrow := apartRow_succ m p q
          have hrl := apartRow_len m p q
          have hLl : Lr.length ≤ 7200 := by rw [hLr, List.length_append]; omega
          have hlb := hB.size
          by_cases hneg : 0 ≤ mlen m p q
          · rw [decide_eq_true hneg] at hask
            rw [if_neg (by omega), List.append_nil] at hrow
            have HLr := hid (show Lr = apartAll m p ++ apartRow m p (q + 1) from by rw [hrow]; exact hLr)
            have HO := hid hO
            clear hO hrow hLr hneg
            generalize len0 m p q = z at *
            go_wp2_with fail
            go_roundw
            case rel => exact ⟨q + 1, Lr, by omega, by omega, by go_num, HLr.out, HO.out, hB, hbx⟩
            case measure => simp [intOf]; omega
          · rw [decide_eq_false hneg] at hask
            rw [if_pos (by omega)] at hrow
            have HLr := hid (show Lr ++ [(p, q)] = apartAll m p ++ apartRow m p (q + 1) from by rw [hrow, hLr, List.append_assoc])
            have HO := hid (hO.alloc (.cells #[.int .i64 p, .int .i64 q] 74))
            have Hp := hid (fun (w5 : World) (o : Obj) (hgrow : (wr.alloc o).grownBy w5 u4.ownBlock) => pairs_pushed2 HBB.out hB hbx hO hgrow hl2)
            clear hO hrow hLr hneg
            generalize len0 m p q = z at *
            go_wp2_with (at_builtin; refine wpList_append_own_at _ rfl _ _ 49 rfl w2.heap.size 74 i0 (.agg #[.int .i64 0, .int .i64 0]) 2 16 Tryd.underlying49 hi hz0 hz1 hz2 rfl (by decide) _ _ _ rfl HO.out ⟨wr.heap.size, 0, none⟩ 1 1 [.int .i64 p, .int .i64 q] rfl rfl (pair_new _ _ _ _ _ rfl) (by simp [Value.oneCell']) (by unfold maxLen; omega) (by omega) (by simp; omega) ?_; intro v' w5 hown' hgrow' _ hat; have HP := hid (Hp.out w5 _ hgrow'); have HN := hid hown'; clear hown' hgrow' hat)
            go_roundw
            case rel =>
              obtain ⟨f1, f2⟩ := HP.out
              refine ⟨q + 1, Lr ++ [(p, q)], by omega, by omega, by go_num, HLr.out, ?_, f1, f2⟩
              rw [List.length_append, pairCells_snoc]
              exact HN.out
            case measure => simp [intOf]; omega
        · obtain rfl : q = m.length := by omega
          have hqs : ¬ ((m.length : Nat) : Int) < m.length := by omega
          have HO := hid (show wr.ownsRow w2.heap.size 74 2 u4 (apartAll m (p + 1)).length (pairCells (apartAll m (p + 1))) from by rw [apartAll_succ, ← hLr]; exact hO)
          clear hO hLr
          go_wp2_with fail
          go_roundw
          case rel => exact ⟨p + 1, by omega, by go_num, HO.out, hB, hbx⟩
          case measure => simp [intOf]; omega
    · obtain rfl : p = m.length := by omega
      have hps : ¬ ((m.length : Nat) : Int) < m.length := by omega
      have HO := hid hO
      have HF := hid (btr HBB.out hB)
      clear hO
      go_wp2_with fail
      go_ret2
      exact ⟨_, rfl, row_mono HO.out HBB.out.size, HF.out⟩
end Go.Proofs.YtphpablchlpagaaDoor
namespace Go.Proofs.YtphpablchlpagaaDoor
open Go.RowKit
/-- A world behind another one: memory has been added. -/
structure LaterW (y : World) where
  world : World
  below : Below y.heap.size y world
instance (y : World) : Nonempty (LaterW y) := ⟨⟨y, Below.refl _ _⟩⟩
end Go.Proofs.YtphpablchlpagaaDoor
namespace Go.Proofs.YtphpablchlpagaaDoor
open Go.RowKit Go.Shelf
theorem apartL_nil {m : List (List Int)} (hv : validM m = true) : apartL m = [] ↔ allMerge m := by
  constructor
  · intro h p q hpq hq
    rcases mlen_spec hv (p := p) (q := q) (by omega) hq with ⟨h1, _⟩ | ⟨j, _, _, h3⟩
    · have : (p, q) ∈ apartL m := apartL_mem.2 ⟨hpq, hq, by simp only; omega⟩
      rw [h] at this
      cases this
    · exact ⟨j, h3.1⟩
  · intro h
    rw [List.eq_nil_iff_forall_not_mem]
    intro e he
    obtain ⟨h1, h2, h3⟩ := apartL_mem.1 he
    obtain ⟨k, hk⟩ := h e.1 e.2 h1 h2
    obtain ⟨j, _, hd⟩ := mdist_some hk
    rw [mlen_of hv (by omega) h2 hd] at h3
    omega
end Go.Proofs.YtphpablchlpagaaDoor
namespace Go.Proofs.YtphpablchlpagaaDoor
open Go.RowKit Go.Shelf
theorem Ints.nil (w : World) : Ints w (.slice none 0 0) [] := ⟨none, 0, rfl, by simp, fun i hi => by simp at hi⟩
end Go.Proofs.YtphpablchlpagaaDoor
namespace Go.Proofs.YtphpablchlpagaaDoor
open Go.RowKit Go.Shelf
theorem ints_at {W : World} {ad : Addr} {n c : Nat} {l : List Int} (h : Ints W (.slice (some ad) n c) l) : ∀ j u, (l.map fun x => Value.int .i64 x)[j]? = some u → W.cell? (ad.add j) = some u := by
  intro j u hu
  obtain ⟨A, cap, hv, _, hc⟩ := h
  have hj : j < l.length := by
    have := (List.getElem?_eq_some_iff.1 hu).1
    simpa using this
  obtain ⟨b, off, hA, hcell⟩ := hc j hj
  simp only [Value.slice.injEq] at hv
  obtain ⟨rfl, -, -⟩ := hv
  cases hA
  have e : (⟨b, off, none⟩ : Addr).add j = ⟨b, off + j, none⟩ := by
    by_cases h0 : j = 0
    · subst h0; simp [Addr.add]
    · simp [Addr.add, h0]
  rw [e, hcell]
  simp only [List.getElem?_map, List.getElem?_eq_getElem hj, Option.map_some, Option.some.injEq] at hu
  rw [← hu, getD_elem l j hj]
end Go.Proofs.YtphpablchlpagaaDoor
namespace Go.Proofs.YtphpablchlpagaaDoor
section iter
/-- The step of a choice of roads, again and again. -/
def itF (f : Nat → Nat) : Nat → Nat → Nat
  | 0, s => s
  | i + 1, s => itF f i (f s)
theorem itF_add (f : Nat → Nat) : ∀ a b s, itF f (a + b) s = itF f b (itF f a s)
  | 0, b, s => by rw [Nat.zero_add]; rfl
  | a + 1, b, s => by rw [show a + 1 + b = (a + b) + 1 by omega]; exact itF_add f a b (f s)
theorem itF_succ (f : Nat → Nat) (i s : Nat) : itF f (i + 1) s = f (itF f i s) := itF_add f i 1 s
def Maps (n : Nat) (f : Nat → Nat) : Prop := ∀ s, s < n → f s < n
def Cyc (f : Nat → Nat) (s : Nat) : Prop := ∃ j, 0 < j ∧ itF f j s = s
theorem Cyc.step {f : Nat → Nat} {s : Nat} (h : Cyc f s) : Cyc f (f s) := by
  obtain ⟨j, hj, he⟩ := h
  refine ⟨j, hj, ?_⟩
  show itF f (j + 1) s = f s
  rw [itF_succ, he]
theorem Cyc.it {f : Nat → Nat} {s : Nat} (h : Cyc f s) : ∀ i, Cyc f (itF f i s)
  | 0 => h
  | i + 1 => Cyc.it h.step i
theorem Cyc.le {f : Nat → Nat} {s a b : Nat} (h : Cyc f (itF f a s)) (hab : a ≤ b) : Cyc f (itF f b s) := by
  obtain ⟨d, rfl⟩ : ∃ d, b = a + d := ⟨b - a, by omega⟩
  rw [itF_add]
  exact h.it d
theorem itF_mul {f : Nat → Nat} {s j : Nat} (h : itF f j s = s) : ∀ t, itF f (j * t) s = s
  | 0 => rfl
  | t + 1 => by rw [Nat.mul_succ, itF_add, itF_mul h t, h]
theorem Cyc.inj1 {f : Nat → Nat} {s t : Nat} (hs : Cyc f s) (ht : Cyc f t) (h : f s = f t) : s = t := by
  obtain ⟨j, hj, he⟩ := hs
  obtain ⟨i, hi, hf⟩ := ht
  have h1 : itF f (j * i) s = s := itF_mul he i
  have h2 : itF f (j * i) t = t := by rw [Nat.mul_comm]; exact itF_mul hf j
  have hp : 0 < j * i := Nat.mul_pos hj hi
  obtain ⟨d, hd⟩ : ∃ d, j * i = 1 + d := ⟨j * i - 1, by omega⟩
  rw [hd, itF_add] at h1 h2
  rw [← h1, ← h2]
  show itF f d (f s) = itF f d (f t)
  rw [h]
theorem Cyc.inj {f : Nat → Nat} : ∀ {i s t : Nat}, Cyc f s → Cyc f t → itF f i s = itF f i t → s = t
  | 0, _, _, _, _, h => h
  | i + 1, s, t, hs, ht, h => hs.inj1 ht (Cyc.inj (i := i) hs.step ht.step h)
theorem Cyc.same {g : Nat → Nat} {z a b : Nat} (h1 : ¬ Cyc g (itF g a z)) (h2 : Cyc g (itF g (a + 1) z)) (h3 : ¬ Cyc g (itF g b z)) (h4 : Cyc g (itF g (b + 1) z)) : a = b := by
  rcases Nat.lt_trichotomy a b with h | h | h
  · exact absurd (h2.le (by omega)) h3
  · exact h
  · exact absurd (h4.le (by omega)) h1
theorem nodup_lenR {α : Type} [BEq α] [LawfulBEq α] : ∀ {l k : List α}, l.Nodup → (∀ x ∈ l, x ∈ k) → l.length ≤ k.length
  | [], _, _, _ => Nat.zero_le _
  | x :: l, k, hn, hs => by
    have hx := hs x (by simp)
    rw [List.nodup_cons] at hn
    have := nodup_lenR (l := l) (k := k.erase x) hn.2 (fun y hy => by
      have hne : y ≠ x := fun e => hn.1 (by rw [← e]; exact hy)
      exact (List.mem_erase_of_ne hne).2 (hs y (by simp [hy])))
    rw [List.length_erase_of_mem hx] at this
    have hp : 0 < k.length := List.length_pos_of_mem hx
    simp only [List.length_cons]
    omega
end iter
section choice
end choice
section road
/-- Where a word leads. -/
def runE (E : Nat → Nat → Nat) : Nat → List Nat → Nat
  | s, [] => s
  | s, x :: w => runE E (E s x) w
theorem runE_append (E : Nat → Nat → Nat) : ∀ (s : Nat) (u v : List Nat), runE E s (u ++ v) = runE E (runE E s u) v
  | _, [], _ => rfl
  | s, x :: u, v => runE_append E (E s x) u v
def Wd (k : Nat) (w : List Nat) : Prop := ∀ x ∈ w, x < k
theorem Wd.nil (k : Nat) : Wd k [] := fun x hx => by simp at hx
theorem Wd.append {k : Nat} {u v : List Nat} (hu : Wd k u) (hv : Wd k v) : Wd k (u ++ v) := fun x hx => by
  rcases List.mem_append.1 hx with h | h
  · exact hu x h
  · exact hv x h
theorem Wd.cons {k x : Nat} {u : List Nat} (hx : x < k) (hu : Wd k u) : Wd k (x :: u) := fun y hy => by
  rcases List.mem_cons.1 hy with h | h
  · rw [h]; exact hx
  · exact hu y h
/-- Whatever word is followed, the two can be merged behind it. -/
def Stab (k : Nat) (E : Nat → Nat → Nat) (p q : Nat) : Prop := ∀ u, Wd k u → ∃ v, Wd k v ∧ runE E p (u ++ v) = runE E q (u ++ v)
theorem Stab.refl (k : Nat) (E : Nat → Nat → Nat) (p : Nat) : Stab k E p p := fun _ _ => ⟨[], Wd.nil k, rfl⟩
theorem Stab.symm {k p q : Nat} {E : Nat → Nat → Nat} (h : Stab k E p q) : Stab k E q p := fun u hu => by
  obtain ⟨v, hv, he⟩ := h u hu
  exact ⟨v, hv, he.symm⟩
theorem Stab.trans {k p q r : Nat} {E : Nat → Nat → Nat} (h : Stab k E p q) (h2 : Stab k E q r) : Stab k E p r := fun u hu => by
  obtain ⟨v, hv, he⟩ := h u hu
  obtain ⟨z, hz, hf⟩ := h2 (u ++ v) (hu.append hv)
  refine ⟨v ++ z, hv.append hz, ?_⟩
  rw [← List.append_assoc, ← hf, runE_append E p, runE_append E q, he]
theorem Stab.step {k p q x : Nat} {E : Nat → Nat → Nat} (h : Stab k E p q) (hx : x < k) : Stab k E (E p x) (E q x) := fun u hu => by
  obtain ⟨v, hv, he⟩ := h (x :: u) (hu.cons hx)
  exact ⟨v, hv, he⟩
/-- A numbering anew of the roads out of each place. -/
def Col (n k : Nat) (A : Nat → Nat → Nat) : Prop := ∀ s, s < n → ((List.range k).map (A s)).Perm (List.range k)
theorem Col.lt {n k s x : Nat} {A : Nat → Nat → Nat} (h : Col n k A) (hs : s < n) (hx : x < k) : A s x < k :=
  List.mem_range.1 ((h s hs).mem_iff.1 (List.mem_map.2 ⟨x, List.mem_range.2 hx, rfl⟩))
end road
end Go.Proofs.YtphpablchlpagaaDoor
namespace Go.Proofs.YtphpablchlpagaaDoor
section
variable {m : List (List Int)} {S L x : Nat} {tr : List Tr} {seen0 seen : List Nat} {lg pre ts : List Tr} {T : Nat} {u : List Int}
/-- A larger preimage: the first one. -/
theorem MidI.big (hL : LevI m S L seen0 tr) (hx : x < letters m) (hp : pre ++ (T, u) :: ts = tr) (h : MidI m S L tr x pre seen0 seen lg) (hb : szS S < szS (preSet m T x)) : FirstBig m S ((x : Int) :: u) := by
  rcases rowX_spec hL hx ((T, u) :: ts) pre seen lg hp h with ⟨u', s, l, h1, h2⟩ | ⟨s, l, h1, h2⟩
  · unfold rowX at h1
    rw [if_pos hb] at h1
    simp only [Prod.mk.injEq, Option.some.injEq] at h1
    rw [h1.1]; exact h2
  · unfold rowX at h1
    rw [if_pos hb] at h1
    simp at h1
theorem MidI.old (hL : LevI m S L seen0 tr) (hp : pre ++ (T, u) :: ts = tr) (h : MidI m S L tr x pre seen0 seen lg) (hb : ¬ szS S < szS (preSet m T x)) (hs : preSet m T x ∈ seen) : MidI m S L tr x (pre ++ [(T, u)]) seen0 seen lg := by
  have hmem : (T, u) ∈ tr := by rw [← hp]; simp
  obtain ⟨o1, o2, o3⟩ := hL.ok _ hmem
  simp only at o1 o2 o3
  have hrise := hL.rise
  rw [← hp, List.pairwise_append] at hrise
  obtain ⟨_, hr2, hr3⟩ := hrise
  refine ⟨h.ok, h.rise, fun t ht => ?_, h.seen, fun y p hd => ?_⟩
  · obtain ⟨y, p, e1, e2⟩ := h.below t ht
    exact ⟨y, p, e1, e2.imp id fun ⟨a, b⟩ => ⟨a, by simp [b]⟩⟩
  · rcases hd with hd | ⟨rfl, hd⟩
    · exact h.done y p (.inl hd)
    · rcases List.mem_append.1 hd with hd | hd
      · exact h.done y p (.inr ⟨rfl, hd⟩)
      · obtain rfl : p = (T, u) := by simpa using hd
        refine ⟨hb, ?_⟩
        rcases (h.seen _).1 hs with h1 | ⟨t, h1, h2⟩
        · exact .inl h1
        · refine .inr ⟨t, h1, h2, ?_⟩
          obtain ⟨z, p, e1, e2⟩ := h.below t h1
          have tl := (h.ok t h1).2.1
          rcases e2 with ⟨hz, _⟩ | ⟨rfl, hpp⟩
          · rw [e1]; rw [e1] at tl
            exact .inr (.inr ⟨by simp at tl ⊢; omega, .inl (by omega)⟩)
          · rw [e1]; rw [e1] at tl
            exact .inr (.inr ⟨by simp at tl ⊢; omega, .inr ⟨rfl, hr3 p hpp (T, u) (by simp)⟩⟩)
theorem MidI.add (hL : LevI m S L seen0 tr) (hx : x < letters m) (hp : pre ++ (T, u) :: ts = tr) (h : MidI m S L tr x pre seen0 seen lg) (hb : ¬ szS S < szS (preSet m T x)) : MidI m S L tr x (pre ++ [(T, u)]) seen0 (preSet m T x :: seen) (lg ++ [(preSet m T x, (x : Int) :: u)]) := by
  have hmem : (T, u) ∈ tr := by rw [← hp]; simp
  obtain ⟨o1, o2, o3⟩ := hL.ok _ hmem
  simp only at o1 o2 o3
  have hpw : preWord m S ((x : Int) :: u) = preSet m T x := by rw [preWord_cons, ← o3]
  have hrise := hL.rise
  rw [← hp, List.pairwise_append] at hrise
  obtain ⟨_, hr2, hr3⟩ := hrise
  have hlt : ∀ t ∈ lg, lexLt t.2 ((x : Int) :: u) := fun t ht => by
    obtain ⟨z, p, e1, e2⟩ := h.below t ht
    rw [e1]
    rcases e2 with ⟨hz, _⟩ | ⟨rfl, hpp⟩
    · exact .inl (by omega)
    · exact .inr ⟨rfl, hr3 p hpp (T, u) (by simp)⟩
  refine ⟨fun t ht => ?_, ?_, fun t ht => ?_, fun A => ?_, fun y p hd => ?_⟩
  · rcases List.mem_append.1 ht with ht | ht
    · exact h.ok t ht
    · obtain rfl : t = (preSet m T x, (x : Int) :: u) := by simpa using ht
      exact ⟨o1.cons hx, by simp [o2], hpw.symm⟩
  · rw [List.pairwise_append]
    refine ⟨h.rise, List.pairwise_singleton _ _, fun a ha b hb => ?_⟩
    obtain rfl : b = (preSet m T x, (x : Int) :: u) := by simpa using hb
    exact hlt a ha
  · rcases List.mem_append.1 ht with ht | ht
    · obtain ⟨y, p, e1, e2⟩ := h.below t ht
      exact ⟨y, p, e1, e2.imp id fun ⟨a, b⟩ => ⟨a, by simp [b]⟩⟩
    · obtain rfl : t = (preSet m T x, (x : Int) :: u) := by simpa using ht
      exact ⟨x, (T, u), rfl, .inr ⟨rfl, by simp⟩⟩
  · rw [List.mem_cons, h.seen]
    constructor
    · rintro (e | e | ⟨t, e1, e2⟩)
      · exact .inr ⟨(preSet m T x, (x : Int) :: u), by simp, e.symm⟩
      · exact .inl e
      · exact .inr ⟨t, by simp [e1], e2⟩
    · rintro (e | ⟨t, e1, e2⟩)
      · exact .inr (.inl e)
      · rcases List.mem_append.1 e1 with e1 | e1
        · exact .inr (.inr ⟨t, e1, e2⟩)
        · obtain rfl : t = (preSet m T x, (x : Int) :: u) := by simpa using e1
          exact .inl e2.symm
  · have old : ∀ (y : Nat) (p : Tr), (y < x ∧ p ∈ tr ∨ y = x ∧ p ∈ pre) → ¬ szS S < szS (preSet m p.1 y) ∧ (preSet m p.1 y ∈ seen0 ∨ ∃ t ∈ lg ++ [(preSet m T x, (x : Int) :: u)], t.1 = preSet m p.1 y ∧ SLe t.2 ((y : Int) :: p.2)) := fun y p hd => by
      obtain ⟨k1, k2⟩ := h.done y p hd
      exact ⟨k1, k2.imp id fun ⟨t, a, b⟩ => ⟨t, by simp [a], b⟩⟩
    rcases hd with hd | ⟨rfl, hd⟩
    · exact old y p (.inl hd)
    · rcases List.mem_append.1 hd with hd | hd
      · exact old y p (.inr ⟨rfl, hd⟩)
      · obtain rfl : p = (T, u) := by simpa using hd
        exact ⟨hb, .inr ⟨(preSet m T y, (y : Int) :: u), by simp, rfl, .inl rfl⟩⟩
end
theorem MidI.start (m : List (List Int)) (S L : Nat) (tr : List Tr) (seen0 : List Nat) : MidI m S L tr 0 [] seen0 seen0 [] := ⟨fun t ht => by simp at ht, List.Pairwise.nil, fun t ht => by simp at ht, fun T => by simp, fun y p hd => by
  rcases hd with ⟨a, _⟩ | ⟨_, b⟩
  · omega
  · simp at b⟩
/-- The sets that have been seen: as many as sets at most. -/
structure SeenI (n : Nat) (seen : List Nat) : Prop where
  nodup : seen.Nodup
  lt : ∀ T ∈ seen, T < 2 ^ n
theorem SeenI.len {n : Nat} {seen : List Nat} (h : SeenI n seen) : seen.length ≤ 2 ^ n := by
  have := nodup_lenR (l := seen) (k := List.range (2 ^ n)) h.nodup (fun x hx => by simpa using h.lt x hx)
  simpa using this
theorem SeenI.add {n T : Nat} {seen : List Nat} (h : SeenI n seen) (hT : T < 2 ^ n) (hn : T ∉ seen) : SeenI n (T :: seen) :=
  ⟨List.nodup_cons.2 ⟨hn, h.nodup⟩, fun A hA => by
    rcases List.mem_cons.1 hA with rfl | hA
    · exact hT
    · exact h.lt A hA⟩
end Go.Proofs.YtphpablchlpagaaDoor
namespace Go.Proofs.YtphpablchlpagaaDoor
open Go.RowKit Go.Shelf
def Lb (n : Nat) (f : Nat → Bool) : List Bool := (List.range n).map f
theorem Lb_len (n : Nat) (f : Nat → Bool) : (Lb n f).length = n := by simp [Lb]
theorem Lb_congr {n : Nat} {f g : Nat → Bool} (h : ∀ i, i < n → f i = g i) : Lb n f = Lb n g := List.map_congr_left fun i hi => h i (List.mem_range.1 hi)
theorem Lb_set {n : Nat} (f : Nat → Bool) (s : Nat) (v : Bool) : (Lb n f).set s v = Lb n (fun i => if i = s then v else f i) := by
  apply List.ext_getElem
  · simp [Lb]
  · intro i h1 h2
    rw [List.getElem_set]
    by_cases e : s = i
    · subst e; simp [Lb]
    · rw [if_neg e]; simp [Lb, Ne.symm e]
theorem Lb_cell {n : Nat} (f : Nat → Bool) {i : Nat} (hi : i < n) : ((Lb n f).map fun x => Value.bool x)[i]? = some (.bool (f i)) := by
  simp [Lb, List.getElem?_map, List.getElem?_range hi]
section
variable {W W' : World} {n₀ g n k : Nat} {B : Nat → Nat} {f : Nat → Nat → Bool}
end
end Go.Proofs.YtphpablchlpagaaDoor
namespace Go.Proofs.YtphpablchlpagaaDoor
open Go.RowKit Go.Shelf
/-- A list that came in or was made: if it is nil it has no room. -/
def Room (w : World) (v : Value) (l : List Int) : Prop := ∃ A c, v = .slice A l.length c ∧ (A = none → c = 0) ∧ Ints w v l
theorem Room.below {w w' : World} {v : Value} {l : List Int} (h : Room w v l) (hb : Below w.heap.size w w') : Room w' v l := by
  obtain ⟨A, c, h1, h2, h3⟩ := h
  exact ⟨A, c, h1, h2, h3.below hb⟩
end Go.Proofs.YtphpablchlpagaaDoor
namespace Go.Proofs.YtphpablchlpagaaDoor
open Go.RowKit Go.Shelf Go.Maps Go.WideAt
theorem keyIntS : Keyed Tryd.prog 61 := int_keyed Tryd.underlying61
/-- A map from numbers to bools that reads as a set. -/
def SeenMapS (w : World) (bm n : Nat) (S : Nat → Bool) : Prop :=
  ∃ D : DataW Unit, w.ownsMap Tryd.prog 61 (plainElem Tryd.prog 4) bm n D ∧ IsMap D ∧ ∀ p : Nat, D.atKey (.int .u64 p) (.lit (.bool false)) = .lit (.bool (S p))
theorem SeenMapS.made (w : World) : SeenMapS (w.alloc (.map #[] 0)) w.heap.size 0 (fun _ => false) :=
  ⟨.map [], World.ownsMap_made w _ _ _, ⟨[], rfl⟩, fun p => rfl⟩
theorem SeenMapS.look {w : World} {bm n : Nat} {S : Nat → Bool} (h : SeenMapS w bm n S) (p : Nat) (hp : p < 1000000) : (Instr.lookup 86 (.map (some bm)) (.int .u64 p) false).run Tryd.prog w = .ok (.bool (S p)) w := by
  obtain ⟨D, hD, _, hS⟩ := h
  obtain ⟨v, ps, hrun, hv⟩ := hD.lookup keyIntS Tryd.underlying86 (zeroB w) (plainB false) (keyOf_int_mk Tryd.underlying61 (WalkArith.wf_u64 (by omega : 0 ≤ (p : Int) ∧ (p : Int) ≤ 18446744073709551615)))
  rw [hS p] at hv
  obtain ⟨b, rfl, hb⟩ := plainB_inv hv
  rw [hrun]
  simp only [DataW.lit.injEq, Lit.bool.injEq] at hb
  rw [hb]
theorem SeenMapS.put {w : World} {bm n : Nat} {S : Nat → Bool} (h : SeenMapS w bm n S) (hn : n < 1000000) (p : Nat) (hp : p < 1000000) : ∃ w', (Instr.mapUpdate 86 (.map (some bm)) (.int .u64 p) (.bool true)).run Tryd.prog w = .ok () w' ∧ SeenMapS w' bm (n + 1) (fun q => decide (q = p) || S q) ∧ w.grownBy w' (some bm) := by
  obtain ⟨D, hD, hM, hS⟩ := h
  obtain ⟨w', hrun, h1, h2⟩ := hD.update keyIntS Tryd.underlying86 (by unfold maxLen; omega) (keyOf_int_mk Tryd.underlying61 (WalkArith.wf_u64 (by omega : 0 ≤ (p : Int) ∧ (p : Int) ≤ 18446744073709551615))) (plainB true)
  refine ⟨w', hrun, ⟨_, h1, ?_, fun q => ?_⟩, h2⟩
  · obtain ⟨es, rfl⟩ := hM; exact ⟨_, rfl⟩
  · by_cases e : q = p
    · subst e
      rw [atKey_put_same hM (by trivial)]; simp
    · rw [atKey_put_other (by simp; omega), hS q]; simp [e]
theorem SeenMapS.kept {w w' : World} {bm n : Nat} {S : Nat → Bool} (h : SeenMapS w bm n S) (hk : w'.heap[bm]? = w.heap[bm]?) : SeenMapS w' bm n S := by
  obtain ⟨D, ⟨es, clock, hb, F, hs, hD⟩, hM, hS⟩ := h
  exact ⟨D, ⟨es, clock, hk.trans hb, F, hs, hD⟩, hM, hS⟩
theorem SeenMapS.lt {w : World} {bm n : Nat} {S : Nat → Bool} (h : SeenMapS w bm n S) : bm < w.heap.size := by
  obtain ⟨D, hD, _⟩ := h; exact hD.lt
end Go.Proofs.YtphpablchlpagaaDoor
namespace Go.Proofs.YtphpablchlpagaaDoor
open Go.RowKit Go.Shelf
/-- The cells of steps. -/
def flatBS (B : Steps) : List Value := B.flatMap fun t => [.int .u64 t.1, .int .i64 t.2.1, .int .i64 t.2.2]
theorem flatBS_snoc (B : Steps) (t : Int × Int × Int) : flatBS (B ++ [t]) = flatBS B ++ [.int .u64 t.1, .int .i64 t.2.1, .int .i64 t.2.2] := by simp [flatBS]
end Go.Proofs.YtphpablchlpagaaDoor
namespace Go.Proofs.YtphpablchlpagaaDoor
open Go.RowKit Go.Shelf
/-- What holds of a word's function when its round begins. -/
def WordGS (F : Steps) (X : Blocks) (x : Nat × Value) (W : World) : Prop :=
  ∃ b6 b7 g cap B base, x.2 = .func (.func 81) #[] #[.pointer (some ⟨b6, 0, none⟩), .pointer (some ⟨b7, 0, none⟩)] ∧ X b6 ∧ X b7 ∧ X g ∧
    Boxed W b6 104 (.slice (some ⟨g, 0, none⟩) B.length cap) ∧ Boxed W b7 3 (.int .i64 x.1) ∧
    W.ownsRow base 103 3 (.slice (some ⟨g, 0, none⟩) B.length cap) B.length (flatBS B) ∧ TreeB B ∧ x.1 < B.length ∧ B.length ≤ 5000 ∧ wordB B x.1 = wordB F x.1
theorem WordGS.keep {F : Steps} {X : Blocks} {x : Nat × Value} {n₀ : Nat} {W W' : World} (h : WordGS F X x W) (k : Keep n₀ X W W') : WordGS F X x W' := by
  obtain ⟨b6, b7, g, cap, B, base, h1, h2, h3, h4, h5, h6, h7, h8⟩ := h
  exact ⟨b6, b7, g, cap, B, base, h1, h2, h3, h4, (k.block b6 h5.lt (.inr h2)).trans h5, (k.block b7 h6.lt (.inr h3)).trans h6, owns_block h7 (k.block g (own_lt h7).2 (.inr h4)), h8⟩
/-- The map and the steps of a search. -/
structure MemS (base : Nat) (X : Blocks) (bm b6 g cap : Nat) (B : Steps) (W : World) : Prop where
  map : SeenMapS W bm B.length (hasP B)
  row : W.ownsRow base 103 3 (.slice (some ⟨g, 0, none⟩) B.length cap) B.length (flatBS B)
  box : Boxed W b6 104 (.slice (some ⟨g, 0, none⟩) B.length cap)
  xm : X bm
  xg : X g
  x6 : X b6
  lm : base ≤ bm
  l6 : base ≤ b6
theorem MemS.keep {base : Nat} {X : Blocks} {bm b6 g cap : Nat} {B : Steps} {W W' : World} {n₀ : Nat} (h : MemS base X bm b6 g cap B W) (k : Keep n₀ X W W') : MemS base X bm b6 g cap B W' :=
  ⟨h.map.kept (k.block bm h.map.lt (.inr h.xm)), owns_block h.row (k.block g (own_lt h.row).2 (.inr h.xg)), (k.block b6 h.box.lt (.inr h.x6)).trans h.box, h.xm, h.xg, h.x6, h.lm, h.l6⟩
theorem MemS.below {base : Nat} {X : Blocks} {bm b6 g cap : Nat} {B : Steps} {W W' : World} (h : MemS base X bm b6 g cap B W) (k : Below W.heap.size W W') : MemS base X bm b6 g cap B W' := h.keep (Keep.of_below (n₀ := 0) k)
theorem MemS.drew {base : Nat} {X : Blocks} {bm b6 g cap : Nat} {B : Steps} {W : World} (h : MemS base X bm b6 g cap B W) : MemS base X bm b6 g cap B W.drew := h.below (below_dr W 1)
theorem SeenMapS.isMap {w : World} {bm n : Nat} {S : Nat → Bool} (h : SeenMapS w bm n S) : ∃ es c, w.heap[bm]? = some (.map es c) := by
  obtain ⟨D, ⟨es, clock, hb, _⟩, _⟩ := h
  exact ⟨es, clock, hb⟩
theorem MemS.apart {base : Nat} {X : Blocks} {bm b6 g cap : Nat} {B : Steps} {W : World} (h : MemS base X bm b6 g cap B W) : bm ≠ b6 ∧ bm ≠ g ∧ b6 ≠ g := by
  obtain ⟨es, c, hm⟩ := h.map.isMap
  refine ⟨fun e => ?_, fun e => ?_, fun e => ?_⟩
  · have h6 := h.box
    unfold Boxed at h6
    rw [← e, hm] at h6; cases h6
  · rcases h.row.2 with ⟨h', _⟩ | ⟨g', cap', cur, h', hB, hh, _⟩
    · cases h'
    · cases h'
      rw [← e, hm] at hh; cases hh
  · exact (h.box.not_row (by decide) h.row) (by rw [e]; rfl)
/-- A step more: the map first, then the row, then the variable. -/
theorem MemS.add {base : Nat} {X : Blocks} {bm b6 g cap g' cap' : Nat} {B : Steps} {p : Nat} {i x : Int} {W w3 w5 : World} {o : Obj} (h : MemS base X bm b6 g cap B W)
    (hm : SeenMapS w3 bm (B.length + 1) (fun q => decide (q = p) || hasP B q)) (hg3 : W.grownBy w3 (some bm))
    (hown : w5.ownsRow base 103 3 (.slice (some ⟨g', 0, none⟩) (B.length + 1) cap') (B.length + 1) (flatBS B ++ [.int .u64 p, .int .i64 i, .int .i64 x])) (hg5 : (w3.alloc o).grownBy w5 (some g)) (hat : g = g' ∨ g' = (w3.alloc o).heap.size) :
    MemS base (fun k => X k ∨ (W.heap.size ≤ k ∧ k < w5.heap.size)) bm b6 g' cap' (B ++ [((p : Int), i, x)]) (w5.setCell ⟨b6, 0, none⟩ (.slice (some ⟨g', 0, none⟩) (B.length + 1) cap')) ∧
      Turn (fun k => X k ∧ base ≤ k) W (w5.setCell ⟨b6, 0, none⟩ (.slice (some ⟨g', 0, none⟩) (B.length + 1) cap')) ∧ w5.heap.size = (w5.setCell ⟨b6, 0, none⟩ (.slice (some ⟨g', 0, none⟩) (B.length + 1) cap')).heap.size := by
  obtain ⟨a1, a2, a3⟩ := h.apart
  have s3 := hg3.size
  have s5 := hg5.size
  have hgl := own_lt h.row
  have hbl := h.box.lt
  have hml := h.map.lt
  have hs : (w3.alloc o).heap.size = w3.heap.size + 1 := by simp
  have hal : ∀ k, k < w3.heap.size → (w3.alloc o).heap[k]? = w3.heap[k]? := fun k hk => Below.heap_alloc w3 o k hk
  have hg'l := own_lt hown
  have hg'6 : g' ≠ b6 := by rcases hat with e | e <;> omega
  have box3 : Boxed w3 b6 104 (.slice (some ⟨g, 0, none⟩) B.length cap) := (hg3.block b6 hbl (by simpa using fun e => a1 e.symm)).trans h.box
  have box5 : Boxed w5 b6 104 (.slice (some ⟨g, 0, none⟩) B.length cap) := ((hg5.block b6 (by omega) (by simpa using a3)).trans (hal b6 (by omega))).trans box3
  have hoth : ∀ k, k ≠ b6 → (w5.setCell ⟨b6, 0, none⟩ (.slice (some ⟨g', 0, none⟩) (B.length + 1) cap')).heap[k]? = w5.heap[k]? := fun k hk => Below.heap_setCell _ _ _ _ (by simpa using hk)
  have hfun : (fun q => decide (q = p) || hasP B q) = hasP (B ++ [((p : Int), i, x)]) := by
    funext q
    rw [hasP_snoc, Bool.or_comm]
    congr 1
    by_cases e : q = p
    · subst e; simp
    · have : ((p : Int) == (q : Int)) = false := by simp; omega
      rw [this]; simp [e]
  rw [hfun] at hm
  refine ⟨⟨?_, ?_, ?_, .inl h.xm, ?_, .inl h.x6, h.lm, h.l6⟩, ⟨?_, ?_, ?_, ?_, fun k hk hX => ?_⟩, by simp [World.setCell]⟩
  · rw [List.length_append]
    exact hm.kept ((hoth bm a1).trans ((hg5.block bm (by omega) (by simpa using a2)).trans (hal bm (by omega))))
  · rw [List.length_append, flatBS_snoc]
    exact owns_block hown (hoth g' hg'6)
  · rw [List.length_append]
    exact box5.set _
  · rcases hat with e | e
    · rw [← e]; exact .inl h.xg
    · exact .inr ⟨by omega, hg'l.2⟩
  · exact hg5.os.trans hg3.os
  · exact hg5.tape.trans hg3.tape
  · exact hg5.output.trans hg3.output
  · simp [World.setCell]; omega
  · have k1 : k ≠ b6 := fun e => hX (e ▸ ⟨h.x6, h.l6⟩)
    have k2 : k ≠ bm := fun e => hX (e ▸ ⟨h.xm, h.lm⟩)
    have k3 : k ≠ g := fun e => hX (e ▸ ⟨h.xg, hgl.1⟩)
    rw [hoth k k1, hg5.block k (by omega) (by simpa using k3), hal k (by omega), hg3.block k hk (by simpa using k2)]
/-- Where a search stands. -/
structure SWS (J : Blocks → List (Nat × Value) → World → Prop) (n₀ : Nat) (X0 : Blocks) (W : World) (bm b6 b7 i : Nat) (B : Steps) (pre : List (Nat × Value)) (X : Blocks) (g cap : Nat) (wr : World) : Prop where
  mem : MemS W.heap.size X bm b6 g cap B wr
  ibox : Boxed wr b7 3 (.int .i64 i)
  x7 : X b7
  l7 : W.heap.size ≤ b7
  j : J X pre wr
  xlt : ∀ k, X k → k < wr.heap.size
  x0 : ∀ k, X0 k → X k
  kept : Keep n₀ X0 W wr
section
variable {J : Blocks → List (Nat × Value) → World → Prop} {n₀ : Nat} {X0 : Blocks} {W : World} {bm b6 b7 i : Nat} {B : Steps} {pre : List (Nat × Value)} {X : Blocks} {g cap : Nat} {wr : World}
theorem SWS.below (h : SWS J n₀ X0 W bm b6 b7 i B pre X g cap wr) (hJ : Minds J) {w' : World} (k : Below wr.heap.size wr w') : SWS J n₀ X0 W bm b6 b7 i B pre X g cap w' :=
  ⟨h.mem.below k, (k.block b7 h.ibox.lt).trans h.ibox, h.x7, h.l7, hJ X X _ _ _ h.j (Turn.of_below k) (fun _ h => .inl h), fun a ha => Nat.lt_of_lt_of_le (h.xlt a ha) k.size, h.x0, h.kept.trans (Keep.of_below k)⟩
theorem SWS.drew (h : SWS J n₀ X0 W bm b6 b7 i B pre X g cap wr) (hJ : Minds J) : SWS J n₀ X0 W bm b6 b7 i B pre X g cap wr.drew := h.below hJ (below_dr wr 1)
theorem SWS.add (h : SWS J n₀ X0 W bm b6 b7 i B pre X g cap wr) (hJ : Minds J) (hn : n₀ ≤ W.heap.size) (h0 : ∀ k, X0 k → k < W.heap.size) {g' cap' p : Nat} {x : Int} {w3 w5 : World} {o : Obj}
    (hm : SeenMapS w3 bm (B.length + 1) (fun q => decide (q = p) || hasP B q)) (hg3 : wr.grownBy w3 (some bm))
    (hown : w5.ownsRow W.heap.size 103 3 (.slice (some ⟨g', 0, none⟩) (B.length + 1) cap') (B.length + 1) (flatBS B ++ [.int .u64 p, .int .i64 i, .int .i64 x])) (hg5 : (w3.alloc o).grownBy w5 (some g)) (hat : g = g' ∨ g' = (w3.alloc o).heap.size) :
    ∃ X', SWS J n₀ X0 W bm b6 b7 i (B ++ [((p : Int), (i : Int), x)]) pre X' g' cap' (w5.setCell ⟨b6, 0, none⟩ (.slice (some ⟨g', 0, none⟩) (B.length + 1) cap')) := by
  obtain ⟨m1, m2, m3⟩ := h.mem.add (i := (i : Int)) (x := x) hm hg3 hown hg5 hat
  have s3 := hg3.size
  have s5 := hg5.size
  have hs : (w3.alloc o).heap.size = w3.heap.size + 1 := by simp
  have h7l := h.ibox.lt
  obtain ⟨es, c, hmap⟩ := h.mem.map.isMap
  have k1 : b7 ≠ b6 := fun e => by
    have h6 := h.mem.box
    have h7 := h.ibox
    unfold Boxed at h6 h7
    rw [e, h6] at h7; cases h7
  have k2 : b7 ≠ bm := fun e => by
    have h7 := h.ibox
    unfold Boxed at h7
    rw [e, hmap] at h7; cases h7
  have k3 : some b7 ≠ (Value.slice (some ⟨g, 0, none⟩) B.length cap).ownBlock := h.ibox.not_row (by decide) h.mem.row
  refine ⟨_, ⟨m1, ?_, .inl h.x7, h.l7, hJ _ _ _ _ _ h.j (m2.mono fun k hk => hk.1) (fun k hk => hk.imp id (fun h => h.1)), fun k hk => ?_, fun k hk => .inl (h.x0 k hk), h.kept.trans (Keep.of_turn m2 hn h0)⟩⟩
  · have e1 : (w5.setCell ⟨b6, 0, none⟩ (.slice (some ⟨g', 0, none⟩) (B.length + 1) cap')).heap[b7]? = w5.heap[b7]? := Below.heap_setCell _ _ _ _ (by simpa using k1)
    exact e1.trans ((hg5.block b7 (by omega) k3).trans ((Below.heap_alloc w3 o b7 (by omega)).trans ((hg3.block b7 h7l (by simpa using k2)).trans h.ibox)))
  · rcases hk with hk | hk
    · have := h.xlt k hk; omega
    · omega
/-- The next round has a variable of its own. -/
theorem SWS.next (h : SWS J n₀ X0 W bm b6 b7 i B pre X g cap wr) (hJ : Minds J) {i' : Nat} : ∃ X', SWS J n₀ X0 W bm b6 wr.heap.size i' B pre X' g cap (wr.alloc (.cells #[.int .i64 i'] 3)) := by
  have hb : Below wr.heap.size wr (wr.alloc (.cells #[.int .i64 i'] 3)) := bal (Below.refl _ wr) _
  obtain ⟨a1, a2, a3, a4, a5, a6, a7, a8⟩ := h.mem.below hb
  have hW := h.kept.size
  exact ⟨fun k => X k ∨ k = wr.heap.size, ⟨⟨a1, a2, a3, .inl a4, .inl a5, .inl a6, a7, a8⟩, Boxed.new wr _ _, .inr rfl, hW, hJ _ _ _ _ _ h.j (Turn.of_below hb) (fun k hk => hk.imp id (fun e => Nat.le_of_eq e.symm)),
    fun k hk => by
      simp only [World.size_alloc]
      rcases hk with hk | hk
      · have := h.xlt k hk; omega
      · omega, fun k hk => .inl (h.x0 k hk), h.kept.trans (Keep.of_below hb)⟩⟩
theorem SWS.start (hJ : Minds J) (h0 : J X0 [] W) (hX0 : ∀ k, X0 k → k < W.heap.size) {w1 : World} {s : Nat} (hB1 : Below W.heap.size W w1) (hgs : W.heap.size < w1.heap.size) (hmap : SeenMapS w1 W.heap.size 1 (fun q => decide (q = s) || false)) :
    SWS J n₀ X0 W W.heap.size (w1.heap.size + 1) (w1.heap.size + 1 + 1) 0 [((s : Int), -1, 0)] [] (fun k => X0 k ∨ (W.heap.size ≤ k ∧ k < w1.heap.size + 3)) w1.heap.size 1
      (((w1.alloc (.cells #[.int .u64 s, .int .i64 (-1), .int .i64 0] 103)).alloc (.cells #[.slice (some ⟨w1.heap.size, 0, none⟩) 1 1] 104)).alloc (.cells #[.int .i64 0] 3)) := by
  have b1 : Below w1.heap.size w1 (((w1.alloc (.cells #[.int .u64 s, .int .i64 (-1), .int .i64 0] 103)).alloc (.cells #[.slice (some ⟨w1.heap.size, 0, none⟩) 1 1] 104)).alloc (.cells #[.int .i64 0] 3)) := bal (bal (bal (Below.refl _ w1) _) _) _
  have hBT := btr hB1 b1
  have hfun : (fun q => decide (q = s) || false) = hasP [((s : Int), -1, 0)] := by
    funext q
    by_cases e : q = s
    · subst e; simp [hasP]
    · have : ((s : Int) == (q : Int)) = false := by simp; omega
      simp [hasP, e, this]
  rw [hfun] at hmap
  have hrow := World.ownsRow_lit (base := W.heap.size) (e := 103) (size := 3) w1 #[.int .u64 s, .int .i64 (-1), .int .i64 0] 1 (by omega) (by decide) rfl
  have hrow3 := owns_block (w' := (((w1.alloc (.cells #[.int .u64 s, .int .i64 (-1), .int .i64 0] 103)).alloc (.cells #[.slice (some ⟨w1.heap.size, 0, none⟩) 1 1] 104)).alloc (.cells #[.int .i64 0] 3))) hrow ((bal (bal (Below.refl _ _) _) _).block _ (by simp))
  have q2 := (Boxed.new (w1.alloc (.cells #[.int .u64 s, .int .i64 (-1), .int .i64 0] 103)) 104 (.slice (some ⟨w1.heap.size, 0, none⟩) 1 1)).alloc (.cells #[.int .i64 0] 3)
  have q3 := Boxed.new ((w1.alloc (.cells #[.int .u64 s, .int .i64 (-1), .int .i64 0] 103)).alloc (.cells #[.slice (some ⟨w1.heap.size, 0, none⟩) 1 1] 104)) 3 (.int .i64 0)
  simp only [World.size_alloc] at q2 q3
  refine ⟨⟨hmap.kept (b1.block _ hgs), hrow3, q2, .inr ⟨Nat.le_refl _, by omega⟩, .inr ⟨by omega, by omega⟩, .inr ⟨by omega, by omega⟩, Nat.le_refl _, by omega⟩, q3, .inr ⟨by omega, by omega⟩, by omega, hJ _ _ _ _ _ h0 (Turn.of_below hBT) (fun k hk => hk.imp id (fun h => h.1)), fun k hk => ?_, fun k hk => .inl hk, Keep.of_below hBT⟩
  simp only [World.size_alloc]
  rcases hk with hk | hk
  · have := hX0 k hk; omega
  · omega
end
end Go.Proofs.YtphpablchlpagaaDoor
namespace Go.Proofs.YtphpablchlpagaaDoor
open Go.RowKit Go.Shelf
/-- The number of a set. -/
def codeL (l : List Bool) : Nat := l.foldl (fun n b => 2 * n + b.toNat) 0
theorem codeL_snoc (l : List Bool) (b : Bool) : codeL (l ++ [b]) = 2 * codeL l + b.toNat := by simp [codeL, List.foldl_append]
theorem take_snocB {l : List Bool} {k : Nat} (h : k < l.length) : l.take (k + 1) = l.take k ++ [l.getD k false] := by
  rw [List.take_succ_eq_append_getElem h]
  simp [List.getD_eq_getElem?_getD, List.getElem?_eq_getElem h]
theorem codeL_lt : ∀ (k : Nat) (l : List Bool), k ≤ l.length → codeL (l.take k) < 2 ^ k
  | 0, l, _ => by simp [codeL]
  | k + 1, l, h => by
    have ih := codeL_lt k l (by omega)
    rw [take_snocB (by omega), codeL_snoc, Nat.pow_succ]
    have : (l.getD k false).toNat ≤ 1 := by cases l.getD k false <;> decide
    omega
theorem codeL_inj : ∀ (k : Nat) (l m : List Bool), l.length = k → m.length = k → codeL l = codeL m → l = m
  | 0, l, m, h1, h2, _ => by rw [List.length_eq_zero_iff.1 h1, List.length_eq_zero_iff.1 h2]
  | k + 1, l, m, h1, h2, h => by
    have e1 := take_snocB (l := l) (k := k) (by omega)
    have e2 := take_snocB (l := m) (k := k) (by omega)
    rw [List.take_of_length_le (by omega)] at e1 e2
    rw [e1, e2, codeL_snoc, codeL_snoc] at h
    have hb : ∀ b c : Bool, ∀ x y : Nat, 2 * x + b.toNat = 2 * y + c.toNat → x = y ∧ b = c := fun b c x y h => by
      cases b <;> cases c <;> simp only [Bool.toNat_true, Bool.toNat_false] at h <;> first | exact ⟨by omega, rfl⟩ | omega
    obtain ⟨h3, h4⟩ := hb _ _ _ _ h
    have h5 := codeL_inj k (l.take k) (m.take k) (by simp; omega) (by simp; omega) h3
    rw [e1, e2, h5, h4]
/-- The truth values of a set; its number. -/
def bitL (n S : Nat) : List Bool := Lb n S.testBit
def codeN (n S : Nat) : Nat := codeL (bitL n S)
theorem bitL_len (n S : Nat) : (bitL n S).length = n := Lb_len _ _
theorem codeN_lt (n S : Nat) : codeN n S < 2 ^ n := by
  have := codeL_lt n (bitL n S) (by rw [bitL_len]; exact Nat.le_refl _)
  rwa [List.take_of_length_le (by rw [bitL_len]; exact Nat.le_refl _)] at this
theorem bitL_inj {n S T : Nat} (hS : S < 2 ^ n) (hT : T < 2 ^ n) (h : bitL n S = bitL n T) : S = T := by
  apply Nat.eq_of_testBit_eq
  intro i
  by_cases hi : i < n
  · have e := congrArg (fun l => l.getD i false) h
    simpa [bitL, Lb, List.getD_eq_getElem?_getD, List.getElem?_map, List.getElem?_range hi] using e
  · have hp : 2 ^ n ≤ 2 ^ i := Nat.pow_le_pow_right (by decide) (by omega)
    rw [Nat.testBit_lt_two_pow (by omega), Nat.testBit_lt_two_pow (by omega)]
theorem codeN_inj {n S T : Nat} (hS : S < 2 ^ n) (hT : T < 2 ^ n) (h : codeN n S = codeN n T) : S = T :=
  bitL_inj hS hT (codeL_inj n _ _ (bitL_len _ _) (bitL_len _ _) h)
end Go.Proofs.YtphpablchlpagaaDoor
namespace Go.Proofs.YtphpablchlpagaaDoor
open Go.RowKit Go.Shelf
section
variable {m : List (List Int)}
theorem full_lt (m : List (List Int)) : 2 ^ m.length - 1 < 2 ^ m.length := by have := Nat.two_pow_pos m.length; omega
end
end Go.Proofs.YtphpablchlpagaaDoor
namespace Go.Proofs.YtphpablchlpagaaDoor
open Go.RowKit Go.Shelf
/-- A slice of truth values, of numbers, in blocks of a kind. -/
def BoolsP (W : World) (P : Nat → Prop) (v : Value) (l : List Bool) : Prop :=
  ∃ A cap, v = .slice A l.length cap ∧ l.length ≤ big ∧ ∀ i, i < l.length → ∃ b off, A = some ⟨b, off, none⟩ ∧ P b ∧ W.cell? ⟨b, off + i, none⟩ = some (.bool (l.getD i false))
def IntsP (W : World) (P : Nat → Prop) (v : Value) (l : List Int) : Prop :=
  ∃ A cap, v = .slice A l.length cap ∧ (A = none → cap = 0) ∧ l.length ≤ big ∧ ∀ i, i < l.length → ∃ b off, A = some ⟨b, off, none⟩ ∧ P b ∧ W.cell? ⟨b, off + i, none⟩ = some (.int .i64 (l.getD i 0))
theorem IntsP.ints {W : World} {P : Nat → Prop} {v : Value} {l : List Int} (h : IntsP W P v l) : Ints W v l := by
  obtain ⟨A, cap, rfl, -, hl, hc⟩ := h
  exact ⟨A, cap, rfl, hl, fun i hi => by obtain ⟨b, off, h1, _, h2⟩ := hc i hi; exact ⟨b, off, h1, h2⟩⟩
theorem BoolsP.kept {W W' : World} {P P' : Nat → Prop} {v : Value} {l : List Bool} (h : BoolsP W P v l) (hk : ∀ b, P b → b < W.heap.size → W'.heap[b]? = W.heap[b]?) (hP : ∀ b, P b → b < W.heap.size → P' b) : BoolsP W' P' v l := by
  obtain ⟨A, cap, rfl, hl, hc⟩ := h
  refine ⟨A, cap, rfl, hl, fun i hi => ?_⟩
  obtain ⟨b, off, h1, h2, h3⟩ := hc i hi
  have hb : b < W.heap.size := World.block_lt_of_cell? _ _ h3
  exact ⟨b, off, h1, hP b h2 hb, (World.cell?_of_block (hk b h2 hb)).trans h3⟩
theorem IntsP.kept {W W' : World} {P P' : Nat → Prop} {v : Value} {l : List Int} (h : IntsP W P v l) (hk : ∀ b, P b → b < W.heap.size → W'.heap[b]? = W.heap[b]?) (hP : ∀ b, P b → b < W.heap.size → P' b) : IntsP W' P' v l := by
  obtain ⟨A, cap, rfl, h0, hl, hc⟩ := h
  refine ⟨A, cap, rfl, h0, hl, fun i hi => ?_⟩
  obtain ⟨b, off, h1, h2, h3⟩ := hc i hi
  have hb : b < W.heap.size := World.block_lt_of_cell? _ _ h3
  exact ⟨b, off, h1, hP b h2 hb, (World.cell?_of_block (hk b h2 hb)).trans h3⟩
theorem BoolsP.own {W : World} {n₀ g n c : Nat} {P : Nat → Prop} {l : List Bool} (h : W.ownsRow n₀ 4 1 (.slice (some ⟨g, 0, none⟩) n c) n (l.map fun x => .bool x)) (hl : l.length = n) (hn : n ≤ big) (hP : P g) : BoolsP W P (.slice (some ⟨g, 0, none⟩) n c) l := by
  subst hl
  refine ⟨_, c, rfl, hn, fun i hi => ⟨g, 0, rfl, hP, ?_⟩⟩
  rw [Nat.zero_add, h.cellAt i (by omega)]
  simp [List.getElem?_map, List.getElem?_eq_getElem hi, List.getD_eq_getElem?_getD]
theorem IntsP.own {W : World} {n₀ n : Nat} {v : Value} {P : Nat → Prop} {l : List Int} (h : W.ownsRow n₀ 3 1 v n (l.map fun x => .int .i64 x)) (hl : l.length = n) (hn : n ≤ big) (hP : ∀ g, v.ownBlock = some g → P g) : IntsP W P v l := by
  subst hl
  rcases h.2 with ⟨rfl, h0⟩ | ⟨g, cap, cur, rfl, hg, hh, r⟩
  · exact ⟨none, 0, by rw [h0], fun _ => rfl, hn, fun i hi => by omega⟩
  · refine ⟨_, cap, rfl, (fun e => by cases e), hn, fun i hi => ⟨g, 0, rfl, hP g rfl, ?_⟩⟩
    rw [Nat.zero_add, h.cellAt i (by omega)]
    simp [List.getElem?_map, List.getElem?_eq_getElem hi, List.getD_eq_getElem?_getD]
/-- One set with its word. -/
def EltP (W : World) (P : Nat → Prop) (n : Nat) (vi vw : Value) (e : Nat × List Int) : Prop := BoolsP W P vi (bitL n e.1) ∧ IntsP W P vw e.2
theorem EltP.kept {W W' : World} {P P' : Nat → Prop} {n : Nat} {vi vw : Value} {e : Nat × List Int} (h : EltP W P n vi vw e) (hk : ∀ b, P b → b < W.heap.size → W'.heap[b]? = W.heap[b]?) (hP : ∀ b, P b → b < W.heap.size → P' b) : EltP W' P' n vi vw e :=
  ⟨h.1.kept hk hP, h.2.kept hk hP⟩
theorem EltP.one {W : World} {P : Nat → Prop} {n : Nat} {vi vw : Value} {e : Nat × List Int} (h : EltP W P n vi vw e) : vi.oneCell' = true ∧ vw.oneCell' = true := by
  obtain ⟨⟨A, c, rfl, _⟩, ⟨A', c', rfl, _⟩⟩ := h
  exact ⟨rfl, rfl⟩
/-- All blocks but one are as they were. -/
def KK (mb : Nat) (w w' : World) : Prop := w.heap.size ≤ w'.heap.size ∧ ∀ b, b < w.heap.size → b ≠ mb → w'.heap[b]? = w.heap[b]?
theorem KK.refl (mb : Nat) (w : World) : KK mb w w := ⟨Nat.le_refl _, fun _ _ _ => rfl⟩
theorem KK.trans {mb : Nat} {w w' w'' : World} (h : KK mb w w') (k : KK mb w' w'') : KK mb w w'' :=
  ⟨Nat.le_trans h.1 k.1, fun b hb hne => (k.2 b (Nat.lt_of_lt_of_le hb h.1) hne).trans (h.2 b hb hne)⟩
theorem KK.below {mb n₀ : Nat} {w w' : World} (h : Below n₀ w w') (hn : n₀ = w.heap.size) : KK mb w w' := by
  subst hn
  exact ⟨h.size, fun b hb _ => h.block b hb⟩
theorem KK.step {mb : Nat} {w w' w'' : World} (h : KK mb w w') (k : Below w'.heap.size w' w'') : KK mb w w'' := h.trans (KK.below k rfl)
theorem KK.set {mb o : Nat} {w w' : World} {u : Value} (h : KK mb w w') : KK mb w (w'.setCell ⟨mb, o, none⟩ u) :=
  ⟨by simp [World.setCell]; exact h.1, fun b hb hne => (Below.heap_setCell _ _ _ _ (by simpa using hne)).trans (h.2 b hb hne)⟩
theorem KK.grown {mb n₀ : Nat} {w w' w5 : World} {v : Option Nat} (h : KK mb w w') (hg : w'.grownBy w5 v) (hv : ∀ g, v = some g → w.heap.size ≤ g) : KK mb w w5 :=
  ⟨Nat.le_trans h.1 hg.size, fun b hb hne => (hg.block b (Nat.lt_of_lt_of_le hb h.1) (fun e => by have := hv b e.symm; omega)).trans (h.2 b hb hne)⟩
theorem KK.cell {mb : Nat} {w w' : World} {a : Addr} {u : Value} (h : KK mb w w') (hc : w.cell? a = some u) (hne : a.block ≠ mb) : w'.cell? a = some u :=
  (World.cell?_of_block (h.2 a.block (World.block_lt_of_cell? _ _ hc) hne)).trans hc
/-- A level: sets with their words; no block of it is mb. -/
def LvlAt (W : World) (mb n : Nat) (v : Value) (L : List (Nat × List Int)) : Prop :=
  ∃ A cap, v = .slice A L.length cap ∧ ∀ i, i < L.length → ∃ b off vi vw, A = some ⟨b, off, none⟩ ∧ b ≠ mb ∧ W.cell? ⟨b, off + i * 2, none⟩ = some vi ∧ W.cell? ⟨b, off + i * 2 + 1, none⟩ = some vw ∧ EltP W (fun b => b ≠ mb) n vi vw (L.getD i (0, []))
theorem LvlAt.kk {W W' : World} {mb n : Nat} {v : Value} {L : List (Nat × List Int)} (h : LvlAt W mb n v L) (k : KK mb W W') : LvlAt W' mb n v L := by
  obtain ⟨A, cap, rfl, hc⟩ := h
  refine ⟨A, cap, rfl, fun i hi => ?_⟩
  obtain ⟨b, off, vi, vw, h1, h2, h3, h4, h5⟩ := hc i hi
  exact ⟨b, off, vi, vw, h1, h2, k.cell h3 h2, k.cell h4 h2, h5.kept (fun b hb hs => k.2 b hs hb) (fun _ h _ => h)⟩
section
variable {m : List (List Int)}
/-- The marks of the sets that were met. -/
def markF (n : Nat) (R : Steps) (c : Nat) : Bool := R.any fun t => codeN n t.1.toNat == c
theorem markF_has {n : Nat} {R : Steps} {T : Nat} (hR : GoodB (2 ^ n) R) (hT : T < 2 ^ n) : markF n R (codeN n T) = hasP R T := by
  unfold markF hasP
  rw [Bool.eq_iff_iff, List.any_eq_true, List.any_eq_true]
  constructor
  · rintro ⟨t, ht, he⟩
    refine ⟨t, ht, ?_⟩
    obtain ⟨i, hi, rfl⟩ := List.mem_iff_getElem.1 ht
    obtain ⟨p, hp, hpn⟩ := hR.below i hi
    unfold plB at hp
    rw [List.getD_eq_getElem?_getD, List.getElem?_eq_getElem hi, Option.getD_some] at hp
    rw [hp, Int.toNat_natCast] at he
    rw [hp, codeN_inj hpn hT (beq_iff_eq.1 he)]
    simp
  · rintro ⟨t, ht, he⟩
    refine ⟨t, ht, ?_⟩
    rw [beq_iff_eq.1 he, Int.toNat_natCast]
    simp
theorem markF_snoc (n : Nat) (R : Steps) (T : Nat) (i x : Int) (c : Nat) : markF n (R ++ [((T : Int), i, x)]) c = if c = codeN n T then true else markF n R c := by
  unfold markF
  rw [List.any_append]
  by_cases h : c = codeN n T
  · rw [if_pos h, h]; simp
  · rw [if_neg h]
    have : (codeN n T == c) = false := beq_eq_false_iff_ne.2 (fun e => h e.symm)
    simp [this]
end
end Go.Proofs.YtphpablchlpagaaDoor
namespace Go.Proofs.YtphpablchlpagaaDoor
open Go.RowKit Go.Shelf
theorem MRows.slice {W : World} {base : Nat} {v : Value} {m : List (List Int)} (h : MRows W base v m) : ∃ A c, v = .slice A m.length c ∧ ∀ g, v.ownBlock = some g → base ≤ g ∧ g < W.heap.size := by
  obtain ⟨xs, ho, _⟩ := h
  rcases ho.2 with ⟨hu, h0⟩ | ⟨g, cap, cur, hu, hg, hh, _⟩
  · exact ⟨none, 0, by rw [hu, h0], fun g' h => by rw [hu] at h; cases h⟩
  · exact ⟨_, cap, hu, fun g' h => by rw [hu] at h; cases h; exact ⟨hg, lt_of_block hh⟩⟩
end Go.Proofs.YtphpablchlpagaaDoor
namespace Go.Proofs.YtphpablchlpagaaDoor
open Go.RowKit Go.Shelf
/-- A trail: a set, the letter taken last, and the rest of the trail; in blocks of a kind. -/
def TrailP (W : World) (P : Nat → Prop) : List Int → Value → Nat → Prop
  | [], v, S => ∃ b, v = .pointer (some ⟨b, 0, none⟩) ∧ P b ∧ W.cell? ⟨b, 0, none⟩ = some (.int .u64 S) ∧ W.cell? ⟨b, 2, none⟩ = some (.pointer none)
  | x :: u, v, S => ∃ b r T, v = .pointer (some ⟨b, 0, none⟩) ∧ P b ∧ W.cell? ⟨b, 0, none⟩ = some (.int .u64 S) ∧ W.cell? ⟨b, 1, none⟩ = some (.int .i64 x) ∧ W.cell? ⟨b, 2, none⟩ = some r ∧ TrailP W P u r T
theorem TrailP.kept {W W' : World} {P P' : Nat → Prop} (hk : ∀ b, P b → b < W.heap.size → W'.heap[b]? = W.heap[b]?) (hP : ∀ b, P b → b < W.heap.size → P' b) : ∀ {u : List Int} {v : Value} {S : Nat}, TrailP W P u v S → TrailP W' P' u v S
  | [], v, S, h => by
    obtain ⟨b, h1, h2, h3, h4⟩ := h
    have hb : b < W.heap.size := World.block_lt_of_cell? _ _ h3
    exact ⟨b, h1, hP b h2 hb, (World.cell?_of_block (hk b h2 hb)).trans h3, (World.cell?_of_block (hk b h2 hb)).trans h4⟩
  | x :: u, v, S, h => by
    obtain ⟨b, r, T, h1, h2, h3, h4, h5, h6⟩ := h
    have hb : b < W.heap.size := World.block_lt_of_cell? _ _ h3
    exact ⟨b, r, T, h1, hP b h2 hb, (World.cell?_of_block (hk b h2 hb)).trans h3, (World.cell?_of_block (hk b h2 hb)).trans h4, (World.cell?_of_block (hk b h2 hb)).trans h5, TrailP.kept hk hP h6⟩
theorem TrailP.ptr {W : World} {P : Nat → Prop} {u : List Int} {v : Value} {S : Nat} (h : TrailP W P u v S) : ∃ b, v = .pointer (some ⟨b, 0, none⟩) ∧ P b ∧ b < W.heap.size ∧ W.cell? ⟨b, 0, none⟩ = some (.int .u64 S) := by
  cases u with
  | nil => obtain ⟨b, h1, h2, h3, _⟩ := h; exact ⟨b, h1, h2, World.block_lt_of_cell? _ _ h3, h3⟩
  | cons x u => obtain ⟨b, r, T, h1, h2, h3, _⟩ := h; exact ⟨b, h1, h2, World.block_lt_of_cell? _ _ h3, h3⟩
theorem TrailP.one {W : World} {P : Nat → Prop} {u : List Int} {v : Value} {S : Nat} (h : TrailP W P u v S) : v.oneCell' = true := by
  obtain ⟨b, rfl, _⟩ := h.ptr; rfl
/-- A level: trails; no block of it is mb. -/
def LvlT (W : World) (mb : Nat) (v : Value) (L : List Tr) : Prop :=
  ∃ A cap, v = .slice A L.length cap ∧ ∀ i, i < L.length → ∃ b off p, A = some ⟨b, off, none⟩ ∧ b ≠ mb ∧ W.cell? ⟨b, off + i, none⟩ = some p ∧ TrailP W (fun b => b ≠ mb) (L.getD i (0, [])).2 p (L.getD i (0, [])).1
theorem LvlT.kk {W W' : World} {mb : Nat} {v : Value} {L : List Tr} (h : LvlT W mb v L) (k : KK mb W W') : LvlT W' mb v L := by
  obtain ⟨A, cap, rfl, hc⟩ := h
  refine ⟨A, cap, rfl, fun i hi => ?_⟩
  obtain ⟨b, off, p, h1, h2, h3, h4⟩ := hc i hi
  exact ⟨b, off, p, h1, h2, k.cell h3 h2, h4.kept (fun b hb hs => k.2 b hs hb) (fun _ h _ => h)⟩
/-- A level that is being made, of the call's own from base on. -/
def MTr (W : World) (base mb : Nat) (v : Value) (L : List Tr) : Prop :=
  ∃ xs : List Value, W.ownsRow base 58 1 v L.length xs ∧ ∀ i, i < L.length → ∃ p, xs[i]? = some p ∧ TrailP W (fun b => b ≠ mb ∧ some b ≠ v.ownBlock) (L.getD i (0, [])).2 p (L.getD i (0, [])).1
theorem MTr.nil (W : World) (base mb : Nat) : MTr W base mb (.slice none 0 0) [] := ⟨[], World.ownsRow_nil _ _ _ _, fun i hi => by simp at hi⟩
theorem MTr.slice {W : World} {base mb : Nat} {v : Value} {L : List Tr} (h : MTr W base mb v L) : ∃ A c, v = .slice A L.length c ∧ ∀ g, v.ownBlock = some g → base ≤ g ∧ g < W.heap.size := by
  obtain ⟨xs, ho, _⟩ := h
  rcases ho.2 with ⟨hu, h0⟩ | ⟨g, cap, cur, hu, hg, hh, _⟩
  · exact ⟨none, 0, by rw [hu, h0], fun g' h => by rw [hu] at h; cases h⟩
  · exact ⟨_, cap, hu, fun g' h => by rw [hu] at h; cases h; exact ⟨hg, lt_of_block hh⟩⟩
/-- All blocks but mb may be needed: those are as they were. -/
theorem MTr.kk {W W' : World} {base mb : Nat} {v : Value} {L : List Tr} (h : MTr W base mb v L) (hm : mb < base) (k : KK mb W W') : MTr W' base mb v L := by
  obtain ⟨xs, ho, hx⟩ := h
  refine ⟨xs, owns_kept ho (fun b hb hs => k.2 b hs (by omega)), fun i hi => ?_⟩
  obtain ⟨p, h1, h3⟩ := hx i hi
  exact ⟨p, h1, h3.kept (fun b hb hs => k.2 b hs hb.1) (fun _ h _ => h)⟩
theorem MTr.lvl {W : World} {base mb : Nat} {v : Value} {L : List Tr} (h : MTr W base mb v L) (hm : mb < base) : LvlT W mb v L := by
  obtain ⟨A, c, hv, hb⟩ := h.slice
  obtain ⟨xs, ho, hx⟩ := h
  refine ⟨A, c, hv, fun i hi => ?_⟩
  obtain ⟨p, h1, h3⟩ := hx i hi
  rcases ho.2 with ⟨hu, h0⟩ | ⟨g, cap, cur, hu, hg, hh, _⟩
  · omega
  · rw [hu] at hv
    simp only [Value.slice.injEq] at hv
    obtain ⟨rfl, -, rfl⟩ := hv
    have k := World.ownsRow.cells ho (g := g) (by rw [hu]; rfl)
    have a1 := k _ _ h1
    simp only [Addr.add] at a1
    refine ⟨g, 0, p, rfl, by omega, ?_, h3.kept (fun _ _ _ => rfl) (fun b hb _ => hb.1)⟩
    by_cases e : i = 0
    · rw [e] at a1 ⊢; simpa using a1
    · simpa [e] using a1
/-- One more, by an append. -/
theorem MTr.pushed {W w5 : World} {base mb : Nat} {v v' p : Value} {L : List Tr} {xs : List Value} {e : Tr} (hx : ∀ i, i < L.length → ∃ p, xs[i]? = some p ∧ TrailP W (fun b => b ≠ mb ∧ some b ≠ v.ownBlock) (L.getD i (0, [])).2 p (L.getD i (0, [])).1) (hxl : xs.length = L.length)
    (he : TrailP W (fun b => b ≠ mb ∧ some b ≠ v.ownBlock) e.2 p e.1) (ho : w5.ownsRow base 58 1 v' (L.length + 1) (xs ++ [p])) (hg : W.grownBy w5 v.ownBlock) (hat : v'.ownBlock = v.ownBlock ∨ v'.ownBlock = some W.heap.size) : MTr w5 base mb v' (L ++ [e]) := by
  refine ⟨xs ++ [p], by simpa using ho, fun i hi => ?_⟩
  have key : ∀ {p : Value} {u : List Int} {S : Nat}, TrailP W (fun b => b ≠ mb ∧ some b ≠ v.ownBlock) u p S → TrailP w5 (fun b => b ≠ mb ∧ some b ≠ v'.ownBlock) u p S := fun h =>
    h.kept (fun b hb hs => hg.block b hs (fun e => hb.2 e)) (fun b hb hs => ⟨hb.1, fun e => by
      rcases hat with h1 | h1
      · exact hb.2 (e.trans h1)
      · rw [h1] at e
        have : b = W.heap.size := by simpa using e
        omega⟩)
  simp only [List.length_append, List.length_cons, List.length_nil] at hi
  by_cases hil : i < L.length
  · obtain ⟨p', h1, h3⟩ := hx i hil
    refine ⟨p', by rw [List.getElem?_append_left (by omega)]; exact h1, ?_⟩
    have e2 : (L ++ [e]).getD i (0, []) = L.getD i (0, []) := by simp [List.getD_eq_getElem?_getD, List.getElem?_append_left hil]
    rw [e2]; exact key h3
  · obtain rfl : i = L.length := by omega
    refine ⟨p, by rw [← hxl]; simp, ?_⟩
    have e2 : (L ++ [e]).getD L.length (0, []) = e := by simp [List.getD_eq_getElem?_getD]
    rw [e2]; exact key he
end Go.Proofs.YtphpablchlpagaaDoor
namespace Go.Proofs.YtphpablchlpagaaDoor
open Go.RowKit Go.Shelf
theorem pair_newV (w : World) (x y : Value) (t : TypeId) (k : Nat) (hk : k = w.heap.size) : ∀ j u, [x, y][j]? = some u → (w.alloc (.cells #[x, y] t)).cell? ((⟨k, 0, none⟩ : Addr).add j) = some u := by
  subst hk
  intro j u hj
  match j, hj with
  | 0, hj => simp at hj; subst hj; simp [Addr.add]
  | 1, hj => simp at hj; subst hj; simp [Addr.add]
/-- The table of marks. -/
def MetAt (W : World) (n₀ mb n N : Nat) (R : Steps) : Prop := W.ownsRow n₀ 4 1 (.slice (some ⟨mb, 0, none⟩) N N) N ((Lb N (markF n R)).map fun x => .bool x)
theorem MetAt.kept {W W' : World} {n₀ mb n N : Nat} {R : Steps} (h : MetAt W n₀ mb n N R) (hk : W'.heap[mb]? = W.heap[mb]?) : MetAt W' n₀ mb n N R := owns_block h hk
theorem MetAt.lt {W : World} {n₀ mb n N : Nat} {R : Steps} (h : MetAt W n₀ mb n N R) : n₀ ≤ mb ∧ mb < W.heap.size := ownq_lt h
theorem MetAt.cell {W : World} {n₀ mb n N T c : Nat} {R : Steps} (h : MetAt W n₀ mb n N R) (hN : 2 ^ n = N) (hR : GoodB (2 ^ n) R) (hT : T < 2 ^ n) (hc : codeN n T = c) : W.cell? ⟨mb, c, none⟩ = some (.bool (hasP R T)) := by
  have h1 := codeN_lt n T
  unfold MetAt at h
  rw [h.cellAt _ (by omega), Lb_cell _ (by omega), ← hc, markF_has hR hT]
theorem MetAt.set {W : World} {n₀ mb n N T c : Nat} {R : Steps} (h : MetAt W n₀ mb n N R) (hc : codeN n T = c) (i x : Int) : MetAt (W.setCell ⟨mb, c, none⟩ (.bool true)) n₀ mb n N (R ++ [((T : Int), i, x)]) := by
  have h1 := (World.ownsRow.stored h c (.bool true)).1
  rw [← List.map_set_bool, Lb_set] at h1
  have e : Lb N (fun a => if a = c then true else markF n R a) = Lb N (markF n (R ++ [((T : Int), i, x)])) := Lb_congr fun a _ => by rw [markF_snoc, hc]
  rw [e] at h1
  exact h1
theorem MetAt.free {W : World} {n₀ mb n N : Nat} {R : Steps} (h : MetAt W n₀ mb n N R) (c : Nat) : W.frozen? ⟨mb, c, none⟩ = false := World.ownsRow.frozenAt h c
end Go.Proofs.YtphpablchlpagaaDoor
namespace Go.Proofs.YtphpablchlpagaaDoor
open Go.RowKit Go.Shelf
theorem shl_pow {n N : Nat} (h : n ≤ 12) (hN : 2 ^ n = N) : wrap64 ((2 : Int) ^ n) = (N : Int) := by
  have : 2 ^ n ≤ 2 ^ 12 := Nat.pow_le_pow_right (by decide) h
  rw [pow_cast, hN]
  exact IntWalk.wrap64_in _ (by omega)
end Go.Proofs.YtphpablchlpagaaDoor
namespace Go.Proofs.YtphpablchlpagaaDoor
open Go.RowKit Go.Shelf
theorem infoTrailP : (Tryd.prog.info? 58).map (fun i => (i.zero, i.size, i.bytes)) = some (some (.pointer none), 1, 8) := by kernel_rfl
/-- 'append(longer, &trail{..})'. -/
theorem wpList_append_trail {W : World} {ops : Array Oper} {rest : List Oper} {o : Oper} {a : Act} {Q : Exit → Act → World → Prop} (hgd : o.guard = none) (s x : Operand)
    (ho : o.op = .call { callee := .builtin .append, args := #[s, x], argTypes := #[89, 89] }) (base mb : Nat) (v p : Value) (L : List Tr) (e : Tr) (t : TypeId) (w0 : World) (hW : W = w0.alloc (.cells #[p] t)) (k : Nat) (hk : k = w0.heap.size)
    (hs : a.eval s = v) (hM : MTr w0 base mb v L) (hx : a.eval x = .slice (some ⟨k, 0, none⟩) 1 1) (hu : TrailP w0 (fun b => b ≠ mb ∧ some b ≠ v.ownBlock) e.2 p e.1) (hb : base ≤ w0.heap.size) (hlen : L.length ≤ 100000)
    (h : ∀ A c w', MTr w' base mb (.slice A (L.length + 1) c) (L ++ [e]) → Below base w0 w' → w0.heap.size ≤ w'.heap.size → wpList Tryd.prog ops Q rest (a.put o.dst (.slice A (L.length + 1) c)) w') :
    wpList Tryd.prog ops Q (o :: rest) a W := by
  subst hk
  subst hW
  obtain ⟨i0, hi, hz0, hz1, hz2⟩ := info_parts infoTrailP
  obtain ⟨A0, c0, rfl, hblk⟩ := hM.slice
  obtain ⟨xs, hxo, hxx⟩ := id hM
  have hone : ∀ u' ∈ [p], u'.oneCell' = true := by
    intro u' hu'
    obtain rfl : u' = p := by simpa using hu'
    exact hu.one
  refine wpList_append_own_at _ hgd s x 89 ho base 58 i0 (.pointer none) 1 8 Tryd.underlying89 hi hz0 hz1 hz2 rfl (by decide) _ _ _ hs (hxo.alloc _) ⟨w0.heap.size, 0, none⟩ 1 1 [p] hx rfl (cell_one_new _ _ _) hone (by unfold maxLen; omega) (by omega) (by simp; omega) ?_
  intro v' w5 hown' hgrow' _ hat
  obtain ⟨g', cap', rfl⟩ := ownsRow_succ hown'
  have hB : Below base w0 w5 := ((Below.refl _ _).alloc hb _).grown hgrow' (by simp; omega) (fun q hq => (hblk q hq).1)
  refine h _ _ _ ?_ hB hB.size
  exact MTr.pushed (W := w0.alloc (.cells #[p] t)) (base := base) (v := .slice A0 L.length c0) (L := L) (e := e) (xs := xs) (p := p)
    (fun i hi => by obtain ⟨a, h1, h3⟩ := hxx i hi; exact ⟨a, h1, h3.kept (fun q _ hq => Below.heap_alloc _ _ _ hq) (fun _ h _ => h)⟩) (by have := hxo.1; omega)
    (hu.kept (fun q _ hq => Below.heap_alloc _ _ _ hq) (fun _ h _ => h)) hown' hgrow' hat
set_option maxRecDepth 100000 in
set_option maxHeartbeats 4000000 in
theorem word_any (v : Value) (S : Nat) (u : List Int) (w : World) (h : TrailP w (fun _ => True) u v S) (hl : u.length ≤ 5000) :
    Calls Tryd.prog 42 #[v] w fun e w' => ∃ r, e = .returned r ∧ w'.ownsRow w.heap.size 3 1 r u.length (u.map fun x => .int .i64 x) ∧ Below w.heap.size w w' := by
  obtain ⟨j0, hj, hy0, hy1, hy2⟩ := info_parts infoInt
  have HH := hid h
  clear h
  go_enter Tryd.func42, Tryd.ntmps42
  go_wp2_with fail
  go_loopg [0, 3] (u.length + 1) (fun k tv sv wr => ∃ (pre rest : List Int) (T : Nat), pre ++ rest = u ∧ rest.length + 1 = k ∧ TrailP w (fun _ => True) rest tv T ∧ wr.ownsRow w.heap.size 3 1 sv pre.length (pre.map fun x => .int .i64 x) ∧ Below w.heap.size w wr)
  case atStart => exact ⟨[], u, S, rfl, rfl, HH.out, World.ownsRow_nil _ _ _ _, Below.refl _ _⟩
  case round =>
    clear HH
    obtain ⟨pre, rest, T, hpr, hk, hT, hO, hB⟩ := hrel
    have Hpr := hid hpr
    have Hk := hid hk
    obtain ⟨A3, c3', rfl⟩ := ownsRow_slice hO
    have HO := hid hO
    have HT := hid hT
    have hpl : pre.length ≤ 5000 := by rw [← hpr] at hl; simp at hl; omega
    clear hpr hk
    cases rest with
    | nil =>
      obtain ⟨b, rfl, -, c1, c2⟩ := hT
      have d2 := (hB.cell (p := ⟨b, 2, none⟩) (World.block_lt_of_cell? _ _ c2)).trans c2
      clear hO c1 c2
      go_wp2_with fail
      go_ret
      have e : pre = u := by have := Hpr.out; simpa using this
      exact ⟨_, rfl, by rw [← e]; exact HO.out, hB⟩
    | cons x rest =>
      obtain ⟨b, r, T', rfl, -, c1, c2, c3, hT'⟩ := hT
      obtain ⟨b', rfl, -, -, -⟩ := hT'.ptr
      have d2 := (hB.cell (p := ⟨b, 1, none⟩) (World.block_lt_of_cell? _ _ c2)).trans c2
      have d3 := (hB.cell (p := ⟨b, 2, none⟩) (World.block_lt_of_cell? _ _ c3)).trans c3
      have HT' := hid hT'
      have C3 := hid c3
      have hsz := hB.size
      clear c1 c2 c3 hT'
      go_wp2_with (at_builtin; go_must (refine wpList_append_own_at _ rfl _ _ 34 rfl w.heap.size 3 j0 (.int .i64 0) 1 8 Tryd.underlying34 hj hy0 hy1 hy2 rfl (by decide) _ _ _ rfl (hO.alloc _) ⟨wr.heap.size, 0, none⟩ 1 1 [.int .i64 x] rfl rfl (cell_one_new _ _ _) (by simp [Value.oneCell']) (by unfold maxLen; omega) (by omega) (by simp; omega) ?_); intro v' w5 hown' hgrow' _ hat; have kB := appended_below hB hO hsz hgrow'; have e3 := (kB.cell (p := ⟨b, 2, none⟩) (World.block_lt_of_cell? _ _ C3.out)).trans C3.out)
      go_roundg (rest.length + 1)
      case measure => have := Hk.out; simp at this; omega
      case rel => exact ⟨pre ++ [x], rest, T', by rw [List.append_assoc]; exact Hpr.out, by have := Hk.out; simp at this; omega, HT'.out, by simpa using hown', kB⟩
end Go.Proofs.YtphpablchlpagaaDoor
namespace Go.Proofs.YtphpablchlpagaaDoor
open Go.RowKit Go.Shelf
theorem KK.grownAt {mb : Nat} {w w' w5 : World} (h : KK mb w w') (hg : w'.grownBy w5 (some mb)) : KK mb w w5 :=
  ⟨Nat.le_trans h.1 hg.size, fun b hb hne => (hg.block b (Nat.lt_of_lt_of_le hb h.1) (fun e => hne (by simpa using e))).trans (h.2 b hb hne)⟩
/-- The facts that hold behind each step of the search. -/
structure Srch (m : List (List Int)) (S : Nat) (w : World) (bm base : Nat) (wo wr : World) (L x i : Nat) (tr : List Tr) (seen0 : List Nat) (v : Value) (seen : List Nat) (lg : List Tr) : Prop where
  mid : MidI m S L tr x (tr.take i) seen0 seen lg
  si : SeenI m.length seen
  map : SeenMapS wr bm seen.length (fun T => decide (T ∈ seen))
  row : MTr wr base bm v lg
  len : seen0.length + lg.length = seen.length
  below : Below w.heap.size w wr
  kk : KK bm wo wr
theorem LvlT.elem {W : World} {mb n c i : Nat} {A : Option Addr} {L : List Tr} (h : LvlT W mb (.slice A n c) L) (hi : i < L.length) : ∃ b off p, A = some ⟨b, off, none⟩ ∧ b ≠ mb ∧ W.cell? ⟨b, off + i, none⟩ = some p ∧ TrailP W (fun b => b ≠ mb) (L.getD i (0, [])).2 p (L.getD i (0, [])).1 := by
  obtain ⟨A', c', hv, hc⟩ := h
  simp only [Value.slice.injEq] at hv
  obtain ⟨rfl, -, -⟩ := hv
  exact hc i hi
theorem take_split (L : List Tr) {i : Nat} (hi : i < L.length) : L.take i ++ L.getD i (0, []) :: L.drop (i + 1) = L ∧ L.take (i + 1) = L.take i ++ [L.getD i (0, [])] := by
  have e : L.getD i (0, []) = L[i] := by simp [List.getD_eq_getElem?_getD, hi]
  rw [e]
  exact ⟨by rw [← List.drop_eq_getElem_cons hi, List.take_append_drop], List.take_succ_eq_append_getElem hi⟩
/-- What the search promises. -/
def ExtIs (m : List (List Int)) (S : Nat) (w : World) (e : Ending) (w' : World) : Prop :=
  ((∃ u p T, FirstBig m S u ∧ u.length ≤ 4096 ∧ e = .returned p ∧ TrailP w' (fun _ => True) u p T) ∨ ((∀ u, WDm m u → ¬ szS S < szS (preWord m S u)) ∧ e = .returned (.pointer none))) ∧ Below w.heap.size w w'
set_option maxRecDepth 100000 in
set_option maxHeartbeats 8000000 in
theorem extended_any (v : Value) (m : List (List Int)) (S : Nat) (w : World) (h : Rows w v m) (hv : validM m = true) (h12 : m.length ≤ 12) (hS : S < 2 ^ m.length) :
    Calls Tryd.prog 40 #[.agg #[v], .int .u64 S] w (ExtIs m S w) := by
  obtain ⟨p1, p2, p3, p4, -⟩ := valid_parts hv
  have hr := h
  obtain ⟨A, cap, rfl, hml, hc⟩ := h
  obtain ⟨b0, off0, r0, hA, hc0, A0, cap0, hr0, -, -⟩ := hc 0 (by omega)
  subst hA
  subst hr0
  have hc0 : w.cell? ⟨b0, off0, none⟩ = some (.slice A0 (letters m) cap0) := hc0
  unfold big at hml
  clear hc
  have hpow : 2 ^ m.length ≤ 2 ^ 12 := Nat.pow_le_pow_right (by decide) h12
  have hN4 : 2 ^ m.length ≤ 4096 := hpow
  have hS6 : S < 1000000 := by omega
  have hS64 : S < 18446744073709551616 := by omega
  clear hpow
  obtain ⟨W0, hW0⟩ : ∃ W0, W0 = w.alloc (.cells #[.slice (some ⟨b0, off0, none⟩) m.length cap] 24) := ⟨_, rfl⟩
  have hs0 : W0.heap.size = w.heap.size + 1 := by rw [hW0]; simp
  have hX : Below w.heap.size w W0 := by rw [hW0]; exact bal (Below.refl _ w) _
  obtain ⟨w1, hput, hmap, hgr⟩ := (SeenMapS.made W0).put (by decide) S hS6
  rw [hs0] at hput hmap hgr
  rw [hW0] at hput
  have hmm := @run_makeMap Tryd.prog
  have hgs := hgr.size
  have hB1 : Below w.heap.size w w1 := (hX.alloc (by omega) _).grown hgr (by simp; omega) (fun q hq => by cases hq; omega)
  have hbx : W0.cell? ⟨w.heap.size, 0, none⟩ = some (.slice (some ⟨b0, off0, none⟩) m.length cap) := by rw [hW0]; simp [go_sem]
  have hbx1 : w1.cell? ⟨w.heap.size, 0, none⟩ = some (.slice (some ⟨b0, off0, none⟩) m.length cap) := (World.cell?_of_block ((hgr.block w.heap.size (by simp; omega) (by simp)).trans (Below.heap_alloc _ _ _ (by omega)))).trans hbx
  have hbm1 : w.heap.size + 1 < w1.heap.size := hmap.lt
  have HM := hid hmap
  have HB1 := hid hB1
  clear hmap hgr hbx hX hB1 hgs hs0
  subst hW0
  go_enter Tryd.func40, Tryd.ntmps40
  go_wp2_with fail
  have HL1 := hid (show LvlT ((w1.alloc (.cells #[.int .u64 S, .int .i64 0, .pointer none] 88)).alloc (.cells #[.pointer (some ⟨w1.heap.size, 0, none⟩)] 58)) (w.heap.size + 1) (.slice (some ⟨w1.heap.size + 1, 0, none⟩) 1 1) [(S, [])] from by
    refine ⟨_, 1, rfl, fun i hi => ?_⟩
    obtain rfl : i = 0 := by simpa using hi
    refine ⟨w1.heap.size + 1, 0, .pointer (some ⟨w1.heap.size, 0, none⟩), rfl, by omega, ?_, ⟨w1.heap.size, rfl, by omega, ?_, ?_⟩⟩
    · simp [go_sem]
    · simp [go_sem]
    · simp [go_sem])
  have HB3 := hid (bal (bal HB1.out (.cells #[.int .u64 S, .int .i64 0, .pointer none] 88)) (.cells #[.pointer (some ⟨w1.heap.size, 0, none⟩)] 58))
  have HM3 := hid (show SeenMapS ((w1.alloc (.cells #[.int .u64 S, .int .i64 0, .pointer none] 88)).alloc (.cells #[.pointer (some ⟨w1.heap.size, 0, none⟩)] 58)) (w.heap.size + 1) 1 (fun T => decide (T ∈ [S])) from by
    have e : (fun q : Nat => decide (q = S) || (fun _ => false) q) = fun T => decide (T ∈ [S]) := by funext q; simp
    rw [← e]
    exact HM.out.kept ((Below.heap_alloc _ _ _ (by simp; omega)).trans (Below.heap_alloc _ _ _ hbm1)))
  have hbx3 : ((w1.alloc (.cells #[.int .u64 S, .int .i64 0, .pointer none] 88)).alloc (.cells #[.pointer (some ⟨w1.heap.size, 0, none⟩)] 58)).cell? ⟨w.heap.size, 0, none⟩ = some (.slice (some ⟨b0, off0, none⟩) m.length cap) :=
    (World.cell?_of_block ((Below.heap_alloc _ _ _ (by simp; omega)).trans (Below.heap_alloc _ _ _ (by show w.heap.size < w1.heap.size; omega)))).trans hbx1
  generalize (w1.alloc (.cells #[.int .u64 S, .int .i64 0, .pointer none] 88)).alloc (.cells #[.pointer (some ⟨w1.heap.size, 0, none⟩)] 58) = w3 at *
  have Hr := hid hr
  clear hput hbx1 hr
  go_loopg [6] 4098 (fun k tv wr => ∃ (L : Nat) (tr : List Tr) (seen : List Nat), L + k = 4098 ∧ LvlT wr (w.heap.size + 1) tv tr ∧ LevI m S L seen tr ∧ SeenI m.length seen ∧ SeenMapS wr (w.heap.size + 1) seen.length (fun T => decide (T ∈ seen)) ∧ (tr ≠ [] → L + 1 ≤ seen.length) ∧ tr.length ≤ seen.length ∧ Below w.heap.size w wr ∧ wr.cell? ⟨w.heap.size, 0, none⟩ = some (.slice (some ⟨b0, off0, none⟩) m.length cap))
  case atStart => exact ⟨0, [(S, [])], [S], rfl, HL1.out, LevI.start m S, ⟨by simp, fun T hT => by rw [List.mem_singleton.1 hT]; exact hS⟩, HM3.out, fun _ => by simp, by simp, HB3.out, hbx3⟩
  case round =>
    clear HL1 HB3 HM3 hbx3 HM HB1
    obtain ⟨L, tr, seen0, hLk, hLv, hLev, hsi, hmp, hne, htl, hB, hbx⟩ := hrel
    have hsl := hsi.len
    obtain ⟨A6, c6, rfl⟩ : ∃ A c, u6 = .slice A tr.length c := by obtain ⟨A6, c6, hu, _⟩ := id hLv; exact ⟨A6, c6, hu⟩
    have HLv := hid hLv
    have HLev := hid hLev
    have Hsi := hid hsi
    have Hmp := hid hmp
    have Hne := hid hne
    have HLk := hid hLk
    have hmo := hmp.lt
    have HB := hid hB
    have hcb := (hB.cell (p := ⟨b0, off0, none⟩) (World.block_lt_of_cell? _ _ hc0)).trans hc0
    obtain ⟨wo, rfl⟩ : ∃ wo : World, wo = wr := ⟨_, rfl⟩
    clear hLv hLev hsi hmp hne hLk
    by_cases ht0 : tr.length = 0
    · have d1 : ¬ (0 : Int) < tr.length := by omega
      have d2 : decide ((0 : Int) < tr.length) = false := decide_eq_false d1
      have d3 : decide (0 < tr.length) = false := decide_eq_false (by omega)
      go_wp2_with fail
      go_ret
      obtain rfl : tr = [] := List.eq_nil_of_length_eq_zero ht0
      exact ⟨.inr ⟨HLev.out.none, rfl⟩, HB.out⟩
    · have d1 : (0 : Int) < tr.length := by omega
      have d2 : decide ((0 : Int) < tr.length) = true := decide_eq_true d1
      have d3 : decide (0 < tr.length) = true := decide_eq_true (by omega)
      have d4 : 0 < tr.length := by omega
      have hL1 : L + 1 ≤ seen0.length := Hne.out (fun e => by rw [e] at ht0; simp at ht0)
      go_wp2_with fail
      go_loopw [7, 27] (fun lv xv wx => ∃ (x : Nat) (seen : List Nat) (lg : List Tr), x ≤ letters m ∧ xv = .int .i64 x ∧ Srch m S w (w.heap.size + 1) wo.heap.size wo wx L x 0 tr seen0 lv seen lg) (fun _ xv _ => letters m - (intOf xv).toNat)
      case atStart => exact ⟨0, seen0, [], Nat.zero_le _, rfl, ⟨MidI.start m S L tr seen0, Hsi.out, Hmp.out, MTr.nil _ _ _, by simp, HB.out, KK.refl _ _⟩⟩
      case round =>
        obtain ⟨x, seen, lg, hx, rfl, hS1⟩ := hrel
        have HS1 := hid hS1
        obtain ⟨A7, c7, rfl, -⟩ := hS1.row.slice
        clear hS1
        by_cases hxl : x < letters m
        · have e1 : (x : Int) < letters m := by omega
          have e2 : decide (x < letters m) = true := decide_eq_true hxl
          obtain ⟨wx, rfl⟩ : ∃ wx : World, wx = wr := ⟨_, rfl⟩
          go_wp2_with fail
          go_loopw [7, 32] (fun lv iv wi => ∃ (i : Nat) (seen : List Nat) (lg : List Tr), i ≤ tr.length ∧ iv = .int .i64 i ∧ Srch m S w (w.heap.size + 1) wo.heap.size wo wi L x i tr seen0 lv seen lg) (fun _ iv _ => tr.length - (intOf iv).toNat)
          case atStart => exact ⟨0, seen, lg, Nat.zero_le _, rfl, HS1.out⟩
          case round =>
            clear HS1
            obtain ⟨i, seen, lg, hi, rfl, hS1⟩ := hrel
            have HS1 := hid hS1
            obtain ⟨A7, c7, rfl, hown⟩ := hS1.row.slice
            have hsil := hS1.si.len
            have hlen := hS1.len
            have hkk := hS1.kk
            have hbl := hS1.below
            have hmpl := hS1.map.lt
            clear hS1
            by_cases hil : i < tr.length
            · have f1 : (i : Int) < tr.length := by omega
              have f2 : decide (i < tr.length) = true := decide_eq_true hil
              obtain ⟨b, off, p, hA6, hbm, c1, hTr⟩ := HLv.out.elem hil
              subst hA6
              obtain ⟨hsp, htk⟩ := take_split tr hil
              obtain ⟨T, u, hTu⟩ : ∃ T u, tr.getD i (0, []) = (T, u) := ⟨_, _, rfl⟩
              rw [hTu] at hTr hsp htk
              simp only at hTr
              obtain ⟨c, rfl, hcm, hcl, c2⟩ := hTr.ptr
              have hmem : (T, u) ∈ tr := by rw [← hsp]; simp
              obtain ⟨o1, o2, o3⟩ := HLev.out.ok _ hmem
              simp only at o1 o2 o3
              have hTlt : T < 2 ^ m.length := by rw [o3]; exact preWord_lt hv hS u
              have hT64 : T < 2 ^ 64 := by omega
              obtain ⟨q, hq⟩ : ∃ q, preSet m T (x : Int) = q := ⟨_, rfl⟩
              have hqlt : q < 2 ^ m.length := by rw [← hq]; exact preSet_lt hv T x
              have hq64 : q < 18446744073709551616 := by omega
              have hq6 : q < 1000000 := by omega
              have Hq := hid hq
              have g1 := hkk.cell c1 hbm
              have g2 := hkk.cell c2 hcm
              have g3 := hkk.cell hbx (by show w.heap.size ≠ w.heap.size + 1; omega)
              have hrr := Hr.out.below hbl
              have HTr := hid hTr
              have Hsp := hid hsp
              have Htk := hid htk
              have Ho2 := hid o2
              have Hown := hid hown
              have Hkk := hid hkk
              clear c1 c2 hTr hsp htk hmem o1 o2 o3 hTu hq hown
              obtain ⟨wi, rfl⟩ : ∃ wi : World, wi = wr := ⟨_, rfl⟩
              have HPre := hid (fun n : Nat => (show Calls Tryd.prog 54 #[.int .u64 T, .slice (some ⟨b0, off0, none⟩) m.length cap, .int .i64 x] (wi.drewN n) fun e w' => e = .returned (.int .u64 (q : Nat)) ∧ w' = wi.drewN n from
                (SetPreimage_any _ m T x _ (hrr.drewN _) hv hT64 hxl).mono fun _ _ ⟨h1, h2⟩ => ⟨h1.trans (by rw [← Hq.out]; rfl), h2.symm⟩))
              clear hrr
              go_wp2_with fail
              go_quiet ((go_at_call 54; exact Calls.quiet_of_same (HPre.out _)))
              have bq : Below wi.heap.size wi (wi.drewN nq) := bdr (Below.refl _ _) nq
              have hZ : Srch m S w (w.heap.size + 1) wo.heap.size wo (wi.drewN nq) L x i tr seen0 (.slice A7 lg.length c7) seen lg := by
                have h1 := HS1.out
                exact ⟨h1.mid, h1.si, h1.map.kept (bq.block _ hmpl), h1.row.kk hmo (KK.below bq rfl), h1.len, btr hbl bq, Hkk.out.step bq⟩
              generalize wi.drewN nq = Z at *
              have HZ := hid hZ
              have hmz := hZ.map.lt
              have hbz := hZ.below
              have hlook := hZ.map.look q hq6
              obtain ⟨cq, hcq⟩ : ∃ c, (elems q).length = c := ⟨_, rfl⟩
              obtain ⟨cS, hcS⟩ : ∃ c, (elems S).length = c := ⟨_, rfl⟩
              have hz1 := Size_any q Z hq64
              have hz2 := Size_any S Z hS64
              rw [hcq] at hz1
              rw [hcS] at hz2
              have Hz1 := hid hz1
              have Hz2 := hid hz2
              have Hcq := hid hcq
              have HcS := hid hcS
              have hcq64 : cq ≤ 64 := by rw [← hcq]; exact elems_length q
              have hcS64 : cS ≤ 64 := by rw [← hcS]; exact elems_length S
              have hwiZ := bq.size
              clear HS1 hkk hbl hZ hcq hcS hz1 hz2 g1 g2 g3 HPre hmpl bq
              by_cases hbig : cS < cq
              · have k1 : (cS : Int) < cq := by omega
                have k2 : decide ((cS : Int) < cq) = true := decide_eq_true k1
                have k3 : decide (cS < cq) = true := decide_eq_true hbig
                go_wp2_with fail
                refine Hz1.out.mono ?_
                rintro e w' ⟨rfl, rfl⟩
                go_wp2_with fail
                refine Hz2.out.mono ?_
                rintro e w' ⟨rfl, rfl⟩
                go_wp2_with fail
                go_ret
                have K8 : KK (w.heap.size + 1) wo (Z.alloc (.cells #[.int .u64 q, .int .i64 x, .pointer (some ⟨c, 0, none⟩)] 88)) := HZ.out.kk.step (bal (Below.refl _ Z) _)
                refine ⟨.inl ⟨(x : Int) :: u, _, q, MidI.big HLev.out hxl Hsp.out HZ.out.mid (by rw [Hq.out]; unfold szS; rw [Hcq.out, HcS.out]; exact hbig), by have := Ho2.out; simp; omega, rfl, ⟨Z.heap.size, .pointer (some ⟨c, 0, none⟩), T, rfl, trivial, ?_, ?_, ?_, HTr.out.kept (fun b hb hs => K8.2 b hs hb) (fun _ _ _ => trivial)⟩⟩, bal hbz _⟩
                · simp [go_sem]
                · simp [go_sem]
                · simp [go_sem]
              · have k1 : ¬ (cS : Int) < cq := by omega
                have k2 : decide ((cS : Int) < cq) = false := decide_eq_false k1
                have k3 : decide (cS < cq) = false := decide_eq_false hbig
                cases hse : decide (q ∈ seen) with
                | true =>
                  rw [hse] at hlook
                  go_wp2_with fail
                  refine Hz1.out.mono ?_
                  rintro e w' ⟨rfl, rfl⟩
                  go_wp2_with fail
                  refine Hz2.out.mono ?_
                  rintro e w' ⟨rfl, rfl⟩
                  go_wp2_with fail
                  go_roundw
                  case rel =>
                    have h1 := HZ.out
                    refine ⟨i + 1, seen, lg, by omega, by go_num, ⟨?_, h1.si, h1.map, h1.row, h1.len, h1.below, h1.kk⟩⟩
                    rw [Htk.out]
                    exact MidI.old HLev.out Hsp.out h1.mid (by rw [Hq.out]; unfold szS; rw [Hcq.out, HcS.out]; exact hbig) (by rw [Hq.out]; exact of_decide_eq_true hse)
                  case measure => simp [intOf]; omega
                | false =>
                  rw [hse] at hlook
                  have hno : q ∉ seen := of_decide_eq_false hse
                  obtain ⟨w5, hput5, hmp5, hgr5⟩ := HZ.out.map.put (by have := Hsi.out.len; omega) q hq6
                  have hs5 := hgr5.size
                  have K5 : KK (w.heap.size + 1) wo w5 := HZ.out.kk.grownAt hgr5
                  have K6 : KK (w.heap.size + 1) wo (w5.alloc (.cells #[.int .u64 q, .int .i64 x, .pointer (some ⟨c, 0, none⟩)] 88)) := K5.step (bal (Below.refl _ w5) _)
                  have HMT := hid (HZ.out.row.kk hmo (((KK.refl (w.heap.size + 1) Z).grownAt hgr5).step (bal (Below.refl _ w5) (.cells #[.int .u64 q, .int .i64 x, .pointer (some ⟨c, 0, none⟩)] 88))))
                  have HTP := hid (show TrailP (w5.alloc (.cells #[.int .u64 q, .int .i64 x, .pointer (some ⟨c, 0, none⟩)] 88)) (fun b => b ≠ w.heap.size + 1 ∧ some b ≠ (Value.slice A7 lg.length c7).ownBlock) ((x : Int) :: u) (.pointer (some ⟨w5.heap.size, 0, none⟩)) q from by
                    refine ⟨w5.heap.size, .pointer (some ⟨c, 0, none⟩), T, rfl, ⟨by omega, fun e => by have := (Hown.out _ e.symm).2; omega⟩, ?_, ?_, ?_, HTr.out.kept (fun b hb hs => K6.2 b hs hb) (fun b hb hs => ⟨hb, fun e => by have := (Hown.out _ e.symm).1; omega⟩)⟩
                    · simp [go_sem]
                    · simp [go_sem]
                    · simp [go_sem])
                  have hB5 : Below w.heap.size w w5 := hbz.grown hgr5 (by have := hbz.size; omega) (fun g hg => by
                    have : w.heap.size + 1 = g := by simpa using hg
                    omega)
                  have hwo5 : wo.heap.size ≤ w5.heap.size := K5.1
                  have HK6 := hid K6
                  have HB5 := hid hB5
                  have Hmp5 := hid hmp5
                  clear hgr5 K5 K6 hB5 hmp5
                  go_wp2_with fail
                  refine Hz1.out.mono ?_
                  rintro e w' ⟨rfl, rfl⟩
                  go_wp2_with fail
                  refine Hz2.out.mono ?_
                  rintro e w' ⟨rfl, rfl⟩
                  go_wp2_with (at_builtin; go_must (refine wpList_append_trail rfl _ _ rfl wo.heap.size (w.heap.size + 1) (.slice A7 lg.length c7) (.pointer (some ⟨w5.heap.size, 0, none⟩)) lg (q, (x : Int) :: u) 58 (w5.alloc (.cells #[.int .u64 q, .int .i64 x, .pointer (some ⟨c, 0, none⟩)] 88)) rfl (w5.heap.size + 1) (by simp) rfl HMT.out rfl HTP.out (by simp; omega) (by omega) ?_); intro A8 c8 w8 hM8 hB8 hs8)
                  go_roundw
                  case rel =>
                    have h1 := HZ.out
                    refine ⟨i + 1, q :: seen, lg ++ [(q, (x : Int) :: u)], by omega, by go_num, ⟨?_, h1.si.add hqlt hno, ?_, by simpa using hM8, by simp; omega, ?_, ⟨Nat.le_trans HK6.out.1 hB8.size, fun b hb hne => (hB8.block b hb).trans (HK6.out.2 b hb hne)⟩⟩⟩
                    · rw [Htk.out]
                      have := MidI.add HLev.out hxl Hsp.out h1.mid (by rw [Hq.out]; unfold szS; rw [Hcq.out, HcS.out]; exact hbig)
                      rw [Hq.out] at this
                      exact this
                    · have e : (fun q' : Nat => decide (q' = q) || decide (q' ∈ seen)) = fun T => decide (T ∈ q :: seen) := by funext q'; simp
                      rw [← e]
                      exact Hmp5.out.kept ((hB8.block _ hmo).trans (Below.heap_alloc _ _ _ (by omega)))
                    · exact (bal HB5.out _).trans (hB8.mono (by omega))
                  case measure => simp [intOf]; omega
            · have f1 : ¬ (i : Int) < tr.length := by omega
              have f2 : decide (i < tr.length) = false := decide_eq_false hil
              obtain rfl : i = tr.length := by omega
              go_wp2_with fail
              go_roundw
              case rel =>
                have h1 := HS1.out
                have hm := h1.mid
                rw [List.take_length] at hm
                exact ⟨x + 1, seen, lg, by omega, by go_num, ⟨hm.next, h1.si, h1.map, h1.row, h1.len, h1.below, h1.kk⟩⟩
              case measure => simp [intOf]; omega
        · have e1 : ¬ (x : Int) < letters m := by omega
          have e2 : decide (x < letters m) = false := decide_eq_false hxl
          obtain rfl : x = letters m := by omega
          go_wp2_with fail
          go_roundg (4098 - (L + 1))
          case measure => have := HLk.out; omega
          case rel =>
            have h1 := HS1.out
            exact ⟨L + 1, lg, seen, by omega, h1.row.lvl hmo, MidI.lev HLev.out h1.mid, h1.si, h1.map, fun e => by
              have := h1.len
              have : 0 < lg.length := List.length_pos_iff.2 e
              omega, by have := h1.len; omega, h1.below, h1.kk.cell hbx (by show w.heap.size ≠ w.heap.size + 1; omega)⟩
end Go.Proofs.YtphpablchlpagaaDoor
namespace Go.Proofs.YtphpablchlpagaaDoor
open Go.RowKit Go.Shelf
theorem ints_nilU (w : World) : Ints w (.slice none 0 0) [] := ⟨none, 0, rfl, by simp [big], fun i hi => by simp at hi⟩
theorem Extend_form (v s : Value) (m : List (List Int)) (sl : List Int) (w : World) (hT : Tab w) (h : Rows w v m) (hs : Ints w s sl) (hv : validM m = false) :
    Calls Tryd.prog 17 #[.agg #[v], s] w (ListErr w 1) := by
  obtain ⟨A, cap, rfl, hml, -⟩ := id h
  obtain ⟨As, caps, rfl, hls, -⟩ := id hs
  have hB := bal (Below.refl _ w) (.cells #[.slice A m.length cap] 24)
  have hbx : (w.alloc (.cells #[.slice A m.length cap] 24)).cell? ⟨w.heap.size, 0, none⟩ = some (.slice A m.length cap) := by simp [go_sem]
  go_enter Tryd.func17, Tryd.ntmps17
  go_wp2_with fail
  refine (Preimage_form _ _ _ m sl [] _ (hT.on hB) (h.below hB) (hs.below hB) (ints_nilU _) hv).mono ?_
  rintro e w1 ⟨rfl, h1⟩
  go_wp2_with fail
  go_ret2
  exact ⟨rfl, btr hB h1⟩
theorem Extend_arg (v s : Value) (m : List (List Int)) (sl : List Int) (w : World) (hT : Tab w) (h : Rows w v m) (hs : Ints w s sl) (hv : validM m = true) (ha : isSetM m sl = false) :
    Calls Tryd.prog 17 #[.agg #[v], s] w (ListErr w 2) := by
  obtain ⟨A, cap, rfl, hml, -⟩ := id h
  obtain ⟨As, caps, rfl, hls, -⟩ := id hs
  have hB := bal (Below.refl _ w) (.cells #[.slice A m.length cap] 24)
  have hbx : (w.alloc (.cells #[.slice A m.length cap] 24)).cell? ⟨w.heap.size, 0, none⟩ = some (.slice A m.length cap) := by simp [go_sem]
  go_enter Tryd.func17, Tryd.ntmps17
  go_wp2_with fail
  refine (Preimage_arg _ _ _ m sl [] _ (hT.on hB) (h.below hB) (hs.below hB) (ints_nilU _) hv (by rw [ha]; rfl)).mono ?_
  rintro e w1 ⟨rfl, h1⟩
  go_wp2_with fail
  go_ret2
  exact ⟨rfl, btr hB h1⟩
theorem nil_word {m : List (List Int)} : isWordM m [] = true := by simp [isWordM]
theorem Extend_size (v s : Value) (m : List (List Int)) (sl : List Int) (w : World) (hT : Tab w) (h : Rows w v m) (hs : Ints w s sl) (hv : validM m = true) (ha : isSetM m sl = true) (h12 : 12 < m.length) :
    Calls Tryd.prog 17 #[.agg #[v], s] w (ListErr w 3) := by
  obtain ⟨A, cap, rfl, hml, -⟩ := id h
  obtain ⟨As, caps, rfl, hls, -⟩ := id hs
  have hB := bal (Below.refl _ w) (.cells #[.slice A m.length cap] 24)
  have hbx : (w.alloc (.cells #[.slice A m.length cap] 24)).cell? ⟨w.heap.size, 0, none⟩ = some (.slice A m.length cap) := by simp [go_sem]
  have d1 : (12 : Int) < m.length := by omega
  have d2 : decide ((12 : Int) < m.length) = true := decide_eq_true d1
  have d3 : decide (12 < m.length) = true := decide_eq_true h12
  go_enter Tryd.func17, Tryd.ntmps17
  go_wp2_with fail
  refine (Preimage_ok _ _ _ m sl [] _ (hT.on hB) (h.below hB) (hs.below hB) (ints_nilU _) hv ha nil_word).mono ?_
  rintro e w1 ⟨r, rfl, hr, h1⟩
  have hb1 := (h1.cell (p := ⟨w.heap.size, 0, none⟩) (World.block_lt_of_cell? _ _ hbx)).trans hbx
  clear hr
  go_wp2_with fail
  go_ret2
  exact ⟨rfl, btr hB h1⟩
def ExtP (m : List (List Int)) (S : Nat) (w : World) (p : Value) : Prop :=
  (∃ u T, FirstBig m S u ∧ u.length ≤ 4096 ∧ TrailP w (fun _ => True) u p T) ∨ ((∀ u, WDm m u → ¬ szS S < szS (preWord m S u)) ∧ p = .pointer none)
theorem extended_as (v : Value) (m : List (List Int)) (S : Nat) (w : World) (h : Rows w v m) (hv : validM m = true) (h12 : m.length ≤ 12) (hS : S < 2 ^ m.length) :
    Calls Tryd.prog 40 #[.agg #[v], .int .u64 S] w fun e w' => ∃ p, e = .returned p ∧ ExtP m S w' p ∧ Below w.heap.size w w' := by
  refine (extended_any v m S w h hv h12 hS).mono ?_
  rintro e w' ⟨⟨u, p, T, h1, h2, rfl, h3⟩ | ⟨h1, rfl⟩, hb⟩
  · exact ⟨p, rfl, .inl ⟨u, T, h1, h2, h3⟩, hb⟩
  · exact ⟨_, rfl, .inr ⟨h1, rfl⟩, hb⟩
/-- What Extend returns of an automaton and a set that may be searched. -/
def ExtendIs (m : List (List Int)) (S : Nat) (w : World) (e : Ending) (w' : World) : Prop :=
  ((∃ u r, FirstBig m S u ∧ u.length ≤ 4096 ∧ e = .returned (.tuple #[r, .int .i64 0]) ∧ w'.ownsRow w.heap.size 3 1 r u.length (u.map fun x => .int .i64 x)) ∨
    ((∀ u, WDm m u → ¬ szS S < szS (preWord m S u)) ∧ e = .returned (.tuple #[.slice none 0 0, .int .i64 4]))) ∧ Below w.heap.size w w'
set_option maxRecDepth 100000 in
set_option maxHeartbeats 4000000 in
theorem Extend_ok (v s : Value) (m : List (List Int)) (sl : List Int) (w : World) (hT : Tab w) (h : Rows w v m) (hs : Ints w s sl) (hv : validM m = true) (ha : isSetM m sl = true) (h12 : m.length ≤ 12) :
    Calls Tryd.prog 17 #[.agg #[v], s] w (ExtendIs m (ofList sl) w) := by
  obtain ⟨p1, p2, -⟩ := valid_parts hv
  obtain ⟨A, cap, rfl, hml, -⟩ := id h
  obtain ⟨As, caps, rfl, hls, -⟩ := id hs
  have hSlt := ofList_lt m.length (by omega) sl (isSetM_mem ha)
  have h64 : ∀ x ∈ sl, 0 ≤ x ∧ x < 64 := fun x hx => by have := isSetM_mem ha x hx; omega
  obtain ⟨S, hS⟩ : ∃ S, ofList sl = S := ⟨_, rfl⟩
  rw [hS] at hSlt ⊢
  have HS := hid hS
  clear hS
  have hB := bal (Below.refl _ w) (.cells #[.slice A m.length cap] 24)
  have hbx : (w.alloc (.cells #[.slice A m.length cap] 24)).cell? ⟨w.heap.size, 0, none⟩ = some (.slice A m.length cap) := by simp [go_sem]
  have d1 : ¬ (12 : Int) < m.length := by omega
  have d2 : decide ((12 : Int) < m.length) = false := decide_eq_false d1
  have d3 : decide (12 < m.length) = false := decide_eq_false (by omega)
  go_enter Tryd.func17, Tryd.ntmps17
  go_wp2_with fail
  refine (Preimage_ok _ _ _ m sl [] _ (hT.on hB) (h.below hB) (hs.below hB) (ints_nilU _) hv ha nil_word).mono ?_
  rintro e w1 ⟨r, rfl, hr, h1⟩
  have hb1 := (h1.cell (p := ⟨w.heap.size, 0, none⟩) (World.block_lt_of_cell? _ _ hbx)).trans hbx
  have hB1 := btr hB h1
  have hr1 := h.below hB1
  have hs1 := hs.below hB1
  have HOf := hid (fun (W : World) (hW : Below w.heap.size w W) => (show Calls Tryd.prog 41 #[.slice As sl.length caps] W fun e w' => e = .returned (.int .u64 (S : Nat)) ∧ W = w' from by
    rw [← HS.out]; exact Of_any _ sl W (hs.below hW) h64))
  have hlt1 := World.block_lt_of_cell? _ _ hb1
  clear hr h hs hbx hB h1 hs1
  go_upto_region 6 with fail
  go_cut [8] from 22 to 25 (fun p wc => ExtP m S wc p ∧ Below w1.heap.size w1 wc)
  case first =>
    go_region_held (fun w' => Below w1.heap.size w1 w' ∧ w'.cell? ⟨w.heap.size, 0, none⟩ = some (.slice A m.length cap)) (exact held_one hb1 (by first | exact below_dr w1 1 | assumption)) (first
      | (go_at_call 41; go_must (refine (HOf.out _ (btr hB1 (by first | exact below_dr w1 1 | exact Below.refl _ _))).mono ?_; rintro e y1 ⟨rfl, hy1⟩; have k1 : Below w1.heap.size w1 y1 := (by rw [← hy1]; first | exact below_dr w1 1 | exact Below.refl _ _); clear hy1))
      | (go_at_call 40; go_must (refine (extended_as _ m S _ (hr1.below (by first | exact k1 | exact bdr k1 1)) hv h12 hSlt).mono ?_; rintro e y2 ⟨p8, rfl, hE, hy2⟩; have HE := hid hE; have k2 : Below w1.heap.size w1 y2 := btr (by first | exact k1 | exact bdr k1 1) hy2; clear hE)))
    all_goals (go_wp2_with fail; go_meet; exact ⟨HE.out, k2⟩)
  case rest =>
    obtain ⟨hE, C0⟩ := hcut
    rcases hE with ⟨u, T, hF, hl, hTP⟩ | ⟨hno, rfl⟩
    · obtain ⟨b, rfl, -, -, -⟩ := id hTP.ptr
      have HTP := hid hTP
      have HF := hid hF
      clear hTP hF
      go_wp2_with fail
      refine (word_any _ T u _ HTP.out (by omega)).mono ?_
      rintro e y3 ⟨r3, rfl, ho, hy3⟩
      go_wp2_with fail
      go_ret2
      exact ⟨.inl ⟨u, r3, HF.out, hl, rfl, row_mono ho (by have := hB1.size; have := C0.size; omega)⟩, btr (btr hB1 C0) hy3⟩
    · have Hno := hid hno
      clear hno
      go_wp2_with fail
      go_ret2
      exact ⟨.inr ⟨Hno.out, rfl⟩, btr hB1 C0⟩
end Go.Proofs.YtphpablchlpagaaDoor
namespace Go.Proofs.YtphpablchlpagaaDoor
open Go.RowKit Go.Shelf
/-- The same roads: each state is led to from each state by some letter in both or in neither. -/
def Alike (m k : List (List Int)) : Prop := k.length = m.length ∧ letters k = letters m ∧ ∀ s, s < m.length → ∀ t, (∃ x, x < letters m ∧ nx m s (x : Int) = t) ↔ ∃ x, x < letters m ∧ nx k s (x : Int) = t
theorem Alike.symm {m k : List (List Int)} (h : Alike m k) : Alike k m := by
  obtain ⟨h1, h2, h3⟩ := h
  refine ⟨h1.symm, h2.symm, fun s hs t => ?_⟩
  rw [h2]
  exact (h3 s (by omega) t).symm
section
variable {m k : List (List Int)}
end
/-- How many times a number occurs. -/
def timesL (l : List Int) (n : Int) : Nat := (l.filter fun x => x == n).length
theorem timesL_perm {l k : List Int} (h : l.Perm k) (n : Int) : timesL l n = timesL k n := (h.filter _).length_eq
/-- Equal numbers of roads: the same roads. -/
def sameM (m k : List (List Int)) : Bool := decide (m.length = k.length) && decide (letters m = letters k) && (List.range m.length).all fun s => (List.range m.length).all fun t : Nat => timesL (m.getD s []) t == timesL (k.getD s []) t
end Go.Proofs.YtphpablchlpagaaDoor
