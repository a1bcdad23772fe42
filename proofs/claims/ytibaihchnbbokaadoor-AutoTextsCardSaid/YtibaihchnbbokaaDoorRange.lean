/-
  A loop over a function: what an iterator promises that may own memory of its own, and the law of the statement over such an iterator.
-/
import Derived.Test.YtibaihchnbbokaaDoorRep
import Derived.RangeFuncNested
import Derived.RangeFuncBound
import Derived.RangeFuncCalls
import Derived.RangeFuncLeaves
import Derived.Shelf.Abstract
import Derived.OwnWalkIn
import Derived.TacticsInMore
import Derived.LoopNIn
import Derived.LoopIn
namespace Go.Proofs.YtibaihchnbbokaaDoor
open Go.RowKit Go.Shelf

/-- A set of blocks. -/
abbrev Blocks := Nat → Prop

/-- Only the blocks of X may have been turned; new ones may have come. -/
structure Turn (X : Blocks) (W W' : World) : Prop where
  os : W'.os = W.os
  tape : W'.tape = W.tape
  output : W'.output = W.output
  size : W.heap.size ≤ W'.heap.size
  block : ∀ k, k < W.heap.size → ¬ X k → W'.heap[k]? = W.heap[k]?

theorem Turn.refl (X : Blocks) (W : World) : Turn X W W := ⟨rfl, rfl, rfl, Nat.le_refl _, fun _ _ _ => rfl⟩
theorem Turn.trans {X Y : Blocks} {A B C : World} (h : Turn X A B) (k : Turn Y B C) (hXY : ∀ i, Y i → X i ∨ A.heap.size ≤ i) : Turn X A C :=
  ⟨k.os.trans h.os, k.tape.trans h.tape, k.output.trans h.output, Nat.le_trans h.size k.size, fun i hi hX => (k.block i (Nat.lt_of_lt_of_le hi h.size) (fun hY => by
    rcases hXY i hY with h1 | h1
    · exact hX h1
    · omega)).trans (h.block i hi hX)⟩
theorem Turn.of_below {X : Blocks} {W W' : World} (h : Below W.heap.size W W') : Turn X W W' := ⟨h.os, h.tape, h.output, h.size, fun k hk _ => h.block k hk⟩

/-- What a round keeps: whatever lies below n₀, and the iterator's own blocks. -/
structure Keep (n₀ : Nat) (X : Blocks) (W W' : World) : Prop where
  os : W'.os = W.os
  tape : W'.tape = W.tape
  output : W'.output = W.output
  size : W.heap.size ≤ W'.heap.size
  block : ∀ k, k < W.heap.size → (k < n₀ ∨ X k) → W'.heap[k]? = W.heap[k]?

theorem Keep.refl (n₀ : Nat) (X : Blocks) (W : World) : Keep n₀ X W W := ⟨rfl, rfl, rfl, Nat.le_refl _, fun _ _ _ => rfl⟩
theorem Keep.trans {n₀ : Nat} {X : Blocks} {A B C : World} (h : Keep n₀ X A B) (k : Keep n₀ X B C) : Keep n₀ X A C :=
  ⟨k.os.trans h.os, k.tape.trans h.tape, k.output.trans h.output, Nat.le_trans h.size k.size, fun i hi hX => (k.block i (Nat.lt_of_lt_of_le hi h.size) hX).trans (h.block i hi hX)⟩
theorem Keep.of_below {n₀ : Nat} {X : Blocks} {W W' : World} (h : Below W.heap.size W W') : Keep n₀ X W W' := ⟨h.os, h.tape, h.output, h.size, fun k hk _ => h.block k hk⟩
theorem Keep.below {n₀ : Nat} {X : Blocks} {W W' : World} (h : Keep n₀ X W W') (hn : n₀ ≤ W.heap.size) : Below n₀ W W' := ⟨h.os, h.tape, h.output, h.size, fun k hk => h.block k (Nat.lt_of_lt_of_le hk hn) (.inl hk)⟩
/-- A step that turns one block at most, which is neither. -/
theorem Keep.of_grownBy {n₀ : Nat} {X : Blocks} {W W' : World} {row : Option Nat} (hg : W.grownBy W' row) (hr : ∀ k, row = some k → n₀ ≤ k ∧ ¬ X k) : Keep n₀ X W W' :=
  ⟨hg.os, hg.tape, hg.output, hg.size, fun k hk hX => hg.block k hk (fun e => by
    obtain ⟨h1, h2⟩ := hr k e.symm
    rcases hX with h | h
    · omega
    · exact h2 h)⟩

/-- The caller's invariant minds neither a turn of the iterator's blocks, nor new ones, nor a turn of a block of book-keeping. -/
def Stable (B : Nat) {β : Type} (I : Blocks → β → World → Prop) : Prop :=
  ∀ X X' s W W', I X s W → W'.os = W.os → W'.tape = W.tape → W'.output = W.output → W.heap.size ≤ W'.heap.size →
    (∀ k o, W.heap[k]? = some o → ¬ X k → (k < B ∨ o.isCells = true) → W'.heap[k]? = some o) → (∀ k, X' k → X k ∨ W.heap.size ≤ k) → I X' s W'
/-- .. as the iterator is told of it. -/
def Minds {β : Type} (J : Blocks → β → World → Prop) : Prop :=
  ∀ X X' s W W', J X s W → Turn X W W' → (∀ k, X' k → X k ∨ W.heap.size ≤ k) → J X' s W'

/-- WHAT AN ITERATOR PROMISES: gf with what comes before and behind yield among its arguments; encs: yield's arguments; n₀: what it reads lies below; G: what holds of an element while its round begins. -/
def SeqX {α : Type} (gf : Nat) (fb lb : Array Value) (encs : α → Array Value) (n₀ : Nat) (G : Blocks → α → World → Prop) (S Sp : List α → Prop) (w0 : World) : Prop :=
  ∀ (l : Nat) (J Jx : Blocks → List α → World → Prop) (W : World), Below w0.heap.size w0 W → Minds J → Minds Jx →
    (∀ X pre x W1, (∀ k, X k → k < W1.heap.size) → J X pre W1 → G X x W1 → Sp (pre ++ [x]) → YieldAt Fence.wide 0 Tryd.prog l (encs x) W1 fun e W' =>
      ((e = .returned (.bool true) ∧ J X (pre ++ [x]) W') ∨ (e = .returned (.bool false) ∧ Jx X (pre ++ [x]) W')) ∧ Keep n₀ X W1 W') →
    J (fun _ => False) [] W →
    Calls Tryd.prog gf ((fb ++ #[.func (.yield l) #[] #[]]) ++ lb) W fun e W' => (∃ v, e = .returned v) ∧ ((∃ X xs, S xs ∧ J X xs W') ∨ (∃ X pre, Sp pre ∧ Jx X pre W'))

/-- How a round may be left. -/
def postX {α : Type} (B n₀ : Nat) (I : Blocks → List α → World → Prop) (Ix : Code → Blocks → List α → World → Prop) (X : Blocks) (xs : List α) (W : World) : Exit → Act → World → Prop
  | .normal, _, W' => KeepsFrom B W W' ∧ Keep n₀ X W W' ∧ I X xs W'
  | .ret, _, W' => KeepsFrom B W W' ∧ Keep n₀ X W W' ∧ Ix .ret X xs W'
  | .exit id, _, W' => KeepsFrom B W W' ∧ Keep n₀ X W W' ∧ Ix (.exit id) X xs W'
  | .goto t, _, W' => KeepsFrom B W W' ∧ Keep n₀ X W W' ∧ Ix (.goto t) X xs W'
  | .panic _, _, _ => False
  | .outgrown, _, _ => False

theorem putObj_book (W : World) (l : Nat) (o' : Obj) : (W.putObj l o').os = W.os ∧ (W.putObj l o').tape = W.tape ∧ (W.putObj l o').output = W.output ∧ W.heap.size ≤ (W.putObj l o').heap.size :=
  ⟨rfl, rfl, rfl, by simp⟩
theorem Stable.put {B : Nat} {β : Type} {I : Blocks → β → World → Prop} (h : Stable B I) {X : Blocks} {s : β} {W : World} {l : Nat} {o : Obj} (o' : Obj) (hs : I X s W) (hB : B ≤ l) (hl : W.heap[l]? = some o) (ho : o.isCells = false) : I X s (W.putObj l o') := by
  obtain ⟨a, b, c, d⟩ := putObj_book W l o'
  refine h X X s W _ hs a b c d (fun k ok hk _ hc => ?_) (fun k hk => .inl hk)
  by_cases e : k = l
  · subst e
    rw [hl] at hk; cases hk
    rcases hc with h1 | h1
    · omega
    · rw [ho] at h1; cases h1
  · exact (World.putObj_heap_other e).trans hk
theorem Stable.new {B : Nat} {β : Type} {I : Blocks → β → World → Prop} (h : Stable B I) {X : Blocks} {s : β} {W : World} (o : Obj) (hs : I X s W) : I X s (W.alloc o) :=
  h X X s W _ hs rfl rfl rfl (by simp) (fun k ok hk _ _ => (Below.heap_alloc W o k (Array.getElem?_eq_some_iff.1 hk).1).trans hk) (fun k hk => .inl hk)
theorem keep_put {n₀ : Nat} {X : Blocks} {W : World} {l : Nat} (o' : Obj) (hn : n₀ ≤ l) (hX : ¬ X l) : Keep n₀ X W (W.putObj l o') := by
  obtain ⟨a, b, c, d⟩ := putObj_book W l o'
  refine ⟨a, b, c, d, fun k hk hc => World.putObj_heap_other (fun e => ?_)⟩
  subst e
  rcases hc with h | h
  · omega
  · exact hX h

/-- THE STATEMENT 'for .. := range f { .. }' over an iterator that keeps its promise. -/
theorem range_law {α : Type} {g : Operand} {ps : Array Tmp} {assign body : Code} {Q : Exit → Act → World → Prop} {a : Act} {w : World} {gf : Nat} {fb lb : Array Value}
    (hg : a.eval g = .func (.func gf) fb lb) (eg : ∀ args w, (callFunc gf args).run Tryd.prog w = .ok (.enter gf args) w)
    {encs : α → Array Value} {n₀ : Nat} {G : Blocks → α → World → Prop} {S Sp : List α → Prop} {w0 : World} (hseq : SeqX gf fb lb encs n₀ G S Sp w0)
    (hG : ∀ X x W W', G X x W → Keep n₀ X W W' → G X x W') (hn : n₀ ≤ w.heap.size) (hb0 : Below w0.heap.size w0 w) (hps : ∀ x, (encs x).size = ps.size)
    (I : Blocks → List α → World → Prop) (Ix : Code → Blocks → List α → World → Prop) (hI : Stable w.heap.size I) (hIx : ∀ c, Stable w.heap.size (Ix c)) (h0 : I (fun _ => False) [] w)
    (Ax : α → Act → World → Prop) (hAx : ∀ x a', Stable w.heap.size (fun _ (_ : Unit) W => Ax x a' W))
    (hassign : ∀ (l : Nat) (X : Blocks) (pre : List α) (x : α) (W : World) (K : Act → World → Prop), I X pre W → (∀ a' W', KeepsFrom w.heap.size W W' → Keep n₀ X W W' → I X pre W' → Ax x a' W' → K a' W') →
      assign.wpIn (Fence.wide.inRound l) 0 Tryd.prog (Exit.then K (fun _ _ _ => False)) { tmps := (ps.zip (encs x)).foldl (fun t (p, v) => t.setIfInBounds p v) a.tmps, defers := [] } W)
    (hbody : ∀ (l : Nat) (X : Blocks) (pre : List α) (x : α) (a' : Act) (W : World), w.heap.size ≤ l → (∃ r, W.heap[l]? = some (.loop r)) → ¬ X l → (∀ k, X k → k < W.heap.size) → I X pre W → G X x W → Ax x a' W → Sp (pre ++ [x]) →
      body.wpIn (Fence.wide.inRound l) 0 Tryd.prog (postX w.heap.size n₀ I Ix X (pre ++ [x]) W) a' W)
    (hdone : ∀ (D : Nat) (X : Blocks) (xs : List α) (W : World), w.heap.size ≤ D → S xs → I X xs W → W.heap[D]? = some (.deferred (some [])) → Q .normal { a with defers := { target := .collected D, args := #[] } :: a.defers } W)
    (hstop : ∀ (D : Nat) (X : Blocks) (c : Code) (pre : List α) (W : World), w.heap.size ≤ D → Sp pre → Ix c X pre W → W.heap[D]? = some (.deferred (some [])) → c.wpIn Fence.wide 0 Tryd.prog Q { a with defers := { target := .collected D, args := #[] } :: a.defers } W) :
    (Code.rangeFunc g ps assign body).wpIn Fence.wide 0 Tryd.prog Q a w := by
  refine wpIn_rangeFunc ?_
  intro fn hfn
  obtain ⟨rec, hrec⟩ : ∃ rec : LoopState → Option Code → Loop, rec = fun st pe => { state := st, pending := pe, fn, tmps := a.tmps, params := ps, assign, body, defers := w.heap.size } := ⟨_, rfl⟩
  obtain ⟨W1, hW1⟩ : ∃ W1, (w.alloc (.deferred (some []))).alloc (.loop (rec .ready none)) = W1 := ⟨_, rfl⟩
  have hL1 : W1.heap[w.heap.size + 1]? = some (.loop (rec .ready none)) := by
    rw [← hW1]; have := World.alloc_heap_new (w.alloc (.deferred (some []))) (.loop (rec .ready none)); rwa [World.size_alloc] at this
  have hK1 : W1.heap[w.heap.size]? = some (.deferred (some [])) := by
    rw [← hW1]; exact (Below.heap_alloc _ _ _ (by simp)).trans (World.alloc_heap_new w _)
  have hI1 : I (fun _ => False) [] W1 := by rw [← hW1]; exact hI.new _ (hI.new _ h0)
  have hb1 : Below w0.heap.size w0 W1 := by
    rw [← hW1]; exact hb0.trans ((((Below.refl _ w).alloc (Nat.le_refl _) _).alloc (by simp) _).mono hb0.size)
  refine ⟨w.heap.size + 1, [{ target := .collected w.heap.size, args := #[] }], W1, { target := .fn (.func gf) lb, args := fb ++ #[.func (.yield (w.heap.size + 1)) #[] #[]] }, W1, gf,
    (fb ++ #[.func (.yield (w.heap.size + 1)) #[] #[]]) ++ lb, W1, ?_, ?_, fun f' _ => trivial, ?_, fun h => by simp [Fence.wide] at h, ?_⟩
  · rw [← hW1, hrec]; exact run_enterLoop_outer _ _ _ _ _
  · simp only [resolve, hg]
    simp [go_sem, Deferred.ofValue]
  · simp [invoke, go_sem, eg]
  · refine callsIn_wide.2 ?_
    refine (hseq (w.heap.size + 1)
      (fun X pre W => I X pre W ∧ ¬ X (w.heap.size + 1) ∧ ¬ X w.heap.size ∧ W.heap[w.heap.size + 1]? = some (.loop (rec .ready none)) ∧ W.heap[w.heap.size]? = some (.deferred (some [])))
      (fun X pre W => ∃ c, Ix c X pre W ∧ ¬ X (w.heap.size + 1) ∧ ¬ X w.heap.size ∧ W.heap[w.heap.size + 1]? = some (.loop (rec .done (some c))) ∧ W.heap[w.heap.size]? = some (.deferred (some [])))
      W1 hb1 ?_ ?_ ?_ ⟨hI1, fun h => h, fun h => h, hL1, hK1⟩).mono ?_
    · rintro X X' s A B ⟨h1, h2, h3, h4, h5⟩ ht hX
      have l4 := (Array.getElem?_eq_some_iff.1 h4).1
      refine ⟨hI X X' s A B h1 ht.os ht.tape ht.output ht.size (fun k o hk hx _ => (ht.block k (Array.getElem?_eq_some_iff.1 hk).1 hx).trans hk) hX, fun h => ?_, fun h => ?_, (ht.block _ l4 h2).trans h4, (ht.block _ (by omega) h3).trans h5⟩
      · rcases hX _ h with h | h
        · exact h2 h
        · omega
      · rcases hX _ h with h | h
        · exact h3 h
        · omega
    · rintro X X' s A B ⟨c, h1, h2, h3, h4, h5⟩ ht hX
      have l4 := (Array.getElem?_eq_some_iff.1 h4).1
      refine ⟨c, hIx c X X' s A B h1 ht.os ht.tape ht.output ht.size (fun k o hk hx _ => (ht.block k (Array.getElem?_eq_some_iff.1 hk).1 hx).trans hk) hX, fun h => ?_, fun h => ?_, (ht.block _ l4 h2).trans h4, (ht.block _ (by omega) h3).trans h5⟩
      · rcases hX _ h with h | h
        · exact h2 h
        · omega
      · rcases hX _ h with h | h
        · exact h3 h
        · omega
    · -- one round
      rintro X pre x W hXs ⟨hi, hXl, hXd, hl, hk⟩ hgx hsp
      have hy := run_yield (P := Tryd.prog) (args := encs x) hl (by rw [hrec]; exact hps x)
      rw [hrec] at hy
      refine ⟨fn, _, assign, body, hy, roundIn_of_wpIn trivial (hassign _ X pre x W _ hi ?_)⟩
      clear hy
      intro a' Wa hkfa hkpa hia hax
      have hl' := hkfa.same _ _ (by omega) hl rfl
      have hk' := hkfa.same _ _ (Nat.le_refl _) hk rfl
      have hlt := (Array.getElem?_eq_some_iff.1 hl').1
      refine ⟨_, run_beginRound hl' (by rw [hrec]), ?_⟩
      have hl2 : (Wa.putObj (w.heap.size + 1) (.loop { rec .ready none with state := .busy })).heap[w.heap.size + 1]? = some (.loop { rec .ready none with state := .busy }) := World.putObj_heap_same hlt
      have hk2 : (Wa.putObj (w.heap.size + 1) (.loop { rec .ready none with state := .busy })).heap[w.heap.size]? = some (.deferred (some [])) := (World.putObj_heap_other (by omega)).trans hk'
      have hkp2 : Keep n₀ X Wa (Wa.putObj (w.heap.size + 1) (.loop { rec .ready none with state := .busy })) := keep_put _ (by omega) hXl
      refine wpIn_mono (hbody _ X pre x a' _ (by omega) ⟨_, hl2⟩ hXl (fun k hk => by have h1 := hXs k hk; have h2 := hkpa.size; simp; omega) (hI.put _ hia (by omega) hl' rfl) (hG _ _ _ _ hgx (hkpa.trans hkp2)) ((hAx x a').put (X := X) (s := ()) _ hax (by omega) hl' rfl) hsp) ?_
      have fin : ∀ (jump : Option Code) (W3 : World), KeepsFrom w.heap.size (Wa.putObj (w.heap.size + 1) (.loop { rec .ready none with state := .busy })) W3 →
          (Instr.endRound (w.heap.size + 1) jump).run Tryd.prog W3 = .ok (.bool jump.isNone) (W3.putObj (w.heap.size + 1) (.loop (rec (if jump.isNone then .ready else .done) jump))) ∧
          W3.heap[w.heap.size + 1]? = some (.loop { rec .ready none with state := .busy }) ∧
          (W3.putObj (w.heap.size + 1) (.loop (rec (if jump.isNone then .ready else .done) jump))).heap[w.heap.size + 1]? = some (.loop (rec (if jump.isNone then .ready else .done) jump)) ∧
          (W3.putObj (w.heap.size + 1) (.loop (rec (if jump.isNone then .ready else .done) jump))).heap[w.heap.size]? = some (.deferred (some [])) := fun jump W3 hk3 => by
        have hl3 := hk3.same _ _ (by omega) hl2 rfl
        have := run_endRound (P := Tryd.prog) jump hl3
        rw [hrec] at this ⊢
        exact ⟨this, by rw [hrec] at hl3; exact hl3, World.putObj_heap_same (Array.getElem?_eq_some_iff.1 hl3).1, (World.putObj_heap_other (by omega)).trans (hk3.same _ _ (Nat.le_refl _) hk2 rfl)⟩
      have kp : ∀ (W3 : World) (o : Obj), Keep n₀ X (Wa.putObj (w.heap.size + 1) (.loop { rec .ready none with state := .busy })) W3 → Keep n₀ X W (W3.putObj (w.heap.size + 1) o) := fun W3 o h3 =>
        ((hkpa.trans hkp2).trans h3).trans (keep_put _ (by omega) hXl)
      rintro e a3 W3 hp
      cases e with
      | normal =>
        obtain ⟨hk3, hkp3, hi3⟩ := hp
        obtain ⟨hr, hl3, hl4, hk4⟩ := fin none W3 hk3
        exact ⟨_, _, hr, .inl ⟨rfl, hI.put _ hi3 (by omega) hl3 rfl, hXl, hXd, hl4, hk4⟩, kp _ _ hkp3⟩
      | ret =>
        obtain ⟨hk3, hkp3, hi3⟩ := hp
        obtain ⟨hr, hl3, hl4, hk4⟩ := fin (some .ret) W3 hk3
        exact ⟨_, _, hr, .inr ⟨rfl, .ret, (hIx _).put _ hi3 (by omega) hl3 rfl, hXl, hXd, hl4, hk4⟩, kp _ _ hkp3⟩
      | exit id =>
        obtain ⟨hk3, hkp3, hi3⟩ := hp
        obtain ⟨hr, hl3, hl4, hk4⟩ := fin (some (.exit id)) W3 hk3
        exact ⟨_, _, hr, .inr ⟨rfl, .exit id, (hIx _).put _ hi3 (by omega) hl3 rfl, hXl, hXd, hl4, hk4⟩, kp _ _ hkp3⟩
      | goto t =>
        obtain ⟨hk3, hkp3, hi3⟩ := hp
        obtain ⟨hr, hl3, hl4, hk4⟩ := fin (some (.goto t)) W3 hk3
        exact ⟨_, _, hr, .inr ⟨rfl, .goto t, (hIx _).put _ hi3 (by omega) hl3 rfl, hXl, hXd, hl4, hk4⟩, kp _ _ hkp3⟩
      | panic ch => exact hp.elim
      | outgrown => exact hp.elim
    · -- behind the iterator
      rintro e W2 ⟨⟨v, rfl⟩, (⟨X, xs, hS, hi, _, _, hl, hk⟩ | ⟨X, pre, hSp, c, hi, _, _, hl, hk⟩)⟩
      · exact ⟨none, _, by have := run_endLoop (P := Tryd.prog) hl (by rw [hrec]; simp); rw [hrec] at this; exact this, hdone _ X xs _ (Nat.le_refl _) hS (hI.put _ hi (by omega) hl rfl) ((World.putObj_heap_other (by omega)).trans hk)⟩
      · exact ⟨some c, _, by have := run_endLoop (P := Tryd.prog) hl (by rw [hrec]; simp); rw [hrec] at this; exact this, hstop _ X c pre _ (Nat.le_refl _) hSp ((hIx c).put _ hi (by omega) hl rfl) ((World.putObj_heap_other (by omega)).trans hk)⟩

/-! What the callers' invariants are made of. -/
theorem Stable.and {B : Nat} {β : Type} {I J : Blocks → β → World → Prop} (h : Stable B I) (k : Stable B J) : Stable B (fun X s W => I X s W ∧ J X s W) :=
  fun X X' s W W' hs a b c d e f => ⟨h X X' s W W' hs.1 a b c d e f, k X X' s W W' hs.2 a b c d e f⟩
theorem stable_pure (B : Nat) {β : Type} (p : β → Prop) : Stable B (fun _ s _ => p s) := fun _ _ _ _ _ hs _ _ _ _ _ _ => hs
/-- A box that is none of the iterator's. -/
def Mine (X : Blocks) (W : World) (b : Nat) (t : TypeId) (v : Value) : Prop := Boxed W b t v ∧ ¬ X b
theorem stable_box (B b : Nat) (t : TypeId) {β : Type} (f : β → Value) : Stable B (fun X s W => Mine X W b t (f s)) := by
  rintro X X' s W W' ⟨h, hX⟩ _ _ _ _ e hX'
  refine ⟨e b _ h hX (.inr rfl), fun hb => ?_⟩
  rcases hX' b hb with h1 | h1
  · exact hX h1
  · have := h.lt; omega
/-- What lay below n₀ lies as it lay; the iterator's blocks lie beyond. -/
def Base (n₀ : Nat) (w : World) (X : Blocks) (W : World) : Prop := (∀ k, X k → n₀ ≤ k) ∧ Below n₀ w W
theorem stable_base (B n₀ : Nat) (w : World) (hB : n₀ ≤ B) (hw : n₀ ≤ w.heap.size) {β : Type} : Stable B (fun X (_ : β) W => Base n₀ w X W) := by
  rintro X X' s W W' ⟨h1, h2⟩ a b c d e hX'
  have hs := h2.size
  refine ⟨fun k hk => ?_, ⟨a.trans h2.os, b.trans h2.tape, c.trans h2.output, Nat.le_trans h2.size d, fun k hk => ?_⟩⟩
  · rcases hX' k hk with h | h
    · exact h1 k h
    · omega
  · have hlt : k < W.heap.size := by omega
    have hx : W.heap[k]? = some W.heap[k] := Array.getElem?_eq_getElem hlt
    rw [e k _ hx (fun h => by have := h1 k h; omega) (.inl (by omega)), ← hx]
    exact h2.block k hk
theorem Base.start {n₀ : Nat} {w W : World} (h : Below n₀ w W) : Base n₀ w (fun _ => False) W := ⟨fun _ h => h.elim, h⟩
theorem Base.step {n₀ : Nat} {w W W' : World} {X : Blocks} (h : Base n₀ w X W) (k : Below n₀ W W') : Base n₀ w X W' := ⟨h.1, h.2.trans k⟩
theorem Mine.cell {X : Blocks} {W : World} {b : Nat} {t : TypeId} {v : Value} (h : Mine X W b t v) : W.cell? ⟨b, 0, none⟩ = some v := h.1.cell
theorem Mine.frozen {X : Blocks} {W : World} {b : Nat} {t : TypeId} {v : Value} (h : Mine X W b t v) : W.frozen? ⟨b, 0, none⟩ = false := h.1.frozen
theorem Mine.lt {X : Blocks} {W : World} {b : Nat} {t : TypeId} {v : Value} (h : Mine X W b t v) : b < W.heap.size := h.1.lt
theorem Mine.drew {X : Blocks} {W : World} {b : Nat} {t : TypeId} {v : Value} (h : Mine X W b t v) : Mine X W.drew b t v := h
theorem Mine.below {X : Blocks} {W W' : World} {b : Nat} {t : TypeId} {v : Value} (h : Mine X W b t v) (k : Below W.heap.size W W') : Mine X W' b t v := ⟨(k.block b h.lt).trans h.1, h.2⟩
theorem Mine.set {X : Blocks} {W : World} {b : Nat} {t : TypeId} {v : Value} (v' : Value) (h : Mine X W b t v) : Mine X (W.setCell ⟨b, 0, none⟩ v') b t v' := ⟨h.1.set v', h.2⟩
theorem Mine.other {X : Blocks} {W : World} {b b' : Nat} {t : TypeId} {v : Value} (h : Mine X W b t v) (hne : b ≠ b') (u : Value) : Mine X (W.setCell ⟨b', 0, none⟩ u) b t v := ⟨h.1.other hne u, h.2⟩
theorem keep_set {n₀ : Nat} {X : Blocks} (W : World) (b : Nat) (u : Value) (hn : n₀ ≤ b) (hX : ¬ X b) : Keep n₀ X W (W.setCell ⟨b, 0, none⟩ u) :=
  Keep.of_grownBy (grownBy_setCell' W b u) (fun k e => by cases e; exact ⟨hn, hX⟩)
theorem Keep.drew {n₀ : Nat} {X : Blocks} {W W' : World} (h : Keep n₀ X W W') : Keep n₀ X W W'.drew := ⟨h.os, h.tape, h.output, h.size, h.block⟩
theorem kf_set (B : Nat) (W : World) (a : Addr) (v : Value) : KeepsFrom B W (W.setCell a v) := (KeepsOthers.setCell W a v).from B
theorem kf_drew (B : Nat) (W : World) : KeepsFrom B W W.drew := (KeepsOthers.drew W).from B
theorem kf_below {B : Nat} {W W' : World} (h : Below W.heap.size W W') : KeepsFrom B W W' := ⟨h.size, fun k _ _ hk _ => (h.block k (Array.getElem?_eq_some_iff.1 hk).1).trans hk⟩
/-- A variable that holds a slice of the call's own; neither is the iterator's. -/
def MineRow (n₀ : Nat) (X : Blocks) (W : World) (b : Nat) (t e : TypeId) (xs : List Value) : Prop :=
  ∃ v, Mine X W b t v ∧ W.ownsRow n₀ e 1 v xs.length xs ∧ ∀ j, v.ownBlock = some j → ¬ X j
theorem ownsRow_same {W W' : World} {base : Nat} {e : TypeId} {size : Nat} {v : Value} {n : Nat} {xs : List Value} (h : W.ownsRow base e size v n xs) (hs : ∀ g, v.ownBlock = some g → W'.heap[g]? = W.heap[g]?) : W'.ownsRow base e size v n xs := by
  refine ⟨h.1, ?_⟩
  rcases h.2 with hn | ⟨g, cap, cur, rfl, hb, hgg, rest⟩
  · exact .inl hn
  · exact .inr ⟨g, cap, cur, rfl, hb, (hs g rfl).trans hgg, rest⟩
theorem stable_row (B n₀ b : Nat) (t e : TypeId) {β : Type} (f : β → List Value) : Stable B (fun X s W => MineRow n₀ X W b t e (f s)) := by
  rintro X X' s W W' ⟨v, hm, ho, hx⟩ a1 a2 a3 a4 he hX'
  refine ⟨v, stable_box B b t (fun _ : Unit => v) X X' () W W' hm a1 a2 a3 a4 he hX', ownsRow_same ho fun g hg => ?_, fun j hj h => ?_⟩
  · rcases ho.2 with ⟨rfl, _⟩ | ⟨g', cap, cur, rfl, hb, hgg, rest⟩
    · simp [Value.ownBlock] at hg
    · obtain rfl : g' = g := by simpa [Value.ownBlock] using hg
      rw [he _ _ hgg (hx _ rfl) (.inr rfl), hgg]
  · have hlt := (ho.lt j hj).2
    rcases hX' j h with h1 | h1
    · exact hx j hj h1
    · omega
/-- Behind an append to such a variable: all that a round owes. -/
theorem MineRow.appended {n₀ : Nat} {X : Blocks} {W w1 : World} {b : Nat} {t e : TypeId} {v v' : Value} {xs ys : List Value} {tmp : Obj}
    (hm : Mine X W b t v) (ho : W.ownsRow n₀ e 1 v xs.length xs) (hx : ∀ j, v.ownBlock = some j → ¬ X j) (hte : t ≠ e) (hn₀ : n₀ ≤ W.heap.size) (hb : n₀ ≤ b) (hXs : ∀ k, X k → k < W.heap.size)
    (ho' : w1.ownsRow n₀ e 1 v' ys.length ys) (hgrow : (W.alloc tmp).grownBy w1 v.ownBlock) (hat : v'.ownBlock = v.ownBlock ∨ v'.ownBlock = some (W.alloc tmp).heap.size) :
    Boxed w1 b t v ∧ MineRow n₀ X (w1.setCell ⟨b, 0, none⟩ v') b t e ys ∧ KeepsOthers W (w1.setCell ⟨b, 0, none⟩ v') ∧ Below n₀ W (w1.setCell ⟨b, 0, none⟩ v') ∧ Keep n₀ X W (w1.setCell ⟨b, 0, none⟩ v') ∧
      ∀ b' t' u, b' ≠ b → t' ≠ e → Mine X W b' t' u → Mine X (w1.setCell ⟨b, 0, none⟩ v') b' t' u := by
  obtain ⟨q1, q2, q3, q4, q5⟩ := Boxed.appended (tmp := tmp) hm.1 hte ho hn₀ hb ho' hgrow
  refine ⟨q1, ⟨v', ⟨q2, hm.2⟩, q3, fun j hj hX => ?_⟩, q4, q5, ?_, fun b' t' u hne hte' hu => ?_⟩
  · rcases hat with h | h
    · exact hx j (h ▸ hj) hX
    · have h1 := hXs j hX
      rw [h] at hj
      simp at hj
      omega
  · have k1 : Keep n₀ X W (W.alloc tmp) := Keep.of_below ((Below.refl _ W).alloc (Nat.le_refl _) _)
    have k2 : Keep n₀ X (W.alloc tmp) w1 := Keep.of_grownBy hgrow (fun k hk => ⟨(ho.lt k hk).1, hx k hk⟩)
    exact (k1.trans k2).trans (keep_set _ _ _ hb hm.2)
  · have u1 : Boxed w1 b' t' u := (hu.1.alloc tmp).kept hgrow (hu.1.not_row hte' ho)
    exact ⟨u1.other hne _, hu.2⟩
/-- Such a row reads as a list. -/
theorem Ints.of_own {W : World} {n₀ : Nat} {e : TypeId} {v : Value} {l : List Int} (h : W.ownsRow n₀ e 1 v l.length (l.map fun x => .int .i64 x)) (hl : l.length ≤ big) : Ints W v l := by
  rcases h.2 with ⟨rfl, h0⟩ | ⟨g, cap, cur, rfl, hb, hg, hn, hc, hs, ht⟩
  · exact ⟨none, 0, by rw [h0], hl, fun i hi => by omega⟩
  · refine ⟨some ⟨g, 0, none⟩, cap, rfl, hl, fun i hi => ⟨g, 0, rfl, ?_⟩⟩
    have h1 : (l.map fun x => Value.int .i64 x)[i]? = some (.int .i64 (l.getD i 0)) := by
      simp [List.getElem?_map, List.getElem?_eq_getElem hi, List.getD_eq_getElem?_getD]
    rw [← ht, List.getElem?_take, if_pos (by omega)] at h1
    simp only [World.cell?, hg]
    simpa using h1
end Go.Proofs.YtibaihchnbbokaaDoor
