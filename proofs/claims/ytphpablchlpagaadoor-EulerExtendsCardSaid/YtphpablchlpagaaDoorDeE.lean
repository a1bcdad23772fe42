/-
  Texts that the proof of the law stands on: U28, U29.
-/
import Derived.Test.YtphpablchlpagaaDoorDeD
import Derived.Deep.LoopGhost
set_option linter.unusedVariables false
set_option linter.unusedSimpArgs false
namespace Go.Proofs.YtphpablchlpagaaDoor
open Go.RowKit Go.Shelf
/-- A table of numbers of the call's own. -/
def TabI (W : World) (n₀ tb N : Nat) (f : Nat → Int) : Prop := W.ownsRow n₀ 3 1 (.slice (some ⟨tb, 0, none⟩) N N) N ((Lf N f).map fun x => .int .i64 x)
theorem TabI.kept {W W' : World} {n₀ tb N : Nat} {f : Nat → Int} (h : TabI W n₀ tb N f) (hk : W'.heap[tb]? = W.heap[tb]?) : TabI W' n₀ tb N f := owns_block h hk
theorem TabI.lt {W : World} {n₀ tb N : Nat} {f : Nat → Int} (h : TabI W n₀ tb N f) : n₀ ≤ tb ∧ tb < W.heap.size := ownq_lt h
theorem TabI.cell {W : World} {n₀ tb N c : Nat} {f : Nat → Int} (h : TabI W n₀ tb N f) (hc : c < N) : W.cell? ⟨tb, c, none⟩ = some (.int .i64 (f c)) := by
  unfold TabI at h
  rw [h.cellAt _ (by omega), Lf_cell _ hc]
theorem TabI.set {W : World} {n₀ tb N : Nat} {f : Nat → Int} (h : TabI W n₀ tb N f) (c : Nat) (x : Int) : TabI (W.setCell ⟨tb, c, none⟩ (.int .i64 x)) n₀ tb N (fun i => if i = c then x else f i) := by
  have h1 := (World.ownsRow.stored h c (.int .i64 x)).1
  rw [show ((Lf N f).map fun x => Value.int .i64 x).set c (.int .i64 x) = ((Lf N f).set c x).map fun x => .int .i64 x from List.map_set.symm, Lf_set] at h1
  exact h1
theorem TabI.free {W : World} {n₀ tb N : Nat} {f : Nat → Int} (h : TabI W n₀ tb N f) (c : Nat) : W.frozen? ⟨tb, c, none⟩ = false := World.ownsRow.frozenAt h c
theorem TabI.congr {W : World} {n₀ tb N : Nat} {f g : Nat → Int} (h : TabI W n₀ tb N f) (hfg : ∀ i, i < N → f i = g i) : TabI W n₀ tb N g := by
  unfold TabI at h ⊢
  rw [← Lf_congr hfg]; exact h
theorem TabI.new {W : World} {n₀ tb N : Nat} (h : W.ownsRow n₀ 3 1 (.slice (some ⟨tb, 0, none⟩) N N) N (List.replicate N (.int .i64 0))) : TabI W n₀ tb N (fun _ => 0) := by
  unfold TabI
  have e : ((Lf N (fun _ => 0)).map fun x => Value.int .i64 x) = List.replicate N (.int .i64 0) := by
    apply List.ext_getElem
    · simp [Lf]
    · intro i h1 h2; simp [Lf]
  rw [e]; exact h
/-- How many sets were met. -/
def cntMet (N : Nat) (met : Nat → Bool) : Nat := ((List.range N).filter met).length
theorem cntMet_le (N : Nat) (met : Nat → Bool) : cntMet N met ≤ N := by
  have := List.length_filter_le met (List.range N)
  simpa [cntMet] using this
theorem cntMet_lt {N : Nat} {met met' : Nat → Bool} (h : ∀ T, met T = true → met' T = true) {T : Nat} (hT : T < N) (h1 : met T = false) (h2 : met' T = true) : cntMet N met < cntMet N met' := by
  unfold cntMet
  have e : (List.range N).filter met = ((List.range N).filter met').filter met := by
    rw [List.filter_filter]
    refine List.filter_congr fun x _ => ?_
    cases hx : met x with
    | false => rfl
    | true => rw [h x hx]; rfl
  rw [e]
  exact List.length_filter_lt_length_iff_exists.2 ⟨T, List.mem_filter.2 ⟨List.mem_range.2 hT, h2⟩, by rw [h1]; decide⟩
theorem cntMet_one (N S : Nat) (hS : S < N) : 1 ≤ cntMet N (fun T => T == S) := by
  unfold cntMet
  exact List.length_pos_of_mem (List.mem_filter.2 ⟨List.mem_range.2 hS, by simp⟩)
def metF (met : Nat → Bool) (T : Nat) : Int := if met T then 1 else 0
/-- The words' places: 0, or one more than the place of the set. -/
def PlIs (nl : List Tr) (T : Nat) (y : Int) : Prop := (y = 0 ∧ ∀ t ∈ nl, t.1 ≠ T) ∨ ∃ k : Nat, k < nl.length ∧ y = (k : Int) + 1 ∧ (nl.getD k (0, [])).1 = T
def PlT (W : World) (B plb N : Nat) (nl : List Tr) : Prop := ∃ pl : Nat → Int, TabI W B plb N pl ∧ ∀ T, T < N → PlIs nl T (pl T)
/-- The best word yet, in memory. -/
def BestI (W : World) (lo : Nat) (nv bv : Value) (lg : Bool) : Option (List Int) → Prop
  | none => lg = false ∧ bv = .slice none 0 0
  | some b => lg = true ∧ IntsP W (fun q => lo ≤ q ∧ some q ≠ nv.ownBlock) bv b
/-- What Extend of the reference returns. -/
def ExtRef (m : List (List Int)) (S : Nat) (w : World) (e : Ending) (w' : World) : Prop :=
  ((∃ u A c, FirstBig m S u ∧ u.length ≤ 5000 ∧ e = .returned (.tuple #[.slice A u.length c, .bool true]) ∧ Ints w' (.slice A u.length c) u) ∨
    ((∀ u, WDm m u → ¬ szS S < szS (preWord m S u)) ∧ e = .returned (.tuple #[.slice none 0 0, .bool false]))) ∧ Below w.heap.size w w'
theorem lvl_one {W : World} {P : Nat → Prop} {m : List (List Int)} {b : Nat} {vs : Value} {l : List Int} (hb : W.heap[b]? = some (.cells #[vs, .slice none 0 0] 65 (0, 0))) (hP : P b) (hl : IntsP W P vs l) (hs : isSetM m l = true) :
    LvlI W P m (.slice (some ⟨b, 0, none⟩) 1 1) [(ofList l, [])] := by
  refine ⟨some ⟨b, 0, none⟩, 1, rfl, fun i hi => ?_⟩
  obtain rfl : i = 0 := by simpa using hi
  exact ⟨b, 0, _, _, rfl, hP, by simp [World.cell?, hb], by simp [World.cell?, hb], ⟨l, hl, hs, rfl⟩, ⟨none, 0, rfl, fun _ => rfl, by unfold big; simp, fun i hi => by simp at hi⟩, fun _ => rfl⟩
theorem intsP_of {W : World} {A : Option Addr} {n c : Nat} {l : List Int} (h : Ints W (.slice A n c) l) (h0 : A = none → c = 0) : IntsP W (fun b => b < W.heap.size) (.slice A n c) l := by
  obtain ⟨A', cap, hv, hl, hc⟩ := h
  refine ⟨A', cap, hv, ?_, hl, fun i hi => ?_⟩
  · simp only [Value.slice.injEq] at hv
    obtain ⟨rfl, -, rfl⟩ := hv
    exact h0
  · obtain ⟨b, off, h1, h2⟩ := hc i hi
    exact ⟨b, off, h1, World.block_lt_of_cell? _ _ h2, h2⟩
theorem metF_one (S T : Nat) : (if T = S then (1 : Int) else 0) = metF (fun T => T == S) T := by
  unfold metF
  by_cases h : T = S
  · simp [h]
  · simp [h]
theorem NextI.empty (w : World) (lo sk : Nat) (m : List (List Int)) (k : Nat) (hk : k = w.heap.size) (hs : k ≠ sk) : NextI (w.alloc (.cells #[] 65)) k lo sk m (.slice (some ⟨k, 0, none⟩) 0 0) [] := by
  subst hk
  exact ⟨[], ⟨rfl, .inr ⟨w.heap.size, 0, #[], rfl, Nat.le_refl _, World.alloc_heap_new _ _, Nat.le_refl _, by unfold maxLen; omega, rfl, rfl⟩⟩, fun g hg => by
    have : w.heap.size = g := by simpa [Value.ownBlock] using hg
    omega, fun i hi => by simp at hi⟩
/-- Where the search stands within a level. -/
structure InR (m : List (List Int)) (S L N ab : Nat) (met : Nat → Bool) (level : List Tr) (w wo W : World) (i x : Nat) (nv bv : Value) (lg : Bool) (nl : List Tr) (best : Option (List Int)) : Prop where
  n : MidN m S L level met i x nl
  b : MidB m S L level i x best
  nx : NextI W wo.heap.size (wo.heap.size + 2) (wo.heap.size + 1) m nv nl
  bx : BestI W (wo.heap.size + 2) nv bv lg best
  pl : PlT W (wo.heap.size + 1) (wo.heap.size + 1) N nl
  be : Below wo.heap.size wo W
  sz : wo.heap.size + 2 ≤ W.heap.size
/-- What the operations of the region that takes a better word leave. -/
structure I24 (d0 d1 d2 d3 d4 d5 d6 d7 : Value) (m0 m1 m2 : Addr × Value) (wa wb : World) (L : Nat → Bool) (u : Nat → Value) (W : World) : Prop where
  c0 : L 0 = true → u 0 = d0
  c1 : L 1 = true → u 1 = d1
  c2 : L 2 = true → u 2 = d2
  c3 : L 3 = true → u 3 = d3
  c4 : L 4 = true → u 4 = d4
  c5 : L 5 = true → u 5 = d5
  c6 : L 6 = true → u 6 = d6
  c7 : L 7 = true → u 7 = d7
  k0 : W.cell? m0.1 = some m0.2
  k1 : W.cell? m1.1 = some m1.2
  k2 : W.cell? m2.1 = some m2.2
  wf : L 8 = false → W = wa
  wt : L 8 = true → W = wb
/-- A new place. -/
theorem PlIs.add {nl : List Tr} {pl : Nat → Int} {N T : Nat} {U : List Int} (h : ∀ T', T' < N → PlIs nl T' (pl T')) {T' : Nat} (hT' : T' < N) : PlIs (nl ++ [(T, U)]) T' (if T' = T then (nl.length : Int) + 1 else pl T') := by
  by_cases e : T' = T
  · subst e
    rw [if_pos rfl]
    exact .inr ⟨nl.length, by simp, rfl, by simp [List.getD_eq_getElem?_getD]⟩
  · rw [if_neg e]
    rcases h T' hT' with ⟨h1, h2⟩ | ⟨k, h1, h2, h3⟩
    · refine .inl ⟨h1, fun t ht => ?_⟩
      rcases List.mem_append.1 ht with ht | ht
      · exact h2 t ht
      · obtain rfl : t = (T, U) := by simpa using ht
        exact fun h => e h.symm
    · exact .inr ⟨k, by simp; omega, h2, by simpa [List.getD_eq_getElem?_getD, List.getElem?_append_left h1] using h3⟩
theorem PlIs.same {nl nl' : List Tr} (hl : nl'.length = nl.length) (hf : ∀ j, (nl'.getD j (0, [])).1 = (nl.getD j (0, [])).1) {T : Nat} {y : Int} (h : PlIs nl T y) : PlIs nl' T y := by
  rcases h with ⟨h1, h2⟩ | ⟨k, h1, h2, h3⟩
  · refine .inl ⟨h1, fun t ht => ?_⟩
    obtain ⟨j, hj, rfl⟩ := List.mem_iff_getElem.1 ht
    have e1 : nl'.getD j (0, []) = nl'[j] := by rw [List.getD_eq_getElem?_getD, List.getElem?_eq_getElem hj]; rfl
    rw [← e1, hf]
    exact h2 _ (getD_memT (by omega))
  · exact .inr ⟨k, by omega, h2, by rw [hf]; exact h3⟩
theorem BestI.kept {W W' : World} {lo : Nat} {nv bv : Value} {lg : Bool} {best : Option (List Int)} (h : BestI W lo nv bv lg best) (hk : ∀ b, lo ≤ b → some b ≠ nv.ownBlock → b < W.heap.size → W'.heap[b]? = W.heap[b]?) : BestI W' lo nv bv lg best := by
  cases best with
  | none => exact h
  | some b => exact ⟨h.1, h.2.kept (fun q hq hs => hk q hq.1 hq.2 hs) (fun _ h _ => h)⟩
theorem InR.later {m : List (List Int)} {S L N ab : Nat} {met : Nat → Bool} {level : List Tr} {w wo W W' : World} {i x : Nat} {nv bv : Value} {lg : Bool} {nl : List Tr} {best : Option (List Int)} (h : InR m S L N ab met level w wo W i x nv bv lg nl best) (hb : Below W.heap.size W W') : InR m S L N ab met level w wo W' i x nv bv lg nl best := by
  refine ⟨h.n, h.b, h.nx.kept (by omega) (by omega) (fun b _ _ hs => hb.block b hs), h.bx.kept (fun b _ _ hs => hb.block b hs), ?_, btr h.be hb, Nat.le_trans h.sz hb.size⟩
  obtain ⟨pl, h1, h2⟩ := h.pl
  exact ⟨pl, h1.kept (hb.block _ h1.lt.2), h2⟩
/-- Whether the new word is taken. -/
def TakeIs (m : List (List Int)) (S T : Nat) (U : List Int) (best : Option (List Int)) (c : Bool) : Prop :=
  (c = true → szS S < szS T ∧ ∀ b, best = some b → befB U b = true) ∧ (c = false → ¬ szS S < szS T ∨ ∃ b, best = some b ∧ befB U b = false)
/-- A new element: its set and its word. -/
def FoundAt (m : List (List Int)) (y0 : World) (e : Tr) (t : Value) (wc : World) : Prop :=
  ∃ (fb : Nat) (vs vw : Value), t = .pointer (some ⟨fb, 0, none⟩) ∧ wc.cell? ⟨fb, 0, none⟩ = some vs ∧ wc.cell? ⟨fb, 1, none⟩ = some vw ∧ EltI wc (fun q => y0.heap.size ≤ q) m vs vw e ∧ y0.heap.size ≤ fb ∧ Below y0.heap.size y0 wc
theorem ints_one_at {W : World} {b : Nat} {x : Int} (h : W.cell? ⟨b, 0, none⟩ = some (.int .i64 x)) : Ints W (.slice (some ⟨b, 0, none⟩) 1 1) [x] := ⟨_, 1, rfl, by unfold big; simp, fun i hi => by
  obtain rfl : i = 0 := by simpa using hi
  exact ⟨b, 0, rfl, h⟩⟩
theorem PlT.empty {W : World} {B plb N : Nat} (h : TabI W B plb N (fun _ => 0)) : PlT W B plb N [] := ⟨_, h, fun T _ => .inl ⟨rfl, fun t ht => by simp at ht⟩⟩
theorem pre_of {m : List (List Int)} (hv : validM m = true) {l0 : List Int} {S x : Nat} (h : ofList l0 = S) : ofList (preimageM m l0 [(x : Int)]) = preSet m S (x : Int) := by
  have e : preimageM m l0 [(x : Int)] = intsOf (elems (preSet m S (x : Int))) := by unfold preimageM; rw [h]; rfl
  rw [e]
  exact ofList_elems (Nat.lt_of_lt_of_le (preSet_lt hv S x) (Nat.pow_le_pow_right (by decide) (by have := (valid_parts hv).2.1; omega)))
/-- What the operations of the region that makes an element leave. -/
structure I15 (m : List (List Int)) (y0 : World) (T x : Nat) (cA cL cP1 cP2 cS cW : Value) (ii : Int) (w0 : List Int) (L : Nat → Bool) (u : Nat → Value) (W : World) : Prop where
  be : Below y0.heap.size y0 W
  c0 : L 0 = true → u 0 = cA
  c1 : L 1 = true → u 1 = cL
  c2 : L 2 = true → u 2 = .int .i64 ii
  c3 : L 3 = true → u 3 = cP1
  c4 : L 4 = true → u 4 = cP1
  c5 : L 5 = true → u 5 = cS
  c6 : L 6 = true → u 6 = .int .i64 x
  c7 : L 7 = true → L 19 = false → ∃ b1, u 7 = .slice (some ⟨b1, 0, none⟩) 1 1 ∧ W.heap[b1]? = some (.cells #[.int .i64 x] 3 (0, 0))
  c8 : L 8 = true → ∃ A c l, u 8 = .slice A l.length c ∧ IntsP W (fun q => y0.heap.size ≤ q ∧ (L 18 = true → u 18 ≠ .pointer (some ⟨q, 0, none⟩))) (.slice A l.length c) l ∧ isSetM m l = true ∧ ofList l = T
  c9 : L 9 = true → u 9 = .int .i64 x
  c10 : L 10 = true → L 19 = false → ∃ b2, u 10 = .slice (some ⟨b2, 0, none⟩) 1 1 ∧ W.heap[b2]? = some (.cells #[.int .i64 x] 3 (0, 0)) ∧ y0.heap.size ≤ b2 ∧ (L 18 = true → u 18 ≠ .pointer (some ⟨b2, 0, none⟩))
  c11 : L 11 = true → u 11 = cL
  c12 : L 12 = true → u 12 = .int .i64 ii
  c13 : L 13 = true → u 13 = cP1
  c14 : L 14 = true → u 14 = cP2
  c15 : L 15 = true → u 15 = cW
  c16 : L 16 = true → ∃ g c, u 16 = .slice (some ⟨g, 0, none⟩) (w0.length + 1) c ∧ IntsP W (fun q => y0.heap.size ≤ q ∧ (L 18 = true → u 18 ≠ .pointer (some ⟨q, 0, none⟩))) (.slice (some ⟨g, 0, none⟩) (w0.length + 1) c) ((x : Int) :: w0)
  c17 : L 17 = true → u 17 = .agg #[u 8, u 16]
  p8 : L 8 = true → L 7 = true
  p16 : L 16 = true → L 10 = true ∧ L 8 = true
  p17 : L 17 = true → L 8 = true ∧ L 16 = true
  p19 : L 19 = true → L 17 = true ∧ L 18 = true
  c18 : L 18 = true → ∃ fb, u 18 = .pointer (some ⟨fb, 0, none⟩) ∧ y0.heap.size ≤ fb ∧ W.heap[fb]? = some (.cells (if L 19 = true then #[u 8, u 16] else #[.slice none 0 0, .slice none 0 0]) 65 (0, 0))
section
variable {m : List (List Int)} {y0 : World} {T x : Nat} {cA cL cP1 cP2 cS cW : Value} {ii : Int} {w0 : List Int} {L : Nat → Bool} {u : Nat → Value} {W : World}
/-- More memory. -/
theorem I15.later {W' : World} (h : I15 m y0 T x cA cL cP1 cP2 cS cW ii w0 L u W) (hb : Below W.heap.size W W') : I15 m y0 T x cA cL cP1 cP2 cS cW ii w0 L u W' := by
  have hlt : ∀ {q : Nat} {o : Obj}, W.heap[q]? = some o → q < W.heap.size := fun {q o} e => by
    rcases Nat.lt_or_ge q W.heap.size with h1 | h1
    · exact h1
    · rw [Array.getElem?_eq_none h1] at e; cases e
  refine ⟨btr h.be hb, h.c0, h.c1, h.c2, h.c3, h.c4, h.c5, h.c6, fun l1 l2 => ?_, fun l1 => ?_, h.c9, fun l1 l2 => ?_, h.c11, h.c12, h.c13, h.c14, h.c15, fun l1 => ?_, h.c17, h.p8, h.p16, h.p17, h.p19, fun l1 => ?_⟩
  · obtain ⟨b1, e1, e2⟩ := h.c7 l1 l2
    exact ⟨b1, e1, (hb.block _ (hlt e2)).trans e2⟩
  · obtain ⟨A, c, l, e1, e2, e3⟩ := h.c8 l1
    exact ⟨A, c, l, e1, e2.kept (fun q _ hq => hb.block q hq) (fun _ h _ => h), e3⟩
  · obtain ⟨b2, e1, e2, e3⟩ := h.c10 l1 l2
    exact ⟨b2, e1, (hb.block _ (hlt e2)).trans e2, e3⟩
  · obtain ⟨g, c, e1, e2⟩ := h.c16 l1
    exact ⟨g, c, e1, e2.kept (fun q _ hq => hb.block q hq) (fun _ h _ => h)⟩
  · obtain ⟨fb, e1, e2, e3⟩ := h.c18 l1
    exact ⟨fb, e1, e2, (hb.block _ (hlt e3)).trans e3⟩
theorem set_two {fb : Nat} {t : TypeId} {a b p q : Value} (h : W.heap[fb]? = some (.cells #[p, q] t (0, 0))) : ((W.setCell ⟨fb, 0, none⟩ a).setCell ⟨fb, 1, none⟩ b).heap[fb]? = some (.cells #[a, b] t (0, 0)) := by
  have hlt : fb < W.heap.size := by
    rcases Nat.lt_or_ge fb W.heap.size with h1 | h1
    · exact h1
    · rw [Array.getElem?_eq_none h1] at h; cases h
  have hg : W.heap[fb] = .cells #[p, q] t (0, 0) := by
    rw [Array.getElem?_eq_getElem hlt] at h
    simpa using h
  simp [World.setCell, Array.getElem_modify, hlt, hg]
theorem heap_lt {q : Nat} {o : Obj} (e : W.heap[q]? = some o) : q < W.heap.size := by
  rcases Nat.lt_or_ge q W.heap.size with h1 | h1
  · exact h1
  · rw [Array.getElem?_eq_none h1] at e; cases e
/-- A block from here on is not that of the element. -/
theorem I15.fresh (h : I15 m y0 T x cA cL cP1 cP2 cS cW ii w0 L u W) {q : Nat} (hq : W.heap.size ≤ q) : L 18 = true → u 18 ≠ .pointer (some ⟨q, 0, none⟩) := fun l18 e => by
  obtain ⟨fb, e1, _, e3⟩ := h.c18 l18
  have := heap_lt e3
  rw [e1] at e
  simp at e
  try omega
theorem I15.no1617 (h : I15 m y0 T x cA cL cP1 cP2 cS cW ii w0 L u W) (hL : L 8 = false) : L 16 = false ∧ L 17 = false := by
  have h16 : L 16 = false := by
    cases e : L 16 with
    | false => rfl
    | true => have := (h.p16 e).2; rw [hL] at this; cases this
  refine ⟨h16, ?_⟩
  cases e : L 17 with
  | false => rfl
  | true => have := (h.p17 e).1; rw [hL] at this; cases this
theorem I15.no17 (h : I15 m y0 T x cA cL cP1 cP2 cS cW ii w0 L u W) (hL : L 16 = false) : L 17 = false := by
  cases e : L 17 with
  | false => rfl
  | true => have := (h.p17 e).2; rw [hL] at this; cases this
theorem I15.no19 (h : I15 m y0 T x cA cL cP1 cP2 cS cW ii w0 L u W) {j : Nat} (hj : j = 7 ∨ j = 8 ∨ j = 10 ∨ j = 16 ∨ j = 17 ∨ j = 18) (hL : L j = false) : L 19 = false := by
  cases h19 : L 19 with
  | false => rfl
  | true =>
    obtain ⟨a, b⟩ := h.p19 h19
    obtain ⟨c, d⟩ := h.p17 a
    obtain ⟨e, _⟩ := h.p16 d
    have f := h.p8 c
    rcases hj with rfl | rfl | rfl | rfl | rfl | rfl <;> simp_all
end
set_option maxRecDepth 100000 in
set_option maxHeartbeats 40000000 in
theorem rExtend_any (v s : Value) (m : List (List Int)) (sl : List Int) (w : World) (h : Rows w v m) (hs : Ints w s sl) (hsn : ∀ A n c, s = .slice A n c → A = none → c = 0) (hv : validM m = true) (ha : isSetM m sl = true) (h12 : m.length ≤ 12) :
    Calls Tryd.prog 19 #[.agg #[v], s] w (ExtRef m (ofList sl) w) := by
  obtain ⟨k0, hk, kz0, kz1, kz2⟩ := info_parts infoIntE
  obtain ⟨p1, p2, p3, p4, -⟩ := valid_parts hv
  obtain ⟨A, cap, rfl, hml, -⟩ := id h
  obtain ⟨As, cs, rfl, hls, -⟩ := id hs
  have hSN := ofList_lt m.length (by omega) sl (isSetM_mem ha)
  have hpow : 2 ^ m.length ≤ 2 ^ 12 := Nat.pow_le_pow_right (by decide) h12
  obtain ⟨N, hN⟩ : ∃ N, 2 ^ m.length = N := ⟨_, rfl⟩
  have HN := hid hN
  have hN4 : N ≤ 4096 := by rw [← hN]; exact Nat.le_trans hpow (by decide)
  have hN8 : 8 * N ≤ 281474976710656 := by omega
  have hNl : N ≤ maxLen := by unfold maxLen; omega
  have hX := bal (Below.refl _ w) (.cells #[.slice A m.length cap] 24)
  have hshl := shl_pow h12 hN
  rw [hN] at hSN
  have hnum := fun W hW => number_any (.slice As sl.length cs) m sl W hW ha h12
  have hsz := set_size hv ha
  obtain ⟨S, hS⟩ : ∃ S, ofList sl = S := ⟨_, rfl⟩
  rw [hS] at hSN hnum hsz ⊢
  have hSNi : (S : Int) < N := by omega
  have HS := hid hS
  have Hnum := hid hnum
  have Hsz := hid hsz
  clear hN hpow hS hnum hsz
  go_enter Tryd.func19, Tryd.ntmps19
  go_wp2_with (at_make; go_must (refine wpList_make_full _ rfl _ _ 34 rfl (w.heap.size + 1) 3 k0 (.int .i64 0) 1 Tryd.underlying34 hk kz0 kz1 .i64 .i64 _ _ N rfl rfl hshl hshl (by rw [kz2]; exact hN8) hNl (by simp) ?_); intro w1 hown hgrow; rw [show Value.cells (.int .i64 0) = #[.int .i64 0] from rfl, toList_madeCells_one, Nat.mul_one] at hown; simp only [World.size_alloc] at hown; have hM1 := TabI.new hown; have hB1 := hX.grown hgrow (by simp) (fun q hq => by cases hq); have bx : w1.cell? ⟨w.heap.size, 0, none⟩ = some (.slice A m.length cap) := (World.cell?_of_block (hgrow.block w.heap.size (by simp) (by simp))).trans (by simp [go_sem]); have hs1 : Ints w1 (.slice As sl.length cs) sl := hs.below hB1; have hb1 := bal (Below.refl w1.heap.size w1) (.cells #[.slice As sl.length cs, .slice none 0 0] 65); have hs2 := hs1.below hb1; have hM2 := hM1.kept (hb1.block _ hM1.lt.2); have hc2 := hM2.cell hSN; have hf2 := hM2.free S)
  refine (Hnum.out _ hs2).mono ?_
  rintro e w2 ⟨rfl, rfl⟩
  go_wp2_with fail
  have hw1 : w.heap.size + 1 < w1.heap.size := hM1.lt.2
  have hsz3 : ((w1.alloc (.cells #[.slice As sl.length cs, .slice none 0 0] 65)).setCell ⟨w.heap.size + 1, S, none⟩ (.int .i64 1)).heap.size = w1.heap.size + 1 := by simp [World.setCell]
  have hblk3 : ∀ b, b < w1.heap.size → b ≠ w.heap.size + 1 → ((w1.alloc (.cells #[.slice As sl.length cs, .slice none 0 0] 65)).setCell ⟨w.heap.size + 1, S, none⟩ (.int .i64 1)).heap[b]? = w1.heap[b]? := fun b hb hne => (Below.heap_setCell _ _ _ _ (by simpa using hne)).trans (Below.heap_alloc _ _ _ hb)
  have HM3 := hid ((hM2.set S 1).congr (g := metF (fun T => T == S)) fun i _ => metF_one S i)
  have HL3 := hid (show LvlI ((w1.alloc (.cells #[.slice As sl.length cs, .slice none 0 0] 65)).setCell ⟨w.heap.size + 1, S, none⟩ (.int .i64 1)) (fun b => b ≠ w.heap.size + 1) m (.slice (some ⟨w1.heap.size, 0, none⟩) 1 1) [(S, [])] from by
    rw [show [(S, ([] : List Int))] = [(ofList sl, [])] from by rw [HS.out]]
    refine lvl_one (l := sl) ((Below.heap_setCell _ _ _ _ (by simp; omega)).trans (World.alloc_heap_new _ _)) (by omega) ?_ ha
    exact (intsP_of hs (hsn _ _ _ rfl)).kept (fun b hb _ => (hblk3 b (by have := hB1.size; omega) (by omega)).trans (hB1.block b hb)) (fun b hb _ => by omega))
  have HB3 := hid ((hB1.trans (hb1.mono (by omega))).setCell (p := ⟨w.heap.size + 1, S, none⟩) (by show w.heap.size ≤ w.heap.size + 1; omega) (.int .i64 1))
  have hbx3 : ((w1.alloc (.cells #[.slice As sl.length cs, .slice none 0 0] 65)).setCell ⟨w.heap.size + 1, S, none⟩ (.int .i64 1)).cell? ⟨w.heap.size, 0, none⟩ = some (.slice A m.length cap) := (World.cell?_of_block (hblk3 w.heap.size (show w.heap.size < w1.heap.size by omega) (show w.heap.size ≠ w.heap.size + 1 by omega))).trans bx
  have hc1 := cntMet_one N S hSN
  have hc2' := cntMet_le N (fun T => T == S)
  generalize ((w1.alloc (.cells #[.slice As sl.length cs, .slice none 0 0] 65)).setCell ⟨w.heap.size + 1, S, none⟩ (.int .i64 1)) = w3 at *
  clear hM1 hM2 hB1 hb1 hX bx hown hgrow hs1 hs2 hc2 hf2 hblk3 hsz3 hN8 hNl
  have HM3 := HM3.out
  have HL3 := HL3.out
  generalize hab : w.heap.size + 1 = ab at *
  have HM3 := hid HM3
  have HL3 := hid HL3
  go_loopg [7] (N + 1 - cntMet N (fun T => T == S)) (fun k lv wr => ∃ (L : Nat) (level : List Tr) (met : Nat → Bool), LevR m S L met level ∧ (level = [] ∨ (L + 1 ≤ cntMet N met ∧ cntMet N met + k = N + 1)) ∧ level.length ≤ N ∧ TabI wr ab ab N (metF met) ∧ LvlI wr (fun b => b ≠ ab) m lv level ∧ Below w.heap.size w wr ∧ wr.cell? ⟨w.heap.size, 0, none⟩ = some (.slice A m.length cap))
  case atStart => exact ⟨0, [(S, [])], fun T => T == S, LevR.start m S, .inr ⟨by omega, by omega⟩, by simp; omega, HM3.out, HL3.out, HB3.out, hbx3⟩
  case round =>
    clear HL3 HM3 HB3 hbx3 hc1 hc2'
    obtain ⟨L, level, met, hLev, hcnt, hlen, hAt, hLvl, hB, hbx⟩ := hrel
    obtain ⟨wo, rfl⟩ : ∃ wo : World, wo = wr := ⟨_, rfl⟩
    obtain ⟨ln, hln⟩ : ∃ ln, level.length = ln := ⟨_, rfl⟩
    obtain ⟨A7, c7, hv7⟩ : ∃ A c, u7 = .slice A ln c := by
      obtain ⟨A7, c7, hu, _⟩ := id hLvl
      exact ⟨A7, c7, by rw [hu, hln]⟩
    subst hv7
    by_cases hl0 : ln = 0
    · subst hl0
      obtain rfl := List.eq_nil_of_length_eq_zero hln
      go_wp2_with fail
      go_ret2
      exact ⟨.inr ⟨hLev.none, rfl⟩, hB⟩
    · have hlp : (0 : Int) < ln := by omega
      have hlpn : 0 < ln := by omega
      have hlpd : decide (0 < ln) = true := decide_eq_true hlpn
      obtain ⟨hcnt1, hcnt2⟩ := hcnt.resolve_left (fun h => by rw [h] at hln; simp at hln; omega)
      have hLN : L < 4096 := by have := cntMet_le N met; omega
      have Hc2 := hid hcnt2
      have Hc1 := hid hcnt1
      have Hln := hid hln
      have HLev := hid hLev
      have HAt := hid hAt
      have HLvl := hid hLvl
      have hao := hAt.lt.2
      rw [hln] at hlen
      clear hcnt hcnt1 hcnt2 hLev hAt hLvl hln
      have hE := hid (NextI.empty wo (wo.heap.size + 2) (wo.heap.size + 1) m wo.heap.size rfl (by omega))
      have hN8 : 8 * N ≤ 281474976710656 := by omega
      have hNl : N ≤ maxLen := by unfold maxLen; omega
      go_wp2_with (at_make; go_must (refine wpList_make_full _ rfl _ _ 34 rfl (wo.heap.size + 1) 3 k0 (.int .i64 0) 1 Tryd.underlying34 hk kz0 kz1 .i64 .i64 _ _ N rfl rfl rfl rfl (by rw [kz2]; exact hN8) hNl (by simp) ?_); intro w5 hown hgrow; rw [show Value.cells (.int .i64 0) = #[.int .i64 0] from rfl, toList_madeCells_one, Nat.mul_one] at hown; simp only [World.size_alloc] at hown; have hP5 := hid (PlT.empty (TabI.new hown)); have hB5 := hid (((Below.refl wo.heap.size wo).alloc (Nat.le_refl _) (.cells #[] 65)).grown hgrow (by simp) (fun q hq => by cases hq)); have hs5 := hgrow.size; have hpl5 := (TabI.new hown).lt.2; have hE5 := hid (hE.out.kept (by omega) (by omega) (fun b _ hne hb => hgrow.block b hb (fun e => by cases e))); clear hown hgrow)
      have hR0 := hid (show InR m S L N ab met level w wo w5 0 0 (.slice (some ⟨wo.heap.size, 0, none⟩) 0 0) (.slice none 0 0) false [] none from ⟨MidN.start, MidB.start, hE5.out, ⟨rfl, rfl⟩, hP5.out, hB5.out, hpl5⟩)
      clear hE hP5 hB5 hE5 hs5 hpl5
      go_loopw [8, 10, 11, 12] (fun nv bv lv iv wr => ∃ (i : Nat) (nl : List Tr) (best : Option (List Int)) (lg : Bool), i ≤ ln ∧ iv = .int .i64 i ∧ lv = .bool lg ∧ InR m S L N ab met level w wo wr i 0 nv bv lg nl best) (fun _ _ _ iv _ => ln - (intOf iv).toNat)
      case atStart => exact ⟨0, [], none, false, Nat.zero_le _, rfl, rfl, hR0.out⟩
      case round =>
        clear hR0
        obtain ⟨i, nl, best, lg, hi, rfl, rfl, hR⟩ := hrel
        by_cases hlt : i < ln
        · have hii : (i : Int) < ln := by omega
          have hiid : decide (i < ln) = true := decide_eq_true hlt
          go_wp2_with fail
          go_loopw [8, 10, 11, 13] (fun nv bv lv xv wr => ∃ (x : Nat) (nl : List Tr) (best : Option (List Int)) (lg : Bool), x ≤ letters m ∧ xv = .int .i64 x ∧ lv = .bool lg ∧ InR m S L N ab met level w wo wr i x nv bv lg nl best) (fun _ _ _ xv _ => letters m - (intOf xv).toNat)
          case atStart => exact ⟨0, nl, best, lg, Nat.zero_le _, rfl, rfl, hR⟩
          case round =>
            clear hR
            obtain ⟨x, nl, best, lg, hx, rfl, rfl, hR⟩ := hrel
            have hBr := btr hB hR.be
            have hbxr := (hR.be.cell (p := ⟨w.heap.size, 0, none⟩) (World.block_lt_of_cell? _ _ hbx)).trans hbx
            obtain ⟨wl, rfl⟩ : ∃ wl : World, wl = wr := ⟨_, rfl⟩
            go_wp2_with fail
            refine (rLetters_any _ m _ (h.below hBr) hv).mono ?_
            rintro e y0 ⟨rfl, hy0⟩
            by_cases hxl : x < letters m
            · have hxx : (x : Int) < letters m := by omega
              have hlti : i < level.length := by rw [Hln.out]; exact hlt
              obtain ⟨A', cap', hv', hcl⟩ := id (HLvl.out.kept (W' := y0) (P' := fun b => b ≠ ab) (fun b _ hs => (btr hR.be hy0).block b hs) (fun _ h _ => h))
              simp only [Value.slice.injEq] at hv'
              obtain ⟨rfl, -, rfl⟩ := hv'
              obtain ⟨b, off, vs, vw, rfl, hbab, e1, e2, ⟨l0, hl0', hset0, hof0⟩, hu0, hunil⟩ := hcl i hlti
              have e0 := (hy0.cell (p := ⟨w.heap.size, 0, none⟩) (World.block_lt_of_cell? _ _ hbxr)).trans hbxr
              obtain ⟨Az, cz, rfl, hz0, hzl, -⟩ := id hl0'
              obtain ⟨Au, cu, rfl, hu0', hul, -⟩ := id hu0
              have HPre := hid (fun (W : World) (hW : Below y0.heap.size y0 W) (u : Value) (hu : Ints W u [(x : Int)]) => rPreimage_own (.slice A m.length cap) (.slice Az l0.length cz) u m l0 [(x : Int)] W (h.below (btr hBr (btr hy0 hW))) (hl0'.ints.below hW) hu hv hset0 (by unfold isWordM; simp only [Bool.and_eq_true]; exact ⟨by simp, by simpa using inB_true (by omega)⟩))
              obtain ⟨u0, hu0e⟩ : ∃ u, (level.getD i (0, [])).2 = u := ⟨_, rfl⟩
              rw [hu0e] at hu0 e2 hul
              have HR := hid hR
              have Hset := hid hset0
              have Hof := hid hof0
              have Hu0 := hid hu0
              have Hu0e := hid hu0e
              have Hunil := hid (show u0 = [] → Au = none ∧ cu = 0 from fun h0 => by
                have h1 := hunil (by rw [Hu0e.out]; exact h0)
                simp only [Value.slice.injEq] at h1
                exact ⟨h1.1, h1.2.2⟩)
              clear hunil
              have Hl0 := hid hl0'
              have hu04 : u0.length ≤ 4096 := by
                have := (HLev.out.ok _ (getD_memT hlti)).2.1
                rw [Hu0e.out] at this
                omega
              have HU0i := hid (fun (W : World) (hW : Below y0.heap.size y0 W) => hu0.ints.below hW)
              have Hh := hid h
              have Hs := hid hs
              have Hsn := hid hsn
              clear hcl hR hset0 hof0 hu0 hu0e hl0' h hs hsn
              go_upto_region 15 with fail
              go_cut [14] from 48 to 65 (fun t wc => FoundAt m y0 (tS m level i x, tW level i x) t wc)
              case first =>
                rename_i J K' hJ hK'
                refine wp_region_inv (by kernel_rfl) (by kernel_rfl) (by kernel_rfl) (I := I15 m y0 (tS m level i x) x (.agg #[.slice A m.length cap]) (.slice (some ⟨b, off, none⟩) ln c7) (.pointer (some ⟨b, off + i * 2, none⟩)) (.pointer (some ⟨b, off + i * 2 + 1, none⟩)) (.slice Az l0.length cz) (.slice Au u0.length cu) i u0) ?_ ?_ ?_
                · refine ⟨below_dr y0 1, ?_, ?_, ?_, ?_, ?_, ?_, ?_, ?_, ?_, ?_, ?_, ?_, ?_, ?_, ?_, ?_, ?_, ?_, ?_, ?_, ?_, ?_, ?_⟩ <;> (intro h; cases h)
                · refine ⟨?_, ?_, ?_, ?_, ?_, ?_, ?_, ?_, ?_, ?_, ?_, ?_, ?_, ?_, ?_, ?_, ?_, ?_, ?_, ?_, trivial⟩
                  all_goals (intro L u W hL hpre hI K hK; generalize hF : framedFrom _ u 0 _ = F at *; simp [Region.binds] at hpre)
                  --B15
                  · have f2 : F.eval (.tmp 2) = .pointer (some ⟨w.heap.size, 0, none⟩) := by rw [← hF]; exact (framed_old (s := 2) _ _ _ (by kernel_rfl)).trans (by kernel_rfl)
                    simp [Act.eval] at f2
                    have q0 := (hI.be.cell (p := ⟨w.heap.size, 0, none⟩) (World.block_lt_of_cell? _ _ e0)).trans e0
                    refine op_run rfl (.agg #[.slice A m.length cap]) W (by simp [execOp, go_sem, f2, q0]) (hK _ _ ⟨hI.be, by first | (simp [updB, updV]; done) | (simpa [updB, updV] using hI.c0), by first | (simp [updB, updV]; done) | (simpa [updB, updV] using hI.c1), by first | (simp [updB, updV]; done) | (simpa [updB, updV] using hI.c2), by first | (simp [updB, updV]; done) | (simpa [updB, updV] using hI.c3), by first | (simp [updB, updV]; done) | (simpa [updB, updV] using hI.c4), by first | (simp [updB, updV]; done) | (simpa [updB, updV] using hI.c5), by first | (simp [updB, updV]; done) | (simpa [updB, updV] using hI.c6), by first | (simp [updB, updV]; done) | (simpa [updB, updV] using hI.c7), by first | (simp [updB, updV]; done) | (simpa [updB, updV] using hI.c8), by first | (simp [updB, updV]; done) | (simpa [updB, updV] using hI.c9), by first | (simp [updB, updV]; done) | (simpa [updB, updV] using hI.c10), by first | (simp [updB, updV]; done) | (simpa [updB, updV] using hI.c11), by first | (simp [updB, updV]; done) | (simpa [updB, updV] using hI.c12), by first | (simp [updB, updV]; done) | (simpa [updB, updV] using hI.c13), by first | (simp [updB, updV]; done) | (simpa [updB, updV] using hI.c14), by first | (simp [updB, updV]; done) | (simpa [updB, updV] using hI.c15), by first | (simp [updB, updV]; done) | (simpa [updB, updV] using hI.c16), by first | (simp [updB, updV]; done) | (simpa [updB, updV] using hI.c17), by first | (simp [updB, updV]; done) | (simpa [updB, updV] using hI.p8), by first | (simp [updB, updV]; done) | (simpa [updB, updV] using hI.p16), by first | (simp [updB, updV]; done) | (simpa [updB, updV] using hI.p17), by first | (simp [updB, updV]; done) | (simpa [updB, updV] using hI.p19), by first | (simp [updB, updV]; done) | (simpa [updB, updV] using hI.c18)⟩)
                  · have f7 : F.eval (.tmp 7) = .slice (some ⟨b, off, none⟩) ln c7 := by rw [← hF]; exact (framed_old (s := 7) _ _ _ (by kernel_rfl)).trans (by kernel_rfl)
                    simp [Act.eval] at f7
                    refine op_run rfl (.slice (some ⟨b, off, none⟩) ln c7) W (by simp [execOp, go_sem, f7]) (hK _ _ ⟨hI.be, by first | (simp [updB, updV]; done) | (simpa [updB, updV] using hI.c0), by first | (simp [updB, updV]; done) | (simpa [updB, updV] using hI.c1), by first | (simp [updB, updV]; done) | (simpa [updB, updV] using hI.c2), by first | (simp [updB, updV]; done) | (simpa [updB, updV] using hI.c3), by first | (simp [updB, updV]; done) | (simpa [updB, updV] using hI.c4), by first | (simp [updB, updV]; done) | (simpa [updB, updV] using hI.c5), by first | (simp [updB, updV]; done) | (simpa [updB, updV] using hI.c6), by first | (simp [updB, updV]; done) | (simpa [updB, updV] using hI.c7), by first | (simp [updB, updV]; done) | (simpa [updB, updV] using hI.c8), by first | (simp [updB, updV]; done) | (simpa [updB, updV] using hI.c9), by first | (simp [updB, updV]; done) | (simpa [updB, updV] using hI.c10), by first | (simp [updB, updV]; done) | (simpa [updB, updV] using hI.c11), by first | (simp [updB, updV]; done) | (simpa [updB, updV] using hI.c12), by first | (simp [updB, updV]; done) | (simpa [updB, updV] using hI.c13), by first | (simp [updB, updV]; done) | (simpa [updB, updV] using hI.c14), by first | (simp [updB, updV]; done) | (simpa [updB, updV] using hI.c15), by first | (simp [updB, updV]; done) | (simpa [updB, updV] using hI.c16), by first | (simp [updB, updV]; done) | (simpa [updB, updV] using hI.c17), by first | (simp [updB, updV]; done) | (simpa [updB, updV] using hI.p8), by first | (simp [updB, updV]; done) | (simpa [updB, updV] using hI.p16), by first | (simp [updB, updV]; done) | (simpa [updB, updV] using hI.p17), by first | (simp [updB, updV]; done) | (simpa [updB, updV] using hI.p19), by first | (simp [updB, updV]; done) | (simpa [updB, updV] using hI.c18)⟩)
                  · have f12 : F.eval (.tmp 12) = .int .i64 i := by rw [← hF]; exact (framed_old (s := 12) _ _ _ (by kernel_rfl)).trans (by kernel_rfl)
                    simp [Act.eval] at f12
                    refine op_run rfl (.int .i64 i) W (by simp [execOp, go_sem, f12]) (hK _ _ ⟨hI.be, by first | (simp [updB, updV]; done) | (simpa [updB, updV] using hI.c0), by first | (simp [updB, updV]; done) | (simpa [updB, updV] using hI.c1), by first | (simp [updB, updV]; done) | (simpa [updB, updV] using hI.c2), by first | (simp [updB, updV]; done) | (simpa [updB, updV] using hI.c3), by first | (simp [updB, updV]; done) | (simpa [updB, updV] using hI.c4), by first | (simp [updB, updV]; done) | (simpa [updB, updV] using hI.c5), by first | (simp [updB, updV]; done) | (simpa [updB, updV] using hI.c6), by first | (simp [updB, updV]; done) | (simpa [updB, updV] using hI.c7), by first | (simp [updB, updV]; done) | (simpa [updB, updV] using hI.c8), by first | (simp [updB, updV]; done) | (simpa [updB, updV] using hI.c9), by first | (simp [updB, updV]; done) | (simpa [updB, updV] using hI.c10), by first | (simp [updB, updV]; done) | (simpa [updB, updV] using hI.c11), by first | (simp [updB, updV]; done) | (simpa [updB, updV] using hI.c12), by first | (simp [updB, updV]; done) | (simpa [updB, updV] using hI.c13), by first | (simp [updB, updV]; done) | (simpa [updB, updV] using hI.c14), by first | (simp [updB, updV]; done) | (simpa [updB, updV] using hI.c15), by first | (simp [updB, updV]; done) | (simpa [updB, updV] using hI.c16), by first | (simp [updB, updV]; done) | (simpa [updB, updV] using hI.c17), by first | (simp [updB, updV]; done) | (simpa [updB, updV] using hI.p8), by first | (simp [updB, updV]; done) | (simpa [updB, updV] using hI.p16), by first | (simp [updB, updV]; done) | (simpa [updB, updV] using hI.p17), by first | (simp [updB, updV]; done) | (simpa [updB, updV] using hI.p19), by first | (simp [updB, updV]; done) | (simpa [updB, updV] using hI.c18)⟩)
                  · have f49 : F.eval (.tmp 49) = .slice (some ⟨b, off, none⟩) ln c7 := by rw [← hF]; exact (framed_new (d := 49) _ _ _ 1 (by kernel_rfl) (of_decide_eq_true (by kernel_rfl)) (by kernel_rfl)).trans (hI.c1 (hpre.1))
                    simp [Act.eval] at f49
                    have f50 : F.eval (.tmp 50) = .int .i64 i := by rw [← hF]; exact (framed_new (d := 50) _ _ _ 2 (by kernel_rfl) (of_decide_eq_true (by kernel_rfl)) (by kernel_rfl)).trans (hI.c2 (hpre.2))
                    simp [Act.eval] at f50
                    refine op_run rfl (.pointer (some ⟨b, off + i * 2, none⟩)) W (by simp [execOp, go_sem, f49, f50, hii, hlt]) (hK _ _ ⟨hI.be, by first | (simp [updB, updV]; done) | (simpa [updB, updV] using hI.c0), by first | (simp [updB, updV]; done) | (simpa [updB, updV] using hI.c1), by first | (simp [updB, updV]; done) | (simpa [updB, updV] using hI.c2), by first | (simp [updB, updV]; done) | (simpa [updB, updV] using hI.c3), by first | (simp [updB, updV]; done) | (simpa [updB, updV] using hI.c4), by first | (simp [updB, updV]; done) | (simpa [updB, updV] using hI.c5), by first | (simp [updB, updV]; done) | (simpa [updB, updV] using hI.c6), by first | (simp [updB, updV]; done) | (simpa [updB, updV] using hI.c7), by first | (simp [updB, updV]; done) | (simpa [updB, updV] using hI.c8), by first | (simp [updB, updV]; done) | (simpa [updB, updV] using hI.c9), by first | (simp [updB, updV]; done) | (simpa [updB, updV] using hI.c10), by first | (simp [updB, updV]; done) | (simpa [updB, updV] using hI.c11), by first | (simp [updB, updV]; done) | (simpa [updB, updV] using hI.c12), by first | (simp [updB, updV]; done) | (simpa [updB, updV] using hI.c13), by first | (simp [updB, updV]; done) | (simpa [updB, updV] using hI.c14), by first | (simp [updB, updV]; done) | (simpa [updB, updV] using hI.c15), by first | (simp [updB, updV]; done) | (simpa [updB, updV] using hI.c16), by first | (simp [updB, updV]; done) | (simpa [updB, updV] using hI.c17), by first | (simp [updB, updV]; done) | (simpa [updB, updV] using hI.p8), by first | (simp [updB, updV]; done) | (simpa [updB, updV] using hI.p16), by first | (simp [updB, updV]; done) | (simpa [updB, updV] using hI.p17), by first | (simp [updB, updV]; done) | (simpa [updB, updV] using hI.p19), by first | (simp [updB, updV]; done) | (simpa [updB, updV] using hI.c18)⟩)
                  · have f51 : F.eval (.tmp 51) = .pointer (some ⟨b, off + i * 2, none⟩) := by rw [← hF]; exact (framed_new (d := 51) _ _ _ 3 (by kernel_rfl) (of_decide_eq_true (by kernel_rfl)) (by kernel_rfl)).trans (hI.c3 (by simpa using hpre))
                    simp [Act.eval] at f51
                    refine op_run rfl (.pointer (some ⟨b, off + i * 2, none⟩)) W (by simp [execOp, go_sem, f51]) (hK _ _ ⟨hI.be, by first | (simp [updB, updV]; done) | (simpa [updB, updV] using hI.c0), by first | (simp [updB, updV]; done) | (simpa [updB, updV] using hI.c1), by first | (simp [updB, updV]; done) | (simpa [updB, updV] using hI.c2), by first | (simp [updB, updV]; done) | (simpa [updB, updV] using hI.c3), by first | (simp [updB, updV]; done) | (simpa [updB, updV] using hI.c4), by first | (simp [updB, updV]; done) | (simpa [updB, updV] using hI.c5), by first | (simp [updB, updV]; done) | (simpa [updB, updV] using hI.c6), by first | (simp [updB, updV]; done) | (simpa [updB, updV] using hI.c7), by first | (simp [updB, updV]; done) | (simpa [updB, updV] using hI.c8), by first | (simp [updB, updV]; done) | (simpa [updB, updV] using hI.c9), by first | (simp [updB, updV]; done) | (simpa [updB, updV] using hI.c10), by first | (simp [updB, updV]; done) | (simpa [updB, updV] using hI.c11), by first | (simp [updB, updV]; done) | (simpa [updB, updV] using hI.c12), by first | (simp [updB, updV]; done) | (simpa [updB, updV] using hI.c13), by first | (simp [updB, updV]; done) | (simpa [updB, updV] using hI.c14), by first | (simp [updB, updV]; done) | (simpa [updB, updV] using hI.c15), by first | (simp [updB, updV]; done) | (simpa [updB, updV] using hI.c16), by first | (simp [updB, updV]; done) | (simpa [updB, updV] using hI.c17), by first | (simp [updB, updV]; done) | (simpa [updB, updV] using hI.p8), by first | (simp [updB, updV]; done) | (simpa [updB, updV] using hI.p16), by first | (simp [updB, updV]; done) | (simpa [updB, updV] using hI.p17), by first | (simp [updB, updV]; done) | (simpa [updB, updV] using hI.p19), by first | (simp [updB, updV]; done) | (simpa [updB, updV] using hI.c18)⟩)
                  · have f52 : F.eval (.tmp 52) = .pointer (some ⟨b, off + i * 2, none⟩) := by rw [← hF]; exact (framed_new (d := 52) _ _ _ 4 (by kernel_rfl) (of_decide_eq_true (by kernel_rfl)) (by kernel_rfl)).trans (hI.c4 (by simpa using hpre))
                    simp [Act.eval] at f52
                    have q0 := (hI.be.cell (p := ⟨b, off + i * 2, none⟩) (World.block_lt_of_cell? _ _ e1)).trans e1
                    refine op_run rfl (.slice Az l0.length cz) W (by simp [execOp, go_sem, f52, q0]) (hK _ _ ⟨hI.be, by first | (simp [updB, updV]; done) | (simpa [updB, updV] using hI.c0), by first | (simp [updB, updV]; done) | (simpa [updB, updV] using hI.c1), by first | (simp [updB, updV]; done) | (simpa [updB, updV] using hI.c2), by first | (simp [updB, updV]; done) | (simpa [updB, updV] using hI.c3), by first | (simp [updB, updV]; done) | (simpa [updB, updV] using hI.c4), by first | (simp [updB, updV]; done) | (simpa [updB, updV] using hI.c5), by first | (simp [updB, updV]; done) | (simpa [updB, updV] using hI.c6), by first | (simp [updB, updV]; done) | (simpa [updB, updV] using hI.c7), by first | (simp [updB, updV]; done) | (simpa [updB, updV] using hI.c8), by first | (simp [updB, updV]; done) | (simpa [updB, updV] using hI.c9), by first | (simp [updB, updV]; done) | (simpa [updB, updV] using hI.c10), by first | (simp [updB, updV]; done) | (simpa [updB, updV] using hI.c11), by first | (simp [updB, updV]; done) | (simpa [updB, updV] using hI.c12), by first | (simp [updB, updV]; done) | (simpa [updB, updV] using hI.c13), by first | (simp [updB, updV]; done) | (simpa [updB, updV] using hI.c14), by first | (simp [updB, updV]; done) | (simpa [updB, updV] using hI.c15), by first | (simp [updB, updV]; done) | (simpa [updB, updV] using hI.c16), by first | (simp [updB, updV]; done) | (simpa [updB, updV] using hI.c17), by first | (simp [updB, updV]; done) | (simpa [updB, updV] using hI.p8), by first | (simp [updB, updV]; done) | (simpa [updB, updV] using hI.p16), by first | (simp [updB, updV]; done) | (simpa [updB, updV] using hI.p17), by first | (simp [updB, updV]; done) | (simpa [updB, updV] using hI.p19), by first | (simp [updB, updV]; done) | (simpa [updB, updV] using hI.c18)⟩)
                  · have f13 : F.eval (.tmp 13) = .int .i64 x := by rw [← hF]; exact (framed_old (s := 13) _ _ _ (by kernel_rfl)).trans (by kernel_rfl)
                    simp [Act.eval] at f13
                    refine op_run rfl (.int .i64 x) W (by simp [execOp, go_sem, f13]) (hK _ _ ⟨hI.be, by first | (simp [updB, updV]; done) | (simpa [updB, updV] using hI.c0), by first | (simp [updB, updV]; done) | (simpa [updB, updV] using hI.c1), by first | (simp [updB, updV]; done) | (simpa [updB, updV] using hI.c2), by first | (simp [updB, updV]; done) | (simpa [updB, updV] using hI.c3), by first | (simp [updB, updV]; done) | (simpa [updB, updV] using hI.c4), by first | (simp [updB, updV]; done) | (simpa [updB, updV] using hI.c5), by first | (simp [updB, updV]; done) | (simpa [updB, updV] using hI.c6), by first | (simp [updB, updV]; done) | (simpa [updB, updV] using hI.c7), by first | (simp [updB, updV]; done) | (simpa [updB, updV] using hI.c8), by first | (simp [updB, updV]; done) | (simpa [updB, updV] using hI.c9), by first | (simp [updB, updV]; done) | (simpa [updB, updV] using hI.c10), by first | (simp [updB, updV]; done) | (simpa [updB, updV] using hI.c11), by first | (simp [updB, updV]; done) | (simpa [updB, updV] using hI.c12), by first | (simp [updB, updV]; done) | (simpa [updB, updV] using hI.c13), by first | (simp [updB, updV]; done) | (simpa [updB, updV] using hI.c14), by first | (simp [updB, updV]; done) | (simpa [updB, updV] using hI.c15), by first | (simp [updB, updV]; done) | (simpa [updB, updV] using hI.c16), by first | (simp [updB, updV]; done) | (simpa [updB, updV] using hI.c17), by first | (simp [updB, updV]; done) | (simpa [updB, updV] using hI.p8), by first | (simp [updB, updV]; done) | (simpa [updB, updV] using hI.p16), by first | (simp [updB, updV]; done) | (simpa [updB, updV] using hI.p17), by first | (simp [updB, updV]; done) | (simpa [updB, updV] using hI.p19), by first | (simp [updB, updV]; done) | (simpa [updB, updV] using hI.c18)⟩)
                  · have f54 : F.eval (.tmp 54) = .int .i64 x := by rw [← hF]; exact (framed_new (d := 54) _ _ _ 6 (by kernel_rfl) (of_decide_eq_true (by kernel_rfl)) (by kernel_rfl)).trans (hI.c6 (by simpa using hpre))
                    simp [Act.eval] at f54
                    have hI' := hI.later (bal (Below.refl _ W) (.cells #[.int .i64 x] 3))
                    refine op_run rfl (.slice (some ⟨W.heap.size, 0, none⟩) 1 1) (W.alloc (.cells #[.int .i64 x] 3)) (by simp [execOp, go_sem, f54]) (hK _ _ ⟨hI'.be, by first | (simp [updB, updV]; done) | (simpa [updB, updV] using hI'.c0), by first | (simp [updB, updV]; done) | (simpa [updB, updV] using hI'.c1), by first | (simp [updB, updV]; done) | (simpa [updB, updV] using hI'.c2), by first | (simp [updB, updV]; done) | (simpa [updB, updV] using hI'.c3), by first | (simp [updB, updV]; done) | (simpa [updB, updV] using hI'.c4), by first | (simp [updB, updV]; done) | (simpa [updB, updV] using hI'.c5), by first | (simp [updB, updV]; done) | (simpa [updB, updV] using hI'.c6), fun _ _ => ⟨W.heap.size, by simp [updV], World.alloc_heap_new _ _⟩, by first | (simp [updB, updV]; done) | (simpa [updB, updV] using hI'.c8), by first | (simp [updB, updV]; done) | (simpa [updB, updV] using hI'.c9), by first | (simp [updB, updV]; done) | (simpa [updB, updV] using hI'.c10), by first | (simp [updB, updV]; done) | (simpa [updB, updV] using hI'.c11), by first | (simp [updB, updV]; done) | (simpa [updB, updV] using hI'.c12), by first | (simp [updB, updV]; done) | (simpa [updB, updV] using hI'.c13), by first | (simp [updB, updV]; done) | (simpa [updB, updV] using hI'.c14), by first | (simp [updB, updV]; done) | (simpa [updB, updV] using hI'.c15), by first | (simp [updB, updV]; done) | (simpa [updB, updV] using hI'.c16), by first | (simp [updB, updV]; done) | (simpa [updB, updV] using hI'.c17), by first | (simp [updB, updV]; done) | (simpa [updB, updV] using hI'.p8), by first | (simp [updB, updV]; done) | (simpa [updB, updV] using hI'.p16), by first | (simp [updB, updV]; done) | (simpa [updB, updV] using hI'.p17), by first | (simp [updB, updV]; done) | (simpa [updB, updV] using hI'.p19), by first | (simp [updB, updV]; done) | (simpa [updB, updV] using hI'.c18)⟩)
                  · obtain ⟨l0p, l5p, l7p⟩ : L 0 = true ∧ L 5 = true ∧ L 7 = true := by simpa [and_assoc] using hpre
                    have l19 := hI.no19 (j := 8) (by simp) hL
                    obtain ⟨l16, l17⟩ := hI.no1617 hL
                    obtain ⟨b1, e7, h7⟩ := hI.c7 l7p l19
                    have f48 : F.eval (.tmp 48) = .agg #[.slice A m.length cap] := by rw [← hF]; exact (framed_new (d := 48) _ _ _ 0 (by kernel_rfl) (of_decide_eq_true (by kernel_rfl)) (by kernel_rfl)).trans (hI.c0 l0p)
                    have f53 : F.eval (.tmp 53) = .slice Az l0.length cz := by rw [← hF]; exact (framed_new (d := 53) _ _ _ 5 (by kernel_rfl) (of_decide_eq_true (by kernel_rfl)) (by kernel_rfl)).trans (hI.c5 l5p)
                    have f55 : F.eval (.tmp 55) = .slice (some ⟨b1, 0, none⟩) 1 1 := by rw [← hF]; exact (framed_new (d := 55) _ _ _ 7 (by kernel_rfl) (of_decide_eq_true (by kernel_rfl)) (by kernel_rfl)).trans e7
                    simp [Act.eval] at f48 f53 f55
                    refine op_call rfl 44 #[.agg #[.slice A m.length cap], .slice Az l0.length cz, .slice (some ⟨b1, 0, none⟩) 1 1] (by simp [execOp, go_sem, f48, f53, f55]) ?_
                    refine (HPre.out W hI.be _ (ints_one_at (by simp [World.cell?, h7]))).mono ?_
                    rintro e y1 ⟨r, rfl, hro, hy1⟩
                    obtain ⟨Ar, cr, rfl⟩ := ownsRow_slice hro
                    have hI' := hI.later hy1
                    refine ⟨_, rfl, hK _ _ ⟨hI'.be, by first | (simp [updB, updV, l16, l17, l19]; done) | (simpa [updB, updV, l16, l17, l19] using hI'.c0), by first | (simp [updB, updV, l16, l17, l19]; done) | (simpa [updB, updV, l16, l17, l19] using hI'.c1), by first | (simp [updB, updV, l16, l17, l19]; done) | (simpa [updB, updV, l16, l17, l19] using hI'.c2), by first | (simp [updB, updV, l16, l17, l19]; done) | (simpa [updB, updV, l16, l17, l19] using hI'.c3), by first | (simp [updB, updV, l16, l17, l19]; done) | (simpa [updB, updV, l16, l17, l19] using hI'.c4), by first | (simp [updB, updV, l16, l17, l19]; done) | (simpa [updB, updV, l16, l17, l19] using hI'.c5), by first | (simp [updB, updV, l16, l17, l19]; done) | (simpa [updB, updV, l16, l17, l19] using hI'.c6), by first | (simp [updB, updV, l16, l17, l19]; done) | (simpa [updB, updV, l16, l17, l19] using hI'.c7), fun _ => ⟨Ar, cr, preimageM m l0 [(x : Int)], by simp [updV], (IntsP.own (n₀ := W.heap.size) (P := fun q => W.heap.size ≤ q) hro rfl (by have := isSetM_len (preimageM_set hv (u := [(x : Int)]) Hset.out); unfold big; omega) (fun g hg => (hro.lt g hg).1)).kept (fun _ _ _ => rfl) (fun q hq _ => ⟨Nat.le_trans hI.be.size hq, by simpa [updB, updV] using hI.fresh hq⟩), preimageM_set hv Hset.out, pre_of hv Hof.out⟩, by first | (simp [updB, updV, l16, l17, l19]; done) | (simpa [updB, updV, l16, l17, l19] using hI'.c9), by first | (simp [updB, updV, l16, l17, l19]; done) | (simpa [updB, updV, l16, l17, l19] using hI'.c10), by first | (simp [updB, updV, l16, l17, l19]; done) | (simpa [updB, updV, l16, l17, l19] using hI'.c11), by first | (simp [updB, updV, l16, l17, l19]; done) | (simpa [updB, updV, l16, l17, l19] using hI'.c12), by first | (simp [updB, updV, l16, l17, l19]; done) | (simpa [updB, updV, l16, l17, l19] using hI'.c13), by first | (simp [updB, updV, l16, l17, l19]; done) | (simpa [updB, updV, l16, l17, l19] using hI'.c14), by first | (simp [updB, updV, l16, l17, l19]; done) | (simpa [updB, updV, l16, l17, l19] using hI'.c15), by first | (simp [updB, updV, l16, l17, l19]; done) | (simpa [updB, updV, l16, l17, l19] using hI'.c16), by first | (simp [updB, updV, l16, l17, l19]; done) | (simpa [updB, updV, l16, l17, l19] using hI'.c17), fun _ => by simpa [updB] using l7p, by first | (simp [updB, updV, l16, l17, l19]; done) | (simpa [updB, updV, l16, l17, l19] using hI'.p16), by first | (simp [updB, updV, l16, l17, l19]; done) | (simpa [updB, updV, l16, l17, l19] using hI'.p17), by first | (simp [updB, updV, l16, l17, l19]; done) | (simpa [updB, updV, l16, l17, l19] using hI'.p19), by first | (simp [updB, updV, l16, l17, l19]; done) | (simpa [updB, updV, l16, l17, l19] using hI'.c18)⟩⟩
                  · have f13 : F.eval (.tmp 13) = .int .i64 x := by rw [← hF]; exact (framed_old (s := 13) _ _ _ (by kernel_rfl)).trans (by kernel_rfl)
                    simp [Act.eval] at f13
                    refine op_run rfl (.int .i64 x) W (by simp [execOp, go_sem, f13]) (hK _ _ ⟨hI.be, by first | (simp [updB, updV]; done) | (simpa [updB, updV] using hI.c0), by first | (simp [updB, updV]; done) | (simpa [updB, updV] using hI.c1), by first | (simp [updB, updV]; done) | (simpa [updB, updV] using hI.c2), by first | (simp [updB, updV]; done) | (simpa [updB, updV] using hI.c3), by first | (simp [updB, updV]; done) | (simpa [updB, updV] using hI.c4), by first | (simp [updB, updV]; done) | (simpa [updB, updV] using hI.c5), by first | (simp [updB, updV]; done) | (simpa [updB, updV] using hI.c6), by first | (simp [updB, updV]; done) | (simpa [updB, updV] using hI.c7), by first | (simp [updB, updV]; done) | (simpa [updB, updV] using hI.c8), by first | (simp [updB, updV]; done) | (simpa [updB, updV] using hI.c9), by first | (simp [updB, updV]; done) | (simpa [updB, updV] using hI.c10), by first | (simp [updB, updV]; done) | (simpa [updB, updV] using hI.c11), by first | (simp [updB, updV]; done) | (simpa [updB, updV] using hI.c12), by first | (simp [updB, updV]; done) | (simpa [updB, updV] using hI.c13), by first | (simp [updB, updV]; done) | (simpa [updB, updV] using hI.c14), by first | (simp [updB, updV]; done) | (simpa [updB, updV] using hI.c15), by first | (simp [updB, updV]; done) | (simpa [updB, updV] using hI.c16), by first | (simp [updB, updV]; done) | (simpa [updB, updV] using hI.c17), by first | (simp [updB, updV]; done) | (simpa [updB, updV] using hI.p8), by first | (simp [updB, updV]; done) | (simpa [updB, updV] using hI.p16), by first | (simp [updB, updV]; done) | (simpa [updB, updV] using hI.p17), by first | (simp [updB, updV]; done) | (simpa [updB, updV] using hI.p19), by first | (simp [updB, updV]; done) | (simpa [updB, updV] using hI.c18)⟩)
                  · have f57 : F.eval (.tmp 57) = .int .i64 x := by rw [← hF]; exact (framed_new (d := 57) _ _ _ 9 (by kernel_rfl) (of_decide_eq_true (by kernel_rfl)) (by kernel_rfl)).trans (hI.c9 (by simpa using hpre))
                    simp [Act.eval] at f57
                    have hI' := hI.later (bal (Below.refl _ W) (.cells #[.int .i64 x] 3))
                    refine op_run rfl (.slice (some ⟨W.heap.size, 0, none⟩) 1 1) (W.alloc (.cells #[.int .i64 x] 3)) (by simp [execOp, go_sem, f57]) (hK _ _ ⟨hI'.be, by first | (simp [updB, updV]; done) | (simpa [updB, updV] using hI'.c0), by first | (simp [updB, updV]; done) | (simpa [updB, updV] using hI'.c1), by first | (simp [updB, updV]; done) | (simpa [updB, updV] using hI'.c2), by first | (simp [updB, updV]; done) | (simpa [updB, updV] using hI'.c3), by first | (simp [updB, updV]; done) | (simpa [updB, updV] using hI'.c4), by first | (simp [updB, updV]; done) | (simpa [updB, updV] using hI'.c5), by first | (simp [updB, updV]; done) | (simpa [updB, updV] using hI'.c6), by first | (simp [updB, updV]; done) | (simpa [updB, updV] using hI'.c7), by first | (simp [updB, updV]; done) | (simpa [updB, updV] using hI'.c8), by first | (simp [updB, updV]; done) | (simpa [updB, updV] using hI'.c9), fun _ _ => ⟨W.heap.size, by simp [updV], World.alloc_heap_new _ _, hI.be.size, by simpa [updB, updV] using hI.fresh (Nat.le_refl _)⟩, by first | (simp [updB, updV]; done) | (simpa [updB, updV] using hI'.c11), by first | (simp [updB, updV]; done) | (simpa [updB, updV] using hI'.c12), by first | (simp [updB, updV]; done) | (simpa [updB, updV] using hI'.c13), by first | (simp [updB, updV]; done) | (simpa [updB, updV] using hI'.c14), by first | (simp [updB, updV]; done) | (simpa [updB, updV] using hI'.c15), by first | (simp [updB, updV]; done) | (simpa [updB, updV] using hI'.c16), by first | (simp [updB, updV]; done) | (simpa [updB, updV] using hI'.c17), by first | (simp [updB, updV]; done) | (simpa [updB, updV] using hI'.p8), fun h => ⟨by simp [updB], by simpa [updB] using (hI.p16 (by simpa [updB] using h)).2⟩, by first | (simp [updB, updV]; done) | (simpa [updB, updV] using hI'.p17), by first | (simp [updB, updV]; done) | (simpa [updB, updV] using hI'.p19), by first | (simp [updB, updV]; done) | (simpa [updB, updV] using hI'.c18)⟩)
                  · have f7 : F.eval (.tmp 7) = .slice (some ⟨b, off, none⟩) ln c7 := by rw [← hF]; exact (framed_old (s := 7) _ _ _ (by kernel_rfl)).trans (by kernel_rfl)
                    simp [Act.eval] at f7
                    refine op_run rfl (.slice (some ⟨b, off, none⟩) ln c7) W (by simp [execOp, go_sem, f7]) (hK _ _ ⟨hI.be, by first | (simp [updB, updV]; done) | (simpa [updB, updV] using hI.c0), by first | (simp [updB, updV]; done) | (simpa [updB, updV] using hI.c1), by first | (simp [updB, updV]; done) | (simpa [updB, updV] using hI.c2), by first | (simp [updB, updV]; done) | (simpa [updB, updV] using hI.c3), by first | (simp [updB, updV]; done) | (simpa [updB, updV] using hI.c4), by first | (simp [updB, updV]; done) | (simpa [updB, updV] using hI.c5), by first | (simp [updB, updV]; done) | (simpa [updB, updV] using hI.c6), by first | (simp [updB, updV]; done) | (simpa [updB, updV] using hI.c7), by first | (simp [updB, updV]; done) | (simpa [updB, updV] using hI.c8), by first | (simp [updB, updV]; done) | (simpa [updB, updV] using hI.c9), by first | (simp [updB, updV]; done) | (simpa [updB, updV] using hI.c10), by first | (simp [updB, updV]; done) | (simpa [updB, updV] using hI.c11), by first | (simp [updB, updV]; done) | (simpa [updB, updV] using hI.c12), by first | (simp [updB, updV]; done) | (simpa [updB, updV] using hI.c13), by first | (simp [updB, updV]; done) | (simpa [updB, updV] using hI.c14), by first | (simp [updB, updV]; done) | (simpa [updB, updV] using hI.c15), by first | (simp [updB, updV]; done) | (simpa [updB, updV] using hI.c16), by first | (simp [updB, updV]; done) | (simpa [updB, updV] using hI.c17), by first | (simp [updB, updV]; done) | (simpa [updB, updV] using hI.p8), by first | (simp [updB, updV]; done) | (simpa [updB, updV] using hI.p16), by first | (simp [updB, updV]; done) | (simpa [updB, updV] using hI.p17), by first | (simp [updB, updV]; done) | (simpa [updB, updV] using hI.p19), by first | (simp [updB, updV]; done) | (simpa [updB, updV] using hI.c18)⟩)
                  · have f12 : F.eval (.tmp 12) = .int .i64 i := by rw [← hF]; exact (framed_old (s := 12) _ _ _ (by kernel_rfl)).trans (by kernel_rfl)
                    simp [Act.eval] at f12
                    refine op_run rfl (.int .i64 i) W (by simp [execOp, go_sem, f12]) (hK _ _ ⟨hI.be, by first | (simp [updB, updV]; done) | (simpa [updB, updV] using hI.c0), by first | (simp [updB, updV]; done) | (simpa [updB, updV] using hI.c1), by first | (simp [updB, updV]; done) | (simpa [updB, updV] using hI.c2), by first | (simp [updB, updV]; done) | (simpa [updB, updV] using hI.c3), by first | (simp [updB, updV]; done) | (simpa [updB, updV] using hI.c4), by first | (simp [updB, updV]; done) | (simpa [updB, updV] using hI.c5), by first | (simp [updB, updV]; done) | (simpa [updB, updV] using hI.c6), by first | (simp [updB, updV]; done) | (simpa [updB, updV] using hI.c7), by first | (simp [updB, updV]; done) | (simpa [updB, updV] using hI.c8), by first | (simp [updB, updV]; done) | (simpa [updB, updV] using hI.c9), by first | (simp [updB, updV]; done) | (simpa [updB, updV] using hI.c10), by first | (simp [updB, updV]; done) | (simpa [updB, updV] using hI.c11), by first | (simp [updB, updV]; done) | (simpa [updB, updV] using hI.c12), by first | (simp [updB, updV]; done) | (simpa [updB, updV] using hI.c13), by first | (simp [updB, updV]; done) | (simpa [updB, updV] using hI.c14), by first | (simp [updB, updV]; done) | (simpa [updB, updV] using hI.c15), by first | (simp [updB, updV]; done) | (simpa [updB, updV] using hI.c16), by first | (simp [updB, updV]; done) | (simpa [updB, updV] using hI.c17), by first | (simp [updB, updV]; done) | (simpa [updB, updV] using hI.p8), by first | (simp [updB, updV]; done) | (simpa [updB, updV] using hI.p16), by first | (simp [updB, updV]; done) | (simpa [updB, updV] using hI.p17), by first | (simp [updB, updV]; done) | (simpa [updB, updV] using hI.p19), by first | (simp [updB, updV]; done) | (simpa [updB, updV] using hI.c18)⟩)
                  · have f59 : F.eval (.tmp 59) = .slice (some ⟨b, off, none⟩) ln c7 := by rw [← hF]; exact (framed_new (d := 59) _ _ _ 11 (by kernel_rfl) (of_decide_eq_true (by kernel_rfl)) (by kernel_rfl)).trans (hI.c11 (hpre.1))
                    simp [Act.eval] at f59
                    have f60 : F.eval (.tmp 60) = .int .i64 i := by rw [← hF]; exact (framed_new (d := 60) _ _ _ 12 (by kernel_rfl) (of_decide_eq_true (by kernel_rfl)) (by kernel_rfl)).trans (hI.c12 (hpre.2))
                    simp [Act.eval] at f60
                    refine op_run rfl (.pointer (some ⟨b, off + i * 2, none⟩)) W (by simp [execOp, go_sem, f59, f60, hii, hlt]) (hK _ _ ⟨hI.be, by first | (simp [updB, updV]; done) | (simpa [updB, updV] using hI.c0), by first | (simp [updB, updV]; done) | (simpa [updB, updV] using hI.c1), by first | (simp [updB, updV]; done) | (simpa [updB, updV] using hI.c2), by first | (simp [updB, updV]; done) | (simpa [updB, updV] using hI.c3), by first | (simp [updB, updV]; done) | (simpa [updB, updV] using hI.c4), by first | (simp [updB, updV]; done) | (simpa [updB, updV] using hI.c5), by first | (simp [updB, updV]; done) | (simpa [updB, updV] using hI.c6), by first | (simp [updB, updV]; done) | (simpa [updB, updV] using hI.c7), by first | (simp [updB, updV]; done) | (simpa [updB, updV] using hI.c8), by first | (simp [updB, updV]; done) | (simpa [updB, updV] using hI.c9), by first | (simp [updB, updV]; done) | (simpa [updB, updV] using hI.c10), by first | (simp [updB, updV]; done) | (simpa [updB, updV] using hI.c11), by first | (simp [updB, updV]; done) | (simpa [updB, updV] using hI.c12), by first | (simp [updB, updV]; done) | (simpa [updB, updV] using hI.c13), by first | (simp [updB, updV]; done) | (simpa [updB, updV] using hI.c14), by first | (simp [updB, updV]; done) | (simpa [updB, updV] using hI.c15), by first | (simp [updB, updV]; done) | (simpa [updB, updV] using hI.c16), by first | (simp [updB, updV]; done) | (simpa [updB, updV] using hI.c17), by first | (simp [updB, updV]; done) | (simpa [updB, updV] using hI.p8), by first | (simp [updB, updV]; done) | (simpa [updB, updV] using hI.p16), by first | (simp [updB, updV]; done) | (simpa [updB, updV] using hI.p17), by first | (simp [updB, updV]; done) | (simpa [updB, updV] using hI.p19), by first | (simp [updB, updV]; done) | (simpa [updB, updV] using hI.c18)⟩)
                  · have f61 : F.eval (.tmp 61) = .pointer (some ⟨b, off + i * 2, none⟩) := by rw [← hF]; exact (framed_new (d := 61) _ _ _ 13 (by kernel_rfl) (of_decide_eq_true (by kernel_rfl)) (by kernel_rfl)).trans (hI.c13 (by simpa using hpre))
                    simp [Act.eval] at f61
                    refine op_run rfl (.pointer (some ⟨b, off + i * 2 + 1, none⟩)) W (by simp [execOp, go_sem, f61]) (hK _ _ ⟨hI.be, by first | (simp [updB, updV]; done) | (simpa [updB, updV] using hI.c0), by first | (simp [updB, updV]; done) | (simpa [updB, updV] using hI.c1), by first | (simp [updB, updV]; done) | (simpa [updB, updV] using hI.c2), by first | (simp [updB, updV]; done) | (simpa [updB, updV] using hI.c3), by first | (simp [updB, updV]; done) | (simpa [updB, updV] using hI.c4), by first | (simp [updB, updV]; done) | (simpa [updB, updV] using hI.c5), by first | (simp [updB, updV]; done) | (simpa [updB, updV] using hI.c6), by first | (simp [updB, updV]; done) | (simpa [updB, updV] using hI.c7), by first | (simp [updB, updV]; done) | (simpa [updB, updV] using hI.c8), by first | (simp [updB, updV]; done) | (simpa [updB, updV] using hI.c9), by first | (simp [updB, updV]; done) | (simpa [updB, updV] using hI.c10), by first | (simp [updB, updV]; done) | (simpa [updB, updV] using hI.c11), by first | (simp [updB, updV]; done) | (simpa [updB, updV] using hI.c12), by first | (simp [updB, updV]; done) | (simpa [updB, updV] using hI.c13), by first | (simp [updB, updV]; done) | (simpa [updB, updV] using hI.c14), by first | (simp [updB, updV]; done) | (simpa [updB, updV] using hI.c15), by first | (simp [updB, updV]; done) | (simpa [updB, updV] using hI.c16), by first | (simp [updB, updV]; done) | (simpa [updB, updV] using hI.c17), by first | (simp [updB, updV]; done) | (simpa [updB, updV] using hI.p8), by first | (simp [updB, updV]; done) | (simpa [updB, updV] using hI.p16), by first | (simp [updB, updV]; done) | (simpa [updB, updV] using hI.p17), by first | (simp [updB, updV]; done) | (simpa [updB, updV] using hI.p19), by first | (simp [updB, updV]; done) | (simpa [updB, updV] using hI.c18)⟩)
                  · have f62 : F.eval (.tmp 62) = .pointer (some ⟨b, off + i * 2 + 1, none⟩) := by rw [← hF]; exact (framed_new (d := 62) _ _ _ 14 (by kernel_rfl) (of_decide_eq_true (by kernel_rfl)) (by kernel_rfl)).trans (hI.c14 (by simpa using hpre))
                    simp [Act.eval] at f62
                    have q0 := (hI.be.cell (p := ⟨b, off + i * 2 + 1, none⟩) (World.block_lt_of_cell? _ _ e2)).trans e2
                    refine op_run rfl (.slice Au u0.length cu) W (by simp [execOp, go_sem, f62, q0]) (hK _ _ ⟨hI.be, by first | (simp [updB, updV]; done) | (simpa [updB, updV] using hI.c0), by first | (simp [updB, updV]; done) | (simpa [updB, updV] using hI.c1), by first | (simp [updB, updV]; done) | (simpa [updB, updV] using hI.c2), by first | (simp [updB, updV]; done) | (simpa [updB, updV] using hI.c3), by first | (simp [updB, updV]; done) | (simpa [updB, updV] using hI.c4), by first | (simp [updB, updV]; done) | (simpa [updB, updV] using hI.c5), by first | (simp [updB, updV]; done) | (simpa [updB, updV] using hI.c6), by first | (simp [updB, updV]; done) | (simpa [updB, updV] using hI.c7), by first | (simp [updB, updV]; done) | (simpa [updB, updV] using hI.c8), by first | (simp [updB, updV]; done) | (simpa [updB, updV] using hI.c9), by first | (simp [updB, updV]; done) | (simpa [updB, updV] using hI.c10), by first | (simp [updB, updV]; done) | (simpa [updB, updV] using hI.c11), by first | (simp [updB, updV]; done) | (simpa [updB, updV] using hI.c12), by first | (simp [updB, updV]; done) | (simpa [updB, updV] using hI.c13), by first | (simp [updB, updV]; done) | (simpa [updB, updV] using hI.c14), by first | (simp [updB, updV]; done) | (simpa [updB, updV] using hI.c15), by first | (simp [updB, updV]; done) | (simpa [updB, updV] using hI.c16), by first | (simp [updB, updV]; done) | (simpa [updB, updV] using hI.c17), by first | (simp [updB, updV]; done) | (simpa [updB, updV] using hI.p8), by first | (simp [updB, updV]; done) | (simpa [updB, updV] using hI.p16), by first | (simp [updB, updV]; done) | (simpa [updB, updV] using hI.p17), by first | (simp [updB, updV]; done) | (simpa [updB, updV] using hI.p19), by first | (simp [updB, updV]; done) | (simpa [updB, updV] using hI.c18)⟩)
                  · obtain ⟨l10p, l15p, l8p⟩ : L 10 = true ∧ L 15 = true ∧ L 8 = true := by simpa [and_assoc] using hpre
                    have l19 := hI.no19 (j := 16) (by simp) hL
                    have l17 := hI.no17 hL
                    obtain ⟨b2, e10, h10, hb2, hn2⟩ := hI.c10 l10p l19
                    have f58 : F.eval (.tmp 58) = .slice (some ⟨b2, 0, none⟩) 1 1 := by rw [← hF]; exact (framed_new (d := 58) _ _ _ 10 (by kernel_rfl) (of_decide_eq_true (by kernel_rfl)) (by kernel_rfl)).trans e10
                    have f63 : F.eval (.tmp 63) = .slice Au u0.length cu := by rw [← hF]; exact (framed_new (d := 63) _ _ _ 15 (by kernel_rfl) (of_decide_eq_true (by kernel_rfl)) (by kernel_rfl)).trans (hI.c15 l15p)
                    refine step_append_one rfl (.tmp 58) (.tmp 63) rfl b2 x Au cu u0 f58 h10 f63 (Hunil.out) (HU0i.out W hI.be) (by omega) ?_
                    intro g2 c2 W2 hP hb
                    have hI' := hI.later hb
                    refine hK _ _ ⟨hI'.be, by first | (simp [updB, updV, l17, l19]; done) | (simpa [updB, updV, l17, l19] using hI'.c0), by first | (simp [updB, updV, l17, l19]; done) | (simpa [updB, updV, l17, l19] using hI'.c1), by first | (simp [updB, updV, l17, l19]; done) | (simpa [updB, updV, l17, l19] using hI'.c2), by first | (simp [updB, updV, l17, l19]; done) | (simpa [updB, updV, l17, l19] using hI'.c3), by first | (simp [updB, updV, l17, l19]; done) | (simpa [updB, updV, l17, l19] using hI'.c4), by first | (simp [updB, updV, l17, l19]; done) | (simpa [updB, updV, l17, l19] using hI'.c5), by first | (simp [updB, updV, l17, l19]; done) | (simpa [updB, updV, l17, l19] using hI'.c6), by first | (simp [updB, updV, l17, l19]; done) | (simpa [updB, updV, l17, l19] using hI'.c7), by first | (simp [updB, updV, l17, l19]; done) | (simpa [updB, updV, l17, l19] using hI'.c8), by first | (simp [updB, updV, l17, l19]; done) | (simpa [updB, updV, l17, l19] using hI'.c9), by first | (simp [updB, updV, l17, l19]; done) | (simpa [updB, updV, l17, l19] using hI'.c10), by first | (simp [updB, updV, l17, l19]; done) | (simpa [updB, updV, l17, l19] using hI'.c11), by first | (simp [updB, updV, l17, l19]; done) | (simpa [updB, updV, l17, l19] using hI'.c12), by first | (simp [updB, updV, l17, l19]; done) | (simpa [updB, updV, l17, l19] using hI'.c13), by first | (simp [updB, updV, l17, l19]; done) | (simpa [updB, updV, l17, l19] using hI'.c14), by first | (simp [updB, updV, l17, l19]; done) | (simpa [updB, updV, l17, l19] using hI'.c15), fun _ => ⟨g2, c2, by simp [updV], hP.kept (fun _ _ _ => rfl) (fun q hq _ => by rcases hq with rfl | hq; exact ⟨hb2, by simpa [updB, updV] using hn2⟩; exact ⟨Nat.le_trans hI.be.size hq, by simpa [updB, updV] using hI.fresh hq⟩)⟩, by first | (simp [updB, updV, l17, l19]; done) | (simpa [updB, updV, l17, l19] using hI'.c17), by first | (simp [updB, updV, l17, l19]; done) | (simpa [updB, updV, l17, l19] using hI'.p8), fun _ => by simpa [updB] using ⟨l10p, l8p⟩, by first | (simp [updB, updV, l17, l19]; done) | (simpa [updB, updV, l17, l19] using hI'.p17), by first | (simp [updB, updV, l17, l19]; done) | (simpa [updB, updV, l17, l19] using hI'.p19), by first | (simp [updB, updV, l17, l19]; done) | (simpa [updB, updV, l17, l19] using hI'.c18)⟩
                  · obtain ⟨l8p, l16p⟩ : L 8 = true ∧ L 16 = true := by simpa [and_assoc] using hpre
                    obtain ⟨A8, k8, l8, e8, -⟩ := hI.c8 l8p
                    obtain ⟨g16, k16, e16, -⟩ := hI.c16 l16p
                    have l19 := hI.no19 (j := 17) (by simp) hL
                    have f56 : F.eval (.tmp 56) = .slice A8 l8.length k8 := by rw [← hF]; exact (framed_new (d := 56) _ _ _ 8 (by kernel_rfl) (of_decide_eq_true (by kernel_rfl)) (by kernel_rfl)).trans e8
                    have f64 : F.eval (.tmp 64) = .slice (some ⟨g16, 0, none⟩) (u0.length + 1) k16 := by rw [← hF]; exact (framed_new (d := 64) _ _ _ 16 (by kernel_rfl) (of_decide_eq_true (by kernel_rfl)) (by kernel_rfl)).trans e16
                    simp [Act.eval] at f56 f64
                    refine op_run rfl (.agg #[.slice A8 l8.length k8, .slice (some ⟨g16, 0, none⟩) (u0.length + 1) k16]) W (by simp [execOp, go_sem, f56, f64]) (hK _ _ ⟨hI.be, by first | (simp [updB, updV, l19]; done) | (simpa [updB, updV, l19] using hI.c0), by first | (simp [updB, updV, l19]; done) | (simpa [updB, updV, l19] using hI.c1), by first | (simp [updB, updV, l19]; done) | (simpa [updB, updV, l19] using hI.c2), by first | (simp [updB, updV, l19]; done) | (simpa [updB, updV, l19] using hI.c3), by first | (simp [updB, updV, l19]; done) | (simpa [updB, updV, l19] using hI.c4), by first | (simp [updB, updV, l19]; done) | (simpa [updB, updV, l19] using hI.c5), by first | (simp [updB, updV, l19]; done) | (simpa [updB, updV, l19] using hI.c6), by first | (simp [updB, updV, l19]; done) | (simpa [updB, updV, l19] using hI.c7), by first | (simp [updB, updV, l19]; done) | (simpa [updB, updV, l19] using hI.c8), by first | (simp [updB, updV, l19]; done) | (simpa [updB, updV, l19] using hI.c9), by first | (simp [updB, updV, l19]; done) | (simpa [updB, updV, l19] using hI.c10), by first | (simp [updB, updV, l19]; done) | (simpa [updB, updV, l19] using hI.c11), by first | (simp [updB, updV, l19]; done) | (simpa [updB, updV, l19] using hI.c12), by first | (simp [updB, updV, l19]; done) | (simpa [updB, updV, l19] using hI.c13), by first | (simp [updB, updV, l19]; done) | (simpa [updB, updV, l19] using hI.c14), by first | (simp [updB, updV, l19]; done) | (simpa [updB, updV, l19] using hI.c15), by first | (simp [updB, updV, l19]; done) | (simpa [updB, updV, l19] using hI.c16), fun _ => by simp [updV, e8, e16], by first | (simp [updB, updV, l19]; done) | (simpa [updB, updV, l19] using hI.p8), by first | (simp [updB, updV, l19]; done) | (simpa [updB, updV, l19] using hI.p16), fun _ => by simpa [updB] using ⟨l8p, l16p⟩, by first | (simp [updB, updV, l19]; done) | (simpa [updB, updV, l19] using hI.p19), by first | (simp [updB, updV, l19]; done) | (simpa [updB, updV, l19] using hI.c18)⟩)
                  · have l19 := hI.no19 (j := 18) (by simp) hL
                    have hI' := hI.later (bal (Below.refl _ W) (.cells #[.slice none 0 0, .slice none 0 0] 65))
                    refine op_run rfl (.pointer (some ⟨W.heap.size, 0, none⟩)) (W.alloc (.cells #[.slice none 0 0, .slice none 0 0] 65)) (by simp [execOp, go_sem]) (hK _ _ ⟨hI'.be, by first | (simp [updB, updV, l19]; done) | (simpa [updB, updV, l19] using hI'.c0), by first | (simp [updB, updV, l19]; done) | (simpa [updB, updV, l19] using hI'.c1), by first | (simp [updB, updV, l19]; done) | (simpa [updB, updV, l19] using hI'.c2), by first | (simp [updB, updV, l19]; done) | (simpa [updB, updV, l19] using hI'.c3), by first | (simp [updB, updV, l19]; done) | (simpa [updB, updV, l19] using hI'.c4), by first | (simp [updB, updV, l19]; done) | (simpa [updB, updV, l19] using hI'.c5), by first | (simp [updB, updV, l19]; done) | (simpa [updB, updV, l19] using hI'.c6), by first | (simp [updB, updV, l19]; done) | (simpa [updB, updV, l19] using hI'.c7), fun l => by obtain ⟨A, c, l', q1, q2, q3⟩ := hI.c8 (by simpa [updB] using l); exact ⟨A, c, l', by simpa [updV] using q1, q2.kept (fun q _ hq => Below.heap_alloc _ _ _ hq) (fun q hq hlt => ⟨hq.1, fun _ => by (simp [updV] <;> omega)⟩), q3⟩, by first | (simp [updB, updV, l19]; done) | (simpa [updB, updV, l19] using hI'.c9), fun l k => by obtain ⟨b2, q1, q2, q3, _⟩ := hI.c10 (by simpa [updB] using l) l19; exact ⟨b2, by simpa [updV] using q1, (Below.heap_alloc _ _ _ (heap_lt q2)).trans q2, q3, fun _ => by have := heap_lt q2; (simp [updV] <;> omega)⟩, by first | (simp [updB, updV, l19]; done) | (simpa [updB, updV, l19] using hI'.c11), by first | (simp [updB, updV, l19]; done) | (simpa [updB, updV, l19] using hI'.c12), by first | (simp [updB, updV, l19]; done) | (simpa [updB, updV, l19] using hI'.c13), by first | (simp [updB, updV, l19]; done) | (simpa [updB, updV, l19] using hI'.c14), by first | (simp [updB, updV, l19]; done) | (simpa [updB, updV, l19] using hI'.c15), fun l => by obtain ⟨g, c, q1, q2⟩ := hI.c16 (by simpa [updB] using l); exact ⟨g, c, by simpa [updV] using q1, q2.kept (fun q _ hq => Below.heap_alloc _ _ _ hq) (fun q hq hlt => ⟨hq.1, fun _ => by (simp [updV] <;> omega)⟩)⟩, by first | (simp [updB, updV, l19]; done) | (simpa [updB, updV, l19] using hI'.c17), by first | (simp [updB, updV, l19]; done) | (simpa [updB, updV, l19] using hI'.p8), by first | (simp [updB, updV, l19]; done) | (simpa [updB, updV, l19] using hI'.p16), by first | (simp [updB, updV, l19]; done) | (simpa [updB, updV, l19] using hI'.p17), by first | (simp [updB, updV, l19]; done) | (simpa [updB, updV, l19] using hI'.p19), fun _ => ⟨W.heap.size, by simp [updV], hI.be.size, by rw [if_neg (by simp [updB, l19])]; exact World.alloc_heap_new _ _⟩⟩)
                  · obtain ⟨l18p, l17p, l16p, -⟩ := hpre
                    obtain ⟨l8p, -⟩ := hI.p17 l17p
                    obtain ⟨A8, k8, l8, e8, P8, s8, o8⟩ := hI.c8 l8p
                    obtain ⟨g16, k16, e16, P16⟩ := hI.c16 l16p
                    obtain ⟨fb, e18, hfb, h18⟩ := hI.c18 l18p
                    rw [if_neg (by rw [hL]; decide)] at h18
                    have f14 : F.eval (.tmp 14) = .pointer (some ⟨fb, 0, none⟩) := by rw [← hF]; exact (framed_new (d := 14) _ _ _ 18 (by kernel_rfl) (of_decide_eq_true (by kernel_rfl)) (by kernel_rfl)).trans e18
                    have f65 : F.eval (.tmp 65) = .agg #[.slice A8 l8.length k8, .slice (some ⟨g16, 0, none⟩) (u0.length + 1) k16] := by rw [← hF]; exact (framed_new (d := 65) _ _ _ 17 (by kernel_rfl) (of_decide_eq_true (by kernel_rfl)) (by kernel_rfl)).trans ((hI.c17 l17p).trans (by rw [e8, e16]))
                    simp [Act.eval] at f14 f65
                    have q0 : W.cell? ⟨fb, 0, none⟩ = some (.slice none 0 0) := by simp [World.cell?, h18]
                    have q1 : W.cell? ⟨fb, 1, none⟩ = some (.slice none 0 0) := by simp [World.cell?, h18]
                    have z0 : W.frozen? ⟨fb, 0, none⟩ = false := by simp [World.frozen?, h18]
                    have z1 : W.frozen? ⟨fb, 1, none⟩ = false := by simp [World.frozen?, h18]
                    refine op_skip rfl ((W.setCell ⟨fb, 0, none⟩ (.slice A8 l8.length k8)).setCell ⟨fb, 1, none⟩ (.slice (some ⟨g16, 0, none⟩) (u0.length + 1) k16)) (by simp [execOp, go_sem, f14, f65, q0, q1, z0, z1]) ?_
                    have hkeep : ∀ q, q ≠ fb → ((W.setCell ⟨fb, 0, none⟩ (.slice A8 l8.length k8)).setCell ⟨fb, 1, none⟩ (.slice (some ⟨g16, 0, none⟩) (u0.length + 1) k16)).heap[q]? = W.heap[q]? := fun q hq => (Below.heap_setCell _ _ _ _ hq).trans (Below.heap_setCell _ _ _ _ hq)
                    exact hK undef _ ⟨((hI.be.setCell (p := ⟨fb, 0, none⟩) hfb _).setCell (p := ⟨fb, 1, none⟩) hfb _), by first | (simp [updB, updV]; done) | (simpa [updB, updV] using hI.c0), by first | (simp [updB, updV]; done) | (simpa [updB, updV] using hI.c1), by first | (simp [updB, updV]; done) | (simpa [updB, updV] using hI.c2), by first | (simp [updB, updV]; done) | (simpa [updB, updV] using hI.c3), by first | (simp [updB, updV]; done) | (simpa [updB, updV] using hI.c4), by first | (simp [updB, updV]; done) | (simpa [updB, updV] using hI.c5), by first | (simp [updB, updV]; done) | (simpa [updB, updV] using hI.c6), by simp [updB], fun _ => ⟨A8, k8, l8, by simpa [updV] using e8, P8.kept (fun q hq _ => hkeep q (fun e => hq.2 l18p (by rw [e18, e]))) (fun q hq _ => by simpa [updB, updV] using hq), s8, o8⟩, by first | (simp [updB, updV]; done) | (simpa [updB, updV] using hI.c9), by simp [updB], by first | (simp [updB, updV]; done) | (simpa [updB, updV] using hI.c11), by first | (simp [updB, updV]; done) | (simpa [updB, updV] using hI.c12), by first | (simp [updB, updV]; done) | (simpa [updB, updV] using hI.c13), by first | (simp [updB, updV]; done) | (simpa [updB, updV] using hI.c14), by first | (simp [updB, updV]; done) | (simpa [updB, updV] using hI.c15), fun _ => ⟨g16, k16, by simpa [updV] using e16, P16.kept (fun q hq _ => hkeep q (fun e => hq.2 l18p (by rw [e18, e]))) (fun q hq _ => by simpa [updB, updV] using hq)⟩, by first | (simp [updB, updV]; done) | (simpa [updB, updV] using hI.c17), by first | (simp [updB, updV]; done) | (simpa [updB, updV] using hI.p8), by first | (simp [updB, updV]; done) | (simpa [updB, updV] using hI.p16), by first | (simp [updB, updV]; done) | (simpa [updB, updV] using hI.p17), fun _ => by simpa [updB] using ⟨l17p, l18p⟩, fun _ => ⟨fb, by simpa [updV] using e18, hfb, by rw [if_pos (by simp [updB])]; simp [updV, e8, e16]; exact set_two h18⟩⟩
                  --E15
                · intro L u W hall hI
                  obtain ⟨A8, k8, l8, e8, P8, s8, o8⟩ := hI.c8 (hall 8 (by decide))
                  obtain ⟨g16, k16, e16, P16⟩ := hI.c16 (hall 16 (by decide))
                  obtain ⟨fb, e18, hfb, h18⟩ := hI.c18 (hall 18 (by decide))
                  rw [if_pos (hall 19 (by decide)), e8, e16] at h18
                  have hfin : FoundAt m y0 (tS m level i x, tW level i x) (u 18) W := ⟨fb, .slice A8 l8.length k8, .slice (some ⟨g16, 0, none⟩) (u0.length + 1) k16, e18, by simp [World.cell?, h18], by simp [World.cell?, h18], ⟨⟨l8, P8.kept (fun _ _ _ => rfl) (fun q hq _ => hq.1), s8, o8⟩, by
                    show IntsP W _ _ ((x : Int) :: (level.getD i (0, [])).2)
                    rw [Hu0e.out]
                    exact P16.kept (fun _ _ _ => rfl) (fun q hq _ => hq.1), fun h => by cases h⟩, hfb, hI.be⟩
                  clear hI P8 P16 h18 e8 e16 e18
                  simp only [framedFrom, Act.put, List.setIfInBounds_toArray, List.set_cons_succ, List.set_cons_zero]
                  refine hK' _ _ (Met.intro (hJ _ _ ?_))
                  repeat apply Exists.intro
                  exact ⟨hfin, rfl⟩
              case rest =>
                obtain ⟨fb, vs, vw, rfl, f0, f1, hEl, hfb, hBc⟩ := hcut
                obtain ⟨wf, rfl⟩ : ∃ wf : World, wf = wc := ⟨_, rfl⟩
                obtain ⟨⟨lT, hlT, hsT, hoT⟩, hlU, -⟩ := id hEl
                obtain ⟨AT, cT, rfl, -, hTl, -⟩ := id hlT
                obtain ⟨AU, cU, rfl, -, hUl, -⟩ := id hlU
                have hRc := (HR.out.later hy0).later hBc
                have hBce := hRc.be
                have hyl := hy0.size
                obtain ⟨hpw, hpl', hpT⟩ := HLev.out.pair hlti hxl
                have hszT := set_size hv hsT
                rw [hoT] at hszT
                have hTN : tS m level i x < N := by rw [← HN.out]; exact preSet_lt hv _ _
                obtain ⟨T, hTe⟩ : ∃ T, tS m level i x = T := ⟨_, rfl⟩
                obtain ⟨U, hUe⟩ : ∃ U, tW level i x = U := ⟨_, rfl⟩
                have HTe := hid hTe
                have HUe := hid hUe
                simp only [hTe, hUe] at hEl hoT hlU hUl hpl' hszT hTN f1 ⊢
                have Hsz' := hid hszT
                have HRc := hid hRc
                have HEl := hid hEl
                have HlT := hid hlT
                have HlU := hid hlU
                have HsT := hid hsT
                have HoT := hid hoT
                have Hpl := hid hpl'
                have HBc := hid hBc
                have HBce := hid hBce
                clear hEl hlT hlU hsT hoT hszT hpw hpT hpl' hRc hBc hBce hTe hUe HPre e0 e1 e2 Hl0 Hset Hof HU0i
                obtain ⟨nT, hnT⟩ : ∃ n, lT.length = n := ⟨_, rfl⟩
                have hcase : szS S < szS T ↔ sl.length < nT := by rw [Hsz.out, Hsz'.out, hnT]
                have Hcase := hid hcase
                rw [hnT] at f0
                have HnT := hid hnT
                have hmS : sl.length ≤ 60 := by have := isSetM_len ha; omega
                have hmT : nT ≤ 60 := by rw [← hnT]; have := isSetM_len HsT.out; omega
                clear hcase hnT
                go_upto_region 16 with fail
                go_cut [81] from 66 to 81 (fun t wd => ∃ c, t = .bool c ∧ TakeIs m S T U best c ∧ Below wf.heap.size wf wd)
                case first =>
                  by_cases hlt2 : sl.length < nT
                  · have d1 : (sl.length : Int) < nT := by omega
                    have d2 : decide (sl.length < nT) = true := decide_eq_true hlt2
                    have hbx' := HRc.out.bx
                    cases best with
                    | none =>
                      obtain ⟨rfl, rfl⟩ := hbx'
                      go_wp2_with fail
                      go_meet
                      exact ⟨true, rfl, ⟨(fun _ => ⟨Hcase.out.2 hlt2, (fun b hb => by cases hb)⟩), (fun h => by cases h)⟩, Below.refl _ _⟩
                    | some b0 =>
                      obtain ⟨rfl, hb0⟩ := hbx'
                      have hlen2 : U.length = b0.length := by rw [Hpl.out, (HRc.out.b.ok b0 rfl).2.1]
                      obtain ⟨A0, c0, rfl, -, hb0l, -⟩ := id hb0
                      have HBf := hid (fun W (hW : Below wf.heap.size wf W) => rBefore_any (.slice AU U.length cU) (.slice A0 b0.length c0) U b0 W (HlU.out.ints.below hW) (hb0.ints.below hW) hlen2)
                      have HBB := hid (show TakeIs m S T U (some b0) (befB U b0) from ⟨fun h => ⟨Hcase.out.2 hlt2, fun b hb => by cases hb; exact h⟩, fun h => .inr ⟨b0, rfl, h⟩⟩)
                      generalize befB U b0 = bf at *
                      clear hlen2 hb0
                      go_wp2_with (go_at_call 45; refine (HBf.out _ (Below.refl _ _)).mono ?_; rintro e y2 ⟨rfl, hy2⟩)
                      go_meet
                      exact ⟨bf, rfl, HBB.out, hy2⟩
                  · have d1 : ¬ (sl.length : Int) < nT := by omega
                    have d2 : decide (sl.length < nT) = false := decide_eq_false hlt2
                    go_wp2_with fail
                    go_meet
                    exact ⟨false, rfl, ⟨(fun h => by cases h), fun _ => .inl fun h => hlt2 (Hcase.out.1 h)⟩, Below.refl _ _⟩
                case rest =>
                  obtain ⟨c, rfl, hTk, hBd⟩ := hcut
                  obtain ⟨wd, rfl⟩ : ∃ wd' : World, wd' = wc := ⟨_, rfl⟩
                  have hRd := HRc.out.later hBd
                  have g1 := (hBd.cell (p := ⟨fb, 1, none⟩) (World.block_lt_of_cell? _ _ f1)).trans f1
                  have g0 := (hBd.cell (p := ⟨fb, 0, none⟩) (World.block_lt_of_cell? _ _ f0)).trans f0
                  have HRd := hid hRd
                  have HlUd := hid (HlU.out.kept (W' := wd) (P' := fun q => y0.heap.size ≤ q) (fun b _ hs => hBd.block b hs) (fun _ h _ => h))
                  have HlTd := hid (HlT.out.kept (W' := wd) (P' := fun q => y0.heap.size ≤ q) (fun b _ hs => hBd.block b hs) (fun _ h _ => h))
                  have HEld := hid (HEl.out.kept (W' := wd) (P' := fun q => y0.heap.size ≤ q) (fun b _ hs => hBd.block b hs) (fun _ h _ => h))
                  have hfd : fb < wd.heap.size := World.block_lt_of_cell? _ _ g0
                  have hwy : wl.heap.size ≤ y0.heap.size := hyl
                  obtain ⟨A8, c8, hu8, hb8⟩ := HR.out.nx.slice
                  have hn8 := HR.out.sz
                  have HBd := hid hBd
                  clear hRd hBd f0 f1
                  go_upto_if 81 with fail
                  go_cut [10, 11] from 82 to 83 (fun t10 t11 we => ∃ best' lg', t11 = .bool lg' ∧ MidB m S L level i (x + 1) best' ∧ BestI wd (wo.heap.size + 2) u8 t10 lg' best' ∧ wd = we)
                  case first =>
                    cases c with
                    | true =>
                      obtain ⟨t1, t2⟩ := hTk.1 rfl
                      have hM := MidB.take HLev.out HRd.out.b hlti hxl (by rw [HTe.out]; exact t1) (by rw [HUe.out]; exact t2)
                      rw [HUe.out] at hM
                      have HM := hid hM
                      clear hM
                      go_wp2_with fail
                      go_meet
                      refine ⟨some U, true, rfl, HM.out, ⟨rfl, HlUd.out.kept (fun _ _ _ => rfl) (fun q hq _ => ⟨by omega, fun e => ?_⟩)⟩, rfl⟩
                      have := (hb8 q e.symm).2
                      omega
                    | false =>
                      have hM : MidB m S L level i (x + 1) best := by
                        rcases hTk.2 rfl with h | ⟨b0, h1, h2⟩
                        · exact HRd.out.b.less (by rw [HTe.out]; exact h)
                        · exact HRd.out.b.keep HLev.out hlti hxl h1 (by rw [HUe.out]; exact h2)
                      have HM := hid hM
                      clear hM
                      go_wp2_with fail
                      go_meet
                      exact ⟨best, lg, rfl, HM.out, HRd.out.bx, rfl⟩
                  case rest =>
                    obtain ⟨best', lg', rfl, hMB, hBI, rfl⟩ := hcut
                    have HMB := hid hMB
                    have HBI := hid hBI
                    have HNum := hid (fun W (hW : Below wd.heap.size wd W) => number_any (.slice AT lT.length cT) m lT W (HlTd.out.ints.below hW) HsT.out h12)
                    have hNum : ∀ W, Below wd.heap.size wd W → Calls Tryd.prog 43 #[.slice AT nT cT] W fun e w' => e = .returned (.int .i64 T) ∧ W = w' := fun W hW => by
                      have := HNum.out W hW
                      rw [HoT.out, HnT.out] at this
                      exact this
                    have HNum := hid hNum
                    have hTi : (T : Int) < N := by omega
                    have hbb : Below wo.heap.size wo wd := HRd.out.be
                    have hAtd := HAt.out.kept (hbb.block ab hao)
                    have ca := hAtd.cell hTN
                    obtain ⟨pl, hpt, hps⟩ := HRd.out.pl
                    have cp := hpt.cell hTN
                    have fp := hpt.free T
                    have hpsT := hps T hTN
                    have Hpt := hid hpt
                    have Hps := hid hps
                    have Hbb := hid hbb
                    have hplb := hpt.lt.2
                    have hnlN : nl.length ≤ N := by
                      have h1 := nodup_lenR (l := nl.map (·.1)) (k := List.range N) (by
                        rw [List.nodup_iff_pairwise_ne, List.pairwise_iff_getElem]
                        intro i' j' hi' hj' hij
                        have hi2 : i' < nl.length := by simpa using hi'
                        have hj2 : j' < nl.length := by simpa using hj'
                        have := HRd.out.n.dist i' j' hij hj2
                        simp only [List.getElem_map]
                        simpa [List.getD_eq_getElem?_getD, hi2, hj2] using this) (fun y hy => by
                        obtain ⟨t, ht, rfl⟩ := List.mem_map.1 hy
                        obtain ⟨a1, a2, a3, a4⟩ := HRd.out.n.ok t ht
                        rw [List.mem_range, a3, ← HN.out]
                        exact preWord_lt hv (by rw [HN.out]; exact hSN) _)
                      simpa using h1
                    clear hMB hBI hAtd hpt hps hbb hNum
                    subst hu8
                    cases hme : met T with
                    | true =>
                      rw [show metF met T = 1 from by unfold metF; rw [hme]; rfl] at ca
                      have hMN := HRd.out.n.old (by rw [HTe.out]; exact hme)
                      have HMN := hid hMN
                      clear hMN hme
                      go_wp2_with (go_at_call 43; refine (HNum.out _ (Below.refl _ _)).mono ?_; rintro e z1 ⟨rfl, rfl⟩)
                      go_roundw
                      case rel => exact ⟨x + 1, nl, best', lg', by omega, by go_num, rfl, ⟨HMN.out, HMB.out, HRd.out.nx, HBI.out, HRd.out.pl, HRd.out.be, HRd.out.sz⟩⟩
                      case measure => simp [intOf]; omega
                    | false =>
                      rw [show metF met T = 0 from by unfold metF; rw [hme]; rfl] at ca
                      have Hme := hid hme
                      clear hme
                      rcases hpsT with ⟨hy0', hnot⟩ | ⟨k, hk1, hyk, hk2⟩
                      · rw [hy0'] at cp
                        have hMN := HRd.out.n.add HLev.out hlti hxl (by rw [HTe.out]; exact Hme.out) (by rw [HTe.out]; exact hnot)
                        rw [HTe.out, HUe.out] at hMN
                        have HMN := hid hMN
                        have Hnot := hid hnot
                        have HE9' := (HEld.out.kept (W' := wd) (P' := fun q => wo.heap.size + 2 ≤ q ∧ some q ≠ (Value.slice A8 nl.length c8).ownBlock) (fun _ _ _ => rfl) (fun q hq _ => ⟨by omega, fun e => by have := (hb8 q e.symm).2; omega⟩))
                        rw [HnT.out] at HE9'
                        have HE9 := hid HE9'
                        have hownp : some (wo.heap.size + 1) ≠ (Value.slice A8 nl.length c8).ownBlock := fun e => by
                          obtain ⟨_, _, hs', _⟩ := HRd.out.nx
                          exact hs' _ e.symm rfl
                        clear HE9'
                        have hs9 : wo.heap.size + 1 < wd.heap.size := by have := HRd.out.sz; omega
                        clear hMN hnot
                        go_wp2_with (first
                          | (go_at_call 43; refine (HNum.out _ (Below.refl _ _)).mono ?_; rintro e z1 ⟨rfl, rfl⟩)
                          | (at_builtin; go_must (refine wpList_append_found rfl _ _ rfl wo.heap.size (wo.heap.size + 2) (wo.heap.size + 1) m (.slice A8 nl.length c8) (.slice AT nT cT) (.slice AU U.length cU) nl (T, U) 65 wd rfl wd.heap.size rfl rfl HRd.out.nx rfl HE9.out (by omega) hs9 (by omega) ?_); intro A9 c9 w9 hN9 hB9 hS9 hK9 hO9; have hp9 := Hpt.out.kept (hK9 _ hplb hownp); have cp9 := hp9.cell hTN; rw [hy0'] at cp9; have fp9 := hp9.free T; have HN9 := hid hN9; have HB9 := hid hB9; have HK9 := hid hK9; have HO9 := hid hO9; have HP9 := hid hp9; clear hN9 hB9 hK9 hO9 hp9))
                        go_roundw
                        case rel =>
                          refine ⟨x + 1, nl ++ [(T, U)], best', lg', by omega, by go_num, rfl, ⟨HMN.out, HMB.out, ?_, ?_, ⟨_, HP9.out.set T ((nl.length : Int) + 1), fun T' hT' => PlIs.add Hps.out hT'⟩, ?_, ?_⟩⟩
                          · have h1 := HN9.out.kept (W' := w9.setCell ⟨wo.heap.size + 1, T, none⟩ (.int .i64 ((nl.length : Int) + 1))) (by omega) (by omega) (fun b _ hne _ => Below.heap_setCell _ _ _ _ hne)
                            first | exact h1 | simpa using h1
                          · have h1 := HBI.out.kept (W' := w9.setCell ⟨wo.heap.size + 1, T, none⟩ (.int .i64 ((nl.length : Int) + 1))) (fun b hb hne hs => (Below.heap_setCell _ _ _ _ (show b ≠ wo.heap.size + 1 by omega)).trans (HK9.out b hs hne))
                            cases best' with
                            | none => exact h1
                            | some b' => exact ⟨h1.1, HBI.out.2.kept (fun b hb hs => (Below.heap_setCell _ _ _ _ (show b ≠ wo.heap.size + 1 by have := hb.1; omega)).trans (HK9.out b hs hb.2)) (fun b hb hs => ⟨hb.1, HO9.out b hs hb.2⟩)⟩
                          · exact (Hbb.out.trans HB9.out).setCell (p := ⟨wo.heap.size + 1, T, none⟩) (by show wo.heap.size ≤ wo.heap.size + 1; omega) _
                          · simp [World.setCell]; omega
                        case measure => simp [intOf]; omega
                      · rw [hyk] at cp
                        obtain ⟨A8', c8', hv8, hcl8⟩ := id (HRd.out.nx.lvl (by omega))
                        simp only [Value.slice.injEq] at hv8
                        obtain ⟨rfl, -, rfl⟩ := hv8
                        obtain ⟨b8, off8, vsk, vwk, rfl, hb8b, n0, n1, hElk⟩ := hcl8 k hk1
                        obtain ⟨⟨lk, hlk, hsk, hok⟩, hwk, -⟩ := id hElk
                        obtain ⟨Ask, csk, rfl, -, hskl, -⟩ := id hlk
                        obtain ⟨Awk, cwk, rfl, -, hwkl, -⟩ := id hwk
                        obtain ⟨uk, huk⟩ : ∃ q, (nl.getD k (0, [])).2 = q := ⟨_, rfl⟩
                        rw [huk] at hwk hwkl n1
                        have hulk : U.length = uk.length := by
                          have h1 := (HRd.out.n.ok _ (getD_memT hk1)).2.1
                          rw [huk] at h1
                          rw [Hpl.out, h1]
                        have HBf := hid (fun W (hW : Below wd.heap.size wd W) => rBefore_any (.slice AU U.length cU) (.slice Awk uk.length cwk) U uk W (HlUd.out.ints.below hW) (hwk.ints.below hW) hulk)
                        have hkp : befB U uk = false → MidN m S L level met i (x + 1) nl := fun hb => HRd.out.n.keep HLev.out hlti hxl hk1 (by rw [hk2, HTe.out]) (by rw [HUe.out, huk]; exact hb)
                        have hbt : befB U uk = true → MidN m S L level met i (x + 1) (nl.set k (T, U)) := fun hb => by
                          have := HRd.out.n.better HLev.out hlti hxl hk1 (by rw [hk2, HTe.out]) (by rw [HUe.out, huk]; exact hb)
                          rw [HTe.out, HUe.out] at this
                          exact this
                        have Hkp := hid hkp
                        have Hbt := hid hbt
                        have Hk2 := hid hk2
                        have Huk := hid huk
                        generalize befB U uk = bf at *
                        have hki : (k : Int) < nl.length := by omega
                        obtain ⟨y1, hy1⟩ : ∃ y1, (k : Int) + 1 = y1 := ⟨_, rfl⟩
                        have hsub : IntKind.i64.wrap (y1 - 1) = k := by rw [← hy1, IntWalk.i64_in _ (by omega)]; omega
                        have hyne : ¬ y1 = 0 := by omega
                        have hyneb : (y1 == 0) = false := beq_eq_false_iff_ne.2 hyne
                        rw [hy1] at cp
                        have Hy1 := hid hy1
                        clear hy1
                        clear hulk hkp hbt hk2 huk hcl8 hElk hlk hwk hsk hok hyk
                        go_upto_region 23 with (go_at_call 43; refine (HNum.out _ (Below.refl _ _)).mono ?_; rintro e z1 ⟨rfl, rfl⟩)
                        go_cut [108] from 109 to 120 (fun t we => t = .bool bf ∧ Below wd.heap.size wd we)
                        case first =>
                          go_region_held3 (fun w' => Below wd.heap.size wd w' ∧ w'.cell? ⟨fb, 1, none⟩ = some (.slice AU U.length cU) ∧ w'.cell? ⟨wo.heap.size + 1, T, none⟩ = some (.int .i64 y1) ∧ w'.cell? ⟨b8, off8 + k * 2 + 1, none⟩ = some (.slice Awk uk.length cwk)) (exact held_three g1 cp n1 (by first | exact below_dr wd 1 | assumption)) (first
                            | (go_at_call 45; go_must (refine (HBf.out _ (by first | exact below_dr wd 1 | exact Below.refl _ _)).mono ?_; rintro e z2 ⟨rfl, hz2⟩; have kZ : Below wd.heap.size wd z2 := btr (by first | exact below_dr wd 1 | exact Below.refl _ _) hz2)))
                          all_goals (go_wp2_with fail; go_meet; exact ⟨rfl, kZ⟩)
                        case rest =>
                          obtain ⟨rfl, hB23⟩ := hcut
                          obtain ⟨we, rfl⟩ : ∃ we : World, we = wc := ⟨_, rfl⟩
                          have HB23 := hid hB23
                          have hR23 := hid (HRd.out.later hB23)
                          cases bf with
                          | false =>
                            go_wp2_with fail
                            go_roundw
                            case rel => exact ⟨x + 1, nl, best', lg', by omega, by go_num, rfl, ⟨Hkp.out rfl, HMB.out, hR23.out.nx, HBI.out.kept (fun b _ _ hs => hB23.block b hs), hR23.out.pl, hR23.out.be, hR23.out.sz⟩⟩
                            case measure => simp [intOf]; omega
                          | true =>
                            obtain ⟨xs8, ho8, hs8, hx8⟩ := id hR23.out.nx
                            obtain ⟨g8, cap8, hv8, hg8, hl8⟩ := ho8.form (by omega)
                            simp only [Value.slice.injEq, Option.some.injEq, Addr.mk.injEq, true_and, and_true] at hv8
                            obtain ⟨⟨rfl, rfl⟩, rfl⟩ := hv8
                            have hsk8 : b8 ≠ wo.heap.size + 1 := hs8 b8 rfl
                            have hfb8 : fb ≠ b8 := by have := (hb8 b8 rfl).2; omega
                            have p0 := (HB23.out.cell (p := ⟨wo.heap.size + 1, T, none⟩) (World.block_lt_of_cell? _ _ cp)).trans cp
                            have p1' := (HB23.out.cell (p := ⟨fb, 0, none⟩) (World.block_lt_of_cell? _ _ g0)).trans g0
                            have p2' := (HB23.out.cell (p := ⟨fb, 1, none⟩) (World.block_lt_of_cell? _ _ g1)).trans g1
                            have s0 := (HB23.out.cell (p := ⟨b8, 0 + k * 2, none⟩) (World.block_lt_of_cell? _ _ n0)).trans n0
                            have s1 := (HB23.out.cell (p := ⟨b8, 0 + k * 2 + 1, none⟩) (World.block_lt_of_cell? _ _ n1)).trans n1
                            rw [Nat.zero_add] at s0 s1
                            have s2 := World.ownsRow.frozenAt ho8 (k * 2)
                            have s3 := World.ownsRow.frozenAt ho8 (k * 2 + 1)
                            have hkeep : ∀ q, q ≠ b8 → ((we.drew.setCell ⟨b8, k * 2, none⟩ (.slice AT nT cT)).setCell ⟨b8, k * 2 + 1, none⟩ (.slice AU U.length cU)).heap[q]? = we.heap[q]? := fun q hq => (Below.heap_setCell _ _ _ _ hq).trans (Below.heap_setCell _ _ _ _ hq)
                            have x0 : ((we.drew.setCell ⟨b8, k * 2, none⟩ (.slice AT nT cT)).setCell ⟨b8, k * 2 + 1, none⟩ (.slice AU U.length cU)).cell? ⟨wo.heap.size + 1, T, none⟩ = some (.int .i64 y1) := (World.cell?_of_block (hkeep _ (fun e => hsk8 e.symm))).trans p0
                            have x1 : ((we.drew.setCell ⟨b8, k * 2, none⟩ (.slice AT nT cT)).setCell ⟨b8, k * 2 + 1, none⟩ (.slice AU U.length cU)).cell? ⟨fb, 0, none⟩ = some (.slice AT nT cT) := (World.cell?_of_block (hkeep _ hfb8)).trans p1'
                            have x2 : ((we.drew.setCell ⟨b8, k * 2, none⟩ (.slice AT nT cT)).setCell ⟨b8, k * 2 + 1, none⟩ (.slice AU U.length cU)).cell? ⟨fb, 1, none⟩ = some (.slice AU U.length cU) := (World.cell?_of_block (hkeep _ hfb8)).trans p2'
                            have Ho8 := hid ho8
                            have Hx8 := hid hx8
                            have Hkeep := hid hkeep
                            clear ho8 hx8 hkeep
                            go_upto_region 24 with fail
                            refine wp_region_inv (by kernel_rfl) (by kernel_rfl) (by kernel_rfl) (I := I24 (.slice (some ⟨b8, 0, none⟩) nl.length c8) (.slice (some ⟨wo.heap.size + 1, 0, none⟩) N N) (.int .i64 T) (.pointer (some ⟨wo.heap.size + 1, T, none⟩)) (.int .i64 y1) (.int .i64 k) (.agg #[.slice AT nT cT, .slice AU U.length cU]) (.pointer (some ⟨b8, k * 2, none⟩)) (⟨wo.heap.size + 1, T, none⟩, .int .i64 y1) (⟨fb, 0, none⟩, .slice AT nT cT) (⟨fb, 1, none⟩, .slice AU U.length cU) we.drew ((we.drew.setCell ⟨b8, k * 2, none⟩ (.slice AT nT cT)).setCell ⟨b8, k * 2 + 1, none⟩ (.slice AU U.length cU))) ?_ ?_ ?_
                            · exact ⟨by simp, by simp, by simp, by simp, by simp, by simp, by simp, by simp, p0, p1', p2', fun _ => rfl, by simp⟩
                            · refine ⟨?_, ?_, ?_, ?_, ?_, ?_, ?_, ?_, ?_, trivial⟩
                              all_goals (intro L u W hL hpre hI K hK; generalize hF : framedFrom _ u 0 _ = F at *; simp [Region.binds] at hpre)
                              · have f8 : F.eval (.tmp 8) = (.slice (some ⟨b8, 0, none⟩) nl.length c8) := by rw [← hF]; exact (framed_old (s := 8) _ _ _ (by kernel_rfl)).trans (by kernel_rfl)
                                simp [Act.eval] at f8
                                refine op_run rfl (.slice (some ⟨b8, 0, none⟩) nl.length c8) W (by simp [execOp, go_sem, f8]) (hK _ _ ⟨by first | (simp [updB, updV]; done) | (simpa [updB, updV] using hI.c0), by first | (simp [updB, updV]; done) | (simpa [updB, updV] using hI.c1), by first | (simp [updB, updV]; done) | (simpa [updB, updV] using hI.c2), by first | (simp [updB, updV]; done) | (simpa [updB, updV] using hI.c3), by first | (simp [updB, updV]; done) | (simpa [updB, updV] using hI.c4), by first | (simp [updB, updV]; done) | (simpa [updB, updV] using hI.c5), by first | (simp [updB, updV]; done) | (simpa [updB, updV] using hI.c6), by first | (simp [updB, updV]; done) | (simpa [updB, updV] using hI.c7), by first | (simp [updB, updV]; done) | (simpa [updB, updV] using hI.k0), by first | (simp [updB, updV]; done) | (simpa [updB, updV] using hI.k1), by first | (simp [updB, updV]; done) | (simpa [updB, updV] using hI.k2), by first | (simp [updB, updV]; done) | (simpa [updB, updV] using hI.wf), by first | (simp [updB, updV]; done) | (simpa [updB, updV] using hI.wt)⟩)
                              · have f9 : F.eval (.tmp 9) = (.slice (some ⟨wo.heap.size + 1, 0, none⟩) N N) := by rw [← hF]; exact (framed_old (s := 9) _ _ _ (by kernel_rfl)).trans (by kernel_rfl)
                                simp [Act.eval] at f9
                                refine op_run rfl (.slice (some ⟨wo.heap.size + 1, 0, none⟩) N N) W (by simp [execOp, go_sem, f9]) (hK _ _ ⟨by first | (simp [updB, updV]; done) | (simpa [updB, updV] using hI.c0), by first | (simp [updB, updV]; done) | (simpa [updB, updV] using hI.c1), by first | (simp [updB, updV]; done) | (simpa [updB, updV] using hI.c2), by first | (simp [updB, updV]; done) | (simpa [updB, updV] using hI.c3), by first | (simp [updB, updV]; done) | (simpa [updB, updV] using hI.c4), by first | (simp [updB, updV]; done) | (simpa [updB, updV] using hI.c5), by first | (simp [updB, updV]; done) | (simpa [updB, updV] using hI.c6), by first | (simp [updB, updV]; done) | (simpa [updB, updV] using hI.c7), by first | (simp [updB, updV]; done) | (simpa [updB, updV] using hI.k0), by first | (simp [updB, updV]; done) | (simpa [updB, updV] using hI.k1), by first | (simp [updB, updV]; done) | (simpa [updB, updV] using hI.k2), by first | (simp [updB, updV]; done) | (simpa [updB, updV] using hI.wf), by first | (simp [updB, updV]; done) | (simpa [updB, updV] using hI.wt)⟩)
                              · have f15 : F.eval (.tmp 15) = .int .i64 T := by rw [← hF]; exact (framed_old (s := 15) _ _ _ (by kernel_rfl)).trans (by kernel_rfl)
                                simp [Act.eval] at f15
                                refine op_run rfl (.int .i64 T) W (by simp [execOp, go_sem, f15]) (hK _ _ ⟨by first | (simp [updB, updV]; done) | (simpa [updB, updV] using hI.c0), by first | (simp [updB, updV]; done) | (simpa [updB, updV] using hI.c1), by first | (simp [updB, updV]; done) | (simpa [updB, updV] using hI.c2), by first | (simp [updB, updV]; done) | (simpa [updB, updV] using hI.c3), by first | (simp [updB, updV]; done) | (simpa [updB, updV] using hI.c4), by first | (simp [updB, updV]; done) | (simpa [updB, updV] using hI.c5), by first | (simp [updB, updV]; done) | (simpa [updB, updV] using hI.c6), by first | (simp [updB, updV]; done) | (simpa [updB, updV] using hI.c7), by first | (simp [updB, updV]; done) | (simpa [updB, updV] using hI.k0), by first | (simp [updB, updV]; done) | (simpa [updB, updV] using hI.k1), by first | (simp [updB, updV]; done) | (simpa [updB, updV] using hI.k2), by first | (simp [updB, updV]; done) | (simpa [updB, updV] using hI.wf), by first | (simp [updB, updV]; done) | (simpa [updB, updV] using hI.wt)⟩)
                              · have f122 : F.eval (.tmp 122) = (.slice (some ⟨wo.heap.size + 1, 0, none⟩) N N) := by rw [← hF]; exact (framed_new (d := 122) _ _ _ 1 (by kernel_rfl) (of_decide_eq_true (by kernel_rfl)) (by kernel_rfl)).trans (hI.c1 hpre.1)
                                simp [Act.eval] at f122
                                have f123 : F.eval (.tmp 123) = .int .i64 T := by rw [← hF]; exact (framed_new (d := 123) _ _ _ 2 (by kernel_rfl) (of_decide_eq_true (by kernel_rfl)) (by kernel_rfl)).trans (hI.c2 hpre.2)
                                simp [Act.eval] at f123
                                refine op_run rfl (.pointer (some ⟨wo.heap.size + 1, T, none⟩)) W (by simp [execOp, go_sem, f122, f123, hTi, hTN]) (hK _ _ ⟨by first | (simp [updB, updV]; done) | (simpa [updB, updV] using hI.c0), by first | (simp [updB, updV]; done) | (simpa [updB, updV] using hI.c1), by first | (simp [updB, updV]; done) | (simpa [updB, updV] using hI.c2), by first | (simp [updB, updV]; done) | (simpa [updB, updV] using hI.c3), by first | (simp [updB, updV]; done) | (simpa [updB, updV] using hI.c4), by first | (simp [updB, updV]; done) | (simpa [updB, updV] using hI.c5), by first | (simp [updB, updV]; done) | (simpa [updB, updV] using hI.c6), by first | (simp [updB, updV]; done) | (simpa [updB, updV] using hI.c7), by first | (simp [updB, updV]; done) | (simpa [updB, updV] using hI.k0), by first | (simp [updB, updV]; done) | (simpa [updB, updV] using hI.k1), by first | (simp [updB, updV]; done) | (simpa [updB, updV] using hI.k2), by first | (simp [updB, updV]; done) | (simpa [updB, updV] using hI.wf), by first | (simp [updB, updV]; done) | (simpa [updB, updV] using hI.wt)⟩)
                              · have f124 : F.eval (.tmp 124) = (.pointer (some ⟨wo.heap.size + 1, T, none⟩)) := by rw [← hF]; exact (framed_new (d := 124) _ _ _ 3 (by kernel_rfl) (of_decide_eq_true (by kernel_rfl)) (by kernel_rfl)).trans (hI.c3 (by simpa using hpre))
                                simp [Act.eval] at f124
                                have q0 := hI.k0
                                refine op_run rfl (.int .i64 y1) W (by simp [execOp, go_sem, f124, q0]) (hK _ _ ⟨by first | (simp [updB, updV]; done) | (simpa [updB, updV] using hI.c0), by first | (simp [updB, updV]; done) | (simpa [updB, updV] using hI.c1), by first | (simp [updB, updV]; done) | (simpa [updB, updV] using hI.c2), by first | (simp [updB, updV]; done) | (simpa [updB, updV] using hI.c3), by first | (simp [updB, updV]; done) | (simpa [updB, updV] using hI.c4), by first | (simp [updB, updV]; done) | (simpa [updB, updV] using hI.c5), by first | (simp [updB, updV]; done) | (simpa [updB, updV] using hI.c6), by first | (simp [updB, updV]; done) | (simpa [updB, updV] using hI.c7), by first | (simp [updB, updV]; done) | (simpa [updB, updV] using hI.k0), by first | (simp [updB, updV]; done) | (simpa [updB, updV] using hI.k1), by first | (simp [updB, updV]; done) | (simpa [updB, updV] using hI.k2), by first | (simp [updB, updV]; done) | (simpa [updB, updV] using hI.wf), by first | (simp [updB, updV]; done) | (simpa [updB, updV] using hI.wt)⟩)
                              · have f125 : F.eval (.tmp 125) = .int .i64 y1 := by rw [← hF]; exact (framed_new (d := 125) _ _ _ 4 (by kernel_rfl) (of_decide_eq_true (by kernel_rfl)) (by kernel_rfl)).trans (hI.c4 (by simpa using hpre))
                                simp [Act.eval] at f125
                                refine op_run rfl (.int .i64 k) W (by simp [execOp, go_sem, f125, hsub]) (hK _ _ ⟨by first | (simp [updB, updV]; done) | (simpa [updB, updV] using hI.c0), by first | (simp [updB, updV]; done) | (simpa [updB, updV] using hI.c1), by first | (simp [updB, updV]; done) | (simpa [updB, updV] using hI.c2), by first | (simp [updB, updV]; done) | (simpa [updB, updV] using hI.c3), by first | (simp [updB, updV]; done) | (simpa [updB, updV] using hI.c4), by first | (simp [updB, updV]; done) | (simpa [updB, updV] using hI.c5), by first | (simp [updB, updV]; done) | (simpa [updB, updV] using hI.c6), by first | (simp [updB, updV]; done) | (simpa [updB, updV] using hI.c7), by first | (simp [updB, updV]; done) | (simpa [updB, updV] using hI.k0), by first | (simp [updB, updV]; done) | (simpa [updB, updV] using hI.k1), by first | (simp [updB, updV]; done) | (simpa [updB, updV] using hI.k2), by first | (simp [updB, updV]; done) | (simpa [updB, updV] using hI.wf), by first | (simp [updB, updV]; done) | (simpa [updB, updV] using hI.wt)⟩)
                              · have f14 : F.eval (.tmp 14) = .pointer (some ⟨fb, 0, none⟩) := by rw [← hF]; exact (framed_old (s := 14) _ _ _ (by kernel_rfl)).trans (by kernel_rfl)
                                simp [Act.eval] at f14
                                have q1 := hI.k1
                                have q2 := hI.k2
                                refine op_run rfl (.agg #[.slice AT nT cT, .slice AU U.length cU]) W (by simp [execOp, go_sem, f14, q1, q2]) (hK _ _ ⟨by first | (simp [updB, updV]; done) | (simpa [updB, updV] using hI.c0), by first | (simp [updB, updV]; done) | (simpa [updB, updV] using hI.c1), by first | (simp [updB, updV]; done) | (simpa [updB, updV] using hI.c2), by first | (simp [updB, updV]; done) | (simpa [updB, updV] using hI.c3), by first | (simp [updB, updV]; done) | (simpa [updB, updV] using hI.c4), by first | (simp [updB, updV]; done) | (simpa [updB, updV] using hI.c5), by first | (simp [updB, updV]; done) | (simpa [updB, updV] using hI.c6), by first | (simp [updB, updV]; done) | (simpa [updB, updV] using hI.c7), by first | (simp [updB, updV]; done) | (simpa [updB, updV] using hI.k0), by first | (simp [updB, updV]; done) | (simpa [updB, updV] using hI.k1), by first | (simp [updB, updV]; done) | (simpa [updB, updV] using hI.k2), by first | (simp [updB, updV]; done) | (simpa [updB, updV] using hI.wf), by first | (simp [updB, updV]; done) | (simpa [updB, updV] using hI.wt)⟩)
                              · have f121 : F.eval (.tmp 121) = (.slice (some ⟨b8, 0, none⟩) nl.length c8) := by rw [← hF]; exact (framed_new (d := 121) _ _ _ 0 (by kernel_rfl) (of_decide_eq_true (by kernel_rfl)) (by kernel_rfl)).trans (hI.c0 hpre.1)
                                simp [Act.eval] at f121
                                have f126 : F.eval (.tmp 126) = .int .i64 k := by rw [← hF]; exact (framed_new (d := 126) _ _ _ 5 (by kernel_rfl) (of_decide_eq_true (by kernel_rfl)) (by kernel_rfl)).trans (hI.c5 hpre.2.1)
                                simp [Act.eval] at f126
                                refine op_run rfl (.pointer (some ⟨b8, k * 2, none⟩)) W (by simp [execOp, go_sem, f121, f126, hki, hk1]) (hK _ _ ⟨by first | (simp [updB, updV]; done) | (simpa [updB, updV] using hI.c0), by first | (simp [updB, updV]; done) | (simpa [updB, updV] using hI.c1), by first | (simp [updB, updV]; done) | (simpa [updB, updV] using hI.c2), by first | (simp [updB, updV]; done) | (simpa [updB, updV] using hI.c3), by first | (simp [updB, updV]; done) | (simpa [updB, updV] using hI.c4), by first | (simp [updB, updV]; done) | (simpa [updB, updV] using hI.c5), by first | (simp [updB, updV]; done) | (simpa [updB, updV] using hI.c6), by first | (simp [updB, updV]; done) | (simpa [updB, updV] using hI.c7), by first | (simp [updB, updV]; done) | (simpa [updB, updV] using hI.k0), by first | (simp [updB, updV]; done) | (simpa [updB, updV] using hI.k1), by first | (simp [updB, updV]; done) | (simpa [updB, updV] using hI.k2), by first | (simp [updB, updV]; done) | (simpa [updB, updV] using hI.wf), by first | (simp [updB, updV]; done) | (simpa [updB, updV] using hI.wt)⟩)
                              · have f128 : F.eval (.tmp 128) = (.pointer (some ⟨b8, k * 2, none⟩)) := by rw [← hF]; exact (framed_new (d := 128) _ _ _ 7 (by kernel_rfl) (of_decide_eq_true (by kernel_rfl)) (by kernel_rfl)).trans (hI.c7 hpre.1)
                                simp [Act.eval] at f128
                                have f127 : F.eval (.tmp 127) = (.agg #[.slice AT nT cT, .slice AU U.length cU]) := by rw [← hF]; exact (framed_new (d := 127) _ _ _ 6 (by kernel_rfl) (of_decide_eq_true (by kernel_rfl)) (by kernel_rfl)).trans (hI.c6 hpre.2.1)
                                simp [Act.eval] at f127
                                obtain rfl := hI.wf hL
                                refine op_skip rfl ((we.drew.setCell ⟨b8, k * 2, none⟩ (.slice AT nT cT)).setCell ⟨b8, k * 2 + 1, none⟩ (.slice AU U.length cU)) (by simp [execOp, go_sem, f128, f127, s0, s1, s2, s3]) ?_
                                exact hK undef _ ⟨by first | (simp [updB, updV]; done) | (simpa [updB, updV] using hI.c0), by first | (simp [updB, updV]; done) | (simpa [updB, updV] using hI.c1), by first | (simp [updB, updV]; done) | (simpa [updB, updV] using hI.c2), by first | (simp [updB, updV]; done) | (simpa [updB, updV] using hI.c3), by first | (simp [updB, updV]; done) | (simpa [updB, updV] using hI.c4), by first | (simp [updB, updV]; done) | (simpa [updB, updV] using hI.c5), by first | (simp [updB, updV]; done) | (simpa [updB, updV] using hI.c6), by first | (simp [updB, updV]; done) | (simpa [updB, updV] using hI.c7), x0, x1, x2, by simp [updB], fun _ => rfl⟩
                            · intro L u W hall hI
                              obtain rfl := hI.wt (hall 8 (by decide))
                              clear hI
                              simp only [framedFrom, Act.put, List.setIfInBounds_toArray, List.set_cons_succ, List.set_cons_zero]
                              go_wp2_with fail
                              go_roundw
                              case rel =>
                                have hE8 := HEld.out.kept (W' := wd) (P' := fun q => wo.heap.size + 2 ≤ q ∧ some q ≠ (Value.slice (some ⟨b8, 0, none⟩) nl.length c8).ownBlock) (fun _ _ _ => rfl) (fun q hq _ => ⟨by omega, fun e => by have := (hb8 q e.symm).2; omega⟩)
                                rw [HnT.out] at hE8
                                have hst := (World.ownsRow.stored ((World.ownsRow.stored Ho8.out (k * 2) (.slice AT nT cT)).1) (k * 2 + 1) (.slice AU U.length cU)).1
                                have hxl8 := Ho8.out.1
                                have hlen8 : (nl.set k (T, U)).length = nl.length := List.length_set
                                have hfst : ∀ j, ((nl.set k (T, U)).getD j (0, [])).1 = (nl.getD j (0, [])).1 := fun j => by
                                  rw [setT_getD hk1]
                                  by_cases e : j = k
                                  · subst e; rw [if_pos rfl]; exact Hk2.out.symm
                                  · rw [if_neg e]
                                have hB24 := (HRd.out.be.trans (HB23.out.mono (by have := HRd.out.be.size; omega)))
                                refine ⟨x + 1, nl.set k (T, U), best', lg', by omega, by go_num, rfl, ⟨Hbt.out rfl, HMB.out, ⟨(xs8.set (k * 2) (.slice AT nT cT)).set (k * 2 + 1) (.slice AU U.length cU), by rw [hlen8]; exact hst, hs8, fun j hj => ?_⟩, ?_, ?_, ?_, ?_⟩⟩
                                · rw [hlen8] at hj
                                  by_cases e : j = k
                                  · subst e
                                    refine ⟨.slice AT nT cT, .slice AU U.length cU, ?_, ?_, ?_⟩
                                    · rw [List.getElem?_set_ne (by omega), List.getElem?_set_self (by omega)]
                                    · rw [List.getElem?_set_self (by rw [List.length_set]; omega)]
                                    · rw [setT_getD hk1, if_pos rfl]
                                      exact hE8.kept (fun q hq hs => (Hkeep.out q (fun e => hq.2 (by rw [e]; rfl))).trans (HB23.out.block q hs)) (fun q hq _ => hq)
                                  · obtain ⟨v1, v2, q1, q2, q3⟩ := Hx8.out j hj
                                    refine ⟨v1, v2, ?_, ?_, ?_⟩
                                    · rw [List.getElem?_set_ne (by omega), List.getElem?_set_ne (by omega)]; exact q1
                                    · rw [List.getElem?_set_ne (by omega), List.getElem?_set_ne (by omega)]; exact q2
                                    · rw [setT_getD hk1, if_neg e]
                                      exact q3.kept (fun q hq _ => Hkeep.out q (fun e => hq.2 (by rw [e]; rfl))) (fun q hq _ => hq)
                                · exact HBI.out.kept (fun q _ hne hs => (Hkeep.out q (fun e => hne (by rw [e]; rfl))).trans (HB23.out.block q hs))
                                · obtain ⟨pl', q1, q2⟩ := hR23.out.pl
                                  exact ⟨pl', q1.kept (Hkeep.out _ (fun e => hsk8 e.symm)), fun T' hT' => PlIs.same hlen8 hfst (q2 T' hT')⟩
                                · exact (hR23.out.be.drew.setCell (p := ⟨b8, k * 2, none⟩) hg8 _).setCell (p := ⟨b8, k * 2 + 1, none⟩) hg8 _
                                · have := hR23.out.sz; simp [World.setCell]; omega
                              case measure => simp [intOf]; omega
            · obtain rfl : x = letters m := by omega
              have hxx : ¬ (letters m : Int) < letters m := by omega
              have hR2 := hR.later hy0
              have HR2 := hid hR2
              clear hR2 hR
              go_wp2_with fail
              go_roundw
              case rel => exact ⟨i + 1, nl, best, lg, by omega, by go_num, rfl, ⟨HR2.out.n.row, HR2.out.b.row, HR2.out.nx, HR2.out.bx, HR2.out.pl, HR2.out.be, HR2.out.sz⟩⟩
              case measure => simp [intOf]; omega
        · obtain rfl : i = ln := by omega
          have hii : ¬ (i : Int) < i := by omega
          have hiid : decide (i < i) = false := decide_eq_false (by omega)
          have hN9 := hR.n
          have hM9 := hR.b
          rw [← Hln.out] at hN9 hM9
          have hBr := btr hB hR.be
          have hbxr := (hR.be.cell (p := ⟨w.heap.size, 0, none⟩) (World.block_lt_of_cell? _ _ hbx)).trans hbx
          have hbI := hR.bx
          cases best with
          | some b =>
            obtain ⟨rfl, hbP⟩ := hbI
            have hF := hM9.first HLev.out
            have Hbl := hid (hM9.ok b rfl).2.1
            obtain ⟨Ab, cb, rfl, -, hbl2, -⟩ := id hbP
            have HF := hid hF
            have HbI := hid hbP.ints
            clear hF hbP hM9 hN9 hR
            go_wp2_with fail
            go_ret2
            exact ⟨.inl ⟨b, Ab, cb, HF.out, by have := Hbl.out; omega, rfl, HbI.out⟩, hBr⟩
          | none =>
            obtain ⟨rfl, rfl⟩ := hbI
            have hL10 := hN9.lev HLev.out hM9
            have hlv0 := hR.nx.lvl (by omega)
            have hlvl0 : LvlI wr (fun b => b ≠ ab) m u8 nl := hlv0.kept (fun _ _ _ => rfl) (fun b hb _ => by omega)
            have hat0 := HAt.out.kept (hR.be.block ab hao)
            have hnlN : nl.length ≤ N := by
              have h1 := nodup_lenR (l := nl.map (·.1)) (k := List.range N) (by
                rw [List.nodup_iff_pairwise_ne, List.pairwise_iff_getElem]
                intro i' j' hi' hj' hij
                have hi2 : i' < nl.length := by simpa using hi'
                have hj2 : j' < nl.length := by simpa using hj'
                have := hR.n.dist i' j' hij hj2
                simp only [List.getElem_map]
                simpa [List.getD_eq_getElem?_getD, hi2, hj2] using this) (fun y hy => by
                obtain ⟨t, ht, rfl⟩ := List.mem_map.1 hy
                obtain ⟨a1, a2, a3, a4⟩ := hR.n.ok t ht
                rw [List.mem_range, a3, ← HN.out]
                exact preWord_lt hv (by rw [HN.out]; exact hSN) _)
              simpa using h1
            have hnew : ∀ t ∈ nl, met t.1 = false ∧ t.1 < N := fun t ht => by
              obtain ⟨a1, a2, a3, a4⟩ := hR.n.ok t ht
              exact ⟨a4, by rw [a3, ← HN.out]; exact preWord_lt hv (by rw [HN.out]; exact hSN) _⟩
            have Hnew := hid hnew
            have HL10 := hid hL10
            have Hlv0 := hid hlvl0
            have Hat0 := hid hat0
            clear hN9 hM9 hR hL10 hlv0 hlvl0 hat0 hnew
            obtain ⟨A8, c8, hu8⟩ : ∃ A c, u8 = .slice A nl.length c := by
              obtain ⟨A8, c8, hu, _⟩ := id Hlv0.out
              exact ⟨A8, c8, hu⟩
            subst hu8
            obtain ⟨wq, rfl⟩ : ∃ wq : World, wq = wr := ⟨_, rfl⟩
            go_wp2_with fail
            go_loopw [16] (fun jv wr => ∃ j : Nat, j ≤ nl.length ∧ jv = .int .i64 j ∧ TabI wr ab ab N (metF (fun T => met T || (nl.take j).any fun t => t.1 == T)) ∧ LvlI wr (fun b => b ≠ ab) m (.slice A8 nl.length c8) nl ∧ Below w.heap.size w wr ∧ wr.cell? ⟨w.heap.size, 0, none⟩ = some (.slice A m.length cap)) (fun jv _ => nl.length - (intOf jv).toNat)
            case atStart => exact ⟨0, Nat.zero_le _, rfl, Hat0.out.congr (fun T _ => by simp [metF]), Hlv0.out, hBr, hbxr⟩
            case round =>
              clear Hat0 Hlv0 hBr hbxr
              obtain ⟨j, hj, rfl, hT, hLv, hB4, hb4⟩ := hrel
              by_cases hjl : j < nl.length
              · have hji : (j : Int) < nl.length := by omega
                obtain ⟨A8', c8', hv8, hcl8⟩ := id hLv
                simp only [Value.slice.injEq] at hv8
                obtain ⟨rfl, -, rfl⟩ := hv8
                obtain ⟨b8, off8, vsk, vwk, rfl, hb8b, n0, n1, ⟨lk, hlk, hsk, hok⟩, -⟩ := hcl8 j hjl
                obtain ⟨Ask, csk, rfl, -, hskl, -⟩ := id hlk
                have hTj := (Hnew.out _ (getD_memT hjl)).2
                obtain ⟨T, hTe⟩ : ∃ T, (nl.getD j (0, [])).1 = T := ⟨_, rfl⟩
                rw [hTe] at hTj hok
                have hTji : (T : Int) < N := by omega
                have HNum := hid (fun W (hW : Below wr.heap.size wr W) => number_any (.slice Ask lk.length csk) m lk W (hlk.ints.below hW) hsk h12)
                rw [hok] at HNum
                have ca := hT.cell hTj
                have fa := hT.free T
                have hab0 := hT.lt
                have hset := (hT.set T 1).congr (g := metF (fun T => met T || (nl.take (j + 1)).any fun t => t.1 == T)) (fun T' _ => by
                  have e1 : nl.take (j + 1) = nl.take j ++ [nl.getD j (0, [])] := by
                    rw [List.take_succ_eq_append_getElem hjl, List.getD_eq_getElem?_getD, List.getElem?_eq_getElem hjl]; rfl
                  unfold metF
                  simp only [e1, List.any_append, List.any_cons, List.any_nil, Bool.or_false, hTe]
                  by_cases e : T' = T
                  · subst e; simp
                  · have e2 : (T == T') = false := beq_eq_false_iff_ne.2 (fun h => e h.symm)
                    rw [if_neg e, e2, Bool.or_false])
                have Hset := hid hset
                have HLv := hid (hLv.kept (W' := wr.setCell ⟨ab, T, none⟩ (.int .i64 1)) (P' := fun b => b ≠ ab) (fun b hb _ => Below.heap_setCell _ _ _ _ hb) (fun _ h _ => h))
                have hB5 := hB4.setCell (p := ⟨ab, T, none⟩) (by show w.heap.size ≤ ab; omega) (.int .i64 1)
                have hb5 : (wr.setCell ⟨ab, T, none⟩ (.int .i64 1)).cell? ⟨w.heap.size, 0, none⟩ = some (.slice A m.length cap) := (World.cell?_of_block (Below.heap_setCell _ _ _ _ (by show w.heap.size ≠ ab; omega))).trans hb4
                have HB5 := hid hB5
                clear hset hLv hcl8 hlk hsk hok hTe hT hB5
                go_wp2_with (go_at_call 43; refine (HNum.out _ (Below.refl _ _)).mono ?_; rintro e z1 ⟨rfl, rfl⟩)
                go_roundw
                case rel => exact ⟨j + 1, by omega, by go_num, Hset.out, HLv.out, HB5.out, hb5⟩
                case measure => simp [intOf]; omega
              · obtain rfl : j = nl.length := by omega
                have hji : ¬ (nl.length : Int) < nl.length := by omega
                rw [List.take_length] at hT
                have HT := hid hT
                have HLv := hid hLv
                have Hc2' := Hc2.out
                have Hc1' := Hc1.out
                have hcle := cntMet_le N met
                clear hT hLv
                go_wp2_with fail
                by_cases hnl : nl = []
                · go_roundg 0
                  case measure => omega
                  case rel => exact ⟨L + 1, nl, fun T => met T || nl.any fun t => t.1 == T, HL10.out, .inl hnl, hnlN, HT.out, HLv.out, hB4, hb4⟩
                · have hlt3 : cntMet N met < cntMet N (fun T => met T || nl.any fun t => t.1 == T) := by
                    obtain ⟨t, ht⟩ := List.exists_mem_of_ne_nil _ hnl
                    obtain ⟨q1, q2⟩ := Hnew.out t ht
                    refine cntMet_lt (fun T h => by simp [h]) q2 q1 ?_
                    rw [Bool.or_eq_true, List.any_eq_true]
                    exact .inr ⟨t, ht, by simp⟩
                  have hcle2 := cntMet_le N (fun T => met T || nl.any fun t => t.1 == T)
                  go_roundg (N + 1 - cntMet N (fun T => met T || nl.any fun t => t.1 == T))
                  case measure => omega
                  case rel => exact ⟨L + 1, nl, fun T => met T || nl.any fun t => t.1 == T, HL10.out, .inr ⟨by omega, by omega⟩, hnlN, HT.out, HLv.out, hB4, hb4⟩
end Go.Proofs.YtphpablchlpagaaDoor
namespace Go.Proofs.YtphpablchlpagaaDoor
open Go.RowKit Go.Shelf
theorem SLe.anti {a b : List Int} (h : SLe a b) (k : SLe b a) : a = b := by
  rcases h with h | h | ⟨h1, h2⟩
  · exact h
  · rcases k with k | k | ⟨k1, k2⟩
    · exact k.symm
    · omega
    · omega
  · rcases k with k | k | ⟨k1, k2⟩
    · exact k.symm
    · omega
    · exact absurd (lexLt.trans h2 k2) (lexLt_irrefl _)
theorem FirstBig.uniq {m : List (List Int)} {S : Nat} {u v : List Int} (h : FirstBig m S u) (k : FirstBig m S v) : u = v := (h.2.2 v k.1 k.2.1).anti (k.2.2 u h.1 h.2.1)
set_option maxRecDepth 100000 in
set_option maxHeartbeats 8000000 in
theorem eulerExtends_any (v s : Value) (m : List (List Int)) (sl : List Int) (w : World) (hT : Tab w) (h : Rows w v m) (hs : Ints w s sl) (hsn : ∀ A n c, s = .slice A n c → A = none → c = 0) :
    Calls Tryd.prog 4 #[.agg #[v], s] w fun e w' => e = .returned (.bool true) ∧ Below w.heap.size w w' := by
  obtain ⟨A, cap, rfl, hml, -⟩ := id h
  obtain ⟨As, cs, rfl, hls, -⟩ := id hs
  have hX := bal (Below.refl _ w) (.cells #[.slice A m.length cap] 24)
  have hbx := (Boxed.new w 24 (.slice A m.length cap)).cell
  go_enter Tryd.func4, Tryd.ntmps4
  go_wp2_with fail
  have hr := h.below hX
  have hs1 := hs.below hX
  have hTX := hT.on hX
  generalize w.alloc (.cells #[.slice A m.length cap] 24) = X at *
  cases hv : validM m with
  | false =>
    refine (Extend_form _ _ m sl _ hTX hr hs1 hv).mono ?_
    rintro e w1 ⟨rfl, h1⟩
    have c1 := (h1.cell (p := ⟨w.heap.size, 0, none⟩) (World.block_lt_of_cell? _ _ hbx)).trans hbx
    go_wp2_with fail
    refine (rValid_bool _ m false _ (hr.below h1) hv).mono ?_
    rintro e w2 ⟨rfl, h2⟩
    have B2 := btr h1 h2
    go_wp2_with fail
    refine (rSame_eq _ _ [] _ (ints_nilU _) (ints_nilU _)).mono ?_
    rintro e w3 ⟨rfl, h3⟩
    have B3 := btr B2 h3
    go_wp2_with fail
    refine (awake6_any w3 (hTX.on B3)).mono ?_
    rintro e w4 ⟨rfl, h4⟩
    go_wp2_with fail
    go_ret
    exact ⟨rfl, btr hX (btr B3 h4)⟩
  | true =>
    cases ha : isSetM m sl with
    | false =>
      refine (Extend_arg _ _ m sl _ hTX hr hs1 hv ha).mono ?_
      rintro e w1 ⟨rfl, h1⟩
      have c1 := (h1.cell (p := ⟨w.heap.size, 0, none⟩) (World.block_lt_of_cell? _ _ hbx)).trans hbx
      go_wp2_with fail
      refine (rValid_bool _ m true _ (hr.below h1) hv).mono ?_
      rintro e w2 ⟨rfl, h2⟩
      have B2 := btr h1 h2
      have c2 := (h2.cell (p := ⟨w.heap.size, 0, none⟩) (World.block_lt_of_cell? _ _ c1)).trans c1
      go_wp2_with fail
      refine (rSet_bool _ _ m sl false _ (hr.below B2) (hs1.below B2) ha).mono ?_
      rintro e w3 ⟨rfl, h3⟩
      have B3 := btr B2 h3
      go_wp2_with fail
      refine (rSame_eq _ _ [] _ (ints_nilU _) (ints_nilU _)).mono ?_
      rintro e w4 ⟨rfl, h4⟩
      have B4 := btr B3 h4
      go_wp2_with fail
      refine (awake6_any w4 (hTX.on B4)).mono ?_
      rintro e w5 ⟨rfl, h5⟩
      go_wp2_with fail
      go_ret
      exact ⟨rfl, btr hX (btr B4 h5)⟩
    | true =>
      by_cases h12 : m.length ≤ 12
      · have d1 : decide ((12 : Int) < m.length) = false := by simp; omega
        have d2 : ¬ (12 : Int) < m.length := by omega
        refine (Extend_ok _ _ m sl _ hTX hr hs1 hv ha h12).mono ?_
        rintro e w1 ⟨hE, h1⟩
        have c1 := (h1.cell (p := ⟨w.heap.size, 0, none⟩) (World.block_lt_of_cell? _ _ hbx)).trans hbx
        rcases hE with ⟨u, r, hF, hul, rfl, ho⟩ | ⟨hno, rfl⟩
        · have HF := hid hF
          have HI := hid (Ints.of_own ho (by unfold big; omega))
          obtain ⟨Ar, cr, rfl⟩ := ownsRow_slice ho
          clear hF ho
          go_wp2_with fail
          refine (rValid_bool _ m true _ (hr.below h1) hv).mono ?_
          rintro e w2 ⟨rfl, h2⟩
          have B2 := btr h1 h2
          have c2 := (h2.cell (p := ⟨w.heap.size, 0, none⟩) (World.block_lt_of_cell? _ _ c1)).trans c1
          go_wp2_with fail
          refine (rSet_bool _ _ m sl true _ (hr.below B2) (hs1.below B2) ha).mono ?_
          rintro e w3 ⟨rfl, h3⟩
          have B3 := btr B2 h3
          have c3 := (h3.cell (p := ⟨w.heap.size, 0, none⟩) (World.block_lt_of_cell? _ _ c2)).trans c2
          go_wp2_with fail
          refine (rExtend_any _ _ m sl _ (hr.below B3) (hs1.below B3) hsn hv ha h12).mono ?_
          rintro e w4 ⟨⟨u', A', c', hF', -, rfl, hI'⟩ | ⟨hno, rfl⟩, h4⟩
          · obtain rfl := HF.out.uniq hF'
            have HI' := hid hI'
            have B4 := btr B3 h4
            have hbe := btr (btr h2 h3) h4
            clear hF' hI'
            go_wp2_with fail
            refine (rSame_eq _ _ u _ (HI.out.below hbe) HI'.out).mono ?_
            rintro e w5 ⟨rfl, h5⟩
            have B5 := btr B4 h5
            go_wp2_with fail
            refine (awake6_any w5 (hTX.on B5)).mono ?_
            rintro e w6 ⟨rfl, h6⟩
            go_wp2_with fail
            go_ret
            exact ⟨rfl, btr hX (btr B5 h6)⟩
          · exact absurd HF.out.2.1 (hno u HF.out.1)
        · have Hno := hid hno
          clear hno
          go_wp2_with fail
          refine (rValid_bool _ m true _ (hr.below h1) hv).mono ?_
          rintro e w2 ⟨rfl, h2⟩
          have B2 := btr h1 h2
          have c2 := (h2.cell (p := ⟨w.heap.size, 0, none⟩) (World.block_lt_of_cell? _ _ c1)).trans c1
          go_wp2_with fail
          refine (rSet_bool _ _ m sl true _ (hr.below B2) (hs1.below B2) ha).mono ?_
          rintro e w3 ⟨rfl, h3⟩
          have B3 := btr B2 h3
          have c3 := (h3.cell (p := ⟨w.heap.size, 0, none⟩) (World.block_lt_of_cell? _ _ c2)).trans c2
          go_wp2_with fail
          refine (rExtend_any _ _ m sl _ (hr.below B3) (hs1.below B3) hsn hv ha h12).mono ?_
          rintro e w4 ⟨⟨u', A', c', hF', -, rfl, hI'⟩ | ⟨hno, rfl⟩, h4⟩
          · exact absurd hF'.2.1 (Hno.out u' hF'.1)
          · have B4 := btr B3 h4
            clear hno
            go_wp2_with fail
            refine (rSame_eq _ _ [] _ (ints_nilU _) (ints_nilU _)).mono ?_
            rintro e w5 ⟨rfl, h5⟩
            have B5 := btr B4 h5
            go_wp2_with fail
            refine (awake6_any w5 (hTX.on B5)).mono ?_
            rintro e w6 ⟨rfl, h6⟩
            go_wp2_with fail
            go_ret
            exact ⟨rfl, btr hX (btr B5 h6)⟩
      · have d1 : decide ((12 : Int) < m.length) = true := by simp; omega
        have d2 : (12 : Int) < m.length := by omega
        refine (Extend_size _ _ m sl _ hTX hr hs1 hv ha (by omega)).mono ?_
        rintro e w1 ⟨rfl, h1⟩
        have c1 := (h1.cell (p := ⟨w.heap.size, 0, none⟩) (World.block_lt_of_cell? _ _ hbx)).trans hbx
        go_wp2_with fail
        refine (rValid_bool _ m true _ (hr.below h1) hv).mono ?_
        rintro e w2 ⟨rfl, h2⟩
        have B2 := btr h1 h2
        have c2 := (h2.cell (p := ⟨w.heap.size, 0, none⟩) (World.block_lt_of_cell? _ _ c1)).trans c1
        go_wp2_with fail
        refine (rSet_bool _ _ m sl true _ (hr.below B2) (hs1.below B2) ha).mono ?_
        rintro e w3 ⟨rfl, h3⟩
        have B3 := btr B2 h3
        have c3 := (h3.cell (p := ⟨w.heap.size, 0, none⟩) (World.block_lt_of_cell? _ _ c2)).trans c2
        go_wp2_with fail
        refine (rSame_eq _ _ [] _ (ints_nilU _) (ints_nilU _)).mono ?_
        rintro e w4 ⟨rfl, h4⟩
        have B4 := btr B3 h4
        go_wp2_with fail
        refine (awake6_any w4 (hTX.on B4)).mono ?_
        rintro e w5 ⟨rfl, h5⟩
        go_wp2_with fail
        go_ret
        exact ⟨rfl, btr hX (btr B4 h5)⟩
end Go.Proofs.YtphpablchlpagaaDoor
