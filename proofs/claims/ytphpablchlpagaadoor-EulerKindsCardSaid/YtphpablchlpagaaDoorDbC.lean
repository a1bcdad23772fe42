/-
  Texts that the proof of the law stands on: E11, D5, E12, Tb, E1, E10, Later, E14, E15, G5, H4, Y6, Y7, Y8, Y10, Y11, Y12, Y40, Y13, Y14, Y17, Y41, MApp, U6, Y42, U7.
-/
import Derived.Test.YtphpablchlpagaaDoorDbB
import Derived.Shelf.RegionOpen
import Derived.BigQuiet
import Derived.Deep.QuietTactic
import Derived.Deep.DeepMust
import Derived.Deep.RegionHeld3
import Derived.Deep.AppendLies
import Derived.Deep.RegionLaw
import Derived.Laws.EntriesVeiled
import Derived.Deep.CutRange
import Derived.Maps.AppendAt
set_option linter.unusedVariables false
set_option linter.unusedSimpArgs false
namespace Go.Proofs.YtphpablchlpagaaDoor
open Go.RowKit Go.Shelf
attribute [local go_sem] Oper.semAt_some
/-- What hangs on the blocks below N alone. -/
def Dep (N : Nat) {β : Type} (J : β → World → Prop) : Prop :=
  ∀ s W W', J s W → W'.os = W.os → W'.tape = W.tape → W'.output = W.output → W.heap.size ≤ W'.heap.size → N ≤ W.heap.size → (∀ k, k < N → W'.heap[k]? = W.heap[k]?) → J s W'
theorem stable_dep {N : Nat} {β : Type} {J : β → World → Prop} (h : Dep N J) : Stable N (fun X s W => ((∀ k, X k → N ≤ k) ∧ N ≤ W.heap.size) ∧ J s W) := by
  rintro X X' s W W' ⟨⟨h1, h2⟩, h3⟩ a1 a2 a3 a4 he hX'
  refine ⟨⟨fun k hk => ?_, by omega⟩, h s W W' h3 a1 a2 a3 a4 h2 fun k hk => ?_⟩
  · rcases hX' k hk with h | h
    · exact h1 k h
    · omega
  · have hx : W.heap[k]? = some W.heap[k] := Array.getElem?_eq_getElem (by omega)
    rw [he k _ hx (fun h => by have := h1 k h; omega) (.inl hk), ← hx]
/-- The pairs that were looked at. -/
def seenQ (C pre : List Nat) : List (Nat × Nat) := pre.flatMap fun p => C.map fun q => (p, q)
theorem seenQ_snoc (C pre : List Nat) (p : Nat) : seenQ C (pre ++ [p]) = seenQ C pre ++ C.map fun q => (p, q) := by simp [seenQ, List.flatMap_append]
theorem seenQ_all (C : List Nat) : seenQ C C = prodL C := rfl
/-- The four boxes of the function. -/
structure SoonB (w : World) (S B : Nat) (best : Nat × Nat) (W : World) : Prop where
  set : W.heap[w.heap.size]? = some (.cells #[.int .u64 S] 61 (0, 0))
  map : W.heap[w.heap.size + 1]? = some (.cells #[.map (some B)] 69 (0, 0))
  res : W.heap[w.heap.size + 1 + 1]? = some (.cells #[.int .i64 0, .int .i64 0] 75 (0, 0))
  best : W.heap[w.heap.size + 1 + 1 + 1]? = some (.cells #[.int .i64 best.1, .int .i64 best.2] 75 (0, 0))
  below : Below w.heap.size w W
theorem SoonB.keep {w W W' : World} {S B : Nat} {best : Nat × Nat} (h : SoonB w S B best W) (a1 : W'.os = W.os) (a2 : W'.tape = W.tape) (a3 : W'.output = W.output) (a4 : W.heap.size ≤ W'.heap.size) (hk : ∀ k, k < w.heap.size + 1 + 1 + 1 + 1 → W'.heap[k]? = W.heap[k]?) : SoonB w S B best W' := by
  obtain ⟨h1, h2, h3, h4, h5⟩ := h
  refine ⟨(hk _ (by omega)).trans h1, (hk _ (by omega)).trans h2, (hk _ (by omega)).trans h3, (hk _ (by omega)).trans h4, ⟨a1.trans h5.os, a2.trans h5.tape, a3.trans h5.output, Nat.le_trans h5.size a4, fun k hk2 => (hk k (by omega)).trans (h5.block k hk2)⟩⟩
theorem SoonB.set_best {w W : World} {S B : Nat} {best : Nat × Nat} (h : SoonB w S B best W) (p q : Nat) : SoonB w S B (p, q) ((W.setCell ⟨w.heap.size + 1 + 1 + 1, 0, none⟩ (.int .i64 p)).setCell ⟨w.heap.size + 1 + 1 + 1, 1, none⟩ (.int .i64 q)) := by
  obtain ⟨h1, h2, h3, h4, h5⟩ := h
  have hk : ∀ k, k ≠ w.heap.size + 1 + 1 + 1 → ((W.setCell ⟨w.heap.size + 1 + 1 + 1, 0, none⟩ (.int .i64 p)).setCell ⟨w.heap.size + 1 + 1 + 1, 1, none⟩ (.int .i64 q)).heap[k]? = W.heap[k]? := fun k hk => by
    rw [Below.heap_setCell _ _ _ _ hk, Below.heap_setCell _ _ _ _ hk]
  exact ⟨(hk _ (by omega)).trans h1, (hk _ (by omega)).trans h2, (hk _ (by omega)).trans h3, pair_stored h4 _ _, (h5.setCell (p := ⟨w.heap.size + 1 + 1 + 1, 0, none⟩) (by show w.heap.size ≤ w.heap.size + 1 + 1 + 1; omega) _).setCell (p := ⟨w.heap.size + 1 + 1 + 1, 1, none⟩) (by show w.heap.size ≤ w.heap.size + 1 + 1 + 1; omega) _⟩
theorem one_block {w : World} {b : Nat} {t : TypeId} {v : Value} (h : w.heap[b]? = some (.cells #[v] t (0, 0))) : w.cell? ⟨b, 0, none⟩ = some v ∧ w.frozen? ⟨b, 0, none⟩ = false := by
  constructor <;> simp [World.cell?, World.frozen?, h]
theorem soon_start (w : World) (S B : Nat) : SoonB w S B (0, 0) ((((w.alloc (.cells #[.int .u64 S] 61)).alloc (.cells #[.map (some B)] 69)).alloc (.cells #[.int .i64 0, .int .i64 0] 75)).alloc (.cells #[.int .i64 0, .int .i64 0] 75)) := by
  have h1 := World.alloc_heap_new w (.cells #[.int .u64 S] 61)
  have h2 := World.alloc_heap_new (w.alloc (.cells #[.int .u64 S] 61)) (.cells #[.map (some B)] 69)
  have h3 := World.alloc_heap_new ((w.alloc (.cells #[.int .u64 S] 61)).alloc (.cells #[.map (some B)] 69)) (.cells #[.int .i64 0, .int .i64 0] 75)
  have h4 := World.alloc_heap_new (((w.alloc (.cells #[.int .u64 S] 61)).alloc (.cells #[.map (some B)] 69)).alloc (.cells #[.int .i64 0, .int .i64 0] 75)) (.cells #[.int .i64 0, .int .i64 0] 75)
  simp only [World.size_alloc] at h2 h3 h4
  refine ⟨?_, ?_, ?_, h4, bal (bal (bal (bal (Below.refl _ _) _) _) _) _⟩
  · rw [Below.heap_alloc _ _ _ (by simp only [World.size_alloc]; omega), Below.heap_alloc _ _ _ (by simp only [World.size_alloc]; omega), Below.heap_alloc _ _ _ (by simp only [World.size_alloc]; omega), h1]
  · rw [Below.heap_alloc _ _ _ (by simp only [World.size_alloc]; omega), Below.heap_alloc _ _ _ (by simp only [World.size_alloc]; omega), h2]
  · rw [Below.heap_alloc _ _ _ (by simp only [World.size_alloc]; omega), h3]
theorem dep_soon (w : World) (S B : Nat) {β : Type} (f : β → Nat × Nat) : Dep (w.heap.size + 1 + 1 + 1 + 1) (fun s W => SoonB w S B (f s) W) :=
  fun _ _ _ hs a1 a2 a3 a4 _ hk => hs.keep a1 a2 a3 a4 hk
/-- What the inner loop's rounds keep of the outer one's. -/
structure SoonI (w : World) (S B p bp N : Nat) (Xo : Blocks) (Wb : World) (best : Nat × Nat) (W : World) : Prop where
  boxes : SoonB w S B best W
  pbox : W.heap[bp]? = some (.cells #[.int .i64 p] 3 (0, 0))
  kf : KeepsFrom (w.heap.size + 1 + 1 + 1 + 1) Wb W
  kp : Keep w.heap.size Xo Wb W
theorem dep_soonI (w : World) (S B p bp N : Nat) (Xo : Blocks) (Wb : World) (hN : Wb.heap.size ≤ N) (hb : bp < N) (h4 : w.heap.size + 1 + 1 + 1 + 1 ≤ N) {β : Type} (f : β → Nat × Nat) : Dep N (fun s W => SoonI w S B p bp N Xo Wb (f s) W) := by
  rintro s W W' ⟨h1, h2, h3, h5⟩ a1 a2 a3 a4 a5 hk
  refine ⟨h1.keep a1 a2 a3 a4 fun k hk2 => hk k (by omega), (hk _ hb).trans h2, ?_, ⟨a1.trans h5.os, a2.trans h5.tape, a3.trans h5.output, Nat.le_trans h5.size a4, fun k hk2 hc => (hk k (by omega)).trans (h5.block k hk2 hc)⟩⟩
  exact ⟨Nat.le_trans h3.size a4, fun k o hk1 hk2 ho => (hk k (by have := (Array.getElem?_eq_some_iff.1 hk2).1; omega)).trans (h3.same k o hk1 hk2 ho)⟩
theorem kf_drewN (B : Nat) (W : World) (n : Nat) : KeepsFrom B W (W.drewN n) := kf_below (below_dr W n)
theorem SoonI.drew {w : World} {S B p bp N : Nat} {Xo : Blocks} {Wb W : World} {best : Nat × Nat} (h : SoonI w S B p bp N Xo Wb best W) (n : Nat) : SoonI w S B p bp N Xo Wb best (W.drewN n) :=
  ⟨h.boxes.keep rfl rfl rfl (Nat.le_refl _) fun _ _ => rfl, h.pbox, h.kf.trans (kf_drewN _ _ _), h.kp.trans (Keep.of_below (below_dr W n))⟩
theorem SoonI.set_best {w : World} {S B p bp N : Nat} {Xo : Blocks} {Wb W : World} {best : Nat × Nat} (h : SoonI w S B p bp N Xo Wb best W) (hX : ¬ Xo (w.heap.size + 1 + 1 + 1)) (hb : bp ≠ w.heap.size + 1 + 1 + 1) (a d : Nat) :
    SoonI w S B p bp N Xo Wb (a, d) ((W.setCell ⟨w.heap.size + 1 + 1 + 1, 0, none⟩ (.int .i64 a)).setCell ⟨w.heap.size + 1 + 1 + 1, 1, none⟩ (.int .i64 d)) := by
  refine ⟨h.boxes.set_best a d, ?_, (h.kf.trans (kf_set _ _ _ _)).trans (kf_set _ _ _ _), (h.kp.trans (keep_set_at _ _ _ _ (by omega) hX)).trans (keep_set_at _ _ _ _ (by omega) hX)⟩
  rw [Below.heap_setCell _ _ _ _ hb, Below.heap_setCell _ _ _ _ hb, h.pbox]
set_option maxRecDepth 100000 in
set_option maxHeartbeats 4000000 in
theorem soonest_any (m : List (List Int)) (S B : Nat) (w : World) (hT : Tab w) (hv : validM m = true) (hS : S < 2 ^ m.length) (hL : LenMap m w B) (hall : ∀ p q, p < q → q < m.length → ∃ k, mergeP m p q k) :
    Calls Tryd.prog 50 #[.int .u64 S, .map (some B)] w fun e w' => e = .returned (.agg #[.int .i64 ((soonOf m (prodL (elems S))).1 : Nat), .int .i64 ((soonOf m (prodL (elems S))).2 : Nat)]) ∧ Below w.heap.size w w' := by
  obtain ⟨p1, p2, p3, p4, -⟩ := valid_parts hv
  have hS64 : S < 2 ^ 64 := Nat.lt_of_lt_of_le hS (Nat.pow_le_pow_right (by decide) (by omega))
  have hfo := follows
  refine (callsIn_wide (n := 0)).1 ?_
  refine callsIn_of_wp_marks Tryd.func50 rfl trivial ?_ rfl
  simp only [Tryd.ntmps50, List.size_toArray, List.length_cons, List.length_nil, Nat.reduceAdd, Nat.reduceSub, Array.replicate_succ, Array.replicate_zero, List.push_toArray, List.append_toArray, List.nil_append, List.cons_append]
  gi_wp2
  have hst := soon_start w S B
  have hsz : ((((w.alloc (.cells #[.int .u64 S] 61)).alloc (.cells #[.map (some B)] 69)).alloc (.cells #[.int .i64 0, .int .i64 0] 75)).alloc (.cells #[.int .i64 0, .int .i64 0] 75)).heap.size = w.heap.size + 1 + 1 + 1 + 1 := by simp
  generalize ((((w.alloc (.cells #[.int .u64 S] 61)).alloc (.cells #[.map (some B)] 69)).alloc (.cells #[.int .i64 0, .int .i64 0] 75)).alloc (.cells #[.int .i64 0, .int .i64 0] 75)) = w1 at *
  have hT1 := hT.on hst.below
  have hstI := stable_dep (dep_soon w S B (fun pre : List Nat => soonOf m (seenQ (elems S) pre)))
  rw [← hsz] at hstI
  refine range_law2 (gf := 69) (fb := #[.int .u64 S]) (lb := #[]) rfl (enters_of Tryd.func69 (by kernel_rfl) rfl)
    (All_seq S hS64 w.heap.size hT.lt w1 (by omega) hT1) (fun _ _ _ _ _ _ => trivial) (by omega) (Below.refl _ _) (fun _ => rfl)
    (fun X pre W => ((∀ k, X k → w1.heap.size ≤ k) ∧ w1.heap.size ≤ W.heap.size) ∧ SoonB w S B (soonOf m (seenQ (elems S) pre)) W)
    (fun _ _ _ _ => False) hstI (fun _ _ _ _ _ _ hs _ _ _ _ _ _ => hs) ⟨⟨fun _ h => h.elim, Nat.le_refl _⟩, hst⟩
    (fun X p a' W => ∃ bp, a' = { tmps := #[.int .u64 S, .map (some B), .pointer (some ⟨w.heap.size, 0, none⟩), .pointer (some ⟨w.heap.size + 1, 0, none⟩), .pointer (some ⟨w.heap.size + 1 + 1, 0, none⟩), .pointer (some ⟨w.heap.size + 1 + 1 + 1, 0, none⟩), .pointer (some ⟨bp, 0, none⟩), undef, .int .u64 S, .func (.func 69) #[.int .u64 S] #[], .int .i64 p, undef, undef, undef, undef, undef, undef, undef, undef, undef, undef, undef, undef, undef, undef, undef, undef, undef, undef, undef, undef, undef, undef, undef, undef, undef, undef], defers := [] } ∧
      W.heap[bp]? = some (.cells #[.int .i64 p] 3 (0, 0)) ∧ w1.heap.size ≤ bp ∧ ¬ X bp)
    ?ax ?assign ?body ?done ?stop
  case ax =>
    rintro X p a' W l o o' ⟨bp, h1, h2, h3, h4⟩ _ hl hc
    refine ⟨bp, h1, (World.putObj_heap_other (fun e => ?_)).trans h2, h3, h4⟩
    subst e
    rw [hl] at h2
    cases h2
    cases hc
  case assign =>
    intro l X pre p W K hXs hi hK
    obtain ⟨⟨hX1, hX2⟩, hB⟩ := hi
    gi_wp2
    refine hK _ _ (kf_below (bal (Below.refl _ _) _)) (Keep.of_below (bal (Below.refl _ _) _)) ⟨⟨hX1, by simp; omega⟩, hB.keep rfl rfl rfl (by simp) fun k hk => Below.heap_alloc _ _ _ (by omega)⟩ ⟨_, rfl, ?_, hX2, fun h => by have := hXs _ h; omega⟩
    exact World.alloc_heap_new _ _
  case body =>
    rintro l X pre p a' Wb hl hrec hXl hXs ⟨⟨hX1, hX2⟩, hB⟩ _ ⟨bp, rfl, hpb, hbp1, hbp2⟩ hsp
    obtain ⟨c1, -⟩ := one_block hB.set
    gi_wp2
    have hbl := (Array.getElem?_eq_some_iff.1 hpb).1
    have hTb := hT.on hB.below
    have hstJ := stable_dep (dep_soonI w S B p bp Wb.heap.size X Wb (Nat.le_refl _) hbl (by omega) (fun preI : List Nat => soonOf m (seenQ (elems S) pre ++ preI.map fun q => (p, q))))
    refine range_law_in (gf := 69) (fb := #[.int .u64 S]) (lb := #[]) hrec rfl (enters_of Tryd.func69 (by kernel_rfl) rfl)
      (All_seq S hS64 w.heap.size hT.lt Wb (by omega) hTb) (fun _ _ _ _ _ _ => trivial) (by omega) (Below.refl _ _) (fun _ => rfl)
      (fun Y preI W => ((∀ k, Y k → Wb.heap.size ≤ k) ∧ Wb.heap.size ≤ W.heap.size) ∧ SoonI w S B p bp Wb.heap.size X Wb (soonOf m (seenQ (elems S) pre ++ preI.map fun q => (p, q))) W)
      (fun _ _ _ _ => False) hstJ (fun _ _ _ _ _ _ hs _ _ _ _ _ _ => hs) ⟨⟨fun _ h => h.elim, Nat.le_refl _⟩, by rw [List.map_nil, List.append_nil]; exact ⟨hB, hpb, KeepsFrom.refl _ _, Keep.refl _ _ _⟩⟩
      (fun q a' _ => a' = { tmps := #[.int .u64 S, .map (some B), .pointer (some ⟨w.heap.size, 0, none⟩), .pointer (some ⟨w.heap.size + 1, 0, none⟩), .pointer (some ⟨w.heap.size + 1 + 1, 0, none⟩), .pointer (some ⟨w.heap.size + 1 + 1 + 1, 0, none⟩), .pointer (some ⟨bp, 0, none⟩), .int .i64 q, .int .u64 S, .func (.func 69) #[.int .u64 S] #[], .int .i64 p, .int .u64 S, .func (.func 69) #[.int .u64 S] #[], .int .i64 q, undef, undef, undef, undef, undef, undef, undef, undef, undef, undef, undef, undef, undef, undef, undef, undef, undef, undef, undef, undef, undef, undef, undef], defers := [] })
      (fun _ _ _ _ _ _ _ hs _ _ _ _ _ _ => hs) ?assign2 ?body2 ?done2 ?stop2
    case assign2 =>
      intro l' Y preI q W K hi hK
      gi_wp2
      exact hK _ _ (KeepsFrom.refl _ _) (Keep.refl _ _ _) hi rfl
    case body2 =>
      rintro l' Y preI q a' W hl' hrec' hYl hYs ⟨⟨hY1, hY2⟩, hJ⟩ _ rfl hspq
      obtain ⟨hSB, hpbW, hkf, hkp⟩ := hJ
      have hq : q < m.length := elems_lt hS (hspq.subset (by simp))
      have hp : p < m.length := elems_lt hS (hsp.subset (by simp))
      have hQ : ∀ e ∈ seenQ (elems S) pre ++ preI.map (fun q => (p, q)), e.2 < m.length := by
        intro e he
        rcases List.mem_append.1 he with h1 | h1
        · obtain ⟨a, _, h2⟩ := List.mem_flatMap.1 h1
          obtain ⟨d, hd, rfl⟩ := List.mem_map.1 h2
          exact elems_lt hS hd
        · obtain ⟨d, hd, rfl⟩ := List.mem_map.1 h1
          exact elems_lt hS (hspq.subset (by simp [hd]))
      have hok := soonOf_ok m (seenQ (elems S) pre ++ preI.map fun q => (p, q))
      have hsn := soonOf_snoc m (seenQ (elems S) pre ++ preI.map fun q => (p, q)) (p, q)
      rw [show seenQ (elems S) pre ++ preI.map (fun q => (p, q)) ++ [(p, q)] = seenQ (elems S) pre ++ (preI ++ [q]).map (fun q => (p, q)) from by simp] at hsn
      have Hsn := hid hsn
      obtain ⟨bst, hbst⟩ : ∃ b, soonOf m (seenQ (elems S) pre ++ preI.map fun q => (p, q)) = b := ⟨_, rfl⟩
      rw [hbst] at hSB hok
      have Hbst := hid hbst
      have HI := hid (fun nq => SoonI.drew (N := Wb.heap.size) ⟨hSB, hpbW, hkf, hkp⟩ nq)
      have HLD := hid (fun nq => show LenMap m (W.drewN nq) B from (hL.below (hSB.below)).below (below_dr W nq))
      obtain ⟨m1, -⟩ := one_block hSB.map
      obtain ⟨pb1, -⟩ := one_block hpbW
      have hXn : ¬ X (w.heap.size + 1 + 1 + 1) := fun h => by have := hX1 _ h; omega
      have hYn : ¬ Y (w.heap.size + 1 + 1 + 1) := fun h => by have := hY1 _ h; omega
      have hWl := hSB.below.size
      obtain ⟨b1, b2⟩ := bst
      obtain ⟨t1, t2, t3, t4⟩ := pair_block hSB.best
      simp only at t1 t2
      have Hend := hid (fun nq => show Keep w.heap.size Y W (((W.drewN nq).setCell ⟨w.heap.size + 1 + 1 + 1, 0, none⟩ (.int .i64 p)).setCell ⟨w.heap.size + 1 + 1 + 1, 1, none⟩ (.int .i64 q)) from ((Keep.of_below (below_dr W nq)).trans (keep_set_at _ _ _ _ (by omega) hYn)).trans (keep_set_at _ _ _ _ (by omega) hYn))
      have Hkf := hid (fun nq => show KeepsFrom Wb.heap.size W (((W.drewN nq).setCell ⟨w.heap.size + 1 + 1 + 1, 0, none⟩ (.int .i64 p)).setCell ⟨w.heap.size + 1 + 1 + 1, 1, none⟩ (.int .i64 q)) from ((kf_drewN _ _ _).trans (kf_set _ _ _ _)).trans (kf_set _ _ _ _))
      have Hset := hid (fun nq => (HI.out nq).set_best hXn (by omega) p q)
      have HsetEnd := hid (fun (hs : soonStep m (b1, b2) (p, q) = (p, q)) => show soonOf m (seenQ (elems S) pre ++ (preI ++ [q]).map fun q => (p, q)) = (p, q) from by rw [Hsn.out, Hbst.out, hs])
      have HsameEnd := hid (fun (hs : soonStep m (b1, b2) (p, q) = (b1, b2)) => show soonOf m (seenQ (elems S) pre ++ (preI ++ [q]).map fun q => (p, q)) = (b1, b2) from by rw [Hsn.out, Hbst.out, hs])
      clear hsn hbst hSB hpbW hkf hkp hspq hYs hrec'
      dsimp only
      by_cases hlt : p < q
      · have hlt2 : decide (p < q) = true := by simp; omega
        have hlt3 : (p : Int) < q := by omega
        have hYsz : ∀ nq, Wb.heap.size ≤ (((W.drewN nq).setCell ⟨w.heap.size + 1 + 1 + 1, 0, none⟩ (.int .i64 p)).setCell ⟨w.heap.size + 1 + 1 + 1, 1, none⟩ (.int .i64 q)).heap.size := fun nq => by simp [World.setCell]; omega
        have HYsz := hid hYsz
        have hng := noGuard1
        have heq := fun a b c d w => equalIn_pair Tryd.underlying75 a b c d w
        clear hYsz
        rcases hok with ⟨hb0, -⟩ | ⟨hbm, hb12, -⟩
        · simp only [Prod.mk.injEq] at hb0
          obtain ⟨rfl, rfl⟩ := hb0
          have Hs := hid (HsetEnd.out (by unfold soonStep; rw [if_pos ⟨hlt, .inl rfl⟩]))
          clear HsameEnd HsetEnd hQ
          gi_wp2
          refine wp_region_round l' (by kernel_rfl) (by kernel_rfl) (by kernel_rfl) ?_
          repeat (go_big_quiet_step (fail))
          refine wpQuiet_nil ?_
          intro nq
          gi_wp2
          exact ⟨Hkf.out nq, Hend.out nq, ⟨hY1, HYsz.out nq⟩, by rw [Hs.out]; exact Hset.out nq⟩
        · have hb2 := hQ _ hbm
          simp only at hb2 hb12
          obtain ⟨k1, hk1⟩ := hall p q hlt hq
          obtain ⟨j1, -, hd1⟩ := mdist_some hk1
          obtain ⟨k2, hk2⟩ := hall b1 b2 hb12 hb2
          obtain ⟨j2, -, hd2⟩ := mdist_some hk2
          have hf1 := fun nq => (HLD.out nq).find hv (Nat.le_of_lt hlt) hq hd1
          have hf2 := fun nq => (HLD.out nq).find hv (Nat.le_of_lt hb12) hb2 hd2
          have hz1 : ((b2 : Int) == 0) = false := by rw [beq_eq_false_iff_ne]; omega
          have hz2 : (((b1 : Int) == 0) && ((b2 : Int) == 0)) = false := by rw [hz1, Bool.and_false]
          have hl1 := mlen_of hv hp hq hd1
          have hl2 := mlen_of hv (by omega) hb2 hd2
          by_cases hj : j1 < j2
          · have hj2 : decide (j1 < j2) = true := by simp; omega
            have hj3 : (j1 : Int) < j2 := by omega
            have Hs := hid (HsetEnd.out (by unfold soonStep; rw [if_pos ⟨hlt, .inr (by simp only; rw [hl1, hl2]; omega)⟩]))
            clear HsameEnd HsetEnd hQ hbm hl1 hl2 hk1 hk2 hd1 hd2
            gi_wp2
            refine wp_region_round l' (by kernel_rfl) (by kernel_rfl) (by kernel_rfl) ?_
            repeat (go_big_quiet_step (fail))
            refine wpQuiet_nil ?_
            intro nq
            gi_wp2
            exact ⟨Hkf.out nq, Hend.out nq, ⟨hY1, HYsz.out nq⟩, by rw [Hs.out]; exact Hset.out nq⟩
          · have hj2 : decide (j1 < j2) = false := by simp; omega
            have hj3 : ¬ (j1 : Int) < j2 := by omega
            have Hs := hid (HsameEnd.out (by unfold soonStep; rw [if_neg (fun h => by
              rcases h.2 with h1 | h1
              · simp only [Prod.mk.injEq] at h1; omega
              · simp only at h1; rw [hl1, hl2] at h1; omega)]))
            clear HsameEnd HsetEnd hQ hbm hl1 hl2 hk1 hk2 hd1 hd2
            gi_wp2
            refine wp_region_round l' (by kernel_rfl) (by kernel_rfl) (by kernel_rfl) ?_
            repeat (go_big_quiet_step (fail))
            refine wpQuiet_nil ?_
            intro nq
            gi_wp2
            exact ⟨kf_drewN _ _ _, Keep.of_below (below_dr W nq), ⟨hY1, hY2⟩, by rw [Hs.out]; exact HI.out nq⟩
      · have hnl : decide ((p : Int) < q) = false := by simp; omega
        have hnl2 : decide (p < q) = false := by simp; omega
        have hnl3 : ¬ (p : Int) < q := by omega
        have Hs := hid (HsameEnd.out (by unfold soonStep; rw [if_neg (fun h => hlt h.1)]))
        clear HsameEnd HsetEnd hok hQ
        gi_wp2
        refine wp_region_round l' (by kernel_rfl) (by kernel_rfl) (by kernel_rfl) ?_
        repeat (go_big_quiet_step (fail))
        refine wpQuiet_nil ?_
        intro nq
        gi_wp2
        exact ⟨kf_drewN _ _ _, Keep.of_below (below_dr W nq), ⟨hY1, hY2⟩, by rw [Hs.out]; exact HI.out nq⟩
    case done2 =>
      rintro Y xs W rfl ⟨⟨hY1, hY2⟩, hSB, hpbW, hkf, hkp⟩
      gi_wp2
      refine ⟨?_, ?_, ⟨hX1, by omega⟩, ?_⟩
      · rw [hsz]; exact hkf
      · exact hkp
      · rw [seenQ_snoc]; exact hSB
    case stop2 =>
      rintro Y c preI W _ h
      exact h.elim
  case done =>
    rintro D X xs W hD rfl ⟨⟨hX1, hX2⟩, hB⟩ hK
    rw [seenQ_all] at hB
    obtain ⟨r, hr⟩ : ∃ r, soonOf m (prodL (elems S)) = r := ⟨_, rfl⟩
    rw [hr] at hB
    have Hr := hid hr
    clear hr
    obtain ⟨r1, r2⟩ := r
    obtain ⟨c1, c2, -, -⟩ := pair_block hB.best
    obtain ⟨-, -, c3, c4⟩ := pair_block hB.res
    obtain ⟨d1, d2, -, -⟩ := pair_block hB.res
    gi_wp2
    have hst2 := pair_stored hB.res (.int .i64 (r1 : Nat)) (.int .i64 (r2 : Nat))
    have hBs := (hB.below.setCell (p := ⟨w.heap.size + 1 + 1, 0, none⟩) (by show w.heap.size ≤ w.heap.size + 1 + 1; omega) (.int .i64 (r1 : Nat))).setCell (p := ⟨w.heap.size + 1 + 1, 1, none⟩) (by show w.heap.size ≤ w.heap.size + 1 + 1; omega) (.int .i64 (r2 : Nat))
    have hDn : D ≠ w.heap.size + 1 + 1 := by omega
    have hK2 : ((W.setCell ⟨w.heap.size + 1 + 1, 0, none⟩ (.int .i64 (r1 : Nat))).setCell ⟨w.heap.size + 1 + 1, 1, none⟩ (.int .i64 (r2 : Nat))).heap[D]? = some (.deferred (some [])) := by
      rw [Below.heap_setCell _ _ _ _ hDn, Below.heap_setCell _ _ _ _ hDn, hK]
    generalize (W.setCell ⟨w.heap.size + 1 + 1, 0, none⟩ (.int .i64 (r1 : Nat))).setCell ⟨w.heap.size + 1 + 1, 1, none⟩ (.int .i64 (r2 : Nat)) = Y at *
    have hYb := belowK_b (w := w) (Nat.le_refl _) Y D (.deferred (some [])) (.deferred none) (by omega) hK2 rfl rfl
    have hst3 : (Y.putObj D (.deferred none)).heap[w.heap.size + 1 + 1]? = some (.cells #[.int .i64 (r1 : Nat), .int .i64 (r2 : Nat)] 75 (0, 0)) := (World.putObj_heap_other (by omega)).trans hst2
    obtain ⟨e1, e2, -, -⟩ := pair_block hst3
    refine ⟨by simp, .inl ⟨_, _, rfl, run_takeDeferred hK2, ?_⟩⟩
    refine ⟨.agg #[.int .i64 (r1 : Nat), .int .i64 (r2 : Nat)], by simp [results, Tryd.results50, go_sem, e1, e2], by rw [Hr.out], hBs.trans hYb⟩
  case stop =>
    rintro D X c pre W _ _ h _
    exact h.elim
end Go.Proofs.YtphpablchlpagaaDoor
namespace Go.Proofs.YtphpablchlpagaaDoor
open Go.RowKit Go.Shelf
/-- The word that merges the pair that is merged soonest. -/
def stepW (m : List (List Int)) (S : Nat) : List Int := mW m (mlen m (soonOf m (prodL (elems S))).1 (soonOf m (prodL (elems S))).2).toNat (soonOf m (prodL (elems S))).1 (soonOf m (prodL (elems S))).2
/-- Word by word, until one state is left. -/
def greedyW (m : List (List Int)) : Nat → Nat → List Int
  | 0, _ => []
  | f + 1, S => if (elems S).length ≤ 1 then [] else stepW m S ++ greedyW m f (imgWord m S (stepW m S))
/-- All pairs of states are merged by some word. -/
def allMerge (m : List (List Int)) : Prop := ∀ p q, p < q → q < m.length → ∃ k, mergeP m p q k
theorem elems_nodup (S : Nat) : (elems S).Nodup := List.Pairwise.imp (fun {a b} h => Nat.ne_of_lt h) (elems_sorted S)
theorem greedy_step {m : List (List Int)} (hv : validM m = true) (hall : allMerge m) {S : Nat} (hS : S < 2 ^ m.length) (h2 : 2 ≤ (elems S).length) :
    ∃ t r, soonOf m (prodL (elems S)) = r ∧ r.1 ≤ r.2 ∧ r.2 < m.length ∧ mdist m r.1 r.2 t ∧ stepW m S = mW m t r.1 r.2 ∧ (stepW m S).length = t ∧ (stepW m S).all (inB 0 ((letters m : Int) - 1)) = true ∧
      2 * t ≤ (m.length - (elems S).length + 1) * (m.length - (elems S).length + 2) ∧ imgWord m S (stepW m S) < 2 ^ m.length ∧ (elems (imgWord m S (stepW m S))).length < (elems S).length ∧ 1 ≤ (elems (imgWord m S (stepW m S))).length ∧ (elems S).length ≤ m.length := by
  have hm : m.length ≤ 64 := by have := (valid_parts hv).2.1; omega
  have hlt : ∀ c ∈ elems S, c < m.length := fun c hc => elems_lt hS hc
  obtain ⟨t, a1, a2, a3, a4, a5⟩ := greedy_pair hv (elems_nodup S) hlt h2 hall
  have b1 := hlt _ a1
  have b2 := hlt _ a2
  have e1 : stepW m S = mW m t (soonOf m (prodL (elems S))).1 (soonOf m (prodL (elems S))).2 := by
    unfold stepW
    rw [mlen_of hv b1 b2 a4]
    rfl
  obtain ⟨c1, c2, c3⟩ := mW_ok hv t _ _ b1 b2 a4
  rw [← e1] at c1 c2 c3
  have hI := imgWord_lt hv (stepW m S) S hS c1
  have hmem : ∀ s, s ∈ elems S → runM m s (stepW m S) ∈ elems (imgWord m S (stepW m S)) := fun s hs => by
    have hb := (mem_elems _ _).1 hs
    have h1 := (imgWord_mem hv (stepW m S) S (runM m s (stepW m S)) hS c1).2 ⟨s, hlt s hs, hb.2, rfl⟩
    have hr := runM_lt hv (stepW m S) s (hlt s hs) c1
    exact (mem_elems _ _).2 ⟨by omega, h1⟩
  refine ⟨t, _, rfl, Nat.le_of_lt a3, b2, a4, e1, c2, c1, a5, hI, ?_, List.length_pos_of_mem (hmem _ a1), ?_⟩
  · refine image_less (u := stepW m S) (m := m) (elems_nodup _) (fun x hx => ?_) a1 a2 (Nat.ne_of_lt a3) c3
    obtain ⟨s, h1, h2, h3⟩ := (imgWord_mem hv (stepW m S) S x hS c1).1 ((mem_elems _ _).1 hx).2
    exact ⟨s, (mem_elems _ _).2 ⟨by omega, h2⟩, h3⟩
  · have := nodup_sub (A := elems S) (B := List.range m.length) (elems_nodup S) (fun x hx => List.mem_range.2 (hlt x hx))
    simpa using this
theorem greedy_end {m : List (List Int)} {S : Nat} (h : (elems S).length ≤ 1) : ∀ f, greedyW m f S = []
  | 0 => rfl
  | f + 1 => by rw [greedyW, if_pos h]
theorem greedy_more {m : List (List Int)} {S f : Nat} (h : ¬ (elems S).length ≤ 1) : greedyW m (f + 1) S = stepW m S ++ greedyW m f (imgWord m S (stepW m S)) := by rw [greedyW, if_neg h]
/-- The word is one, leads to one state, and is short. -/
theorem greedy_ok {m : List (List Int)} (hv : validM m = true) (hall : allMerge m) : ∀ f S len, S < 2 ^ m.length → 1 ≤ (elems S).length → (elems S).length ≤ f + 1 →
    6 * len ≤ (m.length - (elems S).length) * (m.length - (elems S).length + 1) * (m.length - (elems S).length + 2) →
    (greedyW m f S).all (inB 0 ((letters m : Int) - 1)) = true ∧ (elems (imgWord m S (greedyW m f S))).length = 1 ∧ 6 * (len + (greedyW m f S).length) ≤ (m.length - 1) * (m.length - 1 + 1) * (m.length - 1 + 2)
  | 0, S, len, hS, h1, hf, hl => by
    have e : (elems S).length = 1 := by omega
    rw [e] at hl
    exact ⟨rfl, by simpa [greedyW, imgWord] using e, by simpa [greedyW] using hl⟩
  | f + 1, S, len, hS, h1, hf, hl => by
    by_cases h : (elems S).length ≤ 1
    · have e : (elems S).length = 1 := by omega
      rw [e] at hl
      rw [greedy_end h]
      exact ⟨rfl, by simpa [imgWord] using e, by simpa using hl⟩
    · obtain ⟨t, r, b1, b2, b3, b4, b5, b6, b7, b8, b9, b10, b11, b12⟩ := greedy_step hv hall hS (by omega)
      have hs := steps_sum (k' := (elems (imgWord m S (stepW m S))).length) hl b8 b10 b12
      obtain ⟨c1, c2, c3⟩ := greedy_ok hv hall f (imgWord m S (stepW m S)) (len + t) b9 b11 (by omega) hs
      rw [greedy_more h]
      refine ⟨by rw [List.all_append, b7, c1]; rfl, by rw [imgWord_append]; exact c2, ?_⟩
      rw [List.length_append, b6]
      omega
/-- The whole word, from all states. -/
def resetW (m : List (List Int)) : List Int := greedyW m m.length (2 ^ m.length - 1)
theorem elems_below (n : Nat) (hn : n ≤ 64) : elems (2 ^ n - 1) = List.range n := by
  rw [elems_range (n := n) (by have := Nat.two_pow_pos n; omega) hn]
  refine List.filter_eq_self.2 fun a ha => ?_
  rw [testBit_below]
  simpa using ha
theorem resetW_ok {m : List (List Int)} (hv : validM m = true) (hall : allMerge m) :
    (resetW m).all (inB 0 ((letters m : Int) - 1)) = true ∧ (elems (imgWord m (2 ^ m.length - 1) (resetW m))).length = 1 ∧ (resetW m).length ≤ (m.length * m.length * m.length - m.length) / 6 := by
  obtain ⟨p1, p2, -⟩ := valid_parts hv
  have hel := elems_below m.length (by omega)
  have hpow := Nat.two_pow_pos m.length
  obtain ⟨c1, c2, c3⟩ := greedy_ok hv hall m.length (2 ^ m.length - 1) 0 (by omega) (by rw [hel]; simpa using p1) (by rw [hel]; simp) (Nat.zero_le _)
  exact ⟨c1, c2, steps_most p1 (by rw [Nat.zero_add] at c3; exact c3)⟩
end Go.Proofs.YtphpablchlpagaaDoor
namespace Go.Proofs.YtphpablchlpagaaDoor
open Go.RowKit Go.Shelf
theorem LenMap.len {m : List (List Int)} {w : World} {B : Nat} (hL : LenMap m w B) : ∃ c : Nat, (∀ ty, (Builtin.len_ #[69] ty #[.map (some B)]).run Tryd.prog w = .ok (.int .i64 c) w) ∧ (m.length * (m.length + 1) ≤ 2 * c ↔ allMerge m) ∧ c ≤ 3600 := by
  obtain ⟨n, V, T, c, h1, h2, h3, h4⟩ := hL
  exact ⟨c, fun ty => h1.len Tryd.underlying69 ty, h3, h4⟩
set_option maxRecDepth 100000 in
set_option maxHeartbeats 1000000 in
theorem Reset_none (v : Value) (m : List (List Int)) (w : World) (h : Rows w v m) (hv : validM m = true) (hno : ¬ allMerge m) :
    Calls Tryd.prog 21 #[.agg #[v]] w (NoWord w 4) := by
  obtain ⟨p1, p2, -⟩ := valid_parts hv
  obtain ⟨A, cap, rfl, hml, -⟩ := id h
  have hX := bal (Below.refl _ w) (.cells #[.slice A m.length cap] 24)
  have Hx := hid hX
  have hbx := (Boxed.new w 24 (.slice A m.length cap)).cell
  go_enter Tryd.func21, Tryd.ntmps21
  go_wp2_with fail
  generalize w.alloc (.cells #[.slice A m.length cap] 24) = X at *
  clear hX
  have hX := Hx.out
  have hr := h.below hX
  refine (Valid_bool _ m true _ hr hv).mono ?_
  rintro e w1 ⟨rfl, h1⟩
  have e0 := (h1.cell (p := ⟨w.heap.size, 0, none⟩) (World.block_lt_of_cell? _ _ hbx)).trans hbx
  have hr1 := hr.below h1
  go_wp2_with fail
  refine (mergers_any _ m _ hr1 hv).mono ?_
  rintro e w2 ⟨B, rfl, hL, h2⟩
  obtain ⟨c, hc, hiff, hc2⟩ := hL.len
  have HB := hid (btr (btr hX h1) h2)
  have hlt : 2 * c < m.length * (m.length + 1) := Nat.lt_of_not_le fun e => hno (hiff.1 e)
  have hmm : m.length * (m.length + 1) ≤ 60 * 61 := Nat.mul_le_mul p2 (by omega)
  have hK : (m.length : Int) * ((m.length : Int) + 1) = ((m.length * (m.length + 1) : Nat) : Int) := by push_cast; rfl
  have hb1 : (m.length : Int) * ((m.length : Int) + 1) ≤ 3660 := by rw [hK]; omega
  have hb0 : 0 ≤ (m.length : Int) * ((m.length : Int) + 1) := by rw [hK]; omega
  have ht : (c : Int) < (m.length : Int) * ((m.length : Int) + 1) / 2 := by
    have hm2 : m.length * (m.length + 1) % 2 = 0 := by
      rw [Nat.mul_mod]
      rcases Nat.mod_two_eq_zero_or_one m.length with h | h
      · rw [h]; simp
      · rw [Nat.add_mod, h]
    rw [hK]; omega
  clear hbx hr h Hx e0 hL h1 h2 hX hr1 hK hlt hiff hmm
  go_wp2
  go_ret2
  exact ⟨rfl, HB.out⟩
/-- The measure of the search: how many states are left. -/
def setLeft (v : Value) : Nat := (elems (intOf v).toNat).length
theorem imgWord_take (m : List (List Int)) (S : Nat) (u : List Int) {k : Nat} (hk : k < u.length) {x : Nat} (hx : u.getD k 0 = (x : Int)) : imgWord m S (u.take (k + 1)) = imgTo m (x : Int) (elems (imgWord m S (u.take k))) := by
  rw [imgWord_snoc m S u k hk, hx]; rfl
set_option maxRecDepth 100000 in
set_option maxHeartbeats 4000000 in
theorem Reset_ok (v : Value) (m : List (List Int)) (w : World) (hT : Tab w) (h : Rows w v m) (hv : validM m = true) (hall : allMerge m) :
    Calls Tryd.prog 21 #[.agg #[v]] w (WordIs w (resetW m)) := by
  obtain ⟨i0, hi, hz0, hz1, hz2⟩ := info_parts infoIntE
  obtain ⟨p1, p2, p3, p4, -⟩ := valid_parts hv
  obtain ⟨A, cap, rfl, hml, -⟩ := id h
  have hX := bal (Below.refl _ w) (.cells #[.slice A m.length cap] 24)
  have Hx := hid hX
  have hbx := (Boxed.new w 24 (.slice A m.length cap)).cell
  have hXs : (w.alloc (.cells #[.slice A m.length cap] 24)).heap.size = w.heap.size + 1 := World.size_alloc _ _
  go_enter Tryd.func21, Tryd.ntmps21
  go_wp2_with fail
  generalize w.alloc (.cells #[.slice A m.length cap] 24) = X at *
  clear hX
  have hX := Hx.out
  have hr := h.below hX
  refine (Valid_bool _ m true _ hr hv).mono ?_
  rintro e w1 ⟨rfl, h1⟩
  have e0 := (h1.cell (p := ⟨w.heap.size, 0, none⟩) (World.block_lt_of_cell? _ _ hbx)).trans hbx
  have hr1 := hr.below h1
  go_wp2_with fail
  refine (mergers_any _ m _ hr1 hv).mono ?_
  rintro e w2 ⟨B, rfl, hL, h2⟩
  obtain ⟨c, hc, hiff, hc2⟩ := hL.len
  have HB := hid (btr (btr hX h1) h2)
  have e1 := (h2.cell (p := ⟨w.heap.size, 0, none⟩) (World.block_lt_of_cell? _ _ e0)).trans e0
  have hlt : m.length * (m.length + 1) ≤ 2 * c := hiff.2 hall
  have hmm : m.length * (m.length + 1) ≤ 60 * 61 := Nat.mul_le_mul p2 (by omega)
  have hK : (m.length : Int) * ((m.length : Int) + 1) = ((m.length * (m.length + 1) : Nat) : Int) := by push_cast; rfl
  have hb1 : (m.length : Int) * ((m.length : Int) + 1) ≤ 3660 := by rw [hK]; omega
  have hb0 : 0 ≤ (m.length : Int) * ((m.length : Int) + 1) := by rw [hK]; omega
  have ht : ¬ (c : Int) < (m.length : Int) * ((m.length : Int) + 1) / 2 := by rw [hK]; omega
  have hr2 := hr1.below h2
  have hT2 := hT.on HB.out
  have hw2 : w.heap.size < w2.heap.size := World.block_lt_of_cell? _ _ e1
  clear hbx hr h Hx e0 h1 h2 hX hr1 hK hlt hiff hmm hXs
  go_wp2_with (go_at_call 47; refine (Below_any m.length _ p2).mono ?_; rintro e w' ⟨rfl, rfl⟩)
  have hpow := Nat.two_pow_pos m.length
  have hpow2 : 2 ^ m.length ≤ 2 ^ 60 := Nat.pow_le_pow_right (by decide) p2
  have hel := elems_below m.length (by omega)
  have HRW := hid (show resetW m = greedyW m m.length (2 ^ m.length - 1) from rfl)
  have hrl := (resetW_ok hv hall).2.2
  have hcube : m.length * m.length * m.length ≤ 60 * 60 * 60 := Nat.mul_le_mul (Nat.mul_le_mul p2 p2) p2
  have hrl2 : (resetW m).length ≤ 36000 := by omega
  have hS0 : 2 ^ m.length - 1 < 2 ^ m.length := by omega
  have hE1 : 1 ≤ (elems (2 ^ m.length - 1)).length := by rw [hel]; simpa using p1
  have hE2 : (elems (2 ^ m.length - 1)).length ≤ m.length + 1 := by rw [hel]; simp
  generalize 2 ^ m.length - 1 = S0 at *
  generalize resetW m = RW at *
  clear hrl hcube hel hb1 hb0 ht hc
  go_loopw [6, 7] (fun rv sv wr => ∃ (S f : Nat) (pre : List Int), sv = .int .u64 (S : Nat) ∧ S < 2 ^ m.length ∧ 1 ≤ (elems S).length ∧ (elems S).length ≤ f + 1 ∧ RW = pre ++ greedyW m f S ∧ wr.ownsRow w2.heap.size 3 1 rv pre.length (pre.map fun x => .int .i64 x) ∧ Below w2.heap.size w2 wr ∧ wr.cell? ⟨w.heap.size, 0, none⟩ = some (.slice A m.length cap)) (fun _ sv _ => setLeft sv)
  case atStart => exact ⟨S0, m.length, [], rfl, hS0, hE1, hE2, HRW.out, World.ownsRow_nil _ _ _ _, Below.refl _ _, e1⟩
  case round =>
    clear e1 HRW hS0 hE1 hE2
    obtain ⟨S, f, pre, rfl, hS, hE1, hE2, hRW, hO, hB, hbx⟩ := hrel
    have hS64 : S < 18446744073709551616 := by omega
    have hbl := World.block_lt_of_cell? _ _ hbx
    by_cases hle : (elems S).length ≤ 1
    · have hng : ¬ (1 : Int) < (elems S).length := by omega
      have HO := hid (show wr.ownsRow w.heap.size 3 1 u6 RW.length (RW.map fun x => .int .i64 x) from by
        rw [hRW, greedy_end hle, List.append_nil]
        exact row_mono hO (by omega))
      have HBB := hid (btr HB.out hB)
      clear hO hRW
      go_wp2_with (go_at_call 48; refine (Size_any S _ hS64).mono ?_; rintro e w' ⟨rfl, rfl⟩)
      go_ret2
      exact ⟨_, rfl, HO.out, HBB.out⟩
    · have hng : (1 : Int) < (elems S).length := by omega
      obtain ⟨f, rfl⟩ : ∃ f', f = f' + 1 := ⟨f - 1, by omega⟩
      obtain ⟨t, r, b1, b2, b3, b4, b5, b6, b7, b8, b9, b10, b11, b12⟩ := greedy_step hv hall hS (by omega)
      have hgm := greedy_more (m := m) (f := f) hle
      rw [hgm] at hRW
      have hRl : pre.length + t ≤ 36000 := by
        rw [hRW, List.length_append, List.length_append, b6] at hrl2
        omega
      have ht0 : 1 ≤ t := by
        rcases Nat.eq_zero_or_pos t with e | e
        · subst e
          have hmz := mdist_zero.1 b4
          have hsk := soonOf_ok m (prodL (elems S))
          rw [b1] at hsk
          exfalso
          rcases hsk with ⟨_, h2⟩ | ⟨_, h2, _⟩
          · have hp0 := greedy_pair hv (elems_nodup S) (fun c hc => elems_lt hS hc) (by omega) hall
            obtain ⟨_, _, _, h4, _⟩ := hp0
            rw [b1] at h4
            omega
          · omega
        · exact e
      have hsoon := fun (w' : World) (hb : Below w2.heap.size w2 w') => soonest_any m S B w' (hT2.on hb) hv hS (hL.below hb) hall
      rw [b1] at hsoon
      have hmerg := fun (w' : World) (hb : Below w2.heap.size w2 w') => merger_any _ m r.1 r.2 t B w' (hr2.below hb) hv b2 b3 b4 (hL.below hb)
      rw [← b5] at hmerg
      have HSW := hid b6
      have HS7 := hid b7
      have HS9 := hid b9
      have H10 := hid b10
      have H11 := hid b11
      have HRw := hid hRW
      have HO := hid hO
      have HSN := hid hsoon
      have HMG := hid hmerg
      have hdef := hid (fun (k : Nat) (hk : k < (stepW m S).length) (x : Nat) (hx : (stepW m S).getD k 0 = (x : Int)) => imgWord_take m S (stepW m S) hk hx)
      obtain ⟨r1, r2⟩ := r
      clear hO hRW hgm b1 b4 b5 b6 b7 b8 b9 b10 b11 hsoon hmerg
      generalize hSWW : stepW m S = u at *
      have HSWW := hid hSWW
      clear hSWW
      simp only at b2 b3
      go_wp2_with (go_at_call 48; refine (Size_any S _ hS64).mono ?_; rintro e w' ⟨rfl, rfl⟩)
      have hBf := hid hB
      have hrw := hid (fun (w' : World) (hb : Below w2.heap.size w2 w') => hr2.below hb)
      go_region_held3 (fun w' => Below wr.heap.size wr w' ∧ w'.cell? ⟨w.heap.size, 0, none⟩ = some (.slice A m.length cap)) (exact held_one hbx (by first | exact below_dr wr 1 | assumption)) (first
        | (go_at_call 50; go_must (refine (HSN.out _ (btr hBf.out (by first | exact below_dr wr 1 | exact Below.refl _ _))).mono ?_; rintro e y1 ⟨rfl, hy1⟩; have k1 : Below wr.heap.size wr y1 := btr (by first | exact below_dr wr 1 | exact Below.refl _ _) hy1))
        | (go_at_call 49; go_must (refine (HMG.out _ (btr hBf.out k1)).mono ?_; rintro e y2 ⟨rv, rfl, ho, hy2⟩; have k2 : Below wr.heap.size wr y2 := btr k1 hy2; have HO2 := hid ho; have hk1 := k1.size; clear ho)))
      rename_i hheld
      obtain ⟨-, hbx2⟩ := hheld
      obtain ⟨g, gc, rfl⟩ := ownsRow_pos' HO2.out ht0
      have HK2 := hid k2
      clear hy1 hbx hB
      go_wp2_with fail
      go_loopw [7, 40] (fun sv kv wq => ∃ k : Nat, k ≤ t ∧ kv = .int .i64 (k : Nat) ∧ sv = .int .u64 (imgWord m S (u.take k) : Nat) ∧ imgWord m S (u.take k) < 2 ^ m.length ∧ Below y2.heap.size y2 wq) (fun _ kv _ => t - (intOf kv).toNat)
      case atStart => exact ⟨0, Nat.zero_le _, rfl, rfl, hS, Below.refl _ _⟩
      case round =>
        obtain ⟨k, hk, rfl, rfl, hSk, hBk⟩ := hrel
        have hbx3 := (hBk.cell (p := ⟨w.heap.size, 0, none⟩) (World.block_lt_of_cell? _ _ hbx2)).trans hbx2
        have hBw := btr hBf.out (btr HK2.out hBk)
        by_cases hkt : k < t
        · have hks : (k : Int) < t := by omega
          have hul : k < u.length := by rw [HSW.out]; exact hkt
          have hux := HS7.out
          have hin := inB_iff.1 (all_getD _ u 0 hux k hul)
          obtain ⟨x, hx⟩ := Int.eq_ofNat_of_zero_le hin.1
          have hcA : y2.cell? ⟨g, k, none⟩ = some (.int .i64 (u.getD k 0)) := by
            rw [HO2.out.cellAt k (by omega), getI_cell hul]
          rw [hx] at hcA
          have hcB := (hBk.cell (p := ⟨g, k, none⟩) (World.block_lt_of_cell? _ _ hcA)).trans hcA
          have hd := hdef.out k hul x hx
          have Hd := hid hd
          have hxl : x < letters m := by have := hin.2; rw [hx] at this; omega
          have hTk := hT2.on hBw
          have hrk := hr2.below hBw
          have hSk2 := hid (show imgTo m (x : Int) (elems (imgWord m S (u.take k))) < 2 ^ m.length from imgTo_lt m _ m.length _ (fun s hs => (nx_ok hv (elems_lt hSk hs) (by omega) (by omega)).1))
          clear hd hux hcA hbx2 hx
          generalize imgWord m S (u.take k) = Sk at *
          go_wp2_with fail
          refine (SetImage_any _ m Sk x _ hTk hrk hv hSk hxl).mono ?_
          rintro e w3 ⟨rfl, h3⟩
          have hB3 := hid (btr hBk h3)
          clear hbx3 hcB hTk hrk
          go_wp2
          go_roundw
          case rel => exact ⟨k + 1, by omega, by go_num, by rw [Hd.out], by rw [Hd.out]; exact hSk2.out, hB3.out⟩
          case measure => simp [intOf]; omega
        · obtain rfl : k = t := by omega
          have hks : ¬ (k : Int) < k := by omega
          have hut : u.take k = u := List.take_of_length_le (by rw [HSW.out]; exact Nat.le_refl _)
          rw [hut] at hSk ⊢
          have hOr := hid (ownsRow_same HO.out fun q hq => (btr HK2.out hBk).block q (HO.out.lt q hq).2)
          have hnews := hid (fun j x (hx : (u.map fun x => Value.int .i64 x)[j]? = some x) => show wr.cell? ((⟨g, 0, none⟩ : Addr).add j) = some x from by
            have h1 := World.ownsRow.cells HO2.out (g := g) rfl j x hx
            exact (hBk.cell (p := (⟨g, 0, none⟩ : Addr).add j) (World.block_lt_of_cell? _ _ h1)).trans h1)
          have hlu := hid (show (u.map fun x => Value.int .i64 x).length = k * 1 from by rw [List.length_map, HSW.out, Nat.mul_one])
          have hone := hid (show ∀ x ∈ (u.map fun x => Value.int .i64 x), x.oneCell' = true from fun x hx => by obtain ⟨y, _, rfl⟩ := List.mem_map.1 hx; rfl)
          have hBB := hid hBw
          have hbz := hBw.size
          have hlt6 := hid (fun q hq => (HO.out.lt q hq).1)
          clear hbx2
          go_wp2_with (at_builtin; refine wpList_append_own_at _ rfl _ _ 34 rfl w2.heap.size 3 i0 (.int .i64 0) 1 8 Tryd.underlying34 hi hz0 hz1 hz2 rfl (by decide) _ _ _ rfl hOr.out ⟨g, 0, none⟩ k gc (u.map fun x => .int .i64 x) rfl hlu.out hnews.out hone.out (by unfold maxLen; omega) (by omega) (by omega) ?_; intro v' w5 hown' hgrow' _ hat; have HN := hid hown'; have HG := hid hgrow'; have hc5 := hgrow'.cell hbx3 (fun e => by have := hlt6.out _ e.symm; simp at this; omega); clear hown' hgrow' hat)
          go_roundw
          case rel =>
            refine ⟨imgWord m S u, f, pre ++ u, rfl, hSk, H11.out, by have := H10.out; omega, by rw [HRw.out, List.append_assoc], ?_, hBB.out.grown HG.out (by omega) (fun q hq => hlt6.out q hq), hc5⟩
            rw [List.length_append, List.map_append, HSW.out]
            exact HN.out
          case measure =>
            have := H10.out
            simp [setLeft, intOf]
            exact this
end Go.Proofs.YtphpablchlpagaaDoor
namespace Go.Proofs.YtphpablchlpagaaDoor
open Go.RowKit Go.Shelf
/-- The value v is a list of k rows; row p lies in block B p and holds f p 0, .., f p (n - 1). -/
structure Tbl (W : World) (n₀ : Nat) (v : Value) (n k : Nat) (B : Nat → Nat) (f : Nat → Nat → Int) : Prop where
  outer : W.ownsRow n₀ 34 1 v k ((List.range k).map fun p => .slice (some ⟨B p, 0, none⟩) n n)
  inner : ∀ p, p < k → W.ownsRow n₀ 3 1 (.slice (some ⟨B p, 0, none⟩) n n) n ((Lf n (f p)).map fun x => .int .i64 x)
  apart : ∀ p, p < k → v.ownBlock ≠ some (B p)
  inj : ∀ p q, p < k → q < k → B p = B q → p = q
section
variable {W W' : World} {n₀ n k : Nat} {v : Value} {B : Nat → Nat} {f : Nat → Nat → Int}
theorem Tbl.empty (W : World) (n₀ n : Nat) (B : Nat → Nat) (f : Nat → Nat → Int) : Tbl W n₀ (.slice none 0 0) n 0 B f :=
  ⟨World.ownsRow_nil _ _ _ _, fun p hp => by omega, fun p hp => by omega, fun p q hp => by omega⟩
theorem Tbl.kept (h : Tbl W n₀ v n k B f) (hk : ∀ b, n₀ ≤ b → b < W.heap.size → W'.heap[b]? = W.heap[b]?) : Tbl W' n₀ v n k B f :=
  ⟨owns_kept h.outer hk, fun p hp => owns_kept (h.inner p hp) hk, h.apart, h.inj⟩
theorem Tbl.below (h : Tbl W n₀ v n k B f) (hb : Below W.heap.size W W') : Tbl W' n₀ v n k B f := h.kept fun b _ hs => hb.block b hs
theorem Tbl.congr {g : Nat → Nat → Int} (h : Tbl W n₀ v n k B f) (e : ∀ p q, p < k → q < n → f p q = g p q) : Tbl W n₀ v n k B g :=
  ⟨h.outer, fun p hp => by rw [← Lf_congr (n := n) (f := f p) (g := g p) fun q hq => e p q hp hq]; exact h.inner p hp, h.apart, h.inj⟩
/-- One row more. -/
theorem Tbl.push {v' : Value} {b : Nat} (h : Tbl W n₀ v n k B f) (ho : W'.ownsRow n₀ 34 1 v' (k + 1) (((List.range k).map fun p => .slice (some ⟨B p, 0, none⟩) n n) ++ [.slice (some ⟨b, 0, none⟩) n n]))
    (hr : W'.ownsRow n₀ 3 1 (.slice (some ⟨b, 0, none⟩) n n) n ((Lf n (f k)).map fun x => .int .i64 x)) (hk : ∀ c, n₀ ≤ c → c < W.heap.size → v.ownBlock ≠ some c → W'.heap[c]? = W.heap[c]?)
    (hv : ∀ p, p < k → v'.ownBlock ≠ some (B p)) (hvb : v'.ownBlock ≠ some b) (hb : ∀ p, p < k → B p ≠ b) : Tbl W' n₀ v' n (k + 1) (fun p => if p = k then b else B p) f := by
  have hne : ∀ p, p < k → p ≠ k := fun p hp => by omega
  refine ⟨?_, fun p hp => ?_, fun p hp => ?_, fun p q hp hq e => ?_⟩
  · refine cast ?_ ho
    congr 1
    rw [List.range_succ, List.map_append]
    congr 1
    · refine List.map_congr_left fun p hp => ?_
      rw [if_neg (hne p (List.mem_range.1 hp))]
    · simp
  · by_cases e : p = k
    · subst e; simp only [if_true]; exact hr
    · simp only [if_neg e]
      have hp' : p < k := by omega
      obtain ⟨h1, h2⟩ := h.inner p hp'
      refine ⟨h1, ?_⟩
      rcases h2 with h2 | ⟨g, cap, cur, hv2, hB, hh, r⟩
      · exact .inl h2
      · have hg : g = B p := by
          simp only [Value.slice.injEq, Option.some.injEq, Addr.mk.injEq, and_true, true_and] at hv2
          exact hv2.1.symm
        exact .inr ⟨g, cap, cur, hv2, hB, by rw [hk g hB (lt_of_block hh) (by rw [hg]; exact h.apart p hp')]; exact hh, r⟩
  · by_cases e : p = k
    · subst e; simp only [if_true]; exact hvb
    · simp only [if_neg e]; exact hv p (by omega)
  · by_cases e1 : p = k <;> by_cases e2 : q = k
    · omega
    · simp only [if_pos e1, if_neg e2] at e; exact absurd e.symm (hb q (by omega))
    · simp only [if_neg e1, if_pos e2] at e; exact absurd e (hb p (by omega))
    · simp only [if_neg e1, if_neg e2] at e; exact h.inj p q (by omega) (by omega) e
/-- .. by an append whose element was boxed. -/
theorem Tbl.pushed {w5 : World} {v' : Value} {b : Nat} {o : Obj} (h : Tbl W n₀ v n k B f) (hr : W.ownsRow n₀ 3 1 (.slice (some ⟨b, 0, none⟩) n n) n ((Lf n (f k)).map fun x => .int .i64 x))
    (hvb : v.ownBlock ≠ some b) (hb : ∀ p, p < k → B p ≠ b)
    (hown : w5.ownsRow n₀ 34 1 v' (k + 1) (((List.range k).map fun p => .slice (some ⟨B p, 0, none⟩) n n) ++ [.slice (some ⟨b, 0, none⟩) n n])) (hgrow : (W.alloc o).grownBy w5 v.ownBlock)
    (hat : v'.ownBlock = v.ownBlock ∨ v'.ownBlock = some (W.alloc o).heap.size) : Tbl w5 n₀ v' n (k + 1) (fun p => if p = k then b else B p) f := by
  have hbl := ownq_lt hr
  refine h.push hown ((hr.alloc o).kept hgrow (.inr fun e => hvb (by simpa [Value.ownBlock] using e.symm))) (fun c _ hc hne => ?_) (fun p hp e => ?_) (fun e => ?_) hb
  · rw [hgrow.block c (by simp; omega) (fun e => hne e.symm)]
    exact Below.heap_alloc _ _ _ hc
  · have := (ownq_lt (h.inner p hp)).2
    rcases hat with e2 | e2
    · exact h.apart p hp (e2 ▸ e)
    · rw [e2] at e
      simp at e
      omega
  · rcases hat with e2 | e2
    · exact hvb (e2 ▸ e)
    · rw [e2] at e
      simp at e
      omega
variable {g c : Nat}
theorem Tbl.cell (h : Tbl W n₀ (.slice (some ⟨g, 0, none⟩) k c) n k B f) {p : Nat} (hp : p < k) : W.cell? ⟨g, p, none⟩ = some (.slice (some ⟨B p, 0, none⟩) n n) := by
  rw [h.outer.cellAt p (by omega)]
  simp [List.getElem?_map, List.getElem?_range hp]
theorem Tbl.num (h : Tbl W n₀ v n k B f) {p q : Nat} (hp : p < k) (hq : q < n) : W.cell? ⟨B p, q, none⟩ = some (.int .i64 (f p q)) := by
  rw [(h.inner p hp).cellAt q (by omega), Lf_cell _ hq]
theorem Tbl.free (h : Tbl W n₀ v n k B f) {p : Nat} (hp : p < k) (q : Nat) : W.frozen? ⟨B p, q, none⟩ = false := (h.inner p hp).frozenAt q
theorem Tbl.ge (h : Tbl W n₀ v n k B f) {p : Nat} (hp : p < k) : n₀ ≤ B p ∧ B p < W.heap.size := ownq_lt (h.inner p hp)
/-- A number is stored. -/
theorem Tbl.set (h : Tbl W n₀ v n k B f) {p q : Nat} (hp : p < k) (x : Int) : Tbl (W.setCell ⟨B p, q, none⟩ (.int .i64 x)) n₀ v n k B (fun a b => if a = p ∧ b = q then x else f a b) := by
  obtain ⟨h1, h2⟩ := (h.inner p hp).stored q (.int .i64 x)
  refine ⟨h.outer.kept h2 (.inr (h.apart p hp)), fun a ha => ?_, h.apart, h.inj⟩
  by_cases e : a = p
  · subst e
    rw [← List.map_set (f := fun x => Value.int .i64 x), Lf_set] at h1
    refine cast ?_ h1
    congr 2
    exact Lf_congr fun i _ => by simp
  · have : (Lf n fun b => if a = p ∧ b = q then x else f a b) = Lf n (f a) := Lf_congr fun i _ => by rw [if_neg (fun h => e h.1)]
    rw [show (fun b => if a = p ∧ b = q then x else f a b) = fun b => (fun a b => if a = p ∧ b = q then x else f a b) a b from rfl] at this
    rw [this]
    refine (h.inner a ha).kept h2 (.inr ?_)
    intro e2
    simp only [Value.ownBlock, Option.some.injEq] at e2
    exact e (h.inj a p ha hp e2)
end
/-- The reference's table within round k + 1: the pairs before (p, q) are done. -/
def mixT (m : List (List Int)) (k p q a b : Nat) : Int := if a < p ∨ (a = p ∧ b < q) then mlenAt m (k + 1) a b else mlenAt m k a b
theorem mlenAt_keeps (m : List (List Int)) (k p q : Nat) : mlenAt m (k + 1) p q = (k : Int) ↔ mlenAt m k p q = (k : Int) := by
  have h := mlenAt_range m k p q
  simp only [mlenAt]
  by_cases e : 0 ≤ mlenAt m k p q
  · rw [if_pos e]
  · rw [if_neg e]
    split
    · constructor <;> intro h2 <;> omega
    · constructor <;> intro h2 <;> omega
theorem mixT_keeps (m : List (List Int)) (k p q a b : Nat) : mixT m k p q a b = (k : Int) ↔ mlenAt m k a b = (k : Int) := by
  unfold mixT
  split
  · exact mlenAt_keeps m k a b
  · exact Iff.rfl
theorem mixT_range (m : List (List Int)) (k p q a b : Nat) : -1 ≤ mixT m k p q a b ∧ mixT m k p q a b ≤ k + 1 := by
  have h1 := mlenAt_range m k a b
  have h2 := mlenAt_range m (k + 1) a b
  unfold mixT
  split <;> omega
theorem mixT_step (m : List (List Int)) (k p q a b : Nat) : mixT m k p (q + 1) a b = if a = p ∧ b = q then mlenAt m (k + 1) p q else mixT m k p q a b := by
  unfold mixT
  by_cases e : a = p ∧ b = q
  · rw [if_pos e, if_pos (by omega), e.1, e.2]
  · rw [if_neg e]
    by_cases e2 : a < p ∨ (a = p ∧ b < q)
    · rw [if_pos e2, if_pos (by omega)]
    · rw [if_neg e2, if_neg (by omega)]
theorem mixT_row (m : List (List Int)) {n k p a b : Nat} (hb : b < n) : mixT m k p n a b = mixT m k (p + 1) 0 a b := by
  unfold mixT
  by_cases e2 : a < p ∨ (a = p ∧ b < n)
  · rw [if_pos e2, if_pos (by omega)]
  · rw [if_neg e2, if_neg (by omega)]
theorem mixT_at (m : List (List Int)) (k p q : Nat) : mixT m k p q p q = mlenAt m k p q := by
  unfold mixT
  rw [if_neg (by omega)]
end Go.Proofs.YtphpablchlpagaaDoor
namespace Go.Proofs.YtphpablchlpagaaDoor
open Go.RowKit Go.Shelf
/-- Within round k + 1, before the pair (p, q): whether something has changed. -/
def moreB (m : List (List Int)) (k p q : Nat) (b : Bool) : Prop :=
  (b = true → ∃ a c, a < m.length ∧ c < m.length ∧ mdist m a c (k + 1)) ∧ (b = false → ∀ a c, a < m.length → c < m.length → mixT m k p q a c = mlenAt m k a c)
theorem mlenAt_found {m : List (List Int)} {k p q : Nat} (h : mlenAt m (k + 1) p q = (k : Int) + 1) : mdist m p q (k + 1) := by
  rcases mlenAt_spec m (k + 1) p q with ⟨h1, _⟩ | ⟨j, h1, h2, h3⟩
  · omega
  · obtain rfl : j = k + 1 := by omega
    exact h3
theorem moreB.same {m : List (List Int)} {k p q : Nat} {b : Bool} (h : moreB m k p q b) (hs : mlenAt m (k + 1) p q = mlenAt m k p q) : moreB m k p (q + 1) b := by
  refine ⟨h.1, fun hb a c ha hc => ?_⟩
  rw [mixT_step]
  by_cases e : a = p ∧ c = q
  · rw [if_pos e, hs, e.1, e.2]
  · rw [if_neg e]; exact h.2 hb a c ha hc
theorem moreB.row {m : List (List Int)} {k p : Nat} {b : Bool} (h : moreB m k p m.length b) : moreB m k (p + 1) 0 b :=
  ⟨h.1, fun hb a c ha hc => by rw [← mixT_row m hc]; exact h.2 hb a c ha hc⟩
theorem infoRows : (Tryd.prog.info? 34).map (fun i => (i.zero, i.size, i.bytes)) = some (some (.slice none 0 0), 1, 24) := by kernel_rfl
set_option maxRecDepth 100000 in
set_option maxHeartbeats 8000000 in
theorem rTable_any (v : Value) (m : List (List Int)) (w : World) (h : Rows w v m) (hv : validM m = true) :
    Calls Tryd.prog 76 #[.agg #[v]] w fun e w' => ∃ V B, e = .returned V ∧ Tbl w' (w.heap.size + 1) V m.length m.length B (mlen m) ∧ Below w.heap.size w w' := by
  obtain ⟨i0, hi, hz0, hz1, hz2⟩ := info_parts infoInt
  obtain ⟨r0, hri, hrz0, hrz1, hrz2⟩ := info_parts infoRows
  obtain ⟨p1, p2, p3, p4, p5⟩ := valid_parts hv
  obtain ⟨A, cap, rfl, hml, hcm⟩ := id h
  have Hcm := hid hcm
  have Hp5 := hid p5
  have hX := bal (Below.refl _ w) (.cells #[.slice A m.length cap] 24)
  have hbx := (Boxed.new w 24 (.slice A m.length cap)).cell
  clear p5 hcm
  go_enter Tryd.func76, Tryd.ntmps76
  go_wp2_with fail
  go_loopw [4, 5] (fun ov pv wr => ∃ p B, p ≤ m.length ∧ pv = .int .i64 (p : Nat) ∧ Tbl wr (w.heap.size + 1) ov m.length p B (mlenAt m 0) ∧ Below w.heap.size w wr ∧ wr.cell? ⟨w.heap.size, 0, none⟩ = some (.slice A m.length cap)) (fun _ p _ => m.length - (intOf p).toNat)
  case atStart => exact ⟨0, fun _ => 0, Nat.zero_le _, rfl, Tbl.empty _ _ _ _ _, hX, hbx⟩
  case round =>
    clear hbx hX
    obtain ⟨p, B, hp, rfl, hT, hB, hbx⟩ := hrel
    by_cases hlt : p < m.length
    · have hps : (p : Int) < m.length := by omega
      have hlb := World.block_lt_of_cell? _ _ hbx
      obtain ⟨wo, rfl⟩ : ∃ wo : World, wo = wr := ⟨_, rfl⟩
      have HT := hid hT
      clear hT
      go_wp2_with (at_make; go_must (refine wpList_make_full _ rfl _ _ 34 rfl (w.heap.size + 1) 3 i0 (.int .i64 0) 1 Tryd.underlying34 hi hz0 hz1 .i64 .i64 _ _ m.length rfl rfl rfl rfl (by rw [hz2]; omega) (by unfold maxLen; omega) (by simp only at hlb; omega) ?_); intro w1 hown hgrow; rw [show Value.cells (.int .i64 0) = #[.int .i64 0] from rfl, toList_madeCells_one, Nat.mul_one] at hown; have hB1 := hB.grown hgrow (by simp only at hlb; omega) (fun q hq => by cases hq); have hT1 := HT.out.kept (W' := w1) (fun b _ hb => hgrow.block b hb (by simp)))
      have hbx1 : w1.cell? ⟨w.heap.size, 0, none⟩ = some (.slice A m.length cap) := (World.cell?_of_block (hgrow.block w.heap.size hlb (by simp))).trans hbx
      have hO0 : w1.ownsRow (w.heap.size + 1) 3 1 (.slice (some ⟨wo.heap.size, 0, none⟩) m.length m.length) m.length ((Lf m.length fun i => if i < 0 then mlenAt m 0 p i else 0).map fun x => .int .i64 x) := by
        have e : (Lf m.length fun i => if i < 0 then mlenAt m 0 p i else 0) = List.replicate m.length 0 := by
          apply List.ext_getElem
          · simp [Lf]
          · intro i h1 h2; simp [Lf]
        rw [e]; simpa using hown
      have hBb : ∀ a, a < p → B a ≠ wo.heap.size := fun a ha e => by have := (HT.out.ge ha).2; omega
      have hVb : u4.ownBlock ≠ some wo.heap.size := fun e => by have := HT.out.outer.lt _ e; omega
      generalize wo.heap.size = b at *
      clear hown hgrow hbx hB
      go_loopw [7] (fun qv wq => ∃ q : Nat, q ≤ m.length ∧ qv = .int .i64 q ∧ wq.ownsRow (w.heap.size + 1) 3 1 (.slice (some ⟨b, 0, none⟩) m.length m.length) m.length ((Lf m.length fun i => if i < q then mlenAt m 0 p i else 0).map fun x => .int .i64 x) ∧ Tbl wq (w.heap.size + 1) u4 m.length p B (mlenAt m 0) ∧ Below w.heap.size w wq ∧ wq.cell? ⟨w.heap.size, 0, none⟩ = some (.slice A m.length cap)) (fun q _ => m.length - (intOf q).toNat)
      case atStart => exact ⟨0, Nat.zero_le _, rfl, hO0, hT1, hB1, hbx1⟩
      case round =>
        clear hO0 hT1 hB1 hbx1
        obtain ⟨q, hq, rfl, hO, hT, hB, hbx⟩ := hrel
        by_cases hql : q < m.length
        · have hqs : (q : Int) < m.length := by omega
          by_cases e : q = p
          · subst e
            have hne : ((q : Int) != (q : Int)) = false := by simp
            have hO2 : wr.ownsRow (w.heap.size + 1) 3 1 (.slice (some ⟨b, 0, none⟩) m.length m.length) m.length ((Lf m.length fun i => if i < q + 1 then mlenAt m 0 q i else 0).map fun x => .int .i64 x) := by
              rw [show (Lf m.length fun i => if i < q + 1 then mlenAt m 0 q i else 0) = Lf m.length (fun i => if i < q then mlenAt m 0 q i else 0) from Lf_congr fun i _ => by
                by_cases e : i = q
                · subst e; rw [if_pos (by omega), if_neg (by omega)]; simp [mlenAt]
                · by_cases e2 : i < q
                  · rw [if_pos e2, if_pos (by omega)]
                  · rw [if_neg e2, if_neg (by omega)]]
              exact hO
            have HO2 := hid hO2
            have HT := hid hT
            clear hO hO2 hT
            go_wp2
            go_roundw
            case rel => exact ⟨q + 1, by omega, by go_num, HO2.out, HT.out, hB, hbx⟩
            case measure => simp [intOf]; omega
          · have hne : ((q : Int) != (p : Int)) = true := by simp; omega
            have hcA := hO.cellAt q (by omega)
            have hfA := hO.frozenAt q
            rw [Lf_cell _ hql] at hcA
            have hSt := (hO.stored q (.int .i64 (-1))).1
            rw [← List.map_set (f := fun x => Value.int .i64 x), Lf_set] at hSt
            have hSt2 := hid (show (wr.setCell ⟨b, q, none⟩ (.int .i64 (-1))).ownsRow (w.heap.size + 1) 3 1 (.slice (some ⟨b, 0, none⟩) m.length m.length) m.length ((Lf m.length fun i => if i < q + 1 then mlenAt m 0 p i else 0).map fun x => .int .i64 x) by
              rw [show (Lf m.length fun i => if i < q + 1 then mlenAt m 0 p i else 0) = Lf m.length (fun i => if i = q then -1 else if i < q then mlenAt m 0 p i else 0) from Lf_congr fun i _ => by
                by_cases e3 : i = q
                · subst e3; rw [if_pos (by omega), if_pos rfl]; simp only [mlenAt]; rw [if_neg (fun h => e h.symm)]
                · rw [if_neg e3]
                  by_cases e2 : i < q
                  · rw [if_pos e2, if_pos (by omega)]
                  · rw [if_neg e2, if_neg (by omega)]]
              exact hSt)
            have hbge := (ownq_lt hO).1
            have hBs := hid (hB.setCell (p := ⟨b, q, none⟩) (by show w.heap.size ≤ b; omega) (.int .i64 (-1)))
            have hbs : (wr.setCell ⟨b, q, none⟩ (.int .i64 (-1))).cell? ⟨w.heap.size, 0, none⟩ = some (.slice A m.length cap) := (World.cell?_of_block (Below.heap_setCell _ _ _ _ (by simp; omega))).trans hbx
            have hTs : Tbl (wr.setCell ⟨b, q, none⟩ (.int .i64 (-1))) (w.heap.size + 1) u4 m.length p B (mlenAt m 0) := by
              have hg := (hO.stored q (.int .i64 (-1))).2
              exact ⟨hT.outer.kept hg (.inr hVb), fun a ha => (hT.inner a ha).kept hg (.inr (by simpa [Value.ownBlock] using hBb a ha)), hT.apart, hT.inj⟩
            have HTs := hid hTs
            clear hO hSt hT hTs
            go_wp2
            go_roundw
            case rel => exact ⟨q + 1, by omega, by go_num, hSt2.out, HTs.out, hBs.out, hbs⟩
            case measure => simp [intOf]; omega
        · obtain rfl : q = m.length := by omega
          have hqs : ¬ ((m.length : Nat) : Int) < m.length := by omega
          rw [show (Lf m.length fun i => if i < m.length then mlenAt m 0 p i else 0) = Lf m.length (mlenAt m 0 p) from Lf_congr fun i hi => by rw [if_pos hi]] at hO
          have hlb := World.block_lt_of_cell? _ _ hbx
          have HO := hid hO
          have HT := hid hT
          have hxo := hT.outer
          have hvge : ∀ c, u4.ownBlock = some c → w.heap.size ≤ c := fun c hc => by have := (hT.outer.lt c hc).1; omega
          have hvne : ∀ c, c ≤ w.heap.size → some c ≠ u4.ownBlock := fun c hc e => by have := (hT.outer.lt c e.symm).1; omega
          have hBq := bal hB (.cells #[.slice (some ⟨b, 0, none⟩) m.length m.length] 34)
          clear hO hT
          go_wp2_with (at_builtin; refine wpList_append_own_at _ rfl _ _ 22 rfl (w.heap.size + 1) 34 r0 (.slice none 0 0) 1 24 Tryd.underlying22 hri hrz0 hrz1 hrz2 rfl (by decide) _ _ _ rfl (hxo.alloc _) ⟨wr.heap.size, 0, none⟩ 1 1 [.slice (some ⟨b, 0, none⟩) m.length m.length] rfl rfl (cell_one_new _ _ _) (by simp [Value.oneCell']) (by unfold maxLen; omega) (by omega) (by simp; simp only at hlb; omega) ?_; intro v' w5 hown' hgrow' _ hat; have hT5 := HT.out.pushed HO.out hVb hBb hown' hgrow' hat; have hB5 := hBq.grown hgrow' (by simp; simp only at hlb; omega) (fun c hc => hvge c hc); have hbx5 : w5.cell? ⟨w.heap.size, 0, none⟩ = some (.slice A m.length cap) := (World.cell?_of_block ((hgrow'.block w.heap.size (by simp; simp only at hlb; omega) (hvne _ (Nat.le_refl _))).trans (Below.heap_alloc _ _ _ hlb))).trans hbx)
          go_roundw
          case rel => exact ⟨p + 1, _, by omega, by go_num, hT5, hB5, hbx5⟩
          case measure => simp [intOf]; omega
    · obtain rfl : p = m.length := by omega
      have hps : ¬ ((m.length : Nat) : Int) < m.length := by omega
      have hVs : ∃ g c, u4 = .slice (some ⟨g, 0, none⟩) m.length c := ownsRow_pos' hT.outer (by omega)
      obtain ⟨g, c, rfl⟩ := hVs
      have HT := hid hT
      have hnn : 0 < m.length * m.length := Nat.mul_pos (by omega) (by omega)
      clear hT
      go_wp2_with fail
      go_loopw [8, 9] (fun kv bv wr => ∃ (k : Nat) (b : Bool), kv = .int .i64 ((k : Int) + 1) ∧ bv = .bool b ∧ Tbl wr (w.heap.size + 1) (.slice (some ⟨g, 0, none⟩) m.length c) m.length m.length B (mlenAt m k) ∧ (b = true → k < m.length * m.length) ∧ (b = false → ∀ p q, p < m.length → q < m.length → mlenAt m k p q = mlen m p q) ∧ Below w.heap.size w wr ∧ wr.cell? ⟨w.heap.size, 0, none⟩ = some (.slice A m.length cap)) (fun k _ _ => m.length * m.length + 1 - ((intOf k).toNat - 1))
      case atStart => exact ⟨0, true, rfl, rfl, HT.out, fun _ => hnn, fun h => (by cases h), hB, hbx⟩
      case round =>
        clear HT hB hbx
        obtain ⟨k, b, rfl, rfl, hT, hk, hend, hB, hbx⟩ := hrel
        cases b with
        | false =>
          have hT2 := hT.congr (g := mlen m) (fun p q hp hq => hend rfl p q hp hq)
          have HT2 := hid hT2
          clear hT hT2 hend
          go_wp2
          go_ret
          exact ⟨_, _, rfl, HT2.out, hB⟩
        | true =>
          have hkn := hk rfl
          have hn60 : m.length * m.length ≤ 3600 := Nat.mul_le_mul (show m.length ≤ 60 by omega) (show m.length ≤ 60 by omega)
          have hT0 : Tbl wr (w.heap.size + 1) (.slice (some ⟨g, 0, none⟩) m.length c) m.length m.length B (mixT m k 0 0) := hT.congr fun a b _ _ => by unfold mixT; rw [if_neg (by omega)]
          have hM0 : moreB m k 0 0 false := ⟨fun h => (by cases h), fun _ a c _ _ => by unfold mixT; rw [if_neg (by omega)]⟩
          obtain ⟨wo, rfl⟩ : ∃ wo : World, wo = wr := ⟨_, rfl⟩
          clear hT hend hk
          go_wp2_with fail
          go_loopw [9, 10] (fun bv pv wr => ∃ (p : Nat) (b : Bool), p ≤ m.length ∧ pv = .int .i64 p ∧ bv = .bool b ∧ Tbl wr (w.heap.size + 1) (.slice (some ⟨g, 0, none⟩) m.length c) m.length m.length B (mixT m k p 0) ∧ moreB m k p 0 b ∧ Below w.heap.size w wr ∧ wr.cell? ⟨w.heap.size, 0, none⟩ = some (.slice A m.length cap)) (fun _ p _ => m.length - (intOf p).toNat)
          case atStart => exact ⟨0, false, Nat.zero_le _, rfl, rfl, hT0, hM0, hB, hbx⟩
          case round =>
            clear hT0 hM0 hB hbx
            obtain ⟨p, b, hp, rfl, rfl, hT, hM, hB, hbx⟩ := hrel
            by_cases hpl : p < m.length
            · have hps : (p : Int) < m.length := by omega
              obtain ⟨wo2, rfl⟩ : ∃ wo : World, wo = wr := ⟨_, rfl⟩
              go_wp2_with fail
              go_loopw [9, 11] (fun bv qv wr => ∃ (q : Nat) (b : Bool), q ≤ m.length ∧ qv = .int .i64 q ∧ bv = .bool b ∧ Tbl wr (w.heap.size + 1) (.slice (some ⟨g, 0, none⟩) m.length c) m.length m.length B (mixT m k p q) ∧ moreB m k p q b ∧ Below w.heap.size w wr ∧ wr.cell? ⟨w.heap.size, 0, none⟩ = some (.slice A m.length cap)) (fun _ q _ => m.length - (intOf q).toNat)
              case atStart => exact ⟨0, b, Nat.zero_le _, rfl, rfl, hT, hM, hB, hbx⟩
              case round =>
                clear hT hM hB hbx
                obtain ⟨q, b, hq, rfl, rfl, hT, hM, hB, hbx⟩ := hrel
                by_cases hql : q < m.length
                · have hqs : (q : Int) < m.length := by omega
                  have hcur := mixT_at m k p q
                  obtain ⟨wi, rfl⟩ : ∃ wi : World, wi = wr := ⟨_, rfl⟩
                  have hc1 := hT.cell hpl
                  have hc2 := hT.num hpl hql
                  rw [hcur] at hc2
                  by_cases hneg : 0 ≤ mlenAt m k p q
                  · have hsame : mlenAt m (k + 1) p q = mlenAt m k p q := by simp only [mlenAt]; rw [if_pos hneg]
                    have hT2 : Tbl wi (w.heap.size + 1) (.slice (some ⟨g, 0, none⟩) m.length c) m.length m.length B (mixT m k p (q + 1)) := hT.congr fun a d _ _ => by
                      rw [mixT_step]
                      by_cases e : a = p ∧ d = q
                      · rw [if_pos e, hsame, e.1, e.2, mixT_at]
                      · rw [if_neg e]
                    have HT2 := hid hT2
                    have HM2 := hid (hM.same hsame)
                    have hn2 : ¬ mlenAt m k p q < 0 := by omega
                    clear hT hT2 hM hsame hcur
                    generalize mlenAt m k p q = z at *
                    go_wp2_with fail
                    go_loopw [9, 12] (fun bv xv wr => bv = .bool b ∧ xv = .int .i64 0 ∧ wr = wi) (fun _ _ _ => 0)
                    case atStart => exact ⟨rfl, rfl, rfl⟩
                    case round =>
                      obtain ⟨rfl, rfl, rfl⟩ := hrel
                      go_wp2
                      go_roundw
                      case rel => exact ⟨q + 1, b, by omega, by go_num, rfl, HT2.out, HM2.out, hB, hbx⟩
                      case measure => simp [intOf]; omega
                  · have hup := hid (show mlenAt m (k + 1) p q = if (List.range (letters m)).any (fun x : Nat => mlenAt m k (nx m p (x : Int)) (nx m q (x : Int)) == (k : Int)) then (k : Int) + 1 else -1 by simp only [mlenAt]; rw [if_neg hneg])
                    have hzr := mlenAt_range m k p q
                    have hz1 : mlenAt m k p q = -1 := by omega
                    rw [hz1] at hc2
                    have Hz1 := hid hz1
                    have HM := hid hM
                    clear hM hcur hzr hz1 hneg hc1 hc2
                    go_wp2_with fail
                    go_loopw [9, 12] (fun bv xv wr => ∃ (x : Nat) (b' : Bool), x ≤ letters m ∧ xv = .int .i64 x ∧ bv = .bool b' ∧ (((∀ y, y < x → mlenAt m k (nx m p (y : Int)) (nx m q (y : Int)) ≠ (k : Int)) ∧ b' = b ∧ Tbl wr (w.heap.size + 1) (.slice (some ⟨g, 0, none⟩) m.length c) m.length m.length B (mixT m k p q)) ∨ (mlenAt m (k + 1) p q = (k : Int) + 1 ∧ b' = true ∧ Tbl wr (w.heap.size + 1) (.slice (some ⟨g, 0, none⟩) m.length c) m.length m.length B (mixT m k p (q + 1)))) ∧ Below w.heap.size w wr ∧ wr.cell? ⟨w.heap.size, 0, none⟩ = some (.slice A m.length cap)) (fun _ x _ => letters m - (intOf x).toNat)
                    case atStart => exact ⟨0, b, Nat.zero_le _, rfl, rfl, .inl ⟨fun y hy => by omega, rfl, hT⟩, hB, hbx⟩
                    case round =>
                      clear hT hB hbx
                      obtain ⟨x, b', hx, rfl, rfl, hO, hB, hbx⟩ := hrel
                      rcases hO with ⟨hno, rfl, hT⟩ | ⟨hfound, rfl, hT⟩
                      · have hc1 := hT.cell hpl
                        have hc2 := hT.num hpl hql
                        rw [mixT_at, Hz1.out] at hc2
                        have Hno := hid hno
                        have HT := hid hT
                        clear hno hT
                        go_wp2_with fail
                        refine (rLetters_any _ m _ (h.below hB) hv).mono ?_
                        rintro e y1 ⟨rfl, hy1⟩
                        have hB1 := btr hB hy1
                        have hbx1 := (hy1.cell (p := ⟨w.heap.size, 0, none⟩) (World.block_lt_of_cell? _ _ hbx)).trans hbx
                        have HT1 := hid (HT.out.below hy1)
                        clear hc1 hc2 hbx hB
                        by_cases hxl : x < letters m
                        · have hxs : (x : Int) < letters m := by omega
                          obtain ⟨b1, o1, r1, hA, hcell, hrow⟩ := Hcm.out p hpl
                          subst hA
                          have hrl := (Hp5.out p hpl).1
                          obtain ⟨Ar, capr, rfl, -, hcr⟩ := id hrow
                          rw [hrl] at hcell
                          obtain ⟨br, offr, hAr, hct⟩ := hcr x (by omega)
                          subst hAr
                          obtain ⟨hn1, hn⟩ := nx_ok hv (s := p) hpl (x := (x : Int)) (by omega) (by omega)
                          rw [Int.toNat_natCast] at hn
                          rw [hn] at hct
                          have hcell2 := (hB1.cell (p := ⟨b1, o1 + p, none⟩) (World.block_lt_of_cell? _ _ hcell)).trans hcell
                          have hct2 := (hB1.cell (p := ⟨br, offr + x, none⟩) (World.block_lt_of_cell? _ _ hct)).trans hct
                          obtain ⟨b2, o2, r2, hA2, hcellq, hrowq⟩ := Hcm.out q hql
                          cases hA2
                          have hrlq := (Hp5.out q hql).1
                          obtain ⟨Aq, capq, rfl, -, hcq⟩ := id hrowq
                          rw [hrlq] at hcellq
                          obtain ⟨bq, offq, hAq, hctq⟩ := hcq x (by omega)
                          subst hAq
                          obtain ⟨hq1, hqn⟩ := nx_ok hv (s := q) hql (x := (x : Int)) (by omega) (by omega)
                          rw [Int.toNat_natCast] at hqn
                          rw [hqn] at hctq
                          have hcellq2 := (hB1.cell (p := ⟨b1, o1 + q, none⟩) (World.block_lt_of_cell? _ _ hcellq)).trans hcellq
                          have hctq2 := (hB1.cell (p := ⟨bq, offq + x, none⟩) (World.block_lt_of_cell? _ _ hctq)).trans hctq
                          have hkeep := mixT_keeps m k p q (nx m p (x : Int)) (nx m q (x : Int))
                          have hrange := mixT_range m k p q (nx m p (x : Int)) (nx m q (x : Int))
                          have hd1 := HT1.out.cell hn1
                          have hd2 := HT1.out.num hn1 hq1
                          have hc1 := HT1.out.cell hpl
                          have hc2 := HT1.out.num hpl hql
                          have hfr := HT1.out.free hpl q
                          have hge := (HT1.out.ge hpl).1
                          rw [mixT_at, Hz1.out] at hc2
                          have hany := hid (fun (he : mlenAt m k (nx m p (x : Int)) (nx m q (x : Int)) = (k : Int)) => show mlenAt m (k + 1) p q = (k : Int) + 1 by
                            rw [hup.out, if_pos (List.any_eq_true.2 ⟨x, List.mem_range.2 hxl, by rw [he]; simp⟩)])
                          have hnext := hid (fun (he : mlenAt m k (nx m p (x : Int)) (nx m q (x : Int)) ≠ (k : Int)) => show ∀ y, y < x + 1 → mlenAt m k (nx m p (y : Int)) (nx m q (y : Int)) ≠ (k : Int) from fun y hy => by
                            by_cases e : y = x
                            · subst e; exact he
                            · exact Hno.out y (by omega))
                          clear hcr hrow hn hrl hcell hct hcq hrowq hqn hrlq hcellq hctq
                          generalize mixT m k p q (nx m p (x : Int)) (nx m q (x : Int)) = z at *
                          generalize nx m p (x : Int) = d at *
                          generalize nx m q (x : Int) = d' at *
                          have hds : (d : Int) < m.length := by omega
                          have hds' : (d' : Int) < m.length := by omega
                          by_cases hqk : z = (k : Int)
                          · have hf := hany.out (hkeep.1 hqk)
                            have HSt := hid (fun nq => ((HT1.out.below (below_dr y1 nq)).set hpl (q := q) ((k : Int) + 1)).congr (g := mixT m k p (q + 1)) fun a e _ _ => by rw [mixT_step, hf])
                            have Hf := hid hf
                            have hBs := hid (fun nq => (btr hB1 (below_dr y1 nq)).setCell (p := ⟨B p, q, none⟩) (by show w.heap.size ≤ B p; omega) (.int .i64 ((k : Int) + 1)))
                            have hbs := hid (fun nq => show ((y1.drewN nq).setCell ⟨B p, q, none⟩ (.int .i64 ((k : Int) + 1))).cell? ⟨w.heap.size, 0, none⟩ = some (.slice (some ⟨b1, o1, none⟩) m.length cap) from (World.cell?_of_block (Below.heap_setCell _ _ _ _ (by simp; omega))).trans (((below_dr y1 nq).cell (p := ⟨w.heap.size, 0, none⟩) (World.block_lt_of_cell? _ _ hbx1)).trans hbx1))
                            subst hqk
                            clear hf hkeep
                            go_wp2_with fail
                            go_quiet (fail)
                            go_wp2
                            go_roundw
                            case rel => exact ⟨x + 1, true, by omega, by go_num, rfl, .inr ⟨Hf.out, rfl, HSt.out nq⟩, hBs.out nq, hbs.out nq⟩
                            case measure => simp [intOf]; omega
                          · have hne2 : (z == (k : Int)) = false := by rw [beq_eq_false_iff_ne]; exact hqk
                            have hnx := hid (hnext.out (fun e => hqk (hkeep.2 e)))
                            clear hkeep hany hnext
                            go_wp2_with fail
                            go_quiet (fail)
                            go_wp2
                            go_roundw
                            case rel => exact ⟨x + 1, b', by omega, by go_num, rfl, .inl ⟨hnx.out, rfl, HT1.out.below (below_dr y1 nq)⟩, btr hB1 (below_dr y1 nq), hbx1⟩
                            case measure => simp [intOf]; omega
                        · obtain rfl : x = letters m := by omega
                          have hxs : ¬ ((letters m : Nat) : Int) < letters m := by omega
                          have hm1 : mlenAt m (k + 1) p q = mlenAt m k p q := by
                            rw [Hz1.out, hup.out, if_neg]
                            intro h2
                            obtain ⟨y, hy, he⟩ := List.any_eq_true.1 h2
                            exact Hno.out y (List.mem_range.1 hy) (beq_iff_eq.1 he)
                          have hT3 : Tbl y1 (w.heap.size + 1) (.slice (some ⟨g, 0, none⟩) m.length c) m.length m.length B (mixT m k p (q + 1)) := HT1.out.congr fun a d _ _ => by
                            rw [mixT_step]
                            by_cases e : a = p ∧ d = q
                            · rw [if_pos e, hm1, e.1, e.2, mixT_at]
                            · rw [if_neg e]
                          have HT3 := hid hT3
                          have HM3 := hid (HM.out.same hm1)
                          clear hT3 hm1
                          go_wp2
                          go_roundw
                          case rel => exact ⟨q + 1, b', by omega, by go_num, rfl, HT3.out, HM3.out, hB1, hbx1⟩
                          case measure => simp [intOf]; omega
                      · have hc1 := hT.cell hpl
                        have hc2 := hT.num hpl hql
                        have hcur2 : mixT m k p (q + 1) p q = (k : Int) + 1 := by rw [mixT_step, if_pos ⟨rfl, rfl⟩, hfound]
                        rw [hcur2] at hc2
                        have HT := hid hT
                        have HM4 := hid (show moreB m k p (q + 1) true from ⟨fun _ => ⟨p, q, hpl, hql, mlenAt_found hfound⟩, fun h => (by cases h)⟩)
                        have t1 : ¬ (k : Int) + 1 < 0 := by omega
                        clear hT hcur2 hfound
                        go_wp2
                        go_roundw
                        case rel => exact ⟨q + 1, true, by omega, by go_num, rfl, HT.out, HM4.out, hB, hbx⟩
                        case measure => simp [intOf]; omega
                · obtain rfl : q = m.length := by omega
                  have hqs : ¬ ((m.length : Nat) : Int) < m.length := by omega
                  have HT5 := hid (hT.congr (g := mixT m k (p + 1) 0) fun a d _ hd => mixT_row m hd)
                  have HM5 := hid hM.row
                  clear hT hM
                  go_wp2
                  go_roundw
                  case rel => exact ⟨p + 1, b, by omega, by go_num, rfl, HT5.out, HM5.out, hB, hbx⟩
                  case measure => simp [intOf]; omega
            · obtain rfl : p = m.length := by omega
              have hps : ¬ ((m.length : Nat) : Int) < m.length := by omega
              have hT2 := hid (hT.congr (g := mlenAt m (k + 1)) fun a b ha _ => by unfold mixT; rw [if_pos (.inl ha)])
              have hb1 := hid (fun (hb : b = true) => show k + 1 < m.length * m.length by
                obtain ⟨a, c, ha, hc, hd⟩ := hM.1 hb
                exact mdist_lt hv ha hc hd)
              have hb2 := hid (fun (hb : b = false) => show ∀ p q, p < m.length → q < m.length → mlenAt m (k + 1) p q = mlen m p q by
                have hs : ∀ p q, p < m.length → q < m.length → mlenAt m (k + 1) p q = mlenAt m k p q := fun p q hp hq => by
                  have := hM.2 hb p q hp hq
                  unfold mixT at this
                  rwa [if_pos (.inl hp)] at this
                exact fun p q hp hq => (hs p q hp hq).trans (mlen_stop hv hs hp hq))
              clear hT hM
              go_wp2
              go_roundw
              case rel => exact ⟨k + 1, b, by go_num, rfl, hT2.out, hb1.out, hb2.out, hB, hbx⟩
              case measure => simp [intOf]; omega
end Go.Proofs.YtphpablchlpagaaDoor
namespace Go.Proofs.YtphpablchlpagaaDoor
open Go.RowKit Go.Shelf
/-- The pairs (p, d) with d below q that are never merged; those of all first states below p. -/
def apartRow (m : List (List Int)) (p q : Nat) : List (Nat × Nat) := ((List.range q).filter fun d => decide (p < d) && decide (mlen m p d < 0)).map fun d => (p, d)
def apartAll (m : List (List Int)) (p : Nat) : List (Nat × Nat) := (List.range p).flatMap fun a => apartRow m a m.length
/-- The pairs that no word merges. -/
def apartL (m : List (List Int)) : List (Nat × Nat) := apartAll m m.length
theorem apartRow_succ (m : List (List Int)) (p q : Nat) : apartRow m p (q + 1) = apartRow m p q ++ (if p < q ∧ mlen m p q < 0 then [(p, q)] else []) := by
  unfold apartRow
  rw [List.range_succ, List.filter_append, List.map_append]
  congr 1
  by_cases h : p < q ∧ mlen m p q < 0
  · rw [if_pos h]; simp [h.1, h.2]
  · rw [if_neg h]
    by_cases h1 : p < q
    · have h2 : ¬ mlen m p q < 0 := fun e => h ⟨h1, e⟩
      simp [h1, h2]
    · simp [h1]
theorem apartRow_start (m : List (List Int)) (p q : Nat) (h : q ≤ p + 1) : apartRow m p q = [] := by
  unfold apartRow
  rw [List.map_eq_nil_iff, List.filter_eq_nil_iff]
  intro d hd
  have := List.mem_range.1 hd
  have h2 : ¬ p < d := by omega
  simp [h2]
theorem apartAll_succ (m : List (List Int)) (p : Nat) : apartAll m (p + 1) = apartAll m p ++ apartRow m p m.length := by
  unfold apartAll
  rw [List.range_succ, List.flatMap_append]
  simp
theorem apartRow_len (m : List (List Int)) (p q : Nat) : (apartRow m p q).length ≤ q := by
  unfold apartRow
  rw [List.length_map]
  have := List.length_filter_le (fun d => decide (p < d) && decide (mlen m p d < 0)) (List.range q)
  simpa using this
theorem apartAll_len (m : List (List Int)) : ∀ p, (apartAll m p).length ≤ p * m.length
  | 0 => by simp [apartAll]
  | p + 1 => by
    have h1 := apartAll_len m p
    have h2 := apartRow_len m p m.length
    rw [apartAll_succ, List.length_append, Nat.succ_mul]
    omega
theorem apartL_mem {m : List (List Int)} {e : Nat × Nat} : e ∈ apartL m ↔ e.1 < e.2 ∧ e.2 < m.length ∧ mlen m e.1 e.2 < 0 := by
  unfold apartL apartAll apartRow
  simp only [List.mem_flatMap, List.mem_range, List.mem_map, List.mem_filter, Bool.and_eq_true, decide_eq_true_eq]
  constructor
  · rintro ⟨a, ha, d, ⟨hd, h1, h2⟩, rfl⟩
    exact ⟨h1, hd, h2⟩
  · rintro ⟨h1, h2, h3⟩
    exact ⟨e.1, by omega, e.2, ⟨h2, h1, h3⟩, rfl⟩
/-- No pairs, and an error. -/
theorem infoArr : (Tryd.prog.info? 74).map (fun i => (i.zero, i.size, i.bytes)) = some (some (.agg #[.int .i64 0, .int .i64 0]), 2, 16) := by kernel_rfl
set_option maxRecDepth 100000 in
set_option maxHeartbeats 1000000 in
theorem Apart_form (v : Value) (m : List (List Int)) (w : World) (h : Rows w v m) (hv : validM m = false) :
    Calls Tryd.prog 34 #[.agg #[v]] w (NoWord w 1) := by
  obtain ⟨A, cap, rfl, hml, -⟩ := id h
  have hX := bal (Below.refl _ w) (.cells #[.slice A m.length cap] 24)
  have Hx := hid hX
  go_enter Tryd.func34, Tryd.ntmps34
  go_wp2_with fail
  generalize w.alloc (.cells #[.slice A m.length cap] 24) = X at *
  clear hX
  have hX := Hx.out
  have hr := h.below hX
  refine (Valid_bool _ m false _ hr hv).mono ?_
  rintro e w1 ⟨rfl, h1⟩
  go_wp2
  go_ret2
  exact ⟨rfl, btr hX h1⟩
/-- A list of pairs of the call's own, and no error. -/
def PairsIs (w : World) (L : List (Nat × Nat)) (e : Ending) (w' : World) : Prop := ∃ r, e = .returned (.tuple #[r, .int .i64 0]) ∧ w'.ownsRow w.heap.size 74 2 r L.length (pairCells L) ∧ Below w.heap.size w w'
/-- Behind an append of a pair to a row of the call's own. -/
theorem pairs_pushed2 {w w2 wr w5 : World} {n : Nat} {v bx : Value} {t : TypeId} {xs : List Value} {o : Obj} (hB2 : Below w.heap.size w w2) (hB : Below w2.heap.size w2 wr) (hbx : wr.cell? ⟨w.heap.size, 0, none⟩ = some bx) (hO : wr.ownsRow w2.heap.size t 2 v n xs) (hgrow : (wr.alloc o).grownBy w5 v.ownBlock) (hlt2 : w.heap.size < w2.heap.size) :
    Below w2.heap.size w2 w5 ∧ w5.cell? ⟨w.heap.size, 0, none⟩ = some bx := by
  have hlt := fun k hk => (hO.lt k hk).1
  have k3 := World.block_lt_of_cell? _ _ hbx
  simp only at k3
  exact ⟨(bal hB o).grown hgrow (by have := hB.size; simp; omega) (fun k hk => by have := hlt k hk; omega),
    (World.cell?_of_block (a := ⟨w.heap.size, 0, none⟩) ((hgrow.block w.heap.size (by simp; omega) (fun e => by have := hlt _ e.symm; omega)).trans (Below.heap_alloc _ _ _ k3))).trans hbx⟩
set_option maxRecDepth 100000 in
set_option maxHeartbeats 4000000 in
theorem Apart_ok (v : Value) (m : List (List Int)) (w : World) (h : Rows w v m) (hv : validM m = true) :
    Calls Tryd.prog 34 #[.agg #[v]] w (PairsIs w (apartL m)) := by
  obtain ⟨i0, hi, hz0, hz1, hz2⟩ := info_parts infoArr
  obtain ⟨p1, p2, -⟩ := valid_parts hv
  obtain ⟨A, cap, rfl, hml, -⟩ := id h
  have hX := bal (Below.refl _ w) (.cells #[.slice A m.length cap] 24)
  have hbx := (Boxed.new w 24 (.slice A m.length cap)).cell
  have hXs : (w.alloc (.cells #[.slice A m.length cap] 24)).heap.size = w.heap.size + 1 := World.size_alloc _ _
  go_enter Tryd.func34, Tryd.ntmps34
  go_wp2_with fail
  generalize w.alloc (.cells #[.slice A m.length cap] 24) = X at *
  have hr := h.below hX
  refine (Valid_bool _ m true _ hr hv).mono ?_
  rintro e w1 ⟨rfl, h1⟩
  have e0 := (h1.cell (p := ⟨w.heap.size, 0, none⟩) (World.block_lt_of_cell? _ _ hbx)).trans hbx
  have hr1 := hr.below h1
  have HX := hid (btr hX h1)
  clear hbx hr hX h1
  go_wp2_with fail
  refine (mergers_any _ m _ hr1 hv).mono ?_
  rintro e w2 ⟨B, rfl, hL, h2⟩
  have e1 := (h2.cell (p := ⟨w.heap.size, 0, none⟩) (World.block_lt_of_cell? _ _ e0)).trans e0
  have hB2 := btr HX.out h2
  have Hask := hid (fun (p q : Nat) (w' : World) (hb : Below w2.heap.size w2 w') (hpq : p < q) (hq : q < m.length) => (hL.below hb).ask hv (Nat.le_of_lt hpq) hq)
  have HBB := hid hB2
  have hl2 := World.block_lt_of_cell? _ _ e1
  simp only at hl2
  clear e0 hr1 hL h2 HX hXs
  go_wp2_with fail
  go_loopw [4, 18] (fun lv pv wr => ∃ p : Nat, p ≤ m.length ∧ pv = .int .i64 (p : Nat) ∧ wr.ownsRow w2.heap.size 74 2 lv (apartAll m p).length (pairCells (apartAll m p)) ∧ Below w2.heap.size w2 wr ∧ wr.cell? ⟨w.heap.size, 0, none⟩ = some (.slice A m.length cap)) (fun _ pv _ => m.length - (intOf pv).toNat)
  case atStart => exact ⟨0, Nat.zero_le _, rfl, World.ownsRow_nil _ _ _ _, Below.refl _ _, e1⟩
  case round =>
    clear e1
    obtain ⟨p, hp, rfl, hO, hB, hbx⟩ := hrel
    have hmm60 : m.length * m.length ≤ 3600 := Nat.mul_le_mul (show m.length ≤ 60 by omega) (show m.length ≤ 60 by omega)
    by_cases hpl : p < m.length
    · have hps : (p : Int) < m.length := by omega
      have HO := hid hO
      clear hO
      have hlen := apartAll_len m p
      have hlen2 := Nat.mul_le_mul_right m.length (show p ≤ m.length by omega)
      obtain ⟨wo, rfl⟩ : ∃ wo : World, wo = wr := ⟨_, rfl⟩
      go_wp2_with fail
      go_loopw [4, 7] (fun lv qv wr => ∃ (q : Nat) (Lr : List (Nat × Nat)), p + 1 ≤ q ∧ q ≤ m.length ∧ qv = .int .i64 (q : Nat) ∧ Lr = apartAll m p ++ apartRow m p q ∧ wr.ownsRow w2.heap.size 74 2 lv Lr.length (pairCells Lr) ∧ Below w2.heap.size w2 wr ∧ wr.cell? ⟨w.heap.size, 0, none⟩ = some (.slice A m.length cap)) (fun _ qv _ => m.length - (intOf qv).toNat)
      case atStart => exact ⟨p + 1, apartAll m p, Nat.le_refl _, by omega, by go_num, by rw [apartRow_start m p (p + 1) (Nat.le_refl _), List.append_nil], HO.out, hB, hbx⟩
      case round =>
        clear HO hB hbx
        obtain ⟨q, Lr, hpq, hq, rfl, hLr, hO, hB, hbx⟩ := hrel
        by_cases hql : q < m.length
        · have hqs : (q : Int) < m.length := by omega
          have hask := Hask.out p q wr hB (by omega) hql
          have hrow := apartRow_succ m p q
          have hrl := apartRow_len m p q
          have hLl : Lr.length ≤ 7200 := by rw [hLr, List.length_append]; omega
          have hlb := hB.size
          by_cases hneg : 0 ≤ mlen m p q
          · rw [decide_eq_true hneg] at hask
            rw [if_neg (by omega), List.append_nil] at hrow
            have HLr := hid (show Lr = apartAll m p ++ apartRow m p (q + 1) from by rw [hrow]; exact hLr)
            have HO := hid hO
            clear hO hrow hLr hneg
            generalize len0 m p q = z at *
            go_wp2_with fail
            go_roundw
            case rel => exact ⟨q + 1, Lr, by omega, by omega, by go_num, HLr.out, HO.out, hB, hbx⟩
            case measure => simp [intOf]; omega
          · rw [decide_eq_false hneg] at hask
            rw [if_pos (by omega)] at hrow
            have HLr := hid (show Lr ++ [(p, q)] = apartAll m p ++ apartRow m p (q + 1) from by rw [hrow, hLr, List.append_assoc])
            have HO := hid (hO.alloc (.cells #[.int .i64 p, .int .i64 q] 74))
            have Hp := hid (fun (w5 : World) (o : Obj) (hgrow : (wr.alloc o).grownBy w5 u4.ownBlock) => pairs_pushed2 HBB.out hB hbx hO hgrow hl2)
            clear hO hrow hLr hneg
            generalize len0 m p q = z at *
            go_wp2_with (at_builtin; refine wpList_append_own_at _ rfl _ _ 49 rfl w2.heap.size 74 i0 (.agg #[.int .i64 0, .int .i64 0]) 2 16 Tryd.underlying49 hi hz0 hz1 hz2 rfl (by decide) _ _ _ rfl HO.out ⟨wr.heap.size, 0, none⟩ 1 1 [.int .i64 p, .int .i64 q] rfl rfl (pair_new _ _ _ _ _ rfl) (by simp [Value.oneCell']) (by unfold maxLen; omega) (by omega) (by simp; omega) ?_; intro v' w5 hown' hgrow' _ hat; have HP := hid (Hp.out w5 _ hgrow'); have HN := hid hown'; clear hown' hgrow' hat)
            go_roundw
            case rel =>
              obtain ⟨f1, f2⟩ := HP.out
              refine ⟨q + 1, Lr ++ [(p, q)], by omega, by omega, by go_num, HLr.out, ?_, f1, f2⟩
              rw [List.length_append, pairCells_snoc]
              exact HN.out
            case measure => simp [intOf]; omega
        · obtain rfl : q = m.length := by omega
          have hqs : ¬ ((m.length : Nat) : Int) < m.length := by omega
          have HO := hid (show wr.ownsRow w2.heap.size 74 2 u4 (apartAll m (p + 1)).length (pairCells (apartAll m (p + 1))) from by rw [apartAll_succ, ← hLr]; exact hO)
          clear hO hLr
          go_wp2_with fail
          go_roundw
          case rel => exact ⟨p + 1, by omega, by go_num, HO.out, hB, hbx⟩
          case measure => simp [intOf]; omega
    · obtain rfl : p = m.length := by omega
      have hps : ¬ ((m.length : Nat) : Int) < m.length := by omega
      have HO := hid hO
      have HF := hid (btr HBB.out hB)
      clear hO
      go_wp2_with fail
      go_ret2
      exact ⟨_, rfl, row_mono HO.out HBB.out.size, HF.out⟩
end Go.Proofs.YtphpablchlpagaaDoor
namespace Go.Proofs.YtphpablchlpagaaDoor
open Go.RowKit
/-- A world behind another one: memory has been added. -/
structure LaterW (y : World) where
  world : World
  below : Below y.heap.size y world
instance (y : World) : Nonempty (LaterW y) := ⟨⟨y, Below.refl _ _⟩⟩
end Go.Proofs.YtphpablchlpagaaDoor
namespace Go.Proofs.YtphpablchlpagaaDoor
open Go.RowKit Go.Shelf
set_option maxRecDepth 100000 in
set_option maxHeartbeats 4000000 in
theorem rApart_any (v : Value) (m : List (List Int)) (w : World) (h : Rows w v m) (hv : validM m = true) :
    Calls Tryd.prog 65 #[.agg #[v]] w fun e w' => ∃ r, e = .returned r ∧ w'.ownsRow w.heap.size 74 2 r (apartL m).length (pairCells (apartL m)) ∧ Below w.heap.size w w' := by
  obtain ⟨i0, hi, hz0, hz1, hz2⟩ := info_parts infoArr
  obtain ⟨p1, p2, -⟩ := valid_parts hv
  obtain ⟨A, cap, rfl, hml, -⟩ := id h
  have hX := bal (Below.refl _ w) (.cells #[.slice A m.length cap] 24)
  go_enter Tryd.func65, Tryd.ntmps65
  go_wp2_with fail
  generalize w.alloc (.cells #[.slice A m.length cap] 24) = X at *
  have hr := h.below hX
  refine (rTable_any _ m _ hr hv).mono ?_
  rintro e w2 ⟨V, B, rfl, hT, h2⟩
  obtain ⟨g, gc, rfl⟩ := ownsRow_pos' hT.outer p1
  have HBB := hid (btr hX h2)
  have HT := hid (fun (w' : World) (hb : Below w2.heap.size w2 w') => hT.below hb)
  clear hT h2 hX hr h
  go_wp2_with fail
  go_loopw [4, 5] (fun lv pv wr => ∃ p : Nat, p ≤ m.length ∧ pv = .int .i64 (p : Nat) ∧ wr.ownsRow w2.heap.size 74 2 lv (apartAll m p).length (pairCells (apartAll m p)) ∧ Below w2.heap.size w2 wr) (fun _ pv _ => m.length - (intOf pv).toNat)
  case atStart => exact ⟨0, Nat.zero_le _, rfl, World.ownsRow_nil _ _ _ _, Below.refl _ _⟩
  case round =>
    obtain ⟨p, hp, rfl, hO, hB⟩ := hrel
    have hmm60 : m.length * m.length ≤ 3600 := Nat.mul_le_mul (show m.length ≤ 60 by omega) (show m.length ≤ 60 by omega)
    by_cases hpl : p < m.length
    · have hps : (p : Int) < m.length := by omega
      have HO := hid hO
      clear hO
      have hlen := apartAll_len m p
      have hlen2 := Nat.mul_le_mul_right m.length (show p ≤ m.length by omega)
      obtain ⟨wo, rfl⟩ : ∃ wo : World, wo = wr := ⟨_, rfl⟩
      go_wp2_with fail
      go_loopw [4, 6] (fun lv qv wr => ∃ (q : Nat) (Lr : List (Nat × Nat)), p + 1 ≤ q ∧ q ≤ m.length ∧ qv = .int .i64 (q : Nat) ∧ Lr = apartAll m p ++ apartRow m p q ∧ wr.ownsRow w2.heap.size 74 2 lv Lr.length (pairCells Lr) ∧ Below w2.heap.size w2 wr) (fun _ qv _ => m.length - (intOf qv).toNat)
      case atStart => exact ⟨p + 1, apartAll m p, Nat.le_refl _, by omega, by go_num, by rw [apartRow_start m p (p + 1) (Nat.le_refl _), List.append_nil], HO.out, hB⟩
      case round =>
        clear HO hB
        obtain ⟨q, Lr, hpq, hq, rfl, hLr, hO, hB⟩ := hrel
        by_cases hql : q < m.length
        · have hqs : (q : Int) < m.length := by omega
          have hTr := HT.out _ hB
          have hc1 := hTr.cell hpl
          have hc2 := hTr.num hpl hql
          have hrow := apartRow_succ m p q
          have hrl := apartRow_len m p q
          have hLl : Lr.length ≤ 7200 := by rw [hLr, List.length_append]; omega
          have hlb := hB.size
          by_cases hneg : 0 ≤ mlen m p q
          · rw [if_neg (by omega), List.append_nil] at hrow
            have HLr := hid (show Lr = apartAll m p ++ apartRow m p (q + 1) from by rw [hrow]; exact hLr)
            have HO := hid hO
            have hn2 : ¬ mlen m p q < 0 := by omega
            clear hO hrow hLr hTr
            generalize mlen m p q = z at *
            go_wp2_with fail
            go_roundw
            case rel => exact ⟨q + 1, Lr, by omega, by omega, by go_num, HLr.out, HO.out, hB⟩
            case measure => simp [intOf]; omega
          · rw [if_pos (by omega)] at hrow
            have HLr := hid (show Lr ++ [(p, q)] = apartAll m p ++ apartRow m p (q + 1) from by rw [hrow, hLr, List.append_assoc])
            have HO := hid (hO.alloc (.cells #[.int .i64 p, .int .i64 q] 74))
            have Hp := hid (fun (w5 : World) (o : Obj) (hgrow : (wr.alloc o).grownBy w5 u4.ownBlock) => (bal hB o).grown hgrow (by have := hB.size; simp; omega) (fun k hk => (hO.lt k hk).1))
            have hn2 : mlen m p q < 0 := by omega
            clear hO hrow hLr hneg hTr
            generalize mlen m p q = z at *
            go_wp2_with (at_builtin; refine wpList_append_own_at _ rfl _ _ 49 rfl w2.heap.size 74 i0 (.agg #[.int .i64 0, .int .i64 0]) 2 16 Tryd.underlying49 hi hz0 hz1 hz2 rfl (by decide) _ _ _ rfl HO.out ⟨wr.heap.size, 0, none⟩ 1 1 [.int .i64 p, .int .i64 q] rfl rfl (pair_new _ _ _ _ _ rfl) (by simp [Value.oneCell']) (by unfold maxLen; omega) (by omega) (by simp; omega) ?_; intro v' w5 hown' hgrow' _ hat; have HP := hid (Hp.out w5 _ hgrow'); have HN := hid hown'; clear hown' hgrow' hat)
            go_roundw
            case rel =>
              refine ⟨q + 1, Lr ++ [(p, q)], by omega, by omega, by go_num, HLr.out, ?_, HP.out⟩
              rw [List.length_append, pairCells_snoc]
              exact HN.out
            case measure => simp [intOf]; omega
        · obtain rfl : q = m.length := by omega
          have hqs : ¬ ((m.length : Nat) : Int) < m.length := by omega
          have HO := hid (show wr.ownsRow w2.heap.size 74 2 u4 (apartAll m (p + 1)).length (pairCells (apartAll m (p + 1))) from by rw [apartAll_succ, ← hLr]; exact hO)
          clear hO hLr
          go_wp2_with fail
          go_roundw
          case rel => exact ⟨p + 1, by omega, by go_num, HO.out, hB⟩
          case measure => simp [intOf]; omega
    · obtain rfl : p = m.length := by omega
      have hps : ¬ ((m.length : Nat) : Int) < m.length := by omega
      have HO := hid hO
      have HF := hid (btr HBB.out hB)
      clear hO
      go_wp2_with fail
      go_ret
      exact ⟨_, rfl, row_mono HO.out HBB.out.size, HF.out⟩
end Go.Proofs.YtphpablchlpagaaDoor
namespace Go.Proofs.YtphpablchlpagaaDoor
open Go.RowKit Go.Shelf
theorem apartL_nil {m : List (List Int)} (hv : validM m = true) : apartL m = [] ↔ allMerge m := by
  constructor
  · intro h p q hpq hq
    rcases mlen_spec hv (p := p) (q := q) (by omega) hq with ⟨h1, _⟩ | ⟨j, _, _, h3⟩
    · have : (p, q) ∈ apartL m := apartL_mem.2 ⟨hpq, hq, by simp only; omega⟩
      rw [h] at this
      cases this
    · exact ⟨j, h3.1⟩
  · intro h
    rw [List.eq_nil_iff_forall_not_mem]
    intro e he
    obtain ⟨h1, h2, h3⟩ := apartL_mem.1 he
    obtain ⟨k, hk⟩ := h e.1 e.2 h1 h2
    obtain ⟨j, _, hd⟩ := mdist_some hk
    rw [mlen_of hv (by omega) h2 hd] at h3
    omega
open Classical in
theorem rHome_any (v : Value) (m : List (List Int)) (b : Bool) (w : World) (h : Rows w v m) (hv : validM m = true) (hb : decide (allMerge m) = b) :
    Calls Tryd.prog 39 #[.agg #[v]] w fun e w' => e = .returned (.bool b) ∧ Below w.heap.size w w' := by
  obtain ⟨A, cap, rfl, hml, -⟩ := id h
  have hX := bal (Below.refl _ w) (.cells #[.slice A m.length cap] 24)
  have hr := h.below hX
  have hbl : ((((apartL m).length : Nat) : Int) == 0) = b := by
    rw [← hb, Bool.eq_iff_iff]
    rw [decide_eq_true_iff, ← apartL_nil hv, beq_iff_eq, ← List.length_eq_zero_iff]
    omega
  have Hbl := hid hbl
  clear hbl hb
  go_enter Tryd.func39, Tryd.ntmps39
  go_wp2_with fail
  refine (rApart_any _ m _ hr hv).mono ?_
  rintro e w2 ⟨r, rfl, ho, h2⟩
  obtain ⟨rA, rc, rfl⟩ := ownsRow_slice ho
  have HB := hid (btr hX h2)
  clear ho h2 hr h
  generalize (apartL m).length = n at *
  go_wp2
  go_ret
  exact ⟨ret_bool Hbl.out, HB.out⟩
set_option maxHeartbeats 1000000 in
theorem rMost_any (n : Nat) (w : World) (hn : n ≤ 60) :
    Calls Tryd.prog 23 #[.int .i64 n] w fun e w' => e = .returned (.int .i64 (((n * n * n - n) / 6 : Nat) : Int)) ∧ w = w' := by
  have h2 : n * n ≤ 60 * 60 := Nat.mul_le_mul hn hn
  have h3 : n * n * n ≤ 60 * 60 * 60 := Nat.mul_le_mul h2 hn
  have h4 : n ≤ n * n * n := by
    rcases Nat.eq_zero_or_pos n with e | e
    · subst e; simp
    · have : 1 * n ≤ n * n * n := Nat.mul_le_mul_right n (Nat.mul_pos e e)
      omega
  have e2 : (n : Int) * n = ((n * n : Nat) : Int) := by push_cast; rfl
  have e3 : (n : Int) * n * n = ((n * n * n : Nat) : Int) := by push_cast; rfl
  have b2 : (n : Int) * n ≤ 3600 := by rw [e2]; omega
  have b2' : 0 ≤ (n : Int) * n := by rw [e2]; omega
  have b3 : (n : Int) * n * n ≤ 216000 := by rw [e3]; omega
  have b3' : 0 ≤ (n : Int) * n * n := by rw [e3]; omega
  have b4 : (n : Int) ≤ (n : Int) * n * n := by rw [e3]; omega
  have Hend := hid (show ((n : Int) * n * n - n) / 6 = (((n * n * n - n) / 6 : Nat) : Int) from by rw [e3]; omega)
  clear e2 e3
  go_enter Tryd.func23, Tryd.ntmps23
  go_wp2
  go_ret
  exact ⟨ret_int Hend.out, rfl⟩
theorem ofList_all {n : Nat} (hn : n ≤ 64) : ofList (allM n) = 2 ^ n - 1 := by
  have hp : (2 : Nat) ^ n ≤ 2 ^ 64 := Nat.pow_le_pow_right (by decide) hn
  have h0 := Nat.two_pow_pos n
  have hm : ∀ x ∈ allM n, 0 ≤ x ∧ x < n := fun x hx => by
    unfold allM pick at hx
    simp at hx
    obtain ⟨a, ha, rfl⟩ := hx
    omega
  refine eq_of_elems _ _ (Nat.lt_of_lt_of_le (ofList_lt n hn _ hm) hp) (by omega) fun i _ => ?_
  rw [testBit_below, allM, pick_testBit]
  simp
theorem image_len {m : List (List Int)} (hm : m.length ≤ 64) (u : List Int) : (imageM m (allM m.length) u).length = (elems (imgWord m (2 ^ m.length - 1) u)).length := by
  rw [imageM, ofList_all hm, intsOf, List.length_map]
theorem resetW_word {m : List (List Int)} (hv : validM m = true) (hall : allMerge m) : isWordM m (resetW m) = true := by
  obtain ⟨p1, p2, -⟩ := valid_parts hv
  obtain ⟨c1, -, c3⟩ := resetW_ok hv hall
  have hcube : m.length * m.length * m.length ≤ 60 * 60 * 60 := Nat.mul_le_mul (Nat.mul_le_mul p2 p2) p2
  unfold isWordM
  rw [c1, Bool.and_true]
  exact decide_eq_true (by omega)
end Go.Proofs.YtphpablchlpagaaDoor
namespace Go.Proofs.YtphpablchlpagaaDoor
open Go.RowKit Go.Shelf
def Lb (n : Nat) (f : Nat → Bool) : List Bool := (List.range n).map f
theorem Lb_len (n : Nat) (f : Nat → Bool) : (Lb n f).length = n := by simp [Lb]
theorem Lb_congr {n : Nat} {f g : Nat → Bool} (h : ∀ i, i < n → f i = g i) : Lb n f = Lb n g := List.map_congr_left fun i hi => h i (List.mem_range.1 hi)
theorem Lb_set {n : Nat} (f : Nat → Bool) (s : Nat) (v : Bool) : (Lb n f).set s v = Lb n (fun i => if i = s then v else f i) := by
  apply List.ext_getElem
  · simp [Lb]
  · intro i h1 h2
    rw [List.getElem_set]
    by_cases e : s = i
    · subst e; simp [Lb]
    · rw [if_neg e]; simp [Lb, Ne.symm e]
theorem Lb_cell {n : Nat} (f : Nat → Bool) {i : Nat} (hi : i < n) : ((Lb n f).map fun x => Value.bool x)[i]? = some (.bool (f i)) := by
  simp [Lb, List.getElem?_map, List.getElem?_range hi]
section
variable {W W' : World} {n₀ g n k : Nat} {B : Nat → Nat} {f : Nat → Nat → Bool}
end
end Go.Proofs.YtphpablchlpagaaDoor
namespace Go.Proofs.YtphpablchlpagaaDoor
open Go.RowKit Go.Shelf
/-- A list that came in or was made: if it is nil it has no room. -/
def Room (w : World) (v : Value) (l : List Int) : Prop := ∃ A c, v = .slice A l.length c ∧ (A = none → c = 0) ∧ Ints w v l
theorem Room.below {w w' : World} {v : Value} {l : List Int} (h : Room w v l) (hb : Below w.heap.size w w') : Room w' v l := by
  obtain ⟨A, c, h1, h2, h3⟩ := h
  exact ⟨A, c, h1, h2, h3.below hb⟩
/-- The lists of a list that lies in block g. -/
def LRows (w : World) (g n : Nat) (vs : Nat → Value) (ls : List (List Int)) : Prop := ls.length = n ∧ ∀ i, i < n → w.cell? ⟨g, i, none⟩ = some (vs i) ∧ Room w (vs i) (ls.getD i [])
end Go.Proofs.YtphpablchlpagaaDoor
namespace Go.Proofs.YtphpablchlpagaaDoor
open Go.RowKit Go.Shelf
/-- Steps in memory. -/
def StepsAtS (w : World) (v : Value) (B : Steps) : Prop :=
  ∃ A cap, v = .slice A B.length cap ∧ B.length ≤ 100000 ∧ ∀ i, i < B.length → ∃ b off, A = some ⟨b, off, none⟩ ∧ w.cell? ⟨b, off + i * 3, none⟩ = some (.int .u64 (plB B i)) ∧ w.cell? ⟨b, off + i * 3 + 1, none⟩ = some (.int .i64 (frB B i)) ∧ w.cell? ⟨b, off + i * 3 + 2, none⟩ = some (.int .i64 (leB B i))
set_option maxRecDepth 100000 in
set_option maxHeartbeats 1000000 in
theorem spell_anyS (v : Value) (B : Steps) (i : Nat) (w : World) (h : StepsAtS w v B) (hB : TreeB B) (hi : i < B.length) :
    Calls Tryd.prog 82 #[v, .int .i64 i] w fun e w' => ∃ r, e = .returned r ∧ w'.ownsRow w.heap.size 3 1 r (wordB B i).length ((wordB B i).map fun x => .int .i64 x) ∧ Below w.heap.size w w' := by
  obtain ⟨j0, hj, hy0, hy1, hy2⟩ := info_parts infoInt
  obtain ⟨A, cap, rfl, hl, hc⟩ := h
  have Hc := hid hc
  have HB := hid hB
  have hwl := wordB_len hB i hi
  obtain ⟨N, hN⟩ : ∃ N, (wordB B i).length = N := ⟨_, rfl⟩
  have HN := hid hN
  have hNb : N ≤ 100000 := by omega
  clear hc hB hN hwl
  go_enter Tryd.func82, Tryd.ntmps82
  go_wp2
  go_loop [5, 6] (fun l j => ∃ (L jj : Nat), l = .int .i64 L ∧ j = .int .i64 jj ∧ jj < B.length ∧ L + (wordB B jj).length = N) (fun _ j => (intOf j).toNat)
  case atStart => exact ⟨0, i, rfl, rfl, hi, by rw [HN.out]; omega⟩
  case round =>
    obtain ⟨L, jj, rfl, rfl, hjj, hL⟩ := hrel
    obtain ⟨b, off, hA, k1, k2, k3⟩ := Hc.out jj hjj
    subst hA
    have hjs : (jj : Int) < B.length := by omega
    have hLb : L ≤ 100000 := by omega
    by_cases h0 : jj = 0
    · subst h0
      have hL0 : L = N := by rw [wordB_root HB.out] at hL; simpa using hL
      subst hL0
      have hfr := HB.out.2.1
      rw [hfr] at k2
      clear hL hfr
      go_wp2_with (at_make; refine wpList_make_full _ rfl _ _ 34 rfl w.heap.size 3 j0 (.int .i64 0) 1 Tryd.underlying34 hj hy0 hy1 .i64 .i64 _ _ L rfl rfl rfl rfl (by rw [hy2]; omega) (by unfold maxLen; omega) (Nat.le_refl _) ?_; intro w1 hown hgrow)
      have hB1 : Below w.heap.size w w1 := (Below.refl _ _).grown hgrow (Nat.le_refl _) (fun q hq => by cases hq)
      rw [show Value.cells (.int .i64 0) = #[.int .i64 0] from rfl, toList_madeCells_one, Nat.mul_one] at hown
      have hh0 : List.replicate L (Value.int .i64 0) = halfRow (wordB B i) L := by
        unfold halfRow
        rw [List.drop_of_length_le (by rw [HN.out]; exact Nat.le_refl _)]; simp
      rw [hh0] at hown
      clear k1 k2 k3 hh0
      go_loopw [1, 5] (fun x y wr => ∃ (j l : Nat), x = .int .i64 j ∧ y = .int .i64 l ∧ j < B.length ∧ l = (wordB B j).length ∧ l ≤ L ∧ (wordB B i).take l = wordB B j ∧ wr.ownsRow w.heap.size 3 1 (.slice (some ⟨w.heap.size, 0, none⟩) L L) L (halfRow (wordB B i) l) ∧ Below w.heap.size w wr) (fun _ y _ => (intOf y).toNat)
      case atStart => exact ⟨i, L, rfl, rfl, hi, HN.out.symm, Nat.le_refl _, by rw [List.take_of_length_le (by rw [HN.out]; exact Nat.le_refl _)], hown, hB1⟩
      case round =>
        obtain ⟨j, l, rfl, rfl, hj', hl', hlL, htk, hO, hBr⟩ := hrel
        by_cases hl0 : l = 0
        · subst hl0
          have hO' : wr.ownsRow w.heap.size 3 1 (.slice (some ⟨w.heap.size, 0, none⟩) L L) (wordB B i).length ((wordB B i).map fun x => .int .i64 x) := by
            rw [HN.out]; simpa [halfRow] using hO
          have HO := hid hO'
          clear hO hO' hl' htk
          go_wp2
          go_ret
          exact ⟨_, rfl, HO.out, hBr⟩
        · have hj0 : 0 < j := by
            rcases Nat.eq_zero_or_pos j with e | e
            · subst e; rw [wordB_root HB.out] at hl'; simp at hl'; omega
            · exact e
          obtain ⟨l2, rfl⟩ : ∃ l2, l = l2 + 1 := ⟨l - 1, by omega⟩
          obtain ⟨h1, h2⟩ := HB.out.2.2 j hj0 hj'
          have hst := wordB_step HB.out hj0 hj'
          rw [hst] at hl' htk
          have hl2 : l2 = (wordB B (frB B j).toNat).length := by simp at hl'; omega
          have hiN : (wordB B i).length = L := HN.out
          have htk2 : (wordB B i).take l2 = wordB B (frB B j).toNat := by
            have := congrArg (List.take l2) htk
            rw [List.take_take, Nat.min_eq_left (by omega), List.take_append_of_le_length (by omega)] at this
            rw [this, hl2, List.take_length]
          have hle : (wordB B i).getD l2 0 = leB B j := by
            have := congrArg (fun l => l.getD l2 0) htk
            simp only [List.getD_eq_getElem?_getD, List.getElem?_take, if_pos (Nat.lt_succ_self l2)] at this
            rw [List.getD_eq_getElem?_getD, this, hl2]
            simp
          have hset := halfRow_set (wordB B i) l2 (leB B j) (by omega) hle
          obtain ⟨b', off', hA', k1, k2, k3⟩ := Hc.out j hj'
          cases hA'
          have hblk : b < w.heap.size := World.block_lt_of_cell? _ _ k1
          have m2 := (hBr.cell (p := ⟨b, off + j * 3 + 1, none⟩) hblk).trans k2
          have m3 := (hBr.cell (p := ⟨b, off + j * 3 + 2, none⟩) hblk).trans k3
          have hcA := hO.cellAt l2 (by omega)
          have hx2 : (halfRow (wordB B i) (l2 + 1))[l2]? = some (.int .i64 0) := by
            unfold halfRow
            rw [List.getElem?_append_left (by simp)]
            simp
          rw [hx2] at hcA
          have hfA := hO.frozenAt l2
          have hjs' : (j : Int) < B.length := by omega
          have hll : (l2 : Int) < L := by omega
          have HO := hid ((hO.stored l2 (.int .i64 (leB B j))).1)
          rw [hset] at HO
          have Hl2 := hid hl2
          have Htk := hid htk2
          have HBs := hid (hBr.setCell (p := ⟨w.heap.size, l2, none⟩) (Nat.le_refl _) (.int .i64 (leB B j)))
          clear hO hl' htk hst hl2 htk2 hle hset k1 k2 k3 hx2 hiN
          generalize frB B j = fr at *
          obtain ⟨fn, rfl⟩ := Int.eq_ofNat_of_zero_le h1
          rw [Int.toNat_natCast] at Hl2 Htk
          have hw1 : w.heap.size < wr.heap.size := World.block_lt_of_cell? _ _ hcA
          have hne : b ≠ w.heap.size := by omega
          have m2' : ∀ u, (wr.setCell ⟨w.heap.size, l2, none⟩ u).cell? ⟨b, off + j * 3 + 1, none⟩ = some (.int .i64 (fn : Int)) := fun u => (World.cell?_of_block (w := wr) (Below.heap_setCell _ _ _ _ (by simpa using hne))).trans m2
          have n2 := m2' (.int .i64 (leB B j))
          clear m2'
          go_wp2
          go_roundw
          case rel => exact ⟨fn, l2, rfl, rfl, by omega, Hl2.out, by omega, Htk.out, HO.out, HBs.out⟩
          case measure => simp [intOf]
    · obtain ⟨h1, h2⟩ := HB.out.2.2 jj (by omega) hjj
      have hst := wordB_step HB.out (by omega) hjj
      have hlen : L + 1 + (wordB B (frB B jj).toNat).length = N := by
        rw [hst, List.length_append] at hL
        simp at hL; omega
      have Hl := hid hlen
      clear hst hL hlen
      generalize frB B jj = fr at *
      obtain ⟨fn, rfl⟩ := Int.eq_ofNat_of_zero_le h1
      rw [Int.toNat_natCast] at Hl
      go_wp2
      go_round
      case rel => exact ⟨L + 1, fn, by go_num, rfl, by omega, Hl.out⟩
      case measure => simp [intOf]; omega
end Go.Proofs.YtphpablchlpagaaDoor
namespace Go.Proofs.YtphpablchlpagaaDoor
open Go.RowKit Go.Shelf Go.Maps Go.WideAt
theorem keyIntS : Keyed Tryd.prog 61 := int_keyed Tryd.underlying61
/-- A map from numbers to bools that reads as a set. -/
def SeenMapS (w : World) (bm n : Nat) (S : Nat → Bool) : Prop :=
  ∃ D : DataW Unit, w.ownsMap Tryd.prog 61 (plainElem Tryd.prog 4) bm n D ∧ IsMap D ∧ ∀ p : Nat, D.atKey (.int .u64 p) (.lit (.bool false)) = .lit (.bool (S p))
theorem SeenMapS.made (w : World) : SeenMapS (w.alloc (.map #[] 0)) w.heap.size 0 (fun _ => false) :=
  ⟨.map [], World.ownsMap_made w _ _ _, ⟨[], rfl⟩, fun p => rfl⟩
theorem SeenMapS.look {w : World} {bm n : Nat} {S : Nat → Bool} (h : SeenMapS w bm n S) (p : Nat) (hp : p < 1000000) : (Instr.lookup 86 (.map (some bm)) (.int .u64 p) false).run Tryd.prog w = .ok (.bool (S p)) w := by
  obtain ⟨D, hD, _, hS⟩ := h
  obtain ⟨v, ps, hrun, hv⟩ := hD.lookup keyIntS Tryd.underlying86 (zeroB w) (plainB false) (keyOf_int_mk Tryd.underlying61 (WalkArith.wf_u64 (by omega : 0 ≤ (p : Int) ∧ (p : Int) ≤ 18446744073709551615)))
  rw [hS p] at hv
  obtain ⟨b, rfl, hb⟩ := plainB_inv hv
  rw [hrun]
  simp only [DataW.lit.injEq, Lit.bool.injEq] at hb
  rw [hb]
theorem SeenMapS.put {w : World} {bm n : Nat} {S : Nat → Bool} (h : SeenMapS w bm n S) (hn : n < 1000000) (p : Nat) (hp : p < 1000000) : ∃ w', (Instr.mapUpdate 86 (.map (some bm)) (.int .u64 p) (.bool true)).run Tryd.prog w = .ok () w' ∧ SeenMapS w' bm (n + 1) (fun q => decide (q = p) || S q) ∧ w.grownBy w' (some bm) := by
  obtain ⟨D, hD, hM, hS⟩ := h
  obtain ⟨w', hrun, h1, h2⟩ := hD.update keyIntS Tryd.underlying86 (by unfold maxLen; omega) (keyOf_int_mk Tryd.underlying61 (WalkArith.wf_u64 (by omega : 0 ≤ (p : Int) ∧ (p : Int) ≤ 18446744073709551615))) (plainB true)
  refine ⟨w', hrun, ⟨_, h1, ?_, fun q => ?_⟩, h2⟩
  · obtain ⟨es, rfl⟩ := hM; exact ⟨_, rfl⟩
  · by_cases e : q = p
    · subst e
      rw [atKey_put_same hM (by trivial)]; simp
    · rw [atKey_put_other (by simp; omega), hS q]; simp [e]
theorem SeenMapS.kept {w w' : World} {bm n : Nat} {S : Nat → Bool} (h : SeenMapS w bm n S) (hk : w'.heap[bm]? = w.heap[bm]?) : SeenMapS w' bm n S := by
  obtain ⟨D, ⟨es, clock, hb, F, hs, hD⟩, hM, hS⟩ := h
  exact ⟨D, ⟨es, clock, hk.trans hb, F, hs, hD⟩, hM, hS⟩
theorem SeenMapS.lt {w : World} {bm n : Nat} {S : Nat → Bool} (h : SeenMapS w bm n S) : bm < w.heap.size := by
  obtain ⟨D, hD, _⟩ := h; exact hD.lt
end Go.Proofs.YtphpablchlpagaaDoor
namespace Go.Proofs.YtphpablchlpagaaDoor
open Go.RowKit Go.Shelf
/-- The cells of steps. -/
def flatBS (B : Steps) : List Value := B.flatMap fun t => [.int .u64 t.1, .int .i64 t.2.1, .int .i64 t.2.2]
theorem flatBS_snoc (B : Steps) (t : Int × Int × Int) : flatBS (B ++ [t]) = flatBS B ++ [.int .u64 t.1, .int .i64 t.2.1, .int .i64 t.2.2] := by simp [flatBS]
theorem flatBS_get : ∀ (B : Steps) (i : Nat), i < B.length → (flatBS B)[i * 3]? = some (.int .u64 (plB B i)) ∧ (flatBS B)[i * 3 + 1]? = some (.int .i64 (frB B i)) ∧ (flatBS B)[i * 3 + 2]? = some (.int .i64 (leB B i))
  | [], i, h => by simp at h
  | t :: B, 0, _ => by refine ⟨?_, ?_, ?_⟩ <;> rfl
  | t :: B, i + 1, h => by
    have ih := flatBS_get B i (by simpa using h)
    have e1 : (i + 1) * 3 = i * 3 + 3 := by omega
    have key : ∀ k, (flatBS (t :: B))[k + 3]? = (flatBS B)[k]? := fun k => by simp [flatBS]
    rw [e1]
    refine ⟨?_, ?_, ?_⟩
    · rw [key]; exact ih.1
    · rw [show i * 3 + 3 + 1 = i * 3 + 1 + 3 by omega, key]; exact ih.2.1
    · rw [show i * 3 + 3 + 2 = i * 3 + 2 + 3 by omega, key]; exact ih.2.2
theorem steps_of_ownS {W : World} {base : Nat} {e : TypeId} {g cap : Nat} {B : Steps} (h : W.ownsRow base e 3 (.slice (some ⟨g, 0, none⟩) B.length cap) B.length (flatBS B)) (hl : B.length ≤ 100000) : StepsAtS W (.slice (some ⟨g, 0, none⟩) B.length cap) B := by
  refine ⟨_, cap, rfl, hl, fun i hi => ⟨g, 0, rfl, ?_⟩⟩
  obtain ⟨h1, h2, h3⟩ := flatBS_get B i hi
  refine ⟨?_, ?_, ?_⟩
  · rw [Nat.zero_add, h.cellAt _ (by omega)]; exact h1
  · rw [Nat.zero_add, h.cellAt _ (by omega)]; exact h2
  · rw [Nat.zero_add, h.cellAt _ (by omega)]; exact h3
end Go.Proofs.YtphpablchlpagaaDoor
namespace Go.Proofs.YtphpablchlpagaaDoor
open Go.RowKit Go.Shelf
theorem infoStepS : (Tryd.prog.info? 103).map (fun i => (i.zero, i.size, i.bytes)) = some (some (.agg #[.int .u64 0, .int .i64 0, .int .i64 0]), 3, 24) := by kernel_rfl
/-- What holds of a word's function when its round begins. -/
def WordGS (F : Steps) (X : Blocks) (x : Nat × Value) (W : World) : Prop :=
  ∃ b6 b7 g cap B base, x.2 = .func (.func 81) #[] #[.pointer (some ⟨b6, 0, none⟩), .pointer (some ⟨b7, 0, none⟩)] ∧ X b6 ∧ X b7 ∧ X g ∧
    Boxed W b6 104 (.slice (some ⟨g, 0, none⟩) B.length cap) ∧ Boxed W b7 3 (.int .i64 x.1) ∧
    W.ownsRow base 103 3 (.slice (some ⟨g, 0, none⟩) B.length cap) B.length (flatBS B) ∧ TreeB B ∧ x.1 < B.length ∧ B.length ≤ 5000 ∧ wordB B x.1 = wordB F x.1
theorem WordGS.keep {F : Steps} {X : Blocks} {x : Nat × Value} {n₀ : Nat} {W W' : World} (h : WordGS F X x W) (k : Keep n₀ X W W') : WordGS F X x W' := by
  obtain ⟨b6, b7, g, cap, B, base, h1, h2, h3, h4, h5, h6, h7, h8⟩ := h
  exact ⟨b6, b7, g, cap, B, base, h1, h2, h3, h4, (k.block b6 h5.lt (.inr h2)).trans h5, (k.block b7 h6.lt (.inr h3)).trans h6, owns_block h7 (k.block g (own_lt h7).2 (.inr h4)), h8⟩
set_option maxRecDepth 100000 in
set_option maxHeartbeats 1000000 in
theorem word_anyS (F : Steps) (X : Blocks) (i : Nat) (b6 b7 : Nat) (W : World) (h : WordGS F X (i, .func (.func 81) #[] #[.pointer (some ⟨b6, 0, none⟩), .pointer (some ⟨b7, 0, none⟩)]) W) :
    Calls Tryd.prog 81 #[.pointer (some ⟨b6, 0, none⟩), .pointer (some ⟨b7, 0, none⟩)] W fun e w' => ∃ r, e = .returned r ∧ w'.ownsRow W.heap.size 3 1 r (wordB F i).length ((wordB F i).map fun x => .int .i64 x) ∧ Below W.heap.size W w' := by
  obtain ⟨b6', b7', g, cap, B, base, h1, h2, h3, h4, h5, h6, h7, h8, h9, h10, h11⟩ := h
  simp only [Value.func.injEq, true_and] at h1
  obtain ⟨rfl, rfl⟩ : b6 = b6' ∧ b7 = b7' := by simpa using h1
  have c5 := h5.cell
  have c6 := h6.cell
  have hs := spell_anyS _ B i W (steps_of_ownS h7 (by omega)) h8 h9
  rw [h11] at hs
  have Hs := hid hs
  clear hs h1 h11 h7 h8
  go_enter Tryd.func81, Tryd.ntmps81
  go_wp2_with fail
  refine Hs.out.mono ?_
  rintro e w1 ⟨r, rfl, hr, hb⟩
  have Hr := hid hr
  clear hr
  go_wp2
  go_ret
  exact ⟨_, rfl, Hr.out, hb⟩
/-- The map and the steps of a search. -/
structure MemS (base : Nat) (X : Blocks) (bm b6 g cap : Nat) (B : Steps) (W : World) : Prop where
  map : SeenMapS W bm B.length (hasP B)
  row : W.ownsRow base 103 3 (.slice (some ⟨g, 0, none⟩) B.length cap) B.length (flatBS B)
  box : Boxed W b6 104 (.slice (some ⟨g, 0, none⟩) B.length cap)
  xm : X bm
  xg : X g
  x6 : X b6
  lm : base ≤ bm
  l6 : base ≤ b6
theorem MemS.keep {base : Nat} {X : Blocks} {bm b6 g cap : Nat} {B : Steps} {W W' : World} {n₀ : Nat} (h : MemS base X bm b6 g cap B W) (k : Keep n₀ X W W') : MemS base X bm b6 g cap B W' :=
  ⟨h.map.kept (k.block bm h.map.lt (.inr h.xm)), owns_block h.row (k.block g (own_lt h.row).2 (.inr h.xg)), (k.block b6 h.box.lt (.inr h.x6)).trans h.box, h.xm, h.xg, h.x6, h.lm, h.l6⟩
theorem MemS.below {base : Nat} {X : Blocks} {bm b6 g cap : Nat} {B : Steps} {W W' : World} (h : MemS base X bm b6 g cap B W) (k : Below W.heap.size W W') : MemS base X bm b6 g cap B W' := h.keep (Keep.of_below (n₀ := 0) k)
theorem MemS.drew {base : Nat} {X : Blocks} {bm b6 g cap : Nat} {B : Steps} {W : World} (h : MemS base X bm b6 g cap B W) : MemS base X bm b6 g cap B W.drew := h.below (below_dr W 1)
theorem SeenMapS.isMap {w : World} {bm n : Nat} {S : Nat → Bool} (h : SeenMapS w bm n S) : ∃ es c, w.heap[bm]? = some (.map es c) := by
  obtain ⟨D, ⟨es, clock, hb, _⟩, _⟩ := h
  exact ⟨es, clock, hb⟩
theorem MemS.apart {base : Nat} {X : Blocks} {bm b6 g cap : Nat} {B : Steps} {W : World} (h : MemS base X bm b6 g cap B W) : bm ≠ b6 ∧ bm ≠ g ∧ b6 ≠ g := by
  obtain ⟨es, c, hm⟩ := h.map.isMap
  refine ⟨fun e => ?_, fun e => ?_, fun e => ?_⟩
  · have h6 := h.box
    unfold Boxed at h6
    rw [← e, hm] at h6; cases h6
  · rcases h.row.2 with ⟨h', _⟩ | ⟨g', cap', cur, h', hB, hh, _⟩
    · cases h'
    · cases h'
      rw [← e, hm] at hh; cases hh
  · exact (h.box.not_row (by decide) h.row) (by rw [e]; rfl)
/-- A step more: the map first, then the row, then the variable. -/
theorem MemS.add {base : Nat} {X : Blocks} {bm b6 g cap g' cap' : Nat} {B : Steps} {p : Nat} {i x : Int} {W w3 w5 : World} {o : Obj} (h : MemS base X bm b6 g cap B W)
    (hm : SeenMapS w3 bm (B.length + 1) (fun q => decide (q = p) || hasP B q)) (hg3 : W.grownBy w3 (some bm))
    (hown : w5.ownsRow base 103 3 (.slice (some ⟨g', 0, none⟩) (B.length + 1) cap') (B.length + 1) (flatBS B ++ [.int .u64 p, .int .i64 i, .int .i64 x])) (hg5 : (w3.alloc o).grownBy w5 (some g)) (hat : g = g' ∨ g' = (w3.alloc o).heap.size) :
    MemS base (fun k => X k ∨ (W.heap.size ≤ k ∧ k < w5.heap.size)) bm b6 g' cap' (B ++ [((p : Int), i, x)]) (w5.setCell ⟨b6, 0, none⟩ (.slice (some ⟨g', 0, none⟩) (B.length + 1) cap')) ∧
      Turn (fun k => X k ∧ base ≤ k) W (w5.setCell ⟨b6, 0, none⟩ (.slice (some ⟨g', 0, none⟩) (B.length + 1) cap')) ∧ w5.heap.size = (w5.setCell ⟨b6, 0, none⟩ (.slice (some ⟨g', 0, none⟩) (B.length + 1) cap')).heap.size := by
  obtain ⟨a1, a2, a3⟩ := h.apart
  have s3 := hg3.size
  have s5 := hg5.size
  have hgl := own_lt h.row
  have hbl := h.box.lt
  have hml := h.map.lt
  have hs : (w3.alloc o).heap.size = w3.heap.size + 1 := by simp
  have hal : ∀ k, k < w3.heap.size → (w3.alloc o).heap[k]? = w3.heap[k]? := fun k hk => Below.heap_alloc w3 o k hk
  have hg'l := own_lt hown
  have hg'6 : g' ≠ b6 := by rcases hat with e | e <;> omega
  have box3 : Boxed w3 b6 104 (.slice (some ⟨g, 0, none⟩) B.length cap) := (hg3.block b6 hbl (by simpa using fun e => a1 e.symm)).trans h.box
  have box5 : Boxed w5 b6 104 (.slice (some ⟨g, 0, none⟩) B.length cap) := ((hg5.block b6 (by omega) (by simpa using a3)).trans (hal b6 (by omega))).trans box3
  have hoth : ∀ k, k ≠ b6 → (w5.setCell ⟨b6, 0, none⟩ (.slice (some ⟨g', 0, none⟩) (B.length + 1) cap')).heap[k]? = w5.heap[k]? := fun k hk => Below.heap_setCell _ _ _ _ (by simpa using hk)
  have hfun : (fun q => decide (q = p) || hasP B q) = hasP (B ++ [((p : Int), i, x)]) := by
    funext q
    rw [hasP_snoc, Bool.or_comm]
    congr 1
    by_cases e : q = p
    · subst e; simp
    · have : ((p : Int) == (q : Int)) = false := by simp; omega
      rw [this]; simp [e]
  rw [hfun] at hm
  refine ⟨⟨?_, ?_, ?_, .inl h.xm, ?_, .inl h.x6, h.lm, h.l6⟩, ⟨?_, ?_, ?_, ?_, fun k hk hX => ?_⟩, by simp [World.setCell]⟩
  · rw [List.length_append]
    exact hm.kept ((hoth bm a1).trans ((hg5.block bm (by omega) (by simpa using a2)).trans (hal bm (by omega))))
  · rw [List.length_append, flatBS_snoc]
    exact owns_block hown (hoth g' hg'6)
  · rw [List.length_append]
    exact box5.set _
  · rcases hat with e | e
    · rw [← e]; exact .inl h.xg
    · exact .inr ⟨by omega, hg'l.2⟩
  · exact hg5.os.trans hg3.os
  · exact hg5.tape.trans hg3.tape
  · exact hg5.output.trans hg3.output
  · simp [World.setCell]; omega
  · have k1 : k ≠ b6 := fun e => hX (e ▸ ⟨h.x6, h.l6⟩)
    have k2 : k ≠ bm := fun e => hX (e ▸ ⟨h.xm, h.lm⟩)
    have k3 : k ≠ g := fun e => hX (e ▸ ⟨h.xg, hgl.1⟩)
    rw [hoth k k1, hg5.block k (by omega) (by simpa using k3), hal k (by omega), hg3.block k hk (by simpa using k2)]
/-- Where a search stands. -/
structure SWS (J : Blocks → List (Nat × Value) → World → Prop) (n₀ : Nat) (X0 : Blocks) (W : World) (bm b6 b7 i : Nat) (B : Steps) (pre : List (Nat × Value)) (X : Blocks) (g cap : Nat) (wr : World) : Prop where
  mem : MemS W.heap.size X bm b6 g cap B wr
  ibox : Boxed wr b7 3 (.int .i64 i)
  x7 : X b7
  l7 : W.heap.size ≤ b7
  j : J X pre wr
  xlt : ∀ k, X k → k < wr.heap.size
  x0 : ∀ k, X0 k → X k
  kept : Keep n₀ X0 W wr
section
variable {J : Blocks → List (Nat × Value) → World → Prop} {n₀ : Nat} {X0 : Blocks} {W : World} {bm b6 b7 i : Nat} {B : Steps} {pre : List (Nat × Value)} {X : Blocks} {g cap : Nat} {wr : World}
theorem SWS.below (h : SWS J n₀ X0 W bm b6 b7 i B pre X g cap wr) (hJ : Minds J) {w' : World} (k : Below wr.heap.size wr w') : SWS J n₀ X0 W bm b6 b7 i B pre X g cap w' :=
  ⟨h.mem.below k, (k.block b7 h.ibox.lt).trans h.ibox, h.x7, h.l7, hJ X X _ _ _ h.j (Turn.of_below k) (fun _ h => .inl h), fun a ha => Nat.lt_of_lt_of_le (h.xlt a ha) k.size, h.x0, h.kept.trans (Keep.of_below k)⟩
theorem SWS.drew (h : SWS J n₀ X0 W bm b6 b7 i B pre X g cap wr) (hJ : Minds J) : SWS J n₀ X0 W bm b6 b7 i B pre X g cap wr.drew := h.below hJ (below_dr wr 1)
theorem SWS.round (h : SWS J n₀ X0 W bm b6 b7 i B pre X g cap wr) {pre' : List (Nat × Value)} {w' : World} (hj : J X pre' w') (k : Keep n₀ X wr w') : SWS J n₀ X0 W bm b6 b7 i B pre' X g cap w' :=
  ⟨h.mem.keep k, (k.block b7 h.ibox.lt (.inr h.x7)).trans h.ibox, h.x7, h.l7, hj, fun a ha => Nat.lt_of_lt_of_le (h.xlt a ha) k.size, h.x0, h.kept.trans (k.mono h.x0)⟩
theorem SWS.add (h : SWS J n₀ X0 W bm b6 b7 i B pre X g cap wr) (hJ : Minds J) (hn : n₀ ≤ W.heap.size) (h0 : ∀ k, X0 k → k < W.heap.size) {g' cap' p : Nat} {x : Int} {w3 w5 : World} {o : Obj}
    (hm : SeenMapS w3 bm (B.length + 1) (fun q => decide (q = p) || hasP B q)) (hg3 : wr.grownBy w3 (some bm))
    (hown : w5.ownsRow W.heap.size 103 3 (.slice (some ⟨g', 0, none⟩) (B.length + 1) cap') (B.length + 1) (flatBS B ++ [.int .u64 p, .int .i64 i, .int .i64 x])) (hg5 : (w3.alloc o).grownBy w5 (some g)) (hat : g = g' ∨ g' = (w3.alloc o).heap.size) :
    ∃ X', SWS J n₀ X0 W bm b6 b7 i (B ++ [((p : Int), (i : Int), x)]) pre X' g' cap' (w5.setCell ⟨b6, 0, none⟩ (.slice (some ⟨g', 0, none⟩) (B.length + 1) cap')) := by
  obtain ⟨m1, m2, m3⟩ := h.mem.add (i := (i : Int)) (x := x) hm hg3 hown hg5 hat
  have s3 := hg3.size
  have s5 := hg5.size
  have hs : (w3.alloc o).heap.size = w3.heap.size + 1 := by simp
  have h7l := h.ibox.lt
  obtain ⟨es, c, hmap⟩ := h.mem.map.isMap
  have k1 : b7 ≠ b6 := fun e => by
    have h6 := h.mem.box
    have h7 := h.ibox
    unfold Boxed at h6 h7
    rw [e, h6] at h7; cases h7
  have k2 : b7 ≠ bm := fun e => by
    have h7 := h.ibox
    unfold Boxed at h7
    rw [e, hmap] at h7; cases h7
  have k3 : some b7 ≠ (Value.slice (some ⟨g, 0, none⟩) B.length cap).ownBlock := h.ibox.not_row (by decide) h.mem.row
  refine ⟨_, ⟨m1, ?_, .inl h.x7, h.l7, hJ _ _ _ _ _ h.j (m2.mono fun k hk => hk.1) (fun k hk => hk.imp id (fun h => h.1)), fun k hk => ?_, fun k hk => .inl (h.x0 k hk), h.kept.trans (Keep.of_turn m2 hn h0)⟩⟩
  · have e1 : (w5.setCell ⟨b6, 0, none⟩ (.slice (some ⟨g', 0, none⟩) (B.length + 1) cap')).heap[b7]? = w5.heap[b7]? := Below.heap_setCell _ _ _ _ (by simpa using k1)
    exact e1.trans ((hg5.block b7 (by omega) k3).trans ((Below.heap_alloc w3 o b7 (by omega)).trans ((hg3.block b7 h7l (by simpa using k2)).trans h.ibox)))
  · rcases hk with hk | hk
    · have := h.xlt k hk; omega
    · omega
/-- The next round has a variable of its own. -/
theorem SWS.next (h : SWS J n₀ X0 W bm b6 b7 i B pre X g cap wr) (hJ : Minds J) {i' : Nat} : ∃ X', SWS J n₀ X0 W bm b6 wr.heap.size i' B pre X' g cap (wr.alloc (.cells #[.int .i64 i'] 3)) := by
  have hb : Below wr.heap.size wr (wr.alloc (.cells #[.int .i64 i'] 3)) := bal (Below.refl _ wr) _
  obtain ⟨a1, a2, a3, a4, a5, a6, a7, a8⟩ := h.mem.below hb
  have hW := h.kept.size
  exact ⟨fun k => X k ∨ k = wr.heap.size, ⟨⟨a1, a2, a3, .inl a4, .inl a5, .inl a6, a7, a8⟩, Boxed.new wr _ _, .inr rfl, hW, hJ _ _ _ _ _ h.j (Turn.of_below hb) (fun k hk => hk.imp id (fun e => Nat.le_of_eq e.symm)),
    fun k hk => by
      simp only [World.size_alloc]
      rcases hk with hk | hk
      · have := h.xlt k hk; omega
      · omega, fun k hk => .inl (h.x0 k hk), h.kept.trans (Keep.of_below hb)⟩⟩
theorem SWS.start (hJ : Minds J) (h0 : J X0 [] W) (hX0 : ∀ k, X0 k → k < W.heap.size) {w1 : World} {s : Nat} (hB1 : Below W.heap.size W w1) (hgs : W.heap.size < w1.heap.size) (hmap : SeenMapS w1 W.heap.size 1 (fun q => decide (q = s) || false)) :
    SWS J n₀ X0 W W.heap.size (w1.heap.size + 1) (w1.heap.size + 1 + 1) 0 [((s : Int), -1, 0)] [] (fun k => X0 k ∨ (W.heap.size ≤ k ∧ k < w1.heap.size + 3)) w1.heap.size 1
      (((w1.alloc (.cells #[.int .u64 s, .int .i64 (-1), .int .i64 0] 103)).alloc (.cells #[.slice (some ⟨w1.heap.size, 0, none⟩) 1 1] 104)).alloc (.cells #[.int .i64 0] 3)) := by
  have b1 : Below w1.heap.size w1 (((w1.alloc (.cells #[.int .u64 s, .int .i64 (-1), .int .i64 0] 103)).alloc (.cells #[.slice (some ⟨w1.heap.size, 0, none⟩) 1 1] 104)).alloc (.cells #[.int .i64 0] 3)) := bal (bal (bal (Below.refl _ w1) _) _) _
  have hBT := btr hB1 b1
  have hfun : (fun q => decide (q = s) || false) = hasP [((s : Int), -1, 0)] := by
    funext q
    by_cases e : q = s
    · subst e; simp [hasP]
    · have : ((s : Int) == (q : Int)) = false := by simp; omega
      simp [hasP, e, this]
  rw [hfun] at hmap
  have hrow := World.ownsRow_lit (base := W.heap.size) (e := 103) (size := 3) w1 #[.int .u64 s, .int .i64 (-1), .int .i64 0] 1 (by omega) (by decide) rfl
  have hrow3 := owns_block (w' := (((w1.alloc (.cells #[.int .u64 s, .int .i64 (-1), .int .i64 0] 103)).alloc (.cells #[.slice (some ⟨w1.heap.size, 0, none⟩) 1 1] 104)).alloc (.cells #[.int .i64 0] 3))) hrow ((bal (bal (Below.refl _ _) _) _).block _ (by simp))
  have q2 := (Boxed.new (w1.alloc (.cells #[.int .u64 s, .int .i64 (-1), .int .i64 0] 103)) 104 (.slice (some ⟨w1.heap.size, 0, none⟩) 1 1)).alloc (.cells #[.int .i64 0] 3)
  have q3 := Boxed.new ((w1.alloc (.cells #[.int .u64 s, .int .i64 (-1), .int .i64 0] 103)).alloc (.cells #[.slice (some ⟨w1.heap.size, 0, none⟩) 1 1] 104)) 3 (.int .i64 0)
  simp only [World.size_alloc] at q2 q3
  refine ⟨⟨hmap.kept (b1.block _ hgs), hrow3, q2, .inr ⟨Nat.le_refl _, by omega⟩, .inr ⟨by omega, by omega⟩, .inr ⟨by omega, by omega⟩, Nat.le_refl _, by omega⟩, q3, .inr ⟨by omega, by omega⟩, by omega, hJ _ _ _ _ _ h0 (Turn.of_below hBT) (fun k hk => hk.imp id (fun h => h.1)), fun k hk => ?_, fun k hk => .inl hk, Keep.of_below hBT⟩
  simp only [World.size_alloc]
  rcases hk with hk | hk
  · have := hX0 k hk; omega
  · omega
end
end Go.Proofs.YtphpablchlpagaaDoor
namespace Go.Proofs.YtphpablchlpagaaDoor
open Go.RowKit Go.Shelf
attribute [local go_sem] Oper.semAt_some
/-- What yield is told of a step. -/
def encWS (F : Steps) (x : Nat × Value) : Array Value := #[.int .u64 (plB F x.1), x.2]
set_option maxRecDepth 100000 in
set_option maxHeartbeats 2000000 in
theorem Words_seqS (ld : Nat → Nat → Nat) (n K s ab b1 b2 b3 n₀ : Nat) (R : World → Prop) (W0 : World) (X0 : Blocks) (hn60 : n ≤ 5000) (hK : K ≤ 1000) (hs : s < n) (hld : ∀ p x, p < n → x < K → ld p x < n)
    (h1 : X0 b1) (h2 : X0 b2) (h3 : X0 b3) (hX0 : ∀ k, X0 k → k < W0.heap.size) (hn₀ : n₀ ≤ W0.heap.size) (hR : ∀ W W', R W → Keep n₀ X0 W W' → R W') (hRW : R W0)
    (hlead : ∀ p x W, R W → p < n → x < K → Calls Tryd.prog 75 #[.int .u64 (p : Nat), .int .i64 (x : Nat), .pointer (some ⟨ab, 0, none⟩)] W fun e W' => e = .returned (.int .u64 (ld p x : Nat)) ∧ Below W.heap.size W W')
    (c1 : W0.cell? ⟨b1, 0, none⟩ = some (.int .u64 s)) (c2 : W0.cell? ⟨b2, 0, none⟩ = some (.int .i64 K)) (c3 : W0.cell? ⟨b3, 0, none⟩ = some (.func (.func 75) #[] #[.pointer (some ⟨ab, 0, none⟩)])) :
    SeqO 80 #[] #[.pointer (some ⟨b1, 0, none⟩), .pointer (some ⟨b2, 0, none⟩), .pointer (some ⟨b3, 0, none⟩)] (encWS (bfsTo ld K s n)) n₀ (WordGS (bfsTo ld K s n))
      (fun xs => xs.map (·.1) = List.range (bfsTo ld K s n).length) (fun pre => ∃ k, k ≤ (bfsTo ld K s n).length ∧ pre.map (·.1) = List.range k) W0 X0 := by
  obtain ⟨j0, hj, hy0, hy1, hy2⟩ := info_parts infoStepS
  intro l J Jx W hW hJ hJx hY h0
  have hWs := hW.size
  have k0 : Keep n₀ X0 W0 W := Keep.of_below hW
  have d1 := (hW.cell (p := ⟨b1, 0, none⟩) (hX0 _ h1)).trans c1
  have d2 := (hW.cell (p := ⟨b2, 0, none⟩) (hX0 _ h2)).trans c2
  have d3 := (hW.cell (p := ⟨b3, 0, none⟩) (hX0 _ h3)).trans c3
  have hRw := hR _ _ hRW k0
  have hsz := hid hX0
  have Hlead := hid hlead
  have HY := hid hY
  have HR := hid hR
  clear hlead hY hR c1 c2 c3 hX0
  obtain ⟨w1, hput, hmap, hgr⟩ := (SeenMapS.made W).put (by decide) s (by omega)
  have hmm := @run_makeMap Tryd.prog
  have hgs := hgr.size
  have hWs1 : (W.alloc (.map #[] 0)).heap.size = W.heap.size + 1 := by simp
  have e1 : (W.alloc (.map #[] 0)).cell? ⟨b1, 0, none⟩ = some (.int .u64 s) := ((bal (Below.refl _ W) _).cell (p := ⟨b1, 0, none⟩) (World.block_lt_of_cell? _ _ d1)).trans d1
  have hB1 : Below W.heap.size W w1 := (bal (Below.refl _ W) _).grown hgr (by simp) (fun q hq => by cases hq; exact Nat.le_refl _)
  have f1 := (hB1.cell (p := ⟨b1, 0, none⟩) (World.block_lt_of_cell? _ _ d1)).trans d1
  have f2 := (hB1.cell (p := ⟨b2, 0, none⟩) (World.block_lt_of_cell? _ _ d2)).trans d2
  have f3 := (hB1.cell (p := ⟨b3, 0, none⟩) (World.block_lt_of_cell? _ _ d3)).trans d3
  refine (callsIn_wide (n := 0)).1 ?_
  refine callsIn_of_wp Tryd.func80 rfl trivial ?_ rfl
  simp only [Tryd.ntmps80, List.size_toArray, List.length_cons, List.length_nil, Nat.reduceAdd, Nat.reduceSub, Array.replicate_succ, Array.replicate_zero, List.push_toArray, List.append_toArray, List.nil_append, List.cons_append]
  refine wpIn_wide.2 ?_
  have hX0W : ∀ k, X0 k → k < W.heap.size := fun k hk => by have := hsz.out k hk; omega
  have hST := SWS.start (n₀ := n₀) hJ h0 hX0W hB1 (by omega) hmap
  have hgood := hid (fun i => GoodB.bfs (n := n) (K := K) (s := s) (ld := ld) hs hK hld i)
  have hsuc := hid (fun i => show bfsTo ld K s (i + 1) = (if i < (bfsTo ld K s i).length then rowB ld (bfsTo ld K s i) (plB (bfsTo ld K s i) i).toNat i K else bfsTo ld K s i) from rfl)
  have Hld := hid hld
  have HST := hid hST
  clear hST hmap hld
  go_wp2_with fail
  go_loopw [7] (fun r wr => ∃ (i b7 : Nat) (pre : List (Nat × Value)) (X : Blocks) (g cap : Nat), r = .pointer (some ⟨b7, 0, none⟩) ∧ i ≤ (bfsTo ld K s i).length ∧ pre.map (·.1) = List.range i ∧ SWS J n₀ X0 W W.heap.size (w1.heap.size + 1) b7 i (bfsTo ld K s i) pre X g cap wr) (fun r wr => n + 1 - boxI r wr)
  case atStart => exact ⟨0, _, [], _, _, _, rfl, Nat.zero_le _, rfl, HST.out⟩
  case round =>
    obtain ⟨i, b7, pre, X, g, cap, rfl, hi, hpre, hSW⟩ := hrel
    have hgi := hgood.out i
    have hlen := hgi.len
    have m7 := hSW.ibox.cell
    have m7f := hSW.ibox.frozen
    have m6 := hSW.mem.box.cell
    have Hpre := hid hpre
    have HS := hid hSW
    clear hpre
    by_cases hlt : i < (bfsTo ld K s i).length
    · have hlts : (i : Int) < (bfsTo ld K s i).length := by omega
      obtain ⟨q1, _, _⟩ := flatBS_get _ i hlt
      rw [← hSW.mem.row.cellAt (i * 3) (by omega)] at q1
      obtain ⟨p, hp, hpn⟩ := hgi.below i hlt
      rw [hp] at q1
      have hs1 := hsuc.out i
      rw [if_pos hlt, hp, Int.toNat_natCast] at hs1
      have hpreF : bfsTo ld K s i <+: bfsTo ld K s n := by
        have := bfs_pre_le ld K s i (n - i)
        rwa [show i + (n - i) = n by omega] at this
      have hgn := hgood.out n
      have hFl := hpreF.length_le
      have hpF : plB (bfsTo ld K s n) i = (p : Int) := (pre_pl hpreF i hlt).1.trans hp
      have hwF := wordB_pre hpreF hgi hgn i hlt
      have hG : WordGS (bfsTo ld K s n) X (i, .func (.func 81) #[] #[.pointer (some ⟨w1.heap.size + 1, 0, none⟩), .pointer (some ⟨b7, 0, none⟩)]) wr :=
        ⟨_, _, g, cap, _, _, rfl, hSW.mem.x6, hSW.x7, hSW.mem.xg, hSW.mem.box, hSW.ibox, hSW.mem.row, hgi.tree, hlt, by omega, hwF.symm⟩
      have hsp : ∃ k, k ≤ (bfsTo ld K s n).length ∧ (pre ++ [(i, Value.func (.func 81) #[] #[.pointer (some ⟨w1.heap.size + 1, 0, none⟩), .pointer (some ⟨b7, 0, none⟩)])]).map (·.1) = List.range k :=
        ⟨i + 1, by omega, by rw [List.map_append, Hpre.out, List.range_succ]; rfl⟩
      have hy0 := HY.out X pre _ wr hSW.xlt hSW.j hG hsp
      rw [show encWS (bfsTo ld K s n) (i, Value.func (.func 81) #[] #[.pointer (some ⟨w1.heap.size + 1, 0, none⟩), .pointer (some ⟨b7, 0, none⟩)]) = #[.int .u64 (p : Nat), Value.func (.func 81) #[] #[.pointer (some ⟨w1.heap.size + 1, 0, none⟩), .pointer (some ⟨b7, 0, none⟩)]] from by unfold encWS; rw [hpF]] at hy0
      have Hsp := hid hsp
      have Hs1 := hid hs1
      have HG := hid hgi
      clear hs1 hsp hG hpreF hgn hpF hwF hp hSW hgi
      obtain ⟨pre', hpr'⟩ : ∃ q, pre ++ [(i, Value.func (.func 81) #[] #[.pointer (some ⟨w1.heap.size + 1, 0, none⟩), .pointer (some ⟨b7, 0, none⟩)])] = q := ⟨_, rfl⟩
      rw [hpr'] at hy0 Hsp
      have hpr1 : pre'.map (·.1) = List.range (i + 1) := by rw [← hpr', List.map_append, Hpre.out, List.range_succ]; rfl
      clear hpr'
      obtain ⟨fn, tmps, assign, body, hy, hRd⟩ := hy0
      have Hrd := hid hRd
      have Hpr1 := hid hpr1
      clear hRd hpr1
      have hm0 : boxI (.pointer (some ⟨b7, 0, none⟩)) wr = i := by simp [boxI, m7]
      generalize hBB : bfsTo ld K s i = B at *
      go_upto_region 6 with fail
      refine (wpIn_wide (n := 0)).1 ?_
      gi_wp2_with fail
      refine ⟨rfl, Hrd.out.mono ?_⟩
      rintro e W3 ⟨⟨rfl, hJ3⟩ | ⟨rfl, hJ3⟩, hk3⟩
      · have S3 := HS.out.round hJ3 hk3
        have r2 := keep_cell S3.kept h2 d2
        clear HS m7 m6 q1 hk3 hJ3
        gi_wp2_with fail
        go_wp2_with fail
        go_loopw [34] (fun r wr => ∃ (x : Nat) (X : Blocks) (g cap : Nat), x ≤ K ∧ r = .int .i64 x ∧ SWS J n₀ X0 W W.heap.size (w1.heap.size + 1) b7 i (rowB ld B p i x) pre' X g cap wr) (fun r _ => K - (intOf r).toNat)
        case atStart => exact ⟨0, X, g, cap, Nat.zero_le _, rfl, S3⟩
        case round =>
          clear S3 r2
          obtain ⟨x, X, g, cap, hx, rfl, hS⟩ := hrel
          by_cases hxl : x < K
          · have hxs : (x : Int) < K := by omega
            have hgx := GoodB.row HG.out hlt x (by omega) (fun y hy => Hld.out p y hpn (by omega))
            have hlx := hgx.len
            have hRr := HR.out _ _ hRw hS.kept
            have hL := Hlead.out p x wr hRr hpn hxl
            have hqn := Hld.out p x hpn hxl
            have r3 := keep_cell hS.kept h3 d3
            have HSx := hid hS
            have Hs2 := hid (show rowB ld B p i (x + 1) = (if hasP (rowB ld B p i x) (ld p x) then rowB ld B p i x else rowB ld B p i x ++ [(((ld p x : Nat) : Int), (i : Int), (x : Int))]) from rfl)
            clear hS hgx
            generalize rowB ld B p i x = C at *
            generalize ld p x = q at *
            go_wp2_with fail
            refine hL.mono ?_
            rintro e w2 ⟨rfl, hb⟩
            have S2 := HSx.out.below hJ hb
            have hlk := S2.mem.map.look q (by omega)
            cases hb' : hasP C q with
            | true =>
              rw [hb'] at hlk
              have HS2 := hid S2
              clear S2
              go_wp2
              go_roundw
              case rel => exact ⟨x + 1, X, g, cap, by omega, by go_num, by rw [Hs2.out, if_pos hb']; exact HS2.out⟩
              case measure => simp [intOf]; omega
            | false =>
              rw [hb'] at hlk
              obtain ⟨w3, hput3, hm3, hg3⟩ := S2.mem.map.put (by omega) q (by omega)
              obtain ⟨a1, a2, a3⟩ := S2.mem.apart
              have hs3 := hg3.size
              have hgl := own_lt S2.mem.row
              have hbl := S2.mem.box.lt
              have h7l := S2.ibox.lt
              have hml := S2.mem.map.lt
              have hw2 := S2.kept.size
              have t6 : Boxed w3 (w1.heap.size + 1) 104 (.slice (some ⟨g, 0, none⟩) C.length cap) := (hg3.block _ hbl (by simpa using fun e => a1 e.symm)).trans S2.mem.box
              have t7 : Boxed w3 b7 3 (.int .i64 i) := (hg3.block b7 h7l (fun e => by
                obtain ⟨es, c, hmp⟩ := S2.mem.map.isMap
                have h7 := S2.ibox
                unfold Boxed at h7
                cases e
                rw [hmp] at h7; cases h7)).trans S2.ibox
              have tr := owns_block S2.mem.row (hg3.block g hgl.2 (by simpa using fun e => a2 e.symm))
              have t6c := t6.cell
              have t7c := t7.cell
              have HS2 := hid S2
              have Htr := hid tr
              have Hm3 := hid hm3
              have T6 := hid t6
              have hb7' := hid hb'
              clear S2 tr hm3 t6 t7
              have hts : (Value.slice (some ⟨g, 0, none⟩) C.length cap).ownBlock = some g := rfl
              go_wp2_with (at_builtin; refine wpList_append_lies _ rfl _ _ 104 rfl W.heap.size 103 j0 (.agg #[.int .u64 0, .int .i64 0, .int .i64 0]) 3 24 Tryd.underlying104 hj hy0 hy1 hy2 rfl (by decide) (.slice (some ⟨g, 0, none⟩) C.length cap) C.length (flatBS C) rfl (owns_block Htr.out (Below.heap_alloc w3 _ _ (by omega))) ⟨w3.heap.size, 0, none⟩ 1 1 [.int .u64 (q : Int), .int .i64 (i : Int), .int .i64 (x : Int)] rfl rfl (cells_three _ _ _ _ _) (by simp [Value.oneCell']) (by decide) (by unfold maxLen; omega) (by omega) (by simp; omega) _ rfl ?_; intro g1 cap1 w5 hown' hgrow' hat hlt1; have t6w : Boxed w5 (w1.heap.size + 1) 104 (.slice (some ⟨g, 0, none⟩) C.length cap) := (hgrow'.block _ (by simp; omega) (by rw [hts]; simpa using a3)).trans ((Below.heap_alloc w3 _ _ (by omega)).trans T6.out); have t6wc := t6w.cell; have t6wf := t6w.frozen)
              obtain ⟨X', hX'⟩ := HS2.out.add hJ (by omega) hX0W Hm3.out hg3 hown' hgrow' (hat.imp (fun e => by rw [hts] at e; exact Option.some.inj e) id)
              have HX := hid hX'
              clear hX'
              go_wp2
              go_roundw
              case rel => exact ⟨x + 1, X', g1, cap1, by omega, by go_num, by rw [Hs2.out, if_neg (by rw [hb7'.out]; decide)]; exact HX.out⟩
              case measure => simp [intOf]; omega
          · obtain rfl : x = K := by omega
            obtain ⟨X', hX'⟩ := hS.next hJ (i' := i + 1)
            have n7 := hS.ibox.cell
            have n7f := hS.ibox.frozen
            have hle := (rowB_pre ld B p i x).length_le
            have HX := hid hX'
            have Hle := hid hle
            clear hS hX' hle
            go_wp2
            go_roundw
            case rel => exact ⟨i + 1, _, pre', X', g, cap, rfl, by rw [Hs1.out]; have := Hle.out; omega, Hpr1.out, by rw [Hs1.out]; exact HX.out⟩
            case measure =>
              have hi1 : boxI (.pointer (some ⟨wr.heap.size, 0, none⟩)) (wr.alloc (.cells #[.int .i64 ((i : Int) + 1)] 3)) = i + 1 := by simp [boxI]
              simp only [hm0, hi1]; omega
      · gi_wp2_with fail
        go_wp2
        (try simp only [Exit.inBlock, Exit.then])
        refine bodyPost_ret (results_none rfl _ _ _) rfl ?_
        exact ⟨⟨_, rfl⟩, .inr ⟨_, pre', Hsp.out, hJ3⟩⟩
    · have hF : bfsTo ld K s n = bfsTo ld K s i := by
        have := bfs_stop ld K s i (by omega) (n - i)
        rwa [show i + (n - i) = n by omega] at this
      have hil : i = (bfsTo ld K s i).length := by omega
      have hlts : ¬ ((i : Int) < (bfsTo ld K s i).length) := by omega
      have HF := hid (show pre.map (·.1) = List.range (bfsTo ld K s n).length by rw [hF, ← hil]; exact Hpre.out)
      have Hj := hid hSW.j
      clear hF hil hSW hgi
      generalize hBB : bfsTo ld K s i = B at *
      go_wp2
      refine bodyPost_end (results_none rfl _ _ _) rfl ?_
      exact ⟨⟨_, rfl⟩, .inl ⟨_, pre, HF.out, Hj.out⟩⟩
end Go.Proofs.YtphpablchlpagaaDoor
namespace Go.Proofs.YtphpablchlpagaaDoor
open Go.RowKit Go.Shelf
/-- The error of an automaton whose sets are not to be searched. -/
def smallE (m : List (List Int)) : Int := if validM m = true then (if 12 < m.length then 3 else 0) else 1
theorem smallE_cases (m : List (List Int)) : (validM m = false ∧ smallE m = 1) ∨ (validM m = true ∧ 12 < m.length ∧ smallE m = 3) ∨ (validM m = true ∧ m.length ≤ 12 ∧ smallE m = 0) := by
  unfold smallE
  cases hv : validM m with
  | false => exact .inl ⟨rfl, by simp⟩
  | true =>
    by_cases h : 12 < m.length
    · exact .inr (.inl ⟨rfl, h, by simp [h]⟩)
    · exact .inr (.inr ⟨rfl, by omega, by simp [h]⟩)
set_option maxRecDepth 100000 in
set_option maxHeartbeats 1000000 in
theorem searched_any (v : Value) (m : List (List Int)) (w : World) (c : Int) (h : Rows w v m) (hc : smallE m = c) :
    Calls Tryd.prog 55 #[.agg #[v]] w fun e w' => e = .returned (.int .i64 c) ∧ Below w.heap.size w w' := by
  obtain ⟨A, cap, rfl, hml, -⟩ := id h
  have hX := bal (Below.refl _ w) (.cells #[.slice A m.length cap] 24)
  have hbx := (Boxed.new w 24 (.slice A m.length cap)).cell
  have hr := h.below hX
  go_enter Tryd.func55, Tryd.ntmps55
  go_wp2_with fail
  generalize w.alloc (.cells #[.slice A m.length cap] 24) = X at *
  rcases smallE_cases m with ⟨hv, he⟩ | ⟨hv, h12, he⟩ | ⟨hv, h12, he⟩
  · obtain rfl : c = 1 := by rw [← hc, he]
    clear hc he
    refine (Valid_bool _ m false _ hr hv).mono ?_
    rintro e w1 ⟨rfl, h1⟩
    go_wp2
    go_ret
    exact ⟨rfl, btr hX h1⟩
  · obtain rfl : c = 3 := by rw [← hc, he]
    clear hc he
    refine (Valid_bool _ m true _ hr hv).mono ?_
    rintro e w1 ⟨rfl, h1⟩
    have c1 := (h1.cell (p := ⟨w.heap.size, 0, none⟩) (World.block_lt_of_cell? _ _ hbx)).trans hbx
    have d1 : decide ((12 : Int) < m.length) = true := by simp; omega
    go_wp2
    go_ret
    exact ⟨rfl, btr hX h1⟩
  · obtain rfl : c = 0 := by rw [← hc, he]
    clear hc he
    refine (Valid_bool _ m true _ hr hv).mono ?_
    rintro e w1 ⟨rfl, h1⟩
    have c1 := (h1.cell (p := ⟨w.heap.size, 0, none⟩) (World.block_lt_of_cell? _ _ hbx)).trans hbx
    have d1 : decide ((12 : Int) < m.length) = false := by simp; omega
    go_wp2
    go_ret
    exact ⟨rfl, btr hX h1⟩
/-- Where a letter leads from a set. -/
def imgS (m : List (List Int)) (S x : Nat) : Nat := imgTo m (x : Int) (elems S)
theorem imgS_lt {m : List (List Int)} (hv : validM m = true) {S x : Nat} (hS : S < 2 ^ m.length) (hx : x < letters m) : imgS m S x < 2 ^ m.length :=
  imgTo_lt m _ m.length _ (fun s hs => (nx_ok hv (elems_lt hS hs) (by omega) (by omega)).1)
set_option maxRecDepth 100000 in
set_option maxHeartbeats 400000 in
theorem imgLead_any (A : Option Addr) (cap : Nat) (m : List (List Int)) (ab S x : Nat) (w : World) (hc : w.cell? ⟨ab, 0, none⟩ = some (.slice A m.length cap)) (h : Rows w (.slice A m.length cap) m) (hT : Tab w) (hv : validM m = true) (hS : S < 2 ^ m.length) (hx : x < letters m) :
    Calls Tryd.prog 75 #[.int .u64 (S : Nat), .int .i64 (x : Nat), .pointer (some ⟨ab, 0, none⟩)] w fun e w' => e = .returned (.int .u64 (imgS m S x : Nat)) ∧ Below w.heap.size w w' := by
  go_enter Tryd.func75, Tryd.ntmps75
  go_wp2_with fail
  refine (SetImage_any _ m S x _ hT h hv hS hx).mono ?_
  rintro e w1 ⟨rfl, h1⟩
  go_wp2
  go_ret
  exact ⟨rfl, h1⟩
set_option maxRecDepth 100000 in
set_option maxHeartbeats 400000 in
theorem WordsS_fn (s K : Int) (gf : Nat) (lb : Array Value) (w : World) :
    Calls Tryd.prog 74 #[.int .u64 s, .int .i64 K, .func (.func gf) #[] lb] w fun e w' => e = .returned (.func (.func 80) #[] #[.pointer (some ⟨w.heap.size, 0, none⟩), .pointer (some ⟨w.heap.size + 1, 0, none⟩), .pointer (some ⟨w.heap.size + 1 + 1, 0, none⟩)]) ∧
      w' = ((w.alloc (.cells #[.int .u64 s] 61)).alloc (.cells #[.int .i64 K] 3)).alloc (.cells #[.func (.func gf) #[] lb] 98) := by
  go_enter Tryd.func74, Tryd.ntmps74
  go_wp2
  go_ret
  exact ⟨rfl, rfl⟩
/-- The iterator over the images, and what it holds. -/
def ImagesIs (m : List (List Int)) (A : Option Addr) (cap : Nat) (w : World) (e : Ending) (w' : World) : Prop :=
  ∃ ab b1 b2 b3, e = .returned (.func (.func 80) #[] #[.pointer (some ⟨b1, 0, none⟩), .pointer (some ⟨b2, 0, none⟩), .pointer (some ⟨b3, 0, none⟩)]) ∧
    w'.cell? ⟨ab, 0, none⟩ = some (.slice A m.length cap) ∧ w'.cell? ⟨b1, 0, none⟩ = some (.int .u64 ((2 ^ m.length - 1 : Nat) : Int)) ∧ w'.cell? ⟨b2, 0, none⟩ = some (.int .i64 (letters m : Nat)) ∧
    w'.cell? ⟨b3, 0, none⟩ = some (.func (.func 75) #[] #[.pointer (some ⟨ab, 0, none⟩)]) ∧ w.heap.size ≤ ab ∧ w.heap.size ≤ b1 ∧ w.heap.size ≤ b2 ∧ w.heap.size ≤ b3 ∧ Below w.heap.size w w'
set_option maxRecDepth 100000 in
set_option maxHeartbeats 1000000 in
theorem images_any (A : Option Addr) (cap : Nat) (m : List (List Int)) (w : World) (h : Rows w (.slice A m.length cap) m) (hv : validM m = true) :
    Calls Tryd.prog 56 #[.agg #[.slice A m.length cap]] w (ImagesIs m A cap w) := by
  obtain ⟨p1, p2, -⟩ := valid_parts hv
  obtain ⟨b, off, A0, cap0, hA, hrow0⟩ := row_zero h hv
  subst hA
  have hX := bal (Below.refl _ w) (.cells #[.slice (some ⟨b, off, none⟩) m.length cap] 24)
  have hbx := (Boxed.new w 24 (.slice (some ⟨b, off, none⟩) m.length cap)).cell
  have hin : (0 : Int) < m.length := by omega
  have hin2 : 0 < m.length := by omega
  have hr0 := (hX.cell (p := ⟨b, off, none⟩) (World.block_lt_of_cell? _ _ hrow0)).trans hrow0
  have hXs : w.heap.size + 1 = (w.alloc (.cells #[.slice (some ⟨b, off, none⟩) m.length cap] 24)).heap.size := by simp
  go_enter Tryd.func56, Tryd.ntmps56
  go_wp2_with fail
  generalize w.alloc (.cells #[.slice (some ⟨b, off, none⟩) m.length cap] 24) = X at *
  have keep := hid (fun (w' : World) (hb : Below X.heap.size X w') => show w'.cell? ⟨w.heap.size, 0, none⟩ = some (.slice (some ⟨b, off, none⟩) m.length cap) ∧ w'.cell? ⟨b, off, none⟩ = some (.slice A0 (letters m) cap0) from ⟨(hb.cell (p := ⟨w.heap.size, 0, none⟩) (World.block_lt_of_cell? _ _ hbx)).trans hbx, (hb.cell (p := ⟨b, off, none⟩) (World.block_lt_of_cell? _ _ hr0)).trans hr0⟩)
  go_region_held3 (fun w' => w'.cell? ⟨w.heap.size, 0, none⟩ = some (.slice (some ⟨b, off, none⟩) m.length cap) ∧ w'.cell? ⟨b, off, none⟩ = some (.slice A0 (letters m) cap0)) (first | exact keep.out _ (below_dr X 1) | exact keep.out _ (bal (bal (bal (below_dr X 1) _) _) _) | assumption) (first
    | (go_at_call 47; go_must (refine (Below_any m.length _ p2).mono ?_; rintro e y1 ⟨rfl, rfl⟩))
    | (go_at_call 74; go_must (refine (WordsS_fn _ _ _ _ _).mono ?_; rintro e y1 ⟨rfl, rfl⟩)))
  all_goals go_wp2
  all_goals
    have q1 := ((Boxed.new X 61 (.int .u64 ((2 ^ m.length - 1 : Nat) : Int))).alloc (.cells #[.int .i64 (letters m : Nat)] 3)).alloc (.cells #[.func (.func 75) #[] #[.pointer (some ⟨w.heap.size, 0, none⟩)]] 98)
    have q2 := (Boxed.new (X.alloc (.cells #[.int .u64 ((2 ^ m.length - 1 : Nat) : Int)] 61)) 3 (.int .i64 (letters m : Nat))).alloc (.cells #[.func (.func 75) #[] #[.pointer (some ⟨w.heap.size, 0, none⟩)]] 98)
    have q3 := Boxed.new ((X.alloc (.cells #[.int .u64 ((2 ^ m.length - 1 : Nat) : Int)] 61)).alloc (.cells #[.int .i64 (letters m : Nat)] 3)) 98 (.func (.func 75) #[] #[.pointer (some ⟨w.heap.size, 0, none⟩)])
    have yT := bal (bal (bal (Below.refl _ X) (.cells #[.int .u64 ((2 ^ m.length - 1 : Nat) : Int)] 61)) (.cells #[.int .i64 (letters m : Nat)] 3)) (.cells #[.func (.func 75) #[] #[.pointer (some ⟨w.heap.size, 0, none⟩)]] 98)
    have q0 := (yT.cell (p := ⟨w.heap.size, 0, none⟩) (World.block_lt_of_cell? _ _ hbx)).trans hbx
    simp only [World.size_alloc] at q1 q2 q3
    have hD := fun (W : World) => below_dr W 1
    go_ret
    exact ⟨_, _, _, _, rfl, ((hD _).cell (p := ⟨w.heap.size, 0, none⟩) (World.block_lt_of_cell? _ _ q0)).trans q0, ((hD _).cell (p := ⟨X.heap.size, 0, none⟩) (World.block_lt_of_cell? _ _ q1.cell)).trans q1.cell, ((hD _).cell (p := ⟨X.heap.size + 1, 0, none⟩) (World.block_lt_of_cell? _ _ q2.cell)).trans q2.cell, ((hD _).cell (p := ⟨X.heap.size + 1 + 1, 0, none⟩) (World.block_lt_of_cell? _ _ q3.cell)).trans q3.cell, Nat.le_refl _, by omega, by omega, by omega, bdr (btr hX yT) 1⟩
end Go.Proofs.YtphpablchlpagaaDoor
namespace Go.Proofs.YtphpablchlpagaaDoor
open Go.RowKit Go.Shelf
/-- The number of a set. -/
def codeL (l : List Bool) : Nat := l.foldl (fun n b => 2 * n + b.toNat) 0
theorem codeL_snoc (l : List Bool) (b : Bool) : codeL (l ++ [b]) = 2 * codeL l + b.toNat := by simp [codeL, List.foldl_append]
theorem take_snocB {l : List Bool} {k : Nat} (h : k < l.length) : l.take (k + 1) = l.take k ++ [l.getD k false] := by
  rw [List.take_succ_eq_append_getElem h]
  simp [List.getD_eq_getElem?_getD, List.getElem?_eq_getElem h]
theorem codeL_lt : ∀ (k : Nat) (l : List Bool), k ≤ l.length → codeL (l.take k) < 2 ^ k
  | 0, l, _ => by simp [codeL]
  | k + 1, l, h => by
    have ih := codeL_lt k l (by omega)
    rw [take_snocB (by omega), codeL_snoc, Nat.pow_succ]
    have : (l.getD k false).toNat ≤ 1 := by cases l.getD k false <;> decide
    omega
theorem codeL_inj : ∀ (k : Nat) (l m : List Bool), l.length = k → m.length = k → codeL l = codeL m → l = m
  | 0, l, m, h1, h2, _ => by rw [List.length_eq_zero_iff.1 h1, List.length_eq_zero_iff.1 h2]
  | k + 1, l, m, h1, h2, h => by
    have e1 := take_snocB (l := l) (k := k) (by omega)
    have e2 := take_snocB (l := m) (k := k) (by omega)
    rw [List.take_of_length_le (by omega)] at e1 e2
    rw [e1, e2, codeL_snoc, codeL_snoc] at h
    have hb : ∀ b c : Bool, ∀ x y : Nat, 2 * x + b.toNat = 2 * y + c.toNat → x = y ∧ b = c := fun b c x y h => by
      cases b <;> cases c <;> simp only [Bool.toNat_true, Bool.toNat_false] at h <;> first | exact ⟨by omega, rfl⟩ | omega
    obtain ⟨h3, h4⟩ := hb _ _ _ _ h
    have h5 := codeL_inj k (l.take k) (m.take k) (by simp; omega) (by simp; omega) h3
    rw [e1, e2, h5, h4]
/-- The truth values of a set; its number. -/
def bitL (n S : Nat) : List Bool := Lb n S.testBit
def codeN (n S : Nat) : Nat := codeL (bitL n S)
theorem bitL_len (n S : Nat) : (bitL n S).length = n := Lb_len _ _
theorem codeN_lt (n S : Nat) : codeN n S < 2 ^ n := by
  have := codeL_lt n (bitL n S) (by rw [bitL_len]; exact Nat.le_refl _)
  rwa [List.take_of_length_le (by rw [bitL_len]; exact Nat.le_refl _)] at this
theorem bitL_inj {n S T : Nat} (hS : S < 2 ^ n) (hT : T < 2 ^ n) (h : bitL n S = bitL n T) : S = T := by
  apply Nat.eq_of_testBit_eq
  intro i
  by_cases hi : i < n
  · have e := congrArg (fun l => l.getD i false) h
    simpa [bitL, Lb, List.getD_eq_getElem?_getD, List.getElem?_map, List.getElem?_range hi] using e
  · have hp : 2 ^ n ≤ 2 ^ i := Nat.pow_le_pow_right (by decide) (by omega)
    rw [Nat.testBit_lt_two_pow (by omega), Nat.testBit_lt_two_pow (by omega)]
theorem codeN_inj {n S T : Nat} (hS : S < 2 ^ n) (hT : T < 2 ^ n) (h : codeN n S = codeN n T) : S = T :=
  bitL_inj hS hT (codeL_inj n _ _ (bitL_len _ _) (bitL_len _ _) h)
end Go.Proofs.YtphpablchlpagaaDoor
namespace Go.Proofs.YtphpablchlpagaaDoor
open Go.RowKit Go.Shelf
attribute [local go_sem] Oper.semAt_some
/-- The steps of the search over the images of all states; how many states a step's set has. -/
def imgF (m : List (List Int)) : Steps := bfsTo (imgS m) (letters m) (2 ^ m.length - 1) (2 ^ m.length)
def szB (F : Steps) (i : Nat) : Nat := (elems (plB F i).toNat).length
theorem imgF_good {m : List (List Int)} (hv : validM m = true) : GoodB (2 ^ m.length) (imgF m) :=
  GoodB.bfs (by have := Nat.two_pow_pos m.length; omega) (by have := (valid_parts hv).2.2.2.1; omega) (fun p x hp hx => imgS_lt hv hp hx) _
/-- None of the first k sets has as few states. -/
def NoneS (F : Steps) (k : Nat) : Prop := ∀ j, j < k → szB F j ≠ 1
/-- What Shortest returns of an automaton whose sets may be searched. -/
def ShortIs (F : Steps) (w : World) (e : Ending) (w' : World) : Prop :=
  ((∃ i r, i < F.length ∧ szB F i = 1 ∧ NoneS F i ∧ e = .returned (.tuple #[r, .int .i64 0]) ∧ w'.ownsRow w.heap.size 3 1 r (wordB F i).length ((wordB F i).map fun x => .int .i64 x)) ∨
    (NoneS F F.length ∧ e = .returned (.tuple #[.slice none 0 0, .int .i64 4]))) ∧ Below w.heap.size w w'
set_option maxRecDepth 100000 in
set_option maxHeartbeats 4000000 in
theorem Shortest_ok (v : Value) (m : List (List Int)) (w : World) (hT : Tab w) (h : Rows w v m) (hv : validM m = true) (h12 : m.length ≤ 12) :
    Calls Tryd.prog 24 #[.agg #[v]] w (ShortIs (imgF m) w) := by
  obtain ⟨p1, p2, p3, p4, -⟩ := valid_parts hv
  obtain ⟨A, cap, rfl, hml, -⟩ := id h
  have hpow : 2 ^ m.length ≤ 2 ^ 12 := Nat.pow_le_pow_right (by decide) h12
  have hpos := Nat.two_pow_pos m.length
  have hc : smallE m = 0 := by unfold smallE; rw [if_pos hv, if_neg (by omega)]
  have hX := bal (bal (bal (Below.refl _ w) (.cells #[.slice A m.length cap] 24)) (.cells #[.slice none 0 0] 34)) (.cells #[.int .i64 0] 25)
  have q1 := ((Boxed.new w 24 (.slice A m.length cap)).alloc (.cells #[.slice none 0 0] 34)).alloc (.cells #[.int .i64 0] 25)
  have q2 := (Boxed.new (w.alloc (.cells #[.slice A m.length cap] 24)) 34 (.slice none 0 0)).alloc (.cells #[.int .i64 0] 25)
  have q3 := Boxed.new ((w.alloc (.cells #[.slice A m.length cap] 24)).alloc (.cells #[.slice none 0 0] 34)) 25 (.int .i64 0)
  simp only [World.size_alloc] at q2 q3
  have hXs : ((((w.alloc (.cells #[.slice A m.length cap] 24)).alloc (.cells #[.slice none 0 0] 34)).alloc (.cells #[.int .i64 0] 25))).heap.size = w.heap.size + 3 := by simp
  have hgood := imgF_good hv
  have hgl := hgood.len
  have hF0 := hid (show imgF m = bfsTo (imgS m) (letters m) (2 ^ m.length - 1) (2 ^ m.length) from rfl)
  refine (callsIn_wide (n := 0)).1 ?_
  refine callsIn_of_wp_marks Tryd.func24 rfl trivial ?_ rfl
  simp only [Tryd.ntmps24, List.size_toArray, List.length_cons, List.length_nil, Nat.reduceAdd, Nat.reduceSub, Array.replicate_succ, Array.replicate_zero, List.push_toArray, List.append_toArray, List.nil_append, List.cons_append]
  refine wpIn_wide.2 ?_
  go_wp2_with fail
  have hr := h.below hX
  have hTX := hT.on hX
  generalize ((w.alloc (.cells #[.slice A m.length cap] 24)).alloc (.cells #[.slice none 0 0] 34)).alloc (.cells #[.int .i64 0] 25) = X at *
  refine (searched_any _ m _ 0 hr hc).mono ?_
  rintro e w1 ⟨rfl, h1⟩
  have b1 : Boxed w1 w.heap.size 24 (.slice A m.length cap) := (h1.block _ q1.lt).trans q1
  have b2 : Boxed w1 (w.heap.size + 1) 34 (.slice none 0 0) := (h1.block _ q2.lt).trans q2
  have b3 : Boxed w1 (w.heap.size + 1 + 1) 25 (.int .i64 0) := (h1.block _ q3.lt).trans q3
  have c1 := b1.cell
  have hs1 := h1.size
  go_wp2_with fail
  refine (images_any A cap m _ (hr.below h1) hv).mono ?_
  rintro e T ⟨ab, p1', p2', p3', rfl, ca, ci1, ci2, ci3, la, l1, l2, l3, hTb⟩
  have d2 : Boxed T (w.heap.size + 1) 34 (.slice none 0 0) := (hTb.block _ b2.lt).trans b2
  have d3 : Boxed T (w.heap.size + 1 + 1) 25 (.int .i64 0) := (hTb.block _ b3.lt).trans b3
  have yT := btr hX (btr h1 hTb)
  have hrT := hr.below (btr h1 hTb)
  have hTT := hTX.on (btr h1 hTb)
  have HrT := hid hrT
  have HTT := hid hTT
  go_wp2_with fail
  have hXT : ∀ k, (k = p1' ∨ k = p2' ∨ k = p3' ∨ k = ab) → k < T.heap.size := fun k hk => by
    rcases hk with rfl | rfl | rfl | rfl
    · exact World.block_lt_of_cell? _ _ ci1
    · exact World.block_lt_of_cell? _ _ ci2
    · exact World.block_lt_of_cell? _ _ ci3
    · exact World.block_lt_of_cell? _ _ ca
  have hXl : ∀ k, (k = p1' ∨ k = p2' ∨ k = p3' ∨ k = ab) → w.heap.size + 3 ≤ k := fun k hk => by
    rcases hk with rfl | rfl | rfl | rfl <;> omega
  have hld : ∀ p x, p < 2 ^ m.length → x < letters m → imgS m p x < 2 ^ m.length := fun p x hp hx => imgS_lt hv hp hx
  have hRk : ∀ W W', (Below w.heap.size w W ∧ W.cell? ⟨ab, 0, none⟩ = some (.slice A m.length cap) ∧ Rows W (.slice A m.length cap) m ∧ Tab W) → Keep w.heap.size (fun k => k = p1' ∨ k = p2' ∨ k = p3' ∨ k = ab) W W' → (Below w.heap.size w W' ∧ W'.cell? ⟨ab, 0, none⟩ = some (.slice A m.length cap) ∧ Rows W' (.slice A m.length cap) m ∧ Tab W') := by
    rintro W W' ⟨a1, a2, _, _⟩ k
    have a5 := a1.trans (k.below a1.size)
    exact ⟨a5, keep_cell k (.inr (.inr (.inr rfl))) a2, h.below a5, hT.on a5⟩
  have hseq := Words_seqS (imgS m) (2 ^ m.length) (letters m) (2 ^ m.length - 1) ab _ _ _ w.heap.size (fun W => Below w.heap.size w W ∧ W.cell? ⟨ab, 0, none⟩ = some (.slice A m.length cap) ∧ Rows W (.slice A m.length cap) m ∧ Tab W) T (fun k => k = p1' ∨ k = p2' ∨ k = p3' ∨ k = ab) (by omega) (by omega) (by omega) hld (.inl rfl) (.inr (.inl rfl)) (.inr (.inr (.inl rfl))) hXT yT.size hRk ⟨yT, ca, hrT, hTT⟩
    (fun p x W ⟨_, a2, a3, a4⟩ hp hx => imgLead_any A cap m ab p x W a2 a3 a4 hv hp hx) ci1 ci2 ci3
  rw [← hF0.out] at hseq
  have hTs : w.heap.size + 3 ≤ T.heap.size := by have := hTb.size; omega
  have hpl : ∀ i, i < (imgF m).length → ∃ q : Nat, plB (imgF m) i = q ∧ q < 2 ^ m.length := hgood.below
  have Hpl := hid hpl
  generalize imgF m = F at *
  clear hF0 hRk hld ci1 ci2 ci3 ca hrT hTT b1 b2 b3 c1 h1 hr hTX hX q1 q2 q3 hpl hTb hXs hs1 HrT HTT la
  refine (wpIn_wide (n := 0)).1 ?_
  refine range_lawO (gf := 80) (fb := #[]) (lb := #[.pointer (some ⟨p1', 0, none⟩), .pointer (some ⟨p2', 0, none⟩), .pointer (some ⟨p3', 0, none⟩)]) rfl (enters_of Tryd.func80 (by kernel_rfl) rfl)
    hseq hXT (fun _ _ _ _ h k => h.keep k) yT.size (Below.refl _ _) (fun _ => rfl)
    (fun X pre W => NoneS F pre.length ∧ (Mine X W (w.heap.size + 1) 34 (.slice none 0 0) ∧ (Mine X W (w.heap.size + 1 + 1) 25 (.int .i64 0) ∧ Base w.heap.size w X W)))
    (fun c X pre W => (c = .ret ∧ 0 < pre.length ∧ pre.length ≤ F.length ∧ szB F (pre.length - 1) = 1 ∧ NoneS F (pre.length - 1)) ∧ (MineRow w.heap.size X W (w.heap.size + 1) 34 3 ((wordB F (pre.length - 1)).map fun x => .int .i64 x) ∧ (Mine X W (w.heap.size + 1 + 1) 25 (.int .i64 0) ∧ Base w.heap.size w X W)))
    (Stable.and (stable_pure _ (fun pre : List (Nat × Value) => NoneS F pre.length)) (Stable.and (stable_box _ _ _ (fun _ => _)) (Stable.and (stable_box _ _ _ (fun _ => _)) (stable_base _ _ _ yT.size (Nat.le_refl _)))))
    (fun c => Stable.and (stable_pure _ (fun pre : List (Nat × Value) => c = .ret ∧ 0 < pre.length ∧ pre.length ≤ F.length ∧ szB F (pre.length - 1) = 1 ∧ NoneS F (pre.length - 1))) (Stable.and (stable_row _ _ _ _ _ (fun pre : List (Nat × Value) => (wordB F (pre.length - 1)).map fun x => .int .i64 x)) (Stable.and (stable_box _ _ _ (fun _ => _)) (stable_base _ _ _ yT.size (Nat.le_refl _)))))
    ⟨fun j hj => absurd hj (Nat.not_lt_zero j), ⟨d2, fun h => by have := hXl _ h; omega⟩, ⟨d3, fun h => by have := hXl _ h; omega⟩, ⟨fun k hk => by have := hXl _ hk; omega, yT⟩⟩
    (fun x a' _ => a' = { tmps := #[.agg #[.slice A m.length cap], .pointer (some ⟨w.heap.size, 0, none⟩), .pointer (some ⟨w.heap.size + 1, 0, none⟩), .pointer (some ⟨w.heap.size + 1 + 1, 0, none⟩), .int .i64 0, .int .u64 (plB F x.1), x.2, .agg #[.slice A m.length cap], .int .i64 0, .int .i64 0, .bool false, undef, .agg #[.slice A m.length cap], .func (.func 80) #[] #[.pointer (some ⟨p1', 0, none⟩), .pointer (some ⟨p2', 0, none⟩), .pointer (some ⟨p3', 0, none⟩)], .int .u64 (plB F x.1), x.2, undef, undef, undef, undef, undef], defers := [] })
    (fun _ _ _ _ _ _ _ hs _ _ _ _ _ _ => hs) ?assign ?body ?done ?stop
  case assign =>
    intro l X pre x W' K' hi hK'
    unfold encWS
    gi_wp2
    exact hK' _ _ (KeepsFrom.refl _ _) (Keep.refl _ _ _) hi rfl
  case body =>
    rintro l X pre ⟨i, fv⟩ a' W hl hrec hXl' hXs ⟨hnone, b8, b9, hB⟩ hG rfl hsp
    obtain ⟨k, hk, hkr⟩ := hsp
    obtain ⟨hk1, hix⟩ := sp_last hkr
    simp only at hix
    subst hix
    obtain ⟨c6, c7, g, cap', B', base, hfv, _⟩ := id hG
    simp only at hfv
    subst hfv
    have hword := word_anyS F X _ c6 c7 W hG
    obtain ⟨q, hq, hqn⟩ := Hpl.out pre.length (by omega)
    have hsz : szB F pre.length = (elems q).length := by unfold szB; rw [hq, Int.toNat_natCast]
    have hF := Size_any q W (by omega)
    have m8 := b8.cell; have m8f := b8.frozen; have m9 := b9.cell; have m9f := b9.frozen
    rw [hq]
    by_cases hf : szB F pre.length = 1
    · have hlt9 := b9.lt
      have hWb : w.heap.size ≤ W.heap.size := hB.2.size
      rw [← hsz, hf] at hF
      have hf0 := hid hf
      gi_wp2_with fail
      refine ⟨trivial, rfl, (inr l _ hF).mono ?_⟩
      rintro e w' ⟨rfl, rfl⟩
      gi_wp2_with fail
      refine ⟨trivial, rfl, (inr l _ hword).mono ?_⟩
      rintro e w3 ⟨r, rfl, hr, hb3⟩
      have d8 := b8.below hb3
      have d9 := b9.below hb3
      have e8 := d8.cell; have e8f := d8.frozen; have e9 := d9.cell; have e9f := d9.frozen
      have hrb : ∀ g, r.ownBlock = some g → W.heap.size ≤ g ∧ g < w3.heap.size := row_blk2 hr
      obtain ⟨rA, rn, rc, rfl⟩ : ∃ A k c, r = .slice A k c := by
        rcases hr.2 with ⟨hu, h0⟩ | ⟨g, cap, cur, hu, hg, hh, _⟩
        · exact ⟨none, 0, 0, hu⟩
        · exact ⟨_, _, cap, hu⟩
      have Hr := hid (row_mono hr hWb)
      clear hr hword
      gi_wp2
      have hpl : (pre ++ [((pre.length : Nat), Value.func (.func 81) #[] #[.pointer (some ⟨c6, 0, none⟩), .pointer (some ⟨c7, 0, none⟩)])]).length = pre.length + 1 := by simp
      refine ⟨((kf_below hb3).trans (kf_set _ _ _ _)).trans (kf_set _ _ _ _), ((Keep.of_below hb3).trans (keep_set _ _ _ (by omega) b8.2)).trans (keep_set _ _ _ (by omega) b9.2), ⟨rfl, by omega, by omega, by rw [hpl]; exact hf0.out, by rw [hpl]; exact hnone⟩, ⟨_, (d8.set _).other (by omega) _, ?_, fun j hj hXj => ?_⟩, (d9.other (by omega) _).set _, hB.step ?_⟩
      · rw [hpl, List.length_map]
        refine ownsRow_same Hr.out fun g hg => ?_
        have := hrb g hg
        rw [Below.heap_setCell _ _ _ _ (by simp; omega), Below.heap_setCell _ _ _ _ (by simp; omega)]
      · have h1 := hrb j hj
        have h2 := hXs j hXj
        omega
      · exact (((hb3.mono hWb)).setCell (p := ⟨w.heap.size + 1, 0, none⟩) (by show w.heap.size ≤ w.heap.size + 1; omega) _).setCell (p := ⟨w.heap.size + 1 + 1, 0, none⟩) (by show w.heap.size ≤ w.heap.size + 1 + 1; omega) _
    · have hfi : (((elems q).length : Int) == 1) = false := beq_eq_false_iff_ne.2 (by omega)
      have hfn : ((elems q).length == 1) = false := beq_eq_false_iff_ne.2 (by omega)
      have Hf := hid hf
      clear hsz hf
      gi_wp2_with fail
      refine ⟨trivial, rfl, (inr l _ hF).mono ?_⟩
      rintro e w' ⟨rfl, rfl⟩
      gi_wp2
      refine ⟨KeepsFrom.refl _ _, Keep.refl _ _ _, fun j hj => ?_, b8, b9, hB⟩
      by_cases e : j < pre.length
      · exact hnone j e
      · obtain rfl : j = pre.length := by simp at hj; omega
        exact Hf.out
  case done =>
    rintro D X xs W hD hS ⟨hnone, b8, b9, hB⟩ hK'
    have m8 := b8.cell; have m8f := b8.frozen; have m9 := b9.cell; have m9f := b9.frozen
    have hlen : xs.length = F.length := by have := congrArg List.length hS; simpa using this
    have hTsz := yT.size
    have hDw := (Array.getElem?_eq_some_iff.1 hK').1
    gi_wp2
    go_wp2
    have f1 : (W.setCell ⟨w.heap.size + 1, 0, none⟩ (.slice none 0 0)).heap[D]? = W.heap[D]? := Below.heap_setCell _ _ _ _ (by simp; omega)
    have f2 : ((W.setCell ⟨w.heap.size + 1, 0, none⟩ (.slice none 0 0)).setCell ⟨w.heap.size + 1 + 1, 0, none⟩ (.int .i64 4)).heap[D]? = some (.deferred (some [])) := (Below.heap_setCell _ _ _ _ (by simp; omega)).trans (f1.trans hK')
    have g8 := ((b8.set (.slice none 0 0)).other (b' := w.heap.size + 1 + 1) (by omega) (.int .i64 4)).1
    have g9 := ((b9.other (b' := w.heap.size + 1) (by omega) (.slice none 0 0)).set (.int .i64 4)).1
    have hBW := (hB.2.setCell (p := ⟨w.heap.size + 1, 0, none⟩) (by show w.heap.size ≤ w.heap.size + 1; omega) (.slice none 0 0)).setCell (p := ⟨w.heap.size + 1 + 1, 0, none⟩) (by show w.heap.size ≤ w.heap.size + 1 + 1; omega) (.int .i64 4)
    generalize (W.setCell ⟨w.heap.size + 1, 0, none⟩ (.slice none 0 0)).setCell ⟨w.heap.size + 1 + 1, 0, none⟩ (.int .i64 4) = W9 at *
    refine ⟨by simp, .inl ⟨_, _, rfl, run_takeDeferred f2, ?_⟩⟩
    have k8 := (put_boxed g8 f2).cell
    have k9 := (put_boxed g9 f2).cell
    refine ⟨.tuple #[.slice none 0 0, .int .i64 4], ?_, ⟨.inr ⟨fun j hj => hnone j (by omega), rfl⟩, hBW.trans (belowK_b (w := w) (Nat.le_refl _) _ D _ _ (by omega) f2 rfl rfl)⟩⟩
    · simp only [results, Tryd.results24]
      go_simp
  case stop =>
    rintro D X c pre W hD hSp ⟨⟨rfl, hpos, hle, hfd, hno⟩, ⟨v, hm, ho, hx⟩, b9, hB⟩ hK'
    have hTsz := yT.size
    gi_wp2
    refine ⟨by simp, .inl ⟨_, _, rfl, run_takeDeferred hK', ?_⟩⟩
    obtain ⟨rA, rn, rc, rfl⟩ : ∃ A k c, v = .slice A k c := by
      rcases ho.2 with ⟨hu, h0⟩ | ⟨g, cap, cur, hu, hg, hh, _⟩
      · exact ⟨none, 0, 0, hu⟩
      · exact ⟨_, _, cap, hu⟩
    have k8 := (put_boxed hm.1 hK').cell
    have k9 := (put_boxed b9.1 hK').cell
    have hr := ownsRow_putObj ho (.deferred none) hK' rfl
    rw [List.length_map] at hr
    refine ⟨.tuple #[.slice rA rn rc, .int .i64 0], ?_, ⟨.inl ⟨pre.length - 1, _, by omega, hfd, hno, rfl, hr⟩, hB.2.trans (belowK_b (w := w) (Nat.le_refl _) _ D _ _ (by omega) hK' rfl rfl)⟩⟩
    · simp only [results, Tryd.results24]
      go_simp
end Go.Proofs.YtphpablchlpagaaDoor
namespace Go.Proofs.YtphpablchlpagaaDoor
open Go.RowKit Go.Shelf
attribute [local go_sem] Oper.semAt_some
/-- The least size among the first k sets, and the word of the first set that has it. -/
def rkS (F : Steps) (n : Nat) : Nat → Nat × List Int
  | 0 => (n, [])
  | k + 1 => if szB F k < (rkS F n k).1 then (szB F k, wordB F k) else rkS F n k
end Go.Proofs.YtphpablchlpagaaDoor
namespace Go.Proofs.YtphpablchlpagaaDoor
open Go.RowKit Go.Shelf
theorem foldl_set (m : List (List Int)) : ∀ (u : List Int) (S : Nat), u.all (inB 0 ((letters m : Int) - 1)) = true → imgWord m S u = (u.map Int.toNat).foldl (imgS m) S
  | [], _, _ => rfl
  | x :: u, S, h => by
    rw [List.all_cons, Bool.and_eq_true] at h
    have h0 : 0 ≤ x := by
      have h1 := h.1
      unfold inB at h1
      simp at h1; omega
    have ih := foldl_set m u (imgSet m S x) h.2
    unfold imgWord at ih ⊢
    have e : imgS m S x.toNat = imgSet m S x := by unfold imgS imgSet; rw [Int.toNat_of_nonneg h0]
    rw [List.foldl_cons, List.map_cons, List.foldl_cons, ih, e]
section
variable {m : List (List Int)}
theorem full_lt (m : List (List Int)) : 2 ^ m.length - 1 < 2 ^ m.length := by have := Nat.two_pow_pos m.length; omega
/-- Where a word leads from all states the search comes by a word that is no longer, nor later. -/
theorem imgF_has (hv : validM m = true) {u : List Int} (hu : u.all (inB 0 ((letters m : Int) - 1)) = true) :
    ∃ j, j < (imgF m).length ∧ plB (imgF m) j = ((imgWord m (2 ^ m.length - 1) u : Nat) : Int) ∧ SLe (wordB (imgF m) j) u := by
  obtain ⟨-, -, -, p4, -⟩ := valid_parts hv
  obtain ⟨j, h1, h2, h3⟩ := word_least (full_lt m) (by omega : letters m ≤ 1000) (fun p x hp hx => imgS_lt hv hp hx) _ (u.map Int.toNat) rfl (nat_word hu)
  rw [← foldl_set m u _ hu] at h2
  have e : ((u.map Int.toNat).map fun x : Nat => (x : Int)) = u := by
    rw [List.map_map]
    refine (List.map_congr_left fun x hx => ?_).trans (List.map_id u)
    have h4 := List.all_eq_true.1 hu x hx
    unfold inB at h4
    simp at h4
    simp; omega
  rw [e] at h3
  exact ⟨j, h1, h2, h3⟩
theorem imgF_word (hv : validM m = true) {j : Nat} (hj : j < (imgF m).length) :
    (wordB (imgF m) j).all (inB 0 ((letters m : Int) - 1)) = true ∧ plB (imgF m) j = ((imgWord m (2 ^ m.length - 1) (wordB (imgF m) j) : Nat) : Int) := by
  obtain ⟨-, -, -, p4, -⟩ := valid_parts hv
  have hg := imgF_good hv
  have hw := word_letters hg.tree (LetB.bfs (imgS m) (letters m) (2 ^ m.length - 1) (2 ^ m.length)) j hj
  refine ⟨hw, ?_⟩
  have h := word_leads (full_lt m) (by omega : letters m ≤ 1000) (fun p x hp hx => imgS_lt hv hp hx) j hj
  rw [foldl_set m _ _ hw]
  exact h
theorem imgF_len (hv : validM m = true) (h12 : m.length ≤ 12) {j : Nat} (hj : j < (imgF m).length) : (wordB (imgF m) j).length ≤ 4096 := by
  have h1 := wordB_len (imgF_good hv).tree j hj
  have h2 := (imgF_good hv).len
  have h3 : 2 ^ m.length ≤ 2 ^ 12 := Nat.pow_le_pow_right (by decide) h12
  omega
theorem imgF_isWord (hv : validM m = true) (h12 : m.length ≤ 12) {j : Nat} (hj : j < (imgF m).length) : isWordM m (wordB (imgF m) j) = true := by
  have h1 := imgF_len hv h12 hj
  simp only [isWordM, Bool.and_eq_true, decide_eq_true_eq]
  exact ⟨by omega, (imgF_word hv hj).1⟩
theorem szB_image (hv : validM m = true) (h12 : m.length ≤ 12) {j : Nat} (hj : j < (imgF m).length) {u : List Int} (hp : plB (imgF m) j = ((imgWord m (2 ^ m.length - 1) u : Nat) : Int)) : (imageM m (allM m.length) u).length = szB (imgF m) j := by
  rw [image_len (by omega), szB, hp, Int.toNat_natCast]
theorem szB_pos (hv : validM m = true) (h12 : m.length ≤ 12) {j : Nat} (hj : j < (imgF m).length) : 1 ≤ szB (imgF m) j := by
  obtain ⟨p1, -⟩ := valid_parts hv
  have hw := imgF_isWord hv h12 hj
  rw [← szB_image hv h12 hj (imgF_word hv hj).2]
  have h := (hasB_all hv hw (t := runM m 0 (wordB (imgF m) j))).2 ⟨0, by omega, rfl⟩
  cases hi : imageM m (allM m.length) (wordB (imgF m) j) with
  | nil => rw [hi] at h; simp [hasB] at h
  | cons a l => simp
theorem imgF_rise (hv : validM m = true) {j k : Nat} (hjk : j < k) (hk : k < (imgF m).length) : SL (wordB (imgF m) j) (wordB (imgF m) k) :=
  words_rise (imgF_good hv).tree (OrdB.bfs (imgS m) (letters m) (2 ^ m.length - 1) (2 ^ m.length)) k j hjk hk
/-- The rank after k sets. -/
theorem rkS_spec {F : Steps} {n : Nat} (h0 : szB F 0 = n) (hw : wordB F 0 = []) : ∀ k, ∃ i, (i < k ∨ i = 0) ∧ (rkS F n k).1 = szB F i ∧ (rkS F n k).2 = wordB F i ∧ (∀ j, j < k → szB F i ≤ szB F j) ∧ ∀ j, j < i → szB F i < szB F j
  | 0 => ⟨0, .inr rfl, h0.symm, hw.symm, fun j hj => by omega, fun j hj => by omega⟩
  | k + 1 => by
    obtain ⟨i, h1, h2, h3, h4, h5⟩ := rkS_spec h0 hw k
    by_cases h : szB F k < (rkS F n k).1
    · have e : rkS F n (k + 1) = (szB F k, wordB F k) := by show (if szB F k < (rkS F n k).1 then _ else _) = _; rw [if_pos h]
      refine ⟨k, .inl (Nat.lt_succ_self k), by rw [e], by rw [e], fun j hj => ?_, fun j hj => ?_⟩
      · by_cases ej : j = k
        · subst ej; exact Nat.le_refl _
        · have := h4 j (by omega); omega
      · have := h4 j hj; omega
    · have e : rkS F n (k + 1) = rkS F n k := by show (if szB F k < (rkS F n k).1 then _ else _) = _; rw [if_neg h]
      refine ⟨i, by omega, by rw [e]; exact h2, by rw [e]; exact h3, fun j hj => ?_, h5⟩
      by_cases ej : j = k
      · subst ej; omega
      · exact h4 j (by omega)
theorem imgF_zero (hv : validM m = true) : 0 < (imgF m).length ∧ szB (imgF m) 0 = m.length ∧ wordB (imgF m) 0 = [] := by
  obtain ⟨p1, p2, -⟩ := valid_parts hv
  obtain ⟨h1, h2⟩ := bfs_zero (imgS m) (letters m) (2 ^ m.length - 1) (2 ^ m.length)
  refine ⟨h1, ?_, wordB_root (imgF_good hv).tree⟩
  unfold szB
  rw [show plB (imgF m) 0 = ((2 ^ m.length - 1 : Nat) : Int) from h2, Int.toNat_natCast, elems_below m.length (by omega)]
  simp
/-- The rank and its word. -/
theorem rank_spec (hv : validM m = true) : ∃ i, i < (imgF m).length ∧ (rkS (imgF m) m.length (imgF m).length).1 = szB (imgF m) i ∧ (rkS (imgF m) m.length (imgF m).length).2 = wordB (imgF m) i ∧
    (∀ j, j < (imgF m).length → szB (imgF m) i ≤ szB (imgF m) j) ∧ ∀ j, j < i → szB (imgF m) i < szB (imgF m) j := by
  obtain ⟨z1, z2, z3⟩ := imgF_zero hv
  obtain ⟨i, h1, h2⟩ := rkS_spec z2 z3 (imgF m).length
  exact ⟨i, by rcases h1 with h1 | h1 <;> omega, h2⟩
end
end Go.Proofs.YtphpablchlpagaaDoor
namespace Go.Proofs.YtphpablchlpagaaDoor
open Go.RowKit Go.Shelf
/-- A slice of truth values, of numbers, in blocks of a kind. -/
def BoolsP (W : World) (P : Nat → Prop) (v : Value) (l : List Bool) : Prop :=
  ∃ A cap, v = .slice A l.length cap ∧ l.length ≤ big ∧ ∀ i, i < l.length → ∃ b off, A = some ⟨b, off, none⟩ ∧ P b ∧ W.cell? ⟨b, off + i, none⟩ = some (.bool (l.getD i false))
def IntsP (W : World) (P : Nat → Prop) (v : Value) (l : List Int) : Prop :=
  ∃ A cap, v = .slice A l.length cap ∧ (A = none → cap = 0) ∧ l.length ≤ big ∧ ∀ i, i < l.length → ∃ b off, A = some ⟨b, off, none⟩ ∧ P b ∧ W.cell? ⟨b, off + i, none⟩ = some (.int .i64 (l.getD i 0))
theorem IntsP.ints {W : World} {P : Nat → Prop} {v : Value} {l : List Int} (h : IntsP W P v l) : Ints W v l := by
  obtain ⟨A, cap, rfl, -, hl, hc⟩ := h
  exact ⟨A, cap, rfl, hl, fun i hi => by obtain ⟨b, off, h1, _, h2⟩ := hc i hi; exact ⟨b, off, h1, h2⟩⟩
theorem BoolsP.kept {W W' : World} {P P' : Nat → Prop} {v : Value} {l : List Bool} (h : BoolsP W P v l) (hk : ∀ b, P b → b < W.heap.size → W'.heap[b]? = W.heap[b]?) (hP : ∀ b, P b → b < W.heap.size → P' b) : BoolsP W' P' v l := by
  obtain ⟨A, cap, rfl, hl, hc⟩ := h
  refine ⟨A, cap, rfl, hl, fun i hi => ?_⟩
  obtain ⟨b, off, h1, h2, h3⟩ := hc i hi
  have hb : b < W.heap.size := World.block_lt_of_cell? _ _ h3
  exact ⟨b, off, h1, hP b h2 hb, (World.cell?_of_block (hk b h2 hb)).trans h3⟩
theorem IntsP.kept {W W' : World} {P P' : Nat → Prop} {v : Value} {l : List Int} (h : IntsP W P v l) (hk : ∀ b, P b → b < W.heap.size → W'.heap[b]? = W.heap[b]?) (hP : ∀ b, P b → b < W.heap.size → P' b) : IntsP W' P' v l := by
  obtain ⟨A, cap, rfl, h0, hl, hc⟩ := h
  refine ⟨A, cap, rfl, h0, hl, fun i hi => ?_⟩
  obtain ⟨b, off, h1, h2, h3⟩ := hc i hi
  have hb : b < W.heap.size := World.block_lt_of_cell? _ _ h3
  exact ⟨b, off, h1, hP b h2 hb, (World.cell?_of_block (hk b h2 hb)).trans h3⟩
/-- One set with its word. -/
def EltP (W : World) (P : Nat → Prop) (n : Nat) (vi vw : Value) (e : Nat × List Int) : Prop := BoolsP W P vi (bitL n e.1) ∧ IntsP W P vw e.2
theorem EltP.kept {W W' : World} {P P' : Nat → Prop} {n : Nat} {vi vw : Value} {e : Nat × List Int} (h : EltP W P n vi vw e) (hk : ∀ b, P b → b < W.heap.size → W'.heap[b]? = W.heap[b]?) (hP : ∀ b, P b → b < W.heap.size → P' b) : EltP W' P' n vi vw e :=
  ⟨h.1.kept hk hP, h.2.kept hk hP⟩
theorem EltP.one {W : World} {P : Nat → Prop} {n : Nat} {vi vw : Value} {e : Nat × List Int} (h : EltP W P n vi vw e) : vi.oneCell' = true ∧ vw.oneCell' = true := by
  obtain ⟨⟨A, c, rfl, _⟩, ⟨A', c', rfl, _⟩⟩ := h
  exact ⟨rfl, rfl⟩
/-- All blocks but one are as they were. -/
def KK (mb : Nat) (w w' : World) : Prop := w.heap.size ≤ w'.heap.size ∧ ∀ b, b < w.heap.size → b ≠ mb → w'.heap[b]? = w.heap[b]?
theorem KK.refl (mb : Nat) (w : World) : KK mb w w := ⟨Nat.le_refl _, fun _ _ _ => rfl⟩
theorem KK.trans {mb : Nat} {w w' w'' : World} (h : KK mb w w') (k : KK mb w' w'') : KK mb w w'' :=
  ⟨Nat.le_trans h.1 k.1, fun b hb hne => (k.2 b (Nat.lt_of_lt_of_le hb h.1) hne).trans (h.2 b hb hne)⟩
theorem KK.below {mb n₀ : Nat} {w w' : World} (h : Below n₀ w w') (hn : n₀ = w.heap.size) : KK mb w w' := by
  subst hn
  exact ⟨h.size, fun b hb _ => h.block b hb⟩
theorem KK.step {mb : Nat} {w w' w'' : World} (h : KK mb w w') (k : Below w'.heap.size w' w'') : KK mb w w'' := h.trans (KK.below k rfl)
theorem KK.set {mb o : Nat} {w w' : World} {u : Value} (h : KK mb w w') : KK mb w (w'.setCell ⟨mb, o, none⟩ u) :=
  ⟨by simp [World.setCell]; exact h.1, fun b hb hne => (Below.heap_setCell _ _ _ _ (by simpa using hne)).trans (h.2 b hb hne)⟩
theorem KK.grown {mb n₀ : Nat} {w w' w5 : World} {v : Option Nat} (h : KK mb w w') (hg : w'.grownBy w5 v) (hv : ∀ g, v = some g → w.heap.size ≤ g) : KK mb w w5 :=
  ⟨Nat.le_trans h.1 hg.size, fun b hb hne => (hg.block b (Nat.lt_of_lt_of_le hb h.1) (fun e => by have := hv b e.symm; omega)).trans (h.2 b hb hne)⟩
theorem KK.cell {mb : Nat} {w w' : World} {a : Addr} {u : Value} (h : KK mb w w') (hc : w.cell? a = some u) (hne : a.block ≠ mb) : w'.cell? a = some u :=
  (World.cell?_of_block (h.2 a.block (World.block_lt_of_cell? _ _ hc) hne)).trans hc
/-- A level: sets with their words; no block of it is mb. -/
def LvlAt (W : World) (mb n : Nat) (v : Value) (L : List (Nat × List Int)) : Prop :=
  ∃ A cap, v = .slice A L.length cap ∧ ∀ i, i < L.length → ∃ b off vi vw, A = some ⟨b, off, none⟩ ∧ b ≠ mb ∧ W.cell? ⟨b, off + i * 2, none⟩ = some vi ∧ W.cell? ⟨b, off + i * 2 + 1, none⟩ = some vw ∧ EltP W (fun b => b ≠ mb) n vi vw (L.getD i (0, []))
theorem LvlAt.kk {W W' : World} {mb n : Nat} {v : Value} {L : List (Nat × List Int)} (h : LvlAt W mb n v L) (k : KK mb W W') : LvlAt W' mb n v L := by
  obtain ⟨A, cap, rfl, hc⟩ := h
  refine ⟨A, cap, rfl, fun i hi => ?_⟩
  obtain ⟨b, off, vi, vw, h1, h2, h3, h4, h5⟩ := hc i hi
  exact ⟨b, off, vi, vw, h1, h2, k.cell h3 h2, k.cell h4 h2, h5.kept (fun b hb hs => k.2 b hs hb) (fun _ h _ => h)⟩
section
variable {m : List (List Int)}
/-- The marks of the sets that were met. -/
def markF (n : Nat) (R : Steps) (c : Nat) : Bool := R.any fun t => codeN n t.1.toNat == c
theorem markF_has {n : Nat} {R : Steps} {T : Nat} (hR : GoodB (2 ^ n) R) (hT : T < 2 ^ n) : markF n R (codeN n T) = hasP R T := by
  unfold markF hasP
  rw [Bool.eq_iff_iff, List.any_eq_true, List.any_eq_true]
  constructor
  · rintro ⟨t, ht, he⟩
    refine ⟨t, ht, ?_⟩
    obtain ⟨i, hi, rfl⟩ := List.mem_iff_getElem.1 ht
    obtain ⟨p, hp, hpn⟩ := hR.below i hi
    unfold plB at hp
    rw [List.getD_eq_getElem?_getD, List.getElem?_eq_getElem hi, Option.getD_some] at hp
    rw [hp, Int.toNat_natCast] at he
    rw [hp, codeN_inj hpn hT (beq_iff_eq.1 he)]
    simp
  · rintro ⟨t, ht, he⟩
    refine ⟨t, ht, ?_⟩
    rw [beq_iff_eq.1 he, Int.toNat_natCast]
    simp
theorem markF_snoc (n : Nat) (R : Steps) (T : Nat) (i x : Int) (c : Nat) : markF n (R ++ [((T : Int), i, x)]) c = if c = codeN n T then true else markF n R c := by
  unfold markF
  rw [List.any_append]
  by_cases h : c = codeN n T
  · rw [if_pos h, h]; simp
  · rw [if_neg h]
    have : (codeN n T == c) = false := beq_eq_false_iff_ne.2 (fun e => h e.symm)
    simp [this]
end
end Go.Proofs.YtphpablchlpagaaDoor
namespace Go.Proofs.YtphpablchlpagaaDoor
open Go.RowKit Go.Shelf
theorem MRows.slice {W : World} {base : Nat} {v : Value} {m : List (List Int)} (h : MRows W base v m) : ∃ A c, v = .slice A m.length c ∧ ∀ g, v.ownBlock = some g → base ≤ g ∧ g < W.heap.size := by
  obtain ⟨xs, ho, _⟩ := h
  rcases ho.2 with ⟨hu, h0⟩ | ⟨g, cap, cur, hu, hg, hh, _⟩
  · exact ⟨none, 0, by rw [hu, h0], fun g' h => by rw [hu] at h; cases h⟩
  · exact ⟨_, cap, hu, fun g' h => by rw [hu] at h; cases h; exact ⟨hg, lt_of_block hh⟩⟩
end Go.Proofs.YtphpablchlpagaaDoor
namespace Go.Proofs.YtphpablchlpagaaDoor
open Go.RowKit Go.Shelf
/-- A trail: a set, the letter taken last, and the rest of the trail; in blocks of a kind. -/
def TrailP (W : World) (P : Nat → Prop) : List Int → Value → Nat → Prop
  | [], v, S => ∃ b, v = .pointer (some ⟨b, 0, none⟩) ∧ P b ∧ W.cell? ⟨b, 0, none⟩ = some (.int .u64 S) ∧ W.cell? ⟨b, 2, none⟩ = some (.pointer none)
  | x :: u, v, S => ∃ b r T, v = .pointer (some ⟨b, 0, none⟩) ∧ P b ∧ W.cell? ⟨b, 0, none⟩ = some (.int .u64 S) ∧ W.cell? ⟨b, 1, none⟩ = some (.int .i64 x) ∧ W.cell? ⟨b, 2, none⟩ = some r ∧ TrailP W P u r T
theorem TrailP.kept {W W' : World} {P P' : Nat → Prop} (hk : ∀ b, P b → b < W.heap.size → W'.heap[b]? = W.heap[b]?) (hP : ∀ b, P b → b < W.heap.size → P' b) : ∀ {u : List Int} {v : Value} {S : Nat}, TrailP W P u v S → TrailP W' P' u v S
  | [], v, S, h => by
    obtain ⟨b, h1, h2, h3, h4⟩ := h
    have hb : b < W.heap.size := World.block_lt_of_cell? _ _ h3
    exact ⟨b, h1, hP b h2 hb, (World.cell?_of_block (hk b h2 hb)).trans h3, (World.cell?_of_block (hk b h2 hb)).trans h4⟩
  | x :: u, v, S, h => by
    obtain ⟨b, r, T, h1, h2, h3, h4, h5, h6⟩ := h
    have hb : b < W.heap.size := World.block_lt_of_cell? _ _ h3
    exact ⟨b, r, T, h1, hP b h2 hb, (World.cell?_of_block (hk b h2 hb)).trans h3, (World.cell?_of_block (hk b h2 hb)).trans h4, (World.cell?_of_block (hk b h2 hb)).trans h5, TrailP.kept hk hP h6⟩
theorem TrailP.ptr {W : World} {P : Nat → Prop} {u : List Int} {v : Value} {S : Nat} (h : TrailP W P u v S) : ∃ b, v = .pointer (some ⟨b, 0, none⟩) ∧ P b ∧ b < W.heap.size ∧ W.cell? ⟨b, 0, none⟩ = some (.int .u64 S) := by
  cases u with
  | nil => obtain ⟨b, h1, h2, h3, _⟩ := h; exact ⟨b, h1, h2, World.block_lt_of_cell? _ _ h3, h3⟩
  | cons x u => obtain ⟨b, r, T, h1, h2, h3, _⟩ := h; exact ⟨b, h1, h2, World.block_lt_of_cell? _ _ h3, h3⟩
theorem TrailP.one {W : World} {P : Nat → Prop} {u : List Int} {v : Value} {S : Nat} (h : TrailP W P u v S) : v.oneCell' = true := by
  obtain ⟨b, rfl, _⟩ := h.ptr; rfl
/-- A level: trails; no block of it is mb. -/
def LvlT (W : World) (mb : Nat) (v : Value) (L : List Tr) : Prop :=
  ∃ A cap, v = .slice A L.length cap ∧ ∀ i, i < L.length → ∃ b off p, A = some ⟨b, off, none⟩ ∧ b ≠ mb ∧ W.cell? ⟨b, off + i, none⟩ = some p ∧ TrailP W (fun b => b ≠ mb) (L.getD i (0, [])).2 p (L.getD i (0, [])).1
theorem LvlT.kk {W W' : World} {mb : Nat} {v : Value} {L : List Tr} (h : LvlT W mb v L) (k : KK mb W W') : LvlT W' mb v L := by
  obtain ⟨A, cap, rfl, hc⟩ := h
  refine ⟨A, cap, rfl, fun i hi => ?_⟩
  obtain ⟨b, off, p, h1, h2, h3, h4⟩ := hc i hi
  exact ⟨b, off, p, h1, h2, k.cell h3 h2, h4.kept (fun b hb hs => k.2 b hs hb) (fun _ h _ => h)⟩
/-- A level that is being made, of the call's own from base on. -/
def MTr (W : World) (base mb : Nat) (v : Value) (L : List Tr) : Prop :=
  ∃ xs : List Value, W.ownsRow base 58 1 v L.length xs ∧ ∀ i, i < L.length → ∃ p, xs[i]? = some p ∧ TrailP W (fun b => b ≠ mb ∧ some b ≠ v.ownBlock) (L.getD i (0, [])).2 p (L.getD i (0, [])).1
theorem MTr.nil (W : World) (base mb : Nat) : MTr W base mb (.slice none 0 0) [] := ⟨[], World.ownsRow_nil _ _ _ _, fun i hi => by simp at hi⟩
theorem MTr.slice {W : World} {base mb : Nat} {v : Value} {L : List Tr} (h : MTr W base mb v L) : ∃ A c, v = .slice A L.length c ∧ ∀ g, v.ownBlock = some g → base ≤ g ∧ g < W.heap.size := by
  obtain ⟨xs, ho, _⟩ := h
  rcases ho.2 with ⟨hu, h0⟩ | ⟨g, cap, cur, hu, hg, hh, _⟩
  · exact ⟨none, 0, by rw [hu, h0], fun g' h => by rw [hu] at h; cases h⟩
  · exact ⟨_, cap, hu, fun g' h => by rw [hu] at h; cases h; exact ⟨hg, lt_of_block hh⟩⟩
/-- All blocks but mb may be needed: those are as they were. -/
theorem MTr.kk {W W' : World} {base mb : Nat} {v : Value} {L : List Tr} (h : MTr W base mb v L) (hm : mb < base) (k : KK mb W W') : MTr W' base mb v L := by
  obtain ⟨xs, ho, hx⟩ := h
  refine ⟨xs, owns_kept ho (fun b hb hs => k.2 b hs (by omega)), fun i hi => ?_⟩
  obtain ⟨p, h1, h3⟩ := hx i hi
  exact ⟨p, h1, h3.kept (fun b hb hs => k.2 b hs hb.1) (fun _ h _ => h)⟩
theorem MTr.lvl {W : World} {base mb : Nat} {v : Value} {L : List Tr} (h : MTr W base mb v L) (hm : mb < base) : LvlT W mb v L := by
  obtain ⟨A, c, hv, hb⟩ := h.slice
  obtain ⟨xs, ho, hx⟩ := h
  refine ⟨A, c, hv, fun i hi => ?_⟩
  obtain ⟨p, h1, h3⟩ := hx i hi
  rcases ho.2 with ⟨hu, h0⟩ | ⟨g, cap, cur, hu, hg, hh, _⟩
  · omega
  · rw [hu] at hv
    simp only [Value.slice.injEq] at hv
    obtain ⟨rfl, -, rfl⟩ := hv
    have k := World.ownsRow.cells ho (g := g) (by rw [hu]; rfl)
    have a1 := k _ _ h1
    simp only [Addr.add] at a1
    refine ⟨g, 0, p, rfl, by omega, ?_, h3.kept (fun _ _ _ => rfl) (fun b hb _ => hb.1)⟩
    by_cases e : i = 0
    · rw [e] at a1 ⊢; simpa using a1
    · simpa [e] using a1
/-- One more, by an append. -/
theorem MTr.pushed {W w5 : World} {base mb : Nat} {v v' p : Value} {L : List Tr} {xs : List Value} {e : Tr} (hx : ∀ i, i < L.length → ∃ p, xs[i]? = some p ∧ TrailP W (fun b => b ≠ mb ∧ some b ≠ v.ownBlock) (L.getD i (0, [])).2 p (L.getD i (0, [])).1) (hxl : xs.length = L.length)
    (he : TrailP W (fun b => b ≠ mb ∧ some b ≠ v.ownBlock) e.2 p e.1) (ho : w5.ownsRow base 58 1 v' (L.length + 1) (xs ++ [p])) (hg : W.grownBy w5 v.ownBlock) (hat : v'.ownBlock = v.ownBlock ∨ v'.ownBlock = some W.heap.size) : MTr w5 base mb v' (L ++ [e]) := by
  refine ⟨xs ++ [p], by simpa using ho, fun i hi => ?_⟩
  have key : ∀ {p : Value} {u : List Int} {S : Nat}, TrailP W (fun b => b ≠ mb ∧ some b ≠ v.ownBlock) u p S → TrailP w5 (fun b => b ≠ mb ∧ some b ≠ v'.ownBlock) u p S := fun h =>
    h.kept (fun b hb hs => hg.block b hs (fun e => hb.2 e)) (fun b hb hs => ⟨hb.1, fun e => by
      rcases hat with h1 | h1
      · exact hb.2 (e.trans h1)
      · rw [h1] at e
        have : b = W.heap.size := by simpa using e
        omega⟩)
  simp only [List.length_append, List.length_cons, List.length_nil] at hi
  by_cases hil : i < L.length
  · obtain ⟨p', h1, h3⟩ := hx i hil
    refine ⟨p', by rw [List.getElem?_append_left (by omega)]; exact h1, ?_⟩
    have e2 : (L ++ [e]).getD i (0, []) = L.getD i (0, []) := by simp [List.getD_eq_getElem?_getD, List.getElem?_append_left hil]
    rw [e2]; exact key h3
  · obtain rfl : i = L.length := by omega
    refine ⟨p, by rw [← hxl]; simp, ?_⟩
    have e2 : (L ++ [e]).getD L.length (0, []) = e := by simp [List.getD_eq_getElem?_getD]
    rw [e2]; exact key he
end Go.Proofs.YtphpablchlpagaaDoor
namespace Go.Proofs.YtphpablchlpagaaDoor
open Go.RowKit Go.Shelf
/-- The table of marks. -/
def MetAt (W : World) (n₀ mb n N : Nat) (R : Steps) : Prop := W.ownsRow n₀ 4 1 (.slice (some ⟨mb, 0, none⟩) N N) N ((Lb N (markF n R)).map fun x => .bool x)
theorem MetAt.kept {W W' : World} {n₀ mb n N : Nat} {R : Steps} (h : MetAt W n₀ mb n N R) (hk : W'.heap[mb]? = W.heap[mb]?) : MetAt W' n₀ mb n N R := owns_block h hk
theorem MetAt.lt {W : World} {n₀ mb n N : Nat} {R : Steps} (h : MetAt W n₀ mb n N R) : n₀ ≤ mb ∧ mb < W.heap.size := ownq_lt h
theorem MetAt.cell {W : World} {n₀ mb n N T c : Nat} {R : Steps} (h : MetAt W n₀ mb n N R) (hN : 2 ^ n = N) (hR : GoodB (2 ^ n) R) (hT : T < 2 ^ n) (hc : codeN n T = c) : W.cell? ⟨mb, c, none⟩ = some (.bool (hasP R T)) := by
  have h1 := codeN_lt n T
  unfold MetAt at h
  rw [h.cellAt _ (by omega), Lb_cell _ (by omega), ← hc, markF_has hR hT]
theorem MetAt.set {W : World} {n₀ mb n N T c : Nat} {R : Steps} (h : MetAt W n₀ mb n N R) (hc : codeN n T = c) (i x : Int) : MetAt (W.setCell ⟨mb, c, none⟩ (.bool true)) n₀ mb n N (R ++ [((T : Int), i, x)]) := by
  have h1 := (World.ownsRow.stored h c (.bool true)).1
  rw [← List.map_set_bool, Lb_set] at h1
  have e : Lb N (fun a => if a = c then true else markF n R a) = Lb N (markF n (R ++ [((T : Int), i, x)])) := Lb_congr fun a _ => by rw [markF_snoc, hc]
  rw [e] at h1
  exact h1
theorem MetAt.free {W : World} {n₀ mb n N : Nat} {R : Steps} (h : MetAt W n₀ mb n N R) (c : Nat) : W.frozen? ⟨mb, c, none⟩ = false := World.ownsRow.frozenAt h c
end Go.Proofs.YtphpablchlpagaaDoor
namespace Go.Proofs.YtphpablchlpagaaDoor
open Go.RowKit Go.Shelf
theorem infoTrailP : (Tryd.prog.info? 58).map (fun i => (i.zero, i.size, i.bytes)) = some (some (.pointer none), 1, 8) := by kernel_rfl
/-- 'append(longer, &trail{..})'. -/
theorem wpList_append_trail {W : World} {ops : Array Oper} {rest : List Oper} {o : Oper} {a : Act} {Q : Exit → Act → World → Prop} (hgd : o.guard = none) (s x : Operand)
    (ho : o.op = .call { callee := .builtin .append, args := #[s, x], argTypes := #[89, 89] }) (base mb : Nat) (v p : Value) (L : List Tr) (e : Tr) (t : TypeId) (w0 : World) (hW : W = w0.alloc (.cells #[p] t)) (k : Nat) (hk : k = w0.heap.size)
    (hs : a.eval s = v) (hM : MTr w0 base mb v L) (hx : a.eval x = .slice (some ⟨k, 0, none⟩) 1 1) (hu : TrailP w0 (fun b => b ≠ mb ∧ some b ≠ v.ownBlock) e.2 p e.1) (hb : base ≤ w0.heap.size) (hlen : L.length ≤ 100000)
    (h : ∀ A c w', MTr w' base mb (.slice A (L.length + 1) c) (L ++ [e]) → Below base w0 w' → w0.heap.size ≤ w'.heap.size → wpList Tryd.prog ops Q rest (a.put o.dst (.slice A (L.length + 1) c)) w') :
    wpList Tryd.prog ops Q (o :: rest) a W := by
  subst hk
  subst hW
  obtain ⟨i0, hi, hz0, hz1, hz2⟩ := info_parts infoTrailP
  obtain ⟨A0, c0, rfl, hblk⟩ := hM.slice
  obtain ⟨xs, hxo, hxx⟩ := id hM
  have hone : ∀ u' ∈ [p], u'.oneCell' = true := by
    intro u' hu'
    obtain rfl : u' = p := by simpa using hu'
    exact hu.one
  refine wpList_append_own_at _ hgd s x 89 ho base 58 i0 (.pointer none) 1 8 Tryd.underlying89 hi hz0 hz1 hz2 rfl (by decide) _ _ _ hs (hxo.alloc _) ⟨w0.heap.size, 0, none⟩ 1 1 [p] hx rfl (cell_one_new _ _ _) hone (by unfold maxLen; omega) (by omega) (by simp; omega) ?_
  intro v' w5 hown' hgrow' _ hat
  obtain ⟨g', cap', rfl⟩ := ownsRow_succ hown'
  have hB : Below base w0 w5 := ((Below.refl _ _).alloc hb _).grown hgrow' (by simp; omega) (fun q hq => (hblk q hq).1)
  refine h _ _ _ ?_ hB hB.size
  exact MTr.pushed (W := w0.alloc (.cells #[p] t)) (base := base) (v := .slice A0 L.length c0) (L := L) (e := e) (xs := xs) (p := p)
    (fun i hi => by obtain ⟨a, h1, h3⟩ := hxx i hi; exact ⟨a, h1, h3.kept (fun q _ hq => Below.heap_alloc _ _ _ hq) (fun _ h _ => h)⟩) (by have := hxo.1; omega)
    (hu.kept (fun q _ hq => Below.heap_alloc _ _ _ hq) (fun _ h _ => h)) hown' hgrow' hat
set_option maxRecDepth 100000 in
set_option maxHeartbeats 4000000 in
theorem word_any (v : Value) (S : Nat) (u : List Int) (w : World) (h : TrailP w (fun _ => True) u v S) (hl : u.length ≤ 5000) :
    Calls Tryd.prog 42 #[v] w fun e w' => ∃ r, e = .returned r ∧ w'.ownsRow w.heap.size 3 1 r u.length (u.map fun x => .int .i64 x) ∧ Below w.heap.size w w' := by
  obtain ⟨j0, hj, hy0, hy1, hy2⟩ := info_parts infoInt
  have HH := hid h
  clear h
  go_enter Tryd.func42, Tryd.ntmps42
  go_wp2_with fail
  go_loopg [0, 3] (u.length + 1) (fun k tv sv wr => ∃ (pre rest : List Int) (T : Nat), pre ++ rest = u ∧ rest.length + 1 = k ∧ TrailP w (fun _ => True) rest tv T ∧ wr.ownsRow w.heap.size 3 1 sv pre.length (pre.map fun x => .int .i64 x) ∧ Below w.heap.size w wr)
  case atStart => exact ⟨[], u, S, rfl, rfl, HH.out, World.ownsRow_nil _ _ _ _, Below.refl _ _⟩
  case round =>
    clear HH
    obtain ⟨pre, rest, T, hpr, hk, hT, hO, hB⟩ := hrel
    have Hpr := hid hpr
    have Hk := hid hk
    obtain ⟨A3, c3', rfl⟩ := ownsRow_slice hO
    have HO := hid hO
    have HT := hid hT
    have hpl : pre.length ≤ 5000 := by rw [← hpr] at hl; simp at hl; omega
    clear hpr hk
    cases rest with
    | nil =>
      obtain ⟨b, rfl, -, c1, c2⟩ := hT
      have d2 := (hB.cell (p := ⟨b, 2, none⟩) (World.block_lt_of_cell? _ _ c2)).trans c2
      clear hO c1 c2
      go_wp2_with fail
      go_ret
      have e : pre = u := by have := Hpr.out; simpa using this
      exact ⟨_, rfl, by rw [← e]; exact HO.out, hB⟩
    | cons x rest =>
      obtain ⟨b, r, T', rfl, -, c1, c2, c3, hT'⟩ := hT
      obtain ⟨b', rfl, -, -, -⟩ := hT'.ptr
      have d2 := (hB.cell (p := ⟨b, 1, none⟩) (World.block_lt_of_cell? _ _ c2)).trans c2
      have d3 := (hB.cell (p := ⟨b, 2, none⟩) (World.block_lt_of_cell? _ _ c3)).trans c3
      have HT' := hid hT'
      have C3 := hid c3
      have hsz := hB.size
      clear c1 c2 c3 hT'
      go_wp2_with (at_builtin; go_must (refine wpList_append_own_at _ rfl _ _ 34 rfl w.heap.size 3 j0 (.int .i64 0) 1 8 Tryd.underlying34 hj hy0 hy1 hy2 rfl (by decide) _ _ _ rfl (hO.alloc _) ⟨wr.heap.size, 0, none⟩ 1 1 [.int .i64 x] rfl rfl (cell_one_new _ _ _) (by simp [Value.oneCell']) (by unfold maxLen; omega) (by omega) (by simp; omega) ?_); intro v' w5 hown' hgrow' _ hat; have kB := appended_below hB hO hsz hgrow'; have e3 := (kB.cell (p := ⟨b, 2, none⟩) (World.block_lt_of_cell? _ _ C3.out)).trans C3.out)
      go_roundg (rest.length + 1)
      case measure => have := Hk.out; simp at this; omega
      case rel => exact ⟨pre ++ [x], rest, T', by rw [List.append_assoc]; exact Hpr.out, by have := Hk.out; simp at this; omega, HT'.out, by simpa using hown', kB⟩
end Go.Proofs.YtphpablchlpagaaDoor
