/-
  Texts that the proof of the law stands on: A17, A18, A19, A20, A9, Valr, A10, A11, P9, A21, A22, A23, A24, A25, Gen.
-/
import Derived.Test.YtbhhemidnmaodaaDoorEaB
import Derived.RegionTactic
import Derived.WideKeyPair
import Derived.Maps.Keyed
import Derived.Deep.WholeRow
import Derived.Shelf.Strconv.AtoiAll
set_option linter.unusedVariables false
set_option linter.unusedSimpArgs false
namespace Go.Proofs.YtbhhemidnmaodaaDoor
open Go.RowKit Go.Shelf
attribute [local go_sem] Oper.semAt_some
set_option maxRecDepth 100000 in
set_option maxHeartbeats 400000 in
theorem Words_fnQ (a : Value) (p q : Value) (ha : a = .agg #[p, q]) (K : Int) (gf : Nat) (lb : Array Value) (w : World) (hp : p.oneCell' = true) (hq : q.oneCell' = true) :
    Calls Tryd.prog 57 #[a, .int .i64 K, .func (.func gf) #[] lb] w fun e w' => e = .returned (.func (.func 70) #[] #[.pointer (some ⟨w.heap.size, 0, none⟩), .pointer (some ⟨w.heap.size + 1, 0, none⟩), .pointer (some ⟨w.heap.size + 1 + 1, 0, none⟩)]) ∧
      w' = ((w.alloc (.cells #[p, q] 70)).alloc (.cells #[.int .i64 K] 3)).alloc (.cells #[.func (.func gf) #[] lb] 74) := by
  subst ha
  go_enter Tryd.func57, Tryd.ntmps57
  go_wp2
  go_ret
  exact ⟨rfl, rfl⟩
theorem Stable.toE {B : Nat} {β : Type} {I : Blocks → β → World → Prop} (h : Stable B I) : StableE B I := fun X s W W' hI h1 h2 h3 h4 h5 => h X X s W W' hI h1 h2 h3 h4 (fun k o hk _ hc => h5 k o hk hc) (fun k hk => .inl hk)
set_option maxRecDepth 100000 in
set_option maxHeartbeats 4000000 in
theorem First_Q (c : Cd) (ld : Nat → Nat → Nat) (n K s ba bb bd : Nat) (fnd : Int → Bool) (w : World) (hcok : c.ok n) (hn60 : n ≤ 5000) (hK : K ≤ 1000) (hs : s < n) (hld : ∀ p x, p < n → x < K → ld p x < n)
    (hlead : ∀ (p x : Nat) (W : World), Below w.heap.size w W → fnd p = false → p < n → x < K → Calls Tryd.prog 42 #[.agg #[.int .i64 (c.x p), .int .i64 (c.y p)], .int .i64 (x : Nat), .pointer (some ⟨ba, 0, none⟩), .pointer (some ⟨bb, 0, none⟩), .pointer (some ⟨bd, 0, none⟩)] W fun e W' => e = .returned (.agg #[.int .i64 (c.x (ld p x : Nat)), .int .i64 (c.y (ld p x : Nat))]) ∧ Below W.heap.size W W')
    (hfound : ∀ (p : Nat) (W : World), p < n → Below w.heap.size w W → Calls Tryd.prog 44 #[.agg #[.int .i64 (c.x p), .int .i64 (c.y p)], .pointer (some ⟨bd, 0, none⟩)] W fun e W' => e = .returned (.bool (fnd p)) ∧ Below W.heap.size W W') :
    Calls Tryd.prog 43 #[.agg #[.int .i64 (c.x s), .int .i64 (c.y s)], .int .i64 K, .func (.func 42) #[] #[.pointer (some ⟨ba, 0, none⟩), .pointer (some ⟨bb, 0, none⟩), .pointer (some ⟨bd, 0, none⟩)], .func (.func 44) #[] #[.pointer (some ⟨bd, 0, none⟩)]] w (FirstIs (bfsTo ld K s n) fnd w) := by
  have Hlead := hid hlead
  have Hfound := hid hfound
  have hgood := GoodB.bfs (n := n) (K := K) (s := s) (ld := ld) hs hK hld n
  clear hlead hfound
  refine (callsIn_wide (n := 0)).1 ?_
  refine callsIn_of_wp_marks Tryd.func43 rfl trivial ?_ rfl
  simp only [Tryd.ntmps43, List.size_toArray, List.length_cons, List.length_nil, Nat.reduceAdd, Nat.reduceSub, Array.replicate_succ, Array.replicate_zero, List.push_toArray, List.append_toArray, List.nil_append, List.cons_append]
  refine wpIn_wide.2 ?_
  go_wp2_with fail
  refine (Words_fnQ _ (.int .i64 (c.x s)) (.int .i64 (c.y s)) rfl K _ _ _ rfl rfl).mono ?_
  rintro e w2 ⟨rfl, rfl⟩
  have q7 := Boxed.new (w.alloc (.cells #[.int .i64 (c.x s), .int .i64 (c.y s)] 70)) 76 (.func (.func 44) #[] #[.pointer (some ⟨bd, 0, none⟩)])
  have q8 := Boxed.new ((w.alloc (.cells #[.int .i64 (c.x s), .int .i64 (c.y s)] 70)).alloc (.cells #[.func (.func 44) #[] #[.pointer (some ⟨bd, 0, none⟩)]] 76)) 27 (.slice none 0 0)
  have q9 := Boxed.new (((w.alloc (.cells #[.int .i64 (c.x s), .int .i64 (c.y s)] 70)).alloc (.cells #[.func (.func 44) #[] #[.pointer (some ⟨bd, 0, none⟩)]] 76)).alloc (.cells #[.slice none 0 0] 27)) 4 (.bool false)
  have p1 : PBox c (((((w.alloc (.cells #[.int .i64 (c.x s), .int .i64 (c.y s)] 70)).alloc (.cells #[.func (.func 44) #[] #[.pointer (some ⟨bd, 0, none⟩)]] 76)).alloc (.cells #[.slice none 0 0] 27)).alloc (.cells #[.bool false] 4)).alloc (.cells #[.int .i64 (c.x s), .int .i64 (c.y s)] 70)) (((((w.alloc (.cells #[.int .i64 (c.x s), .int .i64 (c.y s)] 70)).alloc (.cells #[.func (.func 44) #[] #[.pointer (some ⟨bd, 0, none⟩)]] 76)).alloc (.cells #[.slice none 0 0] 27)).alloc (.cells #[.bool false] 4))).heap.size s := World.alloc_heap_new ((((w.alloc (.cells #[.int .i64 (c.x s), .int .i64 (c.y s)] 70)).alloc (.cells #[.func (.func 44) #[] #[.pointer (some ⟨bd, 0, none⟩)]] 76)).alloc (.cells #[.slice none 0 0] 27)).alloc (.cells #[.bool false] 4)) (.cells #[.int .i64 (c.x s), .int .i64 (c.y s)] 70)
  have p2 := Boxed.new (((((w.alloc (.cells #[.int .i64 (c.x s), .int .i64 (c.y s)] 70)).alloc (.cells #[.func (.func 44) #[] #[.pointer (some ⟨bd, 0, none⟩)]] 76)).alloc (.cells #[.slice none 0 0] 27)).alloc (.cells #[.bool false] 4)).alloc (.cells #[.int .i64 (c.x s), .int .i64 (c.y s)] 70)) 3 (.int .i64 K)
  have p3 := Boxed.new ((((((w.alloc (.cells #[.int .i64 (c.x s), .int .i64 (c.y s)] 70)).alloc (.cells #[.func (.func 44) #[] #[.pointer (some ⟨bd, 0, none⟩)]] 76)).alloc (.cells #[.slice none 0 0] 27)).alloc (.cells #[.bool false] 4)).alloc (.cells #[.int .i64 (c.x s), .int .i64 (c.y s)] 70)).alloc (.cells #[.int .i64 K] 3)) 74 (.func (.func 42) #[] #[.pointer (some ⟨ba, 0, none⟩), .pointer (some ⟨bb, 0, none⟩), .pointer (some ⟨bd, 0, none⟩)])
  have yT : Below w.heap.size w (((((((w.alloc (.cells #[.int .i64 (c.x s), .int .i64 (c.y s)] 70)).alloc (.cells #[.func (.func 44) #[] #[.pointer (some ⟨bd, 0, none⟩)]] 76)).alloc (.cells #[.slice none 0 0] 27)).alloc (.cells #[.bool false] 4)).alloc (.cells #[.int .i64 (c.x s), .int .i64 (c.y s)] 70)).alloc (.cells #[.int .i64 K] 3)).alloc (.cells #[.func (.func 42) #[] #[.pointer (some ⟨ba, 0, none⟩), .pointer (some ⟨bb, 0, none⟩), .pointer (some ⟨bd, 0, none⟩)]] 74)) := bal (bal (bal (bal (bal (bal (bal (Below.refl _ _) _) _) _) _) _) _) _
  have q7 := ((((q7.alloc (.cells #[.slice none 0 0] 27)).alloc (.cells #[.bool false] 4)).alloc (.cells #[.int .i64 (c.x s), .int .i64 (c.y s)] 70)).alloc (.cells #[.int .i64 K] 3)).alloc (.cells #[.func (.func 42) #[] #[.pointer (some ⟨ba, 0, none⟩), .pointer (some ⟨bb, 0, none⟩), .pointer (some ⟨bd, 0, none⟩)]] 74)
  have q8 := (((q8.alloc (.cells #[.bool false] 4)).alloc (.cells #[.int .i64 (c.x s), .int .i64 (c.y s)] 70)).alloc (.cells #[.int .i64 K] 3)).alloc (.cells #[.func (.func 42) #[] #[.pointer (some ⟨ba, 0, none⟩), .pointer (some ⟨bb, 0, none⟩), .pointer (some ⟨bd, 0, none⟩)]] 74)
  have q9 := ((q9.alloc (.cells #[.int .i64 (c.x s), .int .i64 (c.y s)] 70)).alloc (.cells #[.int .i64 K] 3)).alloc (.cells #[.func (.func 42) #[] #[.pointer (some ⟨ba, 0, none⟩), .pointer (some ⟨bb, 0, none⟩), .pointer (some ⟨bd, 0, none⟩)]] 74)
  have p2 := p2.alloc (.cells #[.func (.func 42) #[] #[.pointer (some ⟨ba, 0, none⟩), .pointer (some ⟨bb, 0, none⟩), .pointer (some ⟨bd, 0, none⟩)]] 74)
  have p1 : PBox c (((((((w.alloc (.cells #[.int .i64 (c.x s), .int .i64 (c.y s)] 70)).alloc (.cells #[.func (.func 44) #[] #[.pointer (some ⟨bd, 0, none⟩)]] 76)).alloc (.cells #[.slice none 0 0] 27)).alloc (.cells #[.bool false] 4)).alloc (.cells #[.int .i64 (c.x s), .int .i64 (c.y s)] 70)).alloc (.cells #[.int .i64 K] 3)).alloc (.cells #[.func (.func 42) #[] #[.pointer (some ⟨ba, 0, none⟩), .pointer (some ⟨bb, 0, none⟩), .pointer (some ⟨bd, 0, none⟩)]] 74)) (((((w.alloc (.cells #[.int .i64 (c.x s), .int .i64 (c.y s)] 70)).alloc (.cells #[.func (.func 44) #[] #[.pointer (some ⟨bd, 0, none⟩)]] 76)).alloc (.cells #[.slice none 0 0] 27)).alloc (.cells #[.bool false] 4))).heap.size s := ((bal (bal (Below.refl _ (((((w.alloc (.cells #[.int .i64 (c.x s), .int .i64 (c.y s)] 70)).alloc (.cells #[.func (.func 44) #[] #[.pointer (some ⟨bd, 0, none⟩)]] 76)).alloc (.cells #[.slice none 0 0] 27)).alloc (.cells #[.bool false] 4)).alloc (.cells #[.int .i64 (c.x s), .int .i64 (c.y s)] 70))) (.cells #[.int .i64 K] 3)) (.cells #[.func (.func 42) #[] #[.pointer (some ⟨ba, 0, none⟩), .pointer (some ⟨bb, 0, none⟩), .pointer (some ⟨bd, 0, none⟩)]] 74)).block _ p1.lt).trans p1
  have hTs : (((((((w.alloc (.cells #[.int .i64 (c.x s), .int .i64 (c.y s)] 70)).alloc (.cells #[.func (.func 44) #[] #[.pointer (some ⟨bd, 0, none⟩)]] 76)).alloc (.cells #[.slice none 0 0] 27)).alloc (.cells #[.bool false] 4)).alloc (.cells #[.int .i64 (c.x s), .int .i64 (c.y s)] 70)).alloc (.cells #[.int .i64 K] 3)).alloc (.cells #[.func (.func 42) #[] #[.pointer (some ⟨ba, 0, none⟩), .pointer (some ⟨bb, 0, none⟩), .pointer (some ⟨bd, 0, none⟩)]] 74)).heap.size = w.heap.size + 7 := by simp only [World.size_alloc]
  simp only [World.size_alloc] at q7 q8 q9 p1 p2 p3
  generalize hTT : (((((((w.alloc (.cells #[.int .i64 (c.x s), .int .i64 (c.y s)] 70)).alloc (.cells #[.func (.func 44) #[] #[.pointer (some ⟨bd, 0, none⟩)]] 76)).alloc (.cells #[.slice none 0 0] 27)).alloc (.cells #[.bool false] 4)).alloc (.cells #[.int .i64 (c.x s), .int .i64 (c.y s)] 70)).alloc (.cells #[.int .i64 K] 3)).alloc (.cells #[.func (.func 42) #[] #[.pointer (some ⟨ba, 0, none⟩), .pointer (some ⟨bb, 0, none⟩), .pointer (some ⟨bd, 0, none⟩)]] 74)) = T at *
  clear hTT
  go_wp2_with fail
  have hXT : ∀ k, (k = w.heap.size + 1 + 1 + 1 + 1 ∨ k = w.heap.size + 1 + 1 + 1 + 1 + 1 ∨ k = w.heap.size + 1 + 1 + 1 + 1 + 1 + 1) → k < T.heap.size := fun k hk => by omega
  have hseq := Words_seqQ c (fun j => fnd (plB (bfsTo ld K s n) j) = false) ld n K s ba bb bd _ _ _ w.heap.size (fun W => Below w.heap.size w W) T (fun k => k = w.heap.size + 1 + 1 + 1 + 1 ∨ k = w.heap.size + 1 + 1 + 1 + 1 + 1 ∨ k = w.heap.size + 1 + 1 + 1 + 1 + 1 + 1) hcok hn60 hK hs hld (.inl rfl) (.inr (.inl rfl)) (.inr (.inr rfl)) hXT yT.size (fun W W' h k => h.trans (k.below h.size)) yT (fun i p x W hW hg hi hp => Hlead.out p x W hW (by rw [← hp]; exact hg)) p1 p2.cell p3.cell
  have hbel := hid hgood.below
  clear hgood
  generalize bfsTo ld K s n = F at *
  refine (wpIn_wide (n := 0)).1 ?_
  refine range_lawF (gf := 70) (fb := #[]) (lb := #[.pointer (some ⟨w.heap.size + 1 + 1 + 1 + 1, 0, none⟩), .pointer (some ⟨w.heap.size + 1 + 1 + 1 + 1 + 1, 0, none⟩), .pointer (some ⟨w.heap.size + 1 + 1 + 1 + 1 + 1 + 1, 0, none⟩)]) rfl (enters_of Tryd.func70 (by kernel_rfl) rfl)
    hseq hXT (fun _ _ _ _ h k => h.keep k) yT.size (Below.refl _ _) (fun _ => rfl)
    (fun X pre W => (NoneYet F fnd pre.length ∧ Mine X W (w.heap.size + 1) 76 (.func (.func 44) #[] #[.pointer (some ⟨bd, 0, none⟩)])) ∧ (Mine X W (w.heap.size + 1 + 1) 27 (.slice none 0 0) ∧ (Mine X W (w.heap.size + 1 + 1 + 1) 4 (.bool false) ∧ Base w.heap.size w X W)))
    (fun c X pre W => (c = .ret ∧ 0 < pre.length ∧ pre.length ≤ F.length ∧ fnd (plB F (pre.length - 1)) = true ∧ NoneYet F fnd (pre.length - 1)) ∧ (MineRow w.heap.size X W (w.heap.size + 1 + 1) 27 3 ((wordB F (pre.length - 1)).map fun x => .int .i64 x) ∧ (Mine X W (w.heap.size + 1 + 1 + 1) 4 (.bool true) ∧ Base w.heap.size w X W)))
    (fun X pre W h => h.1.1)
    (Stable.and (Stable.and (stable_pure _ (fun pre : List (Nat × Value) => NoneYet F fnd pre.length)) (stable_box _ _ _ (fun _ => _))) (Stable.and (stable_box _ _ _ (fun _ => _)) (Stable.and (stable_box _ _ _ (fun _ => _)) (stable_base _ _ _ yT.size (Nat.le_refl _)))))
    (fun c => (Stable.and (stable_pure _ (fun pre : List (Nat × Value) => c = .ret ∧ 0 < pre.length ∧ pre.length ≤ F.length ∧ fnd (plB F (pre.length - 1)) = true ∧ NoneYet F fnd (pre.length - 1))) (Stable.and (stable_row _ _ _ _ _ (fun pre : List (Nat × Value) => (wordB F (pre.length - 1)).map fun x => .int .i64 x)) (Stable.and (stable_box _ _ _ (fun _ => _)) (stable_base _ _ _ yT.size (Nat.le_refl _))))).toE)
    ⟨⟨fun j hj => absurd hj (Nat.not_lt_zero j), ⟨q7, fun h => by omega⟩⟩, ⟨q8, fun h => by omega⟩, ⟨q9, fun h => by omega⟩, ⟨fun k hk => by omega, yT⟩⟩
    (fun X x a' W => ∃ bp, PBox c W bp (plB F x.1) ∧ a' = { tmps := #[.agg #[.int .i64 (c.x s), .int .i64 (c.y s)], .int .i64 K, .func (.func 42) #[] #[.pointer (some ⟨ba, 0, none⟩), .pointer (some ⟨bb, 0, none⟩), .pointer (some ⟨bd, 0, none⟩)], .func (.func 44) #[] #[.pointer (some ⟨bd, 0, none⟩)], .pointer (some ⟨w.heap.size, 0, none⟩), undef, undef, .pointer (some ⟨w.heap.size + 1, 0, none⟩), .pointer (some ⟨w.heap.size + 1 + 1, 0, none⟩), .pointer (some ⟨w.heap.size + 1 + 1 + 1, 0, none⟩), .pointer (some ⟨bp, 0, none⟩), x.2, .agg #[.int .i64 (c.x s), .int .i64 (c.y s)], .int .i64 K, .func (.func 42) #[] #[.pointer (some ⟨ba, 0, none⟩), .pointer (some ⟨bb, 0, none⟩), .pointer (some ⟨bd, 0, none⟩)], .func (.func 70) #[] #[.pointer (some ⟨w.heap.size + 1 + 1 + 1 + 1, 0, none⟩), .pointer (some ⟨w.heap.size + 1 + 1 + 1 + 1 + 1, 0, none⟩), .pointer (some ⟨w.heap.size + 1 + 1 + 1 + 1 + 1 + 1, 0, none⟩)], .agg #[.int .i64 (c.x (plB F x.1)), .int .i64 (c.y (plB F x.1))], x.2, undef, undef, undef, undef, undef], defers := [] })
    ?ax ?assign ?body ?done ?stop
  case ax =>
    rintro X x a' W l o o' ⟨bp, h1, h3⟩ _ hl hc
    refine ⟨bp, (World.putObj_heap_other (fun e => ?_)).trans h1, h3⟩
    subst e
    unfold PBox at h1
    rw [hl] at h1
    cases h1
    cases hc
  case assign =>
    intro l X pre x W K' hXs hi hG hK'
    obtain ⟨⟨i1, i2⟩, i3, i4, i5⟩ := hi
    have hsW := i5.2.size
    unfold encQ
    gi_wp2
    have hb := bal (Below.refl _ W) (.cells #[.int .i64 (c.x (plB F x.1)), .int .i64 (c.y (plB F x.1))] 70)
    exact hK' _ _ (kf_below hb) (Keep.of_below hb) ⟨⟨i1, i2.below hb⟩, i3.below hb, i4.below hb, i5.step (hb.mono (by omega))⟩ ⟨W.heap.size, World.alloc_heap_new _ _, rfl⟩
  case body =>
    rintro l X pre ⟨i, fv⟩ a' W hl hrec hXl hXs ⟨⟨hnone, b7⟩, b8, b9, hB⟩ hG ⟨bp, hbp, rfl⟩ hsp
    obtain ⟨k, hk, hkr⟩ := hsp
    obtain ⟨hk1, hix⟩ := sp_last hkr
    simp only at hix
    subst hix
    obtain ⟨c6, c7, g, cap, B', base, hfv, _⟩ := id hG
    simp only at hfv
    subst hfv
    have hword := word_anyQ c F X _ c6 c7 W hG
    obtain ⟨p, hp, hpn⟩ := hbel.out pre.length (by omega)
    simp only at hbp
    have hF := Hfound.out p W hpn hB.2
    rw [hp] at hbp
    obtain ⟨y1, y2⟩ := hbp.cells
    have m7 := b7.cell; have m8 := b8.cell; have m8f := b8.frozen; have m9 := b9.cell; have m9f := b9.frozen
    have hpf : fnd (plB F pre.length) = fnd (p : Int) := by rw [hp]
    cases hf : fnd (p : Int) with
    | false =>
      rw [hf] at hF hpf
      gi_wp2_with fail
      refine ⟨trivial, rfl, (inr l _ hF).mono ?_⟩
      rintro e w' ⟨rfl, hb'⟩
      gi_wp2
      refine ⟨kf_below hb', Keep.of_below hb', ⟨fun j hj => ?_, b7.below hb'⟩, b8.below hb', b9.below hb', hB.step (hb'.mono hB.2.size)⟩
      by_cases e : j < pre.length
      · exact hnone j e
      · obtain rfl : j = pre.length := by simp at hj; omega
        exact hpf
    | true =>
      rw [hf] at hF hpf
      have hlt9 := b9.lt
      have hWb : w.heap.size ≤ W.heap.size := hB.2.size
      gi_wp2_with fail
      refine ⟨trivial, rfl, (inr l _ hF).mono ?_⟩
      rintro e w' ⟨rfl, hb'⟩
      have hG' := hG.keep (n₀ := 0) (Keep.of_below hb')
      have hword := word_anyQ c F X _ c6 c7 w' hG'
      have b7 := b7.below hb'; have b8 := b8.below hb'; have b9 := b9.below hb'
      have hB' := hB.step (X := X) (hb'.mono hWb)
      have hWb' : w.heap.size ≤ w'.heap.size := by have := hb'.size; omega
      gi_wp2_with fail
      refine ⟨trivial, rfl, (inr l _ hword).mono ?_⟩
      rintro e w3 ⟨r, rfl, hr, hb3⟩
      have d8 := b8.below hb3
      have d9 := b9.below hb3
      have e8 := d8.cell; have e8f := d8.frozen; have e9 := d9.cell; have e9f := d9.frozen
      have hrb : ∀ g, r.ownBlock = some g → w'.heap.size ≤ g ∧ g < w3.heap.size := row_blk2 hr
      obtain ⟨rA, rn, rc, rfl⟩ : ∃ A k c, r = .slice A k c := by
        rcases hr.2 with ⟨hu, h0⟩ | ⟨g, cap, cur, hu, hg, hh, _⟩
        · exact ⟨none, 0, 0, hu⟩
        · exact ⟨_, _, cap, hu⟩
      have Hr := hid (row_mono hr hWb')
      have hlt9' := b9.lt
      have hsb := hb'.size
      clear hr hword
      gi_wp2
      have hpl : (pre ++ [((pre.length : Nat), Value.func (.func 71) #[] #[.pointer (some ⟨c6, 0, none⟩), .pointer (some ⟨c7, 0, none⟩)])]).length = pre.length + 1 := by simp
      refine ⟨((kf_below hb').trans (kf_below hb3)).trans ((kf_set _ _ _ _).trans (kf_set _ _ _ _)), ((Keep.of_below hb').trans (Keep.of_below hb3)).trans ((keep_set _ _ _ (by omega) b8.2).trans (keep_set _ _ _ (by omega) b9.2)), ⟨rfl, by omega, by omega, by rw [hpl]; exact hpf, by rw [hpl]; exact hnone⟩, ⟨_, (d8.set _).other (by omega) _, ?_, fun j hj hXj => ?_⟩, (d9.other (by omega) _).set _, hB'.step ?_⟩
      · rw [hpl, List.length_map]
        refine ownsRow_same Hr.out fun g hg => ?_
        have := hrb g hg
        rw [Below.heap_setCell _ _ _ _ (by simp; omega), Below.heap_setCell _ _ _ _ (by simp; omega)]
      · have h1 := hrb j hj
        have h2 := hXs j hXj
        omega
      · exact (((hb3.mono hWb')).setCell (p := ⟨w.heap.size + 1 + 1, 0, none⟩) (by show w.heap.size ≤ w.heap.size + 1 + 1; omega) _).setCell (p := ⟨w.heap.size + 1 + 1 + 1, 0, none⟩) (by show w.heap.size ≤ w.heap.size + 1 + 1 + 1; omega) _
  case done =>
    rintro D X xs W hD hS ⟨⟨hnone, b7⟩, b8, b9, hB⟩ hK'
    have m8 := b8.cell; have m8f := b8.frozen; have m9 := b9.cell; have m9f := b9.frozen
    have hlen : xs.length = F.length := by have := congrArg List.length hS; simpa using this
    have hTsz := yT.size
    have hDw := (Array.getElem?_eq_some_iff.1 hK').1
    gi_wp2
    go_wp2
    have f1 : (W.setCell ⟨w.heap.size + 1 + 1, 0, none⟩ (.slice none 0 0)).heap[D]? = W.heap[D]? := Below.heap_setCell _ _ _ _ (by simp; omega)
    have f2 : ((W.setCell ⟨w.heap.size + 1 + 1, 0, none⟩ (.slice none 0 0)).setCell ⟨w.heap.size + 1 + 1 + 1, 0, none⟩ (.bool false)).heap[D]? = some (.deferred (some [])) := (Below.heap_setCell _ _ _ _ (by simp; omega)).trans (f1.trans hK')
    have g8 := ((b8.set (.slice none 0 0)).other (b' := w.heap.size + 1 + 1 + 1) (by omega) (.bool false)).1
    have g9 := ((b9.other (b' := w.heap.size + 1 + 1) (by omega) (.slice none 0 0)).set (.bool false)).1
    have hBW := (hB.2.setCell (p := ⟨w.heap.size + 1 + 1, 0, none⟩) (by show w.heap.size ≤ w.heap.size + 1 + 1; omega) (.slice none 0 0)).setCell (p := ⟨w.heap.size + 1 + 1 + 1, 0, none⟩) (by show w.heap.size ≤ w.heap.size + 1 + 1 + 1; omega) (.bool false)
    generalize (W.setCell ⟨w.heap.size + 1 + 1, 0, none⟩ (.slice none 0 0)).setCell ⟨w.heap.size + 1 + 1 + 1, 0, none⟩ (.bool false) = W9 at *
    refine ⟨by simp, .inl ⟨_, _, rfl, run_takeDeferred f2, ?_⟩⟩
    have k8 := (put_boxed g8 f2).cell
    have k9 := (put_boxed g9 f2).cell
    refine ⟨.tuple #[.slice none 0 0, .bool false], ?_, ⟨.inr ⟨fun j hj => hnone j (by omega), rfl⟩, hBW.trans (belowK_b (w := w) (Nat.le_refl _) _ D _ _ (by omega) f2 rfl rfl)⟩⟩
    · simp only [results, Tryd.results43]
      go_simp
  case stop =>
    rintro D X c pre W hD hSp ⟨⟨rfl, hpos, hle, hfd, hno⟩, ⟨v, hm, ho, hx⟩, b9, hB⟩ hK'
    have hTsz := yT.size
    gi_wp2
    refine ⟨by simp, .inl ⟨_, _, rfl, run_takeDeferred hK', ?_⟩⟩
    obtain ⟨rA, rn, rc, rfl⟩ : ∃ A k c, v = .slice A k c := by
      rcases ho.2 with ⟨hu, h0⟩ | ⟨g, cap, cur, hu, hg, hh, _⟩
      · exact ⟨none, 0, 0, hu⟩
      · exact ⟨_, _, cap, hu⟩
    have k8 := (put_boxed hm.1 hK').cell
    have k9 := (put_boxed b9.1 hK').cell
    have hr := ownsRow_putObj ho (.deferred none) hK' rfl
    rw [List.length_map] at hr
    refine ⟨.tuple #[.slice rA rn rc, .bool true], ?_, ⟨.inl ⟨pre.length - 1, _, by omega, hfd, hno, rfl, hr⟩, hB.2.trans (belowK_b (w := w) (Nat.le_refl _) _ D _ _ (by omega) hK' rfl rfl)⟩⟩
    · simp only [results, Tryd.results43]
      go_simp
end Go.Proofs.YtbhhemidnmaodaaDoor
namespace Go.Proofs.YtbhhemidnmaodaaDoor
open Go.RowKit Go.Shelf
/-- How pairs are numbered. -/
def cdY (ma mb : List (List Int)) : Cd := ⟨fun p => if p = (offP ma mb : Nat) then -1 else ((p.toNat / mb.length : Nat) : Int), fun p => if p = (offP ma mb : Nat) then -1 else ((p.toNat % mb.length : Nat) : Int)⟩
theorem cdY_off (ma mb : List (List Int)) : (cdY ma mb).x (offP ma mb : Nat) = -1 ∧ (cdY ma mb).y (offP ma mb : Nat) = -1 := by simp [cdY]
theorem cdY_pair {ma mb : List (List Int)} {p q : Nat} (hp : p < ma.length) (hq : q < mb.length) : (cdY ma mb).x (pairP mb p q : Nat) = p ∧ (cdY ma mb).y (pairP mb p q : Nat) = q := by
  have h := pairP_lt hp hq
  obtain ⟨h1, h2⟩ := pairP_div (p := p) hq
  have hne : ¬ ((pairP mb p q : Nat) : Int) = (offP ma mb : Nat) := by omega
  constructor
  · show (if _ then _ else _) = _
    rw [if_neg hne, Int.toNat_natCast, h1]
  · show (if _ then _ else _) = _
    rw [if_neg hne, Int.toNat_natCast, h2]
theorem cdY_ok {ma mb : List (List Int)} (ha : ma.length ≤ 60) (hb : mb.length ≤ 60) : (cdY ma mb).ok (offP ma mb + 1) := by
  have key : ∀ p, p < offP ma mb + 1 → p = offP ma mb ∨ ∃ a b, a < ma.length ∧ b < mb.length ∧ p = pairP mb a b := fun p hp => by
    by_cases e : p = offP ma mb
    · exact .inl e
    · obtain ⟨k1, k2, k3⟩ := pair_of (show p < offP ma mb by omega)
      exact .inr ⟨_, _, k1, k2, k3⟩
  refine ⟨fun p hp => ?_, fun p q hp hq h1 h2 => ?_⟩
  · rcases key p hp with rfl | ⟨a, b, ka, kb, rfl⟩
    · rw [(cdY_off ma mb).1, (cdY_off ma mb).2]; omega
    · rw [(cdY_pair ka kb).1, (cdY_pair ka kb).2]; omega
  · rcases key p hp with rfl | ⟨a, b, ka, kb, rfl⟩ <;> rcases key q hq with rfl | ⟨a', b', ka', kb', rfl⟩
    · rfl
    · rw [(cdY_off ma mb).1, (cdY_pair ka' kb').1] at h1; omega
    · rw [(cdY_off ma mb).1, (cdY_pair ka kb).1] at h1; omega
    · rw [(cdY_pair ka kb).1, (cdY_pair ka' kb').1] at h1
      rw [(cdY_pair ka kb).2, (cdY_pair ka' kb').2] at h2
      rw [show a = a' by omega, show b = b' by omega]
/-- Two machines in their boxes, and the pair that stands for different outputs. -/
structure EqMem (W : World) (va ua vb ub : Value) (ma oa mb ob : List (List Int)) (ba bb bd : Nat) : Prop where
  r1 : Rows W va ma
  r2 : Rows W ua oa
  r3 : Rows W vb mb
  r4 : Rows W ub ob
  a0 : W.cell? ⟨ba, 0, none⟩ = some va
  a1 : W.cell? ⟨ba, 1, none⟩ = some ua
  b0 : W.cell? ⟨bb, 0, none⟩ = some vb
  b1 : W.cell? ⟨bb, 1, none⟩ = some ub
  d0 : W.cell? ⟨bd, 0, none⟩ = some (.int .i64 (-1))
  d1 : W.cell? ⟨bd, 1, none⟩ = some (.int .i64 (-1))
theorem EqMem.below {W W' : World} {va ua vb ub : Value} {ma oa mb ob : List (List Int)} {ba bb bd : Nat} (h : EqMem W va ua vb ub ma oa mb ob ba bb bd) (hb : Below W.heap.size W W') : EqMem W' va ua vb ub ma oa mb ob ba bb bd := by
  have key : ∀ {p : Addr} {z : Value}, W.cell? p = some z → W'.cell? p = some z := fun hz => (hb.cell (World.block_lt_of_cell? _ _ hz)).trans hz
  exact ⟨h.r1.below hb, h.r2.below hb, h.r3.below hb, h.r4.below hb, key h.a0, key h.a1, key h.b0, key h.b1, key h.d0, key h.d1⟩
set_option maxRecDepth 100000 in
set_option maxHeartbeats 400000 in
theorem foundY_any (p q : Int) (bd : Nat) (w : World) (d0 : w.cell? ⟨bd, 0, none⟩ = some (.int .i64 (-1))) (d1 : w.cell? ⟨bd, 1, none⟩ = some (.int .i64 (-1))) :
    Calls Tryd.prog 44 #[.agg #[.int .i64 p, .int .i64 q], .pointer (some ⟨bd, 0, none⟩)] w fun e w' => e = .returned (.bool (decide (p = -1) && decide (q = -1))) ∧ Below w.heap.size w w' := by
  have hb := bal (Below.refl _ w) (.cells #[.int .i64 p, .int .i64 q] 70)
  have e0 := (hb.cell (World.block_lt_of_cell? _ _ d0)).trans d0
  have e1 := (hb.cell (World.block_lt_of_cell? _ _ d1)).trans d1
  have hEq := fun w' => equalIn_pair Tryd.underlying70 p q (-1) (-1) w'
  have hng := noGuard2
  go_enter Tryd.func44, Tryd.ntmps44
  go_wp2
  go_ret
  exact ⟨rfl, hb⟩
/-- One letter of a row of a machine. -/
theorem row_cell {W : World} {v : Value} {m : List (List Int)} (h : Rows W v m) {p : Nat} (hp : p < m.length) {K x : Nat} (hl : (m.getD p []).length = K) (hx : x < K) : ∃ b off c b' off' c', v = .slice (some ⟨b, off, none⟩) m.length c ∧ W.cell? ⟨b, off + p, none⟩ = some (.slice (some ⟨b', off', none⟩) K c') ∧ W.cell? ⟨b', off' + x, none⟩ = some (.int .i64 ((m.getD p []).getD x 0)) := by
  obtain ⟨A, c, rfl, _, hc⟩ := h
  obtain ⟨b, off, r, rfl, h1, h2⟩ := hc p hp
  obtain ⟨A', c', rfl, _, hc'⟩ := h2
  obtain ⟨b', off', rfl, h3⟩ := hc' x (by omega)
  rw [hl] at h1
  exact ⟨b, off, c, b', off', c', rfl, h1, h3⟩
set_option maxRecDepth 100000 in
set_option maxHeartbeats 4000000 in
theorem leadY_any (va ua vb ub : Value) (ma oa mb ob : List (List Int)) (ba bb bd p q x : Nat) (w : World) (h : EqMem w va ua vb ub ma oa mb ob ba bb bd) (hva : validY ma oa = true) (hvb : validY mb ob = true) (hL : letters ma = letters mb) (hp : p < ma.length) (hq : q < mb.length) (hx : x < letters ma) :
    Calls Tryd.prog 42 #[.agg #[.int .i64 (p : Nat), .int .i64 (q : Nat)], .int .i64 (x : Nat), .pointer (some ⟨ba, 0, none⟩), .pointer (some ⟨bb, 0, none⟩), .pointer (some ⟨bd, 0, none⟩)] w fun e w' => (if ox oa p (x : Int) = ox ob q (x : Int) then e = .returned (.agg #[.int .i64 (nx ma p (x : Int) : Nat), .int .i64 (nx mb q (x : Int) : Nat)]) else e = .returned (.agg #[.int .i64 (-1), .int .i64 (-1)])) ∧ Below w.heap.size w w' := by
  obtain ⟨va1, va2, va3⟩ := validY_parts hva
  obtain ⟨vb1, vb2, vb3⟩ := validY_parts hvb
  obtain ⟨-, ha60, -, -, pa⟩ := valid_parts va1
  obtain ⟨-, hb60, -, -, pb⟩ := valid_parts vb1
  obtain ⟨r1, r2, r3, r4, a0, a1, b0, b1, d0, d1⟩ := h
  obtain ⟨m1, f1, k1, m1', f1', k1', rfl, g1, g1'⟩ := row_cell r1 hp (pa p hp).1 hx
  obtain ⟨m2, f2, k2, m2', f2', k2', rfl, g2, g2'⟩ := row_cell r2 (by omega) (va3 p hp).1 hx
  obtain ⟨m3, f3, k3, m3', f3', k3', rfl, g3, g3'⟩ := row_cell r3 hq (pb q hq).1 (by omega : x < letters mb)
  obtain ⟨m4, f4, k4, m4', f4', k4', rfl, g4, g4'⟩ := row_cell r4 (by omega) (vb3 q hq).1 (by omega : x < letters mb)
  have n1 := (nx_ok va1 hp (x := (x : Int)) (by omega) (by omega)).2
  have n2 := (nx_ok vb1 hq (x := (x : Int)) (by omega) (by omega)).2
  rw [Int.toNat_natCast] at n1 n2
  rw [n1] at g1'
  rw [n2] at g3'
  have e2 : (oa.getD p []).getD x 0 = ox oa p (x : Int) := by unfold ox; rw [Int.toNat_natCast]
  have e4 : (ob.getD q []).getD x 0 = ox ob q (x : Int) := by unfold ox; rw [Int.toNat_natCast]
  rw [e2] at g2'
  rw [e4] at g4'
  have hpi : (p : Int) < ma.length := by omega
  have hpo : (p : Int) < oa.length := by omega
  have hqi : (q : Int) < mb.length := by omega
  have hqo : (q : Int) < ob.length := by omega
  have hxa : (x : Int) < letters ma := by omega
  have hxb : (x : Int) < letters mb := by omega
  clear r1 r2 r3 r4 n1 n2 e2 e4 va2 va3 vb2 vb3 pa pb hL
  generalize ox oa p (x : Int) = ya at *
  generalize ox ob q (x : Int) = yb at *
  generalize nx ma p (x : Int) = sa at *
  generalize nx mb q (x : Int) = sb at *
  have hX := bal (bal (Below.refl _ w) (.cells #[.int .i64 (p : Int), .int .i64 (q : Int)] 70)) (.cells #[.int .i64 0, .int .i64 0] 70)
  have HX := hid hX
  have key : ∀ {z : Addr} {v : Value}, w.cell? z = some v → ((w.alloc (.cells #[.int .i64 (p : Int), .int .i64 (q : Int)] 70)).alloc (.cells #[.int .i64 0, .int .i64 0] 70)).cell? z = some v := fun hz => (hX.cell (World.block_lt_of_cell? _ _ hz)).trans hz
  have a0 := key a0
  have a1 := key a1
  have b0 := key b0
  have b1 := key b1
  have d0 := key d0
  have d1 := key d1
  have g1 := key g1
  have g1' := key g1'
  have g2 := key g2
  have g2' := key g2'
  have g3 := key g3
  have g3' := key g3'
  have g4 := key g4
  have g4' := key g4'
  have t0 : ((w.alloc (.cells #[.int .i64 (p : Int), .int .i64 (q : Int)] 70)).alloc (.cells #[.int .i64 0, .int .i64 0] 70)).cell? ⟨w.heap.size, 0, none⟩ = some (.int .i64 (p : Int)) := by simp [go_sem]
  have t1 : ((w.alloc (.cells #[.int .i64 (p : Int), .int .i64 (q : Int)] 70)).alloc (.cells #[.int .i64 0, .int .i64 0] 70)).cell? ⟨w.heap.size, 1, none⟩ = some (.int .i64 (q : Int)) := by simp [go_sem]
  have s0 : ((w.alloc (.cells #[.int .i64 (p : Int), .int .i64 (q : Int)] 70)).alloc (.cells #[.int .i64 0, .int .i64 0] 70)).heap[w.heap.size + 1]? = some (.cells #[.int .i64 0, .int .i64 0] 70 (0, 0)) := by
    have := World.alloc_heap_new (w.alloc (.cells #[.int .i64 (p : Int), .int .i64 (q : Int)] 70)) (.cells #[.int .i64 0, .int .i64 0] 70)
    simpa using this
  clear key hX
  by_cases hy : ya = yb
  · have hne : (ya != yb) = false := by simp [hy]
    suffices hS : Calls Tryd.prog 42 #[.agg #[.int .i64 (p : Nat), .int .i64 (q : Nat)], .int .i64 (x : Nat), .pointer (some ⟨ba, 0, none⟩), .pointer (some ⟨bb, 0, none⟩), .pointer (some ⟨bd, 0, none⟩)] w (fun e w' => e = .returned (.agg #[.int .i64 (sa : Nat), .int .i64 (sb : Nat)]) ∧ Below w.heap.size w w') from hS.mono (by rintro e w' ⟨h1, h2⟩; exact ⟨by rw [if_pos hy]; exact h1, h2⟩)
    clear hy
    go_enter Tryd.func42, Tryd.ntmps42
    go_upto_region 1 with fail
    generalize hWW : ((w.alloc (.cells #[.int .i64 (p : Int), .int .i64 (q : Int)] 70)).alloc (.cells #[.int .i64 0, .int .i64 0] 70)) = w1 at *
    refine wp_region_pure (c := fun i => ([.pointer (some ⟨ba, 1, none⟩), .slice (some ⟨m2, f2, none⟩) oa.length k2, .pointer (some ⟨w.heap.size, 0, none⟩), .int .i64 (p : Int), .pointer (some ⟨m2, f2 + p, none⟩), .slice (some ⟨m2', f2', none⟩) (letters ma) k2', .int .i64 (x : Int), .pointer (some ⟨m2', f2' + x, none⟩), .int .i64 ya, .pointer (some ⟨bb, 1, none⟩), .slice (some ⟨m4, f4, none⟩) ob.length k4, .pointer (some ⟨w.heap.size, 1, none⟩), .int .i64 (q : Int), .pointer (some ⟨m4, f4 + q, none⟩), .slice (some ⟨m4', f4', none⟩) (letters mb) k4', .int .i64 (x : Int), .pointer (some ⟨m4', f4' + x, none⟩), .int .i64 yb, .bool false] : List Value).getD i undef) (R := fun W => Below w1.heap.size w1 W) rfl (by kernel_rfl) (by kernel_rfl) (by kernel_rfl) ?_ ?_ ?_
    · exact below_dr w1 1
    · refine ⟨?_, ?_, ?_, ?_, ?_, ?_, ?_, ?_, ?_, ?_, ?_, ?_, ?_, ?_, ?_, ?_, ?_, ?_, ?_, trivial⟩
      · intro F W hR hold hnew
        have f2 : F.eval (.tmp 2) = .pointer (some ⟨ba, 0, none⟩) := (hold 2 (by kernel_rfl)).trans (by kernel_rfl)
        simp [Act.eval] at f2
        rw [if_neg (by decide)]
        exact opv_run rfl W (by simp [execOp, go_sem, f2]) hR
      · intro F W hR hold hnew
        have f8 : F.eval (.tmp 8) = .pointer (some ⟨ba, 1, none⟩) := hnew 0 8 (by kernel_rfl) (by kernel_rfl)
        simp [Act.eval] at f8
        have q0 := (hR.cell (World.block_lt_of_cell? _ _ a1)).trans a1
        rw [if_neg (by decide)]
        exact opv_run rfl W (by simp [execOp, go_sem, f8, q0]) hR
      · intro F W hR hold hnew
        have f5 : F.eval (.tmp 5) = .pointer (some ⟨w.heap.size, 0, none⟩) := (hold 5 (by kernel_rfl)).trans (by kernel_rfl)
        simp [Act.eval] at f5
        rw [if_neg (by decide)]
        exact opv_run rfl W (by simp [execOp, go_sem, f5]) hR
      · intro F W hR hold hnew
        have f10 : F.eval (.tmp 10) = .pointer (some ⟨w.heap.size, 0, none⟩) := hnew 2 10 (by kernel_rfl) (by kernel_rfl)
        simp [Act.eval] at f10
        have q0 := (hR.cell (World.block_lt_of_cell? _ _ t0)).trans t0
        rw [if_neg (by decide)]
        exact opv_run rfl W (by simp [execOp, go_sem, f10, q0]) hR
      · intro F W hR hold hnew
        have f9 : F.eval (.tmp 9) = .slice (some ⟨m2, f2, none⟩) oa.length k2 := hnew 1 9 (by kernel_rfl) (by kernel_rfl)
        have f11 : F.eval (.tmp 11) = .int .i64 (p : Int) := hnew 3 11 (by kernel_rfl) (by kernel_rfl)
        simp [Act.eval] at f9 f11
        rw [if_neg (by decide)]
        exact opv_run rfl W (by simp [execOp, go_sem, f9, f11, hpo]) hR
      · intro F W hR hold hnew
        have f12 : F.eval (.tmp 12) = .pointer (some ⟨m2, f2 + p, none⟩) := hnew 4 12 (by kernel_rfl) (by kernel_rfl)
        simp [Act.eval] at f12
        have q0 := (hR.cell (World.block_lt_of_cell? _ _ g2)).trans g2
        rw [if_neg (by decide)]
        exact opv_run rfl W (by simp [execOp, go_sem, f12, q0]) hR
      · intro F W hR hold hnew
        have f1 : F.eval (.tmp 1) = .int .i64 (x : Int) := (hold 1 (by kernel_rfl)).trans (by kernel_rfl)
        simp [Act.eval] at f1
        rw [if_neg (by decide)]
        exact opv_run rfl W (by simp [execOp, go_sem, f1]) hR
      · intro F W hR hold hnew
        have f13 : F.eval (.tmp 13) = .slice (some ⟨m2', f2', none⟩) (letters ma) k2' := hnew 5 13 (by kernel_rfl) (by kernel_rfl)
        have f14 : F.eval (.tmp 14) = .int .i64 (x : Int) := hnew 6 14 (by kernel_rfl) (by kernel_rfl)
        simp [Act.eval] at f13 f14
        rw [if_neg (by decide)]
        exact opv_run rfl W (by simp [execOp, go_sem, f13, f14, hxa]) hR
      · intro F W hR hold hnew
        have f15 : F.eval (.tmp 15) = .pointer (some ⟨m2', f2' + x, none⟩) := hnew 7 15 (by kernel_rfl) (by kernel_rfl)
        simp [Act.eval] at f15
        have q0 := (hR.cell (World.block_lt_of_cell? _ _ g2')).trans g2'
        rw [if_neg (by decide)]
        exact opv_run rfl W (by simp [execOp, go_sem, f15, q0]) hR
      · intro F W hR hold hnew
        have f3 : F.eval (.tmp 3) = .pointer (some ⟨bb, 0, none⟩) := (hold 3 (by kernel_rfl)).trans (by kernel_rfl)
        simp [Act.eval] at f3
        rw [if_neg (by decide)]
        exact opv_run rfl W (by simp [execOp, go_sem, f3]) hR
      · intro F W hR hold hnew
        have f17 : F.eval (.tmp 17) = .pointer (some ⟨bb, 1, none⟩) := hnew 9 17 (by kernel_rfl) (by kernel_rfl)
        simp [Act.eval] at f17
        have q0 := (hR.cell (World.block_lt_of_cell? _ _ b1)).trans b1
        rw [if_neg (by decide)]
        exact opv_run rfl W (by simp [execOp, go_sem, f17, q0]) hR
      · intro F W hR hold hnew
        have f5 : F.eval (.tmp 5) = .pointer (some ⟨w.heap.size, 0, none⟩) := (hold 5 (by kernel_rfl)).trans (by kernel_rfl)
        simp [Act.eval] at f5
        rw [if_neg (by decide)]
        exact opv_run rfl W (by simp [execOp, go_sem, f5]) hR
      · intro F W hR hold hnew
        have f19 : F.eval (.tmp 19) = .pointer (some ⟨w.heap.size, 1, none⟩) := hnew 11 19 (by kernel_rfl) (by kernel_rfl)
        simp [Act.eval] at f19
        have q0 := (hR.cell (World.block_lt_of_cell? _ _ t1)).trans t1
        rw [if_neg (by decide)]
        exact opv_run rfl W (by simp [execOp, go_sem, f19, q0]) hR
      · intro F W hR hold hnew
        have f18 : F.eval (.tmp 18) = .slice (some ⟨m4, f4, none⟩) ob.length k4 := hnew 10 18 (by kernel_rfl) (by kernel_rfl)
        have f20 : F.eval (.tmp 20) = .int .i64 (q : Int) := hnew 12 20 (by kernel_rfl) (by kernel_rfl)
        simp [Act.eval] at f18 f20
        rw [if_neg (by decide)]
        exact opv_run rfl W (by simp [execOp, go_sem, f18, f20, hqo]) hR
      · intro F W hR hold hnew
        have f21 : F.eval (.tmp 21) = .pointer (some ⟨m4, f4 + q, none⟩) := hnew 13 21 (by kernel_rfl) (by kernel_rfl)
        simp [Act.eval] at f21
        have q0 := (hR.cell (World.block_lt_of_cell? _ _ g4)).trans g4
        rw [if_neg (by decide)]
        exact opv_run rfl W (by simp [execOp, go_sem, f21, q0]) hR
      · intro F W hR hold hnew
        have f1 : F.eval (.tmp 1) = .int .i64 (x : Int) := (hold 1 (by kernel_rfl)).trans (by kernel_rfl)
        simp [Act.eval] at f1
        rw [if_neg (by decide)]
        exact opv_run rfl W (by simp [execOp, go_sem, f1]) hR
      · intro F W hR hold hnew
        have f22 : F.eval (.tmp 22) = .slice (some ⟨m4', f4', none⟩) (letters mb) k4' := hnew 14 22 (by kernel_rfl) (by kernel_rfl)
        have f23 : F.eval (.tmp 23) = .int .i64 (x : Int) := hnew 15 23 (by kernel_rfl) (by kernel_rfl)
        simp [Act.eval] at f22 f23
        rw [if_neg (by decide)]
        exact opv_run rfl W (by simp [execOp, go_sem, f22, f23, hxb]) hR
      · intro F W hR hold hnew
        have f24 : F.eval (.tmp 24) = .pointer (some ⟨m4', f4' + x, none⟩) := hnew 16 24 (by kernel_rfl) (by kernel_rfl)
        simp [Act.eval] at f24
        have q0 := (hR.cell (World.block_lt_of_cell? _ _ g4')).trans g4'
        rw [if_neg (by decide)]
        exact opv_run rfl W (by simp [execOp, go_sem, f24, q0]) hR
      · intro F W hR hold hnew
        have f16 : F.eval (.tmp 16) = .int .i64 ya := hnew 8 16 (by kernel_rfl) (by kernel_rfl)
        have f25 : F.eval (.tmp 25) = .int .i64 yb := hnew 17 25 (by kernel_rfl) (by kernel_rfl)
        simp [Act.eval] at f16 f25
        rw [if_neg (by decide)]
        exact opv_run rfl W (by simp [execOp, go_sem, f16, f25, hne]) hR
    · intro W9 hb9
      simp only [framedFrom, Act.put, List.setIfInBounds_toArray, List.set_cons_succ, List.set_cons_zero]
      have a0 := (hb9.cell (World.block_lt_of_cell? _ _ a0)).trans a0
      have b0 := (hb9.cell (World.block_lt_of_cell? _ _ b0)).trans b0
      have g1 := (hb9.cell (World.block_lt_of_cell? _ _ g1)).trans g1
      have g1' := (hb9.cell (World.block_lt_of_cell? _ _ g1')).trans g1'
      have g3 := (hb9.cell (World.block_lt_of_cell? _ _ g3)).trans g3
      have g3' := (hb9.cell (World.block_lt_of_cell? _ _ g3')).trans g3'
      have t0 := (hb9.cell (World.block_lt_of_cell? _ _ t0)).trans t0
      have t1 := (hb9.cell (World.block_lt_of_cell? _ _ t1)).trans t1
      have s0 := (hb9.block _ (lt_of_block s0)).trans s0
      have HX := hid (HX.out.trans (hb9.mono HX.out.size))
      clear hb9 hWW
      obtain ⟨w1, rfl⟩ : ∃ w1, w1 = W9 := ⟨_, rfl⟩
      go_upto_region 3 with fail
      refine wp_region_one (c := fun i => ([.pointer (some ⟨ba, 0, none⟩), .slice (some ⟨m1, f1, none⟩) ma.length k1, .pointer (some ⟨w.heap.size, 0, none⟩), .int .i64 (p : Int), .pointer (some ⟨m1, f1 + p, none⟩), .slice (some ⟨m1', f1', none⟩) (letters ma) k1', .int .i64 (x : Int), .pointer (some ⟨m1', f1' + x, none⟩), .int .i64 (sa : Nat), .pointer (some ⟨bb, 0, none⟩), .slice (some ⟨m3, f3, none⟩) mb.length k3, .pointer (some ⟨w.heap.size, 1, none⟩), .int .i64 (q : Int), .pointer (some ⟨m3, f3 + q, none⟩), .slice (some ⟨m3', f3', none⟩) (letters mb) k3', .int .i64 (x : Int), .pointer (some ⟨m3', f3' + x, none⟩), .int .i64 (sb : Nat), .agg #[.int .i64 (sa : Nat), .int .i64 (sb : Nat)], undef] : List Value).getD i undef) (R := fun W => Below w1.heap.size w1 W) (S := fun W' => ∃ W, Below w1.heap.size w1 W ∧ W' = (W.setCell ⟨w.heap.size + 1, 0, none⟩ (.int .i64 (sa : Nat))).setCell ⟨w.heap.size + 1, 1, none⟩ (.int .i64 (sb : Nat))) 19 rfl (by kernel_rfl) (by kernel_rfl) (by kernel_rfl) (by kernel_rfl) (by kernel_rfl) (by kernel_rfl) ?_ ?_ ?_
      · exact below_dr w1 1
      · refine ⟨?_, ?_, ?_, ?_, ?_, ?_, ?_, ?_, ?_, ?_, ?_, ?_, ?_, ?_, ?_, ?_, ?_, ?_, ?_, ?_, trivial⟩
        · intro F W hR hold hnew
          have f2 : F.eval (.tmp 2) = .pointer (some ⟨ba, 0, none⟩) := (hold 2 (by kernel_rfl)).trans (by kernel_rfl)
          simp [Act.eval] at f2
          rw [if_neg (by decide)]
          exact opv_run rfl W (by simp [execOp, go_sem, f2]) hR
        · intro F W hR hold hnew
          have f28 : F.eval (.tmp 28) = .pointer (some ⟨ba, 0, none⟩) := hnew 0 28 (by kernel_rfl) (by kernel_rfl)
          simp [Act.eval] at f28
          have q0 := (hR.cell (World.block_lt_of_cell? _ _ a0)).trans a0
          rw [if_neg (by decide)]
          exact opv_run rfl W (by simp [execOp, go_sem, f28, q0]) hR
        · intro F W hR hold hnew
          have f5 : F.eval (.tmp 5) = .pointer (some ⟨w.heap.size, 0, none⟩) := (hold 5 (by kernel_rfl)).trans (by kernel_rfl)
          simp [Act.eval] at f5
          rw [if_neg (by decide)]
          exact opv_run rfl W (by simp [execOp, go_sem, f5]) hR
        · intro F W hR hold hnew
          have f30 : F.eval (.tmp 30) = .pointer (some ⟨w.heap.size, 0, none⟩) := hnew 2 30 (by kernel_rfl) (by kernel_rfl)
          simp [Act.eval] at f30
          have q0 := (hR.cell (World.block_lt_of_cell? _ _ t0)).trans t0
          rw [if_neg (by decide)]
          exact opv_run rfl W (by simp [execOp, go_sem, f30, q0]) hR
        · intro F W hR hold hnew
          have f29 : F.eval (.tmp 29) = .slice (some ⟨m1, f1, none⟩) ma.length k1 := hnew 1 29 (by kernel_rfl) (by kernel_rfl)
          have f31 : F.eval (.tmp 31) = .int .i64 (p : Int) := hnew 3 31 (by kernel_rfl) (by kernel_rfl)
          simp [Act.eval] at f29 f31
          rw [if_neg (by decide)]
          exact opv_run rfl W (by simp [execOp, go_sem, f29, f31, hpi]) hR
        · intro F W hR hold hnew
          have f32 : F.eval (.tmp 32) = .pointer (some ⟨m1, f1 + p, none⟩) := hnew 4 32 (by kernel_rfl) (by kernel_rfl)
          simp [Act.eval] at f32
          have q0 := (hR.cell (World.block_lt_of_cell? _ _ g1)).trans g1
          rw [if_neg (by decide)]
          exact opv_run rfl W (by simp [execOp, go_sem, f32, q0]) hR
        · intro F W hR hold hnew
          have f1 : F.eval (.tmp 1) = .int .i64 (x : Int) := (hold 1 (by kernel_rfl)).trans (by kernel_rfl)
          simp [Act.eval] at f1
          rw [if_neg (by decide)]
          exact opv_run rfl W (by simp [execOp, go_sem, f1]) hR
        · intro F W hR hold hnew
          have f33 : F.eval (.tmp 33) = .slice (some ⟨m1', f1', none⟩) (letters ma) k1' := hnew 5 33 (by kernel_rfl) (by kernel_rfl)
          have f34 : F.eval (.tmp 34) = .int .i64 (x : Int) := hnew 6 34 (by kernel_rfl) (by kernel_rfl)
          simp [Act.eval] at f33 f34
          rw [if_neg (by decide)]
          exact opv_run rfl W (by simp [execOp, go_sem, f33, f34, hxa]) hR
        · intro F W hR hold hnew
          have f35 : F.eval (.tmp 35) = .pointer (some ⟨m1', f1' + x, none⟩) := hnew 7 35 (by kernel_rfl) (by kernel_rfl)
          simp [Act.eval] at f35
          have q0 := (hR.cell (World.block_lt_of_cell? _ _ g1')).trans g1'
          rw [if_neg (by decide)]
          exact opv_run rfl W (by simp [execOp, go_sem, f35, q0]) hR
        · intro F W hR hold hnew
          have f3 : F.eval (.tmp 3) = .pointer (some ⟨bb, 0, none⟩) := (hold 3 (by kernel_rfl)).trans (by kernel_rfl)
          simp [Act.eval] at f3
          rw [if_neg (by decide)]
          exact opv_run rfl W (by simp [execOp, go_sem, f3]) hR
        · intro F W hR hold hnew
          have f37 : F.eval (.tmp 37) = .pointer (some ⟨bb, 0, none⟩) := hnew 9 37 (by kernel_rfl) (by kernel_rfl)
          simp [Act.eval] at f37
          have q0 := (hR.cell (World.block_lt_of_cell? _ _ b0)).trans b0
          rw [if_neg (by decide)]
          exact opv_run rfl W (by simp [execOp, go_sem, f37, q0]) hR
        · intro F W hR hold hnew
          have f5 : F.eval (.tmp 5) = .pointer (some ⟨w.heap.size, 0, none⟩) := (hold 5 (by kernel_rfl)).trans (by kernel_rfl)
          simp [Act.eval] at f5
          rw [if_neg (by decide)]
          exact opv_run rfl W (by simp [execOp, go_sem, f5]) hR
        · intro F W hR hold hnew
          have f39 : F.eval (.tmp 39) = .pointer (some ⟨w.heap.size, 1, none⟩) := hnew 11 39 (by kernel_rfl) (by kernel_rfl)
          simp [Act.eval] at f39
          have q0 := (hR.cell (World.block_lt_of_cell? _ _ t1)).trans t1
          rw [if_neg (by decide)]
          exact opv_run rfl W (by simp [execOp, go_sem, f39, q0]) hR
        · intro F W hR hold hnew
          have f38 : F.eval (.tmp 38) = .slice (some ⟨m3, f3, none⟩) mb.length k3 := hnew 10 38 (by kernel_rfl) (by kernel_rfl)
          have f40 : F.eval (.tmp 40) = .int .i64 (q : Int) := hnew 12 40 (by kernel_rfl) (by kernel_rfl)
          simp [Act.eval] at f38 f40
          rw [if_neg (by decide)]
          exact opv_run rfl W (by simp [execOp, go_sem, f38, f40, hqi]) hR
        · intro F W hR hold hnew
          have f41 : F.eval (.tmp 41) = .pointer (some ⟨m3, f3 + q, none⟩) := hnew 13 41 (by kernel_rfl) (by kernel_rfl)
          simp [Act.eval] at f41
          have q0 := (hR.cell (World.block_lt_of_cell? _ _ g3)).trans g3
          rw [if_neg (by decide)]
          exact opv_run rfl W (by simp [execOp, go_sem, f41, q0]) hR
        · intro F W hR hold hnew
          have f1 : F.eval (.tmp 1) = .int .i64 (x : Int) := (hold 1 (by kernel_rfl)).trans (by kernel_rfl)
          simp [Act.eval] at f1
          rw [if_neg (by decide)]
          exact opv_run rfl W (by simp [execOp, go_sem, f1]) hR
        · intro F W hR hold hnew
          have f42 : F.eval (.tmp 42) = .slice (some ⟨m3', f3', none⟩) (letters mb) k3' := hnew 14 42 (by kernel_rfl) (by kernel_rfl)
          have f43 : F.eval (.tmp 43) = .int .i64 (x : Int) := hnew 15 43 (by kernel_rfl) (by kernel_rfl)
          simp [Act.eval] at f42 f43
          rw [if_neg (by decide)]
          exact opv_run rfl W (by simp [execOp, go_sem, f42, f43, hxb]) hR
        · intro F W hR hold hnew
          have f44 : F.eval (.tmp 44) = .pointer (some ⟨m3', f3' + x, none⟩) := hnew 16 44 (by kernel_rfl) (by kernel_rfl)
          simp [Act.eval] at f44
          have q0 := (hR.cell (World.block_lt_of_cell? _ _ g3')).trans g3'
          rw [if_neg (by decide)]
          exact opv_run rfl W (by simp [execOp, go_sem, f44, q0]) hR
        · intro F W hR hold hnew
          have f36 : F.eval (.tmp 36) = .int .i64 (sa : Nat) := hnew 8 36 (by kernel_rfl) (by kernel_rfl)
          have f45 : F.eval (.tmp 45) = .int .i64 (sb : Nat) := hnew 17 45 (by kernel_rfl) (by kernel_rfl)
          simp [Act.eval] at f36 f45
          rw [if_neg (by decide)]
          exact opv_run rfl W (by simp [execOp, go_sem, f36, f45]) hR
        · intro F W hR hold hnew
          have f7 : F.eval (.tmp 7) = .pointer (some ⟨w.heap.size + 1, 0, none⟩) := (hold 7 (by kernel_rfl)).trans (by kernel_rfl)
          have f46 : F.eval (.tmp 46) = .agg #[.int .i64 (sa : Nat), .int .i64 (sb : Nat)] := hnew 18 46 (by kernel_rfl) (by kernel_rfl)
          simp [Act.eval] at f7 f46
          obtain ⟨z0, z1, z2, z3⟩ := cells_two _ _ _ _ _ ((hR.block _ (lt_of_block s0)).trans s0)
          rw [if_pos rfl]
          exact ⟨rfl, _, by simp [execOp, go_sem, f7, f46, z0, z1, z2, z3], W, hR, rfl⟩
      · rintro W' ⟨W, hb, rfl⟩
        simp only [framedFrom, Act.put, List.setIfInBounds_toArray, List.set_cons_succ, List.set_cons_zero]
        have hh := set_both (a := .int .i64 (sa : Nat)) (b := .int .i64 (sb : Nat)) ((hb.block _ (lt_of_block s0)).trans s0)
        obtain ⟨z0, z1, -, -⟩ := cells_two _ _ _ _ _ hh
        have HB := hid (((HX.out.trans (hb.mono HX.out.size)).setCell (p := ⟨w.heap.size + 1, 0, none⟩) (by show w.heap.size ≤ w.heap.size + 1; omega) (.int .i64 (sa : Nat))).setCell (p := ⟨w.heap.size + 1, 1, none⟩) (by show w.heap.size ≤ w.heap.size + 1; omega) (.int .i64 (sb : Nat)))
        clear hh
        generalize ((W.setCell ⟨w.heap.size + 1, 0, none⟩ (.int .i64 (sa : Nat))).setCell ⟨w.heap.size + 1, 1, none⟩ (.int .i64 (sb : Nat))) = W9 at *
        go_wp2
        (try simp only [Exit.inBlock, Exit.then])
        refine bodyPost_ret (v := .agg #[.int .i64 (sa : Nat), .int .i64 (sb : Nat)]) ?_ rfl ⟨rfl, HB.out⟩
        simp only [results, Tryd.results42]
        go_simp
  · have hne : (ya != yb) = true := by simp [hy]
    suffices hS : Calls Tryd.prog 42 #[.agg #[.int .i64 (p : Nat), .int .i64 (q : Nat)], .int .i64 (x : Nat), .pointer (some ⟨ba, 0, none⟩), .pointer (some ⟨bb, 0, none⟩), .pointer (some ⟨bd, 0, none⟩)] w (fun e w' => e = .returned (.agg #[.int .i64 (-1), .int .i64 (-1)]) ∧ Below w.heap.size w w') from hS.mono (by rintro e w' ⟨h1, h2⟩; exact ⟨by rw [if_neg hy]; exact h1, h2⟩)
    clear hy
    go_enter Tryd.func42, Tryd.ntmps42
    go_upto_region 1 with fail
    generalize hWW : ((w.alloc (.cells #[.int .i64 (p : Int), .int .i64 (q : Int)] 70)).alloc (.cells #[.int .i64 0, .int .i64 0] 70)) = w1 at *
    refine wp_region_pure (c := fun i => ([.pointer (some ⟨ba, 1, none⟩), .slice (some ⟨m2, f2, none⟩) oa.length k2, .pointer (some ⟨w.heap.size, 0, none⟩), .int .i64 (p : Int), .pointer (some ⟨m2, f2 + p, none⟩), .slice (some ⟨m2', f2', none⟩) (letters ma) k2', .int .i64 (x : Int), .pointer (some ⟨m2', f2' + x, none⟩), .int .i64 ya, .pointer (some ⟨bb, 1, none⟩), .slice (some ⟨m4, f4, none⟩) ob.length k4, .pointer (some ⟨w.heap.size, 1, none⟩), .int .i64 (q : Int), .pointer (some ⟨m4, f4 + q, none⟩), .slice (some ⟨m4', f4', none⟩) (letters mb) k4', .int .i64 (x : Int), .pointer (some ⟨m4', f4' + x, none⟩), .int .i64 yb, .bool true] : List Value).getD i undef) (R := fun W => Below w1.heap.size w1 W) rfl (by kernel_rfl) (by kernel_rfl) (by kernel_rfl) ?_ ?_ ?_
    · exact below_dr w1 1
    · refine ⟨?_, ?_, ?_, ?_, ?_, ?_, ?_, ?_, ?_, ?_, ?_, ?_, ?_, ?_, ?_, ?_, ?_, ?_, ?_, trivial⟩
      · intro F W hR hold hnew
        have f2 : F.eval (.tmp 2) = .pointer (some ⟨ba, 0, none⟩) := (hold 2 (by kernel_rfl)).trans (by kernel_rfl)
        simp [Act.eval] at f2
        rw [if_neg (by decide)]
        exact opv_run rfl W (by simp [execOp, go_sem, f2]) hR
      · intro F W hR hold hnew
        have f8 : F.eval (.tmp 8) = .pointer (some ⟨ba, 1, none⟩) := hnew 0 8 (by kernel_rfl) (by kernel_rfl)
        simp [Act.eval] at f8
        have q0 := (hR.cell (World.block_lt_of_cell? _ _ a1)).trans a1
        rw [if_neg (by decide)]
        exact opv_run rfl W (by simp [execOp, go_sem, f8, q0]) hR
      · intro F W hR hold hnew
        have f5 : F.eval (.tmp 5) = .pointer (some ⟨w.heap.size, 0, none⟩) := (hold 5 (by kernel_rfl)).trans (by kernel_rfl)
        simp [Act.eval] at f5
        rw [if_neg (by decide)]
        exact opv_run rfl W (by simp [execOp, go_sem, f5]) hR
      · intro F W hR hold hnew
        have f10 : F.eval (.tmp 10) = .pointer (some ⟨w.heap.size, 0, none⟩) := hnew 2 10 (by kernel_rfl) (by kernel_rfl)
        simp [Act.eval] at f10
        have q0 := (hR.cell (World.block_lt_of_cell? _ _ t0)).trans t0
        rw [if_neg (by decide)]
        exact opv_run rfl W (by simp [execOp, go_sem, f10, q0]) hR
      · intro F W hR hold hnew
        have f9 : F.eval (.tmp 9) = .slice (some ⟨m2, f2, none⟩) oa.length k2 := hnew 1 9 (by kernel_rfl) (by kernel_rfl)
        have f11 : F.eval (.tmp 11) = .int .i64 (p : Int) := hnew 3 11 (by kernel_rfl) (by kernel_rfl)
        simp [Act.eval] at f9 f11
        rw [if_neg (by decide)]
        exact opv_run rfl W (by simp [execOp, go_sem, f9, f11, hpo]) hR
      · intro F W hR hold hnew
        have f12 : F.eval (.tmp 12) = .pointer (some ⟨m2, f2 + p, none⟩) := hnew 4 12 (by kernel_rfl) (by kernel_rfl)
        simp [Act.eval] at f12
        have q0 := (hR.cell (World.block_lt_of_cell? _ _ g2)).trans g2
        rw [if_neg (by decide)]
        exact opv_run rfl W (by simp [execOp, go_sem, f12, q0]) hR
      · intro F W hR hold hnew
        have f1 : F.eval (.tmp 1) = .int .i64 (x : Int) := (hold 1 (by kernel_rfl)).trans (by kernel_rfl)
        simp [Act.eval] at f1
        rw [if_neg (by decide)]
        exact opv_run rfl W (by simp [execOp, go_sem, f1]) hR
      · intro F W hR hold hnew
        have f13 : F.eval (.tmp 13) = .slice (some ⟨m2', f2', none⟩) (letters ma) k2' := hnew 5 13 (by kernel_rfl) (by kernel_rfl)
        have f14 : F.eval (.tmp 14) = .int .i64 (x : Int) := hnew 6 14 (by kernel_rfl) (by kernel_rfl)
        simp [Act.eval] at f13 f14
        rw [if_neg (by decide)]
        exact opv_run rfl W (by simp [execOp, go_sem, f13, f14, hxa]) hR
      · intro F W hR hold hnew
        have f15 : F.eval (.tmp 15) = .pointer (some ⟨m2', f2' + x, none⟩) := hnew 7 15 (by kernel_rfl) (by kernel_rfl)
        simp [Act.eval] at f15
        have q0 := (hR.cell (World.block_lt_of_cell? _ _ g2')).trans g2'
        rw [if_neg (by decide)]
        exact opv_run rfl W (by simp [execOp, go_sem, f15, q0]) hR
      · intro F W hR hold hnew
        have f3 : F.eval (.tmp 3) = .pointer (some ⟨bb, 0, none⟩) := (hold 3 (by kernel_rfl)).trans (by kernel_rfl)
        simp [Act.eval] at f3
        rw [if_neg (by decide)]
        exact opv_run rfl W (by simp [execOp, go_sem, f3]) hR
      · intro F W hR hold hnew
        have f17 : F.eval (.tmp 17) = .pointer (some ⟨bb, 1, none⟩) := hnew 9 17 (by kernel_rfl) (by kernel_rfl)
        simp [Act.eval] at f17
        have q0 := (hR.cell (World.block_lt_of_cell? _ _ b1)).trans b1
        rw [if_neg (by decide)]
        exact opv_run rfl W (by simp [execOp, go_sem, f17, q0]) hR
      · intro F W hR hold hnew
        have f5 : F.eval (.tmp 5) = .pointer (some ⟨w.heap.size, 0, none⟩) := (hold 5 (by kernel_rfl)).trans (by kernel_rfl)
        simp [Act.eval] at f5
        rw [if_neg (by decide)]
        exact opv_run rfl W (by simp [execOp, go_sem, f5]) hR
      · intro F W hR hold hnew
        have f19 : F.eval (.tmp 19) = .pointer (some ⟨w.heap.size, 1, none⟩) := hnew 11 19 (by kernel_rfl) (by kernel_rfl)
        simp [Act.eval] at f19
        have q0 := (hR.cell (World.block_lt_of_cell? _ _ t1)).trans t1
        rw [if_neg (by decide)]
        exact opv_run rfl W (by simp [execOp, go_sem, f19, q0]) hR
      · intro F W hR hold hnew
        have f18 : F.eval (.tmp 18) = .slice (some ⟨m4, f4, none⟩) ob.length k4 := hnew 10 18 (by kernel_rfl) (by kernel_rfl)
        have f20 : F.eval (.tmp 20) = .int .i64 (q : Int) := hnew 12 20 (by kernel_rfl) (by kernel_rfl)
        simp [Act.eval] at f18 f20
        rw [if_neg (by decide)]
        exact opv_run rfl W (by simp [execOp, go_sem, f18, f20, hqo]) hR
      · intro F W hR hold hnew
        have f21 : F.eval (.tmp 21) = .pointer (some ⟨m4, f4 + q, none⟩) := hnew 13 21 (by kernel_rfl) (by kernel_rfl)
        simp [Act.eval] at f21
        have q0 := (hR.cell (World.block_lt_of_cell? _ _ g4)).trans g4
        rw [if_neg (by decide)]
        exact opv_run rfl W (by simp [execOp, go_sem, f21, q0]) hR
      · intro F W hR hold hnew
        have f1 : F.eval (.tmp 1) = .int .i64 (x : Int) := (hold 1 (by kernel_rfl)).trans (by kernel_rfl)
        simp [Act.eval] at f1
        rw [if_neg (by decide)]
        exact opv_run rfl W (by simp [execOp, go_sem, f1]) hR
      · intro F W hR hold hnew
        have f22 : F.eval (.tmp 22) = .slice (some ⟨m4', f4', none⟩) (letters mb) k4' := hnew 14 22 (by kernel_rfl) (by kernel_rfl)
        have f23 : F.eval (.tmp 23) = .int .i64 (x : Int) := hnew 15 23 (by kernel_rfl) (by kernel_rfl)
        simp [Act.eval] at f22 f23
        rw [if_neg (by decide)]
        exact opv_run rfl W (by simp [execOp, go_sem, f22, f23, hxb]) hR
      · intro F W hR hold hnew
        have f24 : F.eval (.tmp 24) = .pointer (some ⟨m4', f4' + x, none⟩) := hnew 16 24 (by kernel_rfl) (by kernel_rfl)
        simp [Act.eval] at f24
        have q0 := (hR.cell (World.block_lt_of_cell? _ _ g4')).trans g4'
        rw [if_neg (by decide)]
        exact opv_run rfl W (by simp [execOp, go_sem, f24, q0]) hR
      · intro F W hR hold hnew
        have f16 : F.eval (.tmp 16) = .int .i64 ya := hnew 8 16 (by kernel_rfl) (by kernel_rfl)
        have f25 : F.eval (.tmp 25) = .int .i64 yb := hnew 17 25 (by kernel_rfl) (by kernel_rfl)
        simp [Act.eval] at f16 f25
        rw [if_neg (by decide)]
        exact opv_run rfl W (by simp [execOp, go_sem, f16, f25, hne]) hR
    · intro W9 hb9
      simp only [framedFrom, Act.put, List.setIfInBounds_toArray, List.set_cons_succ, List.set_cons_zero]
      have d0 := (hb9.cell (World.block_lt_of_cell? _ _ d0)).trans d0
      have d1 := (hb9.cell (World.block_lt_of_cell? _ _ d1)).trans d1
      have s0 := (hb9.block _ (lt_of_block s0)).trans s0
      obtain ⟨y0, y1, y2, y3⟩ := cells_two _ _ _ _ _ s0
      have hh := set_both (a := .int .i64 (-1)) (b := .int .i64 (-1)) s0
      obtain ⟨z0, z1, -, -⟩ := cells_two _ _ _ _ _ hh
      have HB := hid (((HX.out.trans (hb9.mono HX.out.size)).setCell (p := ⟨w.heap.size + 1, 0, none⟩) (by show w.heap.size ≤ w.heap.size + 1; omega) (.int .i64 (-1))).setCell (p := ⟨w.heap.size + 1, 1, none⟩) (by show w.heap.size ≤ w.heap.size + 1; omega) (.int .i64 (-1)))
      clear hh s0 hb9
      go_wp2
      (try simp only [Exit.inBlock, Exit.then])
      refine bodyPost_ret (v := .agg #[.int .i64 (-1), .int .i64 (-1)]) ?_ rfl ⟨rfl, HB.out⟩
      simp only [results, Tryd.results42]
      go_simp
end Go.Proofs.YtbhhemidnmaodaaDoor
namespace Go.Proofs.YtbhhemidnmaodaaDoor
open Go.RowKit Go.Shelf
theorem Ints.nil (w : World) : Ints w (.slice none 0 0) [] := ⟨none, 0, rfl, by simp, fun i hi => by simp at hi⟩
theorem Run_code (v u : Value) (m : List (List Int)) (s : Int) (ul : List Int) (n : Int) (w : World) (h : Rows w v m) (hu : Ints w u ul) (hv : validM m = true) (hn : n = if stateM m s && isWordM m ul then 0 else 2) :
    Calls Tryd.prog 56 #[.agg #[v], .int .i64 s, u] w fun e w' => ∃ x : Int, e = .returned (.tuple #[.int .i64 x, .int .i64 n]) ∧ Below w.heap.size w w' := by
  cases hs : stateM m s with
  | false =>
    rw [hs] at hn
    simp at hn
    subst hn
    exact (Run_state v u m s ul w h hu hv hs).mono (fun e w' hr => ⟨0, hr.1, hr.2⟩)
  | true =>
    cases hw : isWordM m ul with
    | false =>
      rw [hs, hw] at hn
      simp at hn
      subst hn
      exact (Run_word v u m s ul w h hu hv hs hw).mono (fun e w' hr => ⟨0, hr.1, hr.2⟩)
    | true =>
      rw [hs, hw] at hn
      simp at hn
      subst hn
      obtain ⟨k, rfl, hk⟩ : ∃ k : Nat, s = k ∧ k < m.length := by
        simp [stateM, inB] at hs
        exact ⟨s.toNat, by omega, by omega⟩
      exact (Run_ok v u m k ul w h hu hv hk hw).mono (fun e w' hr => ⟨_, hr.1, hr.2⟩)
def chkE (m o : List (List Int)) (s : Int) (u : List Int) : Int := if validY m o = true then (if stateM m s && isWordM m u then 0 else 2) else 1
set_option maxRecDepth 100000 in
set_option maxHeartbeats 1000000 in
theorem checked_is (v u q : Value) (m o : List (List Int)) (s : Int) (ul : List Int) (n : Int) (w : World) (h : Rows w v m) (k : Rows w u o) (hq : Ints w q ul) (hn : chkE m o s ul = n) :
    Calls Tryd.prog 41 #[.agg #[v, u], .int .i64 s, q] w fun e w' => e = .returned (.int .i64 n) ∧ Below w.heap.size w w' := by
  obtain ⟨A, cap, rfl, hml, hcm⟩ := id h
  obtain ⟨B, cbp, rfl, hol, hco⟩ := id k
  obtain ⟨Aq, cq, rfl, hql, hcq⟩ := id hq
  clear hcm hco hcq
  have h1 := h.alloc (.cells #[.slice A m.length cap, .slice B o.length cbp] 24)
  have k1 := k.alloc (.cells #[.slice A m.length cap, .slice B o.length cbp] 24)
  have i1 := hq.alloc (.cells #[.slice A m.length cap, .slice B o.length cbp] 24)
  have b1 := bal (Below.refl _ w) (.cells #[.slice A m.length cap, .slice B o.length cbp] 24)
  have z1 : (w.alloc (.cells #[.slice A m.length cap, .slice B o.length cbp] 24)).cell? ⟨w.heap.size, 0, none⟩ = some (.slice A m.length cap) := by simp [go_sem]
  have z2 : (w.alloc (.cells #[.slice A m.length cap, .slice B o.length cbp] 24)).cell? ⟨w.heap.size, 1, none⟩ = some (.slice B o.length cbp) := by simp [go_sem]
  have hsz : w.heap.size < (w.alloc (.cells #[.slice A m.length cap, .slice B o.length cbp] 24)).heap.size := by simp
  have Hn := hid hn
  clear hn
  cases hv : validY m o with
  | false =>
    have e1 : n = 1 := by have := Hn.out; unfold chkE at this; rw [hv] at this; simpa using this.symm
    subst e1
    go_enter Tryd.func41, Tryd.ntmps41
    go_wp2_with fail
    refine (ValidY_bool _ _ m o false _ h1 k1 hv).mono ?_
    rintro e w1 ⟨rfl, hb1⟩
    go_wp2
    go_ret
    exact ⟨rfl, btr b1 hb1⟩
  | true =>
    have e1 : n = if stateM m s && isWordM m ul then 0 else 2 := by have := Hn.out; unfold chkE at this; rw [hv, if_pos rfl] at this; exact this.symm
    have He1 := hid e1
    have Hv := hid hv
    clear e1 Hn
    go_enter Tryd.func41, Tryd.ntmps41
    go_wp2_with fail
    refine (ValidY_bool _ _ m o true _ h1 k1 hv).mono ?_
    rintro e w1 ⟨rfl, hb1⟩
    have y1 := (hb1.cell (p := ⟨w.heap.size, 0, none⟩) hsz).trans z1
    have y2 := (hb1.cell (p := ⟨w.heap.size, 1, none⟩) hsz).trans z2
    have hR1 := h1.below hb1
    have hI1 := i1.below hb1
    clear z1 z2
    go_wp2_with fail
    refine (automaton_any _ _ m w1 hR1).mono ?_
    rintro e w2 ⟨rfl, hb2⟩
    go_wp2_with fail
    refine (Run_code _ _ m s ul n w2 (hR1.below hb2) (hI1.below hb2) (validY_m Hv.out) He1.out).mono ?_
    rintro e w3 ⟨x, rfl, hb3⟩
    go_wp2
    go_ret
    exact ⟨rfl, btr (btr (btr b1 hb1) hb2) hb3⟩
theorem chk_state {m o : List (List Int)} (hv : validY m o = true) (s : Int) : chkE m o s [] = if stateM m s = true then 0 else 2 := by
  unfold chkE
  rw [if_pos hv]
  simp [isWordM]
end Go.Proofs.YtbhhemidnmaodaaDoor
namespace Go.Proofs.YtbhhemidnmaodaaDoor
open Go.RowKit Go.Shelf
/-- Two machines that came in. -/
structure TwoY (w : World) (va ua vb ub : Value) (ma oa mb ob : List (List Int)) : Prop where
  r1 : Rows w va ma
  r2 : Rows w ua oa
  r3 : Rows w vb mb
  r4 : Rows w ub ob
theorem TwoY.below {w w' : World} {va ua vb ub : Value} {ma oa mb ob : List (List Int)} (h : TwoY w va ua vb ub ma oa mb ob) (hb : Below w.heap.size w w') : TwoY w' va ua vb ub ma oa mb ob := ⟨h.r1.below hb, h.r2.below hb, h.r3.below hb, h.r4.below hb⟩
/-- The two boxes of Equal. -/
structure EqBox (W : World) (k : Nat) (va ua vb ub : Value) : Prop where
  a0 : W.cell? ⟨k, 0, none⟩ = some va
  a1 : W.cell? ⟨k, 1, none⟩ = some ua
  b0 : W.cell? ⟨k + 1, 0, none⟩ = some vb
  b1 : W.cell? ⟨k + 1, 1, none⟩ = some ub
theorem EqBox.below {W W' : World} {k : Nat} {va ua vb ub : Value} (h : EqBox W k va ua vb ub) (hb : Below W.heap.size W W') : EqBox W' k va ua vb ub := by
  have key : ∀ {p : Addr} {z : Value}, W.cell? p = some z → W'.cell? p = some z := fun hz => (hb.cell (World.block_lt_of_cell? _ _ hz)).trans hz
  exact ⟨key h.a0, key h.a1, key h.b0, key h.b1⟩
theorem EqBox.new (w : World) (va ua vb ub : Value) (t : TypeId) : EqBox ((w.alloc (.cells #[va, ua] t)).alloc (.cells #[vb, ub] t)) w.heap.size va ua vb ub := by
  have h1 := cells_two _ _ _ _ _ (World.alloc_heap_new w (.cells #[va, ua] t))
  have h2 := cells_two _ _ _ _ _ (World.alloc_heap_new (w.alloc (.cells #[va, ua] t)) (.cells #[vb, ub] t))
  have hb := bal (Below.refl _ (w.alloc (.cells #[va, ua] t))) (.cells #[vb, ub] t)
  have e : (w.alloc (.cells #[va, ua] t)).heap.size = w.heap.size + 1 := by simp
  rw [e] at h2
  exact ⟨(hb.cell (World.block_lt_of_cell? _ _ h1.1)).trans h1.1, (hb.cell (World.block_lt_of_cell? _ _ h1.2.1)).trans h1.2.1, h2.1, h2.2.1⟩
theorem head_row {W : World} {v : Value} {m : List (List Int)} (h : Rows W v m) (h0 : 0 < m.length) : ∃ b off c A c', v = .slice (some ⟨b, off, none⟩) m.length c ∧ W.cell? ⟨b, off, none⟩ = some (.slice A (letters m) c') := by
  obtain ⟨A, c, rfl, _, hc⟩ := h
  obtain ⟨b, off, r, rfl, h1, h2⟩ := hc 0 h0
  obtain ⟨A', c', rfl, _⟩ := h2
  exact ⟨b, off, c, A', c', rfl, by rw [Nat.add_zero] at h1; exact h1⟩
/-- What Equal answers. -/
def EqIs (ma oa mb ob : List (List Int)) (x y : Nat) (w : World) (e : Ending) (w' : World) : Prop :=
  ((∃ u r, ApartW ma oa mb ob x y u ∧ e = .returned (.tuple #[.bool false, r, .int .i64 0]) ∧ w'.ownsRow w.heap.size 3 1 r u.length (u.map fun x => .int .i64 x)) ∨
    (AlikeW ma oa mb ob x y ∧ e = .returned (.tuple #[.bool true, .slice none 0 0, .int .i64 0]))) ∧ Below w.heap.size w w'
set_option maxRecDepth 100000 in
set_option maxHeartbeats 4000000 in
theorem Equal_ok (va ua vb ub : Value) (ma oa mb ob : List (List Int)) (x y : Nat) (w : World) (h : TwoY w va ua vb ub ma oa mb ob) (ha : validY ma oa = true) (hb : validY mb ob = true) (hx : x < ma.length) (hy : y < mb.length) (hL : letters ma = letters mb) :
    Calls Tryd.prog 23 #[.agg #[va, ua], .int .i64 (x : Nat), .agg #[vb, ub], .int .i64 (y : Nat)] w (EqIs ma oa mb ob x y w) := by
  have hchka := chk_state ha x
  have hchkb := chk_state hb y
  rw [show stateM ma (x : Nat) = true by simp [stateM, inB]; omega, if_pos rfl] at hchka
  rw [show stateM mb (y : Nat) = true by simp [stateM, inB]; omega, if_pos rfl] at hchkb
  have Ha := hid ha
  have Hb := hid hb
  have HL := hid hL
  have hva := hid (validY_m ha)
  have hvb := hid (validY_m hb)
  obtain ⟨n1, n60, kk1, kk6, -⟩ := valid_parts (validY_m ha)
  obtain ⟨n2, n60', -, -, -⟩ := valid_parts (validY_m hb)
  obtain ⟨gA, fA, ca, R1, c1, rfl, hr1⟩ := head_row h.r1 (by omega)
  obtain ⟨gB, fB, cb, R2, c2, rfl, hr2⟩ := head_row h.r3 (by omega)
  obtain ⟨A2, ca2, rfl, -⟩ := id h.r2
  obtain ⟨B2, cb2, rfl, -⟩ := id h.r4
  have hX := bal (bal (Below.refl _ w) (.cells #[.slice (some ⟨gA, fA, none⟩) ma.length ca, .slice A2 oa.length ca2] 24)) (.cells #[.slice (some ⟨gB, fB, none⟩) mb.length cb, .slice B2 ob.length cb2] 24)
  have hT := h.below hX
  have hE := EqBox.new w (.slice (some ⟨gA, fA, none⟩) ma.length ca) (.slice A2 oa.length ca2) (.slice (some ⟨gB, fB, none⟩) mb.length cb) (.slice B2 ob.length cb2) 24
  have HX := hid hX
  have hin1 : (0 : Int) < ma.length := by omega
  have hin2 : (0 : Int) < mb.length := by omega
  have hne : ((letters ma : Int) != (letters mb : Int)) = false := by simp; omega
  have hoff : offP ma mb ≤ 3600 := by
    unfold offP
    exact Nat.le_trans (Nat.mul_le_mul n60 n60') (by decide)
  clear ha hb hX hL
  go_enter Tryd.func23, Tryd.ntmps23
  go_wp2_with fail
  refine (ValidY_bool _ _ ma oa true _ hT.r1 hT.r2 Ha.out).mono ?_
  rintro e w1 ⟨rfl, hb1⟩
  have T1 := hT.below hb1
  have E1 := hE.below hb1
  have B1' := hid (btr HX.out hb1)
  obtain ⟨y0, y1, y2, y3⟩ := id E1
  clear hT hE hb1
  go_wp2_with fail
  refine (ValidY_bool _ _ mb ob true _ T1.r3 T1.r4 Hb.out).mono ?_
  rintro e w2 ⟨rfl, hb2⟩
  have T2 := T1.below hb2
  obtain ⟨a0, a1, b0, b1⟩ := id (E1.below hb2)
  have E2 := hid (E1.below hb2)
  have B2' := hid (btr B1'.out hb2)
  have k1 := (B2'.out.cell (World.block_lt_of_cell? _ _ hr1)).trans hr1
  clear T1 E1 hb2 y0 y1 y2 y3 B1'
  go_wp2_with fail
  refine (checked_is _ _ _ ma oa x [] 0 w2 T2.r1 T2.r2 (Ints.nil _) hchka).mono ?_
  rintro e w3 ⟨rfl, hb3⟩
  have T3 := T2.below hb3
  have B3' := hid (btr B2'.out hb3)
  have E3 := hid (E2.out.below hb3)
  obtain ⟨y0, y1, y2, y3⟩ := E3.out
  clear hb3 a0 a1 b0 b1 k1
  go_wp2_with fail
  refine (checked_is _ _ _ mb ob y [] 0 w3 T3.r3 T3.r4 (Ints.nil _) hchkb).mono ?_
  rintro e w4 ⟨rfl, hb4⟩
  have T4 := T3.below hb4
  have B4' := hid (btr B3'.out hb4)
  have E4 := hid (E3.out.below hb4)
  obtain ⟨z0, z1, z2, z3⟩ := E4.out
  have k2 := (B4'.out.cell (World.block_lt_of_cell? _ _ hr2)).trans hr2
  clear y0 y1 y2 y3
  have hb5 := bal (Below.refl _ w4) (.cells #[.int .i64 (-1), .int .i64 (-1)] 70)
  have hd := cells_two _ _ _ _ _ (World.alloc_heap_new w4 (.cells #[.int .i64 (-1), .int .i64 (-1)] 70))
  have T5 := T4.below hb5
  have E5 := E4.out.below hb5
  have hM : EqMem (w4.alloc (.cells #[.int .i64 (-1), .int .i64 (-1)] 70)) (.slice (some ⟨gA, fA, none⟩) ma.length ca) (.slice A2 oa.length ca2) (.slice (some ⟨gB, fB, none⟩) mb.length cb) (.slice B2 ob.length cb2) ma oa mb ob w.heap.size (w.heap.size + 1) w4.heap.size := ⟨T5.r1, T5.r2, T5.r3, T5.r4, E5.a0, E5.a1, E5.b0, E5.b1, hd.1, hd.2.1⟩
  have B5' := hid (btr B4'.out hb5)
  have hF := First_Q (cdY ma mb) (ldY ma oa mb ob) (offP ma mb + 1) (letters ma) (pairP mb x y) w.heap.size (w.heap.size + 1) w4.heap.size (fun p => decide (p = (offP ma mb : Nat))) (w4.alloc (.cells #[.int .i64 (-1), .int .i64 (-1)] 70)) (cdY_ok n60 n60') (by omega) (by omega) (by have := pairP_lt hx hy; omega) (ldY_ok oa ob hva.out hvb.out HL.out)
    (fun p q W hW hf hp hq => by
      have hpo : p < offP ma mb := by simp at hf; omega
      obtain ⟨j1, j2, j3⟩ := pair_of hpo
      generalize p / mb.length = a at *
      generalize p % mb.length = b at *
      subst j3
      have hl := leadY_any _ _ _ _ ma oa mb ob w.heap.size (w.heap.size + 1) w4.heap.size a b q W (hM.below hW) Ha.out Hb.out HL.out j1 j2 hq
      rw [(cdY_pair j1 j2).1, (cdY_pair j1 j2).2, ldY_pair j1 j2]
      refine hl.mono ?_
      rintro e W' ⟨h1, h2⟩
      by_cases ho : ox oa a (q : Int) = ox ob b (q : Int)
      · rw [if_pos ho] at h1 ⊢
        have m1 := (nx_ok hva.out j1 (x := (q : Int)) (by omega) (by omega)).1
        have m2 := (nx_ok hvb.out j2 (x := (q : Int)) (by omega) (by have := HL.out; omega)).1
        rw [(cdY_pair m1 m2).1, (cdY_pair m1 m2).2]
        exact ⟨h1, h2⟩
      · rw [if_neg ho] at h1 ⊢
        rw [(cdY_off ma mb).1, (cdY_off ma mb).2]
        exact ⟨h1, h2⟩)
    (fun p W hp hW => by
      have hMW := hM.below hW
      have hl := foundY_any ((cdY ma mb).x p) ((cdY ma mb).y p) w4.heap.size W hMW.d0 hMW.d1
      have e : (decide ((cdY ma mb).x (p : Nat) = -1) && decide ((cdY ma mb).y (p : Nat) = -1)) = decide ((p : Int) = (offP ma mb : Nat)) := by
        by_cases e : p = offP ma mb
        · subst e; rw [(cdY_off ma mb).1, (cdY_off ma mb).2]; simp
        · obtain ⟨j1, j2, j3⟩ := pair_of (show p < offP ma mb by omega)
          have : ¬ ((p : Int) = (offP ma mb : Nat)) := by omega
          rw [show (cdY ma mb).x (p : Nat) = ((p / mb.length : Nat) : Int) by rw [j3, (cdY_pair j1 j2).1, ← j3]]
          have h0 : ¬ (((p / mb.length : Nat) : Int) = -1) := fun e => by
            have h9 := Int.natCast_nonneg (p / mb.length)
            rw [e] at h9
            exact absurd h9 (by decide)
          rw [decide_eq_false h0, decide_eq_false this]; rfl
      rw [e] at hl
      exact hl)
  rw [(cdY_pair hx hy).1, (cdY_pair hx hy).2] at hF
  have hap := hid (fun j (hj : j < (bfsY ma oa mb ob x y).length) (hp : plB (bfsY ma oa mb ob x y) j = ((offP ma mb : Nat) : Int)) => bfsY_apart oa ob hva.out hvb.out HL.out hx hy hj hp)
  have hal := hid (bfsY_alike oa ob hva.out hvb.out HL.out hx hy)
  change Calls _ _ _ _ (FirstIs (bfsY ma oa mb ob x y) _ _) at hF
  generalize bfsY ma oa mb ob x y = F at *
  clear hM T5 E5 T4 hd hb5
  go_wp2_with fail
  refine hF.mono ?_
  rintro e w6 ⟨⟨i, r, hi, hfi, -, rfl, hown⟩ | ⟨hno, rfl⟩, hb6⟩
  · have hA := hid (hap.out i hi (by simpa using hfi))
    obtain ⟨rA, rn, rc, rfl⟩ : ∃ A k c, r = .slice A k c := by
      rcases hown.2 with ⟨hu, h0⟩ | ⟨g, cap, cur, hu, hg, hh, _⟩
      · exact ⟨none, 0, 0, hu⟩
      · exact ⟨_, _, cap, hu⟩
    have Hown := hid (row_mono hown (base' := w.heap.size) (by have := B5'.out.size; exact this))
    clear hown hfi hi
    go_wp2
    go_ret3
    exact ⟨.inl ⟨_, _, hA.out, rfl, Hown.out⟩, btr B5'.out hb6⟩
  · have hA := hid (hal.out (fun j hj e => by have := hno j hj; rw [e] at this; simp at this))
    clear hno
    go_wp2
    go_ret3
    exact ⟨.inr ⟨hA.out, rfl⟩, btr B5'.out hb6⟩
end Go.Proofs.YtbhhemidnmaodaaDoor
namespace Go.Proofs.YtbhhemidnmaodaaDoor
open Go.RowKit Go.Maps Go.WideAt Go.WideMaps
/-- In one class, with the same outputs, led to the same classes. -/
def divE (m o : List (List Int)) (cl : List Int) (s t : Nat) : Bool := (cl.getD s 0 == cl.getD t 0) && (List.range (letters m)).all fun x => (ox o s (x : Int) == ox o t (x : Int)) && (cl.getD (nx m s (x : Int)) 0 == cl.getD (nx m t (x : Int)) 0)
theorem divE_iff (m o : List (List Int)) (cl : List Int) (s t : Nat) : divE m o cl s t = true ↔ cl.getD s 0 = cl.getD t 0 ∧ ∀ x : Nat, x < letters m → ox o s (x : Int) = ox o t (x : Int) ∧ cl.getD (nx m s (x : Int)) 0 = cl.getD (nx m t (x : Int)) 0 := by
  simp [divE]
theorem divE_eqv (m o : List (List Int)) (cl : List Int) : EqvR (divE m o cl) := by
  refine ⟨fun s => ?_, fun s t => ?_, fun s t u => ?_⟩
  · rw [divE_iff]; exact ⟨rfl, fun x _ => ⟨rfl, rfl⟩⟩
  · rw [divE_iff, divE_iff]; exact fun h => ⟨h.1.symm, fun x hx => ⟨(h.2 x hx).1.symm, (h.2 x hx).2.symm⟩⟩
  · rw [divE_iff, divE_iff, divE_iff]; exact fun h g => ⟨h.1.trans g.1, fun x hx => ⟨(h.2 x hx).1.trans (g.2 x hx).1, (h.2 x hx).2.trans (g.2 x hx).2⟩⟩
/-- The row of a state after k letters. -/
def arrF (m o : List (List Int)) (cl : List Int) (s k i : Nat) : Int :=
  if i = 0 then cl.getD s 0 else if (i - 1) / 2 < k then (if (i - 1) % 2 = 0 then ox o s (((i - 1) / 2 : Nat) : Int) else cl.getD (nx m s (((i - 1) / 2 : Nat) : Int)) 0) else 0
def arrL (m o : List (List Int)) (cl : List Int) (s k : Nat) : List Int := (List.range 13).map (arrF m o cl s k)
theorem arrF_odd (m o : List (List Int)) (cl : List Int) (s k x : Nat) (hx : x < k) : arrF m o cl s k (1 + 2 * x) = ox o s (x : Int) := by
  unfold arrF
  rw [if_neg (by omega : ¬ 1 + 2 * x = 0), show (1 + 2 * x - 1) / 2 = x by omega, show (1 + 2 * x - 1) % 2 = 0 by omega, if_pos hx, if_pos rfl]
theorem arrF_even (m o : List (List Int)) (cl : List Int) (s k x : Nat) (hx : x < k) : arrF m o cl s k (2 + 2 * x) = cl.getD (nx m s (x : Int)) 0 := by
  unfold arrF
  rw [if_neg (by omega : ¬ 2 + 2 * x = 0), show (2 + 2 * x - 1) / 2 = x by omega, show (2 + 2 * x - 1) % 2 = 1 by omega, if_pos hx, if_neg (by decide)]
theorem arrL_length (m o : List (List Int)) (cl : List Int) (s k : Nat) : (arrL m o cl s k).length = 13 := by simp [arrL]
theorem arrL_zero (m o : List (List Int)) (cl : List Int) (s : Nat) : arrL m o cl s 0 = [cl.getD s 0, 0, 0, 0, 0, 0, 0, 0, 0, 0, 0, 0, 0] := by
  simp [arrL, arrF, List.range, List.range.loop]
theorem arrL_step (m o : List (List Int)) (cl : List Int) (s k : Nat) (hk : k < 6) : ((arrL m o cl s k).set (1 + 2 * k) (ox o s (k : Int))).set (2 + 2 * k) (cl.getD (nx m s (k : Int)) 0) = arrL m o cl s (k + 1) := by
  apply List.ext_getElem
  · simp [arrL]
  · intro i h1 h2
    have hi : i < 13 := by simpa [arrL] using h2
    simp only [arrL, List.getElem_set, List.getElem_map, List.getElem_range]
    by_cases e1 : 2 + 2 * k = i
    · subst e1
      rw [if_pos rfl, arrF_even _ _ _ _ _ _ (Nat.lt_succ_self k)]
    · rw [if_neg e1]
      by_cases e2 : 1 + 2 * k = i
      · subst e2
        rw [if_pos rfl, arrF_odd _ _ _ _ _ _ (Nat.lt_succ_self k)]
      · rw [if_neg e2]
        unfold arrF
        by_cases e0 : i = 0
        · rw [if_pos e0, if_pos e0]
        · rw [if_neg e0, if_neg e0]
          by_cases e3 : (i - 1) / 2 < k
          · rw [if_pos e3, if_pos (show (i - 1) / 2 < k + 1 by omega)]
          · rw [if_neg e3, if_neg (show ¬ (i - 1) / 2 < k + 1 by omega)]
theorem arrL_eq (m o : List (List Int)) (cl : List Int) (hK : letters m ≤ 6) (s t : Nat) : arrL m o cl s (letters m) = arrL m o cl t (letters m) ↔ divE m o cl s t = true := by
  rw [divE_iff]
  constructor
  · intro h
    have at' : ∀ i, i < 13 → arrF m o cl s (letters m) i = arrF m o cl t (letters m) i := by
      intro i hi
      have := congrArg (fun l => l[i]?) h
      simpa [arrL, hi] using this
    refine ⟨by simpa [arrF] using at' 0 (by omega), fun x hx => ⟨?_, ?_⟩⟩
    · have := at' (1 + 2 * x) (by omega)
      rwa [arrF_odd _ _ _ _ _ _ hx, arrF_odd _ _ _ _ _ _ hx] at this
    · have := at' (2 + 2 * x) (by omega)
      rwa [arrF_even _ _ _ _ _ _ hx, arrF_even _ _ _ _ _ _ hx] at this
  · intro h
    unfold arrL
    refine List.map_congr_left fun i hi => ?_
    unfold arrF
    by_cases e0 : i = 0
    · rw [if_pos e0, if_pos e0]; exact h.1
    · rw [if_neg e0, if_neg e0]
      by_cases e1 : (i - 1) / 2 < letters m
      · rw [if_pos e1, if_pos e1, (h.2 _ e1).1, (h.2 _ e1).2]
      · rw [if_neg e1, if_neg e1]
theorem arr13 : ArrKey Tryd.prog 91 3 13 := ⟨Tryd.underlying91, by kernel_rfl, by kernel_rfl, by kernel_rfl⟩
theorem law13 : KeyLaw Tryd.prog 91 := arr13.law
theorem keyed13 : Keyed Tryd.prog 91 := Keyed.of_law law13
def key13 (l : List Int) : Lit := .string (keyBytes (l.map fun x => .int .i64 x))
def arrV (l : List Int) : Value := .agg (l.map fun x => Value.int .i64 x).toArray
def smallI (l : List Int) : Prop := ∀ x ∈ l, -9223372036854775808 ≤ x ∧ x ≤ 9223372036854775807
theorem keyOf_13 (l : List Int) (hl : l.length = 13) (hw : smallI l) : keyOf Tryd.prog 91 (arrV l) = some (key13 l) := by
  have A := arr13
  have he := Tryd.underlying3
  have hkt := A.keyType ⟨Tryd.prog.types.size - 1, by kernel_rfl⟩
  obtain ⟨M, hm⟩ : ∃ M, Tryd.prog.types.size = M + 1 := ⟨Tryd.prog.types.size - 1, by kernel_rfl⟩
  have hwf : ∀ x ∈ l, (Lit.int .i64 x).wf = true := fun x hx => WalkArith.wf_i64 (hw x hx)
  match l, hl, hwf with
  | [a0, a1, a2, a3, a4, a5, a6, a7, a8, a9, a10, a11, a12], _, hwf =>
    have w0 := hwf a0 (by simp)
    have w1 := hwf a1 (by simp)
    have w2 := hwf a2 (by simp)
    have w3 := hwf a3 (by simp)
    have w4 := hwf a4 (by simp)
    have w5 := hwf a5 (by simp)
    have w6 := hwf a6 (by simp)
    have w7 := hwf a7 (by simp)
    have w8 := hwf a8 (by simp)
    have w9 := hwf a9 (by simp)
    have w10 := hwf a10 (by simp)
    have w11 := hwf a11 (by simp)
    have w12 := hwf a12 (by simp)
    clear hwf hw
    generalize Tryd.prog = P at *
    unfold keyOf arrV key13
    simp only [A.hu]
    rw [if_pos (by simp [hkt, Value.formed, A.hu, A.size]), hm]
    unfold Program.keyLits
    simp only [A.hu, Value.cells]
    rw [if_pos (by rw [A.size]; rfl), show List.range 13 = [0, 1, 2, 3, 4, 5, 6, 7, 8, 9, 10, 11, 12] from rfl]
    simp only [List.mapM_cons, List.mapM_nil]
    simp [A.one, Program.keyLits, he, w0, w1, w2, w3, w4, w5, w6, w7, w8, w9, w10, w11, w12]
theorem key13_inj {l l' : List Int} (hl : l.length = 13) (hl' : l'.length = 13) (hw : smallI l) (hw' : smallI l') (h : key13 l = key13 l') : l = l' := by
  have h1 := keyOf_13 l hl hw
  rw [h] at h1
  have := keyed13.inj h1 (keyOf_13 l' hl' hw')
  simp only [arrV, Value.agg.injEq] at this
  have h2 := congrArg Array.toList this
  simp only [List.toList_toArray] at h2
  have h3 := congrArg (fun q : List Value => q.map intOf) h2
  simpa [intOf, Function.comp_def] using h3
end Go.Proofs.YtbhhemidnmaodaaDoor
namespace Go.Proofs.YtbhhemidnmaodaaDoor
open Go.RowKit
section
variable {P : Program} {Q : Exit → Act → World → Prop} {a : Act} {l : List Oper} {c : Nat → Value} {R : (Nat → Bool) → World → Prop} {eff : Nat → Bool}
def VrStep (P : Program) (a : Act) (l : List Oper) (c : Nat → Value) (R : (Nat → Bool) → World → Prop) (eff : Nat → Bool) (i : Nat) (o : Oper) : Prop :=
  ∀ (F : Act) (W : World) (L : Nat → Bool), L i = false → R L W → (∀ i o, l[i]? = some o → L i = true → ∀ e ∈ o.after, Region.binds .any e = true → L e.on = true) → (∀ e ∈ o.after, Region.binds .any e = true → L e.on = true) →
    (∀ s, (l.all fun o => o.dst != some s) = true → F.eval (.tmp s) = a.tmps.getD s undef) → (∀ j d, depB o j = true → eff j = false → l[j]?.bind (·.dst) = some d → F.eval (.tmp d) = c j) →
    if eff i = true then o.guard = none ∧ ∃ W', (execOp F.eval o).run P W = .ok .skip W' ∧ R (updB L i) W' else OpV P F o W (c i) (R (updB L i))
def VrFrom (P : Program) (a : Act) (l : List Oper) (c : Nat → Value) (R : (Nat → Bool) → World → Prop) (eff : Nat → Bool) : Nat → List Oper → Prop
  | _, [] => True
  | i, o :: r => VrStep P a l c R eff i o ∧ VrFrom P a l c R eff (i + 1) r
structure IW (l : List Oper) (c : Nat → Value) (R : (Nat → Bool) → World → Prop) (eff : Nat → Bool) (L : Nat → Bool) (u : Nat → Value) (W : World) : Prop where
  val : ∀ i, L i = true → u i = c i ∨ eff i = true
  clo : ∀ i o, l[i]? = some o → L i = true → ∀ e ∈ o.after, Region.binds .any e = true → L e.on = true
  rel : R L W
theorem VrFrom.inv (hd : dstsApart l = true) (hsz : (l.all fun o => match o.dst with | some d => decide (d < a.tmps.size) | none => true) = true) :
    ∀ (r : List Oper) (k : Nat), (∀ i, r[i]? = l[k + i]?) → VrFrom P a l c R eff k r → InvFrom P Q a l (IW l c R eff) k r
  | [], _, _, _ => trivial
  | o :: r, k, hr, h => by
    refine ⟨?_, VrFrom.inv hd hsz r (k + 1) (fun i => by have := hr (i + 1); rw [List.getElem?_cons_succ] at this; rw [this]; congr 1; omega) h.2⟩
    have hk : l[k]? = some o := by have := hr 0; simp at this; exact this.symm
    intro L u W hL hpre hI K hK
    have hold : ∀ s, (l.all fun o => o.dst != some s) = true → (framedFrom a u 0 l).eval (.tmp s) = a.tmps.getD s undef := fun s hs => framed_old _ _ _ hs
    have hnew : ∀ j d, depB o j = true → eff j = false → l[j]?.bind (·.dst) = some d → (framedFrom a u 0 l).eval (.tmp d) = c j := by
      intro j d hj hej hdj
      simp only [depB, Array.any_eq_true] at hj
      obtain ⟨q, hq, he⟩ := hj
      rw [Bool.and_eq_true, beq_iff_eq] at he
      have hLj := hpre _ (Array.getElem_mem hq) he.2
      rw [he.1] at hLj
      obtain ⟨oj, hoj, hdd⟩ := Option.bind_eq_some_iff.1 hdj
      have h1 := List.all_eq_true.1 hsz oj (List.mem_of_getElem? hoj)
      rw [hdd] at h1
      have h2 := framed_new (u := u) (d := d) l 0 a j hd (by simpa using h1) hdj
      rw [Nat.zero_add] at h2
      rw [h2]
      rcases hI.val j hLj with h3 | h3
      · exact h3
      · rw [hej] at h3; cases h3
    have hs := h.1 (framedFrom a u 0 l) W L hL hI.rel hI.clo hpre hold hnew
    have hclo : ∀ i o', l[i]? = some o' → updB L k i = true → ∀ e ∈ o'.after, Region.binds .any e = true → updB L k e.on = true := by
      intro i o' ho' hi e he hbd
      have : L e.on = true := by
        by_cases e1 : i = k
        · subst e1
          rw [hk] at ho'
          cases ho'
          exact hpre e he hbd
        · rw [updB_ne e1] at hi
          exact hI.clo i o' ho' hi e he hbd
      unfold updB
      split
      · rfl
      · exact this
    cases hek : eff k with
    | true =>
      rw [if_pos hek] at hs
      obtain ⟨hg, W', hrun, hS⟩ := hs
      refine op_skip hg W' hrun (hK undef W' ⟨fun i hi => ?_, hclo, hS⟩)
      by_cases e : i = k
      · subst e; exact .inr hek
      · rw [updB_ne e] at hi
        rw [updV_ne e]
        exact hI.val i hi
    | false =>
      rw [if_neg (by rw [hek]; decide)] at hs
      have hnew' : ∀ W', R (updB L k) W' → IW l c R eff (updB L k) (updV u k (c k)) W' := fun W' hR => ⟨fun i hi => by
        by_cases e : i = k
        · subst e; exact .inl (updV_self _ _ _)
        · rw [updB_ne e] at hi
          rw [updV_ne e]
          exact hI.val i hi, hclo, hR⟩
      obtain ⟨hg, ⟨w', hrun, hR⟩ | ⟨f, args, hrun, hC⟩⟩ := hs
      · exact op_run hg _ w' hrun (hK _ _ (hnew' w' hR))
      · refine op_call hg f args hrun (hC.mono ?_)
        rintro e w' ⟨rfl, hR⟩
        exact ⟨_, rfl, hK _ _ (hnew' w' hR)⟩
theorem wp_region_eff {id : Nat} {w : World} (hm : P.follows .mixedOrders = true) (hb : backFrom 0 l = true) (hd : dstsApart l = true) (hsz : (l.all fun o => match o.dst with | some d => decide (d < a.tmps.size) | none => true) = true)
    (hde : (List.range l.length).all (fun i => !eff i || (l[i]?.bind (·.dst)).isNone) = true) (h0 : R (fun _ => false) w.drew) (hs : VrFrom P a l c R eff 0 l) (hend : ∀ L W, (∀ i, i < l.length → L i = true) → R L W → Q .normal (framedFrom a c 0 l) W) : (Code.region id l.toArray true).wp P Q a w := by
  refine wp_region_inv (I := IW l c R eff) hm hb hd ⟨fun i h => (by cases h), fun i o _ h => (by cases h), h0⟩ (VrFrom.inv hd hsz l 0 (fun i => by rw [Nat.zero_add]) hs) ?_
  intro L u W hL hI
  rw [framed_same (n := 0) l 0 a (c := c) (fun i o ho => by
    rw [Nat.zero_add]
    have hil := (List.getElem?_eq_some_iff.1 ho).1
    rcases hI.val i (hL i hil) with h | h
    · exact .inl h
    · right
      have := List.all_eq_true.1 hde i (List.mem_range.2 hil)
      rw [h, ho] at this
      simpa using this)]
  exact hend L W hL hI.rel
end
end Go.Proofs.YtbhhemidnmaodaaDoor
namespace Go.Proofs.YtbhhemidnmaodaaDoor
open Go.RowKit Go.Maps Go.WideAt Go.WideMaps
/-- A row of numbers of which the first k are written. -/
def someI (n k : Nat) (f : Nat → Nat) : List Value := (List.range n).map fun i => .int .i64 (if i < k then (f i : Int) else 0)
theorem someI_set (n k : Nat) (f : Nat → Nat) (hk : k < n) : (someI n k f).set k (.int .i64 (f k : Int)) = someI n (k + 1) f := by
  apply List.ext_getElem
  · simp [someI]
  · intro i h1 h2
    have hi : i < n := by simpa [someI] using h2
    rw [List.getElem_set]
    by_cases e : k = i
    · subst e; simp [someI]
    · rw [if_neg e]
      simp only [someI, List.getElem_map, List.getElem_range]
      by_cases h : i < k
      · rw [if_pos h, if_pos (by omega)]
      · rw [if_neg h, if_neg (by omega)]
theorem someI_made (n : Nat) (f : Nat → Nat) : (madeCells #[.int .i64 0] (n * 1)).toList = someI n 0 f := by
  apply List.ext_getElem
  · simp [someI, madeCells]
  · intro i h1 h2
    simp [someI, madeCells, Nat.mod_one]
theorem someI_all (n : Nat) (f : Nat → Nat) : someI n n f = ((List.range n).map fun i => (f i : Int)).map fun x => .int .i64 x := by
  rw [List.map_map]
  unfold someI
  refine List.map_congr_left fun i hi => ?_
  rw [if_pos (List.mem_range.1 hi)]; rfl
theorem zeroInt13 (w : World) : (zeroValue 3).run Tryd.prog w = .ok (.int .i64 0) w := by kernel_rfl
/-- Where the round stands when state s begins. -/
structure DivW (v u : Value) (m o : List (List Int)) (cl : List Int) (w : World) (s : Nat) (wr : World) : Prop where
  be : Below w.heap.size w wr
  b0 : wr.cell? ⟨w.heap.size, 0, none⟩ = some v
  b1 : wr.cell? ⟨w.heap.size, 1, none⟩ = some u
  map : ∃ V T, ValMap wr Tryd.prog 91 (w.heap.size + 1) (cntE (divE m o cl) s) (.int .i64 0) V T (cntE (divE m o cl) s) ∧ (∀ t, t < s → V (key13 (arrL m o cl t (letters m))) = .int .i64 (numE (divE m o cl) t : Nat) ∧ T (key13 (arrL m o cl t (letters m))) = true) ∧ (∀ kl, T kl = true → ∃ t, t < s ∧ kl = key13 (arrL m o cl t (letters m)))
  own : wr.ownsRow (w.heap.size + 2) 3 1 (.slice (some ⟨w.heap.size + 2, 0, none⟩) m.length m.length) m.length (someI m.length s (numE (divE m o cl)))
theorem DivW.below {v u : Value} {m o : List (List Int)} {cl : List Int} {w : World} {s : Nat} {wr wr' : World} (h : DivW v u m o cl w s wr) (hb : Below wr.heap.size wr wr') : DivW v u m o cl w s wr' := by
  obtain ⟨h1, h2, h3, ⟨V, T, h4, h5, h6⟩, h7⟩ := h
  exact ⟨btr h1 hb, (hb.cell (p := ⟨w.heap.size, 0, none⟩) (World.block_lt_of_cell? _ _ h2)).trans h2, (hb.cell (p := ⟨w.heap.size, 1, none⟩) (World.block_lt_of_cell? _ _ h3)).trans h3, ⟨V, T, h4.kept (hb.block _ h4.lt), h5, h6⟩, owns_own h7 (fun g _ hl => hb.block g hl)⟩
def DivMap (m o : List (List Int)) (cl : List Int) (w : World) (s : Nat) (wr : World) : Prop :=
  ∃ V T, ValMap wr Tryd.prog 91 (w.heap.size + 1) (cntE (divE m o cl) s) (.int .i64 0) V T (cntE (divE m o cl) s) ∧ (∀ t, t < s → V (key13 (arrL m o cl t (letters m))) = .int .i64 (numE (divE m o cl) t : Nat) ∧ T (key13 (arrL m o cl t (letters m))) = true) ∧ (∀ kl, T kl = true → ∃ t, t < s ∧ kl = key13 (arrL m o cl t (letters m)))
theorem DivW.store {v u : Value} {m o : List (List Int)} {cl : List Int} {w : World} {s : Nat} {wr wq : World} (h : DivW v u m o cl w s wr) (hs : s < m.length) (hbe : Below w.heap.size w wq) (h0 : wq.heap[w.heap.size]? = wr.heap[w.heap.size]?) (h2 : wq.heap[w.heap.size + 2]? = wr.heap[w.heap.size + 2]?) (hm : DivMap m o cl w (s + 1) wq) :
    DivW v u m o cl w (s + 1) (wq.setCell ⟨w.heap.size + 2, s, none⟩ (.int .i64 (numE (divE m o cl) s : Nat))) := by
  have hoth : ∀ q, q ≠ w.heap.size + 2 → (wq.setCell ⟨w.heap.size + 2, s, none⟩ (.int .i64 (numE (divE m o cl) s : Nat))).heap[q]? = wq.heap[q]? := fun q hq => Below.heap_setCell _ _ _ _ hq
  have hown : wq.ownsRow (w.heap.size + 2) 3 1 (.slice (some ⟨w.heap.size + 2, 0, none⟩) m.length m.length) m.length (someI m.length s (numE (divE m o cl))) := owns_own h.own (fun g hg _ => by cases hg; exact h2)
  refine ⟨hbe.setCell (p := ⟨w.heap.size + 2, s, none⟩) (by show w.heap.size ≤ w.heap.size + 2; omega) _, (World.cell?_of_block (a := ⟨w.heap.size, 0, none⟩) ((hoth _ (by show w.heap.size ≠ w.heap.size + 2; omega)).trans h0)).trans h.b0, (World.cell?_of_block (a := ⟨w.heap.size, 1, none⟩) ((hoth _ (by show w.heap.size ≠ w.heap.size + 2; omega)).trans h0)).trans h.b1, ?_, ?_⟩
  · obtain ⟨V, T, h4, h5, h6⟩ := hm
    exact ⟨V, T, h4.kept (hoth _ (by omega)), h5, h6⟩
  · rw [← someI_set _ _ _ hs]
    exact (hown.stored s _).1
theorem small_arr {m o : List (List Int)} {cl : List Int} (hv : validY m o = true) (hl : cl.length = m.length) (hc : ∀ x ∈ cl, 0 ≤ x ∧ x < 100) {s : Nat} (hs : s < m.length) : smallI (arrL m o cl s (letters m)) := by
  have hcl : ∀ i, 0 ≤ cl.getD i 0 ∧ cl.getD i 0 < 100 := by
    intro i
    by_cases h : i < cl.length
    · rw [show cl.getD i 0 = cl[i] by simp [List.getD_eq_getElem?_getD, List.getElem?_eq_getElem h]]; exact hc _ (List.getElem_mem h)
    · simp [List.getD_eq_getElem?_getD, List.getElem?_eq_none (by omega : cl.length ≤ i)]
  intro x hx
  obtain ⟨i, hi, rfl⟩ := List.mem_map.1 hx
  unfold arrF
  split
  · have := hcl s; omega
  · split
    · split
      · have := ox_ok hv hs (x := (((i - 1) / 2 : Nat) : Int)) (by omega) (by omega); omega
      · have := hcl (nx m s (((i - 1) / 2 : Nat) : Int)); omega
    · omega
set_option maxRecDepth 100000 in
set_option maxHeartbeats 8000000 in
theorem divided_any (v u c : Value) (m o : List (List Int)) (cl : List Int) (w : World) (h : Rows w v m) (k : Rows w u o) (hv : validY m o = true) (hcI : Ints w c cl) (hcl : cl.length = m.length) (hcs : ∀ x ∈ cl, 0 ≤ x ∧ x < 100) :
    Calls Tryd.prog 36 #[.agg #[v, u], c] w fun e w' => ∃ g, e = .returned (.tuple #[.slice (some ⟨g, 0, none⟩) m.length m.length, .int .i64 (cntE (divE m o cl) m.length : Nat)]) ∧ w'.ownsRow w.heap.size 3 1 (.slice (some ⟨g, 0, none⟩) m.length m.length) m.length (((List.range m.length).map fun s => (numE (divE m o cl) s : Int)).map fun x => .int .i64 x) ∧ Below w.heap.size w w' := by
  obtain ⟨j0, hj, hy0, hy1, hy2⟩ := info_parts infoInt
  obtain ⟨p1, p2, p3, p4, p6, -⟩ := rowsY hv
  have Hsm := hid (fun s hs => small_arr hv hcl hcs (s := s) hs)
  have Heq := hid (arrL_eq m o cl p4)
  have hE := hid (divE_eqv m o cl)
  obtain ⟨q1, q2, q3⟩ := validY_parts hv
  have hnxl := hid (fun s (hs : s < m.length) (x : Nat) (hx : x < letters m) => nx_ok q1 hs (x := (x : Int)) (by omega) (by omega))
  have hlm := hid (fun i (hi : i < m.length) => (valid_parts q1).2.2.2.2 i hi)
  have hlo := hid q3
  clear q3
  obtain ⟨A, cap, rfl, hml, hcm⟩ := h
  obtain ⟨B, cbp, rfl, hol, hco⟩ := k
  obtain ⟨Ac, capc, rfl, hclb, hcc⟩ := hcI
  obtain ⟨bA, offA, r0, hA, hcell0, hr0⟩ := hcm 0 (by omega)
  subst hA
  obtain ⟨bB, offB, r0', hBB, hcell0', hr0'⟩ := hco 0 (by omega)
  subst hBB
  obtain ⟨bC, offC, hCC, hcellC⟩ := hcc 0 (by omega)
  subst hCC
  have Hcm := hid hcm
  have Hco := hid hco
  have Hcc := hid hcc
  have hbA : bA < w.heap.size := World.block_lt_of_cell? _ _ hcell0
  have hbB : bB < w.heap.size := World.block_lt_of_cell? _ _ hcell0'
  have hbC : bC < w.heap.size := World.block_lt_of_cell? _ _ hcellC
  rw [hcl]
  rw [hcl] at Hcc hclb
  rw [p6] at Hco
  rw [p6]
  clear hcm hco hcc hr0 hr0' hcell0 hcell0' hcellC hol
  have hmm := @run_makeMap Tryd.prog
  go_enter Tryd.func36, Tryd.ntmps36
  go_wp2_with (at_make; refine wpList_make_full _ rfl _ _ 27 rfl (w.heap.size + 2) 3 j0 (.int .i64 0) 1 Tryd.underlying27 hj hy0 hy1 .i64 .i64 _ _ m.length rfl rfl rfl rfl (by rw [hy2]; omega) (by unfold maxLen; omega) (by simp) ?_; go_loud (intro w1 hown hgrow; have hb1 := hid ((Below.refl (w.heap.size + 2) _).grown hgrow (by simp) (fun k e => by cases e)); have hvm : ValMap w1 Tryd.prog 91 (w.heap.size + 1) 0 (.int .i64 0) (fun _ => .int .i64 0) (fun _ => false) 0 := (by have h := (ValMap.made (w.alloc (.cells #[.slice (some ⟨bA, offA, none⟩) m.length cap, .slice (some ⟨bB, offB, none⟩) m.length cbp] 24)) Tryd.prog 91 (.int .i64 0)).kept (hb1.out.block _ (by simp)); simpa using h); have hD : DivW (.slice (some ⟨bA, offA, none⟩) m.length cap) (.slice (some ⟨bB, offB, none⟩) m.length cbp) m o cl w 0 w1 := ⟨(bal (bal (Below.refl _ _) _) _).trans (hb1.out.mono (by omega)), (hb1.out.cell (by simp)).trans (by simp), (hb1.out.cell (by simp)).trans (by simp), ⟨fun _ => .int .i64 0, fun _ => false, hvm, fun t ht => absurd ht (Nat.not_lt_zero _), fun kl e => (by cases e)⟩, (by have h := hown; rw [show Value.cells (.int .i64 0) = #[.int .i64 0] from rfl, someI_made m.length (numE (divE m o cl))] at h; simpa using h)⟩; have HD := hid hD; clear hD hown hgrow hb1))
  go_loopw [21] (fun i wr => ∃ s : Nat, s ≤ m.length ∧ i = .int .i64 s ∧ DivW (.slice (some ⟨bA, offA, none⟩) m.length cap) (.slice (some ⟨bB, offB, none⟩) m.length cbp) m o cl w s wr) (fun i _ => m.length - (intOf i).toNat)
  case atStart => exact ⟨0, Nat.zero_le _, rfl, HD.out⟩
  case round =>
    obtain ⟨s, hs, rfl, hD⟩ := hrel
    clear HD
    obtain ⟨wo, rfl⟩ : ∃ wo : World, wo = wr := ⟨_, rfl⟩
    have hsl := own_lt hD.own
    by_cases hlt : s < m.length
    · have hsi : (s : Int) < m.length := by omega
      obtain ⟨bq, oq, hq0, hcq⟩ := Hcc.out s hlt
      cases hq0
      obtain ⟨bm, om, rm, hm0, hcmr, hrm⟩ := Hcm.out s hlt
      cases hm0
      obtain ⟨bo, oo, ro, ho0, hcor, hro⟩ := Hco.out s hlt
      cases ho0
      have Hlm := hlm.out s hlt
      have Hlo := hlo.out s hlt
      obtain ⟨Am, capm, rfl, hrml, hrmc⟩ := hrm
      obtain ⟨Ao, capo, rfl, hrol, hroc⟩ := hro
      rw [Hlm.1] at hcmr hrmc
      rw [Hlo.1] at hcor hroc
      have Hrmc := hid hrmc
      have Hroc := hid hroc
      have Hlm2 := hid Hlm.2
      have Hq := hid (show cl.getD s 0 = cl.getD s 0 from rfl)
      obtain ⟨q, hq⟩ : ∃ q, cl.getD s 0 = q := ⟨_, rfl⟩
      have Hqq := hid hq
      have hA0 := arrL_zero m o cl s
      rw [hq] at hcq hA0
      have HA0 := hid hA0
      clear hrmc hroc Hq hq hA0 Hlm Hlo
      have c1 := (hD.be.cell (p := ⟨bC, offC + s, none⟩) hbC).trans hcq
      -- the row is made
      have hBn := bal (Below.refl _ wo) (.cells #[.int .i64 q, .int .i64 0, .int .i64 0, .int .i64 0, .int .i64 0, .int .i64 0, .int .i64 0, .int .i64 0, .int .i64 0, .int .i64 0, .int .i64 0, .int .i64 0, .int .i64 0] 91)
      have hD2 := hD.below hBn
      have hnew := World.alloc_heap_new wo (.cells #[.int .i64 q, .int .i64 0, .int .i64 0, .int .i64 0, .int .i64 0, .int .i64 0, .int .i64 0, .int .i64 0, .int .i64 0, .int .i64 0, .int .i64 0, .int .i64 0, .int .i64 0] 91)
      have hszn : (wo.alloc (.cells #[.int .i64 q, .int .i64 0, .int .i64 0, .int .i64 0, .int .i64 0, .int .i64 0, .int .i64 0, .int .i64 0, .int .i64 0, .int .i64 0, .int .i64 0, .int .i64 0, .int .i64 0] 91)).heap.size = wo.heap.size + 1 := by simp
      have x0 := hD2.b0
      have x2 := (hD2.be.cell (p := ⟨bA, offA + s, none⟩) hbA).trans hcmr
      have HD2 := hid hD2
      clear hD2
      go_wp2_with fail
      generalize hW6 : wo.alloc (.cells #[.int .i64 q, .int .i64 0, .int .i64 0, .int .i64 0, .int .i64 0, .int .i64 0, .int .i64 0, .int .i64 0, .int .i64 0, .int .i64 0, .int .i64 0, .int .i64 0, .int .i64 0] 91) = W6 at *
      clear hW6
      go_loopw [34] (fun i wi => ∃ x : Nat, x ≤ letters m ∧ i = .int .i64 x ∧ Below wo.heap.size W6 wi ∧ wi.heap.size = wo.heap.size + 1 ∧ wi.heap[wo.heap.size]? = some (.cells ((arrL m o cl s x).map fun y => Value.int .i64 y).toArray 91 (0, 0))) (fun i _ => letters m - (intOf i).toNat)
      case atStart => exact ⟨0, Nat.zero_le _, rfl, Below.refl _ _, hszn, by rw [HA0.out]; exact hnew⟩
      case round =>
        obtain ⟨x, hx, rfl, hB6, hwz, hrow⟩ := hrel
        have HDi := hid (show DivW (.slice (some ⟨bA, offA, none⟩) m.length cap) (.slice (some ⟨bB, offB, none⟩) m.length cbp) m o cl w s wr from hD.below ⟨hB6.os.trans hBn.os, hB6.tape.trans hBn.tape, hB6.output.trans hBn.output, by omega, fun q hq => (hB6.block q hq).trans (hBn.block q hq)⟩)
        by_cases hxl : x < letters m
        · have hxi : (x : Int) < letters m := by omega
          obtain ⟨b1, o1, e1, hc1⟩ := Hrmc.out x hxl
          subst e1
          obtain ⟨b2, o2, e2, hc2⟩ := Hroc.out x hxl
          subst e2
          obtain ⟨hn1, hn2⟩ := hnxl.out s hlt x hxl
          rw [Int.toNat_natCast] at hn2
          rw [hn2] at hc1
          have Hox := hid (show (o.getD s []).getD x 0 = ox o s (x : Int) by unfold ox; rw [Int.toNat_natCast])
          rw [Hox.out] at hc2
          obtain ⟨b3, o3, e3, hc3⟩ := Hcc.out (nx m s (x : Int)) hn1
          cases e3
          have Hst := hid (arrL_step m o cl s x (by omega))
          have hal := arrL_length m o cl s x
          clear hn2
          generalize nx m s (x : Int) = t at *
          generalize ox o s (x : Int) = ov at *
          generalize cl.getD t 0 = cv at *
          generalize arrL m o cl s x = al at *
          have ht : (t : Int) < m.length := by omega
          have be := HDi.out.be
          have y1 := (be.cell (p := ⟨b1, o1 + x, none⟩) (World.block_lt_of_cell? _ _ hc1)).trans hc1
          have y2 := (be.cell (p := ⟨b2, o2 + x, none⟩) (World.block_lt_of_cell? _ _ hc2)).trans hc2
          have y3 := (be.cell (p := ⟨bC, offC + t, none⟩) hbC).trans hc3
          have y4 := (be.cell (p := ⟨bB, offB + s, none⟩) hbB).trans hcor
          have y5 := HDi.out.b1
          have hlt1 : b2 < wo.heap.size := Nat.lt_of_lt_of_le (World.block_lt_of_cell? _ _ hc2) hD.be.size
          have hlt2 : bC < wo.heap.size := Nat.lt_of_lt_of_le hbC hD.be.size
          have hlt3 : bB < wo.heap.size := Nat.lt_of_lt_of_le hbB hD.be.size
          have hlt4 : w.heap.size < wo.heap.size := by omega
          have hm1 : IntKind.i64.wrap (2 * (x : Int)) = 2 * (x : Int) := by refine IntWalk.i64_in ?_ ?_ <;> omega
          have hm2 : IntKind.i64.wrap (1 + 2 * (x : Int)) = 1 + 2 * (x : Int) := by refine IntWalk.i64_in ?_ ?_ <;> omega
          have hm3 : IntKind.i64.wrap (2 + 2 * (x : Int)) = 2 + 2 * (x : Int) := by refine IntWalk.i64_in ?_ ?_ <;> omega
          have hm4 : (1 + 2 * (x : Int)).toNat = 1 + 2 * x := by omega
          have hm5 : (2 + 2 * (x : Int)).toNat = 2 + 2 * x := by omega
          have hm6 : 1 + 2 * (x : Int) < 13 := by omega
          have hm7 : 2 + 2 * (x : Int) < 13 := by omega
          have hm8 : ¬ 1 + 2 * (x : Int) < 0 := by omega
          have hm9 : ¬ 2 + 2 * (x : Int) < 0 := by omega
          have Hrow := hid hrow
          have Hsz := hid hwz
          clear hrow hc1 hc2 hc3 be
          obtain ⟨R, hR0⟩ : ∃ R : (Nat → Bool) → World → Prop, R = fun L W => FrB wr.heap.size wo.heap.size wr W ∧ W.heap.size = wo.heap.size + 1 ∧ W.heap[wo.heap.size]? = some (.cells (((if L 19 = true then al.set (1 + 2 * x) ov else al).map fun y => Value.int .i64 y).toArray |> fun a => if L 21 = true then a.setIfInBounds (2 + 2 * x) (.int .i64 cv) else a) 91 (0, 0)) := ⟨_, rfl⟩
          have hRi : ∀ (i : Nat) (L : Nat → Bool) (W : World), (i ≠ 19 ∧ i ≠ 21) → R L W → R (updB L i) W := by
            intro i L W hi hR
            rw [hR0] at hR ⊢
            simp only [updB_ne (Ne.symm hi.1), updB_ne (Ne.symm hi.2)]
            exact hR
          have hRc : ∀ (L : Nat → Bool) (W : World) (p : Addr) (z : Value), R L W → p.block ≠ wo.heap.size → wr.cell? p = some z → W.cell? p = some z := by
            intro L W p z hR hne hz
            rw [hR0] at hR
            exact (World.cell?_of_block (hR.1.block _ (World.block_lt_of_cell? _ _ hz) hne)).trans hz
          have hRx : ∀ (L : Nat → Bool) (W : World) (j : Nat), R L W → j < 13 → (∃ z, W.cell? ⟨wo.heap.size, j, none⟩ = some z) ∧ W.frozen? ⟨wo.heap.size, j, none⟩ = false := by
            intro L W j hR hj
            rw [hR0] at hR
            obtain ⟨-, -, h3⟩ := hR
            have hsz : ((((if L 19 = true then al.set (1 + 2 * x) ov else al).map fun y => Value.int .i64 y).toArray |> fun a => if L 21 = true then a.setIfInBounds (2 + 2 * x) (.int .i64 cv) else a)).size = 13 := by
              simp only []
              split <;> split <;> simp [hal]
            generalize ((((if L 19 = true then al.set (1 + 2 * x) ov else al).map fun y => Value.int .i64 y).toArray |> fun a => if L 21 = true then a.setIfInBounds (2 + 2 * x) (.int .i64 cv) else a)) = arr at *
            refine ⟨⟨arr[j], by simp [World.cell?, h3, hsz, hj]⟩, by simp [World.frozen?, h3]⟩
          have hRs1 : ∀ (L : Nat → Bool) (W : World), R L W → L 19 = false → R (updB L 19) (W.setCell ⟨wo.heap.size, 1 + 2 * x, none⟩ (.int .i64 ov)) := by
            intro L W hR hL
            rw [hR0] at hR ⊢
            obtain ⟨h1, h2, h3⟩ := hR
            refine ⟨h1.trans ⟨rfl, rfl, rfl, by simp [World.setCell], fun k _ hk => Below.heap_setCell _ _ _ _ hk⟩, by simpa [World.setCell] using h2, ?_⟩
            have := heap_setCell_same W wo.heap.size (1 + 2 * x) _ _ (.int .i64 ov) h3
            rw [this, hL]
            simp only [updB_self, updB_ne (show 21 ≠ 19 by decide), if_true, Bool.false_eq_true, if_false]
            cases h21 : L 21 with
            | false => simp
            | true =>
              simp only [if_true]
              rw [Array.setIfInBounds_comm _ _ (by omega)]
              simp
          have hRs2 : ∀ (L : Nat → Bool) (W : World), R L W → L 21 = false → R (updB L 21) (W.setCell ⟨wo.heap.size, 2 + 2 * x, none⟩ (.int .i64 cv)) := by
            intro L W hR hL
            rw [hR0] at hR ⊢
            obtain ⟨h1, h2, h3⟩ := hR
            refine ⟨h1.trans ⟨rfl, rfl, rfl, by simp [World.setCell], fun k _ hk => Below.heap_setCell _ _ _ _ hk⟩, by simpa [World.setCell] using h2, ?_⟩
            have := heap_setCell_same W wo.heap.size (2 + 2 * x) _ _ (.int .i64 cv) h3
            rw [this, hL]
            simp only [updB_self, updB_ne (show 19 ≠ 21 by decide), if_true, Bool.false_eq_true, if_false]
          have hR1 : R (fun _ => false) wr.drew := by
            rw [hR0]
            exact ⟨⟨rfl, rfl, rfl, Nat.le_refl _, fun _ _ _ => rfl⟩, Hsz.out, Hrow.out⟩
          go_upto_region 10 with fail
          refine wp_region_eff (c := fun i => ([.int .i64 x, .int .i64 (2 * (x : Int)), .int .i64 (1 + 2 * (x : Int)), .int .i64 x, .int .i64 (2 * (x : Int)), .int .i64 (2 + 2 * (x : Int)), .pointer (some ⟨w.heap.size, 1, none⟩), .slice (some ⟨bB, offB, none⟩) m.length cbp, .int .i64 s, .pointer (some ⟨bB, offB + s, none⟩), .slice (some ⟨b2, o2, none⟩) (letters m) capo, .int .i64 x, .pointer (some ⟨b2, o2 + x, none⟩), .int .i64 ov, .slice (some ⟨bC, offC, none⟩) m.length capc, .int .i64 t, .pointer (some ⟨bC, offC + t, none⟩), .int .i64 cv, .pointer (some ⟨wo.heap.size, 1 + 2 * x, none⟩), undef, .pointer (some ⟨wo.heap.size, 2 + 2 * x, none⟩), undef] : List Value).getD i undef) (R := R) (eff := fun i => i == 19 || i == 21) rfl (by kernel_rfl) (by kernel_rfl) (by kernel_rfl) (by kernel_rfl) ?_ ?_ ?_
          · exact hR1
          · refine ⟨?_, ?_, ?_, ?_, ?_, ?_, ?_, ?_, ?_, ?_, ?_, ?_, ?_, ?_, ?_, ?_, ?_, ?_, ?_, ?_, ?_, ?_, trivial⟩
            · intro F W L hL hR hclo hpre hold hnew
              have f11 : F.eval (.tmp 11) = .int .i64 x := (hold 11 (by kernel_rfl)).trans (by kernel_rfl)
              simp [Act.eval] at f11
              rw [if_neg (by decide)]
              exact opv_run rfl W (by simp [execOp, go_sem, f11]) (hRi 0 L W (by decide) hR)
            · intro F W L hL hR hclo hpre hold hnew
              have f39 : F.eval (.tmp 39) = .int .i64 x := hnew 0 39 (by kernel_rfl) (by kernel_rfl) (by kernel_rfl)
              simp [Act.eval] at f39
              rw [if_neg (by decide)]
              exact opv_run rfl W (by simp [execOp, go_sem, f39, hm1]) (hRi 1 L W (by decide) hR)
            · intro F W L hL hR hclo hpre hold hnew
              have f40 : F.eval (.tmp 40) = .int .i64 (2 * (x : Int)) := hnew 1 40 (by kernel_rfl) (by kernel_rfl) (by kernel_rfl)
              simp [Act.eval] at f40
              rw [if_neg (by decide)]
              exact opv_run rfl W (by simp [execOp, go_sem, f40, hm2]) (hRi 2 L W (by decide) hR)
            · intro F W L hL hR hclo hpre hold hnew
              have f11 : F.eval (.tmp 11) = .int .i64 x := (hold 11 (by kernel_rfl)).trans (by kernel_rfl)
              simp [Act.eval] at f11
              rw [if_neg (by decide)]
              exact opv_run rfl W (by simp [execOp, go_sem, f11]) (hRi 3 L W (by decide) hR)
            · intro F W L hL hR hclo hpre hold hnew
              have f42 : F.eval (.tmp 42) = .int .i64 x := hnew 3 42 (by kernel_rfl) (by kernel_rfl) (by kernel_rfl)
              simp [Act.eval] at f42
              rw [if_neg (by decide)]
              exact opv_run rfl W (by simp [execOp, go_sem, f42, hm1]) (hRi 4 L W (by decide) hR)
            · intro F W L hL hR hclo hpre hold hnew
              have f43 : F.eval (.tmp 43) = .int .i64 (2 * (x : Int)) := hnew 4 43 (by kernel_rfl) (by kernel_rfl) (by kernel_rfl)
              simp [Act.eval] at f43
              rw [if_neg (by decide)]
              exact opv_run rfl W (by simp [execOp, go_sem, f43, hm3]) (hRi 5 L W (by decide) hR)
            · intro F W L hL hR hclo hpre hold hnew
              have f2 : F.eval (.tmp 2) = .pointer (some ⟨w.heap.size, 0, none⟩) := (hold 2 (by kernel_rfl)).trans (by kernel_rfl)
              simp [Act.eval] at f2
              rw [if_neg (by decide)]
              exact opv_run rfl W (by simp [execOp, go_sem, f2]) (hRi 6 L W (by decide) hR)
            · intro F W L hL hR hclo hpre hold hnew
              have f45 : F.eval (.tmp 45) = .pointer (some ⟨w.heap.size, 1, none⟩) := hnew 6 45 (by kernel_rfl) (by kernel_rfl) (by kernel_rfl)
              simp [Act.eval] at f45
              have q0 := hRc _ _ _ _ hR (by show w.heap.size ≠ wo.heap.size; omega) y5
              rw [if_neg (by decide)]
              exact opv_run rfl W (by simp [execOp, go_sem, f45, q0]) (hRi 7 L W (by decide) hR)
            · intro F W L hL hR hclo hpre hold hnew
              have f8 : F.eval (.tmp 8) = .int .i64 s := (hold 8 (by kernel_rfl)).trans (by kernel_rfl)
              simp [Act.eval] at f8
              rw [if_neg (by decide)]
              exact opv_run rfl W (by simp [execOp, go_sem, f8]) (hRi 8 L W (by decide) hR)
            · intro F W L hL hR hclo hpre hold hnew
              have f46 : F.eval (.tmp 46) = .slice (some ⟨bB, offB, none⟩) m.length cbp := hnew 7 46 (by kernel_rfl) (by kernel_rfl) (by kernel_rfl)
              have f47 : F.eval (.tmp 47) = .int .i64 s := hnew 8 47 (by kernel_rfl) (by kernel_rfl) (by kernel_rfl)
              simp [Act.eval] at f46 f47
              rw [if_neg (by decide)]
              exact opv_run rfl W (by simp [execOp, go_sem, f46, f47, hsi]) (hRi 9 L W (by decide) hR)
            · intro F W L hL hR hclo hpre hold hnew
              have f48 : F.eval (.tmp 48) = .pointer (some ⟨bB, offB + s, none⟩) := hnew 9 48 (by kernel_rfl) (by kernel_rfl) (by kernel_rfl)
              simp [Act.eval] at f48
              have q0 := hRc _ _ _ _ hR (by show bB ≠ wo.heap.size; omega) y4
              rw [if_neg (by decide)]
              exact opv_run rfl W (by simp [execOp, go_sem, f48, q0]) (hRi 10 L W (by decide) hR)
            · intro F W L hL hR hclo hpre hold hnew
              have f11 : F.eval (.tmp 11) = .int .i64 x := (hold 11 (by kernel_rfl)).trans (by kernel_rfl)
              simp [Act.eval] at f11
              rw [if_neg (by decide)]
              exact opv_run rfl W (by simp [execOp, go_sem, f11]) (hRi 11 L W (by decide) hR)
            · intro F W L hL hR hclo hpre hold hnew
              have f49 : F.eval (.tmp 49) = .slice (some ⟨b2, o2, none⟩) (letters m) capo := hnew 10 49 (by kernel_rfl) (by kernel_rfl) (by kernel_rfl)
              have f50 : F.eval (.tmp 50) = .int .i64 x := hnew 11 50 (by kernel_rfl) (by kernel_rfl) (by kernel_rfl)
              simp [Act.eval] at f49 f50
              rw [if_neg (by decide)]
              exact opv_run rfl W (by simp [execOp, go_sem, f49, f50, hxi]) (hRi 12 L W (by decide) hR)
            · intro F W L hL hR hclo hpre hold hnew
              have f51 : F.eval (.tmp 51) = .pointer (some ⟨b2, o2 + x, none⟩) := hnew 12 51 (by kernel_rfl) (by kernel_rfl) (by kernel_rfl)
              simp [Act.eval] at f51
              have q0 := hRc _ _ _ _ hR (by show b2 ≠ wo.heap.size; omega) y2
              rw [if_neg (by decide)]
              exact opv_run rfl W (by simp [execOp, go_sem, f51, q0]) (hRi 13 L W (by decide) hR)
            · intro F W L hL hR hclo hpre hold hnew
              have f1 : F.eval (.tmp 1) = .slice (some ⟨bC, offC, none⟩) m.length capc := (hold 1 (by kernel_rfl)).trans (by kernel_rfl)
              simp [Act.eval] at f1
              rw [if_neg (by decide)]
              exact opv_run rfl W (by simp [execOp, go_sem, f1]) (hRi 14 L W (by decide) hR)
            · intro F W L hL hR hclo hpre hold hnew
              have f12 : F.eval (.tmp 12) = .int .i64 t := (hold 12 (by kernel_rfl)).trans (by kernel_rfl)
              simp [Act.eval] at f12
              rw [if_neg (by decide)]
              exact opv_run rfl W (by simp [execOp, go_sem, f12]) (hRi 15 L W (by decide) hR)
            · intro F W L hL hR hclo hpre hold hnew
              have f53 : F.eval (.tmp 53) = .slice (some ⟨bC, offC, none⟩) m.length capc := hnew 14 53 (by kernel_rfl) (by kernel_rfl) (by kernel_rfl)
              have f54 : F.eval (.tmp 54) = .int .i64 t := hnew 15 54 (by kernel_rfl) (by kernel_rfl) (by kernel_rfl)
              simp [Act.eval] at f53 f54
              rw [if_neg (by decide)]
              exact opv_run rfl W (by simp [execOp, go_sem, f53, f54, ht]) (hRi 16 L W (by decide) hR)
            · intro F W L hL hR hclo hpre hold hnew
              have f55 : F.eval (.tmp 55) = .pointer (some ⟨bC, offC + t, none⟩) := hnew 16 55 (by kernel_rfl) (by kernel_rfl) (by kernel_rfl)
              simp [Act.eval] at f55
              have q0 := hRc _ _ _ _ hR (by show bC ≠ wo.heap.size; omega) y3
              rw [if_neg (by decide)]
              exact opv_run rfl W (by simp [execOp, go_sem, f55, q0]) (hRi 17 L W (by decide) hR)
            · intro F W L hL hR hclo hpre hold hnew
              have f10 : F.eval (.tmp 10) = .pointer (some ⟨wo.heap.size, 0, none⟩) := (hold 10 (by kernel_rfl)).trans (by kernel_rfl)
              have f41 : F.eval (.tmp 41) = .int .i64 (1 + 2 * (x : Int)) := hnew 2 41 (by kernel_rfl) (by kernel_rfl) (by kernel_rfl)
              simp [Act.eval] at f10 f41
              rw [if_neg (by decide)]
              exact opv_run rfl W (by simp [execOp, go_sem, f10, f41, hm4, hm6, hm8]) (hRi 18 L W (by decide) hR)
            · intro F W L hL hR hclo hpre hold hnew
              have f57 : F.eval (.tmp 57) = .pointer (some ⟨wo.heap.size, 1 + 2 * x, none⟩) := hnew 18 57 (by kernel_rfl) (by kernel_rfl) (by kernel_rfl)
              have f52 : F.eval (.tmp 52) = .int .i64 ov := hnew 13 52 (by kernel_rfl) (by kernel_rfl) (by kernel_rfl)
              simp [Act.eval] at f57 f52
              obtain ⟨⟨z, hz⟩, hf⟩ := hRx _ _ (1 + 2 * x) hR (by omega)
              rw [if_pos (by decide)]
              exact ⟨rfl, _, by simp [execOp, go_sem, f57, f52, hz, hf], hRs1 _ _ hR hL⟩
            · intro F W L hL hR hclo hpre hold hnew
              have f10 : F.eval (.tmp 10) = .pointer (some ⟨wo.heap.size, 0, none⟩) := (hold 10 (by kernel_rfl)).trans (by kernel_rfl)
              have f44 : F.eval (.tmp 44) = .int .i64 (2 + 2 * (x : Int)) := hnew 5 44 (by kernel_rfl) (by kernel_rfl) (by kernel_rfl)
              simp [Act.eval] at f10 f44
              rw [if_neg (by decide)]
              exact opv_run rfl W (by simp [execOp, go_sem, f10, f44, hm5, hm7, hm9]) (hRi 20 L W (by decide) hR)
            · intro F W L hL hR hclo hpre hold hnew
              have f58 : F.eval (.tmp 58) = .pointer (some ⟨wo.heap.size, 2 + 2 * x, none⟩) := hnew 20 58 (by kernel_rfl) (by kernel_rfl) (by kernel_rfl)
              have f56 : F.eval (.tmp 56) = .int .i64 cv := hnew 17 56 (by kernel_rfl) (by kernel_rfl) (by kernel_rfl)
              simp [Act.eval] at f58 f56
              obtain ⟨⟨z, hz⟩, hf⟩ := hRx _ _ (2 + 2 * x) hR (by omega)
              rw [if_pos (by decide)]
              exact ⟨rfl, _, by simp [execOp, go_sem, f58, f56, hz, hf], hRs2 _ _ hR hL⟩
          · intro L W hall hR
            rw [hR0] at hR
            obtain ⟨h1, h2, h3⟩ := hR
            rw [hall 19 (by decide), hall 21 (by decide)] at h3
            simp only [if_true] at h3
            simp only [framedFrom, Act.put, List.setIfInBounds_toArray, List.set_cons_succ, List.set_cons_zero]
            go_wp2_with fail
            go_roundw
            case rel =>
              refine ⟨x + 1, by omega, by go_num, ⟨h1.os.trans hB6.os, h1.tape.trans hB6.tape, h1.output.trans hB6.output, by omega, fun q hq => (h1.block q (by omega) (by omega)).trans (hB6.block q hq)⟩, h2, ?_⟩
              rw [← Hst.out, h3]
              simp [List.map_set]
            case measure => simp [intOf]; omega
        · obtain rfl : x = letters m := by omega
          have hxi : ¬ ((letters m : Int) < letters m) := by omega
          obtain ⟨V, T, hV, hV1, hV2⟩ := HDi.out.map
          have hkey := keyOf_13 (arrL m o cl s (letters m)) (arrL_length _ _ _ _ _) (Hsm.out s hlt)
          have hld : (Tryd.prog.info? 91).map (·.size) = some ((arrL m o cl s (letters m)).map fun y => Value.int .i64 y).toArray.size := by rw [List.size_toArray, List.length_map, arrL_length]; kernel_rfl
          have hlk := hV.look_ok keyed13 Tryd.underlying90 (zeroInt13 wr) hkey
          have hln := hV.len Tryd.underlying90
          have hkeys := hid (fun t (ht : t < m.length) => (Iff.trans ⟨fun e => key13_inj (arrL_length _ _ _ _ _) (arrL_length _ _ _ _ _) (Hsm.out s hlt) (Hsm.out t ht) e, fun e => by rw [e]⟩ (Heq.out s t) : key13 (arrL m o cl s (letters m)) = key13 (arrL m o cl t (letters m)) ↔ divE m o cl s t = true))
          have hgl := own_lt HDi.out.own
          have hfz := HDi.out.own.frozenAt s
          have hce : wr.cell? ⟨w.heap.size + 2, s, none⟩ = some (.int .i64 0) := by rw [HDi.out.own.cellAt s (by omega)]; simp [someI, hlt]
          have hcn : cntE (divE m o cl) (s + 1) = cntE (divE m o cl) s + (if newE (divE m o cl) s then 1 else 0) := rfl
          have hcs60 : cntE (divE m o cl) s ≤ s := cntE_le s
          cases hT : T (key13 (arrL m o cl s (letters m))) with
          | true =>
            obtain ⟨t, ht, hkt⟩ := hV2 _ hT
            have hst := (hkeys.out t (by omega)).1 hkt
            have hnum : numE (divE m o cl) s = numE (divE m o cl) t := (numE_iff hE.out s t).2 hst
            have hVs := (hV1 t ht).1
            rw [← hkt, ← hnum] at hVs
            rw [hVs, hT] at hlk
            have hnew : newE (divE m o cl) s = false := by
              cases hn : newE (divE m o cl) s with
              | false => rfl
              | true => have := (newE_iff s).1 hn t ht; rw [hst] at this; cases this
            rw [hnew] at hcn
            have HM := hid (show DivMap m o cl w (s + 1) wr from ⟨V, T, by rw [hcn]; exact hV, fun t' ht' => by
              by_cases e : t' = s
              · subst e; exact ⟨hVs, hT⟩
              · exact hV1 t' (by omega), fun kl hkl => by obtain ⟨t', h1, h2⟩ := hV2 kl hkl; exact ⟨t', by omega, h2⟩⟩)
            clear hV1 hV2 hkey hV hkt hst hVs hnum hnew hcn hT
            unfold arrV at hlk
            generalize ((arrL m o cl s (letters m)).map fun y => Value.int .i64 y).toArray = key at *
            have HDs := hid (HDi.out.store hlt HDi.out.be rfl rfl HM.out)
            generalize numE (divE m o cl) s = nm at *
            go_wp2_with (refine wpList_load_row rfl 91 _ rfl wo.heap.size rfl 91 key (0, 0) _ hrow Tryd.underlying91 rfl hld ?_)
            go_roundw
            case rel => exact ⟨s + 1, by omega, by go_num, HDs.out⟩
            case measure => simp [intOf]; omega
          | false =>
            have hnew : newE (divE m o cl) s = true := (newE_iff s).2 fun j hj => by
              cases hd : divE m o cl s j with
              | false => rfl
              | true => have := (hV1 j hj).2; rw [← (hkeys.out j (by omega)).2 hd, hT] at this; cases this
            have hnum : numE (divE m o cl) s = cntE (divE m o cl) s := numE_new hnew
            rw [hT] at hlk
            rw [hnew] at hcn
            obtain ⟨wq, hput, hV', hgr⟩ := hV.put keyed13 Tryd.underlying90 (by unfold maxLen; omega) hkey (.int .i64 (cntE (divE m o cl) s : Nat))
            rw [hT] at hV'
            have HM := hid (show DivMap m o cl w (s + 1) wq from ⟨_, _, by rw [hcn]; exact hV', fun t' ht' => by
              by_cases e : t' = s
              · subst e
                simp only [if_true]
                exact ⟨by rw [hnum], trivial⟩
              · have hne : key13 (arrL m o cl t' (letters m)) ≠ key13 (arrL m o cl s (letters m)) := fun e2 => by
                  have := (hkeys.out t' (by omega)).1 e2.symm
                  rw [(newE_iff s).1 hnew t' (by omega)] at this; cases this
                simp only [if_neg hne]
                exact hV1 t' (by omega), fun kl hkl => by
              by_cases e : kl = key13 (arrL m o cl s (letters m))
              · exact ⟨s, by omega, e⟩
              · simp only [if_neg e] at hkl
                obtain ⟨t', h1, h2⟩ := hV2 kl hkl
                exact ⟨t', by omega, h2⟩⟩)
            have hgs := hgr.size
            have hq2 : wq.heap[w.heap.size + 2]? = wr.heap[w.heap.size + 2]? := hgr.block _ (by omega) (by simp)
            have hq0 : wq.heap[w.heap.size]? = wr.heap[w.heap.size]? := hgr.block _ (by omega) (by simp)
            have hce' : wq.cell? ⟨w.heap.size + 2, s, none⟩ = some (.int .i64 0) := (World.cell?_of_block (a := ⟨w.heap.size + 2, s, none⟩) hq2).trans hce
            have hfz' : wq.frozen? ⟨w.heap.size + 2, s, none⟩ = false := (World.frozen?_of_block (a := ⟨w.heap.size + 2, s, none⟩) hq2).trans hfz
            have HDs := hid (HDi.out.store hlt (HDi.out.be.grown hgr (by omega) (fun g hg => by have : w.heap.size + 1 = g := (by simpa using hg); omega)) hq0 hq2 HM.out)
            rw [hnum] at HDs
            unfold arrV at hlk hput
            obtain ⟨z0, hz0⟩ : ∃ z, V (key13 (arrL m o cl s (letters m))) = z := ⟨_, rfl⟩
            rw [hz0] at hlk
            clear hV1 hV2 hkey hV hV' hnum hnew hcn hT hz0
            generalize ((arrL m o cl s (letters m)).map fun y => Value.int .i64 y).toArray = key at *
            generalize cntE (divE m o cl) s = nm at *
            go_wp2_with (refine wpList_load_row rfl 91 _ rfl wo.heap.size rfl 91 key (0, 0) _ hrow Tryd.underlying91 rfl hld ?_)
            go_roundw
            case rel => exact ⟨s + 1, by omega, by go_num, HDs.out⟩
            case measure => simp [intOf]; omega
    · obtain rfl : s = m.length := by omega
      have hsi : ¬ ((m.length : Int) < m.length) := by omega
      obtain ⟨V, T, hV, -, -⟩ := hD.map
      have hln := hV.len Tryd.underlying90
      have Hown := hid hD.own
      have Hbe := hid hD.be
      clear hD hV
      go_wp2
      go_ret2
      refine ⟨_, rfl, ?_, Hbe.out⟩
      have := Hown.out
      rw [someI_all, List.map_map] at this
      exact row_mono (base := w.heap.size + 2) this (by omega)
end Go.Proofs.YtbhhemidnmaodaaDoor
namespace Go.Proofs.YtbhhemidnmaodaaDoor
open Go.RowKit Go.Shelf
def clsL (m o : List (List Int)) (k : Nat) : List Int := (List.range m.length).map fun s => (clsK m o k s : Int)
def clsSL (m o : List (List Int)) : List Int := (List.range m.length).map fun s => (clsS m o s : Int)
theorem clsL_length (m o : List (List Int)) (k : Nat) : (clsL m o k).length = m.length := by simp [clsL]
theorem clsL_get (m o : List (List Int)) (k s : Nat) (hs : s < m.length) : (clsL m o k).getD s 0 = clsK m o k s := by simp [clsL, List.getD_eq_getElem?_getD, hs]
theorem divE_eqR {m : List (List Int)} (o : List (List Int)) (hv : validM m = true) (k : Nat) {s t : Nat} (hs : s < m.length) (ht : t < m.length) : divE m o (clsL m o k) s t = eqR m o (k + 1) s t := by
  have hE := eqR_eqv m o k
  rw [Bool.eq_iff_iff, divE_iff, eqR_succ, clsL_get m o k s hs, clsL_get m o k t ht]
  constructor
  · rintro ⟨-, h⟩ x hx
    obtain ⟨h1, h2⟩ := h x hx
    rw [clsL_get m o k (nx m s (x : Int)) (fY_ok hv s x hs hx), clsL_get m o k (nx m t (x : Int)) (fY_ok hv t x ht hx)] at h2
    exact ⟨h1, (numE_iff hE _ _).1 (by unfold clsK at h2; omega)⟩
  · intro h
    have h0 : eqR m o (k + 1) s t = true := by rw [eqR_succ]; exact h
    refine ⟨by have := (numE_iff hE s t).2 (eqR_mono m o k s t h0); unfold clsK; omega, fun x hx => ?_⟩
    obtain ⟨h1, h2⟩ := h x hx
    refine ⟨h1, ?_⟩
    rw [clsL_get m o k (nx m s (x : Int)) (fY_ok hv s x hs hx), clsL_get m o k (nx m t (x : Int)) (fY_ok hv t x ht hx)]
    have := (numE_iff hE (nx m s (x : Int)) (nx m t (x : Int))).2 h2
    unfold clsK; omega
theorem divE_cnt {m : List (List Int)} (o : List (List Int)) (hv : validM m = true) (k : Nat) : cntE (divE m o (clsL m o k)) m.length = cntK m o (k + 1) := cntE_congr (fun _ _ hs ht => divE_eqR o hv k hs ht) _ (Nat.le_refl _)
theorem divE_cls {m : List (List Int)} (o : List (List Int)) (hv : validM m = true) (k : Nat) : ((List.range m.length).map fun s => (numE (divE m o (clsL m o k)) s : Int)) = clsL m o (k + 1) := by
  show _ = (List.range m.length).map fun s => (clsK m o (k + 1) s : Int)
  refine List.map_congr_left fun s hs => ?_
  rw [numE_congr (E := divE m o (clsL m o k)) (F := eqR m o (k + 1)) (fun _ _ hs ht => divE_eqR o hv k hs ht) (List.mem_range.1 hs)]; rfl
theorem clsL_stop {m : List (List Int)} (o : List (List Int)) (hv : validM m = true) {k : Nat} (h : cntK m o (k + 1) = cntK m o k) : clsL m o (k + 1) = clsSL m o := by
  unfold clsL clsSL
  refine List.map_congr_left fun s hs => ?_
  have h1 : clsK m o (k + 1) s = clsK m o k s := (numE_congr (cntG_stop m.length (letters m) (gY o) (fY m) k h) (List.mem_range.1 hs)).symm
  rw [h1, stop_cls o hv h (List.mem_range.1 hs)]
theorem clsL_small {m : List (List Int)} (o : List (List Int)) (hv : validM m = true) (k : Nat) : ∀ x ∈ clsL m o k, 0 ≤ x ∧ x < 100 := by
  obtain ⟨p1, p2, -, -, -⟩ := valid_parts hv
  intro x hx
  obtain ⟨s, hs, rfl⟩ := List.mem_map.1 hx
  have h1 := numE_lt (eqR_eqv m o k) (List.mem_range.1 hs)
  have h2 := cntE_le (E := eqR m o k) m.length
  unfold clsK; omega
set_option maxRecDepth 100000 in
set_option maxHeartbeats 4000000 in
theorem Classes_ok (v u : Value) (m o : List (List Int)) (w : World) (h : Rows w v m) (k : Rows w u o) (hv : validY m o = true) :
    Calls Tryd.prog 13 #[.agg #[v, u]] w fun e w' => ∃ g, e = .returned (.tuple #[.slice (some ⟨g, 0, none⟩) m.length m.length, .int .i64 0]) ∧ w'.ownsRow w.heap.size 3 1 (.slice (some ⟨g, 0, none⟩) m.length m.length) m.length ((clsSL m o).map fun x => .int .i64 x) ∧ Below w.heap.size w w' := by
  obtain ⟨j0, hj, hy0, hy1, hy2⟩ := info_parts infoInt
  obtain ⟨p1, p2, p3, p4, -, -⟩ := rowsY hv
  have q1 := validY_m hv
  obtain ⟨A, cap, rfl, hml, hcm⟩ := id h
  obtain ⟨B, cbp, rfl, hol, hco⟩ := id k
  clear hcm hco hol
  have h1 := h.alloc (.cells #[.slice A m.length cap, .slice B o.length cbp] 24)
  have k1 := k.alloc (.cells #[.slice A m.length cap, .slice B o.length cbp] 24)
  have b1 := bal (Below.refl _ w) (.cells #[.slice A m.length cap, .slice B o.length cbp] 24)
  have z1 : (w.alloc (.cells #[.slice A m.length cap, .slice B o.length cbp] 24)).cell? ⟨w.heap.size, 0, none⟩ = some (.slice A m.length cap) := by simp [go_sem]
  have z2 : (w.alloc (.cells #[.slice A m.length cap, .slice B o.length cbp] 24)).cell? ⟨w.heap.size, 1, none⟩ = some (.slice B o.length cbp) := by simp [go_sem]
  have hsz : w.heap.size < (w.alloc (.cells #[.slice A m.length cap, .slice B o.length cbp] 24)).heap.size := by simp
  have hVB := ValidY_bool _ _ m o true _ h1 k1 hv
  have Hq := hid q1
  have Hv := hid hv
  clear q1
  go_enter Tryd.func13, Tryd.ntmps13
  go_wp2_with fail
  refine hVB.mono ?_
  clear hVB
  rintro e w1 ⟨rfl, hb1⟩
  have y1 := (hb1.cell (p := ⟨w.heap.size, 0, none⟩) hsz).trans z1
  have y2 := (hb1.cell (p := ⟨w.heap.size, 1, none⟩) hsz).trans z2
  have hB1 := btr b1 hb1
  have hsz1 : w.heap.size < w1.heap.size := by have := hb1.size; omega
  have hR1 := h1.below hb1
  have hR2 := k1.below hb1
  clear z1 z2 hb1 h1 k1 b1 hsz
  go_wp2_with (at_make; refine wpList_make_full _ rfl _ _ 27 rfl w1.heap.size 3 j0 (.int .i64 0) 1 Tryd.underlying27 hj hy0 hy1 .i64 .i64 _ _ m.length rfl rfl rfl rfl (by rw [hy2]; omega) (by unfold maxLen; omega) (by simp) ?_; intro w2 hown hgrow; have hb2 := (Below.refl w1.heap.size w1).grown hgrow (by simp) (fun k e => by cases e); have hI : Ints w2 (.slice (some ⟨w1.heap.size, 0, none⟩) m.length m.length) (clsL m o 0) := (by
      rw [show Value.cells (.int .i64 0) = #[.int .i64 0] from rfl, someI_made m.length (fun _ => 0)] at hown
      have e : someI m.length 0 (fun _ => 0) = (clsL m o 0).map fun x => .int .i64 x := by
        unfold someI clsL
        rw [List.map_map]
        refine List.map_congr_left fun s _ => ?_
        simp [clsK_zero]
      rw [e] at hown
      have h9 := Ints.of_own (l := clsL m o 0) (by rw [clsL_length]; exact hown) (by rw [clsL_length]; unfold big; omega)
      exact h9); have HI := hid hI; clear hown hgrow hI)
  go_loopw [4, 5] (fun c q wr => ∃ k : Nat, q = .int .i64 (cntK m o k : Nat) ∧ Ints wr c (clsL m o k) ∧ Below w1.heap.size w1 wr) (fun _ q _ => m.length - (intOf q).toNat)
  case atStart => exact ⟨0, by rw [cntK_zero o (by omega)]; rfl, HI.out, hb2⟩
  case round =>
    obtain ⟨k, rfl, hI, hB⟩ := hrel
    clear HI hb2
    have x1 := (hB.cell (p := ⟨w.heap.size, 0, none⟩) hsz1).trans y1
    have x2 := (hB.cell (p := ⟨w.heap.size, 1, none⟩) hsz1).trans y2
    have hdv := divided_any _ _ _ m o (clsL m o k) wr (hR1.below hB) (hR2.below hB) Hv.out hI (clsL_length m o k) (clsL_small o Hq.out k)
    rw [divE_cnt o Hq.out k, divE_cls o Hq.out k] at hdv
    obtain ⟨Ac, cc, rfl, _⟩ := id hI
    have hmono := cntK_mono m o k
    have hle := cntK_le m o (k + 1)
    go_wp2_with fail
    refine hdv.mono ?_
    clear hdv
    rintro e w3 ⟨g, rfl, hown, hb3⟩
    by_cases heq : cntK m o (k + 1) = cntK m o k
    · have hst := clsL_stop o Hq.out heq
      have Hown := hid hown
      rw [heq] at *
      clear hown
      go_wp2
      go_ret2
      refine ⟨_, rfl, ?_, btr hB1 ((hB.trans (hb3.mono hB.size)))⟩
      have := Hown.out
      rw [hst] at this
      exact row_mono this (by have := hB.size; omega)
    · have hne : ((cntK m o (k + 1) : Int) == (cntK m o k : Int)) = false := by simp; omega
      have hIn : Ints w3 (.slice (some ⟨g, 0, none⟩) m.length m.length) (clsL m o (k + 1)) := by
        have h9 := Ints.of_own (l := clsL m o (k + 1)) (by rw [clsL_length]; exact hown) (by rw [clsL_length]; unfold big; omega)
        exact h9
      have HI := hid hIn
      clear hown hIn
      have hlt : cntK m o k < cntK m o (k + 1) := by omega
      have Heq := hid heq
      clear heq
      go_wp2
      go_roundw
      case rel => exact ⟨k + 1, rfl, HI.out, hB.trans (hb3.mono hB.size)⟩
      case measure => simp [intOf]; omega
end Go.Proofs.YtbhhemidnmaodaaDoor
namespace Go.Proofs.YtbhhemidnmaodaaDoor
open Go.RowKit Go.Shelf
/-- The two errors that the library lays. -/
def Errs (w : World) : Prop := ∃ t1 p1 t2 p2, w.cell? ⟨1, 0, none⟩ = some (.iface t1 p1) ∧ w.cell? ⟨2, 0, none⟩ = some (.iface t2 p2)
theorem Errs.below {w w' : World} (h : Errs w) (hb : Below w.heap.size w w') : Errs w' := by
  obtain ⟨t1, p1, t2, p2, h1, h2⟩ := h
  exact ⟨t1, p1, t2, p2, (hb.cell (World.block_lt_of_cell? _ _ h1)).trans h1, (hb.cell (World.block_lt_of_cell? _ _ h2)).trans h2⟩
end Go.Proofs.YtbhhemidnmaodaaDoor
namespace Go.Proofs.YtbhhemidnmaodaaDoor
open Go.RowKit Go.Shelf
set_option maxHeartbeats 400000 in
theorem rSame7_any (v u : Value) (l m : List Int) (w : World) (h : Ints w v l) (hu : Ints w u m) :
    Calls Tryd.prog 17 #[v, u] w fun e w' => e = .returned (.bool (decide (l = m))) ∧ Below w.heap.size w w' := by
  obtain ⟨A, cap, rfl, hl, hc⟩ := h
  obtain ⟨Au, capu, rfl, hlu, hcu⟩ := hu
  unfold big at hl hlu
  by_cases hlen : l.length = m.length
  · have hne : ((l.length : Int) != (m.length : Int)) = false := by simp; omega
    have Hlen := hid hlen
    clear hlen
    go_enter Tryd.func17, Tryd.ntmps17
    go_wp2
    go_loopw [5] (fun i wr => ∃ k : Nat, k ≤ l.length ∧ i = .int .i64 k ∧ l.take k = m.take k ∧ Below w.heap.size w wr) (fun i _ => l.length - (intOf i).toNat)
    case atStart => exact ⟨0, Nat.zero_le _, rfl, rfl, Below.refl _ _⟩
    case round =>
      obtain ⟨k, hk, rfl, htk, hB⟩ := hrel
      have Htk := hid htk
      clear htk
      by_cases hlt : k < l.length
      · have hle := Hlen.out
        obtain ⟨b, off, hA, hcell⟩ := hc k hlt
        obtain ⟨b', off', hA', hcell'⟩ := hcu k (by omega)
        subst hA
        subst hA'
        have c1 := (hB.cell (p := ⟨b, off + k, none⟩) (World.block_lt_of_cell? _ _ hcell)).trans hcell
        have c2 := (hB.cell (p := ⟨b', off' + k, none⟩) (World.block_lt_of_cell? _ _ hcell')).trans hcell'
        have Hs := hid (fun hx => take_eq_succ hlt Hlen.out Htk.out hx)
        have Hf := hid (fun hx => ne_of_getD (l := l) (m := m) (k := k) hx)
        have i1 : (k : Int) < l.length := by omega
        have i2 : (k : Int) < m.length := by omega
        clear hc hcu hcell hcell' hle
        generalize l.getD k 0 = x at *
        generalize m.getD k 0 = y at *
        by_cases hxy : x = y
        · have hd : (x != y) = false := by simp [hxy]
          have Hxy := hid hxy
          clear hxy
          go_wp2_with fail
          go_quiet (fail)
          go_wp2
          go_roundw
          case rel => exact ⟨k + 1, by omega, by go_num, Hs.out Hxy.out, bdr hB _⟩
          case measure => simp [intOf]; omega
        · have hd : (x != y) = true := by simp [hxy]
          have Hxy := hid hxy
          clear hxy
          go_wp2_with fail
          go_quiet (fail)
          go_wp2
          go_ret
          exact ⟨ret_bool (Hf.out Hxy.out).symm, bdr hB _⟩
      · go_wp2
        go_ret
        have h1 := Htk.out
        have h2 := Hlen.out
        rw [List.take_of_length_le (by omega), List.take_of_length_le (by omega)] at h1
        exact ⟨ret_bool (by simp [h1]), hB⟩
  · have hne : ((l.length : Int) != (m.length : Int)) = true := by simp; omega
    have Hlen := hid hlen
    clear hlen
    go_enter Tryd.func17, Tryd.ntmps17
    go_wp2
    go_ret
    exact ⟨ret_bool (by
      symm
      rw [decide_eq_false_iff_not]
      intro h
      exact Hlen.out (by rw [h])), Below.refl _ _⟩
theorem rSame7_is (v u : Value) (l m : List Int) (b : Bool) (w : World) (h : Ints w v l) (hu : Ints w u m) (hb : decide (l = m) = b) : Calls Tryd.prog 17 #[v, u] w fun e w' => e = .returned (.bool b) ∧ Below w.heap.size w w' := by
  subst hb; exact rSame7_any v u l m w h hu
set_option maxRecDepth 100000 in
set_option maxHeartbeats 1000000 in
theorem TextY_ok (v u : Value) (m o : List (List Int)) (w : World) (h : Rows w v m) (k : Rows w u o) (hv : validY m o = true) :
    Calls Tryd.prog 25 #[.agg #[v, u]] w fun e w' => e = .returned (.tuple #[.string (strB (textY m o)), .int .i64 0]) ∧ Below w.heap.size w w' := by
  obtain ⟨A, cap, rfl, hml, hcm⟩ := id h
  obtain ⟨B, cbp, rfl, hol, hco⟩ := id k
  clear hcm hco
  have h1 := h.alloc (.cells #[.slice A m.length cap, .slice B o.length cbp] 24)
  have k1 := k.alloc (.cells #[.slice A m.length cap, .slice B o.length cbp] 24)
  have b1 := bal (Below.refl _ w) (.cells #[.slice A m.length cap, .slice B o.length cbp] 24)
  have z1 : (w.alloc (.cells #[.slice A m.length cap, .slice B o.length cbp] 24)).cell? ⟨w.heap.size, 0, none⟩ = some (.slice A m.length cap) := by simp [go_sem]
  have z2 : (w.alloc (.cells #[.slice A m.length cap, .slice B o.length cbp] 24)).cell? ⟨w.heap.size, 1, none⟩ = some (.slice B o.length cbp) := by simp [go_sem]
  have hsz : w.heap.size < (w.alloc (.cells #[.slice A m.length cap, .slice B o.length cbp] 24)).heap.size := by simp
  go_enter Tryd.func25, Tryd.ntmps25
  go_wp2_with fail
  refine (ValidY_bool _ _ m o true _ h1 k1 hv).mono ?_
  rintro e w1 ⟨rfl, hb1⟩
  have y1 := (hb1.cell (p := ⟨w.heap.size, 0, none⟩) hsz).trans z1
  have y2 := (hb1.cell (p := ⟨w.heap.size, 1, none⟩) hsz).trans z2
  go_wp2_with fail
  refine (textY_any _ _ m o w1 (h1.below hb1) (k1.below hb1) hv).mono ?_
  rintro e w2 ⟨rfl, hb2⟩
  go_wp2
  go_ret2
  exact ⟨rfl, btr (btr b1 hb1) hb2⟩
def ApOk (m o : List (List Int)) (x y : Nat) (w : World) (e : Ending) (w' : World) : Prop :=
  ((∃ u r, ApartW m o m o x y u ∧ e = .returned (.tuple #[r, .int .i64 0]) ∧ w'.ownsRow w.heap.size 3 1 r u.length (u.map fun x => .int .i64 x)) ∨
    (AlikeW m o m o x y ∧ e = .returned (.tuple #[.slice none 0 0, .int .i64 4]))) ∧ Below w.heap.size w w'
set_option maxRecDepth 100000 in
set_option maxHeartbeats 1000000 in
theorem Apart_ok (v u : Value) (m o : List (List Int)) (x y : Nat) (w : World) (h : Rows w v m) (k : Rows w u o) (hv : validY m o = true) (hx : x < m.length) (hy : y < m.length) :
    Calls Tryd.prog 20 #[.agg #[v, u], .int .i64 (x : Nat), .int .i64 (y : Nat)] w (ApOk m o x y w) := by
  obtain ⟨A, cap, rfl, hml, hcm⟩ := id h
  obtain ⟨B, cbp, rfl, hol, hco⟩ := id k
  clear hcm hco
  have b1 := bal (Below.refl _ w) (.cells #[.slice A m.length cap, .slice B o.length cbp] 24)
  have hT := Equal_ok _ _ _ _ m o m o x y _ (⟨h.below b1, k.below b1, h.below b1, k.below b1⟩ : TwoY (w.alloc (.cells #[.slice A m.length cap, .slice B o.length cbp] 24)) (.slice A m.length cap) (.slice B o.length cbp) (.slice A m.length cap) (.slice B o.length cbp) m o m o) hv hv hx hy rfl
  have z1 : (w.alloc (.cells #[.slice A m.length cap, .slice B o.length cbp] 24)).cell? ⟨w.heap.size, 0, none⟩ = some (.slice A m.length cap) := by simp [go_sem]
  have z2 : (w.alloc (.cells #[.slice A m.length cap, .slice B o.length cbp] 24)).cell? ⟨w.heap.size, 1, none⟩ = some (.slice B o.length cbp) := by simp [go_sem]
  have Hv := hid hv
  clear hv
  go_enter Tryd.func20, Tryd.ntmps20
  go_wp2_with fail
  refine hT.mono ?_
  rintro e w1 ⟨⟨q, r, hA, rfl, hown⟩ | ⟨hA, rfl⟩, hb1⟩
  · obtain ⟨rA, rn, rc, rfl⟩ : ∃ A k c, r = .slice A k c := by
      rcases hown.2 with ⟨hu, h0⟩ | ⟨g, cap, cur, hu, hg, hh, _⟩
      · exact ⟨none, 0, 0, hu⟩
      · exact ⟨_, _, cap, hu⟩
    have Hown := hid (row_mono hown (base' := w.heap.size) (by have := b1.size; exact this))
    have HA := hid hA
    clear hown hA
    go_wp2
    go_ret2
    exact ⟨.inl ⟨_, _, HA.out, rfl, Hown.out⟩, btr b1 hb1⟩
  · have HA := hid hA
    clear hA
    go_wp2
    go_ret2
    exact ⟨.inr ⟨HA.out, rfl⟩, btr b1 hb1⟩
def m7 : List (List Int) := [[1, 0], [0, 1]]
def o7a : List (List Int) := [[0, 1], [0, 1]]
def o7b : List (List Int) := [[0, 1], [0, 0]]
def s7 : ByteArray := ⟨#[49, 47, 48, 46, 48, 47, 49, 32, 48, 47, 48, 46, 49, 47, 49]⟩
theorem m7a_valid : validY m7 o7a = true := by decide +kernel
theorem m7b_valid : validY m7 o7b = true := by decide +kernel
theorem s7_text : strB (textY m7 o7a) = s7 := by decide +kernel
theorem m7b_text : strB (textY m7 o7b) = ⟨#[49, 47, 48, 46, 48, 47, 49, 32, 48, 47, 48, 46, 49, 47, 48]⟩ := by decide +kernel
theorem m7a_cls : clsSL m7 o7a = [0, 0] := by decide +kernel
theorem m7b_apart : ApartW m7 o7b m7 o7b 0 1 [1] := by
  refine ⟨by decide +kernel, by decide +kernel, fun v hv hne => ?_⟩
  match v, hv, hne with
  | [], _, hne => exact absurd rfl hne
  | [y], hv, hne =>
    simp only [List.all_cons, List.all_nil, Bool.and_true, inB_iff] at hv
    have hL : (letters m7 : Int) = 2 := by decide +kernel
    rw [hL] at hv
    have h2 : y = 0 ∨ y = 1 := by omega
    rcases h2 with rfl | rfl
    · exact absurd (by decide +kernel) hne
    · exact .inl rfl
  | _ :: _ :: v, _, _ => exact .inr (.inl (by simp))
theorem rows_at2 {W : World} {a b g : Nat} {x y z t : Int} {T1 T2 T3 : TypeId} (ha : W.heap[a]? = some (.cells #[.int .i64 x, .int .i64 y] T1 (0, 0))) (hb : W.heap[b]? = some (.cells #[.int .i64 z, .int .i64 t] T2 (0, 0))) (hg : W.heap[g]? = some (.cells #[.slice (some ⟨a, 0, none⟩) 2 2, .slice (some ⟨b, 0, none⟩) 2 2] T3 (0, 0))) : Rows W (.slice (some ⟨g, 0, none⟩) 2 2) [[x, y], [z, t]] := by
  have row : ∀ {c : Nat} {p q : Int} {T : TypeId}, W.heap[c]? = some (.cells #[.int .i64 p, .int .i64 q] T (0, 0)) → Ints W (.slice (some ⟨c, 0, none⟩) 2 2) [p, q] := by
    intro c p q T hc
    refine ⟨_, 2, rfl, by unfold big; simp, fun i hi => ⟨c, 0, rfl, ?_⟩⟩
    have h2 : i = 0 ∨ i = 1 := by simp at hi; omega
    rcases h2 with rfl | rfl <;> simp [World.cell?, hc]
  refine ⟨_, 2, rfl, by unfold big; simp, fun i hi => ?_⟩
  have h2 : i = 0 ∨ i = 1 := by simp at hi; omega
  rcases h2 with rfl | rfl
  · exact ⟨g, 0, _, rfl, by simp [World.cell?, hg], row ha⟩
  · exact ⟨g, 0, _, rfl, by simp [World.cell?, hg], row hb⟩
set_option maxRecDepth 100000 in
set_option maxHeartbeats 1000000 in
theorem Two_any (w : World) : Calls Tryd.prog 34 #[] w fun e w' => ∃ v u, e = .returned (.agg #[v, u]) ∧ Rows w' v m7 ∧ Rows w' u o7b ∧ Below w.heap.size w w' := by
  have g0 : (((((((w.alloc (.cells #[.slice (some ⟨w.heap.size + 1 + 1 + 1, 0, none⟩) 2 2, .slice (some ⟨w.heap.size + 1 + 1 + 1 + 1 + 1 + 1, 0, none⟩) 2 2] 24)).alloc (.cells #[.int .i64 1, .int .i64 0] 3)).alloc (.cells #[.int .i64 0, .int .i64 1] 3)).alloc (.cells #[.slice (some ⟨w.heap.size + 1, 0, none⟩) 2 2, .slice (some ⟨w.heap.size + 1 + 1, 0, none⟩) 2 2] 27)).alloc (.cells #[.int .i64 0, .int .i64 1] 3)).alloc (.cells #[.int .i64 0, .int .i64 0] 3)).alloc (.cells #[.slice (some ⟨w.heap.size + 1 + 1 + 1 + 1, 0, none⟩) 2 2, .slice (some ⟨w.heap.size + 1 + 1 + 1 + 1 + 1, 0, none⟩) 2 2] 27)).heap[w.heap.size]? = some (.cells #[.slice (some ⟨w.heap.size + 1 + 1 + 1, 0, none⟩) 2 2, .slice (some ⟨w.heap.size + 1 + 1 + 1 + 1 + 1 + 1, 0, none⟩) 2 2] 24 (0, 0)) := by
    have h := ((bal (bal (bal (bal (bal (bal (Below.refl _ (w.alloc (.cells #[.slice (some ⟨w.heap.size + 1 + 1 + 1, 0, none⟩) 2 2, .slice (some ⟨w.heap.size + 1 + 1 + 1 + 1 + 1 + 1, 0, none⟩) 2 2] 24))) (.cells #[.int .i64 1, .int .i64 0] 3)) (.cells #[.int .i64 0, .int .i64 1] 3)) (.cells #[.slice (some ⟨w.heap.size + 1, 0, none⟩) 2 2, .slice (some ⟨w.heap.size + 1 + 1, 0, none⟩) 2 2] 27)) (.cells #[.int .i64 0, .int .i64 1] 3)) (.cells #[.int .i64 0, .int .i64 0] 3)) (.cells #[.slice (some ⟨w.heap.size + 1 + 1 + 1 + 1, 0, none⟩) 2 2, .slice (some ⟨w.heap.size + 1 + 1 + 1 + 1 + 1, 0, none⟩) 2 2] 27))).block _ (lt_of_block (World.alloc_heap_new w (.cells #[.slice (some ⟨w.heap.size + 1 + 1 + 1, 0, none⟩) 2 2, .slice (some ⟨w.heap.size + 1 + 1 + 1 + 1 + 1 + 1, 0, none⟩) 2 2] 24)))
    have h2 := h.trans (World.alloc_heap_new w (.cells #[.slice (some ⟨w.heap.size + 1 + 1 + 1, 0, none⟩) 2 2, .slice (some ⟨w.heap.size + 1 + 1 + 1 + 1 + 1 + 1, 0, none⟩) 2 2] 24))
    simpa only [World.size_alloc] using h2
  have g1 : (((((((w.alloc (.cells #[.slice (some ⟨w.heap.size + 1 + 1 + 1, 0, none⟩) 2 2, .slice (some ⟨w.heap.size + 1 + 1 + 1 + 1 + 1 + 1, 0, none⟩) 2 2] 24)).alloc (.cells #[.int .i64 1, .int .i64 0] 3)).alloc (.cells #[.int .i64 0, .int .i64 1] 3)).alloc (.cells #[.slice (some ⟨w.heap.size + 1, 0, none⟩) 2 2, .slice (some ⟨w.heap.size + 1 + 1, 0, none⟩) 2 2] 27)).alloc (.cells #[.int .i64 0, .int .i64 1] 3)).alloc (.cells #[.int .i64 0, .int .i64 0] 3)).alloc (.cells #[.slice (some ⟨w.heap.size + 1 + 1 + 1 + 1, 0, none⟩) 2 2, .slice (some ⟨w.heap.size + 1 + 1 + 1 + 1 + 1, 0, none⟩) 2 2] 27)).heap[w.heap.size + 1]? = some (.cells #[.int .i64 1, .int .i64 0] 3 (0, 0)) := by
    have h := ((bal (bal (bal (bal (bal (Below.refl _ ((w.alloc (.cells #[.slice (some ⟨w.heap.size + 1 + 1 + 1, 0, none⟩) 2 2, .slice (some ⟨w.heap.size + 1 + 1 + 1 + 1 + 1 + 1, 0, none⟩) 2 2] 24)).alloc (.cells #[.int .i64 1, .int .i64 0] 3))) (.cells #[.int .i64 0, .int .i64 1] 3)) (.cells #[.slice (some ⟨w.heap.size + 1, 0, none⟩) 2 2, .slice (some ⟨w.heap.size + 1 + 1, 0, none⟩) 2 2] 27)) (.cells #[.int .i64 0, .int .i64 1] 3)) (.cells #[.int .i64 0, .int .i64 0] 3)) (.cells #[.slice (some ⟨w.heap.size + 1 + 1 + 1 + 1, 0, none⟩) 2 2, .slice (some ⟨w.heap.size + 1 + 1 + 1 + 1 + 1, 0, none⟩) 2 2] 27))).block _ (lt_of_block (World.alloc_heap_new (w.alloc (.cells #[.slice (some ⟨w.heap.size + 1 + 1 + 1, 0, none⟩) 2 2, .slice (some ⟨w.heap.size + 1 + 1 + 1 + 1 + 1 + 1, 0, none⟩) 2 2] 24)) (.cells #[.int .i64 1, .int .i64 0] 3)))
    have h2 := h.trans (World.alloc_heap_new (w.alloc (.cells #[.slice (some ⟨w.heap.size + 1 + 1 + 1, 0, none⟩) 2 2, .slice (some ⟨w.heap.size + 1 + 1 + 1 + 1 + 1 + 1, 0, none⟩) 2 2] 24)) (.cells #[.int .i64 1, .int .i64 0] 3))
    simpa only [World.size_alloc] using h2
  have g2 : (((((((w.alloc (.cells #[.slice (some ⟨w.heap.size + 1 + 1 + 1, 0, none⟩) 2 2, .slice (some ⟨w.heap.size + 1 + 1 + 1 + 1 + 1 + 1, 0, none⟩) 2 2] 24)).alloc (.cells #[.int .i64 1, .int .i64 0] 3)).alloc (.cells #[.int .i64 0, .int .i64 1] 3)).alloc (.cells #[.slice (some ⟨w.heap.size + 1, 0, none⟩) 2 2, .slice (some ⟨w.heap.size + 1 + 1, 0, none⟩) 2 2] 27)).alloc (.cells #[.int .i64 0, .int .i64 1] 3)).alloc (.cells #[.int .i64 0, .int .i64 0] 3)).alloc (.cells #[.slice (some ⟨w.heap.size + 1 + 1 + 1 + 1, 0, none⟩) 2 2, .slice (some ⟨w.heap.size + 1 + 1 + 1 + 1 + 1, 0, none⟩) 2 2] 27)).heap[w.heap.size + 1 + 1]? = some (.cells #[.int .i64 0, .int .i64 1] 3 (0, 0)) := by
    have h := ((bal (bal (bal (bal (Below.refl _ (((w.alloc (.cells #[.slice (some ⟨w.heap.size + 1 + 1 + 1, 0, none⟩) 2 2, .slice (some ⟨w.heap.size + 1 + 1 + 1 + 1 + 1 + 1, 0, none⟩) 2 2] 24)).alloc (.cells #[.int .i64 1, .int .i64 0] 3)).alloc (.cells #[.int .i64 0, .int .i64 1] 3))) (.cells #[.slice (some ⟨w.heap.size + 1, 0, none⟩) 2 2, .slice (some ⟨w.heap.size + 1 + 1, 0, none⟩) 2 2] 27)) (.cells #[.int .i64 0, .int .i64 1] 3)) (.cells #[.int .i64 0, .int .i64 0] 3)) (.cells #[.slice (some ⟨w.heap.size + 1 + 1 + 1 + 1, 0, none⟩) 2 2, .slice (some ⟨w.heap.size + 1 + 1 + 1 + 1 + 1, 0, none⟩) 2 2] 27))).block _ (lt_of_block (World.alloc_heap_new ((w.alloc (.cells #[.slice (some ⟨w.heap.size + 1 + 1 + 1, 0, none⟩) 2 2, .slice (some ⟨w.heap.size + 1 + 1 + 1 + 1 + 1 + 1, 0, none⟩) 2 2] 24)).alloc (.cells #[.int .i64 1, .int .i64 0] 3)) (.cells #[.int .i64 0, .int .i64 1] 3)))
    have h2 := h.trans (World.alloc_heap_new ((w.alloc (.cells #[.slice (some ⟨w.heap.size + 1 + 1 + 1, 0, none⟩) 2 2, .slice (some ⟨w.heap.size + 1 + 1 + 1 + 1 + 1 + 1, 0, none⟩) 2 2] 24)).alloc (.cells #[.int .i64 1, .int .i64 0] 3)) (.cells #[.int .i64 0, .int .i64 1] 3))
    simpa only [World.size_alloc] using h2
  have g3 : (((((((w.alloc (.cells #[.slice (some ⟨w.heap.size + 1 + 1 + 1, 0, none⟩) 2 2, .slice (some ⟨w.heap.size + 1 + 1 + 1 + 1 + 1 + 1, 0, none⟩) 2 2] 24)).alloc (.cells #[.int .i64 1, .int .i64 0] 3)).alloc (.cells #[.int .i64 0, .int .i64 1] 3)).alloc (.cells #[.slice (some ⟨w.heap.size + 1, 0, none⟩) 2 2, .slice (some ⟨w.heap.size + 1 + 1, 0, none⟩) 2 2] 27)).alloc (.cells #[.int .i64 0, .int .i64 1] 3)).alloc (.cells #[.int .i64 0, .int .i64 0] 3)).alloc (.cells #[.slice (some ⟨w.heap.size + 1 + 1 + 1 + 1, 0, none⟩) 2 2, .slice (some ⟨w.heap.size + 1 + 1 + 1 + 1 + 1, 0, none⟩) 2 2] 27)).heap[w.heap.size + 1 + 1 + 1]? = some (.cells #[.slice (some ⟨w.heap.size + 1, 0, none⟩) 2 2, .slice (some ⟨w.heap.size + 1 + 1, 0, none⟩) 2 2] 27 (0, 0)) := by
    have h := ((bal (bal (bal (Below.refl _ ((((w.alloc (.cells #[.slice (some ⟨w.heap.size + 1 + 1 + 1, 0, none⟩) 2 2, .slice (some ⟨w.heap.size + 1 + 1 + 1 + 1 + 1 + 1, 0, none⟩) 2 2] 24)).alloc (.cells #[.int .i64 1, .int .i64 0] 3)).alloc (.cells #[.int .i64 0, .int .i64 1] 3)).alloc (.cells #[.slice (some ⟨w.heap.size + 1, 0, none⟩) 2 2, .slice (some ⟨w.heap.size + 1 + 1, 0, none⟩) 2 2] 27))) (.cells #[.int .i64 0, .int .i64 1] 3)) (.cells #[.int .i64 0, .int .i64 0] 3)) (.cells #[.slice (some ⟨w.heap.size + 1 + 1 + 1 + 1, 0, none⟩) 2 2, .slice (some ⟨w.heap.size + 1 + 1 + 1 + 1 + 1, 0, none⟩) 2 2] 27))).block _ (lt_of_block (World.alloc_heap_new (((w.alloc (.cells #[.slice (some ⟨w.heap.size + 1 + 1 + 1, 0, none⟩) 2 2, .slice (some ⟨w.heap.size + 1 + 1 + 1 + 1 + 1 + 1, 0, none⟩) 2 2] 24)).alloc (.cells #[.int .i64 1, .int .i64 0] 3)).alloc (.cells #[.int .i64 0, .int .i64 1] 3)) (.cells #[.slice (some ⟨w.heap.size + 1, 0, none⟩) 2 2, .slice (some ⟨w.heap.size + 1 + 1, 0, none⟩) 2 2] 27)))
    have h2 := h.trans (World.alloc_heap_new (((w.alloc (.cells #[.slice (some ⟨w.heap.size + 1 + 1 + 1, 0, none⟩) 2 2, .slice (some ⟨w.heap.size + 1 + 1 + 1 + 1 + 1 + 1, 0, none⟩) 2 2] 24)).alloc (.cells #[.int .i64 1, .int .i64 0] 3)).alloc (.cells #[.int .i64 0, .int .i64 1] 3)) (.cells #[.slice (some ⟨w.heap.size + 1, 0, none⟩) 2 2, .slice (some ⟨w.heap.size + 1 + 1, 0, none⟩) 2 2] 27))
    simpa only [World.size_alloc] using h2
  have g4 : (((((((w.alloc (.cells #[.slice (some ⟨w.heap.size + 1 + 1 + 1, 0, none⟩) 2 2, .slice (some ⟨w.heap.size + 1 + 1 + 1 + 1 + 1 + 1, 0, none⟩) 2 2] 24)).alloc (.cells #[.int .i64 1, .int .i64 0] 3)).alloc (.cells #[.int .i64 0, .int .i64 1] 3)).alloc (.cells #[.slice (some ⟨w.heap.size + 1, 0, none⟩) 2 2, .slice (some ⟨w.heap.size + 1 + 1, 0, none⟩) 2 2] 27)).alloc (.cells #[.int .i64 0, .int .i64 1] 3)).alloc (.cells #[.int .i64 0, .int .i64 0] 3)).alloc (.cells #[.slice (some ⟨w.heap.size + 1 + 1 + 1 + 1, 0, none⟩) 2 2, .slice (some ⟨w.heap.size + 1 + 1 + 1 + 1 + 1, 0, none⟩) 2 2] 27)).heap[w.heap.size + 1 + 1 + 1 + 1]? = some (.cells #[.int .i64 0, .int .i64 1] 3 (0, 0)) := by
    have h := ((bal (bal (Below.refl _ (((((w.alloc (.cells #[.slice (some ⟨w.heap.size + 1 + 1 + 1, 0, none⟩) 2 2, .slice (some ⟨w.heap.size + 1 + 1 + 1 + 1 + 1 + 1, 0, none⟩) 2 2] 24)).alloc (.cells #[.int .i64 1, .int .i64 0] 3)).alloc (.cells #[.int .i64 0, .int .i64 1] 3)).alloc (.cells #[.slice (some ⟨w.heap.size + 1, 0, none⟩) 2 2, .slice (some ⟨w.heap.size + 1 + 1, 0, none⟩) 2 2] 27)).alloc (.cells #[.int .i64 0, .int .i64 1] 3))) (.cells #[.int .i64 0, .int .i64 0] 3)) (.cells #[.slice (some ⟨w.heap.size + 1 + 1 + 1 + 1, 0, none⟩) 2 2, .slice (some ⟨w.heap.size + 1 + 1 + 1 + 1 + 1, 0, none⟩) 2 2] 27))).block _ (lt_of_block (World.alloc_heap_new ((((w.alloc (.cells #[.slice (some ⟨w.heap.size + 1 + 1 + 1, 0, none⟩) 2 2, .slice (some ⟨w.heap.size + 1 + 1 + 1 + 1 + 1 + 1, 0, none⟩) 2 2] 24)).alloc (.cells #[.int .i64 1, .int .i64 0] 3)).alloc (.cells #[.int .i64 0, .int .i64 1] 3)).alloc (.cells #[.slice (some ⟨w.heap.size + 1, 0, none⟩) 2 2, .slice (some ⟨w.heap.size + 1 + 1, 0, none⟩) 2 2] 27)) (.cells #[.int .i64 0, .int .i64 1] 3)))
    have h2 := h.trans (World.alloc_heap_new ((((w.alloc (.cells #[.slice (some ⟨w.heap.size + 1 + 1 + 1, 0, none⟩) 2 2, .slice (some ⟨w.heap.size + 1 + 1 + 1 + 1 + 1 + 1, 0, none⟩) 2 2] 24)).alloc (.cells #[.int .i64 1, .int .i64 0] 3)).alloc (.cells #[.int .i64 0, .int .i64 1] 3)).alloc (.cells #[.slice (some ⟨w.heap.size + 1, 0, none⟩) 2 2, .slice (some ⟨w.heap.size + 1 + 1, 0, none⟩) 2 2] 27)) (.cells #[.int .i64 0, .int .i64 1] 3))
    simpa only [World.size_alloc] using h2
  have g5 : (((((((w.alloc (.cells #[.slice (some ⟨w.heap.size + 1 + 1 + 1, 0, none⟩) 2 2, .slice (some ⟨w.heap.size + 1 + 1 + 1 + 1 + 1 + 1, 0, none⟩) 2 2] 24)).alloc (.cells #[.int .i64 1, .int .i64 0] 3)).alloc (.cells #[.int .i64 0, .int .i64 1] 3)).alloc (.cells #[.slice (some ⟨w.heap.size + 1, 0, none⟩) 2 2, .slice (some ⟨w.heap.size + 1 + 1, 0, none⟩) 2 2] 27)).alloc (.cells #[.int .i64 0, .int .i64 1] 3)).alloc (.cells #[.int .i64 0, .int .i64 0] 3)).alloc (.cells #[.slice (some ⟨w.heap.size + 1 + 1 + 1 + 1, 0, none⟩) 2 2, .slice (some ⟨w.heap.size + 1 + 1 + 1 + 1 + 1, 0, none⟩) 2 2] 27)).heap[w.heap.size + 1 + 1 + 1 + 1 + 1]? = some (.cells #[.int .i64 0, .int .i64 0] 3 (0, 0)) := by
    have h := ((bal (Below.refl _ ((((((w.alloc (.cells #[.slice (some ⟨w.heap.size + 1 + 1 + 1, 0, none⟩) 2 2, .slice (some ⟨w.heap.size + 1 + 1 + 1 + 1 + 1 + 1, 0, none⟩) 2 2] 24)).alloc (.cells #[.int .i64 1, .int .i64 0] 3)).alloc (.cells #[.int .i64 0, .int .i64 1] 3)).alloc (.cells #[.slice (some ⟨w.heap.size + 1, 0, none⟩) 2 2, .slice (some ⟨w.heap.size + 1 + 1, 0, none⟩) 2 2] 27)).alloc (.cells #[.int .i64 0, .int .i64 1] 3)).alloc (.cells #[.int .i64 0, .int .i64 0] 3))) (.cells #[.slice (some ⟨w.heap.size + 1 + 1 + 1 + 1, 0, none⟩) 2 2, .slice (some ⟨w.heap.size + 1 + 1 + 1 + 1 + 1, 0, none⟩) 2 2] 27))).block _ (lt_of_block (World.alloc_heap_new (((((w.alloc (.cells #[.slice (some ⟨w.heap.size + 1 + 1 + 1, 0, none⟩) 2 2, .slice (some ⟨w.heap.size + 1 + 1 + 1 + 1 + 1 + 1, 0, none⟩) 2 2] 24)).alloc (.cells #[.int .i64 1, .int .i64 0] 3)).alloc (.cells #[.int .i64 0, .int .i64 1] 3)).alloc (.cells #[.slice (some ⟨w.heap.size + 1, 0, none⟩) 2 2, .slice (some ⟨w.heap.size + 1 + 1, 0, none⟩) 2 2] 27)).alloc (.cells #[.int .i64 0, .int .i64 1] 3)) (.cells #[.int .i64 0, .int .i64 0] 3)))
    have h2 := h.trans (World.alloc_heap_new (((((w.alloc (.cells #[.slice (some ⟨w.heap.size + 1 + 1 + 1, 0, none⟩) 2 2, .slice (some ⟨w.heap.size + 1 + 1 + 1 + 1 + 1 + 1, 0, none⟩) 2 2] 24)).alloc (.cells #[.int .i64 1, .int .i64 0] 3)).alloc (.cells #[.int .i64 0, .int .i64 1] 3)).alloc (.cells #[.slice (some ⟨w.heap.size + 1, 0, none⟩) 2 2, .slice (some ⟨w.heap.size + 1 + 1, 0, none⟩) 2 2] 27)).alloc (.cells #[.int .i64 0, .int .i64 1] 3)) (.cells #[.int .i64 0, .int .i64 0] 3))
    simpa only [World.size_alloc] using h2
  have g6 : (((((((w.alloc (.cells #[.slice (some ⟨w.heap.size + 1 + 1 + 1, 0, none⟩) 2 2, .slice (some ⟨w.heap.size + 1 + 1 + 1 + 1 + 1 + 1, 0, none⟩) 2 2] 24)).alloc (.cells #[.int .i64 1, .int .i64 0] 3)).alloc (.cells #[.int .i64 0, .int .i64 1] 3)).alloc (.cells #[.slice (some ⟨w.heap.size + 1, 0, none⟩) 2 2, .slice (some ⟨w.heap.size + 1 + 1, 0, none⟩) 2 2] 27)).alloc (.cells #[.int .i64 0, .int .i64 1] 3)).alloc (.cells #[.int .i64 0, .int .i64 0] 3)).alloc (.cells #[.slice (some ⟨w.heap.size + 1 + 1 + 1 + 1, 0, none⟩) 2 2, .slice (some ⟨w.heap.size + 1 + 1 + 1 + 1 + 1, 0, none⟩) 2 2] 27)).heap[w.heap.size + 1 + 1 + 1 + 1 + 1 + 1]? = some (.cells #[.slice (some ⟨w.heap.size + 1 + 1 + 1 + 1, 0, none⟩) 2 2, .slice (some ⟨w.heap.size + 1 + 1 + 1 + 1 + 1, 0, none⟩) 2 2] 27 (0, 0)) := by
    have h := ((Below.refl _ (((((((w.alloc (.cells #[.slice (some ⟨w.heap.size + 1 + 1 + 1, 0, none⟩) 2 2, .slice (some ⟨w.heap.size + 1 + 1 + 1 + 1 + 1 + 1, 0, none⟩) 2 2] 24)).alloc (.cells #[.int .i64 1, .int .i64 0] 3)).alloc (.cells #[.int .i64 0, .int .i64 1] 3)).alloc (.cells #[.slice (some ⟨w.heap.size + 1, 0, none⟩) 2 2, .slice (some ⟨w.heap.size + 1 + 1, 0, none⟩) 2 2] 27)).alloc (.cells #[.int .i64 0, .int .i64 1] 3)).alloc (.cells #[.int .i64 0, .int .i64 0] 3)).alloc (.cells #[.slice (some ⟨w.heap.size + 1 + 1 + 1 + 1, 0, none⟩) 2 2, .slice (some ⟨w.heap.size + 1 + 1 + 1 + 1 + 1, 0, none⟩) 2 2] 27)))).block _ (lt_of_block (World.alloc_heap_new ((((((w.alloc (.cells #[.slice (some ⟨w.heap.size + 1 + 1 + 1, 0, none⟩) 2 2, .slice (some ⟨w.heap.size + 1 + 1 + 1 + 1 + 1 + 1, 0, none⟩) 2 2] 24)).alloc (.cells #[.int .i64 1, .int .i64 0] 3)).alloc (.cells #[.int .i64 0, .int .i64 1] 3)).alloc (.cells #[.slice (some ⟨w.heap.size + 1, 0, none⟩) 2 2, .slice (some ⟨w.heap.size + 1 + 1, 0, none⟩) 2 2] 27)).alloc (.cells #[.int .i64 0, .int .i64 1] 3)).alloc (.cells #[.int .i64 0, .int .i64 0] 3)) (.cells #[.slice (some ⟨w.heap.size + 1 + 1 + 1 + 1, 0, none⟩) 2 2, .slice (some ⟨w.heap.size + 1 + 1 + 1 + 1 + 1, 0, none⟩) 2 2] 27)))
    have h2 := h.trans (World.alloc_heap_new ((((((w.alloc (.cells #[.slice (some ⟨w.heap.size + 1 + 1 + 1, 0, none⟩) 2 2, .slice (some ⟨w.heap.size + 1 + 1 + 1 + 1 + 1 + 1, 0, none⟩) 2 2] 24)).alloc (.cells #[.int .i64 1, .int .i64 0] 3)).alloc (.cells #[.int .i64 0, .int .i64 1] 3)).alloc (.cells #[.slice (some ⟨w.heap.size + 1, 0, none⟩) 2 2, .slice (some ⟨w.heap.size + 1 + 1, 0, none⟩) 2 2] 27)).alloc (.cells #[.int .i64 0, .int .i64 1] 3)).alloc (.cells #[.int .i64 0, .int .i64 0] 3)) (.cells #[.slice (some ⟨w.heap.size + 1 + 1 + 1 + 1, 0, none⟩) 2 2, .slice (some ⟨w.heap.size + 1 + 1 + 1 + 1 + 1, 0, none⟩) 2 2] 27))
    simpa only [World.size_alloc] using h2
  have HB := hid (show Below w.heap.size w (((((((w.alloc (.cells #[.slice (some ⟨w.heap.size + 1 + 1 + 1, 0, none⟩) 2 2, .slice (some ⟨w.heap.size + 1 + 1 + 1 + 1 + 1 + 1, 0, none⟩) 2 2] 24)).alloc (.cells #[.int .i64 1, .int .i64 0] 3)).alloc (.cells #[.int .i64 0, .int .i64 1] 3)).alloc (.cells #[.slice (some ⟨w.heap.size + 1, 0, none⟩) 2 2, .slice (some ⟨w.heap.size + 1 + 1, 0, none⟩) 2 2] 27)).alloc (.cells #[.int .i64 0, .int .i64 1] 3)).alloc (.cells #[.int .i64 0, .int .i64 0] 3)).alloc (.cells #[.slice (some ⟨w.heap.size + 1 + 1 + 1 + 1, 0, none⟩) 2 2, .slice (some ⟨w.heap.size + 1 + 1 + 1 + 1 + 1, 0, none⟩) 2 2] 27)) from bal (bal (bal (bal (bal (bal (bal (Below.refl _ _) _) _) _) _) _) _) _)
  obtain ⟨z0, z1, -, -⟩ := cells_two _ _ _ _ _ g0
  have R1 := hid (rows_at2 g1 g2 g3)
  have R2 := hid (rows_at2 g4 g5 g6)
  clear g0 g1 g2 g3 g4 g5 g6
  go_enter Tryd.func34, Tryd.ntmps34
  go_wp2
  (try simp only [Exit.inBlock, Exit.then])
  refine bodyPost_ret (v := .agg #[.slice (some ⟨w.heap.size + 1 + 1 + 1, 0, none⟩) 2 2, .slice (some ⟨w.heap.size + 1 + 1 + 1 + 1 + 1 + 1, 0, none⟩) 2 2]) ?_ rfl ⟨_, _, rfl, R1.out, R2.out, HB.out⟩
  simp only [results, Tryd.results34]
  go_simp
end Go.Proofs.YtbhhemidnmaodaaDoor
namespace Go.Proofs.YtbhhemidnmaodaaDoor
open Go.RowKit Go.Shelf
set_option maxRecDepth 100000 in
set_option maxHeartbeats 2000000 in
theorem awake7_any (w : World) (hsh : w.ShapedOpen Tryd.prog) :
    Calls Tryd.prog 12 #[] w fun e w' => e = .returned (.bool true) ∧ Below w.heap.size w w' := by
  have hP := ParseY_ok s7 m7 o7a w hsh (by rw [← s7_text]; exact reads_textY (rowsY m7a_valid)) m7a_valid s7_text
  unfold s7 at hP
  go_enter Tryd.func12, Tryd.ntmps12
  go_wp2_with fail
  refine hP.mono ?_
  clear hP
  rintro e w1 ⟨v, u, rfl, hR1, hR2, hb1⟩
  obtain ⟨A, cap, rfl, -⟩ := id hR1
  obtain ⟨B, cbp, rfl, -⟩ := id hR2
  have b2 := bal (Below.refl _ w1) (.cells #[.slice A m7.length cap, .slice B o7a.length cbp] 24)
  have hS1 := hR1.below b2
  have hS2 := hR2.below b2
  obtain ⟨z1, z2, -, -⟩ := cells_two _ _ _ _ _ (World.alloc_heap_new w1 (.cells #[.slice A m7.length cap, .slice B o7a.length cbp] 24))
  have B2 := hid (btr hb1 b2)
  clear hR1 hR2 hb1 b2
  have hC := Classes_ok _ _ m7 o7a _ hS1 hS2 m7a_valid
  rw [m7a_cls] at hC
  go_wp2_with fail
  refine hC.mono ?_
  clear hC
  rintro e w3 ⟨g, rfl, hown, hb3⟩
  have hI3 : Ints w3 (.slice (some ⟨g, 0, none⟩) m7.length m7.length) [0, 0] := Ints.of_own (l := [0, 0]) hown (by unfold big; simp)
  have B3 := hid (btr B2.out hb3)
  clear hown hb3 hS1 hS2 z1 z2 B2
  go_wp2_with fail
  refine (Two_any w3).mono ?_
  rintro e w4 ⟨v4, u4, rfl, r1, r2, hb4⟩
  have hI4 := hI3.below hb4
  have B4 := hid (btr B3.out hb4)
  have hA := Apart_ok _ _ m7 o7b 0 1 w4 r1 r2 m7b_valid (by decide) (by decide)
  clear hI3 hb4 B3
  go_wp2_with fail
  refine hA.mono ?_
  clear hA
  rintro e w5 ⟨⟨q, r, hap, rfl, hown⟩ | ⟨hal, -⟩, hb5⟩
  · obtain rfl : q = [1] := ApartW.one hap m7b_apart
    have hIr : Ints w5 r [1] := Ints.of_own (l := [1]) hown (by unfold big; simp)
    obtain ⟨Ar, cr, rfl, -⟩ := id hIr
    have hI5 := hI4.below hb5
    have B5 := hid (btr B4.out hb5)
    clear hown hap hI4 hb5 B4 r1 r2
    go_wp2_with fail
    refine (Two_any w5).mono ?_
    rintro e w6 ⟨v6, u6, rfl, r1, r2, hb6⟩
    have hI6 := hI5.below hb6
    have hJ6 := hIr.below hb6
    have B6 := hid (btr B5.out hb6)
    have hT := TextY_ok _ _ m7 o7b w6 r1 r2 m7b_valid
    rw [m7b_text] at hT
    clear hI5 hIr hb6 B5
    go_wp2_with fail
    refine hT.mono ?_
    clear hT
    rintro e w7 ⟨rfl, hb7⟩
    have hI7 := hI6.below hb7
    have hJ7 := hJ6.below hb7
    have B7 := hid (btr B6.out hb7)
    clear hI6 hJ6 hb7 B6 r1 r2
    have b8 := bal (Below.refl _ w7) (.cells #[.int .i64 0, .int .i64 0] 3)
    have hI8 := hI7.below b8
    have hJ8 := hJ7.below b8
    have hL8 : Ints (w7.alloc (.cells #[.int .i64 0, .int .i64 0] 3)) (.slice (some ⟨w7.heap.size, 0, none⟩) 2 2) [0, 0] := by
      refine ⟨_, 2, rfl, by unfold big; simp, fun i hi => ⟨w7.heap.size, 0, rfl, ?_⟩⟩
      have h2 : i = 0 ∨ i = 1 := by simp at hi; omega
      rcases h2 with rfl | rfl <;> simp
    have B8 := hid (btr B7.out b8)
    go_wp2_with fail
    refine (rSame7_is _ _ [0, 0] [0, 0] true _ hI8 hL8 rfl).mono ?_
    rintro e w9 ⟨rfl, hb9⟩
    have hJ9 := hJ8.below hb9
    have B9 := hid (btr B8.out hb9)
    clear hI7 hJ7 hI8 hJ8 hL8 b8 hb9 B7 B8
    have b10 := bal (Below.refl _ w9) (.cells #[.int .i64 1] 3)
    have hJ10 := hJ9.below b10
    have B10 := hid (btr B9.out b10)
    go_wp2_with fail
    refine (rSame7_is _ _ [1] [1] true _ hJ10 (Ints.one _ _ _) rfl).mono ?_
    rintro e w11 ⟨rfl, hb11⟩
    have B11 := hid (btr B10.out hb11)
    clear hJ9 hJ10 b10 hb11 B9 B10
    go_wp2
    go_ret
    exact ⟨rfl, B11.out⟩
  · exact absurd (hal [1] (by decide +kernel)) (by decide +kernel)
end Go.Proofs.YtbhhemidnmaodaaDoor
namespace Go.Proofs.YtbhhemidnmaodaaDoor
open Go.RowKit Go.Shelf
attribute [local go_sem] Oper.semAt_some
def encR (m o : List (List Int)) (s : Nat) (l : List Int) (i : Nat) : Array Value := #[.int .i64 (ox o (runM m s (l.take i)) (l.getD i 0)), .int .i64 (runM m s (l.take (i + 1)) : Nat)]
set_option maxRecDepth 100000 in
set_option maxHeartbeats 2000000 in
theorem outputs_seq (v u wd : Value) (m o : List (List Int)) (s : Nat) (l : List Int) (b1 b2 b3 n₀ : Nat) (W0 : World) (X0 : Blocks) (hv : validY m o = true) (hs : s < m.length) (hl : l.all (inB 0 ((letters m : Int) - 1)) = true)
    (h1 : X0 b1) (h2 : X0 b2) (h3 : X0 b3) (hX0 : ∀ k, X0 k → k < W0.heap.size) (hR : ∀ W, Keep n₀ X0 W0 W → Rows W v m ∧ Rows W u o ∧ Ints W wd l)
    (c1 : W0.cell? ⟨b1, 0, none⟩ = some (.int .i64 s)) (c2 : W0.cell? ⟨b2, 0, none⟩ = some wd) (c3 : W0.cell? ⟨b3, 0, none⟩ = some v) (c4 : W0.cell? ⟨b3, 1, none⟩ = some u) :
    SeqO 65 #[] #[.pointer (some ⟨b1, 0, none⟩), .pointer (some ⟨b2, 0, none⟩), .pointer (some ⟨b3, 0, none⟩)] (encR m o s l) n₀ (fun _ _ _ => True)
      (fun xs => xs = List.range l.length) (fun pre => ∃ k, k ≤ l.length ∧ pre = List.range k) W0 X0 := by
  intro ll J Jx W hW hJ hJx hY h0
  have k0 : Keep n₀ X0 W0 W := Keep.of_below hW
  have hWs := hW.size
  have hX0W : ∀ k, X0 k → k < W.heap.size := fun k hk => by have := hX0 k hk; omega
  obtain ⟨r1, r2, r3⟩ := hR W k0
  obtain ⟨va1, va2, va3⟩ := validY_parts hv
  obtain ⟨-, -, -, -, pa⟩ := valid_parts va1
  obtain ⟨A, ca, rfl, hml, hcm⟩ := id r1
  obtain ⟨B, cb, rfl, hol, hco⟩ := id r2
  obtain ⟨Cw, cw, rfl, hlb, hcw⟩ := id r3
  unfold big at hlb
  have d1 := (hW.cell (p := ⟨b1, 0, none⟩) (hX0 _ h1)).trans c1
  have d2 := (hW.cell (p := ⟨b2, 0, none⟩) (hX0 _ h2)).trans c2
  have d3 := (hW.cell (p := ⟨b3, 0, none⟩) (hX0 _ h3)).trans c3
  have d4 := (hW.cell (p := ⟨b3, 1, none⟩) (hX0 _ h3)).trans c4
  have HR := hid hR
  have HY := hid hY
  have PA := hid pa
  have VA := hid va3
  have Hl := hid hl
  have hX3 := h3
  clear hR hY r1 r2 r3 hcm hco hcw pa va3 hl c1 c2 c3 c4 hX0
  refine (callsIn_wide (n := 0)).1 ?_
  refine callsIn_of_wp Tryd.func65 rfl trivial ?_ rfl
  simp only [Tryd.ntmps65, List.size_toArray, List.length_cons, List.length_nil, Nat.reduceAdd, Nat.reduceSub, Array.replicate_succ, Array.replicate_zero, List.push_toArray, List.append_toArray, List.nil_append, List.cons_append]
  refine wpIn_wide.2 ?_
  go_wp2_with fail
  go_loopw [5, 12] (fun q r wr => ∃ i : Nat, i ≤ l.length ∧ r = .int .i64 i ∧ q = .int .i64 (runM m s (l.take i) : Nat) ∧ Keep n₀ X0 W wr ∧ J X0 (List.range i) wr) (fun _ r _ => l.length - (intOf r).toNat)
  case atStart => exact ⟨0, Nat.zero_le _, rfl, rfl, Keep.refl _ _ _, h0⟩
  case round =>
    obtain ⟨i, hi, rfl, rfl, hK, hJi⟩ := hrel
    have hXw : ∀ k, X0 k → k < wr.heap.size := fun k hk => Nat.lt_of_lt_of_le (hX0W k hk) hK.size
    by_cases hlt : i < l.length
    · have hlts : (i : Int) < l.length := by omega
      obtain ⟨q1, q2, q3⟩ := HR.out wr (k0.trans hK)
      have hy0 := HY.out X0 (List.range i) i wr hXw hJi trivial ⟨i + 1, by omega, List.range_succ.symm⟩
      have hsn := runM_snoc m s l i hlt
      have hrl := runM_lt va1 (l.take i) s hs (all_take _ _ Hl.out i)
      have hx := all_getD _ l 0 Hl.out i hlt
      rw [inB_iff] at hx
      unfold encR at hy0
      rw [hsn] at hy0
      have Hsn := hid hsn
      obtain ⟨_, _, heq, _, hcw⟩ := q3
      obtain ⟨rfl, -, rfl⟩ := by simpa using heq
      obtain ⟨bw, ow, rfl, e1⟩ := hcw i hlt
      clear hsn hcw heq
      generalize runM m s (l.take i) = p at *
      generalize l.getD i 0 = x at *
      obtain ⟨xn, rfl⟩ := Int.eq_ofNat_of_zero_le hx.1
      obtain ⟨m1, f1, k1, m1', f1', k1', e2, g1, g1'⟩ := row_cell q1 hrl (PA.out p hrl).1 (x := xn) (by omega)
      obtain ⟨m2, f2, k2, m2', f2', k2', e3, g2, g2'⟩ := row_cell q2 (by omega) (VA.out p hrl).1 (x := xn) (by omega)
      cases e2
      cases e3
      have n1 := (nx_ok va1 hrl (x := (xn : Int)) (by omega) (by omega)).2
      rw [Int.toNat_natCast] at n1
      rw [n1] at g1'
      have n2 : (o.getD p []).getD xn 0 = ox o p (xn : Int) := by unfold ox; rw [Int.toNat_natCast]
      rw [n2] at g2'
      have hp1 : (p : Int) < m.length := by omega
      have hp2 : (p : Int) < o.length := by omega
      have hxl : (xn : Int) < letters m := by omega
      have t3 := keep_cell (X := X0) hK h3 d3
      have t4 := (World.cell?_of_block (w := W) (w' := wr) (a := ⟨b3, 1, none⟩) (hK.block b3 (World.block_lt_of_cell? _ _ d4) (.inr h3))).trans d4
      clear n1 n2 q1 q2
      generalize ox o p (xn : Int) = ov at *
      generalize nx m p (xn : Int) = nv at *
      obtain ⟨fn, tmps, assign, body, hy, hRd⟩ := hy0
      have Hrd := hid hRd
      have hwd := keep_cell (X := X0) hK h2 d2
      clear hRd
      go_upto_region 6 with fail
      refine (wpIn_wide (n := 0)).1 ?_
      gi_wp2_with fail
      refine ⟨rfl, Hrd.out.mono ?_⟩
      rintro e W3 ⟨⟨rfl, hJ3⟩ | ⟨rfl, hJ3⟩, hk3⟩
      · have HJ := hid (show J X0 (List.range (i + 1)) W3 by rw [List.range_succ]; exact hJ3)
        have HK := hid (hK.trans hk3)
        clear hJ3
        gi_wp2_with fail
        go_wp2_with fail
        go_roundw
        case rel => exact ⟨i + 1, by omega, by go_num, by rw [Hsn.out], HK.out, HJ.out⟩
        case measure => simp [intOf]; omega
      · have HJ := hid hJ3
        gi_wp2_with fail
        go_wp2
        (try simp only [Exit.inBlock, Exit.then])
        refine bodyPost_ret (results_none rfl _ _ _) rfl ?_
        exact ⟨⟨_, rfl⟩, .inr ⟨X0, _, ⟨i + 1, by omega, List.range_succ.symm⟩, HJ.out⟩⟩
    · obtain rfl : i = l.length := by omega
      have hlts : ¬ ((l.length : Int) < l.length) := by omega
      have HJ := hid hJi
      clear hJi
      go_wp2
      refine bodyPost_end (results_none rfl _ _ _) rfl ?_
      exact ⟨⟨_, rfl⟩, .inl ⟨X0, HJ.out⟩⟩
end Go.Proofs.YtbhhemidnmaodaaDoor
namespace Go.Proofs.YtbhhemidnmaodaaDoor
open Go.RowKit Go.Shelf
attribute [local go_sem] Oper.semAt_some
/-- What Run answers where it is not asked rightly. -/
def RunErr (n : Int) (w : World) (e : Ending) (w' : World) : Prop := e = .returned (.tuple #[.slice none 0 0, .int .i64 0, .int .i64 n]) ∧ Below w.heap.size w w'
def RunIs (m o : List (List Int)) (s : Nat) (l : List Int) (w : World) (e : Ending) (w' : World) : Prop :=
  ∃ r, e = .returned (.tuple #[r, .int .i64 (runM m s l : Nat), .int .i64 0]) ∧ w'.ownsRow w.heap.size 3 1 r l.length ((outsM m o s l).map fun x => .int .i64 x) ∧ Below w.heap.size w w'
set_option maxRecDepth 100000 in
set_option maxHeartbeats 400000 in
theorem outputs_fn (v u wd : Value) (s : Int) (w : World) (hv : v.oneCell' = true) (hu : u.oneCell' = true) (hw : wd.oneCell' = true) :
    Calls Tryd.prog 50 #[.agg #[v, u], .int .i64 s, wd] w fun e w' => e = .returned (.func (.func 65) #[] #[.pointer (some ⟨w.heap.size + 1, 0, none⟩), .pointer (some ⟨w.heap.size + 1 + 1, 0, none⟩), .pointer (some ⟨w.heap.size, 0, none⟩)]) ∧
      w' = ((w.alloc (.cells #[v, u] 24)).alloc (.cells #[.int .i64 s] 3)).alloc (.cells #[wd] 27) := by
  go_enter Tryd.func50, Tryd.ntmps50
  go_wp2
  go_ret
  exact ⟨rfl, rfl⟩
set_option maxRecDepth 100000 in
set_option maxHeartbeats 4000000 in
theorem RunY_err (v u q : Value) (m o : List (List Int)) (s : Int) (ul : List Int) (n : Int) (w : World) (h : Rows w v m) (k : Rows w u o) (hq : Ints w q ul) (hn : chkE m o s ul = n) (h0 : n ≠ 0) :
    Calls Tryd.prog 29 #[.agg #[v, u], .int .i64 s, q] w (RunErr n w) := by
  obtain ⟨A, cap, rfl, hml, hcm⟩ := id h
  obtain ⟨B, cbp, rfl, hol, hco⟩ := id k
  obtain ⟨Aq, cq, rfl, hql, hcq⟩ := id hq
  clear hcm hco hcq
  have hX := bal (bal (Below.refl _ w) (.cells #[.slice A m.length cap, .slice B o.length cbp] 24)) (.cells #[.int .i64 s] 3)
  have hE0 := cells_two _ _ _ _ _ (World.alloc_heap_new w (.cells #[.slice A m.length cap, .slice B o.length cbp] 24))
  have hB1 := bal (Below.refl _ (w.alloc (.cells #[.slice A m.length cap, .slice B o.length cbp] 24))) (.cells #[.int .i64 s] 3)
  have z1 := (hB1.cell (World.block_lt_of_cell? _ _ hE0.1)).trans hE0.1
  have z2 := (hB1.cell (World.block_lt_of_cell? _ _ hE0.2.1)).trans hE0.2.1
  have hne : (n != 0) = true := by simpa using h0
  have hC := checked_is _ _ _ m o s ul n _ (h.below hX) (k.below hX) (hq.below hX) hn
  clear hn hB1 hE0 h0
  refine (callsIn_wide (n := 0)).1 ?_
  refine callsIn_of_wp_marks Tryd.func29 rfl trivial ?_ rfl
  simp only [Tryd.ntmps29, List.size_toArray, List.length_cons, List.length_nil, Nat.reduceAdd, Nat.reduceSub, Array.replicate_succ, Array.replicate_zero, List.push_toArray, List.append_toArray, List.nil_append, List.cons_append]
  refine wpIn_wide.2 ?_
  go_wp2_with fail
  refine hC.mono ?_
  rintro e w1 ⟨rfl, hb1⟩
  go_wp2
  (try simp only [Exit.inBlock, Exit.then])
  exact ⟨_, results_tmp3 rfl _ _ _, rfl, btr hX hb1⟩
theorem Keep.less {n n' : Nat} {X : Blocks} {W W' : World} (h : Keep n X W W') (hn : n' ≤ n) : Keep n' X W W' := ⟨h.os, h.tape, h.output, h.size, fun k hk hc => h.block k hk (hc.imp (fun e => by omega) id)⟩
set_option maxRecDepth 100000 in
set_option maxHeartbeats 4000000 in
theorem RunY_ok (v u q : Value) (m o : List (List Int)) (s : Nat) (ul : List Int) (w : World) (h : Rows w v m) (k : Rows w u o) (hq : Ints w q ul) (hv : validY m o = true) (hs : s < m.length) (hw : isWordM m ul = true) :
    Calls Tryd.prog 29 #[.agg #[v, u], .int .i64 (s : Nat), q] w (RunIs m o s ul w) := by
  obtain ⟨j0, hj, hy0, hy1, hy2⟩ := info_parts infoInt
  have hul : ul.length ≤ 40000 ∧ ul.all (inB 0 ((letters m : Int) - 1)) = true := by simpa [isWordM] using hw
  have hlen := hul.1
  have Hul := hid hul.2
  have hn : chkE m o (s : Nat) ul = 0 := by
    unfold chkE
    rw [if_pos hv, if_pos]
    simp [hw, stateM, inB]; omega
  obtain ⟨A, cap, rfl, hml, hcm⟩ := id h
  obtain ⟨B, cbp, rfl, hol, hco⟩ := id k
  obtain ⟨Aq, cq, rfl, hql, hcq⟩ := id hq
  clear hcm hco hcq hul
  have Hv := hid hv
  have Hw := hid hw
  have hX := bal (bal (Below.refl _ w) (.cells #[.slice A m.length cap, .slice B o.length cbp] 24)) (.cells #[.int .i64 (s : Nat)] 3)
  have hE0 := cells_two _ _ _ _ _ (World.alloc_heap_new w (.cells #[.slice A m.length cap, .slice B o.length cbp] 24))
  have hB1 := bal (Below.refl _ (w.alloc (.cells #[.slice A m.length cap, .slice B o.length cbp] 24))) (.cells #[.int .i64 (s : Nat)] 3)
  have z1 := (hB1.cell (World.block_lt_of_cell? _ _ hE0.1)).trans hE0.1
  have z2 := (hB1.cell (World.block_lt_of_cell? _ _ hE0.2.1)).trans hE0.2.1
  have z3 := Boxed.new (w.alloc (.cells #[.slice A m.length cap, .slice B o.length cbp] 24)) 3 (.int .i64 (s : Nat))
  simp only [World.size_alloc] at z3
  have hsz : ((w.alloc (.cells #[.slice A m.length cap, .slice B o.length cbp] 24)).alloc (.cells #[.int .i64 (s : Nat)] 3)).heap.size = w.heap.size + 2 := by simp
  have hC := checked_is _ _ _ m o (s : Nat) ul 0 _ (h.below hX) (k.below hX) (hq.below hX) hn
  have HX := hid hX
  clear hn hB1 hE0 hv hw hX
  refine (callsIn_wide (n := 0)).1 ?_
  refine callsIn_of_wp_marks Tryd.func29 rfl trivial ?_ rfl
  simp only [Tryd.ntmps29, List.size_toArray, List.length_cons, List.length_nil, Nat.reduceAdd, Nat.reduceSub, Array.replicate_succ, Array.replicate_zero, List.push_toArray, List.append_toArray, List.nil_append, List.cons_append]
  refine wpIn_wide.2 ?_
  go_wp2_with fail
  refine hC.mono ?_
  clear hC
  rintro e w1 ⟨rfl, hb1⟩
  have y1 := (hb1.cell (World.block_lt_of_cell? _ _ z1)).trans z1
  have y2 := (hb1.cell (World.block_lt_of_cell? _ _ z2)).trans z2
  have y3 : Boxed w1 (w.heap.size + 1) 3 (.int .i64 (s : Nat)) := (hb1.block _ (by omega)).trans z3
  have hw1 := btr HX.out hb1
  have hs1 : w.heap.size + 2 ≤ w1.heap.size := by have := hb1.size; omega
  clear z1 z2 z3 hb1 hsz
  go_wp2_with (at_make; refine wpList_make_own _ rfl _ _ 27 rfl w1.heap.size 3 j0 (.int .i64 0) 1 Tryd.underlying27 hj hy0 hy1 .i64 .i64 _ ul.length rfl rfl rfl (by rw [hy2]; omega) (by unfold maxLen; omega) (Nat.le_refl _) ?_; intro w2 hown hgrow; have hb2 := (Below.refl w1.heap.size w1).grown hgrow (Nat.le_refl _) (fun k e => by cases e); have hbY := bal hb2 (.cells #[.slice (some ⟨w1.heap.size, 0, none⟩) 0 ul.length] 27); have t1 := (hbY.cell (World.block_lt_of_cell? _ _ y1)).trans y1; have t2 := (hbY.cell (World.block_lt_of_cell? _ _ y2)).trans y2; have t3 : Boxed (w2.alloc (.cells #[.slice (some ⟨w1.heap.size, 0, none⟩) 0 ul.length] 27)) (w.heap.size + 1) 3 (.int .i64 (s : Nat)) := (hbY.block _ (by omega)).trans y3; have t3c := t3.cell; have hoY := hown.alloc (.cells #[.slice (some ⟨w1.heap.size, 0, none⟩) 0 ul.length] 27); have q10 := Boxed.new w2 27 (.slice (some ⟨w1.heap.size, 0, none⟩) 0 ul.length); have hsz2 := hb2.size; have hszY : (w2.alloc (.cells #[.slice (some ⟨w1.heap.size, 0, none⟩) 0 ul.length] 27)).heap.size = w2.heap.size + 1 := World.size_alloc _ _; have HbY := hid hbY; have HoY := hid hoY; have T3 := hid t3; have Q10 := hid q10; clear y1 y2 y3 hown hgrow hbY hoY t3 q10 hb2)
  generalize hYY : w2.alloc (.cells #[.slice (some ⟨w1.heap.size, 0, none⟩) 0 ul.length] 27) = Y at *
  generalize hb10 : w2.heap.size = b10 at *
  have hlt10 : b10 < Y.heap.size := by omega
  clear hszY
  refine (outputs_fn (.slice A m.length cap) (.slice B o.length cbp) (.slice Aq ul.length cq) (s : Nat) Y rfl rfl rfl).mono ?_
  rintro e w3 ⟨rfl, rfl⟩
  have c0 := cells_two _ _ _ _ _ (World.alloc_heap_new Y (.cells #[.slice A m.length cap, .slice B o.length cbp] 24))
  have p2 := Boxed.new (Y.alloc (.cells #[.slice A m.length cap, .slice B o.length cbp] 24)) 3 (.int .i64 (s : Nat))
  have p3 := Boxed.new ((Y.alloc (.cells #[.slice A m.length cap, .slice B o.length cbp] 24)).alloc (.cells #[.int .i64 (s : Nat)] 3)) 27 (.slice Aq ul.length cq)
  have hbM := bal (bal (Below.refl _ (Y.alloc (.cells #[.slice A m.length cap, .slice B o.length cbp] 24))) (.cells #[.int .i64 (s : Nat)] 3)) (.cells #[.slice Aq ul.length cq] 27)
  have c1 := (hbM.cell (World.block_lt_of_cell? _ _ c0.1)).trans c0.1
  have c2 := (hbM.cell (World.block_lt_of_cell? _ _ c0.2.1)).trans c0.2.1
  have p2 := p2.alloc (.cells #[.slice Aq ul.length cq] 27)
  have hbT := bal (bal (bal (Below.refl _ Y) (.cells #[.slice A m.length cap, .slice B o.length cbp] 24)) (.cells #[.int .i64 (s : Nat)] 3)) (.cells #[.slice Aq ul.length cq] 27)
  have t3 : Boxed (((Y.alloc (.cells #[.slice A m.length cap, .slice B o.length cbp] 24)).alloc (.cells #[.int .i64 (s : Nat)] 3)).alloc (.cells #[.slice Aq ul.length cq] 27)) (w.heap.size + 1) 3 (.int .i64 (s : Nat)) := (hbT.block _ (by omega)).trans T3.out
  have q10 : Boxed (((Y.alloc (.cells #[.slice A m.length cap, .slice B o.length cbp] 24)).alloc (.cells #[.int .i64 (s : Nat)] 3)).alloc (.cells #[.slice Aq ul.length cq] 27)) b10 27 (.slice (some ⟨w1.heap.size, 0, none⟩) 0 ul.length) := (hbT.block _ (by omega)).trans Q10.out
  have ho0 := ((HoY.out.alloc (.cells #[.slice A m.length cap, .slice B o.length cbp] 24)).alloc (.cells #[.int .i64 (s : Nat)] 3)).alloc (.cells #[.slice Aq ul.length cq] 27)
  have hTs : (((Y.alloc (.cells #[.slice A m.length cap, .slice B o.length cbp] 24)).alloc (.cells #[.int .i64 (s : Nat)] 3)).alloc (.cells #[.slice Aq ul.length cq] 27)).heap.size = Y.heap.size + 3 := by simp only [World.size_alloc]
  have yT := btr hw1 (HbY.out.trans (hbT.mono HbY.out.size))
  simp only [World.size_alloc] at p2 p3 c1 c2
  clear hbM hbT c0 t1 t2 t3c HbY HoY T3 Q10
  generalize (((Y.alloc (.cells #[.slice A m.length cap, .slice B o.length cbp] 24)).alloc (.cells #[.int .i64 (s : Nat)] 3)).alloc (.cells #[.slice Aq ul.length cq] 27)) = T at *
  have hXT : ∀ k, (k = Y.heap.size ∨ k = Y.heap.size + 1 ∨ k = Y.heap.size + 1 + 1) → k < T.heap.size := fun k hk => by omega
  have hseq := outputs_seq (.slice A m.length cap) (.slice B o.length cbp) (.slice Aq ul.length cq) m o s ul (Y.heap.size + 1) (Y.heap.size + 1 + 1) Y.heap.size w.heap.size T (fun k => k = Y.heap.size ∨ k = Y.heap.size + 1 ∨ k = Y.heap.size + 1 + 1) Hv.out hs Hul.out (.inr (.inl rfl)) (.inr (.inr rfl)) (.inl rfl) hXT (fun W hK => have hb := yT.trans (hK.below yT.size); ⟨h.below hb, k.below hb, hq.below hb⟩) p2.cell p3.cell c1 c2
  have hol2 : ∀ j, (outsM m o s (ul.take j)).length = min j ul.length := fun j => by rw [outsM_length]; simp
  have Hol := hid hol2
  clear hol2
  go_wp2_with fail
  refine (wpIn_wide (n := 0)).1 ?_
  refine range_lawO (gf := 65) (fb := #[]) (lb := #[.pointer (some ⟨Y.heap.size + 1, 0, none⟩), .pointer (some ⟨Y.heap.size + 1 + 1, 0, none⟩), .pointer (some ⟨Y.heap.size, 0, none⟩)]) rfl (enters_of Tryd.func65 (by kernel_rfl) rfl)
    hseq hXT (fun _ _ _ _ _ _ => trivial) yT.size (Below.refl _ _) (fun _ => rfl)
    (fun X pre W => MineRow (w.heap.size + 2) X W b10 27 3 ((outsM m o s (ul.take pre.length)).map fun x => Value.int .i64 x) ∧ (Mine X W (w.heap.size + 1) 3 (.int .i64 (runM m s (ul.take pre.length) : Nat)) ∧ Base w.heap.size w X W))
    (fun _ _ _ _ => False)
    (Stable.and (stable_row _ _ _ _ _ (fun pre : List Nat => (outsM m o s (ul.take pre.length)).map fun x => Value.int .i64 x)) (Stable.and (stable_box _ _ _ (fun pre : List Nat => .int .i64 (runM m s (ul.take pre.length) : Nat))) (stable_base _ _ _ yT.size (Nat.le_refl _))))
    (fun _ _ _ _ _ _ hs _ _ _ _ _ _ => hs)
    ⟨⟨_, ⟨q10, fun h => by omega⟩, row_mono (base := w1.heap.size) ho0 (by omega), fun j hj h => by have e : w1.heap.size = j := (by cases hj; rfl); omega⟩, ⟨t3, fun h => by omega⟩, ⟨fun k hk => by omega, yT⟩⟩
    (fun i a' _ => a' = { tmps := #[.agg #[.slice A m.length cap, .slice B o.length cbp], .int .i64 (s : Nat), .slice Aq ul.length cq, .pointer (some ⟨w.heap.size, 0, none⟩), .pointer (some ⟨w.heap.size + 1, 0, none⟩), undef, .slice none 0 0, .int .i64 0, .int .i64 0, .int .i64 0, .pointer (some ⟨b10, 0, none⟩), .int .i64 (ox o (runM m s (ul.take i)) (ul.getD i 0)), .int .i64 (runM m s (ul.take (i + 1)) : Nat), .agg #[.slice A m.length cap, .slice B o.length cbp], .int .i64 (s : Nat), .slice Aq ul.length cq, .int .i64 0, .int .i64 0, .bool false, undef, .slice Aq ul.length cq, .int .i64 ul.length, .slice (some ⟨w1.heap.size, 0, none⟩) 0 ul.length, .agg #[.slice A m.length cap, .slice B o.length cbp], .int .i64 (s : Nat), .slice Aq ul.length cq, .func (.func 65) #[] #[.pointer (some ⟨Y.heap.size + 1, 0, none⟩), .pointer (some ⟨Y.heap.size + 1 + 1, 0, none⟩), .pointer (some ⟨Y.heap.size, 0, none⟩)], .int .i64 (ox o (runM m s (ul.take i)) (ul.getD i 0)), .int .i64 (runM m s (ul.take (i + 1)) : Nat), undef, undef, undef, undef, undef, undef, undef], defers := [] })
    (fun _ _ _ _ _ _ _ hs _ _ _ _ _ _ => hs) ?assign ?body ?done ?stop
  case assign =>
    intro l X pre x W K' hi hK'
    unfold encR
    gi_wp2
    exact hK' _ _ (KeepsFrom.refl _ _) (Keep.refl _ _ _) hi rfl
  case body =>
    rintro l X pre i a' W hl hrec hXl hXs ⟨⟨v, hm, ho, hx⟩, hb3, hB⟩ _ rfl hsp
    obtain ⟨k', hk', hkr⟩ := hsp
    have hkk : k' = pre.length + 1 ∧ i = pre.length := by
      have hl2 := congrArg List.length hkr
      simp at hl2
      refine ⟨hl2.symm, ?_⟩
      have h2 := congrArg (fun l => l[pre.length]?) hkr
      rw [← hl2] at h2
      simpa using h2
    obtain ⟨rfl, rfl⟩ := hkk
    have hpl : pre.length < ul.length := by omega
    have hmc := hm.cell
    have hBs := hB.2.size
    have hln := Hol.out pre.length
    have hsn := outsM_snoc m o s ul pre.length hpl
    generalize hou : outsM m o s (ul.take pre.length) = ou at *
    generalize ox o (runM m s (ul.take pre.length)) (ul.getD pre.length 0) = z at *
    generalize hrr : (runM m s (ul.take (pre.length + 1))) = rr at *
    have Hrr := hid hrr
    have Hsn := hid hsn
    have hlt3 := hb3.lt
    clear hrr hsn hou
    rw [List.length_map] at ho
    have hoLe : ou.length ≤ 40000 := by omega
    clear hln
    gi_wp2_with (gi_at_builtin; go_must (refine wpListIn_append_own_at _ rfl _ _ 27 rfl (w.heap.size + 2) 3 j0 (.int .i64 0) 1 8 Tryd.underlying27 hj hy0 hy1 hy2 rfl (by decide) _ _ _ rfl (ho.alloc _) ⟨W.heap.size, 0, none⟩ 1 1 [.int .i64 z] rfl rfl (cell_one_new _ _ _) (by simp [Value.oneCell']) (by unfold maxLen; omega) (by omega) (by simp; omega) ?_); intro v' w5 hown' hgrow' _ hat; obtain ⟨g', cap', rfl⟩ := ownsRow_succ hown'; obtain ⟨r1, r2, r3, r4, r5, r6⟩ := MineRow.appended (e := 3) (xs := ou.map fun x => Value.int .i64 x) (ys := (ou ++ [z]).map fun x => Value.int .i64 x) hm (by simpa using ho) hx (by decide) (by omega) (by omega) hXs (by simpa using hown') hgrow' hat; have hc1 := r1.cell; have hf1 := r1.frozen; have k3 : Mine X (w5.setCell ⟨b10, 0, none⟩ (.slice (some ⟨g', 0, none⟩) (ou.length + 1) cap')) (w.heap.size + 1) 3 _ := ⟨(r5.block _ hlt3 (.inl (by omega))).trans hb3.1, hb3.2⟩; have k3c := k3.cell; have k3f := k3.frozen)
    refine ⟨(r3.from _).trans (kf_set _ _ _ _), (r5.less (by omega)).trans (keep_set _ _ _ (by omega) hb3.2), ?_, ?_, hB.step ((r4.mono (by omega)).setCell (p := ⟨w.heap.size + 1, 0, none⟩) (by show w.heap.size ≤ w.heap.size + 1; omega) _)⟩
    · rw [show (pre ++ [pre.length]).length = pre.length + 1 by simp, Hsn.out]
      obtain ⟨v2, m2, o2, x2⟩ := r2
      have o2b := row_blk2 o2
      exact ⟨v2, m2.other (by omega) _, ownsRow_same o2 (fun g hg => Below.heap_setCell _ _ _ _ (by have := (o2b g hg).1; simp; omega)), x2⟩
    · rw [show (pre ++ [pre.length]).length = pre.length + 1 by simp, Hrr.out]
      exact k3.set _
  case done =>
    rintro D X xs W hD rfl ⟨⟨v, hm, ho, hx⟩, hb3, hB⟩ hK'
    rw [List.length_range, List.take_length] at *
    have hmc := hm.cell
    have hbc := hb3.cell
    obtain ⟨rA, rn, rc, rfl⟩ : ∃ A k c, v = .slice A k c := by
      rcases ho.2 with ⟨hu, h0⟩ | ⟨g, cap, cur, hu, hg, hh, _⟩
      · exact ⟨none, 0, 0, hu⟩
      · exact ⟨_, _, cap, hu⟩
    gi_wp2_with fail
    go_upto_region 10 with fail
    refine wp_region_pure (c := fun i => ([.slice rA rn rc, .int .i64 (runM m s ul : Nat), .slice rA rn rc, .int .i64 (runM m s ul : Nat), .int .i64 0] : List Value).getD i undef) (R := fun W' => W' = W.drew) rfl (by kernel_rfl) (by kernel_rfl) (by kernel_rfl) ?_ ?_ ?_
    · rfl
    · refine ⟨?_, ?_, ?_, ?_, ?_, trivial⟩
      · intro F W hR hold hnew
        have f10 : F.eval (.tmp 10) = .pointer (some ⟨b10, 0, none⟩) := (hold 10 (by kernel_rfl)).trans (by kernel_rfl)
        simp [Act.eval] at f10
        have q0 : W.cell? ⟨b10, 0, none⟩ = some (.slice rA rn rc) := by rw [hR]; exact hmc
        rw [if_neg (by decide)]
        exact opv_run rfl W (by simp [execOp, go_sem, f10, q0]) hR
      · intro F W hR hold hnew
        have f4 : F.eval (.tmp 4) = .pointer (some ⟨w.heap.size + 1, 0, none⟩) := (hold 4 (by kernel_rfl)).trans (by kernel_rfl)
        simp [Act.eval] at f4
        have q0 : W.cell? ⟨w.heap.size + 1, 0, none⟩ = some (.int .i64 (runM m s ul : Nat)) := by rw [hR]; exact hbc
        rw [if_neg (by decide)]
        exact opv_run rfl W (by simp [execOp, go_sem, f4, q0]) hR
      · intro F W hR hold hnew
        have f34 : F.eval (.tmp 34) = .slice rA rn rc := hnew 0 34 (by kernel_rfl) (by kernel_rfl)
        simp [Act.eval] at f34
        rw [if_neg (by decide)]
        exact opv_run rfl W (by simp [execOp, go_sem, f34]) hR
      · intro F W hR hold hnew
        have f35 : F.eval (.tmp 35) = .int .i64 (runM m s ul : Nat) := hnew 1 35 (by kernel_rfl) (by kernel_rfl)
        simp [Act.eval] at f35
        rw [if_neg (by decide)]
        exact opv_run rfl W (by simp [execOp, go_sem, f35]) hR
      · intro F W hR hold hnew
        rw [if_neg (by decide)]
        exact opv_run rfl W (by simp [execOp, go_sem, ]) hR
    · rintro W9 rfl
      simp only [framedFrom, Act.put, List.setIfInBounds_toArray, List.set_cons_succ, List.set_cons_zero]
      go_wp2
      (try simp only [Exit.inBlock, Exit.then])
      refine ⟨by simp, .inl ⟨_, _, rfl, run_takeDeferred (w := W.drew) hK', ?_⟩⟩
      refine ⟨_, results_tmp3 rfl _ _ _, .slice rA rn rc, rfl, ?_, (hB.2.drew).trans (belowK_b (w := w) (Nat.le_refl _) W.drew D _ _ (by have := yT.size; omega) hK' rfl rfl)⟩
      have hr := ownsRow_putObj (W := W.drew) (row_mono (base' := w.heap.size) ho (by omega)) (.deferred none) hK' rfl
      rw [List.length_map, outsM_length] at hr
      exact hr
  case stop =>
    rintro D X c pre W _ _ h _
    exact h.elim
end Go.Proofs.YtbhhemidnmaodaaDoor
namespace Go.Proofs.YtbhhemidnmaodaaDoor
open Go.RowKit Go.Shelf
/-- Yes or no. -/
def SomeB (w : World) (e : Ending) (w' : World) : Prop := ∃ b : Bool, e = .returned (.bool b) ∧ Below w.heap.size w w'
set_option maxRecDepth 100000 in
set_option maxHeartbeats 1000000 in
theorem wide_any (v : Value) (m : List (List Int)) (w : World) (h : Rows w v m) :
    Calls Tryd.prog 33 #[v] w (SomeB w) := by
  obtain ⟨A, cap, rfl, hml, hcm⟩ := h
  unfold big at hml
  have Hcm := hid hcm
  clear hcm
  go_enter Tryd.func33, Tryd.ntmps33
  go_wp2
  go_loop [3] (fun i => ∃ k : Nat, k ≤ 100 ∧ i = .int .i64 k) (fun i => 100 - (intOf i).toNat)
  case atStart => exact ⟨0, Nat.zero_le _, rfl⟩
  case round =>
    obtain ⟨k, hk, rfl⟩ := hrel
    by_cases h1 : k < m.length
    · have hb1 : decide ((k : Int) < m.length) = true := by simp; omega
      have hb1' : (k : Int) < m.length := by omega
      by_cases h2 : k < 100
      · have hb2 : (k : Int) < 100 := by omega
        obtain ⟨b, off, r, rfl, hc, hr⟩ := Hcm.out k h1
        obtain ⟨Ar, cr, rfl, hrl, _⟩ := hr
        unfold big at hrl
        by_cases h3 : (m.getD k []).length ≤ 100
        · have hb3 : ¬ ((100 : Int) < (m.getD k []).length) := by omega
          generalize (m.getD k []).length = rl at *
          go_wp2
          go_round
          case rel => exact ⟨k + 1, by omega, by go_num⟩
          case measure => simp [intOf]; omega
        · have hb3 : (100 : Int) < (m.getD k []).length := by omega
          generalize (m.getD k []).length = rl at *
          go_wp2
          go_ret
          exact ⟨_, rfl, Below.refl _ _⟩
      · have hb2 : ¬ ((k : Int) < 100) := by omega
        go_wp2
        go_ret
        exact ⟨_, rfl, Below.refl _ _⟩
    · have hb1 : decide ((k : Int) < m.length) = false := by simp; omega
      have hb1' : ¬ ((k : Int) < m.length) := by omega
      go_wp2
      go_ret
      exact ⟨_, rfl, Below.refl _ _⟩
set_option maxRecDepth 100000 in
set_option maxHeartbeats 1000000 in
theorem Wide_any (v u : Value) (m o : List (List Int)) (w : World) (h : Rows w v m) (k : Rows w u o) :
    Calls Tryd.prog 11 #[.agg #[v, u]] w (SomeB w) := by
  obtain ⟨A, cap, rfl, hml, hcm⟩ := id h
  obtain ⟨B, cbp, rfl, hol, hco⟩ := id k
  clear hcm hco
  have b1 := bal (Below.refl _ w) (.cells #[.slice A m.length cap, .slice B o.length cbp] 24)
  have h1 := h.below b1
  have k1 := k.below b1
  have z1 : (w.alloc (.cells #[.slice A m.length cap, .slice B o.length cbp] 24)).cell? ⟨w.heap.size, 0, none⟩ = some (.slice A m.length cap) := by simp [go_sem]
  have z2 : (w.alloc (.cells #[.slice A m.length cap, .slice B o.length cbp] 24)).cell? ⟨w.heap.size, 1, none⟩ = some (.slice B o.length cbp) := by simp [go_sem]
  go_enter Tryd.func11, Tryd.ntmps11
  go_wp2_with fail
  refine (wide_any _ m _ h1).mono ?_
  rintro e w1 ⟨b, rfl, hb1⟩
  have z1 := (hb1.cell (World.block_lt_of_cell? _ _ z1)).trans z1
  have z2 := (hb1.cell (World.block_lt_of_cell? _ _ z2)).trans z2
  have k1 := k1.below hb1
  have b1 := btr b1 hb1
  cases b with
  | true =>
    go_wp2
    go_ret
    exact ⟨_, rfl, b1⟩
  | false =>
    go_wp2_with fail
    refine (wide_any _ o _ k1).mono ?_
    rintro e w2 ⟨b2, rfl, hb2⟩
    go_wp2
    go_ret
    exact ⟨_, rfl, btr b1 hb2⟩
theorem chk_cases (m o : List (List Int)) (s : Int) (u : List Int) : chkE m o s u = 1 ∨ chkE m o s u = 2 ∨ (chkE m o s u = 0 ∧ validY m o = true ∧ (∃ k : Nat, s = k ∧ k < m.length) ∧ isWordM m u = true) := by
  unfold chkE
  cases hv : validY m o with
  | false => left; simp
  | true =>
    rw [if_pos rfl]
    cases hs : stateM m s with
    | false => right; left; simp
    | true =>
      cases hw : isWordM m u with
      | false => right; left; simp
      | true =>
        right; right
        refine ⟨by simp, rfl, ?_, rfl⟩
        simp [stateM, inB] at hs
        exact ⟨s.toNat, by omega, by omega⟩
/-- Run, whatever comes in. -/
def RunAny (m o : List (List Int)) (s : Int) (l : List Int) (w : World) (e : Ending) (w' : World) : Prop :=
  ∃ r : Value, ∃ t n : Int, e = .returned (.tuple #[r, .int .i64 t, .int .i64 n]) ∧ n = chkE m o s l ∧ Below w.heap.size w w' ∧ (n ≠ 0 → r = .slice none 0 0 ∧ t = 0) ∧ (n = 0 → t = (runM m s.toNat l : Nat) ∧ w'.ownsRow w.heap.size 3 1 r l.length ((outsM m o s.toNat l).map fun x => .int .i64 x))
theorem RunY_any (v u q : Value) (m o : List (List Int)) (s : Int) (ul : List Int) (w : World) (h : Rows w v m) (k : Rows w u o) (hq : Ints w q ul) :
    Calls Tryd.prog 29 #[.agg #[v, u], .int .i64 s, q] w (RunAny m o s ul w) := by
  rcases chk_cases m o s ul with h1 | h1 | ⟨h1, hv, ⟨j, rfl, hj⟩, hw⟩
  · refine (RunY_err v u q m o s ul 1 w h k hq h1 (by decide)).mono ?_
    rintro e w' ⟨rfl, hb⟩
    exact ⟨_, 0, 1, rfl, h1.symm, hb, fun _ => ⟨rfl, rfl⟩, fun h => by omega⟩
  · refine (RunY_err v u q m o s ul 2 w h k hq h1 (by decide)).mono ?_
    rintro e w' ⟨rfl, hb⟩
    exact ⟨_, 0, 2, rfl, h1.symm, hb, fun _ => ⟨rfl, rfl⟩, fun h => by omega⟩
  · refine (RunY_ok v u q m o j ul w h k hq hv hj hw).mono ?_
    rintro e w' ⟨r, rfl, ho, hb⟩
    exact ⟨r, _, 0, rfl, h1.symm, hb, fun h => absurd rfl h, fun _ => ⟨rfl, ho⟩⟩
theorem own_sl {w : World} {B : Nat} {e : TypeId} {v : Value} {n : Nat} {xs : List Value} (h : w.ownsRow B e 1 v n xs) : ∃ A c, v = .slice A n c ∧ (A = none → c = 0) := by
  rcases h.2 with ⟨rfl, rfl⟩ | ⟨g, cap, cur, rfl, _⟩
  · exact ⟨none, 0, rfl, fun _ => rfl⟩
  · exact ⟨_, cap, rfl, fun e => by cases e⟩
theorem outs_len {m o : List (List Int)} (s : Nat) (l : List Int) (w : World) {B : Nat} {r : Value} (h : w.ownsRow B 3 1 r l.length ((outsM m o s l).map fun x => .int .i64 x)) (hl : l.length ≤ 40000) : Ints w r (outsM m o s l) := by
  refine Ints.of_own (n₀ := B) (e := 3) ?_ (by rw [outsM_length]; unfold big; omega)
  rw [outsM_length]; exact h
theorem parts_code {m o : List (List Int)} {k : Nat} {u v : List Int} (hv : validY m o = true) (hk : k < m.length) (hu : isWordM m u = true) (hl : u.length ≤ 1000) (hl2 : v.length ≤ 1000) : chkE m o (k : Nat) (u ++ v) = chkE m o (runM m k u : Nat) v := by
  simp only [isWordM, Bool.and_eq_true, decide_eq_true_eq] at hu
  have h1 := runM_lt (validY_m hv) u k hk hu.2
  unfold chkE
  rw [if_pos hv, if_pos hv]
  have e1 : stateM m (k : Nat) = true := by simp [stateM, inB]; omega
  have e2 : stateM m (runM m k u : Nat) = true := by simp [stateM, inB]; omega
  rw [e1, e2]
  simp only [isWordM, List.all_append, hu.2, Bool.true_and]
  have a1 : decide ((u ++ v).length ≤ 40000) = true := by simp; omega
  have a2 : decide (v.length ≤ 40000) = true := by simp; omega
  rw [a1, a2]
end Go.Proofs.YtbhhemidnmaodaaDoor
namespace Go.Proofs.YtbhhemidnmaodaaDoor
open Go.RowKit
section
variable {P : Program} {Q : Exit → Act → World → Prop} {a : Act} {l : List Oper} {c : Nat → Option Value} {St : (Nat → Bool) → (Nat → Value) → World → Prop} {D : List Nat}
structure IG (l : List Oper) (c : Nat → Option Value) (St : (Nat → Bool) → (Nat → Value) → World → Prop) (L : Nat → Bool) (u : Nat → Value) (W : World) : Prop where
  val : ∀ i z, c i = some z → L i = true → u i = z
  clo : ∀ i o, l[i]? = some o → L i = true → ∀ e ∈ o.after, Region.binds .any e = true → L e.on = true
  st : St L u W
def GenStep (P : Program) (Q : Exit → Act → World → Prop) (a : Act) (l : List Oper) (c : Nat → Option Value) (St : (Nat → Bool) → (Nat → Value) → World → Prop) (D : List Nat) (i : Nat) (o : Oper) : Prop :=
  ∀ (L : Nat → Bool) (u : Nat → Value) (F : Act) (W : World), L i = false → St L u W → (∀ i o, l[i]? = some o → L i = true → ∀ e ∈ o.after, Region.binds .any e = true → L e.on = true) → (∀ j, depB o j = true → L j = true) →
    (∀ s, (l.all fun o => o.dst != some s) = true → F.eval (.tmp s) = a.tmps.getD s undef) → (∀ j d, depB o j = true → l[j]?.bind (·.dst) = some d → F.eval (.tmp d) = u j) → (∀ j z, c j = some z → L j = true → u j = z) →
    if D.contains i = true then (∀ (ops : Array Oper) (K : Act → World → Prop), (∀ v w', St (updB L i) (updV u i v) w' → K (F.put o.dst v) w') → if Region.wanted o (yielded ops F.tmps) = true then Oper.wp P o F W K Q else K (F.put o.dst undef) W) else ∃ z, c i = some z ∧ o.guard = none ∧ (execOp F.eval o).run P W = .ok (.value z) W
def GenFrom (P : Program) (Q : Exit → Act → World → Prop) (a : Act) (l : List Oper) (c : Nat → Option Value) (St : (Nat → Bool) → (Nat → Value) → World → Prop) (D : List Nat) : Nat → List Oper → Prop
  | _, [] => True
  | i, o :: r => GenStep P Q a l c St D i o ∧ GenFrom P Q a l c St D (i + 1) r
theorem dep_of' {L : Nat → Bool} {o : Oper} (hpre : ∀ e ∈ o.after, Region.binds .any e = true → L e.on = true) {j : Nat} (hd : depB o j = true) : L j = true := by
  simp only [depB, Array.any_eq_true] at hd
  obtain ⟨q, hq, he⟩ := hd
  rw [Bool.and_eq_true, beq_iff_eq] at he
  have := hpre _ (Array.getElem_mem hq) he.2
  rwa [he.1] at this
theorem GenFrom.inv (hd : dstsApart l = true) (hsz : (l.all fun o => match o.dst with | some d => decide (d < a.tmps.size) | none => true) = true) (hD : ∀ i ∈ D, c i = none) (hSt : ∀ (i : Nat) (z : Value) (L : Nat → Bool) (u : Nat → Value) (W : World), D.contains i = false → St L u W → St (updB L i) (updV u i z) W) :
    ∀ (r : List Oper) (k : Nat), (∀ i, r[i]? = l[k + i]?) → GenFrom P Q a l c St D k r → InvFrom P Q a l (IG l c St) k r
  | [], _, _, _ => trivial
  | o :: r, k, hr, h => by
    refine ⟨?_, GenFrom.inv hd hsz hD hSt r (k + 1) (fun i => by have := hr (i + 1); rw [List.getElem?_cons_succ] at this; rw [this]; congr 1; omega) h.2⟩
    have hk : l[k]? = some o := by have := hr 0; simp at this; exact this.symm
    intro L u W hL hpre hI K hK
    have hold : ∀ s, (l.all fun o => o.dst != some s) = true → (framedFrom a u 0 l).eval (.tmp s) = a.tmps.getD s undef := fun s hs => framed_old _ _ _ hs
    have hnew : ∀ j d, depB o j = true → l[j]?.bind (·.dst) = some d → (framedFrom a u 0 l).eval (.tmp d) = u j := by
      intro j d hj hdj
      obtain ⟨oj, hoj, hdd⟩ := Option.bind_eq_some_iff.1 hdj
      have h1 := List.all_eq_true.1 hsz oj (List.mem_of_getElem? hoj)
      rw [hdd] at h1
      have h2 := framed_new (u := u) (d := d) l 0 a j hd (by simpa using h1) hdj
      rw [Nat.zero_add] at h2
      exact h2
    have hs := h.1 L u (framedFrom a u 0 l) W hL hI.st hI.clo (fun j hj => dep_of' hpre hj) hold hnew hI.val
    have hclo : ∀ i o', l[i]? = some o' → updB L k i = true → ∀ e ∈ o'.after, Region.binds .any e = true → updB L k e.on = true := by
      intro i o' ho' hi e he hbd
      have : L e.on = true := by
        by_cases e1 : i = k
        · subst e1
          rw [hk] at ho'
          cases ho'
          exact hpre e he hbd
        · rw [updB_ne e1] at hi
          exact hI.clo i o' ho' hi e he hbd
      unfold updB
      split
      · rfl
      · exact this
    cases hDk : D.contains k with
    | true =>
      rw [if_pos hDk] at hs
      refine hs l.toArray K (fun v w' hS => hK v w' ⟨fun i z hz hi => ?_, hclo, hS⟩)
      by_cases e : i = k
      · subst e
        rw [hD i (by simpa using hDk)] at hz; cases hz
      · rw [updB_ne e] at hi
        rw [updV_ne e]
        exact hI.val i z hz hi
    | false =>
      rw [if_neg (by rw [hDk]; decide)] at hs
      obtain ⟨z, hz, hg, hrun⟩ := hs
      refine op_run hg z W hrun (hK z W ⟨fun i y hy hi => ?_, hclo, hSt k z L u W hDk hI.st⟩)
      by_cases e : i = k
      · subst e
        rw [hz] at hy; cases hy; exact updV_self _ _ _
      · rw [updB_ne e] at hi
        rw [updV_ne e]
        exact hI.val i y hy hi
theorem wp_region_gen {id : Nat} {w : World} (c : Nat → Option Value) (D : List Nat) (St : (Nat → Bool) → (Nat → Value) → World → Prop) (hm : P.follows .mixedOrders = true) (hb : backFrom 0 l = true) (hd : dstsApart l = true) (hsz : (l.all fun o => match o.dst with | some d => decide (d < a.tmps.size) | none => true) = true)
    (hD : ∀ i ∈ D, c i = none) (hSt : ∀ (i : Nat) (z : Value) (L : Nat → Bool) (u : Nat → Value) (W : World), D.contains i = false → St L u W → St (updB L i) (updV u i z) W) (h0 : St (fun _ => false) (heldBy a l) w.drew) (hs : GenFrom P Q a l c St D 0 l)
    (hend : ∀ L u W, (∀ i, i < l.length → L i = true) → St L u W → (∀ i z, c i = some z → i < l.length → u i = z) → Q .normal (framedFrom a u 0 l) W) : (Code.region id l.toArray true).wp P Q a w := by
  refine wp_region_inv (I := IG l c St) hm hb hd ⟨fun i z _ h => (by cases h), fun i o _ h => (by cases h), h0⟩ (GenFrom.inv hd hsz hD hSt l 0 (fun i => by rw [Nat.zero_add]) hs) ?_
  intro L u W hL hI
  exact hend L u W hL hI.st (fun i z hz hi => hI.val i z hz (hL i hi))
theorem noL {L : Nat → Bool} (hclo : ∀ i o, l[i]? = some o → L i = true → ∀ e ∈ o.after, Region.binds .any e = true → L e.on = true) {i j : Nat} (hr : (reachO l l.length [j]).contains i = true) (hL : L i = false) : L j = false := by
  cases hj : L j with
  | false => rfl
  | true =>
    have := reachO_sub hclo l.length [j] (fun k hk => by rw [List.mem_singleton.1 hk]; exact hj) i (by simpa using hr)
    rw [hL] at this; cases this
end
end Go.Proofs.YtbhhemidnmaodaaDoor
