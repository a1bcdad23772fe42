/-
  Texts that the proof of the law stands on: Y12, N12, Y13, Round, Y14, N21, Q1, N15, N16, N17, N18, N13, N22, N23, N24, Q8, N25, Q9, Q11, D1, Tb, E1, Y15, N4, R7, N28, D2, Map, E5, D3, E6, E8, L6, L8, K1, K2, F1, E11, D5, E12, E15, E16, Y16, Y17, L4.
-/
import Derived.Test.YtfhcbgdonombaaaDoorSaA
import Derived.Deep.RegionHeld3
import Derived.OrdersIn
import Derived.Deep.Quiet
import Derived.BigQuiet
import Derived.Deep.QuietTactic
import Derived.Deep.RegionHeld
import Derived.Maps.OwnIn
import Derived.Deep.RegionWith
import Derived.Maps.Own
import Derived.Maps.OwnOps
import Derived.Maps.OwnSet
import Derived.Maps.Views
import Derived.Test.YtfhcbgdonombaaaDoorProg
import Derived.WideKeyPair
import Derived.WideKeyEntry
import Derived.WideKeyElems3
import Derived.Maps.Keyed
import Derived.Maps.AppendAt
import Derived.Deep.CutRange
import Derived.Shelf.RegionOpen
import Derived.Deep.DeepMust
namespace Go.Proofs.YtfhcbgdonombaaaDoor
open Go.RowKit Go.Shelf
/-- The error of an automaton whose sets are not to be searched. -/
def smallE (m : List (List Int)) : Int := if validM m = true then (if 12 < m.length then 3 else 0) else 1
theorem smallE_cases (m : List (List Int)) : (validM m = false ∧ smallE m = 1) ∨ (validM m = true ∧ 12 < m.length ∧ smallE m = 3) ∨ (validM m = true ∧ m.length ≤ 12 ∧ smallE m = 0) := by
  unfold smallE
  cases hv : validM m with
  | false => exact .inl ⟨rfl, by simp⟩
  | true =>
    by_cases h : 12 < m.length
    · exact .inr (.inl ⟨rfl, h, by simp [h]⟩)
    · exact .inr (.inr ⟨rfl, by omega, by simp [h]⟩)
set_option maxRecDepth 100000 in
set_option maxHeartbeats 1000000 in
theorem searched_any (v : Value) (m : List (List Int)) (w : World) (c : Int) (h : Rows w v m) (hc : smallE m = c) :
    Calls Tryd.prog 31 #[.agg #[v]] w fun e w' => e = .returned (.int .i64 c) ∧ Below w.heap.size w w' := by
  obtain ⟨A, cap, rfl, hml, -⟩ := id h
  have hX := bal (Below.refl _ w) (.cells #[.slice A m.length cap] 24)
  have hbx := (Boxed.new w 24 (.slice A m.length cap)).cell
  have hr := h.below hX
  go_enter Tryd.func31, Tryd.ntmps31
  go_wp2_with fail
  generalize w.alloc (.cells #[.slice A m.length cap] 24) = X at *
  rcases smallE_cases m with ⟨hv, he⟩ | ⟨hv, h12, he⟩ | ⟨hv, h12, he⟩
  · obtain rfl : c = 1 := by rw [← hc, he]
    clear hc he
    refine (Valid_bool _ m false _ hr hv).mono ?_
    rintro e w1 ⟨rfl, h1⟩
    go_wp2
    go_ret
    exact ⟨rfl, btr hX h1⟩
  · obtain rfl : c = 3 := by rw [← hc, he]
    clear hc he
    refine (Valid_bool _ m true _ hr hv).mono ?_
    rintro e w1 ⟨rfl, h1⟩
    have c1 := (h1.cell (p := ⟨w.heap.size, 0, none⟩) (World.block_lt_of_cell? _ _ hbx)).trans hbx
    have d1 : decide ((12 : Int) < m.length) = true := by simp; omega
    go_wp2
    go_ret
    exact ⟨rfl, btr hX h1⟩
  · obtain rfl : c = 0 := by rw [← hc, he]
    clear hc he
    refine (Valid_bool _ m true _ hr hv).mono ?_
    rintro e w1 ⟨rfl, h1⟩
    have c1 := (h1.cell (p := ⟨w.heap.size, 0, none⟩) (World.block_lt_of_cell? _ _ hbx)).trans hbx
    have d1 : decide ((12 : Int) < m.length) = false := by simp; omega
    go_wp2
    go_ret
    exact ⟨rfl, btr hX h1⟩
/-- Where a letter leads from a set. -/
def imgS (m : List (List Int)) (S x : Nat) : Nat := imgTo m (x : Int) (elems S)
theorem imgS_lt {m : List (List Int)} (hv : validM m = true) {S x : Nat} (hS : S < 2 ^ m.length) (hx : x < letters m) : imgS m S x < 2 ^ m.length :=
  imgTo_lt m _ m.length _ (fun s hs => (nx_ok hv (elems_lt hS hs) (by omega) (by omega)).1)
set_option maxRecDepth 100000 in
set_option maxHeartbeats 400000 in
theorem imgLead_any (A : Option Addr) (cap : Nat) (m : List (List Int)) (ab S x : Nat) (w : World) (hc : w.cell? ⟨ab, 0, none⟩ = some (.slice A m.length cap)) (h : Rows w (.slice A m.length cap) m) (hT : Tab w) (hv : validM m = true) (hS : S < 2 ^ m.length) (hx : x < letters m) :
    Calls Tryd.prog 55 #[.int .u64 (S : Nat), .int .i64 (x : Nat), .pointer (some ⟨ab, 0, none⟩)] w fun e w' => e = .returned (.int .u64 (imgS m S x : Nat)) ∧ Below w.heap.size w w' := by
  go_enter Tryd.func55, Tryd.ntmps55
  go_wp2_with fail
  refine (SetImage_any _ m S x _ hT h hv hS hx).mono ?_
  rintro e w1 ⟨rfl, h1⟩
  go_wp2
  go_ret
  exact ⟨rfl, h1⟩
set_option maxRecDepth 100000 in
set_option maxHeartbeats 400000 in
theorem WordsS_fn (s K : Int) (gf : Nat) (lb : Array Value) (w : World) :
    Calls Tryd.prog 54 #[.int .u64 s, .int .i64 K, .func (.func gf) #[] lb] w fun e w' => e = .returned (.func (.func 68) #[] #[.pointer (some ⟨w.heap.size, 0, none⟩), .pointer (some ⟨w.heap.size + 1, 0, none⟩), .pointer (some ⟨w.heap.size + 1 + 1, 0, none⟩)]) ∧
      w' = ((w.alloc (.cells #[.int .u64 s] 54)).alloc (.cells #[.int .i64 K] 3)).alloc (.cells #[.func (.func gf) #[] lb] 82) := by
  go_enter Tryd.func54, Tryd.ntmps54
  go_wp2
  go_ret
  exact ⟨rfl, rfl⟩
/-- The iterator over the images, and what it holds. -/
def ImagesIs (m : List (List Int)) (A : Option Addr) (cap : Nat) (w : World) (e : Ending) (w' : World) : Prop :=
  ∃ ab b1 b2 b3, e = .returned (.func (.func 68) #[] #[.pointer (some ⟨b1, 0, none⟩), .pointer (some ⟨b2, 0, none⟩), .pointer (some ⟨b3, 0, none⟩)]) ∧
    w'.cell? ⟨ab, 0, none⟩ = some (.slice A m.length cap) ∧ w'.cell? ⟨b1, 0, none⟩ = some (.int .u64 ((2 ^ m.length - 1 : Nat) : Int)) ∧ w'.cell? ⟨b2, 0, none⟩ = some (.int .i64 (letters m : Nat)) ∧
    w'.cell? ⟨b3, 0, none⟩ = some (.func (.func 55) #[] #[.pointer (some ⟨ab, 0, none⟩)]) ∧ w.heap.size ≤ ab ∧ w.heap.size ≤ b1 ∧ w.heap.size ≤ b2 ∧ w.heap.size ≤ b3 ∧ Below w.heap.size w w'
set_option maxRecDepth 100000 in
set_option maxHeartbeats 1000000 in
theorem images_any (A : Option Addr) (cap : Nat) (m : List (List Int)) (w : World) (h : Rows w (.slice A m.length cap) m) (hv : validM m = true) :
    Calls Tryd.prog 32 #[.agg #[.slice A m.length cap]] w (ImagesIs m A cap w) := by
  obtain ⟨p1, p2, -⟩ := valid_parts hv
  obtain ⟨b, off, A0, cap0, hA, hrow0⟩ := row_zero h hv
  subst hA
  have hX := bal (Below.refl _ w) (.cells #[.slice (some ⟨b, off, none⟩) m.length cap] 24)
  have hbx := (Boxed.new w 24 (.slice (some ⟨b, off, none⟩) m.length cap)).cell
  have hin : (0 : Int) < m.length := by omega
  have hin2 : 0 < m.length := by omega
  have hr0 := (hX.cell (p := ⟨b, off, none⟩) (World.block_lt_of_cell? _ _ hrow0)).trans hrow0
  have hXs : w.heap.size + 1 = (w.alloc (.cells #[.slice (some ⟨b, off, none⟩) m.length cap] 24)).heap.size := by simp
  go_enter Tryd.func32, Tryd.ntmps32
  go_wp2_with fail
  generalize w.alloc (.cells #[.slice (some ⟨b, off, none⟩) m.length cap] 24) = X at *
  have keep := hid (fun (w' : World) (hb : Below X.heap.size X w') => show w'.cell? ⟨w.heap.size, 0, none⟩ = some (.slice (some ⟨b, off, none⟩) m.length cap) ∧ w'.cell? ⟨b, off, none⟩ = some (.slice A0 (letters m) cap0) from ⟨(hb.cell (p := ⟨w.heap.size, 0, none⟩) (World.block_lt_of_cell? _ _ hbx)).trans hbx, (hb.cell (p := ⟨b, off, none⟩) (World.block_lt_of_cell? _ _ hr0)).trans hr0⟩)
  go_region_held3 (fun w' => w'.cell? ⟨w.heap.size, 0, none⟩ = some (.slice (some ⟨b, off, none⟩) m.length cap) ∧ w'.cell? ⟨b, off, none⟩ = some (.slice A0 (letters m) cap0)) (first | exact keep.out _ (below_dr X 1) | exact keep.out _ (bal (bal (bal (below_dr X 1) _) _) _) | assumption) (first
    | (go_at_call 48; go_must (refine (Below_any m.length _ p2).mono ?_; rintro e y1 ⟨rfl, rfl⟩))
    | (go_at_call 54; go_must (refine (WordsS_fn _ _ _ _ _).mono ?_; rintro e y1 ⟨rfl, rfl⟩)))
  all_goals go_wp2
  all_goals
    have q1 := ((Boxed.new X 54 (.int .u64 ((2 ^ m.length - 1 : Nat) : Int))).alloc (.cells #[.int .i64 (letters m : Nat)] 3)).alloc (.cells #[.func (.func 55) #[] #[.pointer (some ⟨w.heap.size, 0, none⟩)]] 82)
    have q2 := (Boxed.new (X.alloc (.cells #[.int .u64 ((2 ^ m.length - 1 : Nat) : Int)] 54)) 3 (.int .i64 (letters m : Nat))).alloc (.cells #[.func (.func 55) #[] #[.pointer (some ⟨w.heap.size, 0, none⟩)]] 82)
    have q3 := Boxed.new ((X.alloc (.cells #[.int .u64 ((2 ^ m.length - 1 : Nat) : Int)] 54)).alloc (.cells #[.int .i64 (letters m : Nat)] 3)) 82 (.func (.func 55) #[] #[.pointer (some ⟨w.heap.size, 0, none⟩)])
    have yT := bal (bal (bal (Below.refl _ X) (.cells #[.int .u64 ((2 ^ m.length - 1 : Nat) : Int)] 54)) (.cells #[.int .i64 (letters m : Nat)] 3)) (.cells #[.func (.func 55) #[] #[.pointer (some ⟨w.heap.size, 0, none⟩)]] 82)
    have q0 := (yT.cell (p := ⟨w.heap.size, 0, none⟩) (World.block_lt_of_cell? _ _ hbx)).trans hbx
    simp only [World.size_alloc] at q1 q2 q3
    have hD := fun (W : World) => below_dr W 1
    go_ret
    exact ⟨_, _, _, _, rfl, ((hD _).cell (p := ⟨w.heap.size, 0, none⟩) (World.block_lt_of_cell? _ _ q0)).trans q0, ((hD _).cell (p := ⟨X.heap.size, 0, none⟩) (World.block_lt_of_cell? _ _ q1.cell)).trans q1.cell, ((hD _).cell (p := ⟨X.heap.size + 1, 0, none⟩) (World.block_lt_of_cell? _ _ q2.cell)).trans q2.cell, ((hD _).cell (p := ⟨X.heap.size + 1 + 1, 0, none⟩) (World.block_lt_of_cell? _ _ q3.cell)).trans q3.cell, Nat.le_refl _, by omega, by omega, by omega, bdr (btr hX yT) 1⟩
end Go.Proofs.YtfhcbgdonombaaaDoor
namespace Go.Proofs.YtfhcbgdonombaaaDoor
open Go.RowKit Go.Shelf
attribute [local go_sem] Oper.semAt_some
theorem row_blk2 {w : World} {base : Nat} {e : TypeId} {s : Nat} {v : Value} {n : Nat} {xs : List Value} (h : w.ownsRow base e s v n xs) : ∀ g, v.ownBlock = some g → base ≤ g ∧ g < w.heap.size := by
  intro g hg
  rcases h.2 with ⟨rfl, _⟩ | ⟨g', cap, cur, rfl, hb, hh, _⟩
  · cases hg
  · cases hg; exact ⟨hb, lt_of_block hh⟩
theorem row_mono {w : World} {base base' : Nat} {e : TypeId} {s : Nat} {v : Value} {n : Nat} {xs : List Value} (h : w.ownsRow base e s v n xs) (hb : base' ≤ base) : w.ownsRow base' e s v n xs := by
  refine ⟨h.1, ?_⟩
  rcases h.2 with h' | ⟨g, cap, cur, hv, hg, r⟩
  · exact .inl h'
  · exact .inr ⟨g, cap, cur, hv, Nat.le_trans hb hg, r⟩
theorem put_boxed {W : World} {b D : Nat} {t : TypeId} {v : Value} {x : Option (List Deferred)} (h : Boxed W b t v) (hD : W.heap[D]? = some (.deferred x)) : Boxed (W.putObj D (.deferred none)) b t v :=
  (World.putObj_heap_other (fun e => by
    unfold Boxed at h
    rw [e, hD] at h; cases h)).trans h
theorem sp_last {pre : List (Nat × Value)} {x : Nat × Value} {k : Nat} (h : (pre ++ [x]).map (·.1) = List.range k) : k = pre.length + 1 ∧ x.1 = pre.length := by
  have hl := congrArg List.length h
  simp at hl
  refine ⟨hl.symm, ?_⟩
  have h2 := congrArg (fun l => l[pre.length]?) h
  rw [← hl] at h2
  simpa using h2
end Go.Proofs.YtfhcbgdonombaaaDoor
namespace Go.Proofs.YtfhcbgdonombaaaDoor
open Go.RowKit Go.Shelf
attribute [local go_sem] Oper.semAt_some
/-- The steps of the search over the images of all states; how many states a step's set has. -/
def imgF (m : List (List Int)) : Steps := bfsTo (imgS m) (letters m) (2 ^ m.length - 1) (2 ^ m.length)
def szB (F : Steps) (i : Nat) : Nat := (elems (plB F i).toNat).length
theorem imgF_good {m : List (List Int)} (hv : validM m = true) : GoodB (2 ^ m.length) (imgF m) :=
  GoodB.bfs (by have := Nat.two_pow_pos m.length; omega) (by have := (valid_parts hv).2.2.2.1; omega) (fun p x hp hx => imgS_lt hv hp hx) _
/-- None of the first k sets has as few states. -/
def NoneS (F : Steps) (k : Nat) : Prop := ∀ j, j < k → szB F j ≠ 1
/-- What Shortest returns of an automaton whose sets may be searched. -/
def ShortIs (F : Steps) (w : World) (e : Ending) (w' : World) : Prop :=
  ((∃ i r, i < F.length ∧ szB F i = 1 ∧ NoneS F i ∧ e = .returned (.tuple #[r, .int .i64 0]) ∧ w'.ownsRow w.heap.size 3 1 r (wordB F i).length ((wordB F i).map fun x => .int .i64 x)) ∨
    (NoneS F F.length ∧ e = .returned (.tuple #[.slice none 0 0, .int .i64 4]))) ∧ Below w.heap.size w w'
set_option maxRecDepth 100000 in
set_option maxHeartbeats 4000000 in
theorem Shortest_ok (v : Value) (m : List (List Int)) (w : World) (hT : Tab w) (h : Rows w v m) (hv : validM m = true) (h12 : m.length ≤ 12) :
    Calls Tryd.prog 9 #[.agg #[v]] w (ShortIs (imgF m) w) := by
  obtain ⟨p1, p2, p3, p4, -⟩ := valid_parts hv
  obtain ⟨A, cap, rfl, hml, -⟩ := id h
  have hpow : 2 ^ m.length ≤ 2 ^ 12 := Nat.pow_le_pow_right (by decide) h12
  have hpos := Nat.two_pow_pos m.length
  have hc : smallE m = 0 := by unfold smallE; rw [if_pos hv, if_neg (by omega)]
  have hX := bal (bal (bal (Below.refl _ w) (.cells #[.slice A m.length cap] 24)) (.cells #[.slice none 0 0] 25)) (.cells #[.int .i64 0] 26)
  have q1 := ((Boxed.new w 24 (.slice A m.length cap)).alloc (.cells #[.slice none 0 0] 25)).alloc (.cells #[.int .i64 0] 26)
  have q2 := (Boxed.new (w.alloc (.cells #[.slice A m.length cap] 24)) 25 (.slice none 0 0)).alloc (.cells #[.int .i64 0] 26)
  have q3 := Boxed.new ((w.alloc (.cells #[.slice A m.length cap] 24)).alloc (.cells #[.slice none 0 0] 25)) 26 (.int .i64 0)
  simp only [World.size_alloc] at q2 q3
  have hXs : ((((w.alloc (.cells #[.slice A m.length cap] 24)).alloc (.cells #[.slice none 0 0] 25)).alloc (.cells #[.int .i64 0] 26))).heap.size = w.heap.size + 3 := by simp
  have hgood := imgF_good hv
  have hgl := hgood.len
  have hF0 := hid (show imgF m = bfsTo (imgS m) (letters m) (2 ^ m.length - 1) (2 ^ m.length) from rfl)
  refine (callsIn_wide (n := 0)).1 ?_
  refine callsIn_of_wp_marks Tryd.func9 rfl trivial ?_ rfl
  simp only [Tryd.ntmps9, List.size_toArray, List.length_cons, List.length_nil, Nat.reduceAdd, Nat.reduceSub, Array.replicate_succ, Array.replicate_zero, List.push_toArray, List.append_toArray, List.nil_append, List.cons_append]
  refine wpIn_wide.2 ?_
  go_wp2_with fail
  have hr := h.below hX
  have hTX := hT.on hX
  generalize ((w.alloc (.cells #[.slice A m.length cap] 24)).alloc (.cells #[.slice none 0 0] 25)).alloc (.cells #[.int .i64 0] 26) = X at *
  refine (searched_any _ m _ 0 hr hc).mono ?_
  rintro e w1 ⟨rfl, h1⟩
  have b1 : Boxed w1 w.heap.size 24 (.slice A m.length cap) := (h1.block _ q1.lt).trans q1
  have b2 : Boxed w1 (w.heap.size + 1) 25 (.slice none 0 0) := (h1.block _ q2.lt).trans q2
  have b3 : Boxed w1 (w.heap.size + 1 + 1) 26 (.int .i64 0) := (h1.block _ q3.lt).trans q3
  have c1 := b1.cell
  have hs1 := h1.size
  go_wp2_with fail
  refine (images_any A cap m _ (hr.below h1) hv).mono ?_
  rintro e T ⟨ab, p1', p2', p3', rfl, ca, ci1, ci2, ci3, la, l1, l2, l3, hTb⟩
  have d2 : Boxed T (w.heap.size + 1) 25 (.slice none 0 0) := (hTb.block _ b2.lt).trans b2
  have d3 : Boxed T (w.heap.size + 1 + 1) 26 (.int .i64 0) := (hTb.block _ b3.lt).trans b3
  have yT := btr hX (btr h1 hTb)
  have hrT := hr.below (btr h1 hTb)
  have hTT := hTX.on (btr h1 hTb)
  have HrT := hid hrT
  have HTT := hid hTT
  go_wp2_with fail
  have hXT : ∀ k, (k = p1' ∨ k = p2' ∨ k = p3' ∨ k = ab) → k < T.heap.size := fun k hk => by
    rcases hk with rfl | rfl | rfl | rfl
    · exact World.block_lt_of_cell? _ _ ci1
    · exact World.block_lt_of_cell? _ _ ci2
    · exact World.block_lt_of_cell? _ _ ci3
    · exact World.block_lt_of_cell? _ _ ca
  have hXl : ∀ k, (k = p1' ∨ k = p2' ∨ k = p3' ∨ k = ab) → w.heap.size + 3 ≤ k := fun k hk => by
    rcases hk with rfl | rfl | rfl | rfl <;> omega
  have hld : ∀ p x, p < 2 ^ m.length → x < letters m → imgS m p x < 2 ^ m.length := fun p x hp hx => imgS_lt hv hp hx
  have hRk : ∀ W W', (Below w.heap.size w W ∧ W.cell? ⟨ab, 0, none⟩ = some (.slice A m.length cap) ∧ Rows W (.slice A m.length cap) m ∧ Tab W) → Keep w.heap.size (fun k => k = p1' ∨ k = p2' ∨ k = p3' ∨ k = ab) W W' → (Below w.heap.size w W' ∧ W'.cell? ⟨ab, 0, none⟩ = some (.slice A m.length cap) ∧ Rows W' (.slice A m.length cap) m ∧ Tab W') := by
    rintro W W' ⟨a1, a2, _, _⟩ k
    have a5 := a1.trans (k.below a1.size)
    exact ⟨a5, keep_cell k (.inr (.inr (.inr rfl))) a2, h.below a5, hT.on a5⟩
  have hseq := Words_seqS (imgS m) (2 ^ m.length) (letters m) (2 ^ m.length - 1) ab _ _ _ w.heap.size (fun W => Below w.heap.size w W ∧ W.cell? ⟨ab, 0, none⟩ = some (.slice A m.length cap) ∧ Rows W (.slice A m.length cap) m ∧ Tab W) T (fun k => k = p1' ∨ k = p2' ∨ k = p3' ∨ k = ab) (by omega) (by omega) (by omega) hld (.inl rfl) (.inr (.inl rfl)) (.inr (.inr (.inl rfl))) hXT yT.size hRk ⟨yT, ca, hrT, hTT⟩
    (fun p x W ⟨_, a2, a3, a4⟩ hp hx => imgLead_any A cap m ab p x W a2 a3 a4 hv hp hx) ci1 ci2 ci3
  rw [← hF0.out] at hseq
  have hTs : w.heap.size + 3 ≤ T.heap.size := by have := hTb.size; omega
  have hpl : ∀ i, i < (imgF m).length → ∃ q : Nat, plB (imgF m) i = q ∧ q < 2 ^ m.length := hgood.below
  have Hpl := hid hpl
  generalize imgF m = F at *
  clear hF0 hRk hld ci1 ci2 ci3 ca hrT hTT b1 b2 b3 c1 h1 hr hTX hX q1 q2 q3 hpl hTb hXs hs1 HrT HTT la
  refine (wpIn_wide (n := 0)).1 ?_
  refine range_lawO (gf := 68) (fb := #[]) (lb := #[.pointer (some ⟨p1', 0, none⟩), .pointer (some ⟨p2', 0, none⟩), .pointer (some ⟨p3', 0, none⟩)]) rfl (enters_of Tryd.func68 (by kernel_rfl) rfl)
    hseq hXT (fun _ _ _ _ h k => h.keep k) yT.size (Below.refl _ _) (fun _ => rfl)
    (fun X pre W => NoneS F pre.length ∧ (Mine X W (w.heap.size + 1) 25 (.slice none 0 0) ∧ (Mine X W (w.heap.size + 1 + 1) 26 (.int .i64 0) ∧ Base w.heap.size w X W)))
    (fun c X pre W => (c = .ret ∧ 0 < pre.length ∧ pre.length ≤ F.length ∧ szB F (pre.length - 1) = 1 ∧ NoneS F (pre.length - 1)) ∧ (MineRow w.heap.size X W (w.heap.size + 1) 25 3 ((wordB F (pre.length - 1)).map fun x => .int .i64 x) ∧ (Mine X W (w.heap.size + 1 + 1) 26 (.int .i64 0) ∧ Base w.heap.size w X W)))
    (Stable.and (stable_pure _ (fun pre : List (Nat × Value) => NoneS F pre.length)) (Stable.and (stable_box _ _ _ (fun _ => _)) (Stable.and (stable_box _ _ _ (fun _ => _)) (stable_base _ _ _ yT.size (Nat.le_refl _)))))
    (fun c => Stable.and (stable_pure _ (fun pre : List (Nat × Value) => c = .ret ∧ 0 < pre.length ∧ pre.length ≤ F.length ∧ szB F (pre.length - 1) = 1 ∧ NoneS F (pre.length - 1))) (Stable.and (stable_row _ _ _ _ _ (fun pre : List (Nat × Value) => (wordB F (pre.length - 1)).map fun x => .int .i64 x)) (Stable.and (stable_box _ _ _ (fun _ => _)) (stable_base _ _ _ yT.size (Nat.le_refl _)))))
    ⟨fun j hj => absurd hj (Nat.not_lt_zero j), ⟨d2, fun h => by have := hXl _ h; omega⟩, ⟨d3, fun h => by have := hXl _ h; omega⟩, ⟨fun k hk => by have := hXl _ hk; omega, yT⟩⟩
    (fun x a' _ => a' = { tmps := #[.agg #[.slice A m.length cap], .pointer (some ⟨w.heap.size, 0, none⟩), .pointer (some ⟨w.heap.size + 1, 0, none⟩), .pointer (some ⟨w.heap.size + 1 + 1, 0, none⟩), .int .i64 0, .int .u64 (plB F x.1), x.2, .agg #[.slice A m.length cap], .int .i64 0, .int .i64 0, .bool false, undef, .agg #[.slice A m.length cap], .func (.func 68) #[] #[.pointer (some ⟨p1', 0, none⟩), .pointer (some ⟨p2', 0, none⟩), .pointer (some ⟨p3', 0, none⟩)], .int .u64 (plB F x.1), x.2, undef, undef, undef, undef, undef], defers := [] })
    (fun _ _ _ _ _ _ _ hs _ _ _ _ _ _ => hs) ?assign ?body ?done ?stop
  case assign =>
    intro l X pre x W' K' hi hK'
    unfold encWS
    gi_wp2
    exact hK' _ _ (KeepsFrom.refl _ _) (Keep.refl _ _ _) hi rfl
  case body =>
    rintro l X pre ⟨i, fv⟩ a' W hl hrec hXl' hXs ⟨hnone, b8, b9, hB⟩ hG rfl hsp
    obtain ⟨k, hk, hkr⟩ := hsp
    obtain ⟨hk1, hix⟩ := sp_last hkr
    simp only at hix
    subst hix
    obtain ⟨c6, c7, g, cap', B', base, hfv, _⟩ := id hG
    simp only at hfv
    subst hfv
    have hword := word_anyS F X _ c6 c7 W hG
    obtain ⟨q, hq, hqn⟩ := Hpl.out pre.length (by omega)
    have hsz : szB F pre.length = (elems q).length := by unfold szB; rw [hq, Int.toNat_natCast]
    have hF := Size_any q W (by omega)
    have m8 := b8.cell; have m8f := b8.frozen; have m9 := b9.cell; have m9f := b9.frozen
    rw [hq]
    by_cases hf : szB F pre.length = 1
    · have hlt9 := b9.lt
      have hWb : w.heap.size ≤ W.heap.size := hB.2.size
      rw [← hsz, hf] at hF
      have hf0 := hid hf
      gi_wp2_with fail
      refine ⟨trivial, rfl, (inr l _ hF).mono ?_⟩
      rintro e w' ⟨rfl, rfl⟩
      gi_wp2_with fail
      refine ⟨trivial, rfl, (inr l _ hword).mono ?_⟩
      rintro e w3 ⟨r, rfl, hr, hb3⟩
      have d8 := b8.below hb3
      have d9 := b9.below hb3
      have e8 := d8.cell; have e8f := d8.frozen; have e9 := d9.cell; have e9f := d9.frozen
      have hrb : ∀ g, r.ownBlock = some g → W.heap.size ≤ g ∧ g < w3.heap.size := row_blk2 hr
      obtain ⟨rA, rn, rc, rfl⟩ : ∃ A k c, r = .slice A k c := by
        rcases hr.2 with ⟨hu, h0⟩ | ⟨g, cap, cur, hu, hg, hh, _⟩
        · exact ⟨none, 0, 0, hu⟩
        · exact ⟨_, _, cap, hu⟩
      have Hr := hid (row_mono hr hWb)
      clear hr hword
      gi_wp2
      have hpl : (pre ++ [((pre.length : Nat), Value.func (.func 69) #[] #[.pointer (some ⟨c6, 0, none⟩), .pointer (some ⟨c7, 0, none⟩)])]).length = pre.length + 1 := by simp
      refine ⟨((kf_below hb3).trans (kf_set _ _ _ _)).trans (kf_set _ _ _ _), ((Keep.of_below hb3).trans (keep_set _ _ _ (by omega) b8.2)).trans (keep_set _ _ _ (by omega) b9.2), ⟨rfl, by omega, by omega, by rw [hpl]; exact hf0.out, by rw [hpl]; exact hnone⟩, ⟨_, (d8.set _).other (by omega) _, ?_, fun j hj hXj => ?_⟩, (d9.other (by omega) _).set _, hB.step ?_⟩
      · rw [hpl, List.length_map]
        refine ownsRow_same Hr.out fun g hg => ?_
        have := hrb g hg
        rw [Below.heap_setCell _ _ _ _ (by simp; omega), Below.heap_setCell _ _ _ _ (by simp; omega)]
      · have h1 := hrb j hj
        have h2 := hXs j hXj
        omega
      · exact (((hb3.mono hWb)).setCell (p := ⟨w.heap.size + 1, 0, none⟩) (by show w.heap.size ≤ w.heap.size + 1; omega) _).setCell (p := ⟨w.heap.size + 1 + 1, 0, none⟩) (by show w.heap.size ≤ w.heap.size + 1 + 1; omega) _
    · have hfi : (((elems q).length : Int) == 1) = false := beq_eq_false_iff_ne.2 (by omega)
      have hfn : ((elems q).length == 1) = false := beq_eq_false_iff_ne.2 (by omega)
      have Hf := hid hf
      clear hsz hf
      gi_wp2_with fail
      refine ⟨trivial, rfl, (inr l _ hF).mono ?_⟩
      rintro e w' ⟨rfl, rfl⟩
      gi_wp2
      refine ⟨KeepsFrom.refl _ _, Keep.refl _ _ _, fun j hj => ?_, b8, b9, hB⟩
      by_cases e : j < pre.length
      · exact hnone j e
      · obtain rfl : j = pre.length := by simp at hj; omega
        exact Hf.out
  case done =>
    rintro D X xs W hD hS ⟨hnone, b8, b9, hB⟩ hK'
    have m8 := b8.cell; have m8f := b8.frozen; have m9 := b9.cell; have m9f := b9.frozen
    have hlen : xs.length = F.length := by have := congrArg List.length hS; simpa using this
    have hTsz := yT.size
    have hDw := (Array.getElem?_eq_some_iff.1 hK').1
    gi_wp2
    go_wp2
    have f1 : (W.setCell ⟨w.heap.size + 1, 0, none⟩ (.slice none 0 0)).heap[D]? = W.heap[D]? := Below.heap_setCell _ _ _ _ (by simp; omega)
    have f2 : ((W.setCell ⟨w.heap.size + 1, 0, none⟩ (.slice none 0 0)).setCell ⟨w.heap.size + 1 + 1, 0, none⟩ (.int .i64 4)).heap[D]? = some (.deferred (some [])) := (Below.heap_setCell _ _ _ _ (by simp; omega)).trans (f1.trans hK')
    have g8 := ((b8.set (.slice none 0 0)).other (b' := w.heap.size + 1 + 1) (by omega) (.int .i64 4)).1
    have g9 := ((b9.other (b' := w.heap.size + 1) (by omega) (.slice none 0 0)).set (.int .i64 4)).1
    have hBW := (hB.2.setCell (p := ⟨w.heap.size + 1, 0, none⟩) (by show w.heap.size ≤ w.heap.size + 1; omega) (.slice none 0 0)).setCell (p := ⟨w.heap.size + 1 + 1, 0, none⟩) (by show w.heap.size ≤ w.heap.size + 1 + 1; omega) (.int .i64 4)
    generalize (W.setCell ⟨w.heap.size + 1, 0, none⟩ (.slice none 0 0)).setCell ⟨w.heap.size + 1 + 1, 0, none⟩ (.int .i64 4) = W9 at *
    refine ⟨by simp, .inl ⟨_, _, rfl, run_takeDeferred f2, ?_⟩⟩
    have k8 := (put_boxed g8 f2).cell
    have k9 := (put_boxed g9 f2).cell
    refine ⟨.tuple #[.slice none 0 0, .int .i64 4], ?_, ⟨.inr ⟨fun j hj => hnone j (by omega), rfl⟩, hBW.trans (belowK_b (w := w) (Nat.le_refl _) _ D _ _ (by omega) f2 rfl rfl)⟩⟩
    · simp only [results, Tryd.results9]
      go_simp
  case stop =>
    rintro D X c pre W hD hSp ⟨⟨rfl, hpos, hle, hfd, hno⟩, ⟨v, hm, ho, hx⟩, b9, hB⟩ hK'
    have hTsz := yT.size
    gi_wp2
    refine ⟨by simp, .inl ⟨_, _, rfl, run_takeDeferred hK', ?_⟩⟩
    obtain ⟨rA, rn, rc, rfl⟩ : ∃ A k c, v = .slice A k c := by
      rcases ho.2 with ⟨hu, h0⟩ | ⟨g, cap, cur, hu, hg, hh, _⟩
      · exact ⟨none, 0, 0, hu⟩
      · exact ⟨_, _, cap, hu⟩
    have k8 := (put_boxed hm.1 hK').cell
    have k9 := (put_boxed b9.1 hK').cell
    have hr := ownsRow_putObj ho (.deferred none) hK' rfl
    rw [List.length_map] at hr
    refine ⟨.tuple #[.slice rA rn rc, .int .i64 0], ?_, ⟨.inl ⟨pre.length - 1, _, by omega, hfd, hno, rfl, hr⟩, hB.2.trans (belowK_b (w := w) (Nat.le_refl _) _ D _ _ (by omega) hK' rfl rfl)⟩⟩
    · simp only [results, Tryd.results9]
      go_simp
end Go.Proofs.YtfhcbgdonombaaaDoor
namespace Go.Proofs.YtfhcbgdonombaaaDoor
open Go.RowKit
/-- No operation defers a call. -/
def noDefer (ops : List Oper) : Bool := ops.all fun o => match o.op with
  | .defer _ => false
  | _ => true
theorem noDefer_of {ops : List Oper} (h : noDefer ops = true) {o : Oper} (ho : o ∈ ops) : ∀ c, o.op ≠ .defer c := fun c e => by
  have := List.all_eq_true.1 h o ho
  rw [e] at this
  cases this
section
variable {P : Program} {ops : Array Oper} {md : Region.Mode} {C : World → Prop} (l : Nat)
theorem quiet_round {o : Oper} (hd : ∀ c, o.op ≠ .defer c) {a : Act} {K : Act → Prop} {K' : Act → World → Prop} {Q' : Exit → Act → World → Prop} {w : World} (hw : C w) (h : ∀ a w', C w' → K a → K' a w') (hh : o.quiet P a C K) : o.wpIn (Fence.wide.inRound l) 0 P a w K' Q' := by
  obtain ⟨v, h1, h2⟩ := hh
  have h3 := h1 w hw
  unfold Oper.quietAt at h3
  refine ⟨fun _ _ => trivial, ?_⟩
  rw [show (Fence.wide.inRound l).round = some l from rfl, Oper.semAt_some l _ _ hd]
  generalize (execOp a.eval o).run P w = r at *
  cases r with
  | ok n w' =>
    cases n <;> simp only [Oper.quietUpon] at h3 <;> simp only [Oper.uponIn]
    case value u =>
      obtain ⟨e1, e2⟩ := h3
      rw [e1, e2]
      exact h _ _ hw h2
    case skip =>
      obtain ⟨e1, e2⟩ := h3
      rw [e1, ← e2]
      exact h _ _ hw h2
    case enter f args =>
      obtain ⟨e1, hc⟩ := h3
      rw [e1]
      exact ⟨fun h => by simp [Fence.wide] at h, CallsIn.inRound l (callsIn_wide.2 (hc.mono fun e w'' ⟨he, hw''⟩ => by subst he; exact h _ _ hw'' h2))⟩
  | halt x w' => simp only [Oper.quietUpon] at h3
theorem qOp_round (hd : noDefer ops.toList = true) {i : Nat} {a : Act} {K : Act → Prop} {K' : Act → World → Prop} {Q' : Exit → Act → World → Prop} {w : World} (hC : C w) (h : ∀ a w', C w' → K a → K' a w') (hh : qOp P ops C i K a) : wpOpIn (Fence.wide.inRound l) 0 P ops Q' i K' a w := by
  unfold qOp at hh
  unfold wpOpIn
  split
  · rename_i ho; simp only [ho] at hh; exact h _ _ hC hh
  · rename_i o ho
    simp only [ho] at hh
    have hm : o ∈ ops.toList := Array.mem_toList_iff.2 (Array.mem_of_getElem? ho)
    split
    · rename_i hw; simp only [hw, if_true] at hh; exact quiet_round l (noDefer_of hd hm) hC h hh
    · rename_i hw; simp only [hw] at hh; exact ⟨fun _ _ => trivial, h _ _ hC hh⟩
theorem wpAny_round (hd : noDefer ops.toList = true) {Q : Act → Prop} {Q' : Exit → Act → World → Prop} (hQ : ∀ a w, C w → Q a → Q' .normal a w) : ∀ (fuel : Nat) (listed : Array Bool) (a : Act) (w : World), C w →
    wpAnyQ P md ops C Q fuel listed a → wpAnyIn (Fence.wide.inRound l) 0 P md ops Q' fuel listed a w
  | 0, _, _, _, hw, h => ⟨h.1, hQ _ _ hw h.2⟩
  | fuel + 1, _, _, _, hw, h => ⟨fun h0 => hQ _ _ hw (h.1 h0), fun i hi => qOp_round l hd hw (fun a' w' hw' => wpAny_round hd hQ fuel _ a' w' hw') (h.2 i hi)⟩
theorem wp_region_round {id : Nat} {Q : Exit → Act → World → Prop} {a : Act} {w : World} {rs : List Oper} (hm : P.follows .mixedOrders = true) (hB : Region.lexB .any rs.toArray = true) (hd : noDefer rs = true)
    (h : wpQuiet P rs.toArray (fun w' => ∃ n, w' = w.drewN n) (fun a' => ∀ nq, Q .normal a' (w.drewN nq)) rs a) : (Code.region id rs.toArray true).wpIn (Fence.wide.inRound l) 0 P Q a w := by
  simp only [Region.lexB, Bool.and_eq_true] at hB
  refine wpIn_region_any hm (wpAny_round (C := fun w' => ∃ n, w' = w.drewN n) (Q := fun a' => ∀ nq, Q .normal a' (w.drewN nq)) l (by simpa using hd) (fun a' w' ⟨n, hn⟩ h => by rw [hn]; exact h n) _ _ _ _ ⟨1, rfl⟩ ?_)
  have := wpAnyQ_lex (P := P) (C := fun w' => ∃ n, w' = w.drewN n) (md := .any) hB.1 rs 0 (Array.replicate rs.length false) a (by simp) (by simpa using hB.2) h
  simpa using this
end
end Go.Proofs.YtfhcbgdonombaaaDoor
namespace Go.Proofs.YtfhcbgdonombaaaDoor
open Go.RowKit Go.Shelf
attribute [local go_sem] Oper.semAt_some
/-- The least size among the first k sets, and the word of the first set that has it. -/
def rkS (F : Steps) (n : Nat) : Nat → Nat × List Int
  | 0 => (n, [])
  | k + 1 => if szB F k < (rkS F n k).1 then (szB F k, wordB F k) else rkS F n k
/-- What Rank returns of an automaton whose sets may be searched. -/
def RankIs (F : Steps) (n : Nat) (w : World) (e : Ending) (w' : World) : Prop :=
  ∃ r, e = .returned (.tuple #[.int .i64 ((rkS F n F.length).1 : Nat), r, .int .i64 0]) ∧ w'.ownsRow w.heap.size 3 1 r (rkS F n F.length).2.length ((rkS F n F.length).2.map fun x => .int .i64 x) ∧ Below w.heap.size w w'
theorem kf_drewS (B : Nat) (W : World) (n : Nat) : KeepsFrom B W (W.drewN n) := kf_below (below_dr W n)
theorem ownsRow_slice' {w : World} {base : Nat} {e : TypeId} {s : Nat} {v : Value} {n : Nat} {xs : List Value} (h : w.ownsRow base e s v n xs) : ∃ A k c, v = .slice A k c := by
  rcases h.2 with ⟨hu, _⟩ | ⟨g, cap, cur, hv, _⟩
  · exact ⟨none, 0, 0, hu⟩
  · exact ⟨_, _, cap, hv⟩
theorem World.ownsRow.drewN' {w : World} {base : Nat} {e : TypeId} {s : Nat} {v : Value} {n : Nat} {xs : List Value} (h : w.ownsRow base e s v n xs) (k : Nat) : (w.drewN k).ownsRow base e s v n xs := ownsRow_same h (fun _ _ => rfl)
set_option maxRecDepth 100000 in
set_option maxHeartbeats 4000000 in
theorem Rank_ok (v : Value) (m : List (List Int)) (w : World) (hT : Tab w) (h : Rows w v m) (hv : validM m = true) (h12 : m.length ≤ 12) :
    Calls Tryd.prog 15 #[.agg #[v]] w (RankIs (imgF m) m.length w) := by
  obtain ⟨p1, p2, p3, p4, -⟩ := valid_parts hv
  obtain ⟨A, cap, rfl, hml, -⟩ := id h
  have hpow : 2 ^ m.length ≤ 2 ^ 12 := Nat.pow_le_pow_right (by decide) h12
  have hpos := Nat.two_pow_pos m.length
  have hc : smallE m = 0 := by unfold smallE; rw [if_pos hv, if_neg (by omega)]
  have hX := bal (Below.refl _ w) (.cells #[.slice A m.length cap] 24)
  have q1 := Boxed.new w 24 (.slice A m.length cap)
  have hXs : (w.alloc (.cells #[.slice A m.length cap] 24)).heap.size = w.heap.size + 1 := by simp
  have hgood := imgF_good hv
  have hgl := hgood.len
  have hF0 := hid (show imgF m = bfsTo (imgS m) (letters m) (2 ^ m.length - 1) (2 ^ m.length) from rfl)
  refine (callsIn_wide (n := 0)).1 ?_
  refine callsIn_of_wp_marks Tryd.func15 rfl trivial ?_ rfl
  simp only [Tryd.ntmps15, List.size_toArray, List.length_cons, List.length_nil, Nat.reduceAdd, Nat.reduceSub, Array.replicate_succ, Array.replicate_zero, List.push_toArray, List.append_toArray, List.nil_append, List.cons_append]
  refine wpIn_wide.2 ?_
  go_wp2_with fail
  have hr := h.below hX
  have hTX := hT.on hX
  generalize w.alloc (.cells #[.slice A m.length cap] 24) = X at *
  refine (searched_any _ m _ 0 hr hc).mono ?_
  rintro e w1 ⟨rfl, h1⟩
  have b1 : Boxed w1 w.heap.size 24 (.slice A m.length cap) := (h1.block _ q1.lt).trans q1
  have c1 := b1.cell
  have hs1 := h1.size
  have q2 := (Boxed.new w1 3 (.int .i64 (m.length : Nat))).alloc (.cells #[.slice none 0 0] 25)
  have q3 := Boxed.new (w1.alloc (.cells #[.int .i64 (m.length : Nat)] 3)) 25 (.slice none 0 0)
  simp only [World.size_alloc] at q3
  have hY := bal (bal (Below.refl _ w1) (.cells #[.int .i64 (m.length : Nat)] 3)) (.cells #[.slice none 0 0] 25)
  have c2 := (hY.cell (p := ⟨w.heap.size, 0, none⟩) (World.block_lt_of_cell? _ _ c1)).trans c1
  have hrY := (hr.below h1).below hY
  have hyw := btr hX (btr h1 hY)
  have hTY := hTX.on (btr h1 hY)
  go_wp2_with fail
  generalize hYY : (w1.alloc (.cells #[.int .i64 (m.length : Nat)] 3)).alloc (.cells #[.slice none 0 0] 25) = Y at *
  have hYs : w1.heap.size + 2 ≤ Y.heap.size := by rw [← hYY]; simp
  clear hYY
  refine (images_any A cap m _ hrY hv).mono ?_
  rintro e T ⟨ab, p1', p2', p3', rfl, ca, ci1, ci2, ci3, la, l1, l2, l3, hTb⟩
  have d2 : Boxed T w1.heap.size 3 (.int .i64 (m.length : Nat)) := (hTb.block _ q2.lt).trans q2
  have d3 : Boxed T (w1.heap.size + 1) 25 (.slice none 0 0) := (hTb.block _ q3.lt).trans q3
  have yT := btr hyw hTb
  have hrT := hrY.below hTb
  have hTT := hTY.on hTb
  go_wp2_with fail
  have hXT : ∀ k, (k = p1' ∨ k = p2' ∨ k = p3' ∨ k = ab) → k < T.heap.size := fun k hk => by
    rcases hk with rfl | rfl | rfl | rfl
    · exact World.block_lt_of_cell? _ _ ci1
    · exact World.block_lt_of_cell? _ _ ci2
    · exact World.block_lt_of_cell? _ _ ci3
    · exact World.block_lt_of_cell? _ _ ca
  have hXl : ∀ k, (k = p1' ∨ k = p2' ∨ k = p3' ∨ k = ab) → w1.heap.size + 2 ≤ k := fun k hk => by
    rcases hk with rfl | rfl | rfl | rfl <;> omega
  have hww : w.heap.size + 1 ≤ w1.heap.size := by omega
  have hld : ∀ p x, p < 2 ^ m.length → x < letters m → imgS m p x < 2 ^ m.length := fun p x hp hx => imgS_lt hv hp hx
  have hRk : ∀ W W', (Below w.heap.size w W ∧ W.cell? ⟨ab, 0, none⟩ = some (.slice A m.length cap) ∧ Rows W (.slice A m.length cap) m ∧ Tab W) → Keep w.heap.size (fun k => k = p1' ∨ k = p2' ∨ k = p3' ∨ k = ab) W W' → (Below w.heap.size w W' ∧ W'.cell? ⟨ab, 0, none⟩ = some (.slice A m.length cap) ∧ Rows W' (.slice A m.length cap) m ∧ Tab W') := by
    rintro W W' ⟨a1, a2, _, _⟩ k
    have a5 := a1.trans (k.below a1.size)
    exact ⟨a5, keep_cell k (.inr (.inr (.inr rfl))) a2, h.below a5, hT.on a5⟩
  have hseq := Words_seqS (imgS m) (2 ^ m.length) (letters m) (2 ^ m.length - 1) ab _ _ _ w.heap.size (fun W => Below w.heap.size w W ∧ W.cell? ⟨ab, 0, none⟩ = some (.slice A m.length cap) ∧ Rows W (.slice A m.length cap) m ∧ Tab W) T (fun k => k = p1' ∨ k = p2' ∨ k = p3' ∨ k = ab) (by omega) (by omega) (by omega) hld (.inl rfl) (.inr (.inl rfl)) (.inr (.inr (.inl rfl))) hXT yT.size hRk ⟨yT, ca, hrT, hTT⟩
    (fun p x W ⟨_, a2, a3, a4⟩ hp hx => imgLead_any A cap m ab p x W a2 a3 a4 hv hp hx) ci1 ci2 ci3
  rw [← hF0.out] at hseq
  have hTs : w1.heap.size + 2 ≤ T.heap.size := by have := hTb.size; omega
  have hpl : ∀ i, i < (imgF m).length → ∃ q : Nat, plB (imgF m) i = q ∧ q < 2 ^ m.length := hgood.below
  have Hpl := hid hpl
  have hsuc := hid (fun k => show rkS (imgF m) m.length (k + 1) = if szB (imgF m) k < (rkS (imgF m) m.length k).1 then (szB (imgF m) k, wordB (imgF m) k) else rkS (imgF m) m.length k from rfl)
  have hrk0 := hid (show rkS (imgF m) m.length 0 = (m.length, []) from rfl)
  generalize imgF m = F at *
  have e0 : (rkS F m.length ([] : List (Nat × Value)).length).1 = m.length := by show (rkS F m.length 0).1 = _; rw [hrk0.out]
  have e1 : ((rkS F m.length ([] : List (Nat × Value)).length).2.map fun x : Int => Value.int .i64 x) = [] := by show ((rkS F m.length 0).2.map fun x : Int => Value.int .i64 x) = _; rw [hrk0.out]; rfl
  clear hF0 hRk hld ci1 ci2 ci3 ca hrT hTT b1 c1 c2 hr hTX hX q1 q2 q3 hpl hTb hXs hs1 la hrY hTY hY hyw hYs h1 hgood
  refine (wpIn_wide (n := 0)).1 ?_
  refine range_lawO (gf := 68) (fb := #[]) (lb := #[.pointer (some ⟨p1', 0, none⟩), .pointer (some ⟨p2', 0, none⟩), .pointer (some ⟨p3', 0, none⟩)]) rfl (enters_of Tryd.func68 (by kernel_rfl) rfl)
    hseq hXT (fun _ _ _ _ h k => h.keep k) yT.size (Below.refl _ _) (fun _ => rfl)
    (fun X pre W => Mine X W w1.heap.size 3 (.int .i64 ((rkS F m.length pre.length).1 : Nat)) ∧ (MineRow w.heap.size X W (w1.heap.size + 1) 25 3 ((rkS F m.length pre.length).2.map fun x => .int .i64 x) ∧ Base w.heap.size w X W))
    (fun c X pre W => False)
    (Stable.and (stable_box _ _ _ (fun pre : List (Nat × Value) => .int .i64 ((rkS F m.length pre.length).1 : Nat))) (Stable.and (stable_row _ _ _ _ _ (fun pre : List (Nat × Value) => (rkS F m.length pre.length).2.map fun x => .int .i64 x)) (stable_base _ _ _ yT.size (Nat.le_refl _))))
    (fun c => stable_pure _ (fun _ : List (Nat × Value) => False))
    ⟨⟨by rw [e0]; exact d2, fun h => by have := hXl _ h; omega⟩, ⟨.slice none 0 0, ⟨d3, fun h => by have := hXl _ h; omega⟩, by rw [e1]; exact World.ownsRow_nil _ _ _ _, fun j hj => by cases hj⟩, ⟨fun k hk => by have := hXl _ hk; omega, yT⟩⟩
    (fun x a' _ => a' = { tmps := #[.agg #[.slice A m.length cap], .pointer (some ⟨w.heap.size, 0, none⟩), .int .i64 0, .slice none 0 0, .int .i64 0, .int .i64 0, .pointer (some ⟨w1.heap.size, 0, none⟩), .pointer (some ⟨w1.heap.size + 1, 0, none⟩), .int .u64 (plB F x.1), x.2, .agg #[.slice A m.length cap], .int .i64 0, .int .i64 0, .bool false, undef, .pointer (some ⟨w.heap.size, 0, none⟩), .slice A m.length cap, .int .i64 (m.length : Nat), .agg #[.slice A m.length cap], .func (.func 68) #[] #[.pointer (some ⟨p1', 0, none⟩), .pointer (some ⟨p2', 0, none⟩), .pointer (some ⟨p3', 0, none⟩)], .int .u64 (plB F x.1), x.2, undef, undef, undef, undef, undef, undef, undef, undef, undef, undef], defers := [] })
    (fun _ _ _ _ _ _ _ hs _ _ _ _ _ _ => hs) ?assign ?body ?done ?stop
  case assign =>
    intro l X pre x W' K' hi hK'
    unfold encWS
    gi_wp2
    exact hK' _ _ (KeepsFrom.refl _ _) (Keep.refl _ _ _) hi rfl
  case body =>
    rintro l X pre ⟨i, fv⟩ a' W hl hrec hXl' hXs ⟨b8, ⟨v0, b9, ho9, hx9⟩, hB⟩ hG rfl hsp
    obtain ⟨k, hk, hkr⟩ := hsp
    obtain ⟨hk1, hix⟩ := sp_last hkr
    simp only at hix
    subst hix
    obtain ⟨c6, c7, g, cap', B', base, hfv, _⟩ := id hG
    simp only at hfv
    subst hfv
    obtain ⟨q, hq, hqn⟩ := Hpl.out pre.length (by omega)
    have hsz : szB F pre.length = (elems q).length := by unfold szB; rw [hq, Int.toNat_natCast]
    have hF := fun W => Size_any q W (by omega)
    rw [← hsz] at hF
    have hpl : (pre ++ [((pre.length : Nat), Value.func (.func 69) #[] #[.pointer (some ⟨c6, 0, none⟩), .pointer (some ⟨c7, 0, none⟩)])]).length = pre.length + 1 := by simp
    have hsn := hsuc.out pre.length
    have m8 := b8.cell
    have HG := hid hG
    have Ho9 := hid ho9
    have hrle : (rkS F m.length pre.length).1 = (rkS F m.length pre.length).1 := rfl
    obtain ⟨R, hR⟩ : ∃ R, rkS F m.length pre.length = R := ⟨_, rfl⟩
    obtain ⟨r, V⟩ := R
    rw [hR] at m8 hsn
    rw [hq]
    clear hsz hq hG ho9 hrle
    have HR := hid hR
    have Hsn := hid hsn
    clear hR hsn
    by_cases hf : szB F pre.length < r
    · have e2 : rkS F m.length (pre.length + 1) = (szB F pre.length, wordB F pre.length) := by rw [Hsn.out, if_pos hf]
      have E2 := hid e2
      have hd1 : decide ((szB F pre.length : Int) < (r : Int)) = true := by simp; omega
      have hd2 : decide (szB F pre.length < r) = true := decide_eq_true hf
      have hWb : w.heap.size ≤ W.heap.size := hB.2.size
      have hlt9 := b9.lt
      clear e2 hf
      generalize szB F pre.length = sz at *
      gi_wp2_with fail
      refine wp_region_round l (by kernel_rfl) (by kernel_rfl) (by kernel_rfl) ?_
      repeat (go_big_quiet_step ((go_at_call 33; exact Calls.quiet_of_same ((hF _).mono fun _ _ ⟨h1, h2⟩ => ⟨h1, h2.symm⟩))))
      refine wpQuiet_nil ?_
      intro nq
      have hdr := below_dr W nq
      have t8 := b8.below hdr
      have t9 := b9.below hdr
      have hword := word_anyS F X _ c6 c7 _ (HG.out.keep (Keep.of_below (n₀ := 0) hdr))
      have hkd := hid (kf_drewS T.heap.size W nq)
      have hsd : (W.drewN nq).heap.size = W.heap.size := rfl
      generalize hWd : W.drewN nq = Wd at *
      clear hWd
      gi_wp2_with fail
      refine ⟨trivial, rfl, (inr l _ (hF _)).mono ?_⟩
      rintro e w' ⟨rfl, rfl⟩
      gi_wp2_with fail
      refine ⟨trivial, rfl, (inr l _ hword).mono ?_⟩
      rintro e w3 ⟨rr, rfl, hr, hb3⟩
      have d8 := t8.below hb3
      have d9 := t9.below hb3
      have e8 := d8.cell; have e8f := d8.frozen; have e9 := d9.cell; have e9f := d9.frozen
      have hrb : ∀ g, rr.ownBlock = some g → Wd.heap.size ≤ g ∧ g < w3.heap.size := row_blk2 hr
      obtain ⟨rA, rn, rc, rfl⟩ := ownsRow_slice' hr
      have Hr := hid (row_mono hr (by omega : w.heap.size ≤ Wd.heap.size))
      clear hr hword
      gi_wp2
      refine ⟨((hkd.out.trans (kf_below hb3)).trans (kf_set _ _ _ _)).trans (kf_set _ _ _ _), (((Keep.of_below hdr).trans (Keep.of_below hb3)).trans (keep_set _ _ _ (by omega) b8.2)).trans (keep_set _ _ _ (by omega) b9.2), ?_, ⟨_, (d9.other (by omega) _).set _, ?_, fun j hj hXj => ?_⟩, (hB.step (hdr.mono hWb)).step ?_⟩
      · rw [hpl, E2.out]; exact (d8.set _).other (by omega) _
      · rw [hpl, E2.out, List.length_map]
        refine ownsRow_same Hr.out fun g hg => ?_
        have := hrb g hg
        rw [Below.heap_setCell _ _ _ _ (by simp; omega), Below.heap_setCell _ _ _ _ (by simp; omega)]
      · have h1 := hrb j hj
        have h2 := hXs j hXj
        omega
      · exact (((hb3.mono (by omega : w.heap.size ≤ Wd.heap.size))).setCell (p := ⟨w1.heap.size, 0, none⟩) (by show w.heap.size ≤ w1.heap.size; omega) _).setCell (p := ⟨w1.heap.size + 1, 0, none⟩) (by show w.heap.size ≤ w1.heap.size + 1; omega) _
    · have e2 : rkS F m.length (pre.length + 1) = (r, V) := by rw [Hsn.out, if_neg hf]
      have E2 := hid e2
      have hd1 : decide ((szB F pre.length : Int) < (r : Int)) = false := by simp; omega
      have hd2 : decide (szB F pre.length < r) = false := decide_eq_false hf
      have hWb : w.heap.size ≤ W.heap.size := hB.2.size
      clear e2 hf
      generalize szB F pre.length = sz at *
      gi_wp2_with fail
      refine wp_region_round l (by kernel_rfl) (by kernel_rfl) (by kernel_rfl) ?_
      repeat (go_big_quiet_step ((go_at_call 33; exact Calls.quiet_of_same ((hF _).mono fun _ _ ⟨h1, h2⟩ => ⟨h1, h2.symm⟩))))
      refine wpQuiet_nil ?_
      intro nq
      gi_wp2
      refine ⟨kf_drewS _ _ _, Keep.of_below (below_dr W nq), ?_, ⟨v0, b9.below (below_dr W nq), ?_, hx9⟩, hB.step ((below_dr W nq).mono hWb)⟩
      · rw [hpl, E2.out]; have := b8.below (below_dr W nq); rw [HR.out] at this; exact this
      · rw [hpl, E2.out]; have := Ho9.out; rw [HR.out] at this; exact this
  case done =>
    rintro D X xs W hD hS ⟨b8, ⟨v0, b9, ho9, hx9⟩, hB⟩ hK'
    have hlen : xs.length = F.length := by have := congrArg List.length hS; simpa using this
    rw [hlen] at b8 ho9
    have m8 := b8.cell; have m9 := b9.cell
    have hTsz := yT.size
    obtain ⟨rA, rn, rc, rfl⟩ := ownsRow_slice' ho9
    gi_wp2_with fail
    go_wp2_with fail
    go_quiet (fail)
    have f2 : (W.drewN nq).heap[D]? = some (.deferred (some [])) := hK'
    have hBW := hB.2.trans ((below_dr W nq).mono hB.2.size)
    have hr := ownsRow_putObj (World.ownsRow.drewN' ho9 nq) (.deferred none) f2 rfl
    rw [List.length_map] at hr
    generalize W.drewN nq = W9 at *
    go_wp2
    refine ⟨by simp, .inl ⟨_, _, rfl, run_takeDeferred f2, ?_⟩⟩
    refine ⟨.tuple #[.int .i64 ((rkS F m.length F.length).1 : Nat), .slice rA rn rc, .int .i64 0], ?_, ⟨_, rfl, hr, hBW.trans (belowK_b (w := w) (Nat.le_refl _) _ D _ _ (by omega) f2 rfl rfl)⟩⟩
    · simp only [results, Tryd.results15]
      go_simp
  case stop =>
    rintro D X c pre W hD hSp hF
    exact hF.elim
end Go.Proofs.YtfhcbgdonombaaaDoor
namespace Go.Proofs.YtfhcbgdonombaaaDoor
open Go.RowKit Go.Shelf
/-- A slice of bools that reads as a list. -/
def Bools (w : World) (v : Value) (l : List Bool) : Prop :=
  ∃ A cap, v = .slice A l.length cap ∧ l.length ≤ big ∧ ∀ i, i < l.length → ∃ b off, A = some ⟨b, off, none⟩ ∧ w.cell? ⟨b, off + i, none⟩ = some (.bool (l.getD i false))
theorem Bools.below {w w' : World} {v : Value} {l : List Bool} (h : Bools w v l) (hb : Below w.heap.size w w') : Bools w' v l := by
  obtain ⟨A, cap, hv, hl, hc⟩ := h
  refine ⟨A, cap, hv, hl, fun i hi => ?_⟩
  obtain ⟨b, off, hA, hcell⟩ := hc i hi
  exact ⟨b, off, hA, (hb.cell (p := ⟨b, off + i, none⟩) (World.block_lt_of_cell? _ _ hcell)).trans hcell⟩
theorem Bools.of_own {W : World} {n₀ : Nat} {e : TypeId} {v : Value} {l : List Bool} (h : W.ownsRow n₀ e 1 v l.length (l.map fun x => .bool x)) (hl : l.length ≤ big) : Bools W v l := by
  rcases h.2 with ⟨rfl, h0⟩ | ⟨g, cap, cur, rfl, hb, hg, hn, hc, hs, ht⟩
  · exact ⟨none, 0, by rw [h0], hl, fun i hi => by omega⟩
  · refine ⟨some ⟨g, 0, none⟩, cap, rfl, hl, fun i hi => ⟨g, 0, rfl, ?_⟩⟩
    have h1 : (l.map fun x => Value.bool x)[i]? = some (.bool (l.getD i false)) := by
      simp [List.getElem?_map, List.getElem?_eq_getElem hi, List.getD_eq_getElem?_getD]
    rw [← ht, List.getElem?_take, if_pos (by omega)] at h1
    simp only [World.cell?, hg]
    simpa using h1
end Go.Proofs.YtfhcbgdonombaaaDoor
namespace Go.Proofs.YtfhcbgdonombaaaDoor
open Go.RowKit Go.Shelf
theorem ownq_lt {W : World} {base : Nat} {e : TypeId} {s : Nat} {g n c k : Nat} {xs : List Value} (h : W.ownsRow base e s (.slice (some ⟨g, 0, none⟩) n c) k xs) : base ≤ g ∧ g < W.heap.size := by
  rcases h.2 with ⟨h', _⟩ | ⟨g', cap, cur, h', hb, hh, _⟩
  · cases h'
  · cases h'; exact ⟨hb, (Array.getElem?_eq_some_iff.1 hh).1⟩
end Go.Proofs.YtfhcbgdonombaaaDoor
namespace Go.Proofs.YtfhcbgdonombaaaDoor
open Go.RowKit Go.Shelf
/-- The steps come in the order of those that they come from, up to a bound. -/
def RiseB (B : Steps) (b : Int) : Prop := (∀ k, k < B.length → frB B k ≤ b) ∧ ∀ j k, j ≤ k → k < B.length → frB B j ≤ frB B k
theorem RiseB.mono {B : Steps} {b c : Int} (h : RiseB B b) (hbc : b ≤ c) : RiseB B c := ⟨fun k hk => by have := h.1 k hk; omega, h.2⟩
theorem RiseB.add {B : Steps} {i : Nat} (h : RiseB B i) (ld : Nat → Nat → Nat) (p x : Nat) : RiseB (addB ld B p i x) i := by
  unfold addB
  split
  · exact h
  · obtain ⟨s1, s2, s3⟩ := snoc_pl B (ld p x) (i : Int) (x : Int)
    have hp : B <+: B ++ [(((ld p x : Nat) : Int), (i : Int), (x : Int))] := List.prefix_append _ _
    have key : ∀ k, k < (B ++ [(((ld p x : Nat) : Int), (i : Int), (x : Int))]).length → (k < B.length ∧ frB (B ++ [(((ld p x : Nat) : Int), (i : Int), (x : Int))]) k = frB B k) ∨ (k = B.length ∧ frB (B ++ [(((ld p x : Nat) : Int), (i : Int), (x : Int))]) k = i) := fun k hk => by
      by_cases e : k < B.length
      · exact .inl ⟨e, (pre_pl hp k e).2.1⟩
      · have e2 : k = B.length := by rw [List.length_append] at hk; simp at hk; omega
        subst e2
        exact .inr ⟨rfl, s2⟩
    refine ⟨fun k hk => ?_, fun j k hjk hk => ?_⟩
    · rcases key k hk with ⟨h1, h2⟩ | ⟨_, h2⟩ <;> rw [h2]
      · exact h.1 k h1
      · exact Int.le_refl _
    · rcases key k hk with ⟨h1, h2⟩ | ⟨h1, h2⟩
      · rcases key j (by omega) with ⟨h3, h4⟩ | ⟨h3, h4⟩
        · rw [h2, h4]; exact h.2 j k hjk h1
        · omega
      · rcases key j (by omega) with ⟨h3, h4⟩ | ⟨h3, h4⟩
        · rw [h2, h4]; exact h.1 j h3
        · rw [h2, h4]; exact Int.le_refl _
theorem RiseB.row {B : Steps} {i : Nat} (h : RiseB B i) (ld : Nat → Nat → Nat) (p : Nat) : ∀ K, RiseB (rowB ld B p i K) i
  | 0 => h
  | K + 1 => (h.row ld p K).add ld p K
theorem RiseB.bfs (ld : Nat → Nat → Nat) (K s : Nat) : ∀ i : Nat, RiseB (bfsTo ld K s i) ((i : Int) - 1)
  | 0 => by
    refine ⟨fun k hk => ?_, fun j k hjk hk => ?_⟩
    · obtain rfl : k = 0 := by simpa [bfsTo] using hk
      exact Int.le_of_eq rfl
    · obtain rfl : k = 0 := by simpa [bfsTo] using hk
      obtain rfl : j = 0 := by omega
      exact Int.le_refl _
  | i + 1 => by
    have ih := RiseB.bfs ld K s i
    have e : bfsTo ld K s (i + 1) = (if i < (bfsTo ld K s i).length then rowB ld (bfsTo ld K s i) (plB (bfsTo ld K s i) i).toNat i K else bfsTo ld K s i) := rfl
    rw [e]
    split
    · exact ((ih.mono (by omega)).row ld _ K).mono (by omega)
    · exact ih.mono (by omega)
theorem hasP_iff {B : Steps} {q : Nat} (h : hasP B q = true) : ∃ j, j < B.length ∧ plB B j = (q : Int) := by
  rw [hasP, List.any_eq_true] at h
  obtain ⟨t, ht, he⟩ := h
  obtain ⟨j, hj, rfl⟩ := List.mem_iff_getElem.1 ht
  refine ⟨j, hj, ?_⟩
  unfold plB
  rw [List.getD_eq_getElem?_getD, List.getElem?_eq_getElem hj, Option.getD_some]
  exact eq_of_beq he
theorem addB_has (ld : Nat → Nat → Nat) (B : Steps) (p i x : Nat) : hasP (addB ld B p i x) (ld p x) = true := by
  unfold addB
  split
  · assumption
  · rw [hasP_snoc]; simp
end Go.Proofs.YtfhcbgdonombaaaDoor
namespace Go.Proofs.YtfhcbgdonombaaaDoor
open Go.RowKit Go.Shelf
/-- Each step's letter leads from the place that it comes from. -/
def EdgeB (ld : Nat → Nat → Nat) (B : Steps) : Prop := ∀ k, 0 < k → k < B.length → plB B k = ((ld (plB B (frB B k).toNat).toNat (leB B k).toNat : Nat) : Int)
theorem EdgeB.add {ld : Nat → Nat → Nat} {B : Steps} (hT : TreeB B) (h : EdgeB ld B) {p i x : Nat} (hi : i < B.length) (hp : plB B i = (p : Int)) : EdgeB ld (addB ld B p i x) := by
  unfold addB
  split
  · exact h
  · obtain ⟨s1, s2, s3⟩ := snoc_pl B (ld p x) (i : Int) (x : Int)
    have hpre : B <+: B ++ [(((ld p x : Nat) : Int), (i : Int), (x : Int))] := List.prefix_append _ _
    intro k h0 hk
    by_cases e : k < B.length
    · obtain ⟨t1, t2⟩ := hT.2.2 k h0 e
      rw [(pre_pl hpre k e).1, (pre_pl hpre k e).2.1, (pre_pl hpre k e).2.2, (pre_pl hpre (frB B k).toNat (by omega)).1]
      exact h k h0 e
    · have e2 : k = B.length := by rw [List.length_append] at hk; simp at hk; omega
      subst e2
      rw [s1, s2, s3, Int.toNat_natCast, Int.toNat_natCast, (pre_pl hpre i hi).1, hp, Int.toNat_natCast]
theorem EdgeB.row {n : Nat} {ld : Nat → Nat → Nat} {B : Steps} (hG : GoodB n B) (h : EdgeB ld B) {p i : Nat} (hi : i < B.length) (hp : plB B i = (p : Int)) : ∀ K, K ≤ 1000 → (∀ x, x < K → ld p x < n) → EdgeB ld (rowB ld B p i K)
  | 0, _, _ => h
  | K + 1, hK, hq => by
    have hg := GoodB.row hG hi K (by omega) (fun x hx => hq x (by omega))
    exact (EdgeB.row hG h hi hp K (by omega) (fun x hx => hq x (by omega))).add hg.tree (Nat.lt_of_lt_of_le hi (rowB_pre ld B p i K).length_le) ((pre_pl (rowB_pre ld B p i K) i hi).1.trans hp)
theorem EdgeB.bfs {n K s : Nat} {ld : Nat → Nat → Nat} (hs : s < n) (hK : K ≤ 1000) (hld : ∀ p x, p < n → x < K → ld p x < n) : ∀ i, EdgeB ld (bfsTo ld K s i)
  | 0 => fun k h0 hk => by simp [bfsTo] at hk; omega
  | i + 1 => by
    have ih := EdgeB.bfs (n := n) hs hK hld i
    have e : bfsTo ld K s (i + 1) = (if i < (bfsTo ld K s i).length then rowB ld (bfsTo ld K s i) (plB (bfsTo ld K s i) i).toNat i K else bfsTo ld K s i) := rfl
    rw [e]
    split
    · rename_i hlt
      have hg := GoodB.bfs (n := n) (K := K) (s := s) (ld := ld) hs hK hld i
      obtain ⟨p, hp, hpn⟩ := hg.below i hlt
      rw [hp, Int.toNat_natCast]
      exact EdgeB.row hg ih hlt hp K hK (fun x hx => hld p x hpn hx)
    · exact ih
theorem bfs_zero (ld : Nat → Nat → Nat) (K s n : Nat) : 0 < (bfsTo ld K s n).length ∧ plB (bfsTo ld K s n) 0 = (s : Int) := by
  have hpre : bfsTo ld K s 0 <+: bfsTo ld K s n := by
    have := bfs_pre_le ld K s 0 n
    rwa [Nat.zero_add] at this
  have h0 : 0 < (bfsTo ld K s 0).length := Nat.zero_lt_one
  exact ⟨Nat.lt_of_lt_of_le h0 hpre.length_le, (pre_pl hpre 0 h0).1⟩
/-- The word of a step leads to its place. -/
theorem word_leads {n K s : Nat} {ld : Nat → Nat → Nat} (hs : s < n) (hK : K ≤ 1000) (hld : ∀ p x, p < n → x < K → ld p x < n) : ∀ j, j < (bfsTo ld K s n).length → plB (bfsTo ld K s n) j = ((((wordB (bfsTo ld K s n) j).map Int.toNat).foldl ld s : Nat) : Int) := by
  have hg := GoodB.bfs (n := n) (K := K) (s := s) (ld := ld) hs hK hld n
  have hE := EdgeB.bfs (n := n) (K := K) (s := s) (ld := ld) hs hK hld n
  have hz := (bfs_zero ld K s n).2
  intro j
  induction j using Nat.strongRecOn with
  | _ j ih =>
    intro hj
    rcases Nat.eq_zero_or_pos j with e | e
    · subst e; rw [wordB_root hg.tree, hz]; rfl
    · obtain ⟨b1, b2⟩ := hg.tree.2.2 j e hj
      rw [hE j e hj, wordB_step hg.tree e hj, List.map_append, List.foldl_append]
      have h := ih (frB (bfsTo ld K s n) j).toNat (by omega) (by omega)
      rw [h, Int.toNat_natCast]
      rfl
end Go.Proofs.YtfhcbgdonombaaaDoor
namespace Go.Proofs.YtfhcbgdonombaaaDoor
open Go.RowKit Go.Shelf
/-- The steps came in the order of (the step that they come from, the letter); all before a round and a letter. -/
def OrdB (B : Steps) (i x : Int) : Prop :=
  (∀ k, 0 < k → k < B.length → frB B k < i ∨ (frB B k = i ∧ leB B k < x)) ∧ ∀ j k, 0 < j → j < k → k < B.length → frB B j < frB B k ∨ (frB B j = frB B k ∧ leB B j < leB B k)
theorem OrdB.add {B : Steps} {i x : Nat} (h : OrdB B i x) (ld : Nat → Nat → Nat) (p : Nat) : OrdB (addB ld B p i x) i ((x : Int) + 1) := by
  unfold addB
  split
  · refine ⟨fun k h0 hk => ?_, h.2⟩
    rcases h.1 k h0 hk with h1 | ⟨h1, h2⟩
    · exact .inl h1
    · exact .inr ⟨h1, by omega⟩
  · obtain ⟨s1, s2, s3⟩ := snoc_pl B (ld p x) (i : Int) (x : Int)
    have hp : B <+: B ++ [(((ld p x : Nat) : Int), (i : Int), (x : Int))] := List.prefix_append _ _
    have key : ∀ k, k < (B ++ [(((ld p x : Nat) : Int), (i : Int), (x : Int))]).length → (k < B.length ∧ frB (B ++ [(((ld p x : Nat) : Int), (i : Int), (x : Int))]) k = frB B k ∧ leB (B ++ [(((ld p x : Nat) : Int), (i : Int), (x : Int))]) k = leB B k) ∨ (k = B.length ∧ frB (B ++ [(((ld p x : Nat) : Int), (i : Int), (x : Int))]) k = i ∧ leB (B ++ [(((ld p x : Nat) : Int), (i : Int), (x : Int))]) k = x) := fun k hk => by
      by_cases e : k < B.length
      · exact .inl ⟨e, (pre_pl hp k e).2.1, (pre_pl hp k e).2.2⟩
      · have e2 : k = B.length := by rw [List.length_append] at hk; simp at hk; omega
        subst e2
        exact .inr ⟨rfl, s2, s3⟩
    refine ⟨fun k h0 hk => ?_, fun j k h0 hjk hk => ?_⟩
    · rcases key k hk with ⟨h1, h2, h3⟩ | ⟨_, h2, h3⟩ <;> rw [h2, h3]
      · rcases h.1 k h0 h1 with h4 | ⟨h4, h5⟩
        · exact .inl h4
        · exact .inr ⟨h4, by omega⟩
      · exact .inr ⟨rfl, by omega⟩
    · rcases key k hk with ⟨h1, h2, h3⟩ | ⟨h1, h2, h3⟩
      · rcases key j (by omega) with ⟨h4, h5, h6⟩ | ⟨h4, h5, h6⟩
        · rw [h2, h3, h5, h6]; exact h.2 j k h0 hjk h1
        · omega
      · rcases key j (by omega) with ⟨h4, h5, h6⟩ | ⟨h4, h5, h6⟩
        · rw [h2, h3, h5, h6]; exact h.1 j h0 h4
        · omega
theorem OrdB.row {B : Steps} {i : Nat} (h : OrdB B i 0) (ld : Nat → Nat → Nat) (p : Nat) : ∀ K : Nat, OrdB (rowB ld B p i K) i K
  | 0 => h
  | K + 1 => by
    have := (OrdB.row h ld p K).add ld p
    rw [show ((K + 1 : Nat) : Int) = (K : Int) + 1 by omega]
    exact this
theorem OrdB.bfs (ld : Nat → Nat → Nat) (K s : Nat) : ∀ i : Nat, OrdB (bfsTo ld K s i) i 0
  | 0 => ⟨fun k h0 hk => by simp [bfsTo] at hk; omega, fun j k h0 hjk hk => by simp [bfsTo] at hk; omega⟩
  | i + 1 => by
    have ih := OrdB.bfs ld K s i
    have e : bfsTo ld K s (i + 1) = (if i < (bfsTo ld K s i).length then rowB ld (bfsTo ld K s i) (plB (bfsTo ld K s i) i).toNat i K else bfsTo ld K s i) := rfl
    have next : ∀ {B : Steps} {x : Int}, OrdB B i x → OrdB B ((i + 1 : Nat) : Int) 0 := fun h => ⟨fun k h0 hk => by rcases h.1 k h0 hk with h1 | ⟨h1, _⟩ <;> exact .inl (by omega), h.2⟩
    rw [e]
    split
    · exact next (ih.row ld _ K)
    · exact next ih
theorem rowB_le (ld : Nat → Nat → Nat) (B : Steps) (p i : Nat) : ∀ d x : Nat, rowB ld B p i x <+: rowB ld B p i (x + d)
  | 0, _ => List.prefix_refl _
  | d + 1, x => (rowB_le ld B p i d x).trans (addB_pre ld _ p i (x + d))
/-- The place to which a letter leads was reached at that letter of that step, or before. -/
theorem bfs_first {n K s : Nat} {ld : Nat → Nat → Nat} (hs : s < n) (hK : K ≤ 1000) (hld : ∀ p x, p < n → x < K → ld p x < n) (i p x : Nat) (hi : i < (bfsTo ld K s n).length) (hp : plB (bfsTo ld K s n) i = (p : Int)) (hx : x < K) :
    ∃ j, j < (bfsTo ld K s n).length ∧ plB (bfsTo ld K s n) j = ((ld p x : Nat) : Int) ∧ (j = 0 ∨ frB (bfsTo ld K s n) j < i ∨ (frB (bfsTo ld K s n) j = i ∧ leB (bfsTo ld K s n) j ≤ x)) := by
  have hg := GoodB.bfs (n := n) (K := K) (s := s) (ld := ld) hs hK hld
  have hn := (hg n).len
  have hlt : i < (bfsTo ld K s i).length := by
    rcases Nat.lt_or_ge i (bfsTo ld K s i).length with h | h
    · exact h
    · exfalso
      have e := bfs_stop ld K s i h (n - i)
      rw [show i + (n - i) = n by omega] at e
      rw [e] at hi; omega
  have hpre1 : bfsTo ld K s i <+: bfsTo ld K s n := by
    have := bfs_pre_le ld K s i (n - i)
    rwa [show i + (n - i) = n by omega] at this
  have hpre2 : bfsTo ld K s (i + 1) <+: bfsTo ld K s n := by
    have := bfs_pre_le ld K s (i + 1) (n - (i + 1))
    rwa [show i + 1 + (n - (i + 1)) = n by omega] at this
  have hpi : plB (bfsTo ld K s i) i = (p : Int) := (pre_pl hpre1 i hlt).1.symm.trans hp
  have e : bfsTo ld K s (i + 1) = rowB ld (bfsTo ld K s i) p i K := by
    have e0 : bfsTo ld K s (i + 1) = (if i < (bfsTo ld K s i).length then rowB ld (bfsTo ld K s i) (plB (bfsTo ld K s i) i).toNat i K else bfsTo ld K s i) := rfl
    rw [e0, if_pos hlt, hpi, Int.toNat_natCast]
  have hpre3 : rowB ld (bfsTo ld K s i) p i (x + 1) <+: bfsTo ld K s n := by
    have := rowB_le ld (bfsTo ld K s i) p i (K - (x + 1)) (x + 1)
    rw [show x + 1 + (K - (x + 1)) = K by omega, ← e] at this
    exact this.trans hpre2
  obtain ⟨j, hj, hpj⟩ := hasP_iff (addB_has ld (rowB ld (bfsTo ld K s i) p i x) p i x)
  have hj : j < (rowB ld (bfsTo ld K s i) p i (x + 1)).length := hj
  obtain ⟨r1, r2, r3⟩ := pre_pl hpre3 j hj
  refine ⟨j, Nat.lt_of_lt_of_le hj hpre3.length_le, r1.trans hpj, ?_⟩
  rcases Nat.eq_zero_or_pos j with e1 | e1
  · exact .inl e1
  · rw [r2, r3]
    rcases ((OrdB.bfs ld K s i).row ld p (x + 1)).1 j e1 hj with h1 | ⟨h1, h2⟩
    · exact .inr (.inl h1)
    · exact .inr (.inr ⟨h1, by omega⟩)
end Go.Proofs.YtfhcbgdonombaaaDoor
namespace Go.Proofs.YtfhcbgdonombaaaDoor
open Go.RowKit Go.Shelf
def lexLt : List Int → List Int → Prop
  | x :: a, y :: b => x < y ∨ (x = y ∧ lexLt a b)
  | _, _ => False
theorem lexLt.trans : ∀ {a b d : List Int}, lexLt a b → lexLt b d → lexLt a d
  | [], _, _, h, _ => h.elim
  | _ :: _, [], _, h, _ => h.elim
  | _ :: _, _ :: _, [], _, k => k.elim
  | x :: a, y :: b, z :: d, h, k => by
    rcases h with h | ⟨rfl, h⟩
    · rcases k with k | ⟨rfl, _⟩
      · exact .inl (by omega)
      · exact .inl h
    · rcases k with k | ⟨rfl, k⟩
      · exact .inl k
      · exact .inr ⟨rfl, lexLt.trans h k⟩
theorem lexLt.snoc : ∀ {a b : List Int}, lexLt a b → ∀ x y : Int, lexLt (a ++ [x]) (b ++ [y])
  | [], _, h, _, _ => h.elim
  | _ :: _, [], h, _, _ => h.elim
  | p :: a, q :: b, h, x, y => by
    rcases h with h | ⟨rfl, h⟩
    · exact .inl h
    · exact .inr ⟨rfl, h.snoc x y⟩
theorem lexLt.last : ∀ (a : List Int) {x y : Int}, x < y → lexLt (a ++ [x]) (a ++ [y])
  | [], _, _, h => .inl h
  | _ :: a, _, _, h => .inr ⟨rfl, lexLt.last a h⟩
/-- Shorter, or of the same length and earlier in order. -/
def SL (a b : List Int) : Prop := a.length < b.length ∨ (a.length = b.length ∧ lexLt a b)
def SLe (a b : List Int) : Prop := a = b ∨ SL a b
theorem SL.snoc {a b : List Int} (h : SL a b) (x y : Int) : SL (a ++ [x]) (b ++ [y]) := by
  rcases h with h | ⟨h, k⟩
  · exact .inl (by simp; omega)
  · exact .inr ⟨by simp; omega, k.snoc x y⟩
theorem SL.last (a : List Int) {x y : Int} (h : x < y) : SL (a ++ [x]) (a ++ [y]) := .inr ⟨by simp, lexLt.last a h⟩
theorem SL.trans {a b d : List Int} (h : SL a b) (k : SL b d) : SL a d := by
  rcases h with h | ⟨h, h'⟩ <;> rcases k with k | ⟨k, k'⟩
  · exact .inl (by omega)
  · exact .inl (by omega)
  · exact .inl (by omega)
  · exact .inr ⟨by omega, h'.trans k'⟩
theorem SLe.snoc {a b : List Int} (h : SLe a b) (x : Int) : SLe (a ++ [x]) (b ++ [x]) := by
  rcases h with rfl | h
  · exact .inl rfl
  · exact .inr (h.snoc x x)
theorem SL.le {a b d : List Int} (h : SL a b) (k : SLe b d) : SL a d := by
  rcases k with rfl | k
  · exact h
  · exact h.trans k
/-- The steps come in the order of their words. -/
theorem words_rise {B : Steps} {i x : Int} (hT : TreeB B) (hO : OrdB B i x) : ∀ k j, j < k → k < B.length → SL (wordB B j) (wordB B k) := by
  intro k
  induction k using Nat.strongRecOn with
  | _ k ih =>
    intro j hjk hk
    obtain ⟨b1, b2⟩ := hT.2.2 k (by omega) hk
    rw [wordB_step hT (by omega) hk]
    rcases Nat.eq_zero_or_pos j with e | e
    · subst e
      rw [wordB_root hT]
      exact .inl (by simp)
    · obtain ⟨a1, a2⟩ := hT.2.2 j e (by omega)
      rw [wordB_step hT e (by omega)]
      rcases hO.2 j k e hjk hk with h | ⟨h, h'⟩
      · exact (ih (frB B k).toNat (by omega) (frB B j).toNat (by omega) (by omega)).snoc _ _
      · rw [h]
        exact SL.last _ h'
/-- Of all words that lead to a place that of its step comes first. -/
theorem word_least {n K s : Nat} {ld : Nat → Nat → Nat} (hs : s < n) (hK : K ≤ 1000) (hld : ∀ p x, p < n → x < K → ld p x < n) : ∀ (m : Nat) (u : List Nat), u.length = m → (∀ x ∈ u, x < K) →
    ∃ j, j < (bfsTo ld K s n).length ∧ plB (bfsTo ld K s n) j = ((u.foldl ld s : Nat) : Int) ∧ SLe (wordB (bfsTo ld K s n) j) (u.map fun x : Nat => (x : Int)) := by
  have hg := GoodB.bfs (n := n) (K := K) (s := s) (ld := ld) hs hK hld n
  have hT := hg.tree
  have hO := OrdB.bfs ld K s n
  intro m
  induction m with
  | zero =>
    intro u hl _
    obtain rfl : u = [] := List.eq_nil_of_length_eq_zero hl
    obtain ⟨z1, z2⟩ := bfs_zero ld K s n
    exact ⟨0, z1, z2, .inl (by rw [wordB_root hT]; rfl)⟩
  | succ m ih =>
    intro u hl hu
    obtain ⟨u', x, rfl⟩ : ∃ u' x, u = u' ++ [x] := by
      have hne : u ≠ [] := fun e => by subst e; simp at hl
      exact ⟨u.dropLast, u.getLast hne, (List.dropLast_concat_getLast hne).symm⟩
    obtain ⟨i, hi, hp, hw⟩ := ih u' (by simp at hl; omega) (fun y hy => hu y (by simp [hy]))
    have hx := hu x (by simp)
    obtain ⟨j, hj, hpj, hord⟩ := bfs_first hs hK hld i _ x hi hp hx
    refine ⟨j, hj, by rw [hpj, List.foldl_append]; rfl, ?_⟩
    rw [List.map_append]
    show SLe _ ((u'.map fun x : Nat => (x : Int)) ++ [(x : Int)])
    rcases Nat.eq_zero_or_pos j with e | e
    · subst e
      rw [wordB_root hT]
      exact .inr (.inl (by simp))
    · obtain ⟨b1, b2⟩ := hT.2.2 j e hj
      rw [wordB_step hT e hj]
      rcases hord with h | h | ⟨h, h'⟩
      · omega
      · have h1 := words_rise hT hO i (frB (bfsTo ld K s n) j).toNat (by omega) hi
        exact .inr ((h1.snoc _ (x : Int)).le (hw.snoc _))
      · rw [h, Int.toNat_natCast]
        rcases Int.lt_or_eq_of_le h' with h2 | h2
        · exact .inr ((SL.last _ h2).le (hw.snoc _))
        · rw [h2]; exact hw.snoc _
end Go.Proofs.YtfhcbgdonombaaaDoor
namespace Go.Proofs.YtfhcbgdonombaaaDoor
open Go.RowKit Go.Shelf
attribute [local go_sem] Oper.semAt_some
/-- The search from a state of an automaton. -/
def bfsM (m : List (List Int)) (s : Nat) : Steps := bfsTo (fun p x => nx m p (x : Int)) (letters m) s m.length
end Go.Proofs.YtfhcbgdonombaaaDoor
namespace Go.Proofs.YtfhcbgdonombaaaDoor
open Go.RowKit Go.Shelf
theorem nat_word {m : List (List Int)} {u : List Int} (h : u.all (inB 0 ((letters m : Int) - 1)) = true) : ∀ x ∈ u.map Int.toNat, x < letters m := by
  intro x hx
  obtain ⟨y, hy, rfl⟩ := List.mem_map.1 hx
  have h1 := List.all_eq_true.1 h y hy
  unfold inB at h1
  simp at h1; omega
theorem ldM_ok {m : List (List Int)} (hv : validM m = true) : ∀ p x, p < m.length → x < letters m → nx m p (x : Int) < m.length := fun p x hp hx => by
  obtain ⟨p1, p2, p3, p4, p5⟩ := valid_parts hv
  exact (nx_ok hv hp (x := (x : Int)) (by omega) (by omega)).1
end Go.Proofs.YtfhcbgdonombaaaDoor
namespace Go.Proofs.YtfhcbgdonombaaaDoor
open Go.RowKit Go.Shelf
/-- The letters of the steps but the first one are letters. -/
def LetB (K : Nat) (B : Steps) : Prop := ∀ k, 0 < k → k < B.length → 0 ≤ leB B k ∧ leB B k < K
theorem LetB.add {K : Nat} {B : Steps} (h : LetB K B) (ld : Nat → Nat → Nat) (p i : Nat) {x : Nat} (hx : x < K) : LetB K (addB ld B p i x) := by
  unfold addB
  split
  · exact h
  · obtain ⟨s1, s2, s3⟩ := snoc_pl B (ld p x) (i : Int) (x : Int)
    have hpre : B <+: B ++ [(((ld p x : Nat) : Int), (i : Int), (x : Int))] := List.prefix_append _ _
    intro k h0 hk
    by_cases e : k < B.length
    · rw [(pre_pl hpre k e).2.2]; exact h k h0 e
    · have e2 : k = B.length := by rw [List.length_append] at hk; simp at hk; omega
      subst e2
      rw [s3]; omega
theorem LetB.row {K : Nat} {B : Steps} (h : LetB K B) (ld : Nat → Nat → Nat) (p i : Nat) : ∀ x, x ≤ K → LetB K (rowB ld B p i x)
  | 0, _ => h
  | x + 1, hx => (LetB.row h ld p i x (by omega)).add ld p i (by omega)
theorem LetB.bfs (ld : Nat → Nat → Nat) (K s : Nat) : ∀ i, LetB K (bfsTo ld K s i)
  | 0 => fun k h0 hk => by simp [bfsTo] at hk; omega
  | i + 1 => by
    have ih := LetB.bfs ld K s i
    have e : bfsTo ld K s (i + 1) = (if i < (bfsTo ld K s i).length then rowB ld (bfsTo ld K s i) (plB (bfsTo ld K s i) i).toNat i K else bfsTo ld K s i) := rfl
    rw [e]
    split
    · exact ih.row ld _ i K (Nat.le_refl _)
    · exact ih
theorem word_letters {K : Nat} {B : Steps} (hT : TreeB B) (hL : LetB K B) : ∀ j, j < B.length → (wordB B j).all (inB 0 ((K : Int) - 1)) = true := by
  intro j
  induction j using Nat.strongRecOn with
  | _ j ih =>
    intro hj
    rcases Nat.eq_zero_or_pos j with e | e
    · subst e; rw [wordB_root hT]; rfl
    · obtain ⟨b1, b2⟩ := hT.2.2 j e hj
      obtain ⟨l1, l2⟩ := hL j e hj
      rw [wordB_step hT e hj, List.all_append, ih (frB B j).toNat (by omega) (by omega)]
      simp only [List.all_cons, List.all_nil, Bool.and_true, Bool.true_and]
      exact inB_true ⟨l1, by omega⟩
end Go.Proofs.YtfhcbgdonombaaaDoor
namespace Go.Proofs.YtfhcbgdonombaaaDoor
open Go.RowKit Go.Shelf
/-- The row of the lengths behind k steps. -/
def lensTo (F : Steps) (n : Nat) : Nat → List Int
  | 0 => List.replicate n 0
  | k + 1 => (lensTo F n k).set (plB F k).toNat ((wordB F k).length : Int)
theorem SLe.len {a b : List Int} (h : SLe a b) : a.length ≤ b.length := by
  rcases h with rfl | h | ⟨h, _⟩ <;> omega
/-- The lengths of the shortest words from state 0. -/
def lensM (m : List (List Int)) : List Int := lensTo (bfsM m 0) m.length (bfsM m 0).length
/-- How much longer the way by a letter is. -/
def excM (L : List Int) (m : List (List Int)) (s x : Nat) : Nat := (L.getD s 0 + 1 - L.getD (nx m s (x : Int)) 0).toNat
def gRow (L : List Int) (m : List (List Int)) (s d : Nat) : Nat → Nat
  | 0 => d
  | x + 1 => Nat.gcd (excM L m s x) (gRow L m s d x)
def gAll (L : List Int) (m : List (List Int)) : Nat → Nat
  | 0 => 0
  | s + 1 => gRow L m s (gAll L m s) (letters m)
/-- The period. -/
def perM (m : List (List Int)) : Nat := gAll (lensM m) m m.length
section
variable {m : List (List Int)} (hv : validM m = true) (hc : connM m = true)
include hv hc
end
end Go.Proofs.YtfhcbgdonombaaaDoor
namespace Go.Proofs.YtfhcbgdonombaaaDoor
open Go.RowKit Go.Shelf
theorem lexLt_irrefl : ∀ a : List Int, ¬ lexLt a a
  | [], h => h
  | x :: a, h => by
    rcases h with h | ⟨_, h⟩
    · omega
    · exact lexLt_irrefl a h
end Go.Proofs.YtfhcbgdonombaaaDoor
namespace Go.Proofs.YtfhcbgdonombaaaDoor
open Go.RowKit Go.Shelf
attribute [local go_sem] Oper.semAt_some
theorem ownsRow_slice {w : World} {base : Nat} {e : TypeId} {s : Nat} {v : Value} {n : Nat} {xs : List Value} (h : w.ownsRow base e s v n xs) : ∃ A cap, v = .slice A n cap := by
  rcases h.2 with ⟨hu, h0⟩ | ⟨g, cap, cur, hv, _⟩
  · exact ⟨none, 0, by rw [hu, h0]⟩
  · exact ⟨_, cap, hv⟩
end Go.Proofs.YtfhcbgdonombaaaDoor
namespace Go.Proofs.YtfhcbgdonombaaaDoor
open Go.RowKit Go.Shelf
/-- A list by a function. -/
def Lf (n : Nat) (f : Nat → Int) : List Int := (List.range n).map f
theorem Lf_congr {n : Nat} {f g : Nat → Int} (h : ∀ i, i < n → f i = g i) : Lf n f = Lf n g := List.map_congr_left fun i hi => h i (List.mem_range.1 hi)
theorem Lf_set {n : Nat} (f : Nat → Int) (s : Nat) (v : Int) : (Lf n f).set s v = Lf n (fun i => if i = s then v else f i) := by
  apply List.ext_getElem
  · simp [Lf]
  · intro i h1 h2
    rw [List.getElem_set]
    simp only [Lf, List.getElem_map, List.getElem_range]
    by_cases e : s = i
    · rw [if_pos e, if_pos e.symm]
    · rw [if_neg e, if_neg (fun h => e h.symm)]
end Go.Proofs.YtfhcbgdonombaaaDoor
namespace Go.Proofs.YtfhcbgdonombaaaDoor
open Go.RowKit Go.Shelf
theorem least_nat {p : Nat → Prop} : ∀ n, p n → ∃ k, p k ∧ k ≤ n ∧ ∀ j, p j → ¬ j < k := by
  intro n
  induction n using Nat.strongRecOn with
  | _ n ih =>
    intro hn
    by_cases h : ∃ j, p j ∧ j < n
    · obtain ⟨j, hj, hlt⟩ := h
      obtain ⟨k, h1, h2, h3⟩ := ih j hlt hj
      exact ⟨k, h1, by omega, h3⟩
    · exact ⟨n, hn, Nat.le_refl _, fun j hj hlt => h ⟨j, hj, hlt⟩⟩
theorem pigeon {n k : Nat} (f : Nat → Nat) (hf : ∀ i, i ≤ k → f i < n) (hk : n ≤ k) : ∃ i j, i < j ∧ j ≤ k ∧ f i = f j := by
  apply Classical.byContradiction
  intro hno
  have hnd : ((List.range (k + 1)).map fun i => ((f i : Nat) : Int)).Nodup := by
    unfold List.Nodup
    rw [List.pairwise_map]
    refine List.Pairwise.imp_of_mem (fun {i j} _ hj hlt e => hno ⟨i, j, hlt, ?_, by omega⟩) List.pairwise_lt_range
    have := List.mem_range.1 hj
    omega
  have := nodup_len n _ hnd (fun x hx => by
    obtain ⟨i, hi, rfl⟩ := List.mem_map.1 hx
    have h1 := List.mem_range.1 hi
    have h2 := hf i (by omega)
    omega)
  simp at this
  omega
section
variable {m : List (List Int)} (hv : validM m = true) (hc : connM m = true) (hp : perM m = 1)
include hv hc hp
end
end Go.Proofs.YtfhcbgdonombaaaDoor
namespace Go.Proofs.YtfhcbgdonombaaaDoor
open Go.RowKit Go.Shelf
/-- A word of k letters merges the two states. -/
def mergeP (m : List (List Int)) (p q k : Nat) : Prop := ∃ u : List Int, u.all (inB 0 ((letters m : Int) - 1)) = true ∧ u.length = k ∧ runM m p u = runM m q u
theorem mergeP_zero {m : List (List Int)} {p q : Nat} : mergeP m p q 0 ↔ p = q := by
  constructor
  · rintro ⟨u, _, h2, h3⟩
    obtain rfl : u = [] := List.length_eq_zero_iff.1 h2
    exact h3
  · rintro rfl; exact ⟨[], rfl, rfl, rfl⟩
theorem mergeP_cons {m : List (List Int)} {p q x k : Nat} (hx : x < letters m) (h : mergeP m (nx m p (x : Int)) (nx m q (x : Int)) k) : mergeP m p q (k + 1) := by
  obtain ⟨u, h1, h2, h3⟩ := h
  refine ⟨(x : Int) :: u, ?_, by simp [h2], h3⟩
  rw [List.all_cons, h1, Bool.and_true]
  exact inB_true ⟨by omega, by omega⟩
theorem mergeP_head {m : List (List Int)} {p q k : Nat} (h : mergeP m p q (k + 1)) : ∃ x, x < letters m ∧ mergeP m (nx m p (x : Int)) (nx m q (x : Int)) k := by
  obtain ⟨u, h1, h2, h3⟩ := h
  cases u with
  | nil => simp at h2
  | cons y u =>
    obtain ⟨hy, hu⟩ := all_cons_parts h1
    obtain ⟨x, rfl⟩ := Int.eq_ofNat_of_zero_le hy.1
    exact ⟨x, by omega, u, hu, by simpa using h2, h3⟩
theorem mergeP_symm {m : List (List Int)} {p q k : Nat} (h : mergeP m p q k) : mergeP m q p k := by
  obtain ⟨u, h1, h2, h3⟩ := h
  exact ⟨u, h1, h2, h3.symm⟩
/-- A shortest word that merges the two states has k letters. -/
def mdist (m : List (List Int)) (p q k : Nat) : Prop := mergeP m p q k ∧ ∀ i, i < k → ¬ mergeP m p q i
theorem mdist_symm {m : List (List Int)} {p q k : Nat} (h : mdist m p q k) : mdist m q p k := ⟨mergeP_symm h.1, fun i hi k => h.2 i hi (mergeP_symm k)⟩
theorem mdist_zero {m : List (List Int)} {p q : Nat} : mdist m p q 0 ↔ p = q := by
  constructor
  · exact fun h => mergeP_zero.1 h.1
  · exact fun h => ⟨mergeP_zero.2 h, fun i hi => by omega⟩
theorem mdist_unique {m : List (List Int)} {p q i j : Nat} (h : mdist m p q i) (k : mdist m p q j) : i = j := by
  rcases Nat.lt_trichotomy i j with e | e | e
  · exact absurd h.1 (k.2 i e)
  · exact e
  · exact absurd k.1 (h.2 j e)
theorem mdist_some {m : List (List Int)} {p q k : Nat} (h : mergeP m p q k) : ∃ j, j ≤ k ∧ mdist m p q j := by
  obtain ⟨j, h1, h2, h3⟩ := least_nat (p := mergeP m p q) k h
  exact ⟨j, h2, h1, fun i hi hp => h3 i hp hi⟩
theorem mdist_step {m : List (List Int)} {p q k : Nat} (h : mdist m p q (k + 1)) : ∃ x, x < letters m ∧ mdist m (nx m p (x : Int)) (nx m q (x : Int)) k := by
  obtain ⟨x, hx, he⟩ := mergeP_head h.1
  exact ⟨x, hx, he, fun i hi h2 => h.2 (i + 1) (by omega) (mergeP_cons hx h2)⟩
theorem mdist_up {m : List (List Int)} {p q x k : Nat} (hx : x < letters m) (h : mdist m (nx m p (x : Int)) (nx m q (x : Int)) k) (hn : ∀ i, i ≤ k → ¬ mergeP m p q i) : mdist m p q (k + 1) := ⟨mergeP_cons hx h.1, fun i hi => hn i (by omega)⟩
/-- Where there is a length, there are all the shorter ones. -/
theorem mdist_down {m : List (List Int)} (hv : validM m = true) : ∀ k p q, p < m.length → q < m.length → mdist m p q k → ∀ j, j ≤ k → ∃ p' q', p' < m.length ∧ q' < m.length ∧ mdist m p' q' j
  | 0, p, q, hp, hq, h, j, hj => ⟨p, q, hp, hq, by rw [show j = 0 by omega]; exact h⟩
  | k + 1, p, q, hp, hq, h, j, hj => by
    by_cases e : j = k + 1
    · subst e; exact ⟨p, q, hp, hq, h⟩
    · obtain ⟨x, hx, h2⟩ := mdist_step h
      exact mdist_down hv k _ _ (ldM_ok hv p x hp hx) (ldM_ok hv q x hq hx) h2 j (by omega)
theorem mdist_lt {m : List (List Int)} (hv : validM m = true) {p q k : Nat} (hp : p < m.length) (hq : q < m.length) (h : mdist m p q k) : k < m.length * m.length := by
  apply Classical.byContradiction
  intro hk
  have hf : ∀ j, ∃ c, j ≤ k → ∃ p' q', p' < m.length ∧ q' < m.length ∧ mdist m p' q' j ∧ c = p' * m.length + q' := fun j => by
    by_cases hj : j ≤ k
    · obtain ⟨p', q', h1, h2, h3⟩ := mdist_down hv k p q hp hq h j hj
      exact ⟨_, fun _ => ⟨p', q', h1, h2, h3, rfl⟩⟩
    · exact ⟨0, fun h => absurd h hj⟩
  obtain ⟨f, hf⟩ := Classical.axiomOfChoice hf
  obtain ⟨i, j, h1, h2, h3⟩ := pigeon (n := m.length * m.length) (k := k) f (fun i hi => by
    obtain ⟨p', q', a1, a2, _, a4⟩ := hf i hi
    rw [a4]
    have := Nat.mul_le_mul_right m.length (show p' + 1 ≤ m.length by omega)
    rw [Nat.succ_mul] at this
    omega) (by omega)
  obtain ⟨p1, q1, a1, a2, a3, a4⟩ := hf i (by omega)
  obtain ⟨p2, q2, b1, b2, b3, b4⟩ := hf j h2
  rw [a4, b4] at h3
  have e1 : p1 = p2 := by
    have := congrArg (· / m.length) h3
    simp only [Nat.add_comm (_ * _), Nat.add_mul_div_right _ _ (show 0 < m.length by omega), Nat.div_eq_of_lt a2, Nat.div_eq_of_lt b2] at this
    omega
  subst e1
  have e2 : q1 = q2 := by omega
  subst e2
  have := mdist_unique a3 b3
  omega
/-- Behind k rounds: the length of a shortest word, or -1. -/
def mlenAt (m : List (List Int)) : Nat → Nat → Nat → Int
  | 0, p, q => if p = q then 0 else -1
  | k + 1, p, q => if 0 ≤ mlenAt m k p q then mlenAt m k p q else if (List.range (letters m)).any (fun x : Nat => mlenAt m k (nx m p (x : Int)) (nx m q (x : Int)) == (k : Int)) then (k : Int) + 1 else -1
theorem mlenAt_spec (m : List (List Int)) : ∀ k p q, (mlenAt m k p q = -1 ∧ ∀ i, i ≤ k → ¬ mergeP m p q i) ∨ ∃ j : Nat, j ≤ k ∧ mlenAt m k p q = j ∧ mdist m p q j
  | 0, p, q => by
    by_cases e : p = q
    · exact .inr ⟨0, Nat.le_refl _, by simp [mlenAt, e], mdist_zero.2 e⟩
    · refine .inl ⟨by simp [mlenAt, e], fun i hi h => ?_⟩
      obtain rfl : i = 0 := by omega
      exact e (mergeP_zero.1 h)
  | k + 1, p, q => by
    have ih := mlenAt_spec m k
    rcases ih p q with ⟨h1, h2⟩ | ⟨j, h1, h2, h3⟩
    · have hneg : ¬ (0 : Int) ≤ mlenAt m k p q := by rw [h1]; omega
      cases hany : (List.range (letters m)).any (fun x : Nat => mlenAt m k (nx m p (x : Int)) (nx m q (x : Int)) == (k : Int)) with
      | true =>
        obtain ⟨x, hx, he⟩ := List.any_eq_true.1 hany
        have hx' := List.mem_range.1 hx
        have he' : mlenAt m k (nx m p (x : Int)) (nx m q (x : Int)) = (k : Int) := beq_iff_eq.1 he
        rcases ih (nx m p (x : Int)) (nx m q (x : Int)) with ⟨a1, _⟩ | ⟨j, a1, a2, a3⟩
        · omega
        · obtain rfl : j = k := by omega
          refine .inr ⟨j + 1, Nat.le_refl _, ?_, mdist_up hx' a3 h2⟩
          simp only [mlenAt]
          rw [if_neg hneg, if_pos hany]; rfl
      | false =>
        refine .inl ⟨?_, fun i hi h => ?_⟩
        · simp only [mlenAt]
          rw [if_neg hneg, hany]; rfl
        · by_cases e : i ≤ k
          · exact h2 i e h
          · obtain rfl : i = k + 1 := by omega
            obtain ⟨x, hx, hxe⟩ := mergeP_head h
            have hne := List.any_eq_false.1 hany x (List.mem_range.2 hx)
            rcases ih (nx m p (x : Int)) (nx m q (x : Int)) with ⟨a1, a2⟩ | ⟨j, a1, a2, a3⟩
            · exact a2 k (Nat.le_refl _) hxe
            · by_cases e2 : j = k
              · subst e2
                rw [a2] at hne
                simp at hne
              · exact h2 (j + 1) (by omega) (mergeP_cons hx a3.1)
    · refine .inr ⟨j, by omega, ?_, h3⟩
      simp only [mlenAt]
      rw [if_pos (by omega)]
      exact h2
/-- The length of a shortest word that merges, or -1. -/
def mlen (m : List (List Int)) (p q : Nat) : Int := mlenAt m (m.length * m.length) p q
theorem mlen_spec {m : List (List Int)} (hv : validM m = true) {p q : Nat} (hp : p < m.length) (hq : q < m.length) : (mlen m p q = -1 ∧ ∀ k, ¬ mergeP m p q k) ∨ ∃ j : Nat, j < m.length * m.length ∧ mlen m p q = j ∧ mdist m p q j := by
  rcases mlenAt_spec m (m.length * m.length) p q with ⟨h1, h2⟩ | ⟨j, h1, h2, h3⟩
  · refine .inl ⟨h1, fun k h => ?_⟩
    obtain ⟨j, hj, hd⟩ := mdist_some h
    exact h2 j (by have := mdist_lt hv hp hq hd; omega) hd.1
  · exact .inr ⟨j, mdist_lt hv hp hq h3, h2, h3⟩
theorem mlen_of {m : List (List Int)} (hv : validM m = true) {p q j : Nat} (hp : p < m.length) (hq : q < m.length) (h : mdist m p q j) : mlen m p q = j := by
  rcases mlen_spec hv hp hq with ⟨_, h2⟩ | ⟨i, h1, h2, h3⟩
  · exact absurd h.1 (h2 j)
  · rw [h2, mdist_unique h3 h]
end Go.Proofs.YtfhcbgdonombaaaDoor
namespace Go.Proofs.YtfhcbgdonombaaaDoor
open Go.RowKit Go.Shelf
/-- The value v is a list of k rows; row p lies in block B p and holds f p 0, .., f p (n - 1). -/
structure Tbl (W : World) (n₀ : Nat) (v : Value) (n k : Nat) (B : Nat → Nat) (f : Nat → Nat → Int) : Prop where
  outer : W.ownsRow n₀ 25 1 v k ((List.range k).map fun p => .slice (some ⟨B p, 0, none⟩) n n)
  inner : ∀ p, p < k → W.ownsRow n₀ 3 1 (.slice (some ⟨B p, 0, none⟩) n n) n ((Lf n (f p)).map fun x => .int .i64 x)
  apart : ∀ p, p < k → v.ownBlock ≠ some (B p)
  inj : ∀ p q, p < k → q < k → B p = B q → p = q
section
variable {W W' : World} {n₀ n k : Nat} {v : Value} {B : Nat → Nat} {f : Nat → Nat → Int}
theorem Tbl.kept (h : Tbl W n₀ v n k B f) (hk : ∀ b, n₀ ≤ b → b < W.heap.size → W'.heap[b]? = W.heap[b]?) : Tbl W' n₀ v n k B f :=
  ⟨owns_kept h.outer hk, fun p hp => owns_kept (h.inner p hp) hk, h.apart, h.inj⟩
theorem Tbl.below (h : Tbl W n₀ v n k B f) (hb : Below W.heap.size W W') : Tbl W' n₀ v n k B f := h.kept fun b _ hs => hb.block b hs
theorem Tbl.congr {g : Nat → Nat → Int} (h : Tbl W n₀ v n k B f) (e : ∀ p q, p < k → q < n → f p q = g p q) : Tbl W n₀ v n k B g :=
  ⟨h.outer, fun p hp => by rw [← Lf_congr (n := n) (f := f p) (g := g p) fun q hq => e p q hp hq]; exact h.inner p hp, h.apart, h.inj⟩
variable {g c : Nat}
theorem Tbl.cell (h : Tbl W n₀ (.slice (some ⟨g, 0, none⟩) k c) n k B f) {p : Nat} (hp : p < k) : W.cell? ⟨g, p, none⟩ = some (.slice (some ⟨B p, 0, none⟩) n n) := by
  rw [h.outer.cellAt p (by omega)]
  simp [List.getElem?_map, List.getElem?_range hp]
theorem Tbl.free (h : Tbl W n₀ v n k B f) {p : Nat} (hp : p < k) (q : Nat) : W.frozen? ⟨B p, q, none⟩ = false := (h.inner p hp).frozenAt q
/-- A number is stored. -/
theorem Tbl.set (h : Tbl W n₀ v n k B f) {p q : Nat} (hp : p < k) (x : Int) : Tbl (W.setCell ⟨B p, q, none⟩ (.int .i64 x)) n₀ v n k B (fun a b => if a = p ∧ b = q then x else f a b) := by
  obtain ⟨h1, h2⟩ := (h.inner p hp).stored q (.int .i64 x)
  refine ⟨h.outer.kept h2 (.inr (h.apart p hp)), fun a ha => ?_, h.apart, h.inj⟩
  by_cases e : a = p
  · subst e
    rw [← List.map_set (f := fun x => Value.int .i64 x), Lf_set] at h1
    refine cast ?_ h1
    congr 2
    exact Lf_congr fun i _ => by simp
  · have : (Lf n fun b => if a = p ∧ b = q then x else f a b) = Lf n (f a) := Lf_congr fun i _ => by rw [if_neg (fun h => e h.1)]
    rw [show (fun b => if a = p ∧ b = q then x else f a b) = fun b => (fun a b => if a = p ∧ b = q then x else f a b) a b from rfl] at this
    rw [this]
    refine (h.inner a ha).kept h2 (.inr ?_)
    intro e2
    simp only [Value.ownBlock, Option.some.injEq] at e2
    exact e (h.inj a p ha hp e2)
end
/-- The reference's table within round k + 1: the pairs before (p, q) are done. -/
def mixT (m : List (List Int)) (k p q a b : Nat) : Int := if a < p ∨ (a = p ∧ b < q) then mlenAt m (k + 1) a b else mlenAt m k a b
theorem mixT_step (m : List (List Int)) (k p q a b : Nat) : mixT m k p (q + 1) a b = if a = p ∧ b = q then mlenAt m (k + 1) p q else mixT m k p q a b := by
  unfold mixT
  by_cases e : a = p ∧ b = q
  · rw [if_pos e, if_pos (by omega), e.1, e.2]
  · rw [if_neg e]
    by_cases e2 : a < p ∨ (a = p ∧ b < q)
    · rw [if_pos e2, if_pos (by omega)]
    · rw [if_neg e2, if_neg (by omega)]
theorem mixT_row (m : List (List Int)) {n k p a b : Nat} (hb : b < n) : mixT m k p n a b = mixT m k (p + 1) 0 a b := by
  unfold mixT
  by_cases e2 : a < p ∨ (a = p ∧ b < n)
  · rw [if_pos e2, if_pos (by omega)]
  · rw [if_neg e2, if_neg (by omega)]
end Go.Proofs.YtfhcbgdonombaaaDoor
namespace Go.Proofs.YtfhcbgdonombaaaDoor
open Go.RowKit Go.Shelf
/-- Within round k + 1, before the pair (p, q): whether something has changed. -/
def moreB (m : List (List Int)) (k p q : Nat) (b : Bool) : Prop :=
  (b = true → ∃ a c, a < m.length ∧ c < m.length ∧ mdist m a c (k + 1)) ∧ (b = false → ∀ a c, a < m.length → c < m.length → mixT m k p q a c = mlenAt m k a c)
theorem moreB.same {m : List (List Int)} {k p q : Nat} {b : Bool} (h : moreB m k p q b) (hs : mlenAt m (k + 1) p q = mlenAt m k p q) : moreB m k p (q + 1) b := by
  refine ⟨h.1, fun hb a c ha hc => ?_⟩
  rw [mixT_step]
  by_cases e : a = p ∧ c = q
  · rw [if_pos e, hs, e.1, e.2]
  · rw [if_neg e]; exact h.2 hb a c ha hc
theorem moreB.row {m : List (List Int)} {k p : Nat} {b : Bool} (h : moreB m k p m.length b) : moreB m k (p + 1) 0 b :=
  ⟨h.1, fun hb a c ha hc => by rw [← mixT_row m hc]; exact h.2 hb a c ha hc⟩
theorem infoRows : (Tryd.prog.info? 25).map (fun i => (i.zero, i.size, i.bytes)) = some (some (.slice none 0 0), 1, 24) := by kernel_rfl
end Go.Proofs.YtfhcbgdonombaaaDoor
namespace Go.Proofs.YtfhcbgdonombaaaDoor
open Go.RowKit Go.Shelf
theorem Ints.off {W : World} {b o n c k o' : Nat} {l : List Int} {x : Value} (h : Ints W (.slice (some ⟨b, o, none⟩) n c) l) (hk : b ≠ k) : Ints (W.setCell ⟨k, o', none⟩ x) (.slice (some ⟨b, o, none⟩) n c) l := by
  obtain ⟨A, cap, hv, hl, hc⟩ := h
  refine ⟨A, cap, hv, hl, fun i hi => ?_⟩
  obtain ⟨b', off, hA, hcell⟩ := hc i hi
  refine ⟨b', off, hA, ?_⟩
  simp only [Value.slice.injEq] at hv
  rw [← hv.1] at hA
  simp only [Option.some.injEq, Addr.mk.injEq, and_true] at hA
  obtain ⟨rfl, rfl⟩ := hA
  exact (World.cell?_of_block (Below.heap_setCell _ _ _ _ hk)).trans hcell
/-- The rows of a table that is being made, each of two numbers: the first k are there. -/
def rowsC (n k : Nat) (B : Nat → Nat) : List Value := (List.range n).map fun p => if p < k then .slice (some ⟨B p, 0, none⟩) 2 2 else .slice none 0 0
structure RTb (W : World) (n₀ g n k : Nat) (B : Nat → Nat) (f : Nat → List Int) : Prop where
  outer : W.ownsRow n₀ 25 1 (.slice (some ⟨g, 0, none⟩) n n) n (rowsC n k B)
  inner : ∀ p, p < k → Ints W (.slice (some ⟨B p, 0, none⟩) 2 2) (f p)
  apart : ∀ p, p < k → B p ≠ g ∧ n₀ ≤ B p
section
variable {W W' : World} {n₀ g n k : Nat} {B : Nat → Nat} {f : Nat → List Int}
theorem RTb.new (h : W.ownsRow n₀ 25 1 (.slice (some ⟨g, 0, none⟩) n n) n (List.replicate n (.slice none 0 0))) : RTb W n₀ g n 0 B f := by
  refine ⟨?_, fun p hp => by omega, fun p hp => by omega⟩
  have e : rowsC n 0 B = List.replicate n (.slice none 0 0) := by
    apply List.ext_getElem
    · simp [rowsC]
    · intro i h1 h2; simp [rowsC]
  rw [e]; exact h
theorem RTb.below (h : RTb W n₀ g n k B f) (hb : Below W.heap.size W W') : RTb W' n₀ g n k B f :=
  ⟨owns_kept h.outer fun b _ hs => hb.block b hs, fun p hp => (h.inner p hp).below hb, h.apart⟩
theorem RTb.lt (h : RTb W n₀ g n k B f) : n₀ ≤ g ∧ g < W.heap.size := ownq_lt h.outer
/-- A row is stored: the next one, or in the place of one that was there. -/
theorem RTb.row {p b k' : Nat} {l : List Int} (h : RTb W n₀ g n k B f) (hp : p ≤ k) (hk' : k' = if p = k then k + 1 else k) (hb : b ≠ g ∧ n₀ ≤ b) (hl : Ints W (.slice (some ⟨b, 0, none⟩) 2 2) l) :
    RTb (W.setCell ⟨g, p, none⟩ (.slice (some ⟨b, 0, none⟩) 2 2)) n₀ g n k' (fun i => if i = p then b else B i) (fun i => if i = p then l else f i) := by
  obtain ⟨s1, -⟩ := h.outer.stored p (.slice (some ⟨b, 0, none⟩) 2 2)
  have hlt : ∀ i, i < k' → i ≠ p → i < k := fun i hi hne => by
    by_cases e : p = k
    · rw [if_pos e] at hk'; omega
    · rw [if_neg e] at hk'; omega
  refine ⟨?_, fun i hi => ?_, fun i hi => ?_⟩
  · refine cast ?_ s1
    congr 1
    apply List.ext_getElem
    · simp [rowsC]
    · intro i h1 h2
      rw [List.getElem_set]
      by_cases e : p = i
      · subst e
        have : p < k' := by
          by_cases e2 : p = k
          · rw [if_pos e2] at hk'; omega
          · rw [if_neg e2] at hk'; omega
        simp [rowsC, this]
      · rw [if_neg e]
        simp only [rowsC, List.getElem_map, List.getElem_range]
        have e' : ¬ i = p := fun h => e h.symm
        simp only [e', if_false]
        by_cases e2 : i < k
        · rw [if_pos e2, if_pos (by
            by_cases e3 : p = k
            · rw [if_pos e3] at hk'; omega
            · rw [if_neg e3] at hk'; omega)]
        · rw [if_neg e2, if_neg (fun h3 => e2 (hlt i h3 e'))]
  · by_cases e : i = p
    · subst e; simp only [if_true]; exact hl.off hb.1
    · simp only [if_neg e]; exact (h.inner i (hlt i hi e)).off (h.apart i (hlt i hi e)).1
  · by_cases e : i = p
    · subst e; simp only [if_true]; exact hb
    · simp only [if_neg e]; exact h.apart i (hlt i hi e)
theorem RTb.other {c : Nat} {u : Value} (h : RTb W n₀ g n k B f) (hc : c < n₀) : RTb (W.setCell ⟨c, 0, none⟩ u) n₀ g n k B f :=
  ⟨owns_block h.outer (Below.heap_setCell _ _ _ _ (by have := h.lt; simp; omega)), fun p hp => (h.inner p hp).off (by have := (h.apart p hp).2; omega), h.apart⟩
theorem RTb.cell (h : RTb W n₀ g n k B f) {p : Nat} (hp : p < n) : W.cell? ⟨g, p, none⟩ = some (if p < k then .slice (some ⟨B p, 0, none⟩) 2 2 else .slice none 0 0) := by
  rw [h.outer.cellAt p (by omega)]
  simp [rowsC, List.getElem?_map, List.getElem?_range hp]
theorem RTb.free (h : RTb W n₀ g n k B f) (p : Nat) : W.frozen? ⟨g, p, none⟩ = false := h.outer.frozenAt p
theorem RTb.rows (h : RTb W n₀ g n n B f) (hn : n ≤ 1000) : Rows W (.slice (some ⟨g, 0, none⟩) n n) ((List.range n).map f) := by
  refine ⟨some ⟨g, 0, none⟩, n, by simp, by unfold big; simp; omega, fun i hi => ?_⟩
  simp only [List.length_map, List.length_range] at hi
  refine ⟨g, 0, .slice (some ⟨B i, 0, none⟩) 2 2, rfl, ?_, ?_⟩
  · rw [Nat.zero_add, h.cell hi, if_pos hi]
  · have e : ((List.range n).map f).getD i [] = f i := by simp [List.getD_eq_getElem?_getD, List.getElem?_map, List.getElem?_range hi]
    rw [e]; exact h.inner i hi
end
/-- The automaton of n states. -/
def cernyM (n : Nat) : List (List Int) := (List.range n).map fun s : Nat => if s = n - 1 then [0, 0] else [((s : Int) + 1), (s : Int)]
set_option maxRecDepth 100000 in
set_option maxHeartbeats 2000000 in
theorem Cerny_any (n : Nat) (w : World) (h2 : 2 ≤ n) (h60 : n ≤ 60) :
    Calls Tryd.prog 17 #[.int .i64 n] w fun e w' => ∃ r, e = .returned (.tuple #[.agg #[r], .int .i64 0]) ∧ Rows w' r (cernyM n) ∧ Below w.heap.size w w' := by
  obtain ⟨i0, hi, hz0, hz1, hz2⟩ := info_parts infoRows
  have hX := bal (Below.refl _ w) (.cells #[.slice none 0 0] 24)
  have q1 := Boxed.new w 24 (.slice none 0 0)
  have hXs : (w.alloc (.cells #[.slice none 0 0] 24)).heap.size = w.heap.size + 1 := by simp
  have d1 : decide ((n : Int) < 2) = false := by simp; omega
  have d2 : decide ((60 : Int) < n) = false := by simp; omega
  go_enter Tryd.func17, Tryd.ntmps17
  go_wp2_with (at_make; go_must (refine wpList_make_full _ rfl _ _ 22 rfl (w.heap.size + 1) 25 i0 (.slice none 0 0) 1 Tryd.underlying22 hi hz0 hz1 .i64 .i64 _ _ n rfl rfl rfl rfl (by rw [hz2]; omega) (by unfold maxLen; omega) (by simp) ?_); intro w1 hown hgrow; rw [show Value.cells (.slice none 0 0) = #[.slice none 0 0] from rfl, toList_madeCells_one, Nat.mul_one] at hown)
  have hB1 := hX.grown hgrow (by simp) (fun q hq => by cases hq)
  have b1 : Boxed w1 w.heap.size 24 (.slice none 0 0) := (hgrow.block w.heap.size (by simp) (by simp)).trans q1
  have hT0 : RTb w1 (w.heap.size + 1) (w.heap.size + 1) n 0 (fun _ => 0) (fun s : Nat => [((s : Int) + 1), (s : Int)]) := RTb.new (by simpa using hown)
  have HB1 := hid hB1
  have Hb1 := hid b1
  have HT0 := hid hT0
  clear hown hgrow hB1 b1 hT0 hX q1
  go_loopw [17] (fun sv wr => ∃ (s : Nat) (B : Nat → Nat), s ≤ n ∧ sv = .int .i64 s ∧ RTb wr (w.heap.size + 1) (w.heap.size + 1) n s B (fun s : Nat => [((s : Int) + 1), (s : Int)]) ∧ Below w.heap.size w wr ∧ Boxed wr w.heap.size 24 (.slice none 0 0)) (fun sv _ => n - (intOf sv).toNat)
  case atStart => exact ⟨0, _, Nat.zero_le _, rfl, HT0.out, HB1.out, Hb1.out⟩
  case round =>
    clear HT0 HB1 Hb1
    obtain ⟨s, B, hs, rfl, hT, hB, hb⟩ := hrel
    have hlb := hb.lt
    have hTl := hT.lt
    by_cases hlt : s < n
    · have hss : (s : Int) < n := by omega
      have hTa := hT.below (bal (Below.refl _ wr) (.cells #[.int .i64 ((s : Int) + 1), .int .i64 s] 3))
      have hBa := bal hB (.cells #[.int .i64 ((s : Int) + 1), .int .i64 s] 3)
      have hba := hb.alloc (.cells #[.int .i64 ((s : Int) + 1), .int .i64 s] 3)
      have hli := Ints.two' wr ((s : Int) + 1) s 3 _ rfl
      have hrow := hTa.row (Nat.le_refl s) (by rw [if_pos rfl] : s + 1 = if s = s then s + 1 else s) ⟨by omega, by omega⟩ hli
      have hcs := hTa.cell hlt
      rw [if_neg (Nat.lt_irrefl s)] at hcs
      have hfs := hTa.free s
      have hBs := hid (hBa.setCell (p := ⟨w.heap.size + 1, s, none⟩) (by show w.heap.size ≤ w.heap.size + 1; omega) (.slice (some ⟨wr.heap.size, 0, none⟩) 2 2))
      have hbs : Hid (Boxed ((wr.alloc (.cells #[.int .i64 ((s : Int) + 1), .int .i64 s] 3)).setCell ⟨w.heap.size + 1, s, none⟩ (.slice (some ⟨wr.heap.size, 0, none⟩) 2 2)) w.heap.size 24 (.slice none 0 0)) := hid ((Below.heap_setCell _ _ _ _ (by simp)).trans hba)
      have hfe : (fun i : Nat => if i = s then [((s : Int) + 1), (s : Int)] else [((i : Int) + 1), (i : Int)]) = fun i : Nat => [((i : Int) + 1), (i : Int)] := by
        funext i
        by_cases e : i = s
        · subst e; simp
        · simp [e]
      rw [hfe] at hrow
      have hcomm := World.setCell_alloc_past (w := wr) (.cells #[.int .i64 ((s : Int) + 1), .int .i64 s] 3) (w.heap.size + 1) s (.slice (some ⟨wr.heap.size, 0, none⟩) 2 2) hTl.2
      rw [hcomm] at hrow hBs hbs
      clear hcomm
      have HR := hid hrow
      clear hrow hTa hfe hT
      go_wp2
      go_roundw
      case rel => exact ⟨s + 1, _, by omega, by go_num, HR.out, hBs.out, hbs.out⟩
      case measure => simp [intOf]; omega
    · obtain rfl : s = n := by omega
      have hss : ¬ ((s : Nat) : Int) < s := by omega
      have hsub : IntKind.i64.wrap ((s : Int) - 1) = ((s - 1 : Nat) : Int) := by rw [IntWalk.i64_in _ (by omega)]; omega
      have hlt2 : ((s - 1 : Nat) : Int) < s := by omega
      have hTa := hT.below (bal (Below.refl _ wr) (.cells #[.int .i64 0, .int .i64 0] 3))
      have hBa := bal hB (.cells #[.int .i64 0, .int .i64 0] 3)
      have hba := hb.alloc (.cells #[.int .i64 0, .int .i64 0] 3)
      have hli := Ints.two' wr 0 0 3 _ rfl
      have hrow := hTa.row (show s - 1 ≤ s by omega) (by rw [if_neg (by omega)] : s = if s - 1 = s then s + 1 else s) ⟨by omega, by omega⟩ hli
      have hcs := hTa.cell (show s - 1 < s by omega)
      rw [if_pos (show s - 1 < s by omega)] at hcs
      have hfs := hTa.free (s - 1)
      have hBs := (hBa.setCell (p := ⟨w.heap.size + 1, s - 1, none⟩) (by show w.heap.size ≤ w.heap.size + 1; omega) (.slice (some ⟨wr.heap.size, 0, none⟩) 2 2))
      have hbs : Boxed ((wr.alloc (.cells #[.int .i64 0, .int .i64 0] 3)).setCell ⟨w.heap.size + 1, s - 1, none⟩ (.slice (some ⟨wr.heap.size, 0, none⟩) 2 2)) w.heap.size 24 (.slice none 0 0) := (Below.heap_setCell _ _ _ _ (by simp)).trans hba
      have m1 := hbs.cell; have m1f := hbs.frozen
      have hrw := hrow.other (c := w.heap.size) (u := .slice (some ⟨w.heap.size + 1, 0, none⟩) s s) (by omega)
      have hrows := hrw.rows (by omega)
      have he : (List.range s).map (fun i : Nat => if i = s - 1 then ([0, 0] : List Int) else [((i : Int) + 1), (i : Int)]) = cernyM s := rfl
      rw [he] at hrows
      have hfin := (hbs.set (.slice (some ⟨w.heap.size + 1, 0, none⟩) s s)).cell
      have HB := (hBs.setCell (p := ⟨w.heap.size, 0, none⟩) (Nat.le_refl _) (.slice (some ⟨w.heap.size + 1, 0, none⟩) s s))
      have hcomm := World.setCell_alloc_past (w := wr) (.cells #[.int .i64 0, .int .i64 0] 3) (w.heap.size + 1) (s - 1) (.slice (some ⟨wr.heap.size, 0, none⟩) 2 2) hTl.2
      have hcomm2 := World.setCell_alloc_past (w := wr.setCell ⟨w.heap.size + 1, s - 1, none⟩ (.slice (some ⟨wr.heap.size, 0, none⟩) 2 2)) (.cells #[.int .i64 0, .int .i64 0] 3) w.heap.size 0 (.slice (some ⟨w.heap.size + 1, 0, none⟩) s s) (by simp [World.setCell]; omega)
      rw [hcomm] at hrows hfin HB m1 m1f
      rw [hcomm2] at hrows hfin HB
      clear hcomm hcomm2
      have HR := hid hrows
      have HB := hid HB
      clear hrow hrw hrows he hTa hT hBs
      go_wp2
      exact bodyPost_ret (v := .tuple #[.agg #[.slice (some ⟨w.heap.size + 1, 0, none⟩) s s], .int .i64 0]) (by simp [results, Tryd.results17, go_sem, hfin]) rfl ⟨_, rfl, HR.out, HB.out⟩
end Go.Proofs.YtfhcbgdonombaaaDoor
namespace Go.Proofs.YtfhcbgdonombaaaDoor
open Go.RowKit Go.Shelf
attribute [local go_sem] Oper.semAt_some
/-- What is behind the marks of loops over functions: only those marks are turned. -/
def MarksOff (B : Nat) (W W' : World) : Prop := Below B W W' ∧ ∀ (k : Nat) (o : Obj), W.heap[k]? = some o → o.isCells = true → W'.heap[k]? = some o
theorem MarksOff.refl (B : Nat) (W : World) (h : B ≤ W.heap.size) : MarksOff B W W := ⟨(Below.refl _ W).mono h, fun _ _ h _ => h⟩
end Go.Proofs.YtfhcbgdonombaaaDoor
namespace Go.Proofs.YtfhcbgdonombaaaDoor
open Go.RowKit Go.Shelf
theorem take_eq_succ' {l m : List (List Int)} {k : Nat} (hk : k < l.length) (hl : l.length = m.length) (h : l.take k = m.take k) (hx : l.getD k [] = m.getD k []) : l.take (k + 1) = m.take (k + 1) := by
  have hk' : k < m.length := by omega
  rw [List.take_succ_eq_append_getElem hk, List.take_succ_eq_append_getElem hk', h]
  simp only [List.getD_eq_getElem?_getD, List.getElem?_eq_getElem hk, List.getElem?_eq_getElem hk', Option.getD_some] at hx
  rw [hx]
theorem rSame_bool (v u : Value) (l m : List Int) (b : Bool) (w : World) (h : Ints w v l) (hu : Ints w u m) (hb : decide (l = m) = b) :
    Calls Tryd.prog 13 #[v, u] w fun e w' => e = .returned (.bool b) ∧ Below w.heap.size w w' := by
  subst hb; exact rSame_any v u l m w h hu
set_option maxHeartbeats 2000000 in
theorem rSames_any (v u : Value) (l m : List (List Int)) (w : World) (h : Rows w v l) (hu : Rows w u m) :
    Calls Tryd.prog 18 #[v, u] w fun e w' => e = .returned (.bool (decide (l = m))) ∧ Below w.heap.size w w' := by
  obtain ⟨A, cap, rfl, hl, hc⟩ := h
  obtain ⟨Au, capu, rfl, hlu, hcu⟩ := hu
  unfold big at hl hlu
  by_cases hlen : l.length = m.length
  · have hne : ((l.length : Int) != (m.length : Int)) = false := by simp; omega
    have Hlen := hid hlen
    have Hc := hid hc
    have Hcu := hid hcu
    clear hlen hc hcu
    go_enter Tryd.func18, Tryd.ntmps18
    go_wp2
    go_loopw [5] (fun i wr => ∃ k : Nat, k ≤ l.length ∧ i = .int .i64 k ∧ l.take k = m.take k ∧ Below w.heap.size w wr) (fun i _ => l.length - (intOf i).toNat)
    case atStart => exact ⟨0, Nat.zero_le _, rfl, rfl, Below.refl _ _⟩
    case round =>
      obtain ⟨k, hk, rfl, htk, hB⟩ := hrel
      have Htk := hid htk
      clear htk
      by_cases hlt : k < l.length
      · have hle := Hlen.out
        obtain ⟨b, off, r, hA, hcell, hrow⟩ := Hc.out k hlt
        obtain ⟨b', off', r', hA', hcell', hrow'⟩ := Hcu.out k (by omega)
        subst hA
        subst hA'
        have c1 := (hB.cell (p := ⟨b, off + k, none⟩) (World.block_lt_of_cell? _ _ hcell)).trans hcell
        have c2 := (hB.cell (p := ⟨b', off' + k, none⟩) (World.block_lt_of_cell? _ _ hcell')).trans hcell'
        have i1 : (k : Int) < l.length := by omega
        have i2 : (k : Int) < m.length := by omega
        have hr1 := hrow.below hB
        have hr2 := hrow'.below hB
        have Hs := hid (fun hx => take_eq_succ' hlt Hlen.out Htk.out hx)
        have Hf : Hid (l.getD k [] ≠ m.getD k [] → decide (l = m) = false) := hid (fun hx => decide_eq_false (fun e => hx (by rw [e])))
        clear hcell hcell' hle hrow hrow'
        generalize l.getD k [] = x at *
        generalize m.getD k [] = y at *
        obtain ⟨Ax, cx, rfl, _⟩ := id hr1
        obtain ⟨Ay, cy, rfl, _⟩ := id hr2
        cases hxy : decide (x = y) with
        | true =>
          go_wp2_with fail
          go_region_with (go_at_call 13; refine (rSame_bool _ _ x y true _ (hr1.below (by first | exact Below.refl _ _ | exact Below.drew (Below.refl _ _))) (hr2.below (by first | exact Below.refl _ _ | exact Below.drew (Below.refl _ _))) hxy).mono ?_; rintro e wA ⟨rfl, hA⟩; have hBA : Below wr.heap.size wr wA := btr (by first | exact Below.refl _ _ | exact Below.drew (Below.refl _ _)) hA)
          all_goals go_wp2
          all_goals go_roundw
          all_goals first
            | exact ⟨k + 1, by omega, by go_num, Hs.out (of_decide_eq_true hxy), btr hB (by first | assumption | exact Below.drew (by assumption))⟩
            | (simp [intOf]; omega)
        | false =>
          go_wp2_with fail
          go_region_with (go_at_call 13; refine (rSame_bool _ _ x y false _ (hr1.below (by first | exact Below.refl _ _ | exact Below.drew (Below.refl _ _))) (hr2.below (by first | exact Below.refl _ _ | exact Below.drew (Below.refl _ _))) hxy).mono ?_; rintro e wA ⟨rfl, hA⟩; have hBA : Below wr.heap.size wr wA := btr (by first | exact Below.refl _ _ | exact Below.drew (Below.refl _ _)) hA)
          all_goals go_wp2
          all_goals go_ret
          all_goals exact ⟨ret_bool (Hf.out (of_decide_eq_false hxy)).symm, btr hB (by first | assumption | exact Below.drew (by assumption))⟩
      · go_wp2
        go_ret
        have h1 := Htk.out
        have h2 := Hlen.out
        rw [List.take_of_length_le (by omega), List.take_of_length_le (by omega)] at h1
        exact ⟨ret_bool (by rw [h1, decide_eq_true rfl]), hB⟩
  · have hne : ((l.length : Int) != (m.length : Int)) = true := by simp; omega
    have Hlen := hid hlen
    clear hlen hc hcu
    go_enter Tryd.func18, Tryd.ntmps18
    go_wp2
    go_ret
    exact ⟨ret_bool (decide_eq_false (fun e => Hlen.out (by rw [e]))).symm, Below.refl _ _⟩
end Go.Proofs.YtfhcbgdonombaaaDoor
namespace Go.Proofs.YtfhcbgdonombaaaDoor
open Go.RowKit Go.Shelf
theorem rows3 (w : World) (a b c : List Int) (va vb vc : Value) (t : TypeId) (k : Nat) (hk : k = w.heap.size) (ha : Ints w va a) (hb : Ints w vb b) (hc : Ints w vc c) : Rows (w.alloc (.cells #[va, vb, vc] t)) (.slice (some ⟨k, 0, none⟩) 3 3) [a, b, c] := by
  subst hk
  refine ⟨_, 3, rfl, by unfold big; simp, fun i hi => ?_⟩
  have h3 : i = 0 ∨ i = 1 ∨ i = 2 := by simp at hi; omega
  rcases h3 with rfl | rfl | rfl
  · exact ⟨w.heap.size, 0, va, rfl, by simp, ha.alloc _⟩
  · exact ⟨w.heap.size, 0, vb, rfl, by simp, hb.alloc _⟩
  · exact ⟨w.heap.size, 0, vc, rfl, by simp, hc.alloc _⟩
theorem rows2 (w : World) (a b : List Int) (va vb : Value) (t : TypeId) (k : Nat) (hk : k = w.heap.size) (ha : Ints w va a) (hb : Ints w vb b) : Rows (w.alloc (.cells #[va, vb] t)) (.slice (some ⟨k, 0, none⟩) 2 2) [a, b] := by
  subst hk
  refine ⟨_, 2, rfl, by unfold big; simp, fun i hi => ?_⟩
  have h3 : i = 0 ∨ i = 1 := by simp at hi; omega
  rcases h3 with rfl | rfl
  · exact ⟨w.heap.size, 0, va, rfl, by simp, ha.alloc _⟩
  · exact ⟨w.heap.size, 0, vb, rfl, by simp, hb.alloc _⟩
theorem lit_rows (w : World) (a b c d e f : Int) : Rows ((((w.alloc (.cells #[.int .i64 a, .int .i64 b] 3)).alloc (.cells #[.int .i64 c, .int .i64 d] 3)).alloc (.cells #[.int .i64 e, .int .i64 f] 3)).alloc
    (.cells #[.slice (some ⟨w.heap.size, 0, none⟩) 2 2, .slice (some ⟨w.heap.size + 1, 0, none⟩) 2 2, .slice (some ⟨w.heap.size + 1 + 1, 0, none⟩) 2 2] 25)) (.slice (some ⟨w.heap.size + 1 + 1 + 1, 0, none⟩) 3 3) [[a, b], [c, d], [e, f]] :=
  rows3 _ _ _ _ _ _ _ _ _ (by simp) (((Ints.two' w a b _ _ rfl).alloc _).alloc _) ((Ints.two' _ c d _ _ (by simp)).alloc _) (Ints.two' _ e f _ _ (by simp))
theorem rSames_eq (v u : Value) (l : List (List Int)) (w : World) (h : Rows w v l) (hu : Rows w u l) : Calls Tryd.prog 18 #[v, u] w fun e w' => e = .returned (.bool true) ∧ Below w.heap.size w w' := by
  have hs := rSames_any v u l l w h hu
  rw [decide_eq_true rfl] at hs
  exact hs
end Go.Proofs.YtfhcbgdonombaaaDoor
namespace Go.Proofs.YtfhcbgdonombaaaDoor
open Go.RowKit Go.Shelf
/-- The two states in their order. -/
def canon (p q : Nat) : Nat × Nat := (min p q, max p q)
theorem canon_cases (p q : Nat) : (p ≤ q ∧ canon p q = (p, q)) ∨ (q ≤ p ∧ canon p q = (q, p)) := by
  unfold canon
  rcases Nat.le_total p q with h | h
  · exact .inl ⟨h, by rw [Nat.min_eq_left h, Nat.max_eq_right h]⟩
  · exact .inr ⟨h, by rw [Nat.min_eq_right h, Nat.max_eq_left h]⟩
theorem canon_mdist {m : List (List Int)} {p q k : Nat} : mdist m (canon p q).1 (canon p q).2 k ↔ mdist m p q k := by
  rcases canon_cases p q with ⟨_, e⟩ | ⟨_, e⟩ <;> rw [e]
  exact ⟨mdist_symm, mdist_symm⟩
theorem canon_le (p q : Nat) : (canon p q).1 ≤ (canon p q).2 := by unfold canon; exact Nat.le_trans (Nat.min_le_left _ _) (Nat.le_max_left _ _)
theorem canon_lt {n p q : Nat} (hp : p < n) (hq : q < n) : (canon p q).2 < n := by
  rcases canon_cases p q with ⟨_, e⟩ | ⟨_, e⟩ <;> rw [e] <;> assumption
/-- Where the search stands at entry i: what it has found, with lengths. -/
structure MB (m : List (List Int)) (F : List (Nat × Nat × Nat)) (i : Nat) : Prop where
  ok : ∀ e ∈ F, e.1 ≤ e.2.1 ∧ e.2.1 < m.length ∧ mdist m e.1 e.2.1 e.2.2
  uniq : (F.map fun e => (e.1, e.2.1)).Nodup
  sorted : F.Pairwise fun a b => a.2.2 ≤ b.2.2
  near : ∀ e, F[i]? = some e → ∀ f ∈ F, f.2.2 ≤ e.2.2 + 1
  diag : ∀ s, s < m.length → (s, s, 0) ∈ F
  closed : ∀ j, j < i → ∀ e, F[j]? = some e → ∀ p q x, p < q → q < m.length → x < letters m → canon (nx m p (x : Int)) (nx m q (x : Int)) = (e.1, e.2.1) → ∃ l, (p, q, l) ∈ F
theorem MB.full {m : List (List Int)} {F : List (Nat × Nat × Nat)} {i : Nat} (hv : validM m = true) (h : MB m F i) : ∀ l p q, p ≤ q → q < m.length → mdist m p q l → (∀ e, F[i]? = some e → l ≤ e.2.2) → (i < F.length ∨ i = F.length) → (p, q, l) ∈ F ∨ (∃ e, F[i]? = some e ∧ l = e.2.2 + 1)
  | 0, p, q, hpq, hq, hd, _, _ => by
    obtain rfl := mdist_zero.1 hd
    exact .inl (h.diag p hq)
  | l + 1, p, q, hpq, hq, hd, hi, hil => by
    have hne : p ≠ q := fun e => by
      have := mdist_unique hd (mdist_zero.2 e)
      omega
    obtain ⟨x, hx, h2⟩ := mdist_step hd
    have n1 := ldM_ok hv p x (by omega) hx
    have n2 := ldM_ok hv q x hq hx
    rcases MB.full hv h l _ _ (canon_le _ _) (canon_lt n1 n2) (canon_mdist.2 h2) (fun e he => by have := hi e he; omega) hil with h3 | ⟨e, he, hl⟩
    · obtain ⟨j, hj, hje⟩ := List.mem_iff_getElem.1 h3
      have hji : j < i := by
        apply Classical.byContradiction
        intro hji
        rcases hil with hlt | heq
        · have he : F[i]? = some F[i] := List.getElem?_eq_getElem hlt
          have hle := hi _ he
          by_cases e : j = i
          · subst e
            rw [hje] at hle
            simp at hle
            omega
          · have := List.pairwise_iff_getElem.1 h.sorted i j hlt hj (by omega)
            rw [hje] at this
            simp at this
            omega
        · omega
      obtain ⟨l', hl'⟩ := h.closed j hji _ (by rw [List.getElem?_eq_getElem hj, hje]) p q x (by omega) hq hx rfl
      have := mdist_unique (h.ok _ hl').2.2 hd
      simp only at this
      subst this
      exact .inl hl'
    · have := hi e he
      omega
theorem MB.all {m : List (List Int)} {F : List (Nat × Nat × Nat)} (hv : validM m = true) (h : MB m F F.length) {l p q : Nat} (hpq : p ≤ q) (hq : q < m.length) (hd : mdist m p q l) : (p, q, l) ∈ F := by
  rcases h.full hv l p q hpq hq hd (fun e he => by simp at he) (.inr rfl) with h1 | ⟨e, he, _⟩
  · exact h1
  · simp at he
theorem MB.add {m : List (List Int)} {F : List (Nat × Nat × Nat)} {i : Nat} (hv : validM m = true) (h : MB m F i) {e : Nat × Nat × Nat} (he : F[i]? = some e) {p q x : Nat} (hpq : p < q) (hq : q < m.length) (hx : x < letters m)
    (hc : canon (nx m p (x : Int)) (nx m q (x : Int)) = (e.1, e.2.1)) (hno : ∀ l, (p, q, l) ∉ F) : MB m (F ++ [(p, q, e.2.2 + 1)]) i := by
  have hil : i < F.length := (List.getElem?_eq_some_iff.1 he).1
  have hee := List.mem_of_getElem? he
  have hme := (h.ok e hee).2.2
  have hm1 : mdist m (nx m p (x : Int)) (nx m q (x : Int)) e.2.2 := canon_mdist.1 (by rw [hc]; exact hme)
  have hd : mdist m p q (e.2.2 + 1) := by
    refine mdist_up hx hm1 fun j hj hp => ?_
    obtain ⟨j', hj', hd'⟩ := mdist_some hp
    rcases h.full hv j' p q (by omega) hq hd' (fun e' he' => by rw [he] at he'; cases he'; omega) (.inl hil) with h1 | ⟨e', he', hl⟩
    · exact hno _ h1
    · rw [he] at he'; cases he'; omega
  refine ⟨?_, ?_, ?_, ?_, fun s hs => List.mem_append_left _ (h.diag s hs), ?_⟩
  · intro f hf
    rcases List.mem_append.1 hf with h1 | h1
    · exact h.ok f h1
    · obtain rfl := List.mem_singleton.1 h1
      exact ⟨by simp; omega, hq, hd⟩
  · rw [List.map_append, List.nodup_append]
    refine ⟨h.uniq, by simp, ?_⟩
    rintro a ha b hb rfl
    obtain ⟨f, hf, rfl⟩ := List.mem_map.1 ha
    simp at hb
    exact hno f.2.2 (by rw [← hb.1, ← hb.2]; exact hf)
  · rw [List.pairwise_append]
    refine ⟨h.sorted, by simp, fun a ha b hb => ?_⟩
    obtain rfl := List.mem_singleton.1 hb
    exact h.near e he a ha
  · intro e' he' f hf
    rw [List.getElem?_append_left hil, he] at he'
    cases he'
    rcases List.mem_append.1 hf with h1 | h1
    · exact h.near e he f h1
    · obtain rfl := List.mem_singleton.1 h1
      exact Nat.le_refl _
  · intro j hj e' he' p' q' x' a1 a2 a3 a4
    rw [List.getElem?_append_left (by omega)] at he'
    obtain ⟨l, hl⟩ := h.closed j hj e' he' p' q' x' a1 a2 a3 a4
    exact ⟨l, List.mem_append_left _ hl⟩
theorem MB.next {m : List (List Int)} {F : List (Nat × Nat × Nat)} {i : Nat} (h : MB m F i) {e : Nat × Nat × Nat} (he : F[i]? = some e)
    (hall : ∀ p q x, p < q → q < m.length → x < letters m → canon (nx m p (x : Int)) (nx m q (x : Int)) = (e.1, e.2.1) → ∃ l, (p, q, l) ∈ F) : MB m F (i + 1) := by
  refine ⟨h.ok, h.uniq, h.sorted, ?_, h.diag, ?_⟩
  · intro e' he' f hf
    obtain ⟨b1, b2⟩ := List.getElem?_eq_some_iff.1 he
    obtain ⟨c1, c2⟩ := List.getElem?_eq_some_iff.1 he'
    have := List.pairwise_iff_getElem.1 h.sorted i (i + 1) b1 c1 (by omega)
    rw [b2, c2] at this
    have := h.near e he f hf
    omega
  · intro j hj e' he' p q x a1 a2 a3 a4
    by_cases hji : j = i
    · subst hji
      rw [he] at he'; cases he'
      exact hall p q x a1 a2 a3 a4
    · exact h.closed j (by omega) e' he' p q x a1 a2 a3 a4
/-- The merged pairs. -/
def diag0 (n : Nat) : List (Nat × Nat × Nat) := (List.range n).map fun s => (s, s, 0)
theorem MB.start (m : List (List Int)) : MB m (diag0 m.length) 0 := by
  refine ⟨?_, ?_, ?_, ?_, ?_, fun j hj => by omega⟩
  · intro e he
    obtain ⟨s, hs, rfl⟩ := List.mem_map.1 he
    exact ⟨Nat.le_refl _, List.mem_range.1 hs, mdist_zero.2 rfl⟩
  · unfold diag0 List.Nodup
    rw [List.map_map, List.pairwise_map]
    refine List.Pairwise.imp (fun {a b} hlt e => ?_) List.pairwise_lt_range
    simp at e
    omega
  · unfold diag0
    rw [List.pairwise_map]
    exact List.Pairwise.imp (fun _ => Nat.le_refl _) List.pairwise_lt_range
  · intro e he f hf
    obtain ⟨s, hs, rfl⟩ := List.mem_map.1 hf
    exact Nat.zero_le _
  · exact fun s hs => List.mem_map.2 ⟨s, List.mem_range.2 hs, rfl⟩
/-- No more than n^2 are found. -/
theorem MB.len {m : List (List Int)} {F : List (Nat × Nat × Nat)} {i : Nat} (h : MB m F i) : F.length ≤ m.length * m.length := by
  have hnd : (F.map fun e => ((e.1 * m.length + e.2.1 : Nat) : Int)).Nodup := by
    have hu := h.uniq
    unfold List.Nodup at hu ⊢
    rw [List.pairwise_map] at hu ⊢
    refine List.Pairwise.imp_of_mem (fun {a b} ha hb hne e => hne ?_) hu
    have e' : a.1 * m.length + a.2.1 = b.1 * m.length + b.2.1 := by omega
    have l1 := (h.ok a ha).2.1
    have l2 := (h.ok b hb).2.1
    have e1 : a.1 = b.1 := by
      have := congrArg (· / m.length) e'
      simp only [Nat.add_comm (_ * _), Nat.add_mul_div_right _ _ (show 0 < m.length by omega), Nat.div_eq_of_lt l1, Nat.div_eq_of_lt l2] at this
      omega
    rw [e1] at e'
    rw [e1, show a.2.1 = b.2.1 by omega]
  have := nodup_len (m.length * m.length) _ hnd (fun x hx => by
    obtain ⟨e, he, rfl⟩ := List.mem_map.1 hx
    have l1 := h.ok e he
    have := Nat.mul_le_mul_right m.length (show e.1 + 1 ≤ m.length by omega)
    rw [Nat.succ_mul] at this
    omega)
  simpa using this
end Go.Proofs.YtfhcbgdonombaaaDoor
namespace Go.Proofs.YtfhcbgdonombaaaDoor
open Go.RowKit Go.Maps Go.WideAt
def heldR (v : Value) : Option (DataW Value × List MemPlace) := some (.held v, [])
/-- Block b is a map of at most n entries, c of them; the key l holds S l (z where there is none), and is there if T l. -/
def ValMap (w : World) (P : Program) (k : TypeId) (b n : Nat) (z : Value) (S : Lit → Value) (T : Lit → Bool) (c : Nat) : Prop :=
  ∃ D : DataW Value, w.ownsMap P k heldR b n D ∧ IsMap D ∧ Maps.size D = c ∧ ∀ l, D.atKey l (.held z) = .held (S l) ∧ Maps.has D l = T l
section
variable {w : World} {P : Program} {k : TypeId} {b n c : Nat} {z : Value} {S : Lit → Value} {T : Lit → Bool}
theorem ValMap.made (w : World) (P : Program) (k : TypeId) (z : Value) : ValMap (w.alloc (.map #[] 0)) P k w.heap.size 0 z (fun _ => z) (fun _ => false) 0 :=
  ⟨.map [], World.ownsMap_made w _ _ _, ⟨[], rfl⟩, rfl, fun l => ⟨rfl, rfl⟩⟩
theorem ValMap.look {t e : TypeId} (h : ValMap w P k b n z S T c) (K : Keyed P k) (ht : P.underlying t = some (.map k e)) (hz : (zeroValue e).run P w = .ok z w) {key : Value} {kl : Lit} (hkey : keyOf P k key = some kl) :
    (Instr.lookup t (.map (some b)) key false).run P w = .ok (S kl) w := by
  obtain ⟨D, hD, _, _, hS⟩ := h
  obtain ⟨v, ps, hrun, hv⟩ := hD.lookup K ht hz (rfl : heldR z = some (.held z, [])) hkey
  rw [(hS kl).1] at hv
  simp only [heldR, Option.some.injEq, Prod.mk.injEq, DataW.held.injEq] at hv
  rw [hrun, hv.1]
open Classical in
theorem ValMap.put {t e : TypeId} (h : ValMap w P k b n z S T c) (K : Keyed P k) (ht : P.underlying t = some (.map k e)) (hn : n < maxLen) {key : Value} {kl : Lit} (hkey : keyOf P k key = some kl) (v : Value) :
    ∃ w', (Instr.mapUpdate t (.map (some b)) key v).run P w = .ok () w' ∧ ValMap w' P k b (n + 1) z (fun l => if l = kl then v else S l) (fun l => if l = kl then true else T l) (if T kl = true then c else c + 1) ∧ w.grownBy w' (some b) := by
  obtain ⟨D, hD, hM, hc, hS⟩ := h
  obtain ⟨w', hrun, h1, h2⟩ := hD.update K ht hn hkey (rfl : heldR v = some (.held v, []))
  refine ⟨w', hrun, ⟨_, h1, ?_, ?_, fun l => ?_⟩, h2⟩
  · obtain ⟨es, rfl⟩ := hM; exact ⟨_, rfl⟩
  · rw [size_put (hD.tidy K), hc, (hS kl).2]
  · by_cases e : l = kl
    · subst e
      rw [atKey_put_same hM (K.key hkey), has_put_same hM (K.key hkey)]
      simp
    · rw [atKey_put_other e, has_put_other e]
      simp only [if_neg e]
      exact hS l
theorem ValMap.kept {w' : World} (h : ValMap w P k b n z S T c) (hk : w'.heap[b]? = w.heap[b]?) : ValMap w' P k b n z S T c := by
  obtain ⟨D, ⟨es, clock, hb, F, hs, hD⟩, hM, hS⟩ := h
  exact ⟨D, ⟨es, clock, hk.trans hb, F, hs, hD⟩, hM, hS⟩
theorem ValMap.lt (h : ValMap w P k b n z S T c) : b < w.heap.size := by
  obtain ⟨D, hD, _⟩ := h; exact hD.lt
theorem ValMap.len {t e : TypeId} (h : ValMap w P k b n z S T c) (ht : P.underlying t = some (.map k e)) (ty : TypeId) : (Builtin.len_ #[t] ty #[.map (some b)]).run P w = .ok (.int .i64 c) w := by
  obtain ⟨D, hD, _, rfl, _⟩ := h
  exact hD.len ht ty
end
end Go.Proofs.YtfhcbgdonombaaaDoor
namespace Go.Proofs.YtfhcbgdonombaaaDoor
open Go.RowKit Go.Shelf Go.Maps Go.WideAt Go.WideMaps Go.WideElems
theorem arrPair : ArrKey Tryd.prog 77 3 2 := ⟨Tryd.underlying77, by kernel_rfl, by kernel_rfl, by kernel_rfl⟩
theorem lawPair : KeyLaw Tryd.prog 77 := arrPair.law
theorem keyPair : Keyed Tryd.prog 77 := Keyed.of_law lawPair
/-- A pair as a key. -/
def keyL (p q : Nat) : Lit := .string (keyBytes [.int .i64 p, .int .i64 q])
theorem keyOf_PV (p q : Nat) (hp : p < 1000000) (hq : q < 1000000) : keyOf Tryd.prog 77 (.agg #[.int .i64 p, .int .i64 q]) = some (keyL p q) :=
  keyOf_pair arrPair Tryd.underlying3 ⟨Tryd.prog.types.size - 1, by kernel_rfl⟩ (WalkArith.wf_i64 (by omega)) (WalkArith.wf_i64 (by omega))
theorem keyL_inj {p q p' q' : Nat} (hp : p < 1000000) (hq : q < 1000000) (hp' : p' < 1000000) (hq' : q' < 1000000) (h : keyL p q = keyL p' q') : p = p' ∧ q = q' := by
  have h1 := keyOf_PV p q hp hq
  rw [h] at h1
  have := keyPair.inj h1 (keyOf_PV p' q' hp' hq')
  simp only [Value.agg.injEq, Array.mk.injEq, List.cons.injEq, Value.int.injEq, and_true, true_and] at this
  omega
theorem zeroInt (w : World) : (zeroValue 3).run Tryd.prog w = .ok (.int .i64 0) w := by kernel_rfl
/-- A map of the call's own whose keys are pairs: V: what they hold (z where there is nothing), T: which are there, c: how many. -/
def PMap (w : World) (b n : Nat) (z : Value) (V : Nat → Nat → Value) (T : Nat → Nat → Bool) (c : Nat) : Prop :=
  ∃ S T', ValMap w Tryd.prog 77 b n z S T' c ∧ ∀ p q, p < 1000000 → q < 1000000 → S (keyL p q) = V p q ∧ T' (keyL p q) = T p q
section
variable {w : World} {b n c : Nat} {z : Value} {V : Nat → Nat → Value} {T : Nat → Nat → Bool}
theorem PMap.made (w : World) (z : Value) : PMap (w.alloc (.map #[] 0)) w.heap.size 0 z (fun _ _ => z) (fun _ _ => false) 0 :=
  ⟨_, _, ValMap.made w _ _ z, fun _ _ _ _ => ⟨rfl, rfl⟩⟩
theorem PMap.kept {w' : World} (h : PMap w b n z V T c) (hk : w'.heap[b]? = w.heap[b]?) : PMap w' b n z V T c := by
  obtain ⟨S, T', h1, h2⟩ := h
  exact ⟨S, T', h1.kept hk, h2⟩
theorem PMap.lt (h : PMap w b n z V T c) : b < w.heap.size := by
  obtain ⟨S, T', h1, h2⟩ := h; exact h1.lt
theorem PMap.below {w' : World} (h : PMap w b n z V T c) (hb : Below w.heap.size w w') : PMap w' b n z V T c := h.kept (hb.block b h.lt)
theorem PMap.congr {V' : Nat → Nat → Value} {T' : Nat → Nat → Bool} (h : PMap w b n z V T c) (h2 : ∀ p q, p < 1000000 → q < 1000000 → V p q = V' p q ∧ T p q = T' p q) : PMap w b n z V' T' c := by
  obtain ⟨S, T0, h1, h3⟩ := h
  exact ⟨S, T0, h1, fun p q hp hq => ⟨(h3 p q hp hq).1.trans (h2 p q hp hq).1, (h3 p q hp hq).2.trans (h2 p q hp hq).2⟩⟩
theorem PMap.look {t e : TypeId} (h : PMap w b n z V T c) (ht : Tryd.prog.underlying t = some (.map 77 e)) (hz : (zeroValue e).run Tryd.prog w = .ok z w) {p q : Nat} (hp : p < 1000000) (hq : q < 1000000) :
    (Instr.lookup t (.map (some b)) (.agg #[.int .i64 p, .int .i64 q]) false).run Tryd.prog w = .ok (V p q) w := by
  obtain ⟨S, T', h1, h2⟩ := h
  rw [h1.look keyPair ht hz (keyOf_PV p q hp hq), (h2 p q hp hq).1]
theorem PMap.len {t e : TypeId} (h : PMap w b n z V T c) (ht : Tryd.prog.underlying t = some (.map 77 e)) (ty : TypeId) : (Builtin.len_ #[t] ty #[.map (some b)]).run Tryd.prog w = .ok (.int .i64 c) w := by
  obtain ⟨S, T', h1, h2⟩ := h
  exact h1.len ht ty
open Classical in
theorem keyL_upd {α : Type} {S : Lit → α} {V : Nat → Nat → α} {p q : Nat} (hp : p < 1000000) (hq : q < 1000000) (v : α) (h : ∀ a b, a < 1000000 → b < 1000000 → S (keyL a b) = V a b) {a b : Nat} (ha : a < 1000000) (hb : b < 1000000) :
    (if keyL a b = keyL p q then v else S (keyL a b)) = if a = p ∧ b = q then v else V a b := by
  by_cases e : a = p ∧ b = q
  · rw [if_pos e, if_pos (by rw [e.1, e.2])]
  · rw [if_neg e, if_neg (fun h => e (keyL_inj ha hb hp hq h))]
    exact h a b ha hb
theorem PMap.put {t e : TypeId} (h : PMap w b n z V T c) (ht : Tryd.prog.underlying t = some (.map 77 e)) (hn : n < maxLen) {p q : Nat} (hp : p < 1000000) (hq : q < 1000000) (v : Value) :
    ∃ w', (Instr.mapUpdate t (.map (some b)) (.agg #[.int .i64 p, .int .i64 q]) v).run Tryd.prog w = .ok () w' ∧ PMap w' b (n + 1) z (fun a d => if a = p ∧ d = q then v else V a d) (fun a d => if a = p ∧ d = q then true else T a d) (if T p q = true then c else c + 1) ∧ w.grownBy w' (some b) := by
  obtain ⟨S, T', h1, h2⟩ := h
  obtain ⟨w', g1, g2, g3⟩ := h1.put keyPair ht hn (keyOf_PV p q hp hq) v
  rw [(h2 p q hp hq).2] at g2
  exact ⟨w', g1, ⟨_, _, g2, fun a d ha hd => ⟨keyL_upd hp hq v (fun a b ha hb => (h2 a b ha hb).1) ha hd, keyL_upd hp hq true (fun a b ha hb => (h2 a b ha hb).2) ha hd⟩⟩, g3⟩
end
/-- The cells of a list of pairs. -/
def pairCells (L : List (Nat × Nat)) : List Value := L.flatMap fun e => [.int .i64 (e.1 : Nat), .int .i64 (e.2 : Nat)]
theorem pairCells_snoc (L : List (Nat × Nat)) (p q : Nat) : pairCells (L ++ [(p, q)]) = pairCells L ++ [.int .i64 p, .int .i64 q] := by
  unfold pairCells
  rw [List.flatMap_append]
  simp
theorem pairCells_get : ∀ (L : List (Nat × Nat)) (i : Nat) (e : Nat × Nat), L[i]? = some e → (pairCells L)[i * 2]? = some (.int .i64 (e.1 : Nat)) ∧ (pairCells L)[i * 2 + 1]? = some (.int .i64 (e.2 : Nat))
  | [], i, e, h => by simp at h
  | f :: L, 0, e, h => by
    simp at h
    subst h
    exact ⟨rfl, rfl⟩
  | f :: L, i + 1, e, h => by
    have := pairCells_get L i e (by simpa using h)
    unfold pairCells at this ⊢
    rw [List.flatMap_cons, show (i + 1) * 2 = i * 2 + 1 + 1 by omega]
    exact this
/-- A slice of pairs of the call's own. -/
def PRow (w : World) (n₀ : Nat) (v : Value) (L : List (Nat × Nat)) : Prop := w.ownsRow n₀ 77 2 v L.length (pairCells L)
theorem PRow.cell {w : World} {n₀ g cap l : Nat} {L : List (Nat × Nat)} (h : PRow w n₀ (.slice (some ⟨g, 0, none⟩) l cap) L) {i : Nat} {e : Nat × Nat} (he : L[i]? = some e) :
    w.cell? ⟨g, i * 2, none⟩ = some (.int .i64 (e.1 : Nat)) ∧ w.cell? ⟨g, i * 2 + 1, none⟩ = some (.int .i64 (e.2 : Nat)) := by
  obtain ⟨h1, h2⟩ := pairCells_get L i e he
  have k := World.ownsRow.cells h (g := g) rfl
  have a1 := k _ _ h1
  have a2 := k _ _ h2
  simp only [Addr.add] at a1 a2
  refine ⟨?_, ?_⟩
  · by_cases e : i * 2 = 0
    · rw [e] at a1 ⊢; simpa using a1
    · simpa [e] using a1
  · simpa using a2
/-- The slices of pairs, one for each key, each in a block of its own. -/
structure Grp (w : World) (n₀ b N : Nat) (V : Nat → Nat → Value) (L : Nat → Nat → List (Nat × Nat)) : Prop where
  map : ∃ T c, PMap w b N (.slice none 0 0) V T c
  rows : ∀ i j, PRow w n₀ (V i j) (L i j)
  apart : ∀ i j i' j' k, (V i j).ownBlock = some k → (V i' j').ownBlock = some k → i = i' ∧ j = j'
  off : ∀ i j, (V i j).ownBlock ≠ some b
theorem Grp.made (w : World) (n₀ : Nat) : Grp (w.alloc (.map #[] 0)) n₀ w.heap.size 0 (fun _ _ => .slice none 0 0) (fun _ _ => []) :=
  ⟨⟨_, _, PMap.made w _⟩, fun _ _ => World.ownsRow_nil _ _ _ _, fun _ _ _ _ _ h => by simp [Value.ownBlock] at h, fun _ _ h => by simp [Value.ownBlock] at h⟩
theorem Grp.below {w w' : World} {n₀ b N : Nat} {V : Nat → Nat → Value} {L : Nat → Nat → List (Nat × Nat)} (h : Grp w n₀ b N V L) (hb : Below w.heap.size w w') : Grp w' n₀ b N V L := by
  obtain ⟨T, c, hm⟩ := h.map
  exact ⟨⟨T, c, hm.below hb⟩, fun i j => ownsRow_same (h.rows i j) fun g hg => hb.block g ((h.rows i j).lt g hg).2, h.apart, h.off⟩
end Go.Proofs.YtfhcbgdonombaaaDoor
namespace Go.Proofs.YtfhcbgdonombaaaDoor
open Go.RowKit Go.Shelf
/-- All pairs of states, the first not greater. -/
def allPairs (n : Nat) : List (Nat × Nat) := (List.range n).flatMap fun q => (List.range (q + 1)).map fun p => (p, q)
theorem allPairs_mem {n : Nat} {k : Nat × Nat} : k ∈ allPairs n ↔ k.1 ≤ k.2 ∧ k.2 < n := by
  unfold allPairs
  simp only [List.mem_flatMap, List.mem_map, List.mem_range]
  constructor
  · rintro ⟨q, hq, p, hp, rfl⟩; exact ⟨by simp only; omega, hq⟩
  · rintro ⟨h1, h2⟩; exact ⟨k.2, h2, k.1, by omega, rfl⟩
theorem allPairs_succ (n : Nat) : allPairs (n + 1) = allPairs n ++ (List.range (n + 1)).map fun p => (p, n) := by
  unfold allPairs
  rw [List.range_succ, List.flatMap_append]
  simp [List.range_succ]
theorem allPairs_len : ∀ n, 2 * (allPairs n).length = n * (n + 1)
  | 0 => rfl
  | n + 1 => by
    rw [allPairs_succ, List.length_append, List.length_map, List.length_range, Nat.mul_add, allPairs_len n]
    grind
theorem allPairs_nodup : ∀ n, (allPairs n).Nodup
  | 0 => by simp [allPairs]
  | n + 1 => by
    rw [allPairs_succ, List.nodup_append]
    refine ⟨allPairs_nodup n, ?_, ?_⟩
    · unfold List.Nodup
      rw [List.pairwise_map]
      refine List.Pairwise.imp (fun {a b} hlt e => ?_) List.pairwise_lt_range
      have := congrArg Prod.fst e
      simp only at this
      omega
    · rintro a ha b hb rfl
      have h1 := allPairs_mem.1 ha
      obtain ⟨p, _, rfl⟩ := List.mem_map.1 hb
      exact absurd h1.2 (Nat.lt_irrefl _)
theorem nodup_sub {K : Type} [DecidableEq K] : ∀ {A B : List K}, A.Nodup → (∀ x ∈ A, x ∈ B) → A.length ≤ B.length
  | [], _, _, _ => Nat.zero_le _
  | x :: A, B, hA, h => by
    have hx := h x (by simp)
    have h1 := List.nodup_cons.1 hA
    have := nodup_sub (B := B.erase x) h1.2 fun y hy => (List.mem_erase_of_ne fun e => by subst e; exact h1.1 hy).2 (h y (by simp [hy]))
    rw [List.length_erase_of_mem hx] at this
    have := List.length_pos_of_mem hx
    simp only [List.length_cons]
    omega
/-- The search has found n(n + 1)/2 pairs if and only if each pair is merged. -/
theorem MB.count {m : List (List Int)} {F : List (Nat × Nat × Nat)} (hv : validM m = true) (h : MB m F F.length) : m.length * (m.length + 1) ≤ 2 * F.length ↔ ∀ p q, p < q → q < m.length → ∃ k, mergeP m p q k := by
  have hF : F.length = (F.map fun e => (e.1, e.2.1)).length := by simp
  have hsub : ∀ x ∈ (F.map fun e => (e.1, e.2.1)), x ∈ allPairs m.length := fun x hx => by
    obtain ⟨e, he, rfl⟩ := List.mem_map.1 hx
    exact allPairs_mem.2 ⟨(h.ok e he).1, (h.ok e he).2.1⟩
  have hl := allPairs_len m.length
  constructor
  · intro hc p q hpq hq
    apply Classical.byContradiction
    intro hno
    have hni : (p, q) ∉ (F.map fun e => (e.1, e.2.1)) := fun hm => by
      obtain ⟨e, he, hee⟩ := List.mem_map.1 hm
      simp only [Prod.mk.injEq] at hee
      have := (h.ok e he).2.2.1
      rw [hee.1, hee.2] at this
      exact hno ⟨_, this⟩
    have hle := nodup_sub (A := (p, q) :: (F.map fun e => (e.1, e.2.1))) (B := allPairs m.length) (List.nodup_cons.2 ⟨hni, h.uniq⟩) (fun x hx => by
      rcases List.mem_cons.1 hx with rfl | hx
      · exact allPairs_mem.2 ⟨by simp only; omega, hq⟩
      · exact hsub x hx)
    rw [List.length_cons, ← hF] at hle
    omega
  · intro hall
    have hle := nodup_sub (A := allPairs m.length) (B := (F.map fun e => (e.1, e.2.1))) (allPairs_nodup _) (fun x hx => by
      have hx' := allPairs_mem.1 hx
      rcases Nat.lt_or_ge x.1 x.2 with hlt | hge
      · obtain ⟨k, hk⟩ := hall x.1 x.2 hlt hx'.2
        obtain ⟨j, _, hd⟩ := mdist_some hk
        exact List.mem_map.2 ⟨_, h.all hv hx'.1 hx'.2 hd, rfl⟩
      · exact List.mem_map.2 ⟨_, h.diag x.1 (by omega), by simp only; exact Prod.ext rfl (by simp only; omega)⟩)
    rw [← hF] at hle
    omega
end Go.Proofs.YtfhcbgdonombaaaDoor
namespace Go.Proofs.YtfhcbgdonombaaaDoor
open Go.RowKit Go.Shelf
/-- Behind an entry, an append to its slice and the store of what came. -/
theorem Grp.step {W W1 w' w3 : World} {n₀ b N i j p q c' : Nat} {V : Nat → Nat → Value} {L : Nat → Nat → List (Nat × Nat)} {T : Nat → Nat → Bool} {v' : Value} (h : Grp W n₀ b N V L) (h1 : W.grownBy W1 (some b)) (hs1 : W1.heap.size = W.heap.size)
    (ho : w'.ownsRow n₀ 77 2 v' ((L i j).length + 1) (pairCells (L i j) ++ [.int .i64 p, .int .i64 q])) (h2 : W1.grownBy w' (V i j).ownBlock) (hat : v'.ownBlock = (V i j).ownBlock ∨ v'.ownBlock = some W1.heap.size)
    (hm : PMap w3 b (N + 1) (.slice none 0 0) (fun a d => if a = i ∧ d = j then v' else V a d) T c') (h3 : w'.grownBy w3 (some b)) :
    Grp w3 n₀ b (N + 1) (fun a d => if a = i ∧ d = j then v' else V a d) (fun a d => if a = i ∧ d = j then L i j ++ [(p, q)] else L a d) := by
  obtain ⟨T0, c0, hm0⟩ := h.map
  have hbl := hm0.lt
  have hvb : v'.ownBlock ≠ some b := by
    rcases hat with e | e
    · rw [e]; exact h.off i j
    · rw [e]; intro e2; simp at e2; omega
  have hold : ∀ a d k, (V a d).ownBlock = some k → k < W.heap.size := fun a d k hk => ((h.rows a d).lt k hk).2
  refine ⟨⟨_, _, hm⟩, fun a d => ?_, fun a d a' d' k e1 e2 => ?_, fun a d => ?_⟩
  · by_cases e : a = i ∧ d = j
    · simp only [if_pos e]
      unfold PRow
      rw [List.length_append, pairCells_snoc]
      exact ho.kept h3 (.inr hvb)
    · simp only [if_neg e]
      refine ownsRow_same (h.rows a d) fun g hg => ?_
      have hgl := hold a d g hg
      have hgb : g ≠ b := fun e2 => h.off a d (e2 ▸ hg)
      have hgv : some g ≠ (V i j).ownBlock := fun e2 => e (h.apart a d i j g hg e2.symm)
      have z1 := h1.block g hgl (by simpa using hgb)
      have z2 := h2.block g (by omega) hgv
      have z3 := h3.block g (Nat.lt_of_lt_of_le (by omega) h2.size) (by simpa using hgb)
      exact z3.trans (z2.trans z1)
  · by_cases x1 : a = i ∧ d = j <;> by_cases x2 : a' = i ∧ d' = j
    · exact ⟨x1.1.trans x2.1.symm, x1.2.trans x2.2.symm⟩
    · simp only [if_pos x1, if_neg x2] at e1 e2
      rcases hat with e | e
      · rw [e] at e1
        obtain ⟨y1, y2⟩ := h.apart _ _ _ _ _ e1 e2
        exact absurd ⟨y1.symm, y2.symm⟩ x2
      · rw [e] at e1
        have := hold _ _ _ e2
        simp at e1
        omega
    · simp only [if_neg x1, if_pos x2] at e1 e2
      rcases hat with e | e
      · rw [e] at e2
        obtain ⟨y1, y2⟩ := h.apart _ _ _ _ _ e1 e2
        exact absurd ⟨y1, y2⟩ x1
      · rw [e] at e2
        have := hold _ _ _ e1
        simp at e2
        omega
    · simp only [if_neg x1, if_neg x2] at e1 e2
      exact h.apart _ _ _ _ _ e1 e2
  · by_cases e : a = i ∧ d = j
    · simp only [if_pos e]; exact hvb
    · simp only [if_neg e]; exact h.off a d
/-- The pair (p', q') with the letter x' was looked at before (p, q) with x. -/
def doneL (m : List (List Int)) (p q x p' q' x' : Nat) : Prop := p' < q' ∧ q' < m.length ∧ x' < letters m ∧ (p' < p ∨ (p' = p ∧ (q' < q ∨ (q' = q ∧ x' < x))))
def LB (m : List (List Int)) (p q x : Nat) (L : Nat → Nat → List (Nat × Nat)) : Prop :=
  ∀ i j e, e ∈ L i j ↔ ∃ x', doneL m p q x e.1 e.2 x' ∧ canon (nx m e.1 (x' : Int)) (nx m e.2 (x' : Int)) = (i, j)
theorem LB.start (m : List (List Int)) : LB m 0 1 0 (fun _ _ => []) := fun i j e => by
  simp only [List.not_mem_nil, false_iff]
  rintro ⟨x', ⟨h1, _, _, h2⟩, _⟩
  omega
theorem LB.same {m : List (List Int)} {p q x p2 q2 x2 : Nat} {L : Nat → Nat → List (Nat × Nat)} (h : LB m p q x L) (hd : ∀ p' q' x', doneL m p q x p' q' x' ↔ doneL m p2 q2 x2 p' q' x') : LB m p2 q2 x2 L := fun i j e => by
  rw [h i j e]
  exact exists_congr fun x' => and_congr_left fun _ => hd _ _ _
theorem LB.add {m : List (List Int)} {p q x i j : Nat} {L : Nat → Nat → List (Nat × Nat)} (h : LB m p q x L) (hpq : p < q) (hq : q < m.length) (hx : x < letters m) (hc : canon (nx m p (x : Int)) (nx m q (x : Int)) = (i, j)) :
    LB m p q (x + 1) (fun a d => if a = i ∧ d = j then L i j ++ [(p, q)] else L a d) := fun a d e => by
  have hsplit : (∃ x', doneL m p q (x + 1) e.1 e.2 x' ∧ canon (nx m e.1 (x' : Int)) (nx m e.2 (x' : Int)) = (a, d)) ↔ (e ∈ L a d ∨ (e = (p, q) ∧ (i, j) = (a, d))) := by
    rw [h a d e]
    constructor
    · rintro ⟨x', h1, h2⟩
      by_cases e1 : e.1 = p ∧ e.2 = q ∧ x' = x
      · obtain ⟨e2, e3, rfl⟩ := e1
        rw [e2, e3, hc] at h2
        exact .inr ⟨Prod.ext e2 e3, h2⟩
      · exact .inl ⟨x', by unfold doneL at h1 ⊢; omega, h2⟩
    · rintro (⟨x', h1, h2⟩ | ⟨rfl, h2⟩)
      · exact ⟨x', by unfold doneL at h1 ⊢; omega, h2⟩
      · exact ⟨x, ⟨hpq, hq, hx, .inr ⟨rfl, .inr ⟨rfl, Nat.lt_succ_self _⟩⟩⟩, by simp only; rw [hc, h2]⟩
  rw [hsplit]
  by_cases e1 : a = i ∧ d = j
  · simp only [if_pos e1]
    obtain ⟨rfl, rfl⟩ := e1
    simp
  · simp only [if_neg e1, Prod.mk.injEq]
    constructor
    · exact .inl
    · rintro (h | ⟨_, h1, h2⟩)
      · exact h
      · exact absurd ⟨h1.symm, h2.symm⟩ e1
theorem LB.done {m : List (List Int)} {q : Nat} {L : Nat → Nat → List (Nat × Nat)} (h : LB m m.length q 0 L) (i j : Nat) (e : Nat × Nat) : e ∈ L i j ↔ e.1 < e.2 ∧ e.2 < m.length ∧ ∃ x', x' < letters m ∧ canon (nx m e.1 (x' : Int)) (nx m e.2 (x' : Int)) = (i, j) := by
  rw [h i j e]
  constructor
  · rintro ⟨x', ⟨a1, a2, a3, a4⟩, h2⟩
    exact ⟨a1, a2, x', a3, h2⟩
  · rintro ⟨a1, a2, x', a3, h2⟩
    exact ⟨x', ⟨a1, a2, a3, by omega⟩, h2⟩
/-- The length that was found for a pair (0: none), and whether one was. -/
def lenIn (F : List (Nat × Nat × Nat)) (p q : Nat) : Nat := match F.find? (fun e => e.1 == p && e.2.1 == q) with
  | some e => e.2.2
  | none => 0
def inF (F : List (Nat × Nat × Nat)) (p q : Nat) : Bool := F.any fun e => e.1 == p && e.2.1 == q
theorem inF_iff {F : List (Nat × Nat × Nat)} {p q : Nat} : inF F p q = true ↔ ∃ l, (p, q, l) ∈ F := by
  unfold inF
  rw [List.any_eq_true]
  constructor
  · rintro ⟨e, he, h⟩
    simp only [Bool.and_eq_true, beq_iff_eq] at h
    exact ⟨e.2.2, by rw [← h.1, ← h.2]; exact he⟩
  · rintro ⟨l, h⟩
    exact ⟨_, h, by simp⟩
theorem lenIn_snoc {F : List (Nat × Nat × Nat)} {p q l : Nat} (h : inF F p q = false) (a d : Nat) : lenIn (F ++ [(p, q, l)]) a d = if a = p ∧ d = q then l else lenIn F a d := by
  unfold lenIn
  rw [List.find?_append]
  by_cases e : a = p ∧ d = q
  · obtain ⟨rfl, rfl⟩ := e
    have : F.find? (fun e => e.1 == a && e.2.1 == d) = none := by
      rw [List.find?_eq_none]
      intro x hx
      unfold inF at h
      simpa using List.any_eq_false.1 h x hx
    rw [this]
    simp
  · rw [if_neg e]
    cases hf : F.find? (fun e => e.1 == a && e.2.1 == d) with
    | some x => simp
    | none =>
      have : ((p == a) && (q == d)) = false := by
        rw [Bool.eq_false_iff]
        simp
        intro h1 h2
        exact e ⟨h1.symm, h2.symm⟩
      simp [this]
theorem inF_snoc (F : List (Nat × Nat × Nat)) (p q l : Nat) (a d : Nat) : inF (F ++ [(p, q, l)]) a d = if a = p ∧ d = q then true else inF F a d := by
  unfold inF
  rw [List.any_append]
  by_cases e : a = p ∧ d = q
  · obtain ⟨rfl, rfl⟩ := e
    simp
  · rw [if_neg e]
    have : ((p == a) && (q == d)) = false := by
      rw [Bool.eq_false_iff]
      simp
      intro h1 h2
      exact e ⟨h1.symm, h2.symm⟩
    simp [this]
theorem lenIn_mem {m : List (List Int)} {F : List (Nat × Nat × Nat)} {i : Nat} (h : MB m F i) {p q l : Nat} (hm : (p, q, l) ∈ F) : lenIn F p q = l := by
  unfold lenIn
  cases hf : F.find? (fun e => e.1 == p && e.2.1 == q) with
  | none =>
    have := List.find?_eq_none.1 hf _ hm
    simp at this
  | some e =>
    have h1 := List.find?_some hf
    have h2 := List.mem_of_find?_eq_some hf
    simp only [Bool.and_eq_true, beq_iff_eq] at h1
    have a1 := (h.ok _ h2).2.2
    rw [h1.1, h1.2] at a1
    exact mdist_unique a1 (h.ok _ hm).2.2
/-- The program's map of lengths. -/
def LMap (w : World) (B : Nat) (F : List (Nat × Nat × Nat)) : Prop := PMap w B F.length (.int .i64 0) (fun p q => .int .i64 (lenIn F p q : Nat)) (inF F) F.length
theorem LMap.made (w : World) : LMap (w.alloc (.map #[] 0)) w.heap.size [] := (PMap.made w (.int .i64 0)).congr fun p q _ _ => ⟨rfl, rfl⟩
theorem LMap.put {w : World} {B : Nat} {F : List (Nat × Nat × Nat)} (h : LMap w B F) (hn : F.length < 1000000) {p q : Nat} (hp : p < 1000000) (hq : q < 1000000) (l : Nat) (hno : inF F p q = false) :
    ∃ w', (Instr.mapUpdate 72 (.map (some B)) (.agg #[.int .i64 p, .int .i64 q]) (.int .i64 l)).run Tryd.prog w = .ok () w' ∧ LMap w' B (F ++ [(p, q, l)]) ∧ w.grownBy w' (some B) := by
  obtain ⟨w', h1, h2, h3⟩ := PMap.put h Tryd.underlying72 (by unfold maxLen; omega) hp hq (.int .i64 l)
  refine ⟨w', h1, ?_, h3⟩
  rw [hno] at h2
  unfold LMap
  rw [List.length_append, List.length_singleton]
  refine PMap.congr (by simpa using h2) fun a d _ _ => ⟨?_, (inF_snoc F p q l a d).symm⟩
  simp only [lenIn_snoc hno]
  split <;> rfl
/-- The length of a shortest word that merges two states; 0: there is none. -/
def len0 (m : List (List Int)) (p q : Nat) : Int := if 0 ≤ mlen m p q then mlen m p q else 0
/-- What the search hands back. -/
def LenMap (m : List (List Int)) (w : World) (B : Nat) : Prop :=
  ∃ n V T c, PMap w B n (.int .i64 0) V T c ∧ (∀ p q, p ≤ q → q < m.length → V p q = .int .i64 (len0 m p q) ∧ T p q = decide (0 ≤ mlen m p q)) ∧
    (m.length * (m.length + 1) ≤ 2 * c ↔ ∀ p q, p < q → q < m.length → ∃ k, mergeP m p q k) ∧ c ≤ 3600
theorem LenMap.below {m : List (List Int)} {w w' : World} {B : Nat} (h : LenMap m w B) (hb : Below w.heap.size w w') : LenMap m w' B := by
  obtain ⟨n, V, T, c, h1, h2⟩ := h
  exact ⟨n, V, T, c, h1.below hb, h2⟩
theorem LMap.done {m : List (List Int)} {w : World} {B : Nat} {F : List (Nat × Nat × Nat)} (hv : validM m = true) (hm : m.length ≤ 60) (h : LMap w B F) (hM : MB m F F.length) : LenMap m w B := by
  refine ⟨_, _, _, _, h, fun p q hpq hq => ?_, hM.count hv, ?_⟩
  · rcases mlen_spec hv (p := p) (q := q) (by omega) hq with ⟨h1, h2⟩ | ⟨j, h1, h2, h3⟩
    · have hno : ∀ l, (p, q, l) ∉ F := fun l hm => h2 l (hM.ok _ hm).2.2.1
      have hf : inF F p q = false := by
        rw [Bool.eq_false_iff]
        intro e
        obtain ⟨l, hl⟩ := inF_iff.1 e
        exact hno l hl
      have hl : lenIn F p q = 0 := by
        unfold lenIn
        cases hf2 : F.find? (fun e => e.1 == p && e.2.1 == q) with
        | none => rfl
        | some e =>
          have h1 := List.find?_some hf2
          have h2 := List.mem_of_find?_eq_some hf2
          simp only [Bool.and_eq_true, beq_iff_eq] at h1
          exact absurd h2 (by rw [show e = (p, q, e.2.2) from by rw [← h1.1, ← h1.2]]; exact hno _)
      refine ⟨?_, ?_⟩
      · rw [hl, len0, if_neg (by omega)]; rfl
      · rw [hf, h1]; rfl
    · have hmem := hM.all hv hpq hq h3
      refine ⟨?_, ?_⟩
      · rw [lenIn_mem hM hmem, len0, if_pos (by omega), h2]
      · rw [inF_iff.2 ⟨j, hmem⟩, h2]
        exact (decide_eq_true (by omega)).symm
  · have := hM.len
    have h2 : m.length * m.length ≤ 60 * 60 := Nat.mul_le_mul hm hm
    omega
theorem LMap.kept {w w' : World} {B : Nat} {F : List (Nat × Nat × Nat)} (h : LMap w B F) (hk : w'.heap[B]? = w.heap[B]?) : LMap w' B F := PMap.kept h hk
end Go.Proofs.YtfhcbgdonombaaaDoor
namespace Go.Proofs.YtfhcbgdonombaaaDoor
open Go.RowKit Go.Shelf
theorem LenMap.find {m : List (List Int)} {w : World} {B : Nat} (hv : validM m = true) (hL : LenMap m w B) {p q r : Nat} (hpq : p ≤ q) (hq : q < m.length) (hd : mdist m p q r) :
    (Instr.lookup 72 (.map (some B)) (.agg #[.int .i64 p, .int .i64 q]) false).run Tryd.prog w = .ok (.int .i64 r) w := by
  obtain ⟨p1, p2, -⟩ := valid_parts hv
  obtain ⟨n, V, T, c, h1, h2, -⟩ := hL
  rw [h1.look Tryd.underlying72 (zeroInt _) (p := p) (q := q) (by omega) (by omega), (h2 p q hpq hq).1]
  have := mlen_of hv (by omega) hq hd
  rw [len0, this, if_pos (by omega)]
end Go.Proofs.YtfhcbgdonombaaaDoor
namespace Go.Proofs.YtfhcbgdonombaaaDoor
open Go.RowKit Go.Shelf
theorem pick_mem {p : Nat → Bool} {n : Nat} {x : Int} : x ∈ pick p n ↔ ∃ t, t < n ∧ p t = true ∧ x = (t : Int) := by
  simp only [pick, List.mem_map, List.mem_filter, List.mem_range]
  constructor
  · rintro ⟨t, ⟨h1, h2⟩, rfl⟩; exact ⟨t, h1, h2, rfl⟩
  · rintro ⟨t, h1, h2, rfl⟩; exact ⟨t, ⟨h1, h2⟩, rfl⟩
theorem pick_set {m : List (List Int)} (p : Nat → Bool) : isSetM m (pick p m.length) = true := by
  refine isSetM_of_sorted (intsOf_sorted (List.Pairwise.filter _ List.pairwise_lt_range)) (fun x hx => ?_)
  obtain ⟨t, h1, _, rfl⟩ := pick_mem.1 hx
  omega
theorem pick_testBit (p : Nat → Bool) (n t : Nat) : (ofList (pick p n)).testBit t = (decide (t < n) && p t) := by
  rw [ofList_testBit, Bool.eq_iff_iff, List.any_eq_true, Bool.and_eq_true, decide_eq_true_eq]
  constructor
  · rintro ⟨x, hx, e⟩
    obtain ⟨q, h1, h2, rfl⟩ := pick_mem.1 hx
    have := of_decide_eq_true e
    rw [Int.toNat_natCast] at this
    subst this
    exact ⟨h1, h2⟩
  · rintro ⟨h1, h2⟩
    exact ⟨t, pick_mem.2 ⟨t, h1, h2, rfl⟩, by simp⟩
theorem hasB_testBit {l : List Int} (h : ∀ x ∈ l, 0 ≤ x) (t : Nat) : hasB l t = (ofList l).testBit t := by
  rw [ofList_testBit, hasB, Bool.eq_iff_iff, List.any_eq_true, List.any_eq_true]
  constructor
  · rintro ⟨x, hx, e⟩
    exact ⟨x, hx, by rw [beq_iff_eq] at e; simp [e]⟩
  · rintro ⟨x, hx, e⟩
    have h1 := of_decide_eq_true e
    have h2 := h x hx
    exact ⟨x, hx, by rw [beq_iff_eq]; omega⟩
theorem set_pos {m : List (List Int)} {l : List Int} (h : isSetM m l = true) : ∀ x ∈ l, 0 ≤ x := fun x hx => (isSetM_mem h x hx).1
theorem hasB_image {m : List (List Int)} (hv : validM m = true) {s u : List Int} (hs : isSetM m s = true) (hu : isWordM m u = true) (t : Nat) : hasB (imageM m s u) t = (imgWord m (ofList s) u).testBit t := by
  have hm : m.length ≤ 64 := by have := (valid_parts hv).2.1; omega
  have hu' := hu
  simp only [isWordM, Bool.and_eq_true] at hu'
  have hA := imgWord_lt hv u _ (ofList_lt m.length hm s (isSetM_mem hs)) hu'.2
  rw [hasB_testBit (set_pos (imageM_set hv hs hu)), imageM, ofList_elems (Nat.lt_of_lt_of_le hA (Nat.pow_le_pow_right (by decide) hm))]
end Go.Proofs.YtfhcbgdonombaaaDoor
namespace Go.Proofs.YtfhcbgdonombaaaDoor
open Go.RowKit Go.Shelf
theorem Image_as (v s u : Value) (m : List (List Int)) (sl ul L : List Int) (w : World) (hT : Tab w) (h : Rows w v m) (hs : Ints w s sl) (hu : Ints w u ul) (hv : validM m = true) (h1 : isSetM m sl = true) (h2 : isWordM m ul = true) (he : Hid (imageM m sl ul = L)) :
    Calls Tryd.prog 22 #[.agg #[v], s, u] w (ListOk w L) := by
  rw [← he.out]; exact Image_ok v s u m sl ul w hT h hs hu hv h1 h2
end Go.Proofs.YtfhcbgdonombaaaDoor
namespace Go.Proofs.YtfhcbgdonombaaaDoor
open Go.RowKit Go.Shelf
/-- All states. -/
def allM (n : Nat) : List Int := pick (fun _ => true) n
theorem allM_set (m : List (List Int)) : isSetM m (allM m.length) = true := pick_set _
theorem hasB_all {m : List (List Int)} (hv : validM m = true) {u : List Int} (hu : isWordM m u = true) (t : Nat) : hasB (imageM m (allM m.length) u) t = true ↔ ∃ s, s < m.length ∧ runM m s u = t := by
  have hm : m.length ≤ 64 := by have := (valid_parts hv).2.1; omega
  rw [hasB_image hv (allM_set m) hu]
  have hu' := hu
  simp only [isWordM, Bool.and_eq_true] at hu'
  rw [imgWord_mem hv u _ t (ofList_lt m.length hm _ (isSetM_mem (allM_set m))) hu'.2]
  constructor
  · rintro ⟨q, h1, h2, h3⟩; exact ⟨q, h1, h3⟩
  · rintro ⟨q, h1, h3⟩
    refine ⟨q, h1, ?_, h3⟩
    rw [allM, pick_testBit]
    simp [h1]
end Go.Proofs.YtfhcbgdonombaaaDoor
namespace Go.Proofs.YtfhcbgdonombaaaDoor
open Go.RowKit Go.Shelf
theorem allM_succ (k : Nat) : (allM (k + 1)).map (fun x => Value.int .i64 x) = (allM k).map (fun x => Value.int .i64 x) ++ [.int .i64 (k : Int)] := by
  unfold allM; rw [pick_succ]; rfl
theorem allM_len (k : Nat) : (allM k).length = k := by
  unfold allM pick; rw [List.length_map, List.filter_eq_self.2 (fun _ _ => rfl), List.length_range]
set_option maxHeartbeats 400000 in
theorem rAll_any (n : Nat) (w : World) (hn : n ≤ 1000) :
    Calls Tryd.prog 21 #[.int .i64 n] w fun e w' => ∃ r, e = .returned r ∧ Ints w' r (allM n) ∧ Below w.heap.size w w' := by
  obtain ⟨j0, hj, hy0, hy1, hy2⟩ := info_parts infoInt
  go_enter Tryd.func21, Tryd.ntmps21
  go_wp2
  go_loopw [3, 4] (fun r i wr => ∃ k : Nat, k ≤ n ∧ i = .int .i64 k ∧ Below w.heap.size w wr ∧ wr.ownsRow w.heap.size 3 1 r k ((allM k).map fun x => .int .i64 x)) (fun _ i _ => n - (intOf i).toNat)
  case atStart => exact ⟨0, Nat.zero_le _, rfl, Below.refl _ _, ⟨rfl, .inl ⟨rfl, rfl⟩⟩⟩
  case round =>
    obtain ⟨k, hk, rfl, hB, ho⟩ := hrel
    have hsz := hB.size
    by_cases hlt' : k < n
    · have hkm : (k : Int) < n := by omega
      have Hs := hid (allM_succ k)
      generalize allM k = pk at *
      go_wp2_with (at_builtin; refine wpList_append_own_at _ rfl _ _ 25 rfl w.heap.size 3 j0 (.int .i64 0) 1 8 Tryd.underlying25 hj hy0 hy1 hy2 rfl (by decide) _ _ _ rfl (ho.alloc _) ⟨wr.heap.size, 0, none⟩ 1 1 [.int .i64 (k : Int)] rfl rfl (cell_one_new _ _ _) (by simp [Value.oneCell']) (by unfold maxLen; omega) (by omega) (by simp; omega) ?_; intro v' w5 hown' hgrow' _ hat)
      go_roundw
      case rel => exact ⟨k + 1, by omega, by go_num, appended_below hB ho hsz hgrow', by rw [Hs.out]; exact hown'⟩
      case measure => simp [intOf]; omega
    · obtain rfl : k = n := by omega
      have hl := allM_len k
      go_wp2
      go_ret
      exact ⟨_, rfl, Ints.of_own (n₀ := w.heap.size) (e := 3) (by rw [hl]; exact ho) (by unfold big; omega), hB⟩
end Go.Proofs.YtfhcbgdonombaaaDoor
namespace Go.Proofs.YtfhcbgdonombaaaDoor
/-- Polynomials in two letters as lists of terms. -/
def mono (s u : Int) (k : Nat × Nat) : Int := s ^ k.1 * u ^ k.2
end Go.Proofs.YtfhcbgdonombaaaDoor
namespace Go.Proofs.YtfhcbgdonombaaaDoor
open Go.RowKit Go.Shelf
attribute [local go_sem] Oper.semAt_some
/-- The four boxes of the function. -/
structure SoonB (w : World) (S B : Nat) (best : Nat × Nat) (W : World) : Prop where
  set : W.heap[w.heap.size]? = some (.cells #[.int .u64 S] 54 (0, 0))
  map : W.heap[w.heap.size + 1]? = some (.cells #[.map (some B)] 72 (0, 0))
  res : W.heap[w.heap.size + 1 + 1]? = some (.cells #[.int .i64 0, .int .i64 0] 77 (0, 0))
  best : W.heap[w.heap.size + 1 + 1 + 1]? = some (.cells #[.int .i64 best.1, .int .i64 best.2] 77 (0, 0))
  below : Below w.heap.size w W
theorem SoonB.keep {w W W' : World} {S B : Nat} {best : Nat × Nat} (h : SoonB w S B best W) (a1 : W'.os = W.os) (a2 : W'.tape = W.tape) (a3 : W'.output = W.output) (a4 : W.heap.size ≤ W'.heap.size) (hk : ∀ k, k < w.heap.size + 1 + 1 + 1 + 1 → W'.heap[k]? = W.heap[k]?) : SoonB w S B best W' := by
  obtain ⟨h1, h2, h3, h4, h5⟩ := h
  refine ⟨(hk _ (by omega)).trans h1, (hk _ (by omega)).trans h2, (hk _ (by omega)).trans h3, (hk _ (by omega)).trans h4, ⟨a1.trans h5.os, a2.trans h5.tape, a3.trans h5.output, Nat.le_trans h5.size a4, fun k hk2 => (hk k (by omega)).trans (h5.block k hk2)⟩⟩
/-- What the inner loop's rounds keep of the outer one's. -/
structure SoonI (w : World) (S B p bp N : Nat) (Xo : Blocks) (Wb : World) (best : Nat × Nat) (W : World) : Prop where
  boxes : SoonB w S B best W
  pbox : W.heap[bp]? = some (.cells #[.int .i64 p] 3 (0, 0))
  kf : KeepsFrom (w.heap.size + 1 + 1 + 1 + 1) Wb W
  kp : Keep w.heap.size Xo Wb W
theorem kf_drewN (B : Nat) (W : World) (n : Nat) : KeepsFrom B W (W.drewN n) := kf_below (below_dr W n)
theorem SoonI.drew {w : World} {S B p bp N : Nat} {Xo : Blocks} {Wb W : World} {best : Nat × Nat} (h : SoonI w S B p bp N Xo Wb best W) (n : Nat) : SoonI w S B p bp N Xo Wb best (W.drewN n) :=
  ⟨h.boxes.keep rfl rfl rfl (Nat.le_refl _) fun _ _ => rfl, h.pbox, h.kf.trans (kf_drewN _ _ _), h.kp.trans (Keep.of_below (below_dr W n))⟩
end Go.Proofs.YtfhcbgdonombaaaDoor
namespace Go.Proofs.YtfhcbgdonombaaaDoor
open Go.RowKit Go.Shelf
/-- All pairs of states are merged by some word. -/
def allMerge (m : List (List Int)) : Prop := ∀ p q, p < q → q < m.length → ∃ k, mergeP m p q k
theorem elems_below (n : Nat) (hn : n ≤ 64) : elems (2 ^ n - 1) = List.range n := by
  rw [elems_range (n := n) (by have := Nat.two_pow_pos n; omega) hn]
  refine List.filter_eq_self.2 fun a ha => ?_
  rw [testBit_below]
  simpa using ha
end Go.Proofs.YtfhcbgdonombaaaDoor
namespace Go.Proofs.YtfhcbgdonombaaaDoor
open Go.RowKit Go.Shelf
theorem LenMap.len {m : List (List Int)} {w : World} {B : Nat} (hL : LenMap m w B) : ∃ c : Nat, (∀ ty, (Builtin.len_ #[72] ty #[.map (some B)]).run Tryd.prog w = .ok (.int .i64 c) w) ∧ (m.length * (m.length + 1) ≤ 2 * c ↔ allMerge m) ∧ c ≤ 3600 := by
  obtain ⟨n, V, T, c, h1, h2, h3, h4⟩ := hL
  exact ⟨c, fun ty => h1.len Tryd.underlying72 ty, h3, h4⟩
end Go.Proofs.YtfhcbgdonombaaaDoor
namespace Go.Proofs.YtfhcbgdonombaaaDoor
open Go.RowKit Go.Shelf
theorem ofList_all {n : Nat} (hn : n ≤ 64) : ofList (allM n) = 2 ^ n - 1 := by
  have hp : (2 : Nat) ^ n ≤ 2 ^ 64 := Nat.pow_le_pow_right (by decide) hn
  have h0 := Nat.two_pow_pos n
  have hm : ∀ x ∈ allM n, 0 ≤ x ∧ x < n := fun x hx => by
    unfold allM pick at hx
    simp at hx
    obtain ⟨a, ha, rfl⟩ := hx
    omega
  refine eq_of_elems _ _ (Nat.lt_of_lt_of_le (ofList_lt n hn _ hm) hp) (by omega) fun i _ => ?_
  rw [testBit_below, allM, pick_testBit]
  simp
theorem image_len {m : List (List Int)} (hm : m.length ≤ 64) (u : List Int) : (imageM m (allM m.length) u).length = (elems (imgWord m (2 ^ m.length - 1) u)).length := by
  rw [imageM, ofList_all hm, intsOf, List.length_map]
end Go.Proofs.YtfhcbgdonombaaaDoor
namespace Go.Proofs.YtfhcbgdonombaaaDoor
open Go.RowKit Go.Shelf
theorem lit2_rows (w : World) (a b c d : Int) : Rows (((w.alloc (.cells #[.int .i64 a, .int .i64 b] 3)).alloc (.cells #[.int .i64 c, .int .i64 d] 3)).alloc
    (.cells #[.slice (some ⟨w.heap.size, 0, none⟩) 2 2, .slice (some ⟨w.heap.size + 1, 0, none⟩) 2 2] 25)) (.slice (some ⟨w.heap.size + 1 + 1, 0, none⟩) 2 2) [[a, b], [c, d]] :=
  rows2 _ _ _ _ _ _ _ (by simp) ((Ints.two' w a b _ _ rfl).alloc _) (Ints.two' _ c d _ _ (by simp))
end Go.Proofs.YtfhcbgdonombaaaDoor
namespace Go.Proofs.YtfhcbgdonombaaaDoor
open Go.RowKit Go.Shelf
theorem c3_valid : validM (cernyM 3) = true := by decide +kernel
theorem c3_rows : cernyM 3 = [[1, 0], [2, 1], [0, 0]] := by decide +kernel
theorem c3_first : ((List.range 8).all fun i => !(decide (i < (imgF (cernyM 3)).length) && (szB (imgF (cernyM 3)) i == 1 && (List.range i).all (fun j => szB (imgF (cernyM 3)) j != 1))) || wordB (imgF (cernyM 3)) i == [1, 0, 0, 1]) = true := by decide +kernel
theorem c3_some : ((List.range 8).any fun i => decide (i < (imgF (cernyM 3)).length) && szB (imgF (cernyM 3)) i == 1) = true := by decide +kernel
theorem m3b_valid4 : validM [[1, 1], [0, 0]] = true := by decide +kernel
theorem m3b_rank : rkS (imgF [[1, 1], [0, 0]]) 2 (imgF [[1, 1], [0, 0]]).length = (2, []) := by decide +kernel
theorem shortest_c3 (v : Value) (w : World) (hT : Tab w) (h : Rows w v (cernyM 3)) : Calls Tryd.prog 9 #[.agg #[v]] w fun e w' => ∃ A c, e = .returned (.tuple #[.slice A 4 c, .int .i64 0]) ∧ Ints w' (.slice A 4 c) [1, 0, 0, 1] ∧ Below w.heap.size w w' := by
  refine (Shortest_ok v (cernyM 3) w hT h c3_valid (by decide)).mono ?_
  have hl : (imgF (cernyM 3)).length ≤ 8 := (imgF_good c3_valid).len
  rintro e w1 ⟨⟨i, r, hi, hs, hn, rfl, ho⟩ | ⟨hn, _⟩, hb⟩
  · have h1 := List.all_eq_true.1 c3_first i (List.mem_range.2 (by omega))
    have h2 : ((List.range i).all fun j => szB (imgF (cernyM 3)) j != 1) = true := by
      rw [List.all_eq_true]
      intro j hj
      have := hn j (List.mem_range.1 hj)
      simpa using this
    have hw : wordB (imgF (cernyM 3)) i = [1, 0, 0, 1] := by
      rw [h2, hs, decide_eq_true hi] at h1
      simpa using h1
    rw [hw] at ho
    have hI : Ints w1 r [1, 0, 0, 1] := Ints.of_own ho (by decide)
    obtain ⟨A, c, rfl, -, -⟩ := id hI
    exact ⟨A, c, rfl, hI, hb⟩
  · obtain ⟨i, hi, h2⟩ := List.any_eq_true.1 c3_some
    simp only [Bool.and_eq_true, decide_eq_true_eq, beq_iff_eq] at h2
    exact absurd h2.2 (hn i h2.1)
theorem rank_m3b (v : Value) (w : World) (hT : Tab w) (h : Rows w v [[1, 1], [0, 0]]) : Calls Tryd.prog 15 #[.agg #[v]] w fun e w' => ∃ A c, e = .returned (.tuple #[.int .i64 2, .slice A 0 c, .int .i64 0]) ∧ Below w.heap.size w w' := by
  refine (Rank_ok v [[1, 1], [0, 0]] w hT h m3b_valid4 (by decide)).mono ?_
  rintro e w1 ⟨r, rfl, ho, hb⟩
  rw [show ([[1, 1], [0, 0]] : List (List Int)).length = 2 from rfl, m3b_rank] at ho ⊢
  obtain ⟨A, c, rfl⟩ := ownsRow_slice ho
  exact ⟨A, c, rfl, hb⟩
theorem Ints.four' (w : World) (x y z u : Int) (t : TypeId) (k : Nat) (hk : k = w.heap.size) : Ints (w.alloc (.cells #[.int .i64 x, .int .i64 y, .int .i64 z, .int .i64 u] t)) (.slice (some ⟨k, 0, none⟩) 4 4) [x, y, z, u] := by
  subst hk
  refine ⟨_, 4, rfl, by unfold big; simp, fun i hi => ⟨w.heap.size, 0, rfl, ?_⟩⟩
  have h2 : i = 0 ∨ i = 1 ∨ i = 2 ∨ i = 3 := by simp at hi; omega
  rcases h2 with rfl | rfl | rfl | rfl <;> simp
set_option maxRecDepth 100000 in
set_option maxHeartbeats 2000000 in
theorem awake4_any (w : World) (hT : Tab w) :
    Calls Tryd.prog 14 #[] w fun e w' => e = .returned (.bool true) ∧ Below w.heap.size w w' := by
  go_enter Tryd.func14, Tryd.ntmps14
  go_wp2_with fail
  refine (Cerny_any 3 w (by decide) (by decide)).mono ?_
  rintro e w1 ⟨r1, rfl, i1, h1⟩
  obtain ⟨A1, k1, rfl⟩ : ∃ A c, r1 = .slice A 3 c := by obtain ⟨A, c, hv, _⟩ := id i1; exact ⟨A, c, hv⟩
  have hX := bal (Below.refl _ w1) (.cells #[.slice A1 3 k1] 24)
  have q1 := Boxed.new w1 24 (.slice A1 3 k1)
  have i1X := i1.below hX
  have B1 := btr h1 hX
  have c1 := q1.cell
  go_wp2_with fail
  generalize w1.alloc (.cells #[.slice A1 3 k1] 24) = X at *
  refine (shortest_c3 _ X (hT.on B1) i1X).mono ?_
  rintro e w2 ⟨A2, k2, rfl, i2, h2⟩
  have c2 := (h2.cell (p := ⟨w1.heap.size, 0, none⟩) (World.block_lt_of_cell? _ _ c1)).trans c1
  have B2 := btr B1 h2
  have i12 := i1X.below h2
  have hR2 := lit2_rows w2 1 1 0 0
  have hX2 := bal (bal (bal (Below.refl _ w2) (.cells #[.int .i64 1, .int .i64 1] 3)) (.cells #[.int .i64 0, .int .i64 0] 3)) (.cells #[.slice (some ⟨w2.heap.size, 0, none⟩) 2 2, .slice (some ⟨w2.heap.size + 1, 0, none⟩) 2 2] 25)
  clear hX q1 i1X i1 h1 c1 h2
  go_wp2_with fail
  refine (rank_m3b _ _ (hT.on (btr B2 hX2)) hR2).mono ?_
  rintro e w3 ⟨A3, k3, rfl, h3⟩
  have b3 := btr hX2 h3
  have c3 := (b3.cell (p := ⟨w1.heap.size, 0, none⟩) (World.block_lt_of_cell? _ _ c2)).trans c2
  have B3 := btr B2 b3
  have i13 := i12.below b3
  have i23 := i2.below b3
  have hX3 := bal (bal (bal (bal (Below.refl _ w3) (.cells #[.int .i64 1, .int .i64 0] 3)) (.cells #[.int .i64 2, .int .i64 1] 3)) (.cells #[.int .i64 0, .int .i64 0] 3)) (.cells #[.slice (some ⟨w3.heap.size, 0, none⟩) 2 2, .slice (some ⟨w3.heap.size + 1, 0, none⟩) 2 2, .slice (some ⟨w3.heap.size + 1 + 1, 0, none⟩) 2 2] 25)
  have hR3 := lit_rows w3 1 0 2 1 0 0
  have i14 := i13.below hX3
  rw [c3_rows] at i14
  have i24 := i23.below hX3
  have B4 := btr B3 hX3
  clear hR2 hX2 h3 b3 c2 i12 i2 B2 i13 i23
  go_wp2_with fail
  refine (rSames_eq _ _ [[1, 0], [2, 1], [0, 0]] _ i14 hR3).mono ?_
  rintro e w4 ⟨rfl, h4⟩
  have i25 := (i24.below h4).alloc (.cells #[.int .i64 1, .int .i64 0, .int .i64 0, .int .i64 1] 3)
  have B5 := btr B4 h4
  have B6 := bal B5 (.cells #[.int .i64 1, .int .i64 0, .int .i64 0, .int .i64 1] 3)
  clear hR3 i14 hX3 c3
  go_wp2_with fail
  refine (rSame_eq _ _ [1, 0, 0, 1] _ i25 (Ints.four' w4 1 0 0 1 3 _ rfl)).mono ?_
  rintro e w5 ⟨rfl, h5⟩
  go_wp2
  go_ret
  exact ⟨rfl, btr B6 h5⟩
end Go.Proofs.YtfhcbgdonombaaaDoor
namespace Go.Proofs.YtfhcbgdonombaaaDoor
open Go.RowKit Go.Shelf
theorem foldl_set (m : List (List Int)) : ∀ (u : List Int) (S : Nat), u.all (inB 0 ((letters m : Int) - 1)) = true → imgWord m S u = (u.map Int.toNat).foldl (imgS m) S
  | [], _, _ => rfl
  | x :: u, S, h => by
    rw [List.all_cons, Bool.and_eq_true] at h
    have h0 : 0 ≤ x := by
      have h1 := h.1
      unfold inB at h1
      simp at h1; omega
    have ih := foldl_set m u (imgSet m S x) h.2
    unfold imgWord at ih ⊢
    have e : imgS m S x.toNat = imgSet m S x := by unfold imgS imgSet; rw [Int.toNat_of_nonneg h0]
    rw [List.foldl_cons, List.map_cons, List.foldl_cons, ih, e]
section
variable {m : List (List Int)}
theorem full_lt (m : List (List Int)) : 2 ^ m.length - 1 < 2 ^ m.length := by have := Nat.two_pow_pos m.length; omega
/-- Where a word leads from all states the search comes by a word that is no longer, nor later. -/
theorem imgF_has (hv : validM m = true) {u : List Int} (hu : u.all (inB 0 ((letters m : Int) - 1)) = true) :
    ∃ j, j < (imgF m).length ∧ plB (imgF m) j = ((imgWord m (2 ^ m.length - 1) u : Nat) : Int) ∧ SLe (wordB (imgF m) j) u := by
  obtain ⟨-, -, -, p4, -⟩ := valid_parts hv
  obtain ⟨j, h1, h2, h3⟩ := word_least (full_lt m) (by omega : letters m ≤ 1000) (fun p x hp hx => imgS_lt hv hp hx) _ (u.map Int.toNat) rfl (nat_word hu)
  rw [← foldl_set m u _ hu] at h2
  have e : ((u.map Int.toNat).map fun x : Nat => (x : Int)) = u := by
    rw [List.map_map]
    refine (List.map_congr_left fun x hx => ?_).trans (List.map_id u)
    have h4 := List.all_eq_true.1 hu x hx
    unfold inB at h4
    simp at h4
    simp; omega
  rw [e] at h3
  exact ⟨j, h1, h2, h3⟩
theorem imgF_word (hv : validM m = true) {j : Nat} (hj : j < (imgF m).length) :
    (wordB (imgF m) j).all (inB 0 ((letters m : Int) - 1)) = true ∧ plB (imgF m) j = ((imgWord m (2 ^ m.length - 1) (wordB (imgF m) j) : Nat) : Int) := by
  obtain ⟨-, -, -, p4, -⟩ := valid_parts hv
  have hg := imgF_good hv
  have hw := word_letters hg.tree (LetB.bfs (imgS m) (letters m) (2 ^ m.length - 1) (2 ^ m.length)) j hj
  refine ⟨hw, ?_⟩
  have h := word_leads (full_lt m) (by omega : letters m ≤ 1000) (fun p x hp hx => imgS_lt hv hp hx) j hj
  rw [foldl_set m _ _ hw]
  exact h
theorem imgF_len (hv : validM m = true) (h12 : m.length ≤ 12) {j : Nat} (hj : j < (imgF m).length) : (wordB (imgF m) j).length ≤ 4096 := by
  have h1 := wordB_len (imgF_good hv).tree j hj
  have h2 := (imgF_good hv).len
  have h3 : 2 ^ m.length ≤ 2 ^ 12 := Nat.pow_le_pow_right (by decide) h12
  omega
theorem imgF_isWord (hv : validM m = true) (h12 : m.length ≤ 12) {j : Nat} (hj : j < (imgF m).length) : isWordM m (wordB (imgF m) j) = true := by
  have h1 := imgF_len hv h12 hj
  simp only [isWordM, Bool.and_eq_true, decide_eq_true_eq]
  exact ⟨by omega, (imgF_word hv hj).1⟩
theorem szB_image (hv : validM m = true) (h12 : m.length ≤ 12) {j : Nat} (hj : j < (imgF m).length) {u : List Int} (hp : plB (imgF m) j = ((imgWord m (2 ^ m.length - 1) u : Nat) : Int)) : (imageM m (allM m.length) u).length = szB (imgF m) j := by
  rw [image_len (by omega), szB, hp, Int.toNat_natCast]
theorem szB_pos (hv : validM m = true) (h12 : m.length ≤ 12) {j : Nat} (hj : j < (imgF m).length) : 1 ≤ szB (imgF m) j := by
  obtain ⟨p1, -⟩ := valid_parts hv
  have hw := imgF_isWord hv h12 hj
  rw [← szB_image hv h12 hj (imgF_word hv hj).2]
  have h := (hasB_all hv hw (t := runM m 0 (wordB (imgF m) j))).2 ⟨0, by omega, rfl⟩
  cases hi : imageM m (allM m.length) (wordB (imgF m) j) with
  | nil => rw [hi] at h; simp [hasB] at h
  | cons a l => simp
theorem imgF_rise (hv : validM m = true) {j k : Nat} (hjk : j < k) (hk : k < (imgF m).length) : SL (wordB (imgF m) j) (wordB (imgF m) k) :=
  words_rise (imgF_good hv).tree (OrdB.bfs (imgS m) (letters m) (2 ^ m.length - 1) (2 ^ m.length)) k j hjk hk
/-- The rank after k sets. -/
theorem rkS_spec {F : Steps} {n : Nat} (h0 : szB F 0 = n) (hw : wordB F 0 = []) : ∀ k, ∃ i, (i < k ∨ i = 0) ∧ (rkS F n k).1 = szB F i ∧ (rkS F n k).2 = wordB F i ∧ (∀ j, j < k → szB F i ≤ szB F j) ∧ ∀ j, j < i → szB F i < szB F j
  | 0 => ⟨0, .inr rfl, h0.symm, hw.symm, fun j hj => by omega, fun j hj => by omega⟩
  | k + 1 => by
    obtain ⟨i, h1, h2, h3, h4, h5⟩ := rkS_spec h0 hw k
    by_cases h : szB F k < (rkS F n k).1
    · have e : rkS F n (k + 1) = (szB F k, wordB F k) := by show (if szB F k < (rkS F n k).1 then _ else _) = _; rw [if_pos h]
      refine ⟨k, .inl (Nat.lt_succ_self k), by rw [e], by rw [e], fun j hj => ?_, fun j hj => ?_⟩
      · by_cases ej : j = k
        · subst ej; exact Nat.le_refl _
        · have := h4 j (by omega); omega
      · have := h4 j hj; omega
    · have e : rkS F n (k + 1) = rkS F n k := by show (if szB F k < (rkS F n k).1 then _ else _) = _; rw [if_neg h]
      refine ⟨i, by omega, by rw [e]; exact h2, by rw [e]; exact h3, fun j hj => ?_, h5⟩
      by_cases ej : j = k
      · subst ej; omega
      · exact h4 j (by omega)
theorem imgF_zero (hv : validM m = true) : 0 < (imgF m).length ∧ szB (imgF m) 0 = m.length ∧ wordB (imgF m) 0 = [] := by
  obtain ⟨p1, p2, -⟩ := valid_parts hv
  obtain ⟨h1, h2⟩ := bfs_zero (imgS m) (letters m) (2 ^ m.length - 1) (2 ^ m.length)
  refine ⟨h1, ?_, wordB_root (imgF_good hv).tree⟩
  unfold szB
  rw [show plB (imgF m) 0 = ((2 ^ m.length - 1 : Nat) : Int) from h2, Int.toNat_natCast, elems_below m.length (by omega)]
  simp
/-- The rank and its word. -/
theorem rank_spec (hv : validM m = true) : ∃ i, i < (imgF m).length ∧ (rkS (imgF m) m.length (imgF m).length).1 = szB (imgF m) i ∧ (rkS (imgF m) m.length (imgF m).length).2 = wordB (imgF m) i ∧
    (∀ j, j < (imgF m).length → szB (imgF m) i ≤ szB (imgF m) j) ∧ ∀ j, j < i → szB (imgF m) i < szB (imgF m) j := by
  obtain ⟨z1, z2, z3⟩ := imgF_zero hv
  obtain ⟨i, h1, h2⟩ := rkS_spec z2 z3 (imgF m).length
  exact ⟨i, by rcases h1 with h1 | h1 <;> omega, h2⟩
end
end Go.Proofs.YtfhcbgdonombaaaDoor
namespace Go.Proofs.YtfhcbgdonombaaaDoor
open Go.RowKit Go.Shelf
theorem Ints.nil (w : World) : Ints w (.slice none 0 0) [] := ⟨none, 0, rfl, by simp, fun i hi => by simp at hi⟩
end Go.Proofs.YtfhcbgdonombaaaDoor
