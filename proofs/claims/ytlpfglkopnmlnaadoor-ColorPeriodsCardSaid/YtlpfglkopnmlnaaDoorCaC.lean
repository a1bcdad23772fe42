/-
  Texts that the proof of the law stands on: K2, Later, K4, K3, K8, Z4, Q9, Q11, D1, Tb, E1, Z5, Z6, Z10, R8, R9, Z11, Z12, Z7, Z8, Z13, Z2, Z14, Z19, Z3, MApp, Z20, Z21.
-/
import Derived.Test.YtlpfglkopnmlnaaDoorCaB
import Derived.BigQuiet
import Derived.Deep.QuietTactic
import Derived.Sort.OwnSortedInts
import Derived.Lib.OwnBridge
import Derived.Test.YtlpfglkopnmlnaaDoorShelf
import Derived.Deep.RegionHeld3
import Derived.Deep.AppendLies
import Derived.Deep.RegionLaw
import Derived.Maps.AppendAt
namespace Go.Proofs.YtlpfglkopnmlnaaDoor
open Go.RowKit Go.Shelf
theorem held_one {w1 w' : World} {p : Addr} {u : Value} (h1 : w1.cell? p = some u) (hb : Below w1.heap.size w1 w') : Below w1.heap.size w1 w' ∧ w'.cell? p = some u :=
  ⟨hb, (hb.cell (p := p) (World.block_lt_of_cell? _ _ h1)).trans h1⟩
theorem allM_succ (k : Nat) : (allM (k + 1)).map (fun x => Value.int .i64 x) = (allM k).map (fun x => Value.int .i64 x) ++ [.int .i64 (k : Int)] := by
  unfold allM; rw [pick_succ]; rfl
theorem allM_len (k : Nat) : (allM k).length = k := by
  unfold allM pick; rw [List.length_map, List.filter_eq_self.2 (fun _ _ => rfl), List.length_range]
set_option maxHeartbeats 400000 in
theorem rAll_any (n : Nat) (w : World) (hn : n ≤ 1000) :
    Calls Tryd.prog 28 #[.int .i64 n] w fun e w' => ∃ r, e = .returned r ∧ Ints w' r (allM n) ∧ Below w.heap.size w w' := by
  obtain ⟨j0, hj, hy0, hy1, hy2⟩ := info_parts infoInt
  go_enter Tryd.func28, Tryd.ntmps28
  go_wp2
  go_loopw [3, 4] (fun r i wr => ∃ k : Nat, k ≤ n ∧ i = .int .i64 k ∧ Below w.heap.size w wr ∧ wr.ownsRow w.heap.size 3 1 r k ((allM k).map fun x => .int .i64 x)) (fun _ i _ => n - (intOf i).toNat)
  case atStart => exact ⟨0, Nat.zero_le _, rfl, Below.refl _ _, ⟨rfl, .inl ⟨rfl, rfl⟩⟩⟩
  case round =>
    obtain ⟨k, hk, rfl, hB, ho⟩ := hrel
    have hsz := hB.size
    by_cases hlt' : k < n
    · have hkm : (k : Int) < n := by omega
      have Hs := hid (allM_succ k)
      generalize allM k = pk at *
      go_wp2_with (at_builtin; refine wpList_append_own_at _ rfl _ _ 41 rfl w.heap.size 3 j0 (.int .i64 0) 1 8 Tryd.underlying41 hj hy0 hy1 hy2 rfl (by decide) _ _ _ rfl (ho.alloc _) ⟨wr.heap.size, 0, none⟩ 1 1 [.int .i64 (k : Int)] rfl rfl (cell_one_new _ _ _) (by simp [Value.oneCell']) (by unfold maxLen; omega) (by omega) (by simp; omega) ?_; intro v' w5 hown' hgrow' _ hat)
      go_roundw
      case rel => exact ⟨k + 1, by omega, by go_num, appended_below hB ho hsz hgrow', by rw [Hs.out]; exact hown'⟩
      case measure => simp [intOf]; omega
    · obtain rfl : k = n := by omega
      have hl := allM_len k
      go_wp2
      go_ret
      exact ⟨_, rfl, Ints.of_own (n₀ := w.heap.size) (e := 3) (by rw [hl]; exact ho) (by unfold big; omega), hB⟩
end Go.Proofs.YtlpfglkopnmlnaaDoor
namespace Go.Proofs.YtlpfglkopnmlnaaDoor
open Go.RowKit
/-- A world behind another one: memory has been added. -/
structure LaterW (y : World) where
  world : World
  below : Below y.heap.size y world
instance (y : World) : Nonempty (LaterW y) := ⟨⟨y, Below.refl _ _⟩⟩
theorem wp_region_later {P : Program} {id : Nat} {Q : Exit → Act → World → Prop} {a : Act} {y : World} {l : List Oper} (hm : P.follows .mixedOrders = true) (hB : Region.lexB .any l.toArray = true)
    (h : wpQuiet P l.toArray (fun w' => ∃ z : LaterW y, w' = z.world) (fun a' => ∀ z : LaterW y, Q .normal a' z.world) l a) : (Code.region id l.toArray true).wp P Q a y := by
  refine wp_region_quiet (C := fun w' => ∃ z : LaterW y, w' = z.world) hm hB ⟨⟨y.drew, below_dr y 1⟩, rfl⟩ ?_
  have e : (fun a' => ∀ z : LaterW y, Q .normal a' z.world) = fun a' => ∀ w', (∃ z : LaterW y, w' = z.world) → Q .normal a' w' := by
    funext a'
    exact propext ⟨fun h w' ⟨z, hz⟩ => by rw [hz]; exact h z, fun h z => h _ ⟨z, rfl⟩⟩
  rw [← e]
  simpa using h
theorem later_call {P : Program} {f : FuncId} {args : Array Value} {y : World} {z : LaterW y} {v : Value} (h : ∀ w, Below y.heap.size y w → Calls P f args w fun e w' => e = .returned v ∧ Below w.heap.size w w') :
    Calls P f args z.world fun e w'' => e = .returned v ∧ ∃ z' : LaterW y, w'' = z'.world :=
  (h z.world z.below).mono fun _ w'' ⟨he, hb⟩ => ⟨he, ⟨w'', btr z.below hb⟩, rfl⟩
theorem later_cell {y : World} {p : Addr} {v : Value} (h : y.cell? p = some v) : ∀ z : LaterW y, z.world.cell? p = some v := fun z => (z.below.cell (World.block_lt_of_cell? _ _ h)).trans h
end Go.Proofs.YtlpfglkopnmlnaaDoor
namespace Go.Proofs.YtlpfglkopnmlnaaDoor
open Go.RowKit Go.Shelf
section
variable {m : List (List Int)} (hv : validM m = true) (hc : connM m = true)
include hv hc
theorem lens_zero : (lensM m).getD 0 0 = 0 := by
  have h0 : 0 < m.length := by have := (valid_parts hv).1; omega
  obtain ⟨u, h1, h2, h3, h4, h5⟩ := lensM_get hv hc h0
  have := h5 [] rfl rfl
  simp at this
  subst this
  simpa using h3
/-- A word of k letters leads k classes on. -/
theorem cls_step {s : Nat} (hs : s < m.length) {u : List Int} (hu : u.all (inB 0 ((letters m : Int) - 1)) = true) :
    (clsM m).getD (runM m s u) 0 = ((clsM m).getD s 0 + u.length) % (perM m : Int) := by
  have ht := runQ_lt hv hs hu
  have h := len_mod hv hc u s hs hu
  rw [clsM_get m ht, clsM_get m hs, Int.emod_add_emod]
  symm
  rw [Int.emod_eq_emod_iff_emod_sub_eq_zero]
  exact Int.emod_eq_zero_of_dvd h
theorem cls_all {k : Nat} (hk : k < perM m) : hasB (clsM m) k = true := by
  obtain ⟨p1, p2, p3, p4, p5⟩ := valid_parts hv
  have hall : (List.replicate k (0 : Int)).all (inB 0 ((letters m : Int) - 1)) = true := by
    rw [List.all_eq_true]
    intro x hx
    obtain ⟨_, rfl⟩ := List.mem_replicate.1 hx
    exact inB_true ⟨by omega, by omega⟩
  have h0 : 0 < m.length := by omega
  have ht := runQ_lt hv h0 hall
  have h := cls_step hv hc h0 hall
  rw [clsM_get m h0, lens_zero hv hc, List.length_replicate, Int.zero_emod, Int.zero_add, Int.emod_eq_of_lt (by omega) (by omega)] at h
  have hl : runM m 0 (List.replicate k 0) < (clsM m).length := by rw [clsM_len]; exact ht
  rw [List.getD_eq_getElem?_getD, List.getElem?_eq_getElem hl, Option.getD_some] at h
  unfold hasB
  rw [List.any_eq_true]
  exact ⟨_, List.getElem_mem hl, by rw [h]; simp⟩
end
theorem Period_any (v : Value) (m : List (List Int)) (p e : Int) (w : World) (h : Rows w v m) (hp : (connM m = true ∧ validM m = true ∧ p = perM m ∧ e = 0) ∨ (BadM m e ∧ p = 0)) :
    Calls Tryd.prog 26 #[.agg #[v]] w fun x w' => x = .returned (.tuple #[.int .i64 p, .int .i64 e]) ∧ Below w.heap.size w w' := by
  rcases hp with ⟨h1, h2, rfl, rfl⟩ | ⟨h1, rfl⟩
  · exact Period_ok v m w h h2 h1
  · exact Period_bad v m e w h h1
theorem Classes_as (v : Value) (m : List (List Int)) (C : List Int) (w : World) (h : Rows w v m) (hv : validM m = true) (hc : connM m = true) (hC : Hid (clsM m = C)) :
    Calls Tryd.prog 32 #[.agg #[v]] w fun e w' => ∃ A c, e = .returned (.tuple #[.slice A m.length c, .int .i64 0]) ∧ Ints w' (.slice A m.length c) C ∧ Below w.heap.size w w' := by
  rw [← hC.out]
  refine (Classes_ok v m w h hv hc).mono ?_
  rintro e w1 ⟨r, rfl, ho, hb⟩
  have hl := clsM_len m
  have p2 := (valid_parts hv).2.1
  have hi : Ints w1 r (clsM m) := Ints.of_own (n₀ := w.heap.size) (e := 3) (by rw [hl]; exact ho) (by rw [hl]; unfold big; omega)
  obtain ⟨A, c, rfl, _⟩ := id hi
  rw [hl] at hi ⊢
  exact ⟨A, c, rfl, hi, hb⟩
end Go.Proofs.YtlpfglkopnmlnaaDoor
namespace Go.Proofs.YtlpfglkopnmlnaaDoor
open Go.RowKit Go.Shelf
theorem rAll_as (n : Nat) (L : List Int) (w : World) (hn : n ≤ 1000) (hL : Hid (allM n = L)) :
    Calls Tryd.prog 28 #[.int .i64 n] w fun e w' => ∃ r, e = .returned r ∧ Ints w' r L ∧ Below w.heap.size w w' := by
  rw [← hL.out]; exact rAll_any n w hn
theorem Sinks_as (v : Value) (m L : List (List Int)) (w : World) (hT : Tab w) (h : Rows w v m) (hv : validM m = true) (hL : Hid (sinksTo m m.length = L)) :
    Calls Tryd.prog 34 #[.agg #[v]] w fun e w' => ∃ A c, e = .returned (.tuple #[.slice A L.length c, .int .i64 0]) ∧ Rows w' (.slice A L.length c) L ∧ Below w.heap.size w w' := by
  rw [← hL.out]
  refine (Sinks_ok v m w hT h hv).mono ?_
  rintro e w1 ⟨r, rfl, hr, hb⟩
  obtain ⟨A, c, rfl, _⟩ := id hr
  exact ⟨A, c, rfl, hr, hb⟩
end Go.Proofs.YtlpfglkopnmlnaaDoor
namespace Go.Proofs.YtlpfglkopnmlnaaDoor
open Go.RowKit Go.Shelf
theorem row_below {m : List (List Int)} (hv : validM m = true) {t : Nat} (ht : t < m.length) : (m.getD t []).all (inB 0 ((m.length : Int) - 1)) = true := by
  obtain ⟨h1, h2⟩ := (valid_parts hv).2.2.2.2 t ht
  rw [List.all_eq_true]
  intro x hx
  obtain ⟨j, hj, rfl⟩ := List.mem_iff_getElem.1 hx
  have := h2 j (by omega)
  rw [List.getD_eq_getElem?_getD, List.getElem?_eq_getElem hj, Option.getD_some] at this
  exact inB_true ⟨this.1, by omega⟩
end Go.Proofs.YtlpfglkopnmlnaaDoor
namespace Go.Proofs.YtlpfglkopnmlnaaDoor
open Go.RowKit Go.Shelf
def fct : Nat → Nat
  | 0 => 1
  | k + 1 => fct k * (k + 1)
theorem fct_pos : ∀ k, 0 < fct k
  | 0 => by decide
  | k + 1 => Nat.mul_pos (fct_pos k) (Nat.succ_pos k)
theorem fct_le {k : Nat} (h : k ≤ 6) : fct k ≤ 720 := by
  rcases (show k = 0 ∨ k = 1 ∨ k = 2 ∨ k = 3 ∨ k = 4 ∨ k = 5 ∨ k = 6 by omega) with rfl | rfl | rfl | rfl | rfl | rfl | rfl <;> decide
theorem fct_dvd : ∀ (n a b : Nat), a + b = n → fct a * fct b ∣ fct n
  | 0, a, b, h => by
    obtain rfl : a = 0 := by omega
    obtain rfl : b = 0 := by omega
    exact Nat.dvd_refl _
  | n + 1, a, b, h => by
    have e : fct (n + 1) = fct n * a + fct n * b := by rw [← Nat.mul_add, h]; rfl
    rw [e]
    refine Nat.dvd_add ?_ ?_
    · cases a with
      | zero => simp
      | succ a =>
        have ih := fct_dvd n a b (by omega)
        have e2 : fct (a + 1) * fct b = (fct a * fct b) * (a + 1) := by
          show fct a * (a + 1) * fct b = _
          rw [Nat.mul_assoc, Nat.mul_comm (a + 1), ← Nat.mul_assoc]
        rw [e2]
        exact Nat.mul_dvd_mul_right ih _
    · cases b with
      | zero => simp
      | succ b =>
        have ih := fct_dvd n a b (by omega)
        have e2 : fct a * fct (b + 1) = (fct a * fct b) * (b + 1) := by
          show fct a * (fct b * (b + 1)) = _
          rw [Nat.mul_assoc]
        rw [e2]
        exact Nat.mul_dvd_mul_right ih _
/-- The product over the states below n; how many elements are below n. -/
def prodT (l : List Int) : Nat → Nat
  | 0 => 1
  | t + 1 => prodT l t * fct (timesL l (t : Int))
def belowT (l : List Int) (n : Nat) : Nat := (l.filter fun x => decide (x < (n : Int))).length
theorem belowT_succ {l : List Int} (h : ∀ x ∈ l, 0 ≤ x) (n : Nat) : belowT l (n + 1) = belowT l n + timesL l (n : Int) := by
  unfold belowT timesL
  induction l with
  | nil => rfl
  | cons a l ih =>
    have ih := ih (fun x hx => h x (by simp [hx]))
    have ha := h a (by simp)
    simp only [List.filter_cons]
    by_cases h1 : a < (n : Int)
    · have h2 : a < ((n + 1 : Nat) : Int) := by omega
      have h3 : (a == (n : Int)) = false := beq_eq_false_iff_ne.2 (by omega)
      simp only [h1, h2, h3, decide_true, if_true, List.length_cons]
      simp only [if_neg (show ¬ (false = true) by decide)]
      omega
    · by_cases h2 : a = (n : Int)
      · have h3 : a < ((n + 1 : Nat) : Int) := by omega
        have h4 : (a == (n : Int)) = true := beq_iff_eq.2 h2
        simp only [h1, h3, h4, decide_true, decide_false, if_true, List.length_cons]
        simp only [if_neg (show ¬ (false = true) by decide)]
        omega
      · have h3 : ¬ a < ((n + 1 : Nat) : Int) := by omega
        have h4 : (a == (n : Int)) = false := beq_eq_false_iff_ne.2 h2
        simp only [h1, h3, h4, decide_false]
        simp only [if_neg (show ¬ (false = true) by decide)]
        exact ih
theorem prodT_dvd {l : List Int} (h : ∀ x ∈ l, 0 ≤ x) : ∀ n, prodT l n ∣ fct (belowT l n)
  | 0 => Nat.one_dvd _
  | n + 1 => by
    have ih := prodT_dvd h n
    rw [belowT_succ h]
    exact Nat.dvd_trans (Nat.mul_dvd_mul_right ih _) (fct_dvd _ _ _ rfl)
theorem belowT_all {l : List Int} {n : Nat} (h : ∀ x ∈ l, x < (n : Int)) : belowT l n = l.length := by
  unfold belowT
  rw [List.filter_eq_self.2 (fun x hx => decide_eq_true (h x hx))]
theorem prodT_pos (l : List Int) : ∀ n, 0 < prodT l n
  | 0 => Nat.one_pos
  | n + 1 => Nat.mul_pos (prodT_pos l n) (fct_pos _)
/-- How many different orders. -/
def ordN (l : List Int) (n : Nat) : Nat := fct l.length / prodT l n
theorem timesL_snoc (l : List Int) (x t : Int) : timesL (l ++ [x]) t = timesL l t + (if x = t then 1 else 0) := by
  unfold timesL
  rw [List.filter_append, List.length_append]
  by_cases h : x = t
  · subst h; simp
  · rw [if_neg h]
    have : (x == t) = false := beq_eq_false_iff_ne.2 h
    simp [this]
theorem prodT_snoc (l : List Int) (x : Nat) : ∀ n, prodT (l ++ [(x : Int)]) n = if x < n then prodT l n * (timesL l x + 1) else prodT l n
  | 0 => by simp [prodT]
  | n + 1 => by
    have ih := prodT_snoc l x n
    unfold prodT
    rw [ih, timesL_snoc]
    by_cases h : x = n
    · subst h
      rw [if_neg (by omega), if_pos rfl, if_pos (by omega)]
      show prodT l x * (fct (timesL l x) * (timesL l x + 1)) = prodT l x * fct (timesL l x) * (timesL l x + 1)
      rw [Nat.mul_assoc]
    · have e0 : timesL l (n : Int) + (if (x : Int) = (n : Int) then 1 else 0) = timesL l (n : Int) := by rw [if_neg (by omega)]; rfl
      rw [e0]
      by_cases h2 : x < n
      · rw [if_pos h2, if_pos (by omega), Nat.mul_assoc, Nat.mul_assoc, Nat.mul_comm (timesL l x + 1)]
      · rw [if_neg h2, if_neg (by omega)]
/-- One element more: as the program reckons. -/
theorem ordN_snoc {l : List Int} {n x : Nat} (h : ∀ y ∈ l, 0 ≤ y ∧ y < (n : Int)) (hx : x < n) : ordN (l ++ [(x : Int)]) n = ordN l n * (l.length + 1) / (timesL l x + 1) := by
  have hd : prodT l n ∣ fct l.length := by
    have := prodT_dvd (fun y hy => (h y hy).1) n
    rwa [belowT_all (fun y hy => (h y hy).2)] at this
  unfold ordN
  rw [prodT_snoc, if_pos hx, List.length_append, List.length_singleton]
  show fct l.length * (l.length + 1) / (prodT l n * (timesL l x + 1)) = _
  rw [← Nat.div_div_eq_div_mul, Nat.mul_comm (fct l.length), Nat.mul_div_assoc _ hd, Nat.mul_comm]
theorem ordN_le {l : List Int} {n : Nat} (h : l.length ≤ 6) : ordN l n ≤ 720 := Nat.le_trans (Nat.div_le_self _ _) (fct_le h)
theorem ordN_pos {l : List Int} {n : Nat} (h : ∀ y ∈ l, 0 ≤ y ∧ y < (n : Int)) : 0 < ordN l n := by
  have hd : prodT l n ∣ fct l.length := by
    have := prodT_dvd (fun y hy => (h y hy).1) n
    rwa [belowT_all (fun y hy => (h y hy).2)] at this
  exact Nat.div_pos (Nat.le_of_dvd (fct_pos _) hd) (prodT_pos l n)
theorem ordN_nil (n : Nat) : ordN [] n = 1 := by
  have : ∀ n, prodT [] n = 1 := fun n => by
    induction n with
    | zero => rfl
    | succ n ih => unfold prodT; rw [ih]; rfl
  unfold ordN
  rw [this]; rfl
/-- As the reference reckons: quotient by quotient. -/
def waysT (l : List Int) (t : Nat) : Nat := fct l.length / prodT l t
theorem waysT_zero (l : List Int) : waysT l 0 = fct l.length := by unfold waysT prodT; simp
theorem waysT_succ (l : List Int) (t : Nat) : waysT l (t + 1) = waysT l t / fct (timesL l t) := by
  unfold waysT
  rw [Nat.div_div_eq_div_mul]
  rfl
/-- The number of colourings, state by state, up to a limit. -/
def colTo (m : List (List Int)) (lim : Nat) : Nat → Option Nat
  | 0 => some 1
  | s + 1 => match colTo m lim s with
    | none => none
    | some c => if lim / ordN (m.getD s []) m.length < c then none else some (c * ordN (m.getD s []) m.length)
theorem colTo_none {m : List (List Int)} {lim s : Nat} (h : colTo m lim s = none) : ∀ k, colTo m lim (s + k) = none
  | 0 => h
  | k + 1 => by
    show (match colTo m lim (s + k) with | none => none | some c => _) = none
    rw [colTo_none h k]
theorem colTo_pos {m : List (List Int)} (hv : validM m = true) {lim : Nat} (hl : 1 ≤ lim) : ∀ {s c : Nat}, s ≤ m.length → colTo m lim s = some c → 1 ≤ c ∧ c ≤ lim
  | 0, c, _, h => by
    obtain rfl : 1 = c := by simpa [colTo] using h
    omega
  | s + 1, c, hs, h => by
    unfold colTo at h
    cases h1 : colTo m lim s with
    | none => rw [h1] at h; cases h
    | some c1 =>
      rw [h1] at h
      have ih := colTo_pos hv hl (by omega) h1
      have hrow : ∀ y ∈ m.getD s [], 0 ≤ y ∧ y < (m.length : Int) := fun y hy => by
        have := inB_iff.1 (List.all_eq_true.1 (row_below hv (t := s) (by omega)) y hy)
        omega
      have hp := ordN_pos hrow
      by_cases h2 : lim / ordN (m.getD s []) m.length < c1
      · simp only [if_pos h2] at h; cases h
      · simp only [if_neg h2, Option.some.injEq] at h
        subst h
        refine ⟨Nat.mul_pos (by omega) hp, ?_⟩
        exact Nat.le_trans (Nat.mul_le_mul_right _ (Nat.le_of_not_lt h2)) (Nat.div_mul_le_self _ _)
end Go.Proofs.YtlpfglkopnmlnaaDoor
namespace Go.Proofs.YtlpfglkopnmlnaaDoor
open Go.RowKit Go.Shelf
/-- A list by a function. -/
def Lf (n : Nat) (f : Nat → Int) : List Int := (List.range n).map f
theorem Lf_len (n : Nat) (f : Nat → Int) : (Lf n f).length = n := by simp [Lf]
theorem Lf_get {n : Nat} (f : Nat → Int) {i : Nat} (hi : i < n) : (Lf n f).getD i 0 = f i := by
  simp [Lf, List.getD_eq_getElem?_getD, List.getElem?_map, List.getElem?_range hi]
theorem Lf_congr {n : Nat} {f g : Nat → Int} (h : ∀ i, i < n → f i = g i) : Lf n f = Lf n g := List.map_congr_left fun i hi => h i (List.mem_range.1 hi)
theorem Lf_set {n : Nat} (f : Nat → Int) (s : Nat) (v : Int) : (Lf n f).set s v = Lf n (fun i => if i = s then v else f i) := by
  apply List.ext_getElem
  · simp [Lf]
  · intro i h1 h2
    rw [List.getElem_set]
    simp only [Lf, List.getElem_map, List.getElem_range]
    by_cases e : s = i
    · rw [if_pos e, if_pos e.symm]
    · rw [if_neg e, if_neg (fun h => e h.symm)]
theorem Lf_cell {n : Nat} (f : Nat → Int) {i : Nat} (hi : i < n) : ((Lf n f).map fun x => Value.int .i64 x)[i]? = some (.int .i64 (f i)) := by
  rw [getI_cell (by rw [Lf_len]; exact hi), Lf_get f hi]
end Go.Proofs.YtlpfglkopnmlnaaDoor
namespace Go.Proofs.YtlpfglkopnmlnaaDoor
open Go.RowKit Go.Shelf
theorem least_nat {p : Nat → Prop} : ∀ n, p n → ∃ k, p k ∧ k ≤ n ∧ ∀ j, p j → ¬ j < k := by
  intro n
  induction n using Nat.strongRecOn with
  | _ n ih =>
    intro hn
    by_cases h : ∃ j, p j ∧ j < n
    · obtain ⟨j, hj, hlt⟩ := h
      obtain ⟨k, h1, h2, h3⟩ := ih j hlt hj
      exact ⟨k, h1, by omega, h3⟩
    · exact ⟨n, hn, Nat.le_refl _, fun j hj hlt => h ⟨j, hj, hlt⟩⟩
theorem allw_take {K : Nat} {u : List Int} (h : u.all (inB 0 ((K : Int) - 1)) = true) (i : Nat) : (u.take i).all (inB 0 ((K : Int) - 1)) = true := by
  rw [List.all_eq_true] at h ⊢
  exact fun x hx => h x (List.mem_of_mem_take hx)
theorem allw_drop {K : Nat} {u : List Int} (h : u.all (inB 0 ((K : Int) - 1)) = true) (i : Nat) : (u.drop i).all (inB 0 ((K : Int) - 1)) = true := by
  rw [List.all_eq_true] at h ⊢
  exact fun x hx => h x (List.mem_of_mem_drop hx)
theorem run_split (m : List (List Int)) (a : Nat) (u : List Int) (i : Nat) : runM m (runM m a (u.take i)) (u.drop i) = runM m a u := by
  rw [← runQ_append, List.take_append_drop]
theorem pigeon {n k : Nat} (f : Nat → Nat) (hf : ∀ i, i ≤ k → f i < n) (hk : n ≤ k) : ∃ i j, i < j ∧ j ≤ k ∧ f i = f j := by
  apply Classical.byContradiction
  intro hno
  have hnd : ((List.range (k + 1)).map fun i => ((f i : Nat) : Int)).Nodup := by
    unfold List.Nodup
    rw [List.pairwise_map]
    refine List.Pairwise.imp_of_mem (fun {i j} _ hj hlt e => hno ⟨i, j, hlt, ?_, by omega⟩) List.pairwise_lt_range
    have := List.mem_range.1 hj
    omega
  have := nodup_len n _ hnd (fun x hx => by
    obtain ⟨i, hi, rfl⟩ := List.mem_map.1 hx
    have h1 := List.mem_range.1 hi
    have h2 := hf i (by omega)
    omega)
  simp at this
  omega
section
variable {m : List (List Int)} (hv : validM m = true) (hc : connM m = true) (hp : perM m = 1)
include hv hc hp
end
end Go.Proofs.YtlpfglkopnmlnaaDoor
namespace Go.Proofs.YtlpfglkopnmlnaaDoor
open Go.RowKit Go.Shelf
/-- A word of k letters merges the two states. -/
def mergeP (m : List (List Int)) (p q k : Nat) : Prop := ∃ u : List Int, u.all (inB 0 ((letters m : Int) - 1)) = true ∧ u.length = k ∧ runM m p u = runM m q u
theorem mergeP_zero {m : List (List Int)} {p q : Nat} : mergeP m p q 0 ↔ p = q := by
  constructor
  · rintro ⟨u, _, h2, h3⟩
    obtain rfl : u = [] := List.length_eq_zero_iff.1 h2
    exact h3
  · rintro rfl; exact ⟨[], rfl, rfl, rfl⟩
theorem mergeP_cons {m : List (List Int)} {p q x k : Nat} (hx : x < letters m) (h : mergeP m (nx m p (x : Int)) (nx m q (x : Int)) k) : mergeP m p q (k + 1) := by
  obtain ⟨u, h1, h2, h3⟩ := h
  refine ⟨(x : Int) :: u, ?_, by simp [h2], h3⟩
  rw [List.all_cons, h1, Bool.and_true]
  exact inB_true ⟨by omega, by omega⟩
theorem mergeP_head {m : List (List Int)} {p q k : Nat} (h : mergeP m p q (k + 1)) : ∃ x, x < letters m ∧ mergeP m (nx m p (x : Int)) (nx m q (x : Int)) k := by
  obtain ⟨u, h1, h2, h3⟩ := h
  cases u with
  | nil => simp at h2
  | cons y u =>
    obtain ⟨hy, hu⟩ := all_cons_parts h1
    obtain ⟨x, rfl⟩ := Int.eq_ofNat_of_zero_le hy.1
    exact ⟨x, by omega, u, hu, by simpa using h2, h3⟩
theorem mergeP_symm {m : List (List Int)} {p q k : Nat} (h : mergeP m p q k) : mergeP m q p k := by
  obtain ⟨u, h1, h2, h3⟩ := h
  exact ⟨u, h1, h2, h3.symm⟩
/-- A shortest word that merges the two states has k letters. -/
def mdist (m : List (List Int)) (p q k : Nat) : Prop := mergeP m p q k ∧ ∀ i, i < k → ¬ mergeP m p q i
theorem mdist_symm {m : List (List Int)} {p q k : Nat} (h : mdist m p q k) : mdist m q p k := ⟨mergeP_symm h.1, fun i hi k => h.2 i hi (mergeP_symm k)⟩
theorem mdist_zero {m : List (List Int)} {p q : Nat} : mdist m p q 0 ↔ p = q := by
  constructor
  · exact fun h => mergeP_zero.1 h.1
  · exact fun h => ⟨mergeP_zero.2 h, fun i hi => by omega⟩
theorem mdist_unique {m : List (List Int)} {p q i j : Nat} (h : mdist m p q i) (k : mdist m p q j) : i = j := by
  rcases Nat.lt_trichotomy i j with e | e | e
  · exact absurd h.1 (k.2 i e)
  · exact e
  · exact absurd k.1 (h.2 j e)
theorem mdist_some {m : List (List Int)} {p q k : Nat} (h : mergeP m p q k) : ∃ j, j ≤ k ∧ mdist m p q j := by
  obtain ⟨j, h1, h2, h3⟩ := least_nat (p := mergeP m p q) k h
  exact ⟨j, h2, h1, fun i hi hp => h3 i hp hi⟩
theorem mdist_step {m : List (List Int)} {p q k : Nat} (h : mdist m p q (k + 1)) : ∃ x, x < letters m ∧ mdist m (nx m p (x : Int)) (nx m q (x : Int)) k := by
  obtain ⟨x, hx, he⟩ := mergeP_head h.1
  exact ⟨x, hx, he, fun i hi h2 => h.2 (i + 1) (by omega) (mergeP_cons hx h2)⟩
theorem mdist_up {m : List (List Int)} {p q x k : Nat} (hx : x < letters m) (h : mdist m (nx m p (x : Int)) (nx m q (x : Int)) k) (hn : ∀ i, i ≤ k → ¬ mergeP m p q i) : mdist m p q (k + 1) := ⟨mergeP_cons hx h.1, fun i hi => hn i (by omega)⟩
/-- Where there is a length, there are all the shorter ones. -/
theorem mdist_down {m : List (List Int)} (hv : validM m = true) : ∀ k p q, p < m.length → q < m.length → mdist m p q k → ∀ j, j ≤ k → ∃ p' q', p' < m.length ∧ q' < m.length ∧ mdist m p' q' j
  | 0, p, q, hp, hq, h, j, hj => ⟨p, q, hp, hq, by rw [show j = 0 by omega]; exact h⟩
  | k + 1, p, q, hp, hq, h, j, hj => by
    by_cases e : j = k + 1
    · subst e; exact ⟨p, q, hp, hq, h⟩
    · obtain ⟨x, hx, h2⟩ := mdist_step h
      exact mdist_down hv k _ _ (ldM_ok hv p x hp hx) (ldM_ok hv q x hq hx) h2 j (by omega)
theorem mdist_lt {m : List (List Int)} (hv : validM m = true) {p q k : Nat} (hp : p < m.length) (hq : q < m.length) (h : mdist m p q k) : k < m.length * m.length := by
  apply Classical.byContradiction
  intro hk
  have hf : ∀ j, ∃ c, j ≤ k → ∃ p' q', p' < m.length ∧ q' < m.length ∧ mdist m p' q' j ∧ c = p' * m.length + q' := fun j => by
    by_cases hj : j ≤ k
    · obtain ⟨p', q', h1, h2, h3⟩ := mdist_down hv k p q hp hq h j hj
      exact ⟨_, fun _ => ⟨p', q', h1, h2, h3, rfl⟩⟩
    · exact ⟨0, fun h => absurd h hj⟩
  obtain ⟨f, hf⟩ := Classical.axiomOfChoice hf
  obtain ⟨i, j, h1, h2, h3⟩ := pigeon (n := m.length * m.length) (k := k) f (fun i hi => by
    obtain ⟨p', q', a1, a2, _, a4⟩ := hf i hi
    rw [a4]
    have := Nat.mul_le_mul_right m.length (show p' + 1 ≤ m.length by omega)
    rw [Nat.succ_mul] at this
    omega) (by omega)
  obtain ⟨p1, q1, a1, a2, a3, a4⟩ := hf i (by omega)
  obtain ⟨p2, q2, b1, b2, b3, b4⟩ := hf j h2
  rw [a4, b4] at h3
  have e1 : p1 = p2 := by
    have := congrArg (· / m.length) h3
    simp only [Nat.add_comm (_ * _), Nat.add_mul_div_right _ _ (show 0 < m.length by omega), Nat.div_eq_of_lt a2, Nat.div_eq_of_lt b2] at this
    omega
  subst e1
  have e2 : q1 = q2 := by omega
  subst e2
  have := mdist_unique a3 b3
  omega
/-- Behind k rounds: the length of a shortest word, or -1. -/
def mlenAt (m : List (List Int)) : Nat → Nat → Nat → Int
  | 0, p, q => if p = q then 0 else -1
  | k + 1, p, q => if 0 ≤ mlenAt m k p q then mlenAt m k p q else if (List.range (letters m)).any (fun x : Nat => mlenAt m k (nx m p (x : Int)) (nx m q (x : Int)) == (k : Int)) then (k : Int) + 1 else -1
theorem mlenAt_spec (m : List (List Int)) : ∀ k p q, (mlenAt m k p q = -1 ∧ ∀ i, i ≤ k → ¬ mergeP m p q i) ∨ ∃ j : Nat, j ≤ k ∧ mlenAt m k p q = j ∧ mdist m p q j
  | 0, p, q => by
    by_cases e : p = q
    · exact .inr ⟨0, Nat.le_refl _, by simp [mlenAt, e], mdist_zero.2 e⟩
    · refine .inl ⟨by simp [mlenAt, e], fun i hi h => ?_⟩
      obtain rfl : i = 0 := by omega
      exact e (mergeP_zero.1 h)
  | k + 1, p, q => by
    have ih := mlenAt_spec m k
    rcases ih p q with ⟨h1, h2⟩ | ⟨j, h1, h2, h3⟩
    · have hneg : ¬ (0 : Int) ≤ mlenAt m k p q := by rw [h1]; omega
      cases hany : (List.range (letters m)).any (fun x : Nat => mlenAt m k (nx m p (x : Int)) (nx m q (x : Int)) == (k : Int)) with
      | true =>
        obtain ⟨x, hx, he⟩ := List.any_eq_true.1 hany
        have hx' := List.mem_range.1 hx
        have he' : mlenAt m k (nx m p (x : Int)) (nx m q (x : Int)) = (k : Int) := beq_iff_eq.1 he
        rcases ih (nx m p (x : Int)) (nx m q (x : Int)) with ⟨a1, _⟩ | ⟨j, a1, a2, a3⟩
        · omega
        · obtain rfl : j = k := by omega
          refine .inr ⟨j + 1, Nat.le_refl _, ?_, mdist_up hx' a3 h2⟩
          simp only [mlenAt]
          rw [if_neg hneg, if_pos hany]; rfl
      | false =>
        refine .inl ⟨?_, fun i hi h => ?_⟩
        · simp only [mlenAt]
          rw [if_neg hneg, hany]; rfl
        · by_cases e : i ≤ k
          · exact h2 i e h
          · obtain rfl : i = k + 1 := by omega
            obtain ⟨x, hx, hxe⟩ := mergeP_head h
            have hne := List.any_eq_false.1 hany x (List.mem_range.2 hx)
            rcases ih (nx m p (x : Int)) (nx m q (x : Int)) with ⟨a1, a2⟩ | ⟨j, a1, a2, a3⟩
            · exact a2 k (Nat.le_refl _) hxe
            · by_cases e2 : j = k
              · subst e2
                rw [a2] at hne
                simp at hne
              · exact h2 (j + 1) (by omega) (mergeP_cons hx a3.1)
    · refine .inr ⟨j, by omega, ?_, h3⟩
      simp only [mlenAt]
      rw [if_pos (by omega)]
      exact h2
theorem mlenAt_range (m : List (List Int)) (k p q : Nat) : -1 ≤ mlenAt m k p q ∧ mlenAt m k p q ≤ k := by
  rcases mlenAt_spec m k p q with ⟨h1, _⟩ | ⟨j, h1, h2, _⟩ <;> omega
/-- The length of a shortest word that merges, or -1. -/
def mlen (m : List (List Int)) (p q : Nat) : Int := mlenAt m (m.length * m.length) p q
theorem mlen_spec {m : List (List Int)} (hv : validM m = true) {p q : Nat} (hp : p < m.length) (hq : q < m.length) : (mlen m p q = -1 ∧ ∀ k, ¬ mergeP m p q k) ∨ ∃ j : Nat, j < m.length * m.length ∧ mlen m p q = j ∧ mdist m p q j := by
  rcases mlenAt_spec m (m.length * m.length) p q with ⟨h1, h2⟩ | ⟨j, h1, h2, h3⟩
  · refine .inl ⟨h1, fun k h => ?_⟩
    obtain ⟨j, hj, hd⟩ := mdist_some h
    exact h2 j (by have := mdist_lt hv hp hq hd; omega) hd.1
  · exact .inr ⟨j, mdist_lt hv hp hq h3, h2, h3⟩
theorem mlen_of {m : List (List Int)} (hv : validM m = true) {p q j : Nat} (hp : p < m.length) (hq : q < m.length) (h : mdist m p q j) : mlen m p q = j := by
  rcases mlen_spec hv hp hq with ⟨_, h2⟩ | ⟨i, h1, h2, h3⟩
  · exact absurd h.1 (h2 j)
  · rw [h2, mdist_unique h3 h]
theorem mlen_symm {m : List (List Int)} (hv : validM m = true) {p q : Nat} (hp : p < m.length) (hq : q < m.length) : mlen m p q = mlen m q p := by
  rcases mlen_spec hv hp hq with ⟨h1, h2⟩ | ⟨i, h1, h2, h3⟩
  · rcases mlen_spec hv hq hp with ⟨k1, k2⟩ | ⟨j, k1, k2, k3⟩
    · rw [h1, k1]
    · exact absurd (mergeP_symm k3.1) (h2 j)
  · rw [h2, mlen_of hv hq hp (mdist_symm h3)]
/-- The first letter that leads one nearer. -/
def mX (m : List (List Int)) (p q : Nat) : Nat := ((List.range (letters m)).find? fun x : Nat => mlen m (nx m p (x : Int)) (nx m q (x : Int)) == mlen m p q - 1).getD 0
/-- The word that is made so. -/
def mW (m : List (List Int)) : Nat → Nat → Nat → List Int
  | 0, _, _ => []
  | j + 1, p, q => (mX m p q : Int) :: mW m j (nx m p (mX m p q : Int)) (nx m q (mX m p q : Int))
theorem mX_spec {m : List (List Int)} (hv : validM m = true) {p q j : Nat} (hp : p < m.length) (hq : q < m.length) (h : mdist m p q (j + 1)) :
    mX m p q < letters m ∧ mdist m (nx m p (mX m p q : Int)) (nx m q (mX m p q : Int)) j ∧ mlen m (nx m p (mX m p q : Int)) (nx m q (mX m p q : Int)) = mlen m p q - 1 ∧ ∀ y, y < mX m p q → mlen m (nx m p (y : Int)) (nx m q (y : Int)) ≠ mlen m p q - 1 := by
  have hls := mlen_of hv hp hq h
  obtain ⟨x0, hx0, hd0⟩ := mdist_step h
  have hl0 := mlen_of hv (ldM_ok hv p x0 hp hx0) (ldM_ok hv q x0 hq hx0) hd0
  have hfind : ∃ x, (List.range (letters m)).find? (fun x : Nat => mlen m (nx m p (x : Int)) (nx m q (x : Int)) == mlen m p q - 1) = some x := by
    cases he : (List.range (letters m)).find? (fun x : Nat => mlen m (nx m p (x : Int)) (nx m q (x : Int)) == mlen m p q - 1) with
    | some x => exact ⟨x, rfl⟩
    | none =>
      have := List.find?_eq_none.1 he x0 (List.mem_range.2 hx0)
      rw [hl0, hls] at this
      exact absurd (by simp) this
  obtain ⟨x, hx⟩ := hfind
  have hrx : mX m p q = x := by rw [mX, hx]; rfl
  have hpx := List.find?_some hx
  have hmem := List.mem_of_find?_eq_some hx
  have hxl := List.mem_range.1 hmem
  have hp' : mlen m (nx m p (x : Int)) (nx m q (x : Int)) = mlen m p q - 1 := beq_iff_eq.1 hpx
  rw [hrx]
  refine ⟨hxl, ?_, hp', fun y hy => ?_⟩
  · rcases mlen_spec hv (ldM_ok hv p x hp hxl) (ldM_ok hv q x hq hxl) with ⟨a1, _⟩ | ⟨i, a1, a2, a3⟩
    · omega
    · obtain rfl : i = j := by omega
      exact a3
  · obtain ⟨xa, bs, hab, hno⟩ := (List.find?_eq_some_iff_append.1 hx).2
    have hy2 : y ∈ xa := by
      have hyr : y ∈ List.range (letters m) := List.mem_range.2 (by omega)
      rw [hab] at hyr
      rcases List.mem_append.1 hyr with h1 | h1
      · exact h1
      · have hsort : (List.range (letters m)).Pairwise (· < ·) := List.pairwise_lt_range
        rw [hab] at hsort
        have h2 := (List.pairwise_append.1 hsort).2.1
        rcases List.mem_cons.1 h1 with e | e
        · omega
        · have := (List.pairwise_cons.1 h2).1 y e
          omega
    have := hno y hy2
    intro e
    rw [e] at this
    simp at this
theorem mW_ok {m : List (List Int)} (hv : validM m = true) : ∀ j p q, p < m.length → q < m.length → mdist m p q j → (mW m j p q).all (inB 0 ((letters m : Int) - 1)) = true ∧ (mW m j p q).length = j ∧ runM m p (mW m j p q) = runM m q (mW m j p q)
  | 0, p, q, hp, hq, h => ⟨rfl, rfl, mergeP_zero.1 h.1⟩
  | j + 1, p, q, hp, hq, h => by
    obtain ⟨a1, a2, a3, a4⟩ := mX_spec hv hp hq h
    obtain ⟨b1, b2, b3⟩ := mW_ok hv j _ _ (ldM_ok hv p _ hp a1) (ldM_ok hv q _ hq a1) a2
    refine ⟨?_, by simp [mW, b2], b3⟩
    rw [mW, List.all_cons, b1, Bool.and_true]
    exact inB_true ⟨by omega, by omega⟩
theorem mX_symm {m : List (List Int)} (hv : validM m = true) {p q : Nat} (hp : p < m.length) (hq : q < m.length) : mX m p q = mX m q p := by
  have hs := mlen_symm hv hp hq
  have : ∀ l : List Nat, (∀ x ∈ l, x < letters m) → l.find? (fun x : Nat => mlen m (nx m p (x : Int)) (nx m q (x : Int)) == mlen m p q - 1) = l.find? (fun x : Nat => mlen m (nx m q (x : Int)) (nx m p (x : Int)) == mlen m q p - 1) := by
    intro l
    induction l with
    | nil => intro _; rfl
    | cons x l ih =>
      intro hl
      have hx := hl x (by simp)
      rw [List.find?_cons, List.find?_cons, ih fun y hy => hl y (by simp [hy]), mlen_symm hv (ldM_ok hv p x hp hx) (ldM_ok hv q x hq hx), hs]
  unfold mX
  rw [this _ fun x hx => List.mem_range.1 hx]
theorem mW_symm {m : List (List Int)} (hv : validM m = true) : ∀ j p q, p < m.length → q < m.length → mdist m p q j → mW m j p q = mW m j q p
  | 0, _, _, _, _, _ => rfl
  | j + 1, p, q, hp, hq, h => by
    obtain ⟨a1, a2, _, _⟩ := mX_spec hv hp hq h
    rw [mW, mW, ← mX_symm hv hp hq, mW_symm hv j _ _ (ldM_ok hv p _ hp a1) (ldM_ok hv q _ hq a1) a2]
end Go.Proofs.YtlpfglkopnmlnaaDoor
namespace Go.Proofs.YtlpfglkopnmlnaaDoor
open Go.RowKit Go.Shelf
/-- The value v is a list of k rows; row p lies in block B p and holds f p 0, .., f p (n - 1). -/
structure Tbl (W : World) (n₀ : Nat) (v : Value) (n k : Nat) (B : Nat → Nat) (f : Nat → Nat → Int) : Prop where
  outer : W.ownsRow n₀ 41 1 v k ((List.range k).map fun p => .slice (some ⟨B p, 0, none⟩) n n)
  inner : ∀ p, p < k → W.ownsRow n₀ 3 1 (.slice (some ⟨B p, 0, none⟩) n n) n ((Lf n (f p)).map fun x => .int .i64 x)
  apart : ∀ p, p < k → v.ownBlock ≠ some (B p)
  inj : ∀ p q, p < k → q < k → B p = B q → p = q
section
variable {W W' : World} {n₀ n k : Nat} {v : Value} {B : Nat → Nat} {f : Nat → Nat → Int}
theorem Tbl.kept (h : Tbl W n₀ v n k B f) (hk : ∀ b, n₀ ≤ b → b < W.heap.size → W'.heap[b]? = W.heap[b]?) : Tbl W' n₀ v n k B f :=
  ⟨owns_kept h.outer hk, fun p hp => owns_kept (h.inner p hp) hk, h.apart, h.inj⟩
theorem Tbl.below (h : Tbl W n₀ v n k B f) (hb : Below W.heap.size W W') : Tbl W' n₀ v n k B f := h.kept fun b _ hs => hb.block b hs
theorem Tbl.congr {g : Nat → Nat → Int} (h : Tbl W n₀ v n k B f) (e : ∀ p q, p < k → q < n → f p q = g p q) : Tbl W n₀ v n k B g :=
  ⟨h.outer, fun p hp => by rw [← Lf_congr (n := n) (f := f p) (g := g p) fun q hq => e p q hp hq]; exact h.inner p hp, h.apart, h.inj⟩
variable {g c : Nat}
theorem Tbl.cell (h : Tbl W n₀ (.slice (some ⟨g, 0, none⟩) k c) n k B f) {p : Nat} (hp : p < k) : W.cell? ⟨g, p, none⟩ = some (.slice (some ⟨B p, 0, none⟩) n n) := by
  rw [h.outer.cellAt p (by omega)]
  simp [List.getElem?_map, List.getElem?_range hp]
theorem Tbl.free (h : Tbl W n₀ v n k B f) {p : Nat} (hp : p < k) (q : Nat) : W.frozen? ⟨B p, q, none⟩ = false := (h.inner p hp).frozenAt q
/-- A number is stored. -/
theorem Tbl.set (h : Tbl W n₀ v n k B f) {p q : Nat} (hp : p < k) (x : Int) : Tbl (W.setCell ⟨B p, q, none⟩ (.int .i64 x)) n₀ v n k B (fun a b => if a = p ∧ b = q then x else f a b) := by
  obtain ⟨h1, h2⟩ := (h.inner p hp).stored q (.int .i64 x)
  refine ⟨h.outer.kept h2 (.inr (h.apart p hp)), fun a ha => ?_, h.apart, h.inj⟩
  by_cases e : a = p
  · subst e
    rw [← List.map_set (f := fun x => Value.int .i64 x), Lf_set] at h1
    refine cast ?_ h1
    congr 2
    exact Lf_congr fun i _ => by simp
  · have : (Lf n fun b => if a = p ∧ b = q then x else f a b) = Lf n (f a) := Lf_congr fun i _ => by rw [if_neg (fun h => e h.1)]
    rw [show (fun b => if a = p ∧ b = q then x else f a b) = fun b => (fun a b => if a = p ∧ b = q then x else f a b) a b from rfl] at this
    rw [this]
    refine (h.inner a ha).kept h2 (.inr ?_)
    intro e2
    simp only [Value.ownBlock, Option.some.injEq] at e2
    exact e (h.inj a p ha hp e2)
end
/-- The reference's table within round k + 1: the pairs before (p, q) are done. -/
def mixT (m : List (List Int)) (k p q a b : Nat) : Int := if a < p ∨ (a = p ∧ b < q) then mlenAt m (k + 1) a b else mlenAt m k a b
theorem mixT_step (m : List (List Int)) (k p q a b : Nat) : mixT m k p (q + 1) a b = if a = p ∧ b = q then mlenAt m (k + 1) p q else mixT m k p q a b := by
  unfold mixT
  by_cases e : a = p ∧ b = q
  · rw [if_pos e, if_pos (by omega), e.1, e.2]
  · rw [if_neg e]
    by_cases e2 : a < p ∨ (a = p ∧ b < q)
    · rw [if_pos e2, if_pos (by omega)]
    · rw [if_neg e2, if_neg (by omega)]
theorem mixT_row (m : List (List Int)) {n k p a b : Nat} (hb : b < n) : mixT m k p n a b = mixT m k (p + 1) 0 a b := by
  unfold mixT
  by_cases e2 : a < p ∨ (a = p ∧ b < n)
  · rw [if_pos e2, if_pos (by omega)]
  · rw [if_neg e2, if_neg (by omega)]
end Go.Proofs.YtlpfglkopnmlnaaDoor
namespace Go.Proofs.YtlpfglkopnmlnaaDoor
open Go.RowKit Go.Shelf
/-- Within round k + 1, before the pair (p, q): whether something has changed. -/
def moreB (m : List (List Int)) (k p q : Nat) (b : Bool) : Prop :=
  (b = true → ∃ a c, a < m.length ∧ c < m.length ∧ mdist m a c (k + 1)) ∧ (b = false → ∀ a c, a < m.length → c < m.length → mixT m k p q a c = mlenAt m k a c)
theorem moreB.same {m : List (List Int)} {k p q : Nat} {b : Bool} (h : moreB m k p q b) (hs : mlenAt m (k + 1) p q = mlenAt m k p q) : moreB m k p (q + 1) b := by
  refine ⟨h.1, fun hb a c ha hc => ?_⟩
  rw [mixT_step]
  by_cases e : a = p ∧ c = q
  · rw [if_pos e, hs, e.1, e.2]
  · rw [if_neg e]; exact h.2 hb a c ha hc
theorem moreB.row {m : List (List Int)} {k p : Nat} {b : Bool} (h : moreB m k p m.length b) : moreB m k (p + 1) 0 b :=
  ⟨h.1, fun hb a c ha hc => by rw [← mixT_row m hc]; exact h.2 hb a c ha hc⟩
end Go.Proofs.YtlpfglkopnmlnaaDoor
namespace Go.Proofs.YtlpfglkopnmlnaaDoor
open Go.RowKit Go.Shelf
theorem take_snocI {l : List Int} {k : Nat} (h : k < l.length) : l.take (k + 1) = l.take k ++ [l.getD k 0] := by
  rw [List.take_succ_eq_append_getElem h]
  simp [List.getD_eq_getElem?_getD, List.getElem?_eq_getElem h]
theorem timesL_le (l : List Int) (t : Int) : timesL l t ≤ l.length := List.length_filter_le _ _
set_option maxRecDepth 100000 in
set_option maxHeartbeats 1000000 in
theorem rTimes_any (v : Value) (l : List Int) (t : Int) (w : World) (h : Ints w v l) (hl6 : l.length ≤ 100) :
    Calls Tryd.prog 51 #[v, .int .i64 t] w fun e w' => e = .returned (.int .i64 (timesL l t : Nat)) ∧ w = w' := by
  obtain ⟨A, cap, rfl, hl, hc⟩ := h
  have Hc := hid hc
  have H0 := hid (show timesL (l.take 0) t = 0 from rfl)
  clear hc hl
  go_enter Tryd.func51, Tryd.ntmps51
  go_wp2
  go_loop [5, 6] (fun nv sv => ∃ k c : Nat, k ≤ l.length ∧ sv = .int .i64 k ∧ nv = .int .i64 c ∧ timesL (l.take k) t = c) (fun _ sv => l.length - (intOf sv).toNat)
  case atStart => exact ⟨0, 0, Nat.zero_le _, rfl, rfl, H0.out⟩
  case round =>
    clear H0
    obtain ⟨k, c, hk, rfl, rfl, hcode⟩ := hrel
    have hc4 : c ≤ 100 := by have := timesL_le (l.take k) t; simp at this; omega
    have Hcode := hid hcode
    clear hcode
    by_cases hlt : k < l.length
    · have hks : (k : Int) < l.length := by omega
      obtain ⟨b, off, hA, hcell⟩ := Hc.out k hlt
      subst hA
      have hs := timesL_snoc (l.take k) (l.getD k 0) t
      rw [← take_snocI hlt, Hcode.out] at hs
      generalize l.getD k 0 = x at *
      by_cases hx : x = t
      · have hb : (x == t) = true := beq_iff_eq.2 hx
        rw [if_pos hx] at hs
        have Hs := hid hs
        subst hx
        clear hs Hcode
        go_wp2
        go_round
        case rel => exact ⟨k + 1, c + 1, by omega, by go_num, by go_num, Hs.out⟩
        case measure => simp [intOf]; omega
      · have hb : (x == t) = false := beq_eq_false_iff_ne.2 hx
        rw [if_neg hx] at hs
        have Hs := hid hs
        clear hs Hcode
        go_wp2
        go_round
        case rel => exact ⟨k + 1, c, by omega, by go_num, rfl, Hs.out⟩
        case measure => simp [intOf]; omega
    · obtain rfl : k = l.length := by omega
      have hc2 := Hcode.out
      rw [List.take_length] at hc2
      have HC := hid hc2
      clear hc2 Hcode
      go_wp2
      go_ret
      exact ⟨ret_int (by rw [HC.out]), rfl⟩
set_option maxRecDepth 100000 in
set_option maxHeartbeats 1000000 in
theorem rProduct_any (n : Nat) (w : World) (hn : n ≤ 6) :
    Calls Tryd.prog 53 #[.int .i64 n] w fun e w' => e = .returned (.int .i64 (fct n : Nat)) ∧ w = w' := by
  go_enter Tryd.func53, Tryd.ntmps53
  go_wp2
  go_loop [3, 4] (fun ov kv => ∃ k c : Nat, 2 ≤ k ∧ (k ≤ n + 1 ∨ k = 2) ∧ kv = .int .i64 k ∧ ov = .int .i64 c ∧ fct (k - 1) = c) (fun _ kv => 8 - (intOf kv).toNat)
  case atStart => exact ⟨2, 1, by omega, .inr rfl, rfl, rfl, rfl⟩
  case round =>
    obtain ⟨k, c, hk2, hk, rfl, rfl, hf⟩ := hrel
    have hcl : c ≤ 720 := by rw [← hf]; exact fct_le (by omega)
    have Hf := hid hf
    clear hf
    by_cases hle : k ≤ n
    · have hks : (k : Int) ≤ n := by omega
      have hm : c * k ≤ 720 * 7 := Nat.mul_le_mul hcl (by omega)
      have hc2 : ((c : Int) * (k : Int)) = ((c * k : Nat) : Int) := by simp
      have hmul : IntKind.i64.wrap ((c : Int) * (k : Int)) = ((c * k : Nat) : Int) := by rw [hc2, IntWalk.i64_in _ (by omega)]
      have Hf2 := hid (show fct (k + 1 - 1) = c * k from by
        obtain ⟨j, rfl⟩ : ∃ j, k = j + 1 := ⟨k - 1, by omega⟩
        have := Hf.out
        simp only [Nat.add_sub_cancel] at this ⊢
        show fct j * (j + 1) = _
        rw [this])
      obtain ⟨d, hd⟩ : ∃ d, c * k = d := ⟨_, rfl⟩
      rw [hd] at hmul Hf2
      clear hc2 Hf hm hd
      go_wp2
      go_round
      case rel => exact ⟨k + 1, d, by omega, .inl (by omega), by go_num, rfl, Hf2.out⟩
      case measure => simp [intOf]; omega
    · have hks : ¬ (k : Int) ≤ n := by omega
      have HF := hid (show fct n = c from by
        rcases hk with h | h
        · have := Hf.out
          rw [show k - 1 = n by omega] at this
          exact this
        · have h1 := Hf.out
          rw [h] at h1
          rcases (show n = 0 ∨ n = 1 by omega) with rfl | rfl
          · rw [← h1]; rfl
          · rw [← h1])
      clear Hf
      go_wp2
      go_ret
      exact ⟨ret_int (by rw [HF.out]), rfl⟩
theorem own60 (w : World) (t : TypeId) : (w.alloc (.cells #[.int .i64 0, .int .i64 0, .int .i64 0, .int .i64 0, .int .i64 0, .int .i64 0, .int .i64 0, .int .i64 0, .int .i64 0, .int .i64 0, .int .i64 0, .int .i64 0, .int .i64 0, .int .i64 0, .int .i64 0, .int .i64 0, .int .i64 0, .int .i64 0, .int .i64 0, .int .i64 0, .int .i64 0, .int .i64 0, .int .i64 0, .int .i64 0, .int .i64 0, .int .i64 0, .int .i64 0, .int .i64 0, .int .i64 0, .int .i64 0, .int .i64 0, .int .i64 0, .int .i64 0, .int .i64 0, .int .i64 0, .int .i64 0, .int .i64 0, .int .i64 0, .int .i64 0, .int .i64 0, .int .i64 0, .int .i64 0, .int .i64 0, .int .i64 0, .int .i64 0, .int .i64 0, .int .i64 0, .int .i64 0, .int .i64 0, .int .i64 0, .int .i64 0, .int .i64 0, .int .i64 0, .int .i64 0, .int .i64 0, .int .i64 0, .int .i64 0, .int .i64 0, .int .i64 0, .int .i64 0] t)).ownsRow w.heap.size t 1 (.slice (some ⟨w.heap.size, 0, none⟩) 60 60) 60 ((Lf 60 (fun _ => 0)).map fun x => .int .i64 x) :=
  ⟨rfl, .inr ⟨w.heap.size, 60, #[.int .i64 0, .int .i64 0, .int .i64 0, .int .i64 0, .int .i64 0, .int .i64 0, .int .i64 0, .int .i64 0, .int .i64 0, .int .i64 0, .int .i64 0, .int .i64 0, .int .i64 0, .int .i64 0, .int .i64 0, .int .i64 0, .int .i64 0, .int .i64 0, .int .i64 0, .int .i64 0, .int .i64 0, .int .i64 0, .int .i64 0, .int .i64 0, .int .i64 0, .int .i64 0, .int .i64 0, .int .i64 0, .int .i64 0, .int .i64 0, .int .i64 0, .int .i64 0, .int .i64 0, .int .i64 0, .int .i64 0, .int .i64 0, .int .i64 0, .int .i64 0, .int .i64 0, .int .i64 0, .int .i64 0, .int .i64 0, .int .i64 0, .int .i64 0, .int .i64 0, .int .i64 0, .int .i64 0, .int .i64 0, .int .i64 0, .int .i64 0, .int .i64 0, .int .i64 0, .int .i64 0, .int .i64 0, .int .i64 0, .int .i64 0, .int .i64 0, .int .i64 0, .int .i64 0, .int .i64 0], rfl, Nat.le_refl _, World.alloc_heap_new _ _, Nat.le_refl _, by unfold maxLen; omega, rfl, rfl⟩⟩
set_option maxRecDepth 100000 in
set_option maxHeartbeats 4000000 in
theorem countOrders_any (v : Value) (l : List Int) (n : Nat) (w : World) (h : Ints w v l) (hl6 : l.length ≤ 6) (hn : n ≤ 60) (hr : ∀ x ∈ l, 0 ≤ x ∧ x < (n : Int)) :
    Calls Tryd.prog 52 #[v] w fun e w' => e = .returned (.int .i64 (ordN l n : Nat)) ∧ Below w.heap.size w w' := by
  obtain ⟨A, cap, rfl, hl, hc⟩ := h
  have Hc := hid hc
  have Hr := hid hr
  have H0 := hid (show ordN (l.take 0) n = 1 from ordN_nil n)
  have hX := bal (Below.refl _ w) (.cells #[.int .i64 0, .int .i64 0, .int .i64 0, .int .i64 0, .int .i64 0, .int .i64 0, .int .i64 0, .int .i64 0, .int .i64 0, .int .i64 0, .int .i64 0, .int .i64 0, .int .i64 0, .int .i64 0, .int .i64 0, .int .i64 0, .int .i64 0, .int .i64 0, .int .i64 0, .int .i64 0, .int .i64 0, .int .i64 0, .int .i64 0, .int .i64 0, .int .i64 0, .int .i64 0, .int .i64 0, .int .i64 0, .int .i64 0, .int .i64 0, .int .i64 0, .int .i64 0, .int .i64 0, .int .i64 0, .int .i64 0, .int .i64 0, .int .i64 0, .int .i64 0, .int .i64 0, .int .i64 0, .int .i64 0, .int .i64 0, .int .i64 0, .int .i64 0, .int .i64 0, .int .i64 0, .int .i64 0, .int .i64 0, .int .i64 0, .int .i64 0, .int .i64 0, .int .i64 0, .int .i64 0, .int .i64 0, .int .i64 0, .int .i64 0, .int .i64 0, .int .i64 0, .int .i64 0, .int .i64 0] 96)
  have hown := own60 w 96
  clear hc hl hr
  go_enter Tryd.func52, Tryd.ntmps52
  go_wp2_with fail
  generalize w.alloc (.cells #[.int .i64 0, .int .i64 0, .int .i64 0, .int .i64 0, .int .i64 0, .int .i64 0, .int .i64 0, .int .i64 0, .int .i64 0, .int .i64 0, .int .i64 0, .int .i64 0, .int .i64 0, .int .i64 0, .int .i64 0, .int .i64 0, .int .i64 0, .int .i64 0, .int .i64 0, .int .i64 0, .int .i64 0, .int .i64 0, .int .i64 0, .int .i64 0, .int .i64 0, .int .i64 0, .int .i64 0, .int .i64 0, .int .i64 0, .int .i64 0, .int .i64 0, .int .i64 0, .int .i64 0, .int .i64 0, .int .i64 0, .int .i64 0, .int .i64 0, .int .i64 0, .int .i64 0, .int .i64 0, .int .i64 0, .int .i64 0, .int .i64 0, .int .i64 0, .int .i64 0, .int .i64 0, .int .i64 0, .int .i64 0, .int .i64 0, .int .i64 0, .int .i64 0, .int .i64 0, .int .i64 0, .int .i64 0, .int .i64 0, .int .i64 0, .int .i64 0, .int .i64 0, .int .i64 0, .int .i64 0] 96) = X at *
  go_loopw [4, 9] (fun ov iv wr => ∃ i o : Nat, i ≤ l.length ∧ iv = .int .i64 i ∧ ov = .int .i64 o ∧ ordN (l.take i) n = o ∧ wr.ownsRow w.heap.size 96 1 (.slice (some ⟨w.heap.size, 0, none⟩) 60 60) 60 ((Lf 60 (fun t => (timesL (l.take i) (t : Int) : Int))).map fun x => .int .i64 x) ∧ Below w.heap.size w wr) (fun _ iv _ => l.length - (intOf iv).toNat)
  case atStart => exact ⟨0, 1, Nat.zero_le _, rfl, rfl, H0.out, hown, hX⟩
  case round =>
    clear hown hX H0
    obtain ⟨i, o, hi, rfl, rfl, ho, hO, hB⟩ := hrel
    have hol : o ≤ 720 := by rw [← ho]; exact ordN_le (by simp; omega)
    have Ho := hid ho
    have HO := hid hO
    clear ho hO
    by_cases hlt : i < l.length
    · have his : (i : Int) < l.length := by omega
      obtain ⟨b, off, hA, hcell⟩ := Hc.out i hlt
      subst hA
      have c1 := (hB.cell (p := ⟨b, off + i, none⟩) (World.block_lt_of_cell? _ _ hcell)).trans hcell
      have hx := Hr.out (l.getD i 0) (by simp [List.getD_eq_getElem?_getD, List.getElem?_eq_getElem hlt])
      have hsn := take_snocI hlt
      clear hcell
      generalize l.getD i 0 = x at *
      obtain ⟨t, rfl⟩ := Int.eq_ofNat_of_zero_le hx.1
      have ht : t < 60 := by omega
      have hti : (t : Int) < 60 := by omega
      have hcA := HO.out.cellAt t (by omega)
      have hfA := HO.out.frozenAt t
      rw [Lf_cell _ ht] at hcA
      have hSt := (HO.out.stored t (.int .i64 ((timesL (l.take i) (t : Int) : Int) + 1))).1
      rw [← List.map_set (f := fun x => Value.int .i64 x), Lf_set] at hSt
      have hfun : Lf 60 (fun j => if j = t then (timesL (l.take i) (t : Int) : Int) + 1 else (timesL (l.take i) (j : Int) : Int)) = Lf 60 (fun j => (timesL (l.take (i + 1)) (j : Int) : Int)) := Lf_congr fun j hj => by
        rw [hsn, timesL_snoc]
        by_cases e : j = t
        · subst e; rw [if_pos rfl, if_pos rfl]; omega
        · rw [if_neg e, if_neg (by omega)]; omega
      rw [hfun] at hSt
      have htl : timesL (l.take i) (t : Int) ≤ 6 := by have := timesL_le (l.take i) (t : Int); simp at this; omega
      have hord := ordN_snoc (l := l.take i) (n := n) (x := t) (fun y hy => Hr.out y (List.mem_of_mem_take hy)) (by omega)
      rw [← hsn, Ho.out, show (l.take i).length = i by simp; omega] at hord
      obtain ⟨c, hcc⟩ : ∃ c, timesL (l.take i) (t : Int) = c := ⟨_, rfl⟩
      rw [hcc] at hcA hSt hord htl
      have hp : o * (i + 1) ≤ 720 * 6 := Nat.mul_le_mul hol (by omega)
      have hpc : ((o : Int) * ((i : Int) + 1)) = ((o * (i + 1) : Nat) : Int) := by simp
      have hmul : IntKind.i64.wrap ((o : Int) * ((i : Int) + 1)) = ((o * (i + 1) : Nat) : Int) := by rw [hpc, IntWalk.i64_in _ (by omega)]
      obtain ⟨p, hpp⟩ : ∃ p, o * (i + 1) = p := ⟨_, rfl⟩
      rw [hpp] at hmul hord hp
      obtain ⟨q, hqq⟩ : ∃ q, p / (c + 1) = q := ⟨_, rfl⟩
      rw [hqq] at hord
      have hq1 : (p : Int) / ((c : Int) + 1) = (q : Int) := by rw [← hqq]; simp
      have hq2 : Int.tdiv (p : Int) ((c : Int) + 1) = (q : Int) := by rw [Int.tdiv_eq_ediv_of_nonneg (by omega)]; exact hq1
      have hqb : q ≤ 4320 := by rw [← hqq]; exact Nat.le_trans (Nat.div_le_self _ _) (by omega)
      have hc0 : ((c : Int) + 1) ≠ 0 := by omega
      have hcw : IntKind.i64.wrap ((c : Int) + 1) = (c : Int) + 1 := IntWalk.i64_in _ (by omega)
      have hiw : IntKind.i64.wrap ((i : Int) + 1) = (i : Int) + 1 := IntWalk.i64_in _ (by omega)
      have hqw : IntKind.i64.wrap (q : Int) = q := IntWalk.i64_in _ (by omega)
      have hcB : (wr.setCell ⟨w.heap.size, t, none⟩ (.int .i64 ((c : Int) + 1))).cell? ⟨w.heap.size, t, none⟩ = some (.int .i64 ((c : Int) + 1)) := by
        have := hSt.cellAt t (by omega)
        rw [Lf_cell _ ht, hsn, timesL_snoc, if_pos rfl, hcc] at this
        rw [this]; simp
      have HSt := hid hSt
      have Hord := hid hord
      have hBs := hid (hB.setCell (p := ⟨w.heap.size, t, none⟩) (Nat.le_refl _) (.int .i64 ((c : Int) + 1)))
      clear hSt hord hfun hsn hpc hpp hqq hcc HO Ho
      go_wp2_with fail
      go_roundw
      case rel => exact ⟨i + 1, q, by omega, by go_num, rfl, Hord.out, HSt.out, hBs.out⟩
      case measure => simp [intOf]; omega
    · obtain rfl : i = l.length := by omega
      have his : ¬ ((l.length : Nat) : Int) < l.length := by omega
      have ho2 := Ho.out
      rw [List.take_length] at ho2
      have Ho2 := hid ho2
      clear ho2 Ho
      go_wp2_with fail
      go_ret
      exact ⟨ret_int (by rw [Ho2.out]), hB⟩
end Go.Proofs.YtlpfglkopnmlnaaDoor
namespace Go.Proofs.YtlpfglkopnmlnaaDoor
open Go.RowKit Go.Shelf
theorem row_range {m : List (List Int)} (hv : validM m = true) {s : Nat} (hs : s < m.length) : ∀ y ∈ m.getD s [], 0 ≤ y ∧ y < (m.length : Int) := fun y hy => by
  have := inB_iff.1 (List.all_eq_true.1 (row_below hv hs) y hy)
  omega
def colN (r : Option Nat) : Nat := match r with | none => 0 | some c => c
def colE (r : Option Nat) : Int := match r with | none => 3 | some _ => 0
def colB (r : Option Nat) : Bool := match r with | none => false | some _ => true
theorem colTo_end {m : List (List Int)} {lim s : Nat} (hs : s ≤ m.length) (h : colTo m lim s = none) : colTo m lim m.length = none := by
  have := colTo_none h (m.length - s)
  rwa [show s + (m.length - s) = m.length by omega] at this
set_option maxRecDepth 100000 in
set_option maxHeartbeats 1000000 in
theorem Colorings_form (v : Value) (m : List (List Int)) (w : World) (h : Rows w v m) (hv : validM m = false) :
    Calls Tryd.prog 18 #[.agg #[v]] w fun e w' => e = .returned (.tuple #[.int .i64 0, .int .i64 1]) ∧ Below w.heap.size w w' := by
  obtain ⟨A, cap, rfl, hml, -⟩ := id h
  have hX := bal (Below.refl _ w) (.cells #[.slice A m.length cap] 24)
  go_enter Tryd.func18, Tryd.ntmps18
  go_wp2_with fail
  have hr := h.below hX
  generalize w.alloc (.cells #[.slice A m.length cap] 24) = X at *
  refine (Valid_bool _ m false _ hr hv).mono ?_
  rintro e w1 ⟨rfl, h1⟩
  go_wp2
  go_ret2
  exact ⟨rfl, btr hX h1⟩
set_option maxRecDepth 100000 in
set_option maxHeartbeats 4000000 in
theorem Colorings_ok (v : Value) (m : List (List Int)) (r : Option Nat) (w : World) (h : Rows w v m) (hv : validM m = true) (hr : Hid (colTo m 1152921504606846976 m.length = r)) :
    Calls Tryd.prog 18 #[.agg #[v]] w fun e w' => e = .returned (.tuple #[.int .i64 (colN r : Nat), .int .i64 (colE r)]) ∧ Below w.heap.size w w' := by
  obtain ⟨p1, p2, p3, p4, p5⟩ := valid_parts hv
  obtain ⟨A, cap, rfl, hml, hcm⟩ := id h
  have Hcm := hid hcm
  have Hp5 := hid p5
  have hX := bal (Below.refl _ w) (.cells #[.slice A m.length cap] 24)
  have hbx := (Boxed.new w 24 (.slice A m.length cap)).cell
  have H0 := hid (show colTo m 1152921504606846976 0 = some 1 from rfl)
  clear hcm p5
  go_enter Tryd.func18, Tryd.ntmps18
  go_wp2_with fail
  have hrX := h.below hX
  generalize w.alloc (.cells #[.slice A m.length cap] 24) = X at *
  refine (Valid_bool _ m true _ hrX hv).mono ?_
  rintro e w1 ⟨rfl, h1⟩
  have c1 := (h1.cell (p := ⟨w.heap.size, 0, none⟩) (World.block_lt_of_cell? _ _ hbx)).trans hbx
  have hB1 := btr hX h1
  clear hX hbx h1 hrX
  go_wp2_with fail
  go_loopw [4, 14] (fun cv sv wr => ∃ s c : Nat, s ≤ m.length ∧ sv = .int .i64 s ∧ cv = .int .i64 c ∧ colTo m 1152921504606846976 s = some c ∧ Below w.heap.size w wr) (fun _ sv _ => m.length - (intOf sv).toNat)
  case atStart => exact ⟨0, 1, Nat.zero_le _, rfl, rfl, H0.out, hB1⟩
  case round =>
    clear hB1 H0 c1
    obtain ⟨s, c, hs, rfl, rfl, hc, hB⟩ := hrel
    obtain ⟨hc1, hc2⟩ := colTo_pos hv (lim := 1152921504606846976) (by decide) hs hc
    have Hc := hid hc
    clear hc
    by_cases hlt : s < m.length
    · have hss : (s : Int) < m.length := by omega
      obtain ⟨b, off, rv, hA, hcell, hrow⟩ := Hcm.out s hlt
      subst hA
      have c2 := (hB.cell (p := ⟨b, off + s, none⟩) (World.block_lt_of_cell? _ _ hcell)).trans hcell
      have hrl := (Hp5.out s hlt).1
      have hrr := row_range hv hlt
      have hrowB := hrow.below hB
      have hop := ordN_pos hrr
      have hol := ordN_le (l := m.getD s []) (n := m.length) (by omega)
      have hcall := countOrders_any rv (m.getD s []) m.length wr hrowB (by omega) (by omega) hrr
      have hstep : colTo m 1152921504606846976 (s + 1) = if 1152921504606846976 / ordN (m.getD s []) m.length < c then none else some (c * ordN (m.getD s []) m.length) := by
        show (match colTo m 1152921504606846976 s with | none => none | some c => _) = _
        rw [Hc.out]
      obtain ⟨Ar, cr, rfl, -, -⟩ := id hrow
      rw [hrl] at c2 hcall
      obtain ⟨o, hoe⟩ : ∃ o, ordN (m.getD s []) m.length = o := ⟨_, rfl⟩
      rw [hoe] at hop hol hcall hstep
      obtain ⟨q, hqe⟩ : ∃ q, 1152921504606846976 / o = q := ⟨_, rfl⟩
      have hq1 : (1152921504606846976 : Int) / (o : Int) = (q : Int) := by rw [← hqe]; simp
      have hq2 : Int.tdiv (1152921504606846976 : Int) (o : Int) = (q : Int) := by rw [Int.tdiv_eq_ediv_of_nonneg (by omega)]; exact hq1
      have hqb : q ≤ 1152921504606846976 := by rw [← hqe]; exact Nat.div_le_self _ _
      have hqw : IntKind.i64.wrap (q : Int) = q := IntWalk.i64_in _ (by omega)
      have ho0 : (o : Int) ≠ 0 := by omega
      have hmq : q * o ≤ 1152921504606846976 := by rw [← hqe]; exact Nat.div_mul_le_self _ _
      rw [hqe] at hstep
      have Hstep := hid hstep
      have Hcall := hid hcall
      clear hcell hrow hrowB hrr hoe hqe hcall hstep hrl
      by_cases hbig : q < c
      · have d1 : decide ((q : Int) < c) = true := by simp; omega
        have hnone := hid (show r = none from by rw [← hr.out]; exact colTo_end (s := s + 1) (by omega) (by rw [Hstep.out, if_pos hbig]))
        clear Hc
        go_wp2_with fail
        refine Hcall.out.mono ?_
        rintro e w2 ⟨rfl, h2⟩
        go_wp2_with fail
        go_ret2
        refine ⟨?_, btr hB h2⟩
        rw [hnone.out]; rfl
      · have d1 : decide ((q : Int) < c) = false := by simp; omega
        have hco : c * o ≤ 1152921504606846976 := Nat.le_trans (Nat.mul_le_mul_right _ (by omega)) hmq
        have hcc : ((c : Int) * (o : Int)) = ((c * o : Nat) : Int) := by simp
        have hmul : IntKind.i64.wrap ((c : Int) * (o : Int)) = ((c * o : Nat) : Int) := by rw [hcc, IntWalk.i64_in _ (by omega)]
        have Hn := hid (show colTo m 1152921504606846976 (s + 1) = some (c * o) from by rw [Hstep.out, if_neg hbig])
        obtain ⟨d, hd⟩ : ∃ d, c * o = d := ⟨_, rfl⟩
        rw [hd] at hmul Hn
        clear hcc hco hd Hc Hstep hmq
        go_wp2_with fail
        refine Hcall.out.mono ?_
        rintro e w2 ⟨rfl, h2⟩
        go_wp2_with fail
        go_roundw
        case rel => exact ⟨s + 1, d, by omega, by go_num, rfl, Hn.out, btr hB h2⟩
        case measure => simp [intOf]; omega
    · obtain rfl : s = m.length := by omega
      have hss : ¬ ((m.length : Nat) : Int) < m.length := by omega
      have hsome := hid (show r = some c from by rw [← hr.out]; exact Hc.out)
      clear Hc
      go_wp2_with fail
      go_ret2
      refine ⟨?_, hB⟩
      rw [hsome.out]; rfl
set_option maxRecDepth 100000 in
set_option maxHeartbeats 8000000 in
theorem rColorings_any (v : Value) (m : List (List Int)) (lim : Nat) (r : Option Nat) (w : World) (h : Rows w v m) (hv : validM m = true) (hl1 : 1 ≤ lim) (hl2 : lim ≤ 1152921504606846976) (hr : Hid (colTo m lim m.length = r)) :
    Calls Tryd.prog 19 #[.agg #[v], .int .i64 lim] w fun e w' => e = .returned (.tuple #[.int .i64 (colN r : Nat), .bool (colB r)]) ∧ Below w.heap.size w w' := by
  obtain ⟨p1, p2, p3, p4, p5⟩ := valid_parts hv
  obtain ⟨A, cap, rfl, hml, hcm⟩ := id h
  have Hcm := hid hcm
  have Hp5 := hid p5
  have hX := bal (Below.refl _ w) (.cells #[.slice A m.length cap] 24)
  have hbx := (Boxed.new w 24 (.slice A m.length cap)).cell
  have H0 := hid (show colTo m lim 0 = some 1 from rfl)
  clear hcm p5
  go_enter Tryd.func19, Tryd.ntmps19
  go_wp2_with fail
  go_loopw [6, 7] (fun cv sv wr => ∃ s c : Nat, s ≤ m.length ∧ sv = .int .i64 s ∧ cv = .int .i64 c ∧ colTo m lim s = some c ∧ Below w.heap.size w wr ∧ wr.cell? ⟨w.heap.size, 0, none⟩ = some (.slice A m.length cap)) (fun _ sv _ => m.length - (intOf sv).toNat)
  case atStart => exact ⟨0, 1, Nat.zero_le _, rfl, rfl, H0.out, hX, hbx⟩
  case round =>
    clear hX hbx H0
    obtain ⟨s, c, hs, rfl, rfl, hc, hB, hbx⟩ := hrel
    obtain ⟨hc1, hc2⟩ := colTo_pos hv hl1 hs hc
    have Hc := hid hc
    clear hc
    by_cases hlt : s < m.length
    · have hss : (s : Int) < m.length := by omega
      obtain ⟨b, off, rv, hA, hcell, hrow⟩ := Hcm.out s hlt
      subst hA
      have hrl := (Hp5.out s hlt).1
      have hrr := row_range hv hlt
      have hop := ordN_pos hrr
      have hol := ordN_le (l := m.getD s []) (n := m.length) (by omega)
      have hstep : colTo m lim (s + 1) = if lim / ordN (m.getD s []) m.length < c then none else some (c * ordN (m.getD s []) m.length) := by
        show (match colTo m lim s with | none => none | some c => _) = _
        rw [Hc.out]
      have hw0 : waysT (m.getD s []) 0 = fct (letters m) := by rw [waysT_zero, hrl]
      have hwn : waysT (m.getD s []) m.length = ordN (m.getD s []) m.length := rfl
      have hws := hid (fun t => waysT_succ (m.getD s []) t)
      have htl := hid (fun (t : Int) => timesL_le (m.getD s []) t)
      have hwle := hid (fun t => show waysT (m.getD s []) t ≤ 720 from Nat.le_trans (Nat.div_le_self _ _) (fct_le (by omega)))
      have htim := hid (fun (W : World) (hb : Below w.heap.size w W) (t : Nat) => rTimes_any rv (m.getD s []) (t : Int) W (hrow.below hb) (by omega))
      obtain ⟨Ar, cr, rfl, -, -⟩ := id hrow
      rw [hrl] at hcell htl htim
      rw [← hwn] at hop hol hstep
      generalize m.getD s [] = row at *
      have Hw0 := hid hw0
      have Hwn := hid hwn
      have Hstep := hid hstep
      clear hw0 hwn hstep hrr hrl hrow
      obtain ⟨wo, rfl⟩ : ∃ wo : World, wo = wr := ⟨_, rfl⟩
      go_wp2_with fail
      refine (rLetters_any _ m _ (h.below hB) hv).mono ?_
      rintro e w2 ⟨rfl, h2⟩
      have c2 := (h2.cell (p := ⟨w.heap.size, 0, none⟩) (World.block_lt_of_cell? _ _ hbx)).trans hbx
      have hB2 := btr hB h2
      go_wp2_with fail
      refine (rProduct_any (letters m) _ p4).mono ?_
      rintro e w2' ⟨rfl, rfl⟩
      go_wp2_with fail
      go_loopw [8, 9] (fun yv tv wr => ∃ t y : Nat, t ≤ m.length ∧ tv = .int .i64 t ∧ yv = .int .i64 y ∧ waysT row t = y ∧ Below w.heap.size w wr ∧ wr.cell? ⟨w.heap.size, 0, none⟩ = some (.slice (some ⟨b, off, none⟩) m.length cap)) (fun _ tv _ => m.length - (intOf tv).toNat)
      case atStart => exact ⟨0, fct (letters m), Nat.zero_le _, rfl, rfl, Hw0.out, hB2, c2⟩
      case round =>
        clear hB2 c2 Hw0
        obtain ⟨t, y, ht, rfl, rfl, hy, hB3, hbx3⟩ := hrel
        have hyl : y ≤ 720 := by rw [← hy]; exact hwle.out t
        have Hy := hid hy
        clear hy
        by_cases htlt : t < m.length
        · have hts : (t : Int) < m.length := by omega
          have c3 := (hB3.cell (p := ⟨b, off + s, none⟩) (World.block_lt_of_cell? _ _ hcell)).trans hcell
          have ht6 := htl.out (t : Int)
          have hcall := htim.out wr hB3 t
          have hnext := hws.out t
          rw [Hy.out] at hnext
          obtain ⟨k, hk⟩ : ∃ k, timesL row (t : Int) = k := ⟨_, rfl⟩
          rw [hk] at ht6 hcall hnext
          have hfp := fct_pos k
          obtain ⟨f, hf⟩ : ∃ f, fct k = f := ⟨_, rfl⟩
          have hprod := hid (fun W => rProduct_any k W (by omega))
          rw [hf] at hfp hprod hnext
          obtain ⟨q, hqe⟩ : ∃ q, y / f = q := ⟨_, rfl⟩
          rw [hqe] at hnext
          have hq1 : (y : Int) / (f : Int) = (q : Int) := by rw [← hqe]; simp
          have hq2 : Int.tdiv (y : Int) (f : Int) = (q : Int) := by rw [Int.tdiv_eq_ediv_of_nonneg (by omega)]; exact hq1
          have hqb : q ≤ 720 := by rw [← hqe]; exact Nat.le_trans (Nat.div_le_self _ _) hyl
          have hqw : IntKind.i64.wrap (q : Int) = q := IntWalk.i64_in _ (by omega)
          have hf0 : (f : Int) ≠ 0 := by omega
          have Hnext := hid hnext
          have Hcall := hid hcall
          clear hk hf hqe hnext hcall Hy
          go_wp2_with fail
          refine Hcall.out.mono ?_
          rintro e w4 ⟨rfl, rfl⟩
          go_wp2_with fail
          refine (hprod.out _).mono ?_
          rintro e w4 ⟨rfl, rfl⟩
          go_wp2_with fail
          go_roundw
          case rel => exact ⟨t + 1, q, by omega, by go_num, rfl, Hnext.out, hB3, hbx3⟩
          case measure => simp [intOf]; omega
        · obtain rfl : t = m.length := by omega
          have hts : ¬ ((m.length : Nat) : Int) < m.length := by omega
          rw [Hy.out] at hop hol Hstep
          obtain ⟨q, hqe⟩ : ∃ q, lim / y = q := ⟨_, rfl⟩
          have hq1 : (lim : Int) / (y : Int) = (q : Int) := by rw [← hqe]; simp
          have hq2 : Int.tdiv (lim : Int) (y : Int) = (q : Int) := by rw [Int.tdiv_eq_ediv_of_nonneg (by omega)]; exact hq1
          have hqb : q ≤ 1152921504606846976 := by rw [← hqe]; exact Nat.le_trans (Nat.div_le_self _ _) hl2
          have hqw : IntKind.i64.wrap (q : Int) = q := IntWalk.i64_in _ (by omega)
          have hy0 : (y : Int) ≠ 0 := by omega
          have hmq : q * y ≤ lim := by rw [← hqe]; exact Nat.div_mul_le_self _ _
          rw [hqe] at Hstep
          clear hqe Hy
          by_cases hbig : q < c
          · have d1 : decide ((q : Int) < c) = true := by simp; omega
            have hnone := hid (show r = none from by rw [← hr.out]; exact colTo_end (s := s + 1) (by omega) (by rw [Hstep.out, if_pos hbig]))
            clear Hc Hstep
            go_wp2_with fail
            go_ret2
            refine ⟨?_, hB3⟩
            rw [hnone.out]; rfl
          · have d1 : decide ((q : Int) < c) = false := by simp; omega
            have hco : c * y ≤ lim := Nat.le_trans (Nat.mul_le_mul_right _ (by omega)) hmq
            have hcc : ((c : Int) * (y : Int)) = ((c * y : Nat) : Int) := by simp
            have hmul : IntKind.i64.wrap ((c : Int) * (y : Int)) = ((c * y : Nat) : Int) := by rw [hcc, IntWalk.i64_in _ (by omega)]
            have Hn := hid (show colTo m lim (s + 1) = some (c * y) from by rw [Hstep.out, if_neg hbig])
            obtain ⟨d, hd⟩ : ∃ d, c * y = d := ⟨_, rfl⟩
            rw [hd] at hmul Hn
            clear hcc hco hd Hc Hstep hmq
            go_wp2_with fail
            go_roundw
            case rel => exact ⟨s + 1, d, by omega, by go_num, rfl, Hn.out, hB3, hbx3⟩
            case measure => simp [intOf]; omega
    · obtain rfl : s = m.length := by omega
      have hss : ¬ ((m.length : Nat) : Int) < m.length := by omega
      have hsome := hid (show r = some c from by rw [← hr.out]; exact Hc.out)
      clear Hc
      go_wp2_with fail
      go_ret2
      refine ⟨?_, hB⟩
      rw [hsome.out]; rfl
end Go.Proofs.YtlpfglkopnmlnaaDoor
namespace Go.Proofs.YtlpfglkopnmlnaaDoor
open Go.RowKit Go.Shelf
theorem all_range_next {f : Nat → Bool} {s : Nat} (h : (List.range s).all f = true) (hs : f s = true) : (List.range (s + 1)).all f = true := by
  rw [List.range_succ, List.all_append, h, Bool.true_and]; simp [hs]
theorem all_range_false {f : Nat → Bool} {n s : Nat} (h : s < n) (hs : f s = false) : (List.range n).all f = false := by
  cases hc : (List.range n).all f with
  | false => rfl
  | true =>
    rw [List.all_eq_true] at hc
    have := hc s (List.mem_range.2 h)
    rw [hs] at this; cases this
theorem rTimes_as (v : Value) (l : List Int) (t : Int) (x : Nat) (w : World) (h : Ints w v l) (hl : l.length ≤ 100) (hx : Hid (timesL l t = x)) :
    Calls Tryd.prog 51 #[v, .int .i64 t] w fun e w' => e = .returned (.int .i64 x) ∧ Below w.heap.size w w' := by
  rw [← hx.out]
  exact (rTimes_any v l t w h hl).mono fun e w1 he => ⟨he.1, by rw [← he.2]; exact Below.refl _ _⟩
/-- The rows of a state hold each number as often. -/
def sameAt (m k : List (List Int)) (s : Nat) : Bool := (List.range m.length).all fun t : Nat => timesL (m.getD s []) t == timesL (k.getD s []) t
set_option maxRecDepth 100000 in
set_option maxHeartbeats 1500000 in
theorem rSame_rest (v u : Value) (m k : List (List Int)) (w : World) (h : Rows w v m) (hu : Rows w u k) (hv : validM m = true) (hk : validM k = true) (hlen : m.length = k.length) (hlt : letters m = letters k) :
    Calls Tryd.prog 17 #[.agg #[v], .agg #[u]] w fun e w' => e = .returned (.bool ((List.range m.length).all (sameAt m k))) ∧ Below w.heap.size w w' := by
  obtain ⟨p1, p2, p3, p4, p5⟩ := valid_parts hv
  obtain ⟨q1, q2, q3, q4, q5⟩ := valid_parts hk
  obtain ⟨A, cap, rfl, -, hcm⟩ := id h
  obtain ⟨Ak, capk, rfl, -, hck⟩ := id hu
  have Hcm := hid hcm
  have Hck := hid hck
  have Hp5 := hid p5
  have Hq5 := hid q5
  obtain ⟨f0, f1⟩ := two_alloc w (.cells #[.slice A m.length cap] 24) (.cells #[.slice Ak k.length capk] 24)
  have hX := bal (bal (Below.refl _ w) (.cells #[.slice A m.length cap] 24)) (.cells #[.slice Ak k.length capk] 24)
  have Hx := hid hX
  have d0 : ((m.length : Int) != (k.length : Int)) = false := by simp; omega
  have d1 : ((letters m : Int) != (letters k : Int)) = false := by simp; omega
  have Hlen := hid hlen
  have H0 := hid (show (List.range 0).all (sameAt m k) = true from rfl)
  have HI := hid (fun s => show (List.range 0).all (fun t : Nat => timesL (m.getD s []) t == timesL (k.getD s []) t) = true from rfl)
  clear hcm hck p5 q5 hlen hlt
  go_enter Tryd.func17, Tryd.ntmps17
  go_wp2_with fail
  generalize hWX : (w.alloc (.cells #[.slice A m.length cap] 24)).alloc (.cells #[.slice Ak k.length capk] 24) = X at *
  clear hX hWX
  have hX := Hx.out
  have hl1 : w.heap.size + 1 < X.heap.size := lt_of_block f1
  have hl0 : w.heap.size < X.heap.size := lt_of_block f0
  have c0 := cell_of_one f0
  have c1 := cell_of_one f1
  have hr := h.below hX
  have hs := hu.below hX
  have hc0 := later_cell c0
  have hc1 := later_cell c1
  clear f0 f1
  refine wp_region_later (by kernel_rfl) (by kernel_rfl) ?_
  repeat (go_big_quiet_step ((go_at_call 50; first | exact later_call (fun w' hb => rLetters_any _ m _ (hr.below hb) hv) | exact later_call (fun w' hb => rLetters_any _ k _ (hs.below hb) hk))))
  refine wpQuiet_nil ?_
  intro z
  have hz := z.below
  generalize z.world = Z at *
  clear hc0 hc1
  have b0 := (hz.cell (p := ⟨w.heap.size, 0, none⟩) hl0).trans c0
  have b1 := (hz.cell (p := ⟨w.heap.size + 1, 0, none⟩) hl1).trans c1
  have hZ := btr hX hz
  clear c0 c1 hr hs hz
  go_wp2_with fail
  go_loopw [5] (fun sv wr => ∃ s : Nat, s ≤ m.length ∧ sv = .int .i64 s ∧ (List.range s).all (sameAt m k) = true ∧ Below w.heap.size w wr ∧ wr.cell? ⟨w.heap.size, 0, none⟩ = some (.slice A m.length cap) ∧ wr.cell? ⟨w.heap.size + 1, 0, none⟩ = some (.slice Ak k.length capk)) (fun sv _ => m.length - (intOf sv).toNat)
  case atStart => exact ⟨0, Nat.zero_le _, rfl, H0.out, hZ, b0, b1⟩
  case round =>
    clear hZ b0 b1 H0
    obtain ⟨s, hsl, rfl, hall, hB, b0, b1⟩ := hrel
    have Hall := hid hall
    clear hall
    by_cases hlt : s < m.length
    · have hss : (s : Int) < m.length := by omega
      have hsk : (s : Int) < k.length := by have := Hlen.out; omega
      obtain ⟨wo, rfl⟩ : ∃ wo : World, wo = wr := ⟨_, rfl⟩
      have hI := HI.out s
      go_wp2_with fail
      go_loopw [6] (fun tv wr => ∃ t : Nat, t ≤ m.length ∧ tv = .int .i64 t ∧ (List.range t).all (fun t : Nat => timesL (m.getD s []) t == timesL (k.getD s []) t) = true ∧ Below w.heap.size w wr ∧ wr.cell? ⟨w.heap.size, 0, none⟩ = some (.slice A m.length cap) ∧ wr.cell? ⟨w.heap.size + 1, 0, none⟩ = some (.slice Ak k.length capk)) (fun tv _ => m.length - (intOf tv).toNat)
      case atStart => exact ⟨0, Nat.zero_le _, rfl, hI, hB, b0, b1⟩
      case round =>
        clear hB b0 b1 hI
        obtain ⟨t, htl, rfl, hal, hB, b0, b1⟩ := hrel
        have Hal := hid hal
        clear hal
        by_cases htlt : t < m.length
        · have hts : (t : Int) < m.length := by omega
          obtain ⟨b, off, rv, hA, hcell, hrow⟩ := Hcm.out s hlt
          subst hA
          obtain ⟨bk, offk, rk, hAk, hcellk, hrowk⟩ := Hck.out s (by omega)
          subst hAk
          have c2 := (hB.cell (p := ⟨b, off + s, none⟩) (World.block_lt_of_cell? _ _ hcell)).trans hcell
          have c3 := (hB.cell (p := ⟨bk, offk + s, none⟩) (World.block_lt_of_cell? _ _ hcellk)).trans hcellk
          have hrl := (Hp5.out s hlt).1
          have hkl := (Hq5.out s (by omega)).1
          have hrB := hrow.below hB
          have hkB := hrowk.below hB
          have Hnext := hid (fun e => all_range_next (f := fun t : Nat => timesL (m.getD s []) t == timesL (k.getD s []) t) Hal.out e)
          have Hfail := hid (fun e => all_range_false (f := fun t : Nat => timesL (m.getD s []) t == timesL (k.getD s []) t) htlt e)
          have Hout := hid (fun e => all_range_false (f := sameAt m k) hlt e)
          have Hat := hid (show sameAt m k s = (List.range m.length).all fun t : Nat => timesL (m.getD s []) t == timesL (k.getD s []) t from rfl)
          obtain ⟨Ar, cr, rfl, -, -⟩ := id hrow
          obtain ⟨Ar2, cr2, rfl, -, -⟩ := id hrowk
          rw [hrl] at c2 hrB
          rw [hkl] at c3 hkB
          have hr6 : (m.getD s []).length ≤ 100 := by omega
          have hk6 : (k.getD s []).length ≤ 100 := by omega
          clear hcell hcellk hrow hrowk hrl hkl
          generalize m.getD s [] = row at *
          generalize k.getD s [] = rowk at *
          obtain ⟨x, hx⟩ : ∃ x, timesL row (t : Int) = x := ⟨_, rfl⟩
          obtain ⟨y, hy⟩ : ∃ y, timesL rowk (t : Int) = y := ⟨_, rfl⟩
          have Hxe := hid hx
          have Hye := hid hy
          have l0 := later_cell b0
          have l1 := later_cell b1
          have l2 := later_cell c2
          have l3 := later_cell c3
          by_cases hxy : x = y
          · have dxy : ((x : Int) != (y : Int)) = false := by simp; omega
            have hn := hid (Hnext.out (by show (timesL row (t : Int) == timesL rowk (t : Int)) = true; rw [hx, hy, hxy]; simp))
            clear Hnext Hfail Hout Hat hx hy hxy
            go_wp2_with fail
            refine wp_region_later (by kernel_rfl) (by kernel_rfl) ?_
            repeat (go_big_quiet_step ((go_at_call 51; exact later_call (fun w' hb => rTimes_as _ _ _ _ _ (by first | exact hrB.below hb | exact hkB.below hb) (by first | exact hr6 | exact hk6) (by first | exact Hxe | exact Hye)))))
            refine wpQuiet_nil ?_
            intro z
            have hz := z.below
            generalize z.world = Z2 at *
            have e0 := (hz.cell (p := ⟨w.heap.size, 0, none⟩) (World.block_lt_of_cell? _ _ b0)).trans b0
            have e1 := (hz.cell (p := ⟨w.heap.size + 1, 0, none⟩) (World.block_lt_of_cell? _ _ b1)).trans b1
            clear l0 l1 l2 l3
            go_wp2
            go_roundw
            case rel => exact ⟨t + 1, by omega, by go_num, hn.out, btr hB hz, e0, e1⟩
            case measure => simp [intOf]; omega
          · have dxy : ((x : Int) != (y : Int)) = true := by simp; omega
            have hn := hid (Hout.out (by rw [Hat.out]; exact Hfail.out (by show (timesL row (t : Int) == timesL rowk (t : Int)) = false; rw [hx, hy, beq_eq_false_iff_ne]; exact hxy)))
            clear Hnext Hfail Hout Hat hx hy hxy
            go_wp2_with fail
            refine wp_region_later (by kernel_rfl) (by kernel_rfl) ?_
            repeat (go_big_quiet_step ((go_at_call 51; exact later_call (fun w' hb => rTimes_as _ _ _ _ _ (by first | exact hrB.below hb | exact hkB.below hb) (by first | exact hr6 | exact hk6) (by first | exact Hxe | exact Hye)))))
            refine wpQuiet_nil ?_
            intro z
            have hz := z.below
            generalize z.world = Z2 at *
            clear l0 l1 l2 l3
            go_wp2
            go_ret
            exact ⟨ret_bool hn.out.symm, btr hB hz⟩
        · obtain rfl : t = m.length := by omega
          have hts : ¬ ((m.length : Nat) : Int) < m.length := by omega
          have hn := hid (all_range_next (f := sameAt m k) Hall.out Hal.out)
          go_wp2_with fail
          go_roundw
          case rel => exact ⟨s + 1, by omega, by go_num, hn.out, hB, b0, b1⟩
          case measure => simp [intOf]; omega
    · obtain rfl : s = m.length := by omega
      have hss : ¬ ((m.length : Nat) : Int) < m.length := by omega
      go_wp2_with fail
      go_ret
      exact ⟨ret_bool Hall.out.symm, hB⟩
set_option maxRecDepth 100000 in
set_option maxHeartbeats 1500000 in
theorem rSame_len (v u : Value) (m k : List (List Int)) (w : World) (h : Rows w v m) (hu : Rows w u k) (hv : validM m = true) (hk : validM k = true) (hlen : ¬ m.length = k.length) :
    Calls Tryd.prog 17 #[.agg #[v], .agg #[u]] w fun e w' => e = .returned (.bool false) ∧ Below w.heap.size w w' := by
  obtain ⟨p1, p2, p3, p4, p5⟩ := valid_parts hv
  obtain ⟨q1, q2, q3, q4, q5⟩ := valid_parts hk
  obtain ⟨A, cap, rfl, -, -⟩ := id h
  obtain ⟨Ak, capk, rfl, -, -⟩ := id hu
  obtain ⟨f0, f1⟩ := two_alloc w (.cells #[.slice A m.length cap] 24) (.cells #[.slice Ak k.length capk] 24)
  have hX := bal (bal (Below.refl _ w) (.cells #[.slice A m.length cap] 24)) (.cells #[.slice Ak k.length capk] 24)
  have Hx := hid hX
  have d0 : ((m.length : Int) != (k.length : Int)) = true := by simp; omega
  clear hlen
  clear p5 q5
  go_enter Tryd.func17, Tryd.ntmps17
  go_wp2_with fail
  generalize hWX : (w.alloc (.cells #[.slice A m.length cap] 24)).alloc (.cells #[.slice Ak k.length capk] 24) = X at *
  clear hX hWX
  have c0 := cell_of_one f0
  have c1 := cell_of_one f1
  have hr := h.below Hx.out
  have hs := hu.below Hx.out
  have hc0 := later_cell c0
  have hc1 := later_cell c1
  clear f0 f1
  refine wp_region_later (by kernel_rfl) (by kernel_rfl) ?_
  repeat (go_big_quiet_step ((go_at_call 50; first | exact later_call (fun w' hb => rLetters_any _ m _ (hr.below hb) hv) | exact later_call (fun w' hb => rLetters_any _ k _ (hs.below hb) hk))))
  refine wpQuiet_nil ?_
  intro z
  have hz := z.below
  go_wp2
  go_ret
  exact ⟨rfl, btr Hx.out hz⟩
set_option maxRecDepth 100000 in
set_option maxHeartbeats 1500000 in
theorem rSame_let (v u : Value) (m k : List (List Int)) (w : World) (h : Rows w v m) (hu : Rows w u k) (hv : validM m = true) (hk : validM k = true) (hlen : m.length = k.length) (hlt : ¬ letters m = letters k) :
    Calls Tryd.prog 17 #[.agg #[v], .agg #[u]] w fun e w' => e = .returned (.bool false) ∧ Below w.heap.size w w' := by
  obtain ⟨p1, p2, p3, p4, p5⟩ := valid_parts hv
  obtain ⟨q1, q2, q3, q4, q5⟩ := valid_parts hk
  obtain ⟨A, cap, rfl, -, -⟩ := id h
  obtain ⟨Ak, capk, rfl, -, -⟩ := id hu
  obtain ⟨f0, f1⟩ := two_alloc w (.cells #[.slice A m.length cap] 24) (.cells #[.slice Ak k.length capk] 24)
  have hX := bal (bal (Below.refl _ w) (.cells #[.slice A m.length cap] 24)) (.cells #[.slice Ak k.length capk] 24)
  have Hx := hid hX
  have d0 : ((m.length : Int) != (k.length : Int)) = false := by simp; omega
  have d1 : ((letters m : Int) != (letters k : Int)) = true := by simp; omega
  clear hlen hlt
  clear p5 q5
  go_enter Tryd.func17, Tryd.ntmps17
  go_wp2_with fail
  generalize hWX : (w.alloc (.cells #[.slice A m.length cap] 24)).alloc (.cells #[.slice Ak k.length capk] 24) = X at *
  clear hX hWX
  have c0 := cell_of_one f0
  have c1 := cell_of_one f1
  have hr := h.below Hx.out
  have hs := hu.below Hx.out
  have hc0 := later_cell c0
  have hc1 := later_cell c1
  clear f0 f1
  refine wp_region_later (by kernel_rfl) (by kernel_rfl) ?_
  repeat (go_big_quiet_step ((go_at_call 50; first | exact later_call (fun w' hb => rLetters_any _ m _ (hr.below hb) hv) | exact later_call (fun w' hb => rLetters_any _ k _ (hs.below hb) hk))))
  refine wpQuiet_nil ?_
  intro z
  have hz := z.below
  go_wp2
  go_ret
  exact ⟨rfl, btr Hx.out hz⟩
theorem rSameA_any (v u : Value) (m k : List (List Int)) (w : World) (h : Rows w v m) (hu : Rows w u k) (hv : validM m = true) (hk : validM k = true) :
    Calls Tryd.prog 17 #[.agg #[v], .agg #[u]] w fun e w' => e = .returned (.bool (sameM m k)) ∧ Below w.heap.size w w' := by
  by_cases h1 : m.length = k.length
  · by_cases h2 : letters m = letters k
    · have : sameM m k = (List.range m.length).all (sameAt m k) := by rw [sameM, decide_eq_true h1, decide_eq_true h2]; rfl
      rw [this]
      exact rSame_rest v u m k w h hu hv hk h1 h2
    · have : sameM m k = false := by rw [sameM, decide_eq_false h2]; simp
      rw [this]
      exact rSame_let v u m k w h hu hv hk h1 h2
  · have : sameM m k = false := by rw [sameM, decide_eq_false h1]; simp
    rw [this]
    exact rSame_len v u m k w h hu hv hk h1
theorem rSameA_bool (v u : Value) (m k : List (List Int)) (b : Bool) (w : World) (h : Rows w v m) (hu : Rows w u k) (hv : validM m = true) (hk : validM k = true) (hb : sameM m k = b) :
    Calls Tryd.prog 17 #[.agg #[v], .agg #[u]] w fun e w' => e = .returned (.bool b) ∧ Below w.heap.size w w' := by
  subst hb; exact rSameA_any v u m k w h hu hv hk
end Go.Proofs.YtlpfglkopnmlnaaDoor
namespace Go.Proofs.YtlpfglkopnmlnaaDoor
open Go.RowKit Go.Shelf
theorem MRows.mono_base {W : World} {base base' : Nat} {v : Value} {m : List (List Int)} (h : MRows W base v m) (hb : base' ≤ base) : MRows W base' v m := by
  obtain ⟨xs, ho, hx⟩ := h
  refine ⟨xs, ?_, fun i hi => ?_⟩
  · obtain ⟨h1, h2⟩ := ho
    refine ⟨h1, ?_⟩
    rcases h2 with h2 | ⟨g, cap, cur, hv, hg, r⟩
    · exact .inl h2
    · exact .inr ⟨g, cap, cur, hv, by omega, r⟩
  · obtain ⟨A, cap, hv, hl, hc⟩ := hx i hi
    refine ⟨A, cap, hv, hl, fun j hj => ?_⟩
    obtain ⟨b, off, hA, h1, h2⟩ := hc j hj
    exact ⟨b, off, hA, by omega, h2⟩
end Go.Proofs.YtlpfglkopnmlnaaDoor
namespace Go.Proofs.YtlpfglkopnmlnaaDoor
open Go.RowKit Go.Shelf
/-- A row of rows, all of them the call's own, no two in one block; P: what is known of the rows' blocks. -/
structure Jag (W : World) (base Z n cap : Nat) (xs : List Value) (L : Nat → List Int) (P : Nat → Prop) : Prop where
  outer : W.ownsRow base 41 1 (.slice (some ⟨Z, 0, none⟩) n cap) n xs
  row : ∀ i, i < n → W.ownsRow base 3 1 (xs.getD i .nilIface) (L i).length ((L i).map fun x => .int .i64 x)
  off : ∀ i, i < n → ∀ g, (xs.getD i .nilIface).ownBlock = some g → g ≠ Z ∧ P g
  apart : ∀ i j, i < n → j < n → i ≠ j → ∀ g, (xs.getD i .nilIface).ownBlock = some g → (xs.getD j .nilIface).ownBlock ≠ some g
theorem ownsRow_blk {w : World} {base : Nat} {e : TypeId} {s : Nat} {v : Value} {n : Nat} {xs : List Value} (h : w.ownsRow base e s v n xs) : ∀ g, v.ownBlock = some g → base ≤ g ∧ g < w.heap.size := by
  intro g hg
  rcases h.2 with ⟨rfl, _⟩ | ⟨g', cap, cur, rfl, hb, hh, _⟩
  · cases hg
  · cases hg; exact ⟨hb, lt_of_block hh⟩
theorem Jag.kept {W W' : World} {base Z n cap : Nat} {xs : List Value} {L : Nat → List Int} {P : Nat → Prop} (h : Jag W base Z n cap xs L P) (hk : ∀ k, k < W.heap.size → base ≤ k → k = Z ∨ P k → W'.heap[k]? = W.heap[k]?) : Jag W' base Z n cap xs L P := by
  refine ⟨ownsRow_same h.outer fun g hg => ?_, fun i hi => ownsRow_same (h.row i hi) fun g hg => ?_, h.off, h.apart⟩
  · have := ownsRow_blk h.outer g hg
    cases hg
    exact hk _ this.2 this.1 (.inl rfl)
  · have := ownsRow_blk (h.row i hi) g hg
    exact hk _ this.2 this.1 (.inr (h.off i hi g hg).2)
theorem getD_set_same {xs : List Value} {s : Nat} (v : Value) (h : s < xs.length) : (xs.set s v).getD s .nilIface = v := by simp [List.getD_eq_getElem?_getD, List.getElem?_set, h]
theorem getD_set_other {xs : List Value} {s i : Nat} (v : Value) (h : i ≠ s) : (xs.set s v).getD i .nilIface = xs.getD i .nilIface := by
  simp only [List.getD_eq_getElem?_getD]
  rw [List.getElem?_set_ne (fun e => h e.symm)]
/-- One row has grown, and its new value is stored. -/
theorem Jag.step {W W5 : World} {base Z n cap s g1 c1 kk : Nat} {xs : List Value} {L L' : Nat → List Int} {P : Nat → Prop} {x : Int} {o : Obj} {ls : List Int} (h : Jag W base Z n cap xs L P) (hs : s < n) (hls : L s = ls) (hkk : ls.length = kk)
    (hg : (W.alloc o).grownBy W5 (xs.getD s .nilIface).ownBlock)
    (ho : W5.ownsRow base 3 1 (.slice (some ⟨g1, 0, none⟩) (kk + 1) c1) (kk + 1) ((ls.map fun x => .int .i64 x) ++ [.int .i64 x]))
    (hat : (xs.getD s .nilIface).ownBlock = some g1 ∨ g1 = W.heap.size + 1) (hP : P (W.heap.size + 1)) (hL' : ∀ i, L' i = if i = s then ls ++ [x] else L i) :
    Jag (W5.setCell ⟨Z, s, none⟩ (.slice (some ⟨g1, 0, none⟩) (kk + 1) c1)) base Z n cap (xs.set s (.slice (some ⟨g1, 0, none⟩) (kk + 1) c1)) L' P := by
  subst hls
  subst hkk
  obtain rfl : L' = fun i => if i = s then L s ++ [x] else L i := funext hL'
  clear hL'
  have hxl : xs.length = n := by have := h.outer.1; omega
  have hZ := (ownsRow_blk h.outer Z rfl).2
  have hZ5 : W5.heap[Z]? = W.heap[Z]? := (hg.block Z (by simp; omega) (fun e => (h.off s hs Z e.symm).1 rfl)).trans (Below.heap_alloc _ _ _ hZ)
  have hO5 := owns_block h.outer hZ5
  have hg1 : g1 ≠ Z ∧ P g1 := by
    rcases hat with e | e
    · exact h.off s hs g1 e
    · subst e; exact ⟨by omega, hP⟩
  have hother : ∀ i, i < n → i ≠ s → ∀ g, (xs.getD i .nilIface).ownBlock = some g → g ≠ g1 ∧ (W5.setCell ⟨Z, s, none⟩ (.slice (some ⟨g1, 0, none⟩) ((L s).length + 1) c1)).heap[g]? = W.heap[g]? := by
    intro i hi his g he
    have hb := ownsRow_blk (h.row i hi) g he
    refine ⟨fun e => ?_, ?_⟩
    · subst e
      rcases hat with e | e
      · exact h.apart i s hi hs his g he e
      · omega
    · rw [Below.heap_setCell _ _ _ _ (by have := (h.off i hi g he).1; simpa using this), hg.block g (by simp; omega) (fun e => h.apart i s hi hs his g he e.symm), Below.heap_alloc _ _ _ hb.2]
  refine ⟨(hO5.stored s _).1, fun i hi => ?_, fun i hi g he => ?_, fun i j hi hj hij g he => ?_⟩
  · by_cases e : i = s
    · subst e
      rw [getD_set_same _ (by omega)]
      simp only [if_true, List.length_append, List.length_cons, List.length_nil, List.map_append, List.map_cons, List.map_nil]
      exact owns_block ho (Below.heap_setCell _ _ _ _ (by simpa using hg1.1))
    · rw [getD_set_other _ e]
      simp only [if_neg e]
      exact ownsRow_same (h.row i hi) fun g he => (hother i hi e g he).2
  · by_cases e : i = s
    · subst e
      rw [getD_set_same _ (by omega)] at he
      cases he
      exact hg1
    · rw [getD_set_other _ e] at he
      exact h.off i hi g he
  · by_cases e : i = s
    · subst e
      rw [getD_set_same _ (by omega)] at he
      cases he
      rw [getD_set_other _ (fun e => hij e.symm)]
      exact fun he' => (hother j hj (fun e => hij e.symm) _ he').1 rfl
    · rw [getD_set_other _ e] at he
      by_cases e2 : j = s
      · subst e2
        rw [getD_set_same _ (by omega)]
        intro he'
        cases he'
        exact (hother i hi e _ he).1 rfl
      · rw [getD_set_other _ e2]
        exact h.apart i j hi hj hij g he
/-- Such rows read as lists. -/
theorem Jag.mrows {W : World} {base Z n cap : Nat} {xs : List Value} {L : Nat → List Int} {P : Nat → Prop} {m : List (List Int)} (h : Jag W base Z n cap xs L P) (hm : m.length = n) (hL : ∀ i, i < n → L i = m.getD i [] ∧ (L i).length ≤ big) : MRows W base (.slice (some ⟨Z, 0, none⟩) n cap) m := by
  refine ⟨xs, by rw [hm]; exact h.outer, fun i hi => ?_⟩
  rw [hm] at hi
  rw [← (hL i hi).1]
  have hr := h.row i hi
  rcases hr.2 with ⟨hv, h0⟩ | ⟨g, c, cur, hv, hb, hh, _⟩
  · rw [hv]
    refine ⟨none, 0, by rw [h0], (hL i hi).2, fun j hj => by omega⟩
  · rw [hv] at hr ⊢
    exact off_of_own hr rfl hb (fun e => (h.off i hi g (by rw [hv]; rfl)).1 (by simpa [Value.ownBlock] using e)) (hL i hi).2
theorem Jag.congr {W : World} {base Z n cap : Nat} {xs : List Value} {L L' : Nat → List Int} {P : Nat → Prop} (h : Jag W base Z n cap xs L P) (hL : ∀ i, i < n → L i = L' i) : Jag W base Z n cap xs L' P :=
  ⟨h.outer, fun i hi => by rw [← hL i hi]; exact h.row i hi, h.off, h.apart⟩
/-- Rows that are all nil. -/
theorem Jag.start {W : World} {base Z n cap : Nat} {P : Nat → Prop} {L : Nat → List Int} (h : W.ownsRow base 41 1 (.slice (some ⟨Z, 0, none⟩) n cap) n (List.replicate n (.slice none 0 0))) (hL : ∀ i, L i = []) : Jag W base Z n cap (List.replicate n (.slice none 0 0)) L P := by
  have hget : ∀ i, i < n → (List.replicate n (Value.slice none 0 0)).getD i .nilIface = .slice none 0 0 := fun i hi => by simp [List.getD_eq_getElem?_getD, List.getElem?_replicate, hi]
  refine ⟨h, fun i hi => ?_, fun i hi g he => ?_, fun i j hi hj _ g he => ?_⟩
  · rw [hget i hi, hL i]; exact ⟨rfl, .inl ⟨rfl, rfl⟩⟩
  · rw [hget i hi] at he; cases he
  · rw [hget i hi] at he; cases he
end Go.Proofs.YtlpfglkopnmlnaaDoor
namespace Go.Proofs.YtlpfglkopnmlnaaDoor
open Go.RowKit Go.Shelf
/-- A copy of a row that is not empty: the call's own. -/
theorem clone_any (v : Value) (l : List Int) (w : World) (h : Ints w v l) (hp : 0 < l.length) (hl : l.length ≤ 100) :
    Calls Tryd.prog 80 #[v] w fun e w' => ∃ g c, e = .returned (.slice (some ⟨g, 0, none⟩) l.length c) ∧ w'.ownsRow w.heap.size 3 1 (.slice (some ⟨g, 0, none⟩) l.length c) l.length (l.map fun x => .int .i64 x) ∧ Below w.heap.size w w' := by
  obtain ⟨A, cap, rfl, -, hc⟩ := h
  obtain ⟨b, off, hA, -⟩ := hc 0 hp
  subst hA
  refine (Tryd.slices_Clone_int b off l.length cap l w (Nat.le_refl _) (by omega) (fun j hj => by
    obtain ⟨b', off', hA, hcell⟩ := hc j hj
    cases hA
    exact hcell)).mono ?_
  rintro e w' ⟨v', rfl, ho, hne, hb⟩
  rw [List.take_length] at ho
  obtain ⟨g, c, rfl, -⟩ := Go.Lib.holds_of_ownsRow (enc := Value.int .i64) ho hne
  exact ⟨g, c, rfl, ho, hb⟩
/-- A row in rising order. -/
def sortL (l : List Int) : List Int := l.mergeSort fun x y => decide (x ≤ y)
theorem sortL_length (l : List Int) : (sortL l).length = l.length := List.length_mergeSort _
set_option maxRecDepth 100000 in
set_option maxHeartbeats 1000000 in
theorem sorted_any (v : Value) (l : List Int) (w : World) (h : Ints w v l) (hp : 0 < l.length) (hl : l.length ≤ 100) :
    Calls Tryd.prog 47 #[v] w fun e w' => ∃ g c, e = .returned (.slice (some ⟨g, 0, none⟩) l.length c) ∧ w'.ownsRow w.heap.size 3 1 (.slice (some ⟨g, 0, none⟩) l.length c) l.length ((sortL l).map fun x => .int .i64 x) ∧ Below w.heap.size w w' := by
  go_enter Tryd.func47, Tryd.ntmps47
  go_wp2_with fail
  refine (clone_any v l w h hp hl).mono ?_
  rintro e w1 ⟨g, c, rfl, ho, hb⟩
  have hgz := ownsRow_blk ho g rfl
  obtain ⟨g', c', hv, -, hgl, hnc, hcm, hll, hH⟩ := Go.Lib.holds_of_ownsRow (enc := Value.int .i64) (zs := l) ho (by intro e; cases e)
  cases hv
  have HO := hid ho
  have HB := hid hb
  have hsort := hid (Tryd.slices_Sort_int g 0 c l w1 hH hgl (by omega))
  clear ho hb hH
  go_wp2_with fail
  refine hsort.out.mono ?_
  rintro e w2 ⟨rfl, n, os, hw2⟩
  have H2 := hid hw2
  clear hw2
  have hown : w2.ownsRow w.heap.size 3 1 (.slice (some ⟨g, 0, none⟩) l.length c) l.length ((sortL l).map fun x => .int .i64 x) := by
    rcases HO.out.2 with ⟨h0, _⟩ | ⟨g2, cap2, cur, hv, hb2, hcur, hn2, hcap2, hsz2, _⟩
    · cases h0
    · cases hv
      rw [H2.out]
      exact ownsRow_sortedI (ss := l) (sortL_length l) hb2 hcur hn2 hcap2 hsz2
  have hbel : Below w.heap.size w w2 := by
    rw [H2.out]
    exact HB.out.grown (grownBy_sortedI _) (by have := HB.out.size; omega) (fun q hq => by cases hq; exact hgz.1)
  have Hown := hid hown
  clear hown
  go_wp2
  go_ret
  exact ⟨g, c, rfl, Hown.out, hbel⟩
end Go.Proofs.YtlpfglkopnmlnaaDoor
namespace Go.Proofs.YtlpfglkopnmlnaaDoor
open Go.RowKit Go.Shelf
theorem timesL_count (l : List Int) (n : Int) : timesL l n = l.count n := by
  rw [timesL, List.count, List.countP_eq_length_filter]
theorem perm_of_times {a b : List Int} (h : ∀ t, timesL a t = timesL b t) : a.Perm b :=
  List.perm_iff_count.2 fun t => by rw [← timesL_count, ← timesL_count, h t]
theorem timesL_none {l : List Int} {n : Int} (h : n ∉ l) : timesL l n = 0 := by
  rcases Nat.eq_zero_or_pos (timesL l n) with e | e
  · exact e
  · exact absurd (timesL_pos.1 e) h
theorem sortL_perm (l : List Int) : (sortL l).Perm l := List.mergeSort_perm _ _
theorem sortL_sorted (l : List Int) : (sortL l).Pairwise fun x y => decide (x ≤ y) = true :=
  List.pairwise_mergeSort (fun a b c h1 h2 => by simp only [decide_eq_true_eq] at *; omega) (fun a b => by simp only [Bool.or_eq_true, decide_eq_true_eq]; omega) l
theorem sortL_eq {a b : List Int} : sortL a = sortL b ↔ a.Perm b := by
  constructor
  · intro h
    exact (sortL_perm a).symm.trans ((List.Perm.of_eq h).trans (sortL_perm b))
  · intro h
    exact List.Perm.eq_of_pairwise (le := fun x y => decide (x ≤ y) = true) (fun a b _ _ h1 h2 => by simp only [decide_eq_true_eq] at h1 h2; omega) (sortL_sorted a) (sortL_sorted b) ((sortL_perm a).trans (h.trans (sortL_perm b).symm))
/-- Sorted alike: each number below n as often. -/
theorem sort_times {a b : List Int} {n : Nat} (ha : ∀ y ∈ a, 0 ≤ y ∧ y < (n : Int)) (hb : ∀ y ∈ b, 0 ≤ y ∧ y < (n : Int)) :
    (sortL a == sortL b) = (List.range n).all fun t : Nat => timesL a t == timesL b t := by
  rw [Bool.eq_iff_iff, beq_iff_eq, sortL_eq, List.all_eq_true]
  constructor
  · intro h t _
    rw [beq_iff_eq]; exact timesL_perm h _
  · intro h
    refine perm_of_times fun t => ?_
    by_cases ht : 0 ≤ t ∧ t < (n : Int)
    · have := h t.toNat (List.mem_range.2 (by omega))
      rw [beq_iff_eq, Int.toNat_of_nonneg ht.1] at this
      exact this
    · rw [timesL_none (fun hm => ht (ha t hm)), timesL_none (fun hm => ht (hb t hm))]
theorem same_at {m k : List (List Int)} (hv : validM m = true) (hk : validM k = true) (hlen : m.length = k.length) {s : Nat} (hs : s < m.length) :
    sameAt m k s = (sortL (m.getD s []) == sortL (k.getD s [])) := by
  rw [sort_times (row_range hv hs) (by rw [hlen]; exact row_range hk (by omega))]; rfl
theorem all_congr_range {f g : Nat → Bool} {n : Nat} (h : ∀ s, s < n → f s = g s) : (List.range n).all f = (List.range n).all g := by
  rw [Bool.eq_iff_iff, List.all_eq_true, List.all_eq_true]
  constructor
  · intro hh s hs; rw [← h s (List.mem_range.1 hs)]; exact hh s hs
  · intro hh s hs; rw [h s (List.mem_range.1 hs)]; exact hh s hs
/-- Same, as the program finds it: the letters' number need not be looked at. -/
theorem sameM_sorted {m k : List (List Int)} (hv : validM m = true) (hk : validM k = true) (hlen : m.length = k.length) :
    sameM m k = (List.range m.length).all fun s => sortL (m.getD s []) == sortL (k.getD s []) := by
  have h1 := all_congr_range (n := m.length) (f := sameAt m k) (g := fun s => sortL (m.getD s []) == sortL (k.getD s [])) (fun s hs => same_at hv hk hlen hs)
  by_cases h2 : letters m = letters k
  · rw [sameM, decide_eq_true hlen, decide_eq_true h2, ← h1]; rfl
  · have hn := (valid_parts hv).1
    have : sameM m k = false := by rw [sameM, decide_eq_false h2]; simp
    rw [this]
    refine (all_range_false (s := 0) (by omega) ?_).symm
    rw [beq_eq_false_iff_ne]
    intro e
    have := congrArg List.length e
    rw [sortL_length, sortL_length] at this
    exact h2 this
end Go.Proofs.YtlpfglkopnmlnaaDoor
namespace Go.Proofs.YtlpfglkopnmlnaaDoor
open Go.RowKit Go.Shelf
theorem names_false_at {l : List Int} {n k : Nat} (hk : k < l.length) (h : ¬ (0 ≤ l.getD k 0 ∧ l.getD k 0 < (n : Int))) : namesM l n = false := by
  cases hc : namesM l n with
  | false => rfl
  | true => exact absurd (names_bound hc _ (mem_getD hk)) h
theorem inB_all_take {l : List Int} {n k : Nat} (hk : k < l.length) (h0 : (l.take k).all (inB 0 ((n : Int) - 1)) = true) (h : 0 ≤ l.getD k 0 ∧ l.getD k 0 < (n : Int)) : (l.take (k + 1)).all (inB 0 ((n : Int) - 1)) = true := by
  rw [take_snocI hk, List.all_append, h0, Bool.true_and]
  simp only [List.all_cons, List.all_nil, Bool.and_true]
  exact inB_true (by omega)
set_option maxRecDepth 100000 in
set_option maxHeartbeats 1000000 in
theorem permutes_any (v : Value) (l : List Int) (n : Nat) (w : World) (hn : n ≤ 60) (h : Ints w v l) :
    Calls Tryd.prog 45 #[v, .int .i64 n] w fun e w' => e = .returned (.bool (namesM l n)) ∧ w = w' := by
  obtain ⟨A, cap, rfl, hl, hc⟩ := h
  unfold big at hl
  by_cases hlen : l.length = n
  · have d0 : ((l.length : Int) != (n : Int)) = false := by simp; omega
    have Hc := hid hc
    have H0 := hid (show (l.take 0).all (inB 0 ((n : Int) - 1)) = true from rfl)
    have Hlen := hid hlen
    clear hc hlen
    go_enter Tryd.func45, Tryd.ntmps45
    go_wp2
    go_loop [5, 14] (fun S i => ∃ k : Nat, k ≤ l.length ∧ i = .int .i64 k ∧ S = .int .u64 (ofList (l.take k) : Nat) ∧ (l.take k).all (inB 0 ((n : Int) - 1)) = true) (fun _ i => l.length - (intOf i).toNat)
    case atStart => exact ⟨0, Nat.zero_le _, rfl, rfl, H0.out⟩
    case round =>
      clear H0
      obtain ⟨k, hk, rfl, rfl, hall⟩ := hrel
      have hS := ofList_lt 64 (by decide) (l.take k) (fun x hx => by have := inB_iff.1 (List.all_eq_true.1 hall x hx); omega)
      by_cases hlt : k < l.length
      · have hks : (k : Int) < l.length := by omega
        obtain ⟨b, off, hA, hcell⟩ := Hc.out k hlt
        subst hA
        have Hs := hid (ofList_snoc l k hlt)
        have Ha := hid (inB_all_take hlt hall)
        have Hf := hid (fun h => names_false_at (n := n) hlt h)
        clear hall
        generalize ofList (l.take k) = S at *
        generalize l.getD k 0 = x at *
        by_cases hx0 : x < 0
        · have d1 : decide (x < 0) = true := decide_eq_true hx0
          have hff := hid (Hf.out (by omega))
          clear Hf Ha Hs
          go_wp2
          go_ret
          exact ⟨ret_bool hff.out.symm, rfl⟩
        · have d1 : decide (x < 0) = false := decide_eq_false hx0
          by_cases hxn : (n : Int) ≤ x
          · have d2 : decide ((n : Int) ≤ x) = true := decide_eq_true hxn
            have hff := hid (Hf.out (by omega))
            clear Hf Ha Hs
            go_wp2
            go_ret
            exact ⟨ret_bool hff.out.symm, rfl⟩
          · have d2 : decide ((n : Int) ≤ x) = false := decide_eq_false hxn
            obtain ⟨xn, rfl⟩ := Int.eq_ofNat_of_zero_le (show 0 ≤ x by omega)
            rw [Int.toNat_natCast] at Hs
            have Haa := hid (Ha.out (by omega))
            clear Hf Ha
            go_wp2_with (go_at_call 79; refine (With_any S xn _ hS (by omega)).mono ?_; rintro e w' ⟨rfl, rfl⟩)
            go_round
            case rel => exact ⟨k + 1, by omega, by go_num, by rw [Hs.out], Haa.out⟩
            case measure => simp [intOf]; omega
      · obtain rfl : k = l.length := by omega
        have hks : ¬ ((l.length : Nat) : Int) < l.length := by omega
        have hi := names_iff (l := l) (n := n) (by omega)
        rw [List.take_length] at hall hS
        rw [hall, decide_eq_true Hlen.out, Bool.true_and, Bool.true_and] at hi
        rw [List.take_length]
        have Hi := hid hi
        clear hi hall
        generalize ofList l = S at *
        go_wp2_with fail
        refine (Below_any n _ hn).mono ?_
        rintro e w3 ⟨rfl, rfl⟩
        go_wp2_with fail
        go_ret
        refine ⟨ret_bool ?_, rfl⟩
        rw [Hi.out]
        by_cases e : S = 2 ^ n - 1
        · rw [decide_eq_true e, e]; simp
        · rw [decide_eq_false e]
          rw [beq_eq_false_iff_ne]
          omega
  · have d0 : ((l.length : Int) != (n : Int)) = true := by simp; omega
    have hf : namesM l n = false := by rw [namesM, decide_eq_false hlen, Bool.false_and]
    have Hf := hid hf
    clear hc hf hlen
    go_enter Tryd.func45, Tryd.ntmps45
    go_wp2
    go_ret
    exact ⟨ret_bool Hf.out.symm, rfl⟩
theorem permutes_bool (v : Value) (l : List Int) (n : Nat) (b : Bool) (w : World) (hn : n ≤ 60) (h : Ints w v l) (hb : namesM l n = b) :
    Calls Tryd.prog 45 #[v, .int .i64 n] w fun e w' => e = .returned (.bool b) ∧ w = w' := by
  subst hb; exact permutes_any v l n w hn h
/-- One list for each state, each of which contains each letter once. -/
def permsM (m p : List (List Int)) : Bool := decide (p.length = m.length) && p.all fun l => namesM l (letters m)
theorem rNamesP_bool (v : Value) (l : List Int) (n : Nat) (b : Bool) (w : World) (hn : n ≤ 60) (h : Ints w v l) (hb : namesM l n = b) :
    Calls Tryd.prog 49 #[v, .int .i64 n] w fun e w' => e = .returned (.bool b) ∧ w = w' := by
  subst hb; exact rNames_any v l n w hn h
theorem take_snocR {l : List (List Int)} {k : Nat} (h : k < l.length) : l.take (k + 1) = l.take k ++ [l.getD k []] := by
  rw [List.take_succ_eq_append_getElem h]
  simp [List.getD_eq_getElem?_getD, List.getElem?_eq_getElem h]
theorem all_false_at {l : List (List Int)} {f : List Int → Bool} {k : Nat} (hk : k < l.length) (h : f (l.getD k []) = false) : l.all f = false := by
  cases hc : l.all f with
  | false => rfl
  | true =>
    rw [List.all_eq_true] at hc
    have := hc (l.getD k []) (by simp [List.getD_eq_getElem?_getD, List.getElem?_eq_getElem hk])
    rw [h] at this; cases this
set_option maxRecDepth 100000 in
set_option maxHeartbeats 4000000 in
theorem rPerms_any (v u : Value) (m p : List (List Int)) (w : World) (h : Rows w v m) (hv : validM m = true) (hu : Rows w u p) :
    Calls Tryd.prog 13 #[.agg #[v], u] w fun e w' => e = .returned (.bool (permsM m p)) ∧ Below w.heap.size w w' := by
  obtain ⟨p1, p2, p3, p4, p5⟩ := valid_parts hv
  obtain ⟨A, cap, rfl, -⟩ := id h
  obtain ⟨Au, capu, rfl, hpl, hcu⟩ := id hu
  unfold big at hpl
  have Hcu := hid hcu
  have hX := bal (Below.refl _ w) (.cells #[.slice A m.length cap] 24)
  have hbx := (Boxed.new w 24 (.slice A m.length cap)).cell
  clear hcu p5
  by_cases hlen : p.length = m.length
  · have d0 : ((p.length : Int) != (m.length : Int)) = false := by simp; omega
    have Hp := hid (show permsM m p = p.all fun l => namesM l (letters m) from by rw [permsM, decide_eq_true hlen, Bool.true_and])
    have H0 := hid (show (p.take 0).all (fun l => namesM l (letters m)) = true from rfl)
    clear hlen
    go_enter Tryd.func13, Tryd.ntmps13
    go_wp2_with fail
    go_loopw [5] (fun sv wr => ∃ s : Nat, s ≤ p.length ∧ sv = .int .i64 s ∧ (p.take s).all (fun l => namesM l (letters m)) = true ∧ Below w.heap.size w wr ∧ wr.cell? ⟨w.heap.size, 0, none⟩ = some (.slice A m.length cap)) (fun sv _ => p.length - (intOf sv).toNat)
    case atStart => exact ⟨0, Nat.zero_le _, rfl, H0.out, hX, hbx⟩
    case round =>
      clear hX hbx H0
      obtain ⟨s, hs, rfl, hall, hB, hbx⟩ := hrel
      by_cases hlt : s < p.length
      · have hss : (s : Int) < p.length := by omega
        obtain ⟨b, off, rv, hA, hcell, hrow⟩ := Hcu.out s hlt
        subst hA
        have c2 := (hB.cell (p := ⟨b, off + s, none⟩) (World.block_lt_of_cell? _ _ hcell)).trans hcell
        have hsn := take_snocR hlt
        have Hfa := hid (fun h => all_false_at (f := fun l => namesM l (letters m)) hlt h)
        have Hstep := hid (show namesM (p.getD s []) (letters m) = true → (p.take (s + 1)).all (fun l => namesM l (letters m)) = true from fun e => by rw [hsn, List.all_append, hall, Bool.true_and]; show (namesM (p.getD s []) (letters m) && true) = true; rw [e]; rfl)
        have hrb := hrow.below hB
        obtain ⟨Ar, cr, rfl, -, -⟩ := id hrow
        generalize p.getD s [] = row at *
        clear hsn hall hcell hrow
        have hml := hid (h.below hB)
        cases hnm : namesM row (letters m) with
        | true =>
          have Ht := hid (Hstep.out hnm)
          clear Hstep Hfa
          go_wp2_with fail
          go_region_held3 (fun w' => Below wr.heap.size wr w' ∧ w'.cell? ⟨w.heap.size, 0, none⟩ = some (.slice A m.length cap) ∧ w'.cell? ⟨b, off + s, none⟩ = some (.slice Ar row.length cr)) (exact held_pair hbx c2 (by first | exact below_dr wr 1 | assumption)) (first
            | (go_at_call 49; have gd := kJ1; clear gd; go_must (refine (rNamesP_bool _ row (letters m) true _ (by omega) (hrb.below kJ1) hnm).mono ?_; rintro e w4 ⟨rfl, rfl⟩))
            | (go_at_call 50; go_must (refine (rLetters_any _ m _ (hml.out.below (by first | exact below_dr wr 1 | exact Below.refl _ _)) hv).mono ?_; rintro e w3 ⟨rfl, hb3⟩; have kJ1 : Below wr.heap.size wr w3 := btr (by first | exact below_dr wr 1 | exact Below.refl _ _) hb3)))
          all_goals go_wp2
          all_goals go_roundw
          all_goals first
            | exact ⟨s + 1, by omega, by go_num, Ht.out, btr hB kJ1, (kJ1.cell (p := ⟨w.heap.size, 0, none⟩) (World.block_lt_of_cell? _ _ hbx)).trans hbx⟩
            | (simp [intOf]; omega)
        | false =>
          have Hf := hid (Hfa.out hnm)
          clear Hstep Hfa
          go_wp2_with fail
          go_region_held3 (fun w' => Below wr.heap.size wr w' ∧ w'.cell? ⟨w.heap.size, 0, none⟩ = some (.slice A m.length cap) ∧ w'.cell? ⟨b, off + s, none⟩ = some (.slice Ar row.length cr)) (exact held_pair hbx c2 (by first | exact below_dr wr 1 | assumption)) (first
            | (go_at_call 49; have gd := kJ1; clear gd; go_must (refine (rNamesP_bool _ row (letters m) false _ (by omega) (hrb.below kJ1) hnm).mono ?_; rintro e w4 ⟨rfl, rfl⟩))
            | (go_at_call 50; go_must (refine (rLetters_any _ m _ (hml.out.below (by first | exact below_dr wr 1 | exact Below.refl _ _)) hv).mono ?_; rintro e w3 ⟨rfl, hb3⟩; have kJ1 : Below wr.heap.size wr w3 := btr (by first | exact below_dr wr 1 | exact Below.refl _ _) hb3)))
          all_goals go_wp2
          all_goals go_ret
          all_goals exact ⟨ret_bool (by rw [Hp.out, Hf.out]), btr hB kJ1⟩
      · obtain rfl : s = p.length := by omega
        have hss : ¬ ((p.length : Nat) : Int) < p.length := by omega
        rw [List.take_length] at hall
        have Ha := hid hall
        clear hall
        go_wp2_with fail
        go_ret
        exact ⟨ret_bool (by rw [Hp.out, Ha.out]), hB⟩
  · have d0 : ((p.length : Int) != (m.length : Int)) = true := by simp; omega
    have Hp := hid (show permsM m p = false from by rw [permsM, decide_eq_false hlen, Bool.false_and])
    clear hlen
    go_enter Tryd.func13, Tryd.ntmps13
    go_wp2
    go_ret
    exact ⟨ret_bool (by rw [Hp.out]), hX⟩
theorem rPerms_bool (v u : Value) (m p : List (List Int)) (b : Bool) (w : World) (h : Rows w v m) (hv : validM m = true) (hu : Rows w u p) (hb : permsM m p = b) :
    Calls Tryd.prog 13 #[.agg #[v], u] w fun e w' => e = .returned (.bool b) ∧ Below w.heap.size w w' := by
  subst hb; exact rPerms_any v u m p w h hv hu
end Go.Proofs.YtlpfglkopnmlnaaDoor
namespace Go.Proofs.YtlpfglkopnmlnaaDoor
open Go.RowKit Go.Shelf
theorem ownsA_lt {w : World} {B g n c k : Nat} {e : TypeId} {s : Nat} {xs : List Value} (h : w.ownsRow B e s (.slice (some ⟨g, 0, none⟩) n c) k xs) : g < w.heap.size := (ownsRow_blk h g rfl).2
/-- The row of a state whose letters are permuted; the automaton. -/
def colRow (m p : List (List Int)) (s : Nat) : List Int := (p.getD s []).map fun x => (m.getD s []).getD x.toNat 0
def colM (m p : List (List Int)) : List (List Int) := (List.range m.length).map fun s => colRow m p s
theorem colM_length (m p : List (List Int)) : (colM m p).length = m.length := by simp [colM]
theorem colM_get (m p : List (List Int)) (i : Nat) (h : i < m.length) : (colM m p).getD i [] = colRow m p i := by simp [colM, List.getD_eq_getElem?_getD, h]
theorem colRow_length (m p : List (List Int)) (s : Nat) : (colRow m p s).length = (p.getD s []).length := by rw [colRow, List.length_map]
theorem colRow_succ (m p : List (List Int)) (s k : Nat) (hk : k < (p.getD s []).length) : ((colRow m p s).take (k + 1)).map (fun x => Value.int .i64 x) = ((colRow m p s).take k).map (fun x => Value.int .i64 x) ++ [.int .i64 ((m.getD s []).getD ((p.getD s []).getD k 0).toNat 0)] := by
  have hk' : k < (colRow m p s).length := by rw [colRow_length]; exact hk
  rw [List.take_succ_eq_append_getElem hk', List.map_append, getD_elem (p.getD s []) k hk]
  simp [colRow]
set_option maxRecDepth 100000 in
set_option maxHeartbeats 1000000 in
theorem Colored_form (v u : Value) (m p : List (List Int)) (w : World) (h : Rows w v m) (hu : Rows w u p) (hv : validM m = false) :
    Calls Tryd.prog 10 #[.agg #[v], u] w (AutoErr w 1) := by
  obtain ⟨A, cap, rfl, _⟩ := id h
  obtain ⟨Au, capu, rfl, hlu, _⟩ := id hu
  unfold big at hlu
  obtain ⟨f0, f1⟩ := two_alloc w (.cells #[.slice A m.length cap] 24) (.cells #[.slice none 0 0] 24)
  have hX := bal (bal (Below.refl _ w) (.cells #[.slice A m.length cap] 24)) (.cells #[.slice none 0 0] 24)
  have Hx := hid hX
  go_enter Tryd.func10, Tryd.ntmps10
  go_wp2_with fail
  generalize hWX : (w.alloc (.cells #[.slice A m.length cap] 24)).alloc (.cells #[.slice none 0 0] 24) = X at *
  clear hX hWX
  have hX := Hx.out
  have hl1 : w.heap.size + 1 < X.heap.size := lt_of_block f1
  have hr := h.below hX
  have B0 := Below.refl X.heap.size X
  clear f0
  refine (Valid_bool _ m false _ (hr.below B0) hv).mono ?_
  rintro e w1 ⟨rfl, h1⟩
  have B1 := btr B0 h1
  have g5 := (B1.block _ hl1).trans f1
  have d1 := cell_of_one g5
  have d2 := free_of_one g5
  have d3 := store_res g5 (.slice none 0 0)
  have HB := hid (Below.setCell (btr hX B1) (p := ⟨w.heap.size + 1, 0, none⟩) (Nat.le_succ _) (.slice none 0 0))
  clear g5 f1
  go_wp2
  (try simp only [Exit.inBlock, Exit.then])
  refine bodyPost_ret (v := .tuple #[.agg #[.slice none 0 0], .int .i64 1]) ?_ rfl ⟨rfl, HB.out⟩
  rw [results_cell_tmp rfl]
  go_simp
set_option maxRecDepth 100000 in
set_option maxHeartbeats 1000000 in
theorem Colored_len (v u : Value) (m p : List (List Int)) (w : World) (h : Rows w v m) (hu : Rows w u p) (hv : validM m = true) (hlen : ¬ p.length = m.length) :
    Calls Tryd.prog 10 #[.agg #[v], u] w (AutoErr w 2) := by
  obtain ⟨A, cap, rfl, _⟩ := id h
  obtain ⟨Au, capu, rfl, hlu, _⟩ := id hu
  unfold big at hlu
  obtain ⟨f0, f1⟩ := two_alloc w (.cells #[.slice A m.length cap] 24) (.cells #[.slice none 0 0] 24)
  have hX := bal (bal (Below.refl _ w) (.cells #[.slice A m.length cap] 24)) (.cells #[.slice none 0 0] 24)
  have Hx := hid hX
  have d0 : ((p.length : Int) != (m.length : Int)) = true := by simp; omega
  have Hl := hid hlen
  clear hlen
  go_enter Tryd.func10, Tryd.ntmps10
  go_wp2_with fail
  generalize hWX : (w.alloc (.cells #[.slice A m.length cap] 24)).alloc (.cells #[.slice none 0 0] 24) = X at *
  clear hX hWX
  have hX := Hx.out
  have hl1 : w.heap.size + 1 < X.heap.size := lt_of_block f1
  have hl0 : w.heap.size < X.heap.size := lt_of_block f0
  have c0 := cell_of_one f0
  have hr := h.below hX
  have B0 := Below.refl X.heap.size X
  clear f0
  refine (Valid_bool _ m true _ (hr.below B0) hv).mono ?_
  rintro e w1 ⟨rfl, h1⟩
  have B1 := btr B0 h1
  have c1 := (B1.cell (p := ⟨w.heap.size, 0, none⟩) hl0).trans c0
  have g5 := (B1.block _ hl1).trans f1
  have d1 := cell_of_one g5
  have d2 := free_of_one g5
  have d3 := store_res g5 (.slice none 0 0)
  have HB := hid (Below.setCell (btr hX B1) (p := ⟨w.heap.size + 1, 0, none⟩) (Nat.le_succ _) (.slice none 0 0))
  clear g5 f1
  go_wp2
  (try simp only [Exit.inBlock, Exit.then])
  refine bodyPost_ret (v := .tuple #[.agg #[.slice none 0 0], .int .i64 2]) ?_ rfl ⟨rfl, HB.out⟩
  rw [results_cell_tmp rfl]
  go_simp
/-- The colouring, or an error where the lists don't permute. -/
def ColIs (m p : List (List Int)) (w : World) (e : Ending) (w' : World) : Prop := (permsM m p = true ∧ AutoOk w (colM m p) e w') ∨ (permsM m p = false ∧ AutoErr w 2 e w')
set_option maxRecDepth 100000 in
set_option maxHeartbeats 4000000 in
theorem Colored_same (v u : Value) (m p : List (List Int)) (w : World) (h : Rows w v m) (hu : Rows w u p) (hv : validM m = true) (hlen : p.length = m.length) :
    Calls Tryd.prog 10 #[.agg #[v], u] w (ColIs m p w) := by
  obtain ⟨A, cap, rfl, _, hcm⟩ := id h
  obtain ⟨Au, capu, rfl, hlu, hcu⟩ := id hu
  unfold big at hlu
  have hn1 := (valid_parts hv).1
  have hn := (valid_parts hv).2.1
  have hlm := (valid_parts hv).2.2.2.1
  have hlm1 := (valid_parts hv).2.2.1
  have Hcu := hid hcu
  have Hcm := hid hcm
  obtain ⟨i0, hi, hz0, hz1, hz2⟩ := info_parts infoRow
  obtain ⟨j0, hj, hy0, hy1, hy2⟩ := info_parts infoInt
  have d0 : ((p.length : Int) != (m.length : Int)) = false := by simp; omega
  have Hp := hid (show permsM m p = p.all fun l => namesM l (letters m) from by rw [permsM, decide_eq_true hlen, Bool.true_and])
  have H0 := hid (show (p.take 0).all (fun l => namesM l (letters m)) = true from rfl)
  clear hcu hcm
  obtain ⟨f0, f1⟩ := two_alloc w (.cells #[.slice A m.length cap] 24) (.cells #[.slice none 0 0] 24)
  have hX := bal (bal (Below.refl _ w) (.cells #[.slice A m.length cap] 24)) (.cells #[.slice none 0 0] 24)
  have Hx := hid hX
  have hp60 : p.length ≤ 60 := by omega
  have Hlen := hid hlen
  clear hlen
  go_enter Tryd.func10, Tryd.ntmps10
  go_wp2_with fail
  generalize hWX : (w.alloc (.cells #[.slice A m.length cap] 24)).alloc (.cells #[.slice none 0 0] 24) = X at *
  clear hX hWX
  have hX := Hx.out
  have hl1 : w.heap.size + 1 < X.heap.size := lt_of_block f1
  have hl0 : w.heap.size < X.heap.size := lt_of_block f0
  have c0 := cell_of_one f0
  have hr := h.below hX
  clear f0
  refine (Valid_bool _ m true _ hr hv).mono ?_
  rintro e Z ⟨rfl, h1⟩
  have cZ := (h1.cell (p := ⟨w.heap.size, 0, none⟩) hl0).trans c0
  have gZ := (h1.block _ hl1).trans f1
  have hlZ : w.heap.size + 1 < Z.heap.size := lt_of_block gZ
  have hZ := btr hX h1
  clear c0 f1 hr h1
  go_wp2_with (at_make; refine wpList_make_full _ rfl _ _ 22 rfl Z.heap.size 41 i0 (.slice none 0 0) 1 Tryd.underlying22 hi hz0 hz1 .i64 .i64 _ _ p.length rfl rfl rfl rfl (by rw [hz2]; omega) (by unfold maxLen; omega) (Nat.le_refl _) ?_; intro w3 hown hgrow; have hB3 : Below Z.heap.size Z w3 := (Below.refl _ _).grown hgrow (Nat.le_refl _) (fun q hq => by cases hq))
  have hs3 := ownsA_lt hown
  rw [show Value.cells (.slice none 0 0) = #[.slice none 0 0] from rfl, toList_madeCells_one, Nat.mul_one] at hown
  go_loopw [27] (fun i wr => ∃ (k : Nat) (xs : List Value), k ≤ p.length ∧ i = .int .i64 k ∧ wr.ownsRow Z.heap.size 41 1 (.slice (some ⟨Z.heap.size, 0, none⟩) p.length p.length) p.length xs ∧ (∀ s, s < k → IntsOff wr Z.heap.size (some Z.heap.size) (xs.getD s .nilIface) (colRow m p s)) ∧ (∀ i, k ≤ i → i < p.length → xs.getD i .nilIface = .slice none 0 0) ∧ (p.take k).all (fun l => namesM l (letters m)) = true ∧ Below Z.heap.size Z wr) (fun i _ => p.length - (intOf i).toNat)
  case atStart => exact ⟨0, _, Nat.zero_le _, rfl, hown, fun s hs => by omega, fun i _ hi => by simp [List.getD_eq_getElem?_getD, List.getElem?_replicate, hi], H0.out, hB3⟩
  case round =>
    clear hown hB3 hs3 H0
    obtain ⟨k, xs, hk, rfl, hO, hdone, hnil, hall, hBZ⟩ := hrel
    have hsz := ownsA_lt hO
    by_cases hlt : k < p.length
    · have hle := Hlen.out
      have hltm : k < m.length := by omega
      clear hle
      have hkp : (k : Int) < p.length := by omega
      have hkm : (k : Int) < m.length := by omega
      obtain ⟨wo, rfl⟩ : ∃ wo : World, wo = wr := ⟨_, rfl⟩
      have hxl : xs.length = p.length := by have := hO.1; omega
      have hBwo := btr hZ hBZ
      have cb := (hBZ.cell (p := ⟨w.heap.size, 0, none⟩) (by show w.heap.size < _; omega)).trans cZ
      obtain ⟨b, off, r, hA, hcell, hrow⟩ := Hcm.out k hltm
      subst hA
      have hcr := (hBwo.cell (p := ⟨b, off + k, none⟩) (World.block_lt_of_cell? _ _ hcell)).trans hcell
      have hrl := ((valid_parts hv).2.2.2.2 k hltm).1
      obtain ⟨bp, offp, rp, hAp, hcellp, hrowp⟩ := Hcu.out k hlt
      subst hAp
      have hcrp := (hBwo.cell (p := ⟨bp, offp + k, none⟩) (World.block_lt_of_cell? _ _ hcellp)).trans hcellp
      have hrowpB := hrowp.below hBwo
      have hsn := take_snocR hlt
      have Hfa := hid (fun h => all_false_at (f := fun l => namesM l (letters m)) hlt h)
      have Hstep := hid (show namesM (p.getD k []) (letters m) = true → (p.take (k + 1)).all (fun l => namesM l (letters m)) = true from fun e => by rw [hsn, List.all_append, hall, Bool.true_and]; show (namesM (p.getD k []) (letters m) && true) = true; rw [e]; rfl)
      obtain ⟨Ar, capr, rfl, _, hcr2⟩ := id hrow
      have Hcr2 := hid hcr2
      obtain ⟨Ap, capp, rfl, _, hcp2⟩ := id hrowp
      have Hcp2 := hid hcp2
      have Hrs := hid (fun j hj => colRow_succ m p k j hj)
      rw [hrl] at hcr
      have hcellm := hid hcell
      rw [hrl] at hcellm
      have Hnil := hid hnil
      clear hcell hrow hcr2 hcellp hrowp hcp2 hsn hall
      have Hrl0 := hid (colRow_length m p k)
      have hcall0 := hid (fun b hb => permutes_bool _ _ (letters m) b _ (show letters m ≤ 60 by omega) hrowpB hb)
      clear hrowpB
      generalize hPR : p.getD k [] = prow at *
      generalize hMR : m.getD k [] = mrow at *
      clear hPR hMR
      cases hnm : namesM prow (letters m) with
      | false =>
        have Hf := hid (Hfa.out hnm)
        clear Hstep Hfa
        go_wp2_with fail
        refine (hcall0.out false hnm).mono ?_
        rintro e w4 ⟨rfl, rfl⟩
        have g5 := (hBZ.block _ hlZ).trans gZ
        have d1 := cell_of_one g5
        have d2 := free_of_one g5
        have d3 := store_res g5 (.slice none 0 0)
        have HB := hid (Below.setCell (btr hZ hBZ) (p := ⟨w.heap.size + 1, 0, none⟩) (Nat.le_succ _) (.slice none 0 0))
        clear g5 gZ hdone hnil hO
        go_wp2
        (try simp only [Exit.inBlock, Exit.then])
        refine bodyPost_ret (v := .tuple #[.agg #[.slice none 0 0], .int .i64 2]) ?_ rfl (.inr ⟨by rw [Hp.out, Hf.out], rfl, HB.out⟩)
        rw [results_cell_tmp rfl]
        go_simp
      | true =>
        have Ha := hid (Hstep.out hnm)
        have hpl : prow.length = letters m := by have h := hnm; rw [namesM, Bool.and_eq_true, decide_eq_true_eq] at h; exact h.1
        have Hpb := hid (names_bound hnm)
        have Hrl := hid (show (colRow m p k).length = letters m from by rw [Hrl0.out, hpl])
        have hnilk : xs.getD k .nilIface = .slice none 0 0 := hnil k (Nat.le_refl _) hlt
        have hset0 : xs.set k (.slice none 0 0) = xs := by
          apply List.ext_getElem
          · simp
          · intro i h1 h2
            rw [List.getElem_set]
            by_cases e : k = i
            · subst e
              simp only [List.getD_eq_getElem?_getD, List.getElem?_eq_getElem h2, Option.getD_some] at hnilk
              rw [if_pos rfl, hnilk]
            · rw [if_neg e]
        have hcall := hid (hcall0.out true hnm)
        rw [hpl] at hcrp hcall
        clear hcall0 Hrl0
        have Hpl := hid hpl
        clear Hstep Hfa hpl hnm
        go_wp2_with fail
        refine hcall.out.mono ?_
        rintro e w4 ⟨rfl, rfl⟩
        go_wp2_with fail
        go_loopw [44] (fun i wi => ∃ (j : Nat) (u : Value), j ≤ letters m ∧ i = .int .i64 j ∧ wi.ownsRow Z.heap.size 41 1 (.slice (some ⟨Z.heap.size, 0, none⟩) p.length p.length) p.length (xs.set k u) ∧ wi.ownsRow wo.heap.size 3 1 u j (((colRow m p k).take j).map fun x => .int .i64 x) ∧ (∀ b, b < wo.heap.size → b ≠ Z.heap.size → wi.heap[b]? = wo.heap[b]?) ∧ wo.heap.size ≤ wi.heap.size ∧ Below Z.heap.size Z wi) (fun i _ => letters m - (intOf i).toNat)
        case atStart => exact ⟨0, .slice none 0 0, Nat.zero_le _, rfl, by rw [hset0]; exact hO, ⟨rfl, .inl ⟨rfl, rfl⟩⟩, fun _ _ _ => rfl, Nat.le_refl _, hBZ⟩
        case round =>
          clear hset0 hnil hnilk
          obtain ⟨j, uu, hjl, rfl, hOi, huu, hkeep, hszi, hBi⟩ := hrel
          by_cases hjlt : j < letters m
          · have hpl := Hpl.out
            obtain ⟨br, offr, hAr, hct⟩ := Hcp2.out j (by omega)
            subst hAr
            have hBw := btr hZ hBi
            have hct2 := (hBw.cell (p := ⟨br, offr + j, none⟩) (World.block_lt_of_cell? _ _ hct)).trans hct
            have htb := Hpb.out _ (mem_getD (show j < prow.length by omega))
            have Hs := hid (Hrs.out j (by omega))
            generalize prow.getD j 0 = tv at *
            obtain ⟨tn, rfl⟩ := Int.eq_ofNat_of_zero_le htb.1
            rw [Int.toNat_natCast] at Hs
            obtain ⟨bn, on, hAn, hct3⟩ := Hcr2.out tn (by omega)
            subst hAn
            have hct4 := (hBw.cell (p := ⟨bn, on + tn, none⟩) (World.block_lt_of_cell? _ _ hct3)).trans hct3
            have hcm4 := (hBw.cell (p := ⟨b, off + k, none⟩) (World.block_lt_of_cell? _ _ hcellm.out)).trans hcellm.out
            have hcb4 := (hBi.cell (p := ⟨w.heap.size, 0, none⟩) (by show w.heap.size < _; omega)).trans cZ
            have htn : (tn : Int) < letters m := by omega
            have hjs : (j : Int) < letters m := by omega
            generalize mrow.getD tn 0 = y at *
            obtain ⟨A1, c1, rfl, hA1⟩ : ∃ A c, uu = .slice A j c ∧ ∀ g', (Value.slice A j c).ownBlock = some g' → wo.heap.size ≤ g' := by
              rcases huu.2 with ⟨he, h0⟩ | ⟨g, cap, cur, he, hg, _⟩
              · exact ⟨none, 0, by rw [he, h0], fun g' h => by cases h⟩
              · exact ⟨_, cap, he, fun g' h => by cases h; exact hg⟩
            have hcx : wr.cell? ⟨Z.heap.size, k, none⟩ = some (.slice A1 j c1) := by rw [hOi.cellAt k (by omega)]; simp [List.getElem?_set, hxl, hlt]
            have hfn := hOi.frozenAt k
            have hGi : Z.heap.size < wr.heap.size := by omega
            have HO := hid hOi
            have HU := hid huu
            have HK := hid hkeep
            clear hkeep hOi huu hdone hO hBZ hct hct3
            go_wp2_with fail
            go_region_law (refine step_append_lies _ rfl _ _ 41 rfl wo.heap.size 3 j0 (.int .i64 0) 1 8 Tryd.underlying41 hj hy0 hy1 hy2 rfl (by decide) (.slice A1 j c1) j (((colRow m p k).take j).map fun x => .int .i64 x) rfl (by first | exact HU.out.alloc _ | exact (HU.out.alloc _).drew) ⟨wr.heap.size, 0, none⟩ 1 1 [.int .i64 y] rfl rfl (by first | exact cell_one_new _ _ _ | (intro j u hu; exact cell_one_new _ _ _ j u hu)) (by simp [Value.oneCell']) (by decide) (by unfold maxLen; omega) (by omega) (by simp; omega) _ rfl ?_; intro g1 cap1 w5 hown' hgrow' hat hlt1; have hgr : (wr.drew.alloc (.cells #[.int .i64 y] 3)).grownBy w5 (Value.slice A1 j c1).ownBlock := hgrow'; have hG5 : w5.heap[Z.heap.size]? = wr.heap[Z.heap.size]? := (hgr.block _ (by simp; omega) (fun e => by have := hA1 _ e.symm; omega)).trans (Below.heap_alloc wr.drew _ _ hGi); have O5 := owns_block HO.out hG5; have hcn5 : w5.cell? ⟨Z.heap.size, k, none⟩ = some (.slice A1 j c1) := (by rw [O5.cellAt k (by omega)]; simp [List.getElem?_set, hxl, hlt]); have hfn5 := O5.frozenAt k; have K := power_round (Z := Z) (wo := wo) (wr := wr) (w2 := wr.drew) hgr (fun q hq => ⟨hA1 q hq, by have := hA1 q hq; omega⟩) hown' O5 (Below.refl _ _).drew HK.out hBi hsz hszi hGi)
            all_goals go_wp2
            all_goals go_roundw
            all_goals first
              | exact ⟨j + 1, _, by omega, by go_num, K.1, by rw [Hs.out]; exact K.2.1, K.2.2.1, K.2.2.2.1, K.2.2.2.2⟩
              | (simp [intOf]; omega)
          · obtain rfl : j = letters m := by omega
            obtain ⟨g, cg, rfl, hgb⟩ : ∃ g c, uu = .slice (some ⟨g, 0, none⟩) (letters m) c ∧ wo.heap.size ≤ g := by
              rcases huu.2 with ⟨_, h0⟩ | ⟨g, cap, cur, he, hg, _⟩
              · omega
              · exact ⟨g, cap, he, hg⟩
            rw [List.take_of_length_le (by rw [Hrl.out]; omega)] at huu
            have hnew : IntsOff wr Z.heap.size (some Z.heap.size) (.slice (some ⟨g, 0, none⟩) (letters m) cg) (colRow m p k) := off_of_own huu Hrl.out (by omega) (fun e => by simp only [Option.some.injEq] at e; omega) (by unfold big; omega)
            have Hd : Hid (∀ s, s < k + 1 → IntsOff wr Z.heap.size (some Z.heap.size) ((xs.set k (.slice (some ⟨g, 0, none⟩) (letters m) cg)).getD s .nilIface) (colRow m p s)) := hid (by
              intro s hs'
              by_cases e : s = k
              · subst e
                rw [getD_set_same _ (by omega)]
                exact hnew
              · rw [getD_set_other _ e]
                exact (hdone s (by omega)).kept (fun b _ hs hne => hkeep b hs (fun h => hne (by rw [h]))) (fun _ _ h => h))
            have Hn : Hid (∀ i, k + 1 ≤ i → i < p.length → (xs.set k (.slice (some ⟨g, 0, none⟩) (letters m) cg)).getD i .nilIface = .slice none 0 0) := hid (by
              intro i h1 h2
              rw [getD_set_other _ (by omega)]
              exact Hnil.out i (by omega) h2)
            have HO := hid hOi
            clear hnew hkeep hdone hO huu hOi
            go_wp2
            go_roundw
            case rel => exact ⟨k + 1, _, by omega, by go_num, HO.out, Hd.out, Hn.out, Ha.out, hBi⟩
            case measure => simp [intOf]; omega
    · obtain rfl : k = p.length := by omega
      have hle := Hlen.out
      have hss : ¬ ((p.length : Nat) : Int) < p.length := by omega
      rw [List.take_length] at hall
      have Hall := hid hall
      have hM : MRows wr Z.heap.size (.slice (some ⟨Z.heap.size, 0, none⟩) p.length p.length) (colM m p) := ⟨xs, by rw [colM_length, ← hle]; exact hO, fun i hi => by
        rw [colM_length] at hi
        rw [colM_get m p i hi]
        exact hdone i (by omega)⟩
      have g5 := (hBZ.block _ hlZ).trans gZ
      have d1 := cell_of_one g5
      have d2 := free_of_one g5
      have d3 := store_res g5 (.slice (some ⟨Z.heap.size, 0, none⟩) p.length p.length)
      have HB := hid (Below.setCell (btr hZ hBZ) (p := ⟨w.heap.size + 1, 0, none⟩) (Nat.le_succ _) (.slice (some ⟨Z.heap.size, 0, none⟩) p.length p.length))
      have HR := hid ((hM.kept (W' := wr.setCell ⟨w.heap.size + 1, 0, none⟩ (.slice (some ⟨Z.heap.size, 0, none⟩) p.length p.length)) (fun q hq hs => Below.heap_setCell _ _ _ _ (by simp; omega))).rows (by rw [colM_length]; unfold big; omega))
      clear g5 gZ hM hdone hnil hO hall hle
      go_wp2
      (try simp only [Exit.inBlock, Exit.then])
      refine bodyPost_ret (v := .tuple #[.agg #[.slice (some ⟨Z.heap.size, 0, none⟩) p.length p.length], .int .i64 0]) ?_ rfl (.inl ⟨by rw [Hp.out, Hall.out], _, rfl, HR.out, HB.out⟩)
      rw [results_cell_tmp rfl]
      go_simp
end Go.Proofs.YtlpfglkopnmlnaaDoor
namespace Go.Proofs.YtlpfglkopnmlnaaDoor
open Go.RowKit Go.Shelf
theorem sorted_as (v : Value) (l : List Int) (n : Nat) (w : World) (h : Ints w v l) (hn : Hid (l.length = n)) (hp : 0 < n) (hl : n ≤ 100) :
    Calls Tryd.prog 47 #[v] w fun e w' => ∃ g c, e = .returned (.slice (some ⟨g, 0, none⟩) n c) ∧ w'.ownsRow w.heap.size 3 1 (.slice (some ⟨g, 0, none⟩) n c) n ((sortL l).map fun x => .int .i64 x) ∧ Below w.heap.size w w' := by
  obtain rfl := hn.out
  exact sorted_any v l w h hp hl
theorem own_cells {w : World} {B g n c : Nat} {xs : List Int} (h : w.ownsRow B 3 1 (.slice (some ⟨g, 0, none⟩) n c) n (xs.map fun x => .int .i64 x)) : xs.length = n ∧ ∀ j, j < xs.length → w.cell? ⟨g, 0 + j, none⟩ = some (.int .i64 (xs.getD j 0)) := by
  have hl : xs.length = n := by simpa using h.1
  refine ⟨hl, fun j hj => ?_⟩
  rw [Nat.zero_add, h.cellAt j (by omega)]
  simp [List.getElem?_map, List.getD_eq_getElem?_getD, List.getElem?_eq_getElem hj]
/-- slices.Equal of two rows of the call's own. -/
theorem equal_own (B1 B2 g1 c1 g2 c2 n1 n2 : Nat) (xs ys : List Int) (b : Bool) (w : World) (h1 : w.ownsRow B1 3 1 (.slice (some ⟨g1, 0, none⟩) n1 c1) n1 (xs.map fun x => .int .i64 x)) (h2 : w.ownsRow B2 3 1 (.slice (some ⟨g2, 0, none⟩) n2 c2) n2 (ys.map fun x => .int .i64 x)) (hb : Hid ((xs == ys) = b)) (hn1 : n1 ≤ 100) (hn2 : n2 ≤ 100) :
    Calls Tryd.prog 46 #[.slice (some ⟨g1, 0, none⟩) n1 c1, .slice (some ⟨g2, 0, none⟩) n2 c2] w fun e w' => e = .returned (.bool b) ∧ Below w.heap.size w w' := by
  obtain ⟨l1, k1⟩ := own_cells h1
  obtain ⟨l2, k2⟩ := own_cells h2
  refine (Tryd.slices_Equal_int g1 0 n1 c1 g2 0 n2 c2 xs ys w (by omega) (by omega) (by omega) (by omega) k1 k2).mono ?_
  rintro e w' ⟨rfl, q, rfl⟩
  rw [List.take_of_length_le (by omega), List.take_of_length_le (by omega), hb.out]
  exact ⟨rfl, below_dr w q⟩
theorem held_four {w1 w' : World} {p q r s : Addr} {a b c d : Value} (h1 : w1.cell? p = some a) (h2 : w1.cell? q = some b) (h3 : w1.cell? r = some c) (h4 : w1.cell? s = some d) (hb : Below w1.heap.size w1 w') : Below w1.heap.size w1 w' ∧ w'.cell? p = some a ∧ w'.cell? q = some b ∧ w'.cell? r = some c ∧ w'.cell? s = some d :=
  ⟨hb, (hb.cell (World.block_lt_of_cell? _ _ h1)).trans h1, (hb.cell (World.block_lt_of_cell? _ _ h2)).trans h2, (hb.cell (World.block_lt_of_cell? _ _ h3)).trans h3, (hb.cell (World.block_lt_of_cell? _ _ h4)).trans h4⟩
set_option maxRecDepth 100000 in
set_option maxHeartbeats 2000000 in
theorem Same_ok (v u : Value) (m k : List (List Int)) (w : World) (h : Rows w v m) (hu : Rows w u k) (hv : validM m = true) (hk : validM k = true) (hlen : m.length = k.length) :
    Calls Tryd.prog 11 #[.agg #[v], .agg #[u]] w fun e w' => e = .returned (.tuple #[.bool (sameM m k), .int .i64 0]) ∧ Below w.heap.size w w' := by
  obtain ⟨p1, p2, p3, p4, p5⟩ := valid_parts hv
  obtain ⟨q1, q2, q3, q4, q5⟩ := valid_parts hk
  obtain ⟨A, cap, rfl, -, hcm⟩ := id h
  obtain ⟨Ak, capk, rfl, -, hck⟩ := id hu
  have Hcm := hid hcm
  have Hck := hid hck
  have Hp5 := hid p5
  have Hq5 := hid q5
  obtain ⟨f0, f1⟩ := two_alloc w (.cells #[.slice A m.length cap] 24) (.cells #[.slice Ak k.length capk] 24)
  have hX := bal (bal (Below.refl _ w) (.cells #[.slice A m.length cap] 24)) (.cells #[.slice Ak k.length capk] 24)
  have Hx := hid hX
  have d0 : ((m.length : Int) != (k.length : Int)) = false := by simp; omega
  have Hlen := hid hlen
  have Hsm := hid (sameM_sorted hv hk hlen)
  have H0 := hid (show (List.range 0).all (fun s => sortL (m.getD s []) == sortL (k.getD s [])) = true from rfl)
  clear hcm hck p5 q5 hlen
  go_enter Tryd.func11, Tryd.ntmps11
  go_wp2_with fail
  generalize hWX : (w.alloc (.cells #[.slice A m.length cap] 24)).alloc (.cells #[.slice Ak k.length capk] 24) = X at *
  clear hX hWX
  have hX := Hx.out
  have hl1 : w.heap.size + 1 < X.heap.size := lt_of_block f1
  have hl0 : w.heap.size < X.heap.size := lt_of_block f0
  have c0 := cell_of_one f0
  have c1 := cell_of_one f1
  have hr := h.below hX
  have hs := hu.below hX
  clear f0 f1
  refine (Valid_bool _ m true _ hr hv).mono ?_
  rintro e w1 ⟨rfl, h1⟩
  have e0 := (h1.cell (p := ⟨w.heap.size, 0, none⟩) hl0).trans c0
  have e1 := (h1.cell (p := ⟨w.heap.size + 1, 0, none⟩) hl1).trans c1
  go_wp2_with fail
  refine (Valid_bool _ k true _ (hs.below h1) hk).mono ?_
  rintro e Z ⟨rfl, h2⟩
  have hz := btr h1 h2
  have b0 := (hz.cell (p := ⟨w.heap.size, 0, none⟩) hl0).trans c0
  have b1 := (hz.cell (p := ⟨w.heap.size + 1, 0, none⟩) hl1).trans c1
  have hZ := btr hX hz
  clear c0 c1 hr hs hz e0 e1 h1 h2
  go_wp2_with fail
  go_loopw [25] (fun sv wr => ∃ s : Nat, s ≤ m.length ∧ sv = .int .i64 s ∧ (List.range s).all (fun s => sortL (m.getD s []) == sortL (k.getD s [])) = true ∧ Below w.heap.size w wr ∧ wr.cell? ⟨w.heap.size, 0, none⟩ = some (.slice A m.length cap) ∧ wr.cell? ⟨w.heap.size + 1, 0, none⟩ = some (.slice Ak k.length capk)) (fun sv _ => m.length - (intOf sv).toNat)
  case atStart => exact ⟨0, Nat.zero_le _, rfl, H0.out, hZ, b0, b1⟩
  case round =>
    clear hZ b0 b1 H0
    obtain ⟨s, hsl, rfl, hall, hB, b0, b1⟩ := hrel
    have Hall := hid hall
    clear hall
    by_cases hlt : s < m.length
    · have hss : (s : Int) < m.length := by omega
      have hsk : (s : Int) < k.length := by have := Hlen.out; omega
      obtain ⟨b, off, rv, hA, hcell, hrow⟩ := Hcm.out s hlt
      subst hA
      obtain ⟨bk, offk, rk, hAk, hcellk, hrowk⟩ := Hck.out s (by omega)
      subst hAk
      have c2 := (hB.cell (p := ⟨b, off + s, none⟩) (World.block_lt_of_cell? _ _ hcell)).trans hcell
      have c3 := (hB.cell (p := ⟨bk, offk + s, none⟩) (World.block_lt_of_cell? _ _ hcellk)).trans hcellk
      have Hrl := hid (Hp5.out s hlt).1
      have Hkl := hid (Hq5.out s (by omega)).1
      have hrB := hrow.below hB
      have hkB := hrowk.below hB
      have Hnext := hid (fun e => all_range_next (f := fun s => sortL (m.getD s []) == sortL (k.getD s [])) Hall.out e)
      have Hfail := hid (fun e => all_range_false (f := fun s => sortL (m.getD s []) == sortL (k.getD s [])) hlt e)
      obtain ⟨Ar, cr, rfl, -, -⟩ := id hrow
      obtain ⟨Ar2, cr2, rfl, -, -⟩ := id hrowk
      rw [Hrl.out] at c2 hrB
      rw [Hkl.out] at c3 hkB
      clear hcell hcellk hrow hrowk
      obtain ⟨row, hrw⟩ : ∃ row, m.getD s [] = row := ⟨_, rfl⟩
      obtain ⟨rowk, hrwk⟩ : ∃ rowk, k.getD s [] = rowk := ⟨_, rfl⟩
      rw [hrw] at hrB Hrl
      rw [hrwk] at hkB Hkl
      obtain ⟨t, ht⟩ : ∃ t, (sortL row == sortL rowk) = t := ⟨_, rfl⟩
      have Ht := hid ht
      have Hres := hid (show (sortL (m.getD s []) == sortL (k.getD s [])) = t from by rw [hrw, hrwk]; exact ht)
      clear ht hrw hrwk
      cases t with
      | true =>
        have hn := hid (Hnext.out Hres.out)
        clear Hnext Hfail Hres
        go_wp2_with fail
        go_region_held3 (fun w' => Below wr.heap.size wr w' ∧ w'.cell? ⟨w.heap.size, 0, none⟩ = some (.slice (some ⟨b, off, none⟩) m.length cap) ∧ w'.cell? ⟨w.heap.size + 1, 0, none⟩ = some (.slice (some ⟨bk, offk, none⟩) k.length capk) ∧ w'.cell? ⟨b, off + s, none⟩ = some (.slice Ar (letters m) cr) ∧ w'.cell? ⟨bk, offk + s, none⟩ = some (.slice Ar2 (letters k) cr2)) (exact held_four b0 b1 c2 c3 (by first | exact below_dr wr 1 | assumption)) (first
          | (go_at_call 46; have gd := kJ2; clear gd; go_must (refine (equal_own _ _ _ _ _ _ _ _ _ _ true _ (by first | exact o1 | exact o2) (by first | exact o1 | exact o2) Ht (by omega) (by omega)).mono ?_; rintro e y3 ⟨rfl, hy3⟩; have kJ3 : Below wr.heap.size wr y3 := btr kJ2 hy3))
          | (go_at_call 47; have gd := kJ1; clear gd; go_must (refine (sorted_as _ _ _ _ (by first | exact hrB.below kJ1 | exact hkB.below kJ1) (by first | exact Hrl | exact Hkl) (by omega) (by omega)).mono ?_; rintro e y2 ⟨g2, cc2, rfl, o2, hy2⟩; have kJ2 : Below wr.heap.size wr y2 := btr kJ1 hy2; have o1 := owns_kept o1 (fun q _ hq => hy2.block q hq)))
          | (go_at_call 47; go_must (refine (sorted_as _ _ _ _ (by first | exact hrB.below (by first | exact below_dr wr 1 | exact Below.refl _ _) | exact hkB.below (by first | exact below_dr wr 1 | exact Below.refl _ _)) (by first | exact Hrl | exact Hkl) (by omega) (by omega)).mono ?_; rintro e y1 ⟨g1, cc1, rfl, o1, hy1⟩; have kJ1 : Below wr.heap.size wr y1 := btr (by first | exact below_dr wr 1 | exact Below.refl _ _) hy1)))
        all_goals go_wp2
        all_goals go_roundw
        all_goals first
          | exact ⟨s + 1, by omega, by go_num, hn.out, btr hB kJ3, (kJ3.cell (p := ⟨w.heap.size, 0, none⟩) (World.block_lt_of_cell? _ _ b0)).trans b0, (kJ3.cell (p := ⟨w.heap.size + 1, 0, none⟩) (World.block_lt_of_cell? _ _ b1)).trans b1⟩
          | (simp [intOf]; omega)
      | false =>
        have hn := hid (Hfail.out Hres.out)
        clear Hnext Hfail Hres
        go_wp2_with fail
        go_region_held3 (fun w' => Below wr.heap.size wr w' ∧ w'.cell? ⟨w.heap.size, 0, none⟩ = some (.slice (some ⟨b, off, none⟩) m.length cap) ∧ w'.cell? ⟨w.heap.size + 1, 0, none⟩ = some (.slice (some ⟨bk, offk, none⟩) k.length capk) ∧ w'.cell? ⟨b, off + s, none⟩ = some (.slice Ar (letters m) cr) ∧ w'.cell? ⟨bk, offk + s, none⟩ = some (.slice Ar2 (letters k) cr2)) (exact held_four b0 b1 c2 c3 (by first | exact below_dr wr 1 | assumption)) (first
          | (go_at_call 46; have gd := kJ2; clear gd; go_must (refine (equal_own _ _ _ _ _ _ _ _ _ _ false _ (by first | exact o1 | exact o2) (by first | exact o1 | exact o2) Ht (by omega) (by omega)).mono ?_; rintro e y3 ⟨rfl, hy3⟩; have kJ3 : Below wr.heap.size wr y3 := btr kJ2 hy3))
          | (go_at_call 47; have gd := kJ1; clear gd; go_must (refine (sorted_as _ _ _ _ (by first | exact hrB.below kJ1 | exact hkB.below kJ1) (by first | exact Hrl | exact Hkl) (by omega) (by omega)).mono ?_; rintro e y2 ⟨g2, cc2, rfl, o2, hy2⟩; have kJ2 : Below wr.heap.size wr y2 := btr kJ1 hy2; have o1 := owns_kept o1 (fun q _ hq => hy2.block q hq)))
          | (go_at_call 47; go_must (refine (sorted_as _ _ _ _ (by first | exact hrB.below (by first | exact below_dr wr 1 | exact Below.refl _ _) | exact hkB.below (by first | exact below_dr wr 1 | exact Below.refl _ _)) (by first | exact Hrl | exact Hkl) (by omega) (by omega)).mono ?_; rintro e y1 ⟨g1, cc1, rfl, o1, hy1⟩; have kJ1 : Below wr.heap.size wr y1 := btr (by first | exact below_dr wr 1 | exact Below.refl _ _) hy1)))
        all_goals go_wp2
        all_goals go_ret2
        all_goals exact ⟨by rw [Hsm.out, hn.out]; rfl, btr hB kJ3⟩
    · obtain rfl : s = m.length := by omega
      have hss : ¬ ((m.length : Nat) : Int) < m.length := by omega
      go_wp2_with fail
      go_ret2
      exact ⟨by rw [Hsm.out, Hall.out]; rfl, hB⟩
set_option maxRecDepth 100000 in
set_option maxHeartbeats 1000000 in
theorem Same_form1 (v u : Value) (m k : List (List Int)) (w : World) (h : Rows w v m) (hu : Rows w u k) (hv : validM m = false) :
    Calls Tryd.prog 11 #[.agg #[v], .agg #[u]] w fun e w' => e = .returned (.tuple #[.bool false, .int .i64 1]) ∧ Below w.heap.size w w' := by
  obtain ⟨A, cap, rfl, -, -⟩ := id h
  obtain ⟨Ak, capk, rfl, -, -⟩ := id hu
  obtain ⟨f0, f1⟩ := two_alloc w (.cells #[.slice A m.length cap] 24) (.cells #[.slice Ak k.length capk] 24)
  have hX := bal (bal (Below.refl _ w) (.cells #[.slice A m.length cap] 24)) (.cells #[.slice Ak k.length capk] 24)
  have Hx := hid hX
  go_enter Tryd.func11, Tryd.ntmps11
  go_wp2_with fail
  generalize hWX : (w.alloc (.cells #[.slice A m.length cap] 24)).alloc (.cells #[.slice Ak k.length capk] 24) = X at *
  clear hX hWX
  have hX := Hx.out
  have hl1 : w.heap.size + 1 < X.heap.size := lt_of_block f1
  have hl0 : w.heap.size < X.heap.size := lt_of_block f0
  have c0 := cell_of_one f0
  have c1 := cell_of_one f1
  have hr := h.below hX
  have hs := hu.below hX
  clear f0 f1
  refine (Valid_bool _ m false _ hr hv).mono ?_
  rintro e w1 ⟨rfl, h1⟩
  have e0 := (h1.cell (p := ⟨w.heap.size, 0, none⟩) hl0).trans c0
  have e1 := (h1.cell (p := ⟨w.heap.size + 1, 0, none⟩) hl1).trans c1
  go_wp2
  go_ret2
  exact ⟨rfl, btr hX h1⟩
set_option maxRecDepth 100000 in
set_option maxHeartbeats 1000000 in
theorem Same_form2 (v u : Value) (m k : List (List Int)) (w : World) (h : Rows w v m) (hu : Rows w u k) (hv : validM m = true) (hk : validM k = false) :
    Calls Tryd.prog 11 #[.agg #[v], .agg #[u]] w fun e w' => e = .returned (.tuple #[.bool false, .int .i64 1]) ∧ Below w.heap.size w w' := by
  obtain ⟨A, cap, rfl, -, -⟩ := id h
  obtain ⟨Ak, capk, rfl, -, -⟩ := id hu
  obtain ⟨f0, f1⟩ := two_alloc w (.cells #[.slice A m.length cap] 24) (.cells #[.slice Ak k.length capk] 24)
  have hX := bal (bal (Below.refl _ w) (.cells #[.slice A m.length cap] 24)) (.cells #[.slice Ak k.length capk] 24)
  have Hx := hid hX
  go_enter Tryd.func11, Tryd.ntmps11
  go_wp2_with fail
  generalize hWX : (w.alloc (.cells #[.slice A m.length cap] 24)).alloc (.cells #[.slice Ak k.length capk] 24) = X at *
  clear hX hWX
  have hX := Hx.out
  have hl1 : w.heap.size + 1 < X.heap.size := lt_of_block f1
  have hl0 : w.heap.size < X.heap.size := lt_of_block f0
  have c0 := cell_of_one f0
  have c1 := cell_of_one f1
  have hr := h.below hX
  have hs := hu.below hX
  clear f0 f1
  refine (Valid_bool _ m true _ hr hv).mono ?_
  rintro e w1 ⟨rfl, h1⟩
  have e0 := (h1.cell (p := ⟨w.heap.size, 0, none⟩) hl0).trans c0
  have e1 := (h1.cell (p := ⟨w.heap.size + 1, 0, none⟩) hl1).trans c1
  go_wp2_with fail
  refine (Valid_bool _ k false _ (hs.below h1) hk).mono ?_
  rintro e Z ⟨rfl, h2⟩
  have hz := btr h1 h2
  have b0 := (hz.cell (p := ⟨w.heap.size, 0, none⟩) hl0).trans c0
  have b1 := (hz.cell (p := ⟨w.heap.size + 1, 0, none⟩) hl1).trans c1
  go_wp2
  go_ret2
  exact ⟨rfl, btr hX hz⟩
set_option maxRecDepth 100000 in
set_option maxHeartbeats 1000000 in
theorem Same_len (v u : Value) (m k : List (List Int)) (w : World) (h : Rows w v m) (hu : Rows w u k) (hv : validM m = true) (hk : validM k = true) (hlen : ¬ m.length = k.length) :
    Calls Tryd.prog 11 #[.agg #[v], .agg #[u]] w fun e w' => e = .returned (.tuple #[.bool false, .int .i64 0]) ∧ Below w.heap.size w w' := by
  obtain ⟨A, cap, rfl, -, -⟩ := id h
  obtain ⟨Ak, capk, rfl, -, -⟩ := id hu
  obtain ⟨f0, f1⟩ := two_alloc w (.cells #[.slice A m.length cap] 24) (.cells #[.slice Ak k.length capk] 24)
  have hX := bal (bal (Below.refl _ w) (.cells #[.slice A m.length cap] 24)) (.cells #[.slice Ak k.length capk] 24)
  have Hx := hid hX
  have d0 : ((m.length : Int) != (k.length : Int)) = true := by simp; omega
  clear hlen
  go_enter Tryd.func11, Tryd.ntmps11
  go_wp2_with fail
  generalize hWX : (w.alloc (.cells #[.slice A m.length cap] 24)).alloc (.cells #[.slice Ak k.length capk] 24) = X at *
  clear hX hWX
  have hX := Hx.out
  have hl1 : w.heap.size + 1 < X.heap.size := lt_of_block f1
  have hl0 : w.heap.size < X.heap.size := lt_of_block f0
  have c0 := cell_of_one f0
  have c1 := cell_of_one f1
  have hr := h.below hX
  have hs := hu.below hX
  clear f0 f1
  refine (Valid_bool _ m true _ hr hv).mono ?_
  rintro e w1 ⟨rfl, h1⟩
  have e0 := (h1.cell (p := ⟨w.heap.size, 0, none⟩) hl0).trans c0
  have e1 := (h1.cell (p := ⟨w.heap.size + 1, 0, none⟩) hl1).trans c1
  go_wp2_with fail
  refine (Valid_bool _ k true _ (hs.below h1) hk).mono ?_
  rintro e Z ⟨rfl, h2⟩
  have hz := btr h1 h2
  have b0 := (hz.cell (p := ⟨w.heap.size, 0, none⟩) hl0).trans c0
  have b1 := (hz.cell (p := ⟨w.heap.size + 1, 0, none⟩) hl1).trans c1
  go_wp2
  go_ret2
  exact ⟨rfl, btr hX hz⟩
/-- Same of any two automata. -/
def sameOk (m k : List (List Int)) : Bool := validM m && (validM k && sameM m k)
def sameE (m k : List (List Int)) : Int := if (validM m && validM k) = true then 0 else 1
theorem Same_any (v u : Value) (m k : List (List Int)) (w : World) (h : Rows w v m) (hu : Rows w u k) :
    Calls Tryd.prog 11 #[.agg #[v], .agg #[u]] w fun e w' => e = .returned (.tuple #[.bool (sameOk m k), .int .i64 (sameE m k)]) ∧ Below w.heap.size w w' := by
  unfold sameOk sameE
  cases hv : validM m with
  | false => exact Same_form1 v u m k w h hu hv
  | true =>
    cases hk : validM k with
    | false => exact Same_form2 v u m k w h hu hv hk
    | true =>
      by_cases hl : m.length = k.length
      · exact Same_ok v u m k w h hu hv hk hl
      · have : sameM m k = false := by rw [sameM, decide_eq_false hl]; simp
        rw [this]
        exact Same_len v u m k w h hu hv hk hl
end Go.Proofs.YtlpfglkopnmlnaaDoor
namespace Go.Proofs.YtlpfglkopnmlnaaDoor
def pivI (l : List Int) : Nat → Nat
  | 0 => 0
  | i + 1 => if l.getD (i + 1) 0 ≤ l.getD i 0 then pivI l i else i + 1
def pivot (l : List Int) : Nat := pivI l (l.length - 1)
def findJ (r : List Int) (a : Int) : Nat → Nat → Nat
  | 0, j => j
  | f + 1, j => if r.getD j 0 ≤ a then findJ r a f (j + 1) else j
def turned (l : List Int) (i : Nat) : List Int := l.take i ++ (l.drop i).reverse
def swapL (r : List Int) (p j : Nat) : List Int := (r.set p (r.getD j 0)).set j (r.getD p 0)
def nextP (l : List Int) : List Int :=
  if pivot l = 0 then turned l 0 else swapL (turned l (pivot l)) (pivot l - 1) (findJ (turned l (pivot l)) ((turned l (pivot l)).getD (pivot l - 1) 0) l.length (pivot l))
theorem pivI_le (l : List Int) : ∀ i, pivI l i ≤ i
  | 0 => Nat.le_refl _
  | i + 1 => by
    unfold pivI
    split
    · exact Nat.le_succ_of_le (pivI_le l i)
    · exact Nat.le_refl _
theorem pivI_up (l : List Int) : ∀ i, pivI l i ≠ 0 → l.getD (pivI l i - 1) 0 < l.getD (pivI l i) 0
  | 0, h => absurd rfl h
  | i + 1, h => by
    unfold pivI at h ⊢
    split
    · rename_i h2
      rw [if_pos h2] at h
      exact pivI_up l i h
    · rename_i h2
      rw [if_neg h2] at h
      simp only [Nat.add_sub_cancel]
      omega
theorem turned_len (l : List Int) {i : Nat} (h : i ≤ l.length) : (turned l i).length = l.length := by
  unfold turned
  simp
  omega
theorem turned_perm (l : List Int) (i : Nat) : (turned l i).Perm l := by
  unfold turned
  have h := (List.reverse_perm (l.drop i)).append_left (l.take i)
  rwa [List.take_append_drop] at h
theorem findJ_spec (r : List Int) (a : Int) : ∀ f j, (∃ k, j ≤ k ∧ k < j + f ∧ a < r.getD k 0) → j ≤ findJ r a f j ∧ findJ r a f j < j + f ∧ a < r.getD (findJ r a f j) 0 ∧ ∀ k, j ≤ k → k < findJ r a f j → r.getD k 0 ≤ a
  | 0, j, ⟨k, h1, h2, _⟩ => by omega
  | f + 1, j, ⟨k, h1, h2, h3⟩ => by
    unfold findJ
    split
    · rename_i h
      have hk : k ≠ j := fun e => by subst e; omega
      obtain ⟨a1, a2, a3, a4⟩ := findJ_spec r a f (j + 1) ⟨k, by omega, by omega, h3⟩
      refine ⟨by omega, by omega, a3, fun k' h4 h5 => ?_⟩
      by_cases e : k' = j
      · subst e; exact h
      · exact a4 k' (by omega) h5
    · rename_i h
      exact ⟨Nat.le_refl _, by omega, by omega, fun k' h4 h5 => by omega⟩
theorem swapL_perm {r : List Int} {p j : Nat} (hp : p < r.length) (hj : j < r.length) : (swapL r p j).Perm r := by
  unfold swapL
  simp only [List.getD_eq_getElem?_getD, List.getElem?_eq_getElem hp, List.getElem?_eq_getElem hj, Option.getD_some]
  exact List.set_set_perm hp hj
/-- Where the swap takes place. -/
theorem next_at {l : List Int} (h : pivot l ≠ 0) : pivot l - 1 < (turned l (pivot l)).length ∧ pivot l < l.length ∧ findJ (turned l (pivot l)) ((turned l (pivot l)).getD (pivot l - 1) 0) l.length (pivot l) < (turned l (pivot l)).length ∧ pivot l ≤ findJ (turned l (pivot l)) ((turned l (pivot l)).getD (pivot l - 1) 0) l.length (pivot l) ∧
    (turned l (pivot l)).getD (pivot l - 1) 0 < (turned l (pivot l)).getD (findJ (turned l (pivot l)) ((turned l (pivot l)).getD (pivot l - 1) 0) l.length (pivot l)) 0 := by
  have h1 := pivI_le l (l.length - 1)
  have h2 := pivI_up l (l.length - 1) h
  have hpl : pivot l < l.length := by
    unfold pivot at h ⊢
    have : l.length ≠ 0 := fun e => by rw [e] at h; exact h rfl
    omega
  have hl := turned_len l (i := pivot l) (by omega)
  have e1 : (turned l (pivot l)).getD (pivot l - 1) 0 = l.getD (pivot l - 1) 0 := by
    unfold turned
    simp only [List.getD_eq_getElem?_getD]
    rw [List.getElem?_append_left (by simp; omega), List.getElem?_take, if_pos (by omega)]
  have e2 : (turned l (pivot l)).getD (l.length - 1) 0 = l.getD (pivot l) 0 := by
    unfold turned
    simp only [List.getD_eq_getElem?_getD]
    rw [List.getElem?_append_right (by simp; omega), List.getElem?_reverse (by simp; omega)]
    simp only [List.length_take, List.length_drop, List.getElem?_drop]
    congr 2
    omega
  have h2' : l.getD (pivot l - 1) 0 < l.getD (pivot l) 0 := h2
  obtain ⟨a1, a2, a3, -⟩ := findJ_spec (turned l (pivot l)) ((turned l (pivot l)).getD (pivot l - 1) 0) l.length (pivot l) ⟨l.length - 1, by omega, by omega, by rw [e1, e2]; exact h2'⟩
  refine ⟨by omega, hpl, ?_, a1, a3⟩
  rcases Nat.lt_or_ge (findJ (turned l (pivot l)) ((turned l (pivot l)).getD (pivot l - 1) 0) l.length (pivot l)) (turned l (pivot l)).length with h3 | h3
  · exact h3
  · exfalso
    obtain ⟨-, -, -, a4⟩ := findJ_spec (turned l (pivot l)) ((turned l (pivot l)).getD (pivot l - 1) 0) l.length (pivot l) ⟨l.length - 1, by omega, by omega, by rw [e1, e2]; exact h2'⟩
    have := a4 (l.length - 1) (by omega) (by omega)
    rw [e1, e2] at this
    omega
theorem nextP_perm (l : List Int) : (nextP l).Perm l := by
  unfold nextP
  split
  · exact turned_perm l 0
  · rename_i h
    obtain ⟨h1, -, h2, -⟩ := next_at h
    exact (swapL_perm h1 h2).trans (turned_perm l _)
/-- Names that keep the order. -/
def Keeps (f : Int → Int) (l : List Int) : Prop := ∀ x ∈ l, ∀ y ∈ l, f x ≤ f y ↔ x ≤ y
theorem getD_in {l : List Int} {i : Nat} (h : i < l.length) : l.getD i 0 ∈ l := by
  simp [List.getD_eq_getElem?_getD, List.getElem?_eq_getElem h]
theorem getD_map0 {f : Int → Int} {l : List Int} {i : Nat} (h : i < l.length) : (l.map f).getD i 0 = f (l.getD i 0) := by
  simp [List.getD_eq_getElem?_getD, List.getElem?_eq_getElem h]
theorem pivI_map {f : Int → Int} {l : List Int} (hf : Keeps f l) : ∀ i, i < l.length → pivI (l.map f) i = pivI l i
  | 0, _ => rfl
  | i + 1, h => by
    unfold pivI
    rw [getD_map0 h, getD_map0 (by omega), pivI_map hf i (by omega)]
    have := hf _ (getD_in h) _ (getD_in (show i < l.length by omega))
    by_cases e : l.getD (i + 1) 0 ≤ l.getD i 0
    · rw [if_pos e, if_pos (this.2 e)]
    · rw [if_neg e, if_neg (fun h2 => e (this.1 h2))]
theorem turned_map (f : Int → Int) (l : List Int) (i : Nat) : turned (l.map f) i = (turned l i).map f := by
  unfold turned
  rw [List.map_append, List.map_take, List.map_reverse, List.map_drop]
theorem findJ_map {f : Int → Int} {r : List Int} (hf : Keeps f r) {a : Int} (ha : a ∈ r) : ∀ n j, (∃ k, j ≤ k ∧ k < r.length ∧ a < r.getD k 0) → findJ (r.map f) (f a) n j = findJ r a n j
  | 0, _, _ => rfl
  | n + 1, j, ⟨k, h1, h2, h3⟩ => by
    unfold findJ
    rw [getD_map0 (by omega)]
    have := hf _ (getD_in (show j < r.length by omega)) _ ha
    by_cases e : r.getD j 0 ≤ a
    · rw [if_pos e, if_pos (this.2 e)]
      have hk : k ≠ j := fun e2 => by subst e2; omega
      exact findJ_map hf ha n (j + 1) ⟨k, by omega, h2, h3⟩
    · rw [if_neg e, if_neg (fun h => e (this.1 h))]
theorem swapL_map {f : Int → Int} {r : List Int} {p j : Nat} (hp : p < r.length) (hj : j < r.length) : swapL (r.map f) p j = (swapL r p j).map f := by
  unfold swapL
  rw [getD_map0 hp, getD_map0 hj, List.map_set, List.map_set]
theorem Keeps.perm {f : Int → Int} {l k : List Int} (h : Keeps f l) (hp : k.Perm l) : Keeps f k := fun x hx y hy => h x (hp.mem_iff.1 hx) y (hp.mem_iff.1 hy)
theorem nextP_map {f : Int → Int} {l : List Int} (hf : Keeps f l) : nextP (l.map f) = (nextP l).map f := by
  cases hl : l with
  | nil => rfl
  | cons x t =>
    rw [← hl]
    have hlen : 0 < l.length := by rw [hl]; simp
    have hp : pivot (l.map f) = pivot l := by
      unfold pivot
      rw [List.length_map]
      exact pivI_map hf _ (by omega)
    unfold nextP
    rw [hp]
    by_cases h : pivot l = 0
    · rw [if_pos h, if_pos h, turned_map]
    · rw [if_neg h, if_neg h, turned_map, List.length_map]
      obtain ⟨h1, h2, h3, h4, h5⟩ := next_at h
      have hr := hf.perm (turned_perm l (pivot l))
      rw [getD_map0 h1, findJ_map hr (getD_in h1) _ _ ⟨_, h4, h3, h5⟩, swapL_map h1 h3]
def iterP : Nat → List Int → List Int
  | 0, l => l
  | n + 1, l => iterP n (nextP l)
theorem iterP_add : ∀ (a b : Nat) (l : List Int), iterP (a + b) l = iterP b (iterP a l)
  | 0, b, l => by rw [Nat.zero_add]; rfl
  | a + 1, b, l => by rw [show a + 1 + b = (a + b) + 1 by omega]; exact iterP_add a b (nextP l)
theorem iterP_perm : ∀ (n : Nat) (l : List Int), (iterP n l).Perm l
  | 0, l => List.Perm.refl _
  | n + 1, l => (iterP_perm n (nextP l)).trans (nextP_perm l)
theorem iterP_map {f : Int → Int} : ∀ (n : Nat) {l : List Int}, Keeps f l → iterP n (l.map f) = (iterP n l).map f
  | 0, _, _ => rfl
  | n + 1, l, h => by
    show iterP n (nextP (l.map f)) = (iterP n (nextP l)).map f
    rw [nextP_map h]
    exact iterP_map n (h.perm (nextP_perm l))
def codeP (l : List Int) : Nat := l.foldl (fun n x => 8 * n + x.toNat) 1
def orbM (p : List Int) : Nat → List Int → Nat → Option Nat
  | 0, _, _ => none
  | f + 1, q, M => if q = p then some (M ||| (1 <<< codeP q)) else orbM p f (nextP q) (M ||| (1 <<< codeP q))
def sortedPats : Nat → List (List Int)
  | 0 => [[]]
  | 1 => [[0]]
  | k + 1 => (sortedPats k).flatMap fun p => [p ++ [p.getLastD 0], p ++ [p.getLastD 0 + 1]]
def maskGo : List (List Int) → Nat → Option Nat
  | [], M => some M
  | p :: L, M => match orbM p 721 (nextP p) M with
    | none => none
    | some M' => maskGo L M'
def allP : Nat → List (List Int)
  | 0 => [[]]
  | k + 1 => (allP k).flatMap fun p => (List.range 6).map fun x => ((x : Nat) : Int) :: p
def normalP (l : List Int) : Bool := l.all fun x => x == 0 || l.any fun y => y == x - 1
def okP (k : Nat) : Bool := match maskGo (sortedPats k) 0 with | none => false | some M => (allP k).all fun l => !normalP l || M.testBit (codeP l)
theorem orbM_spec (p : List Int) : ∀ f q M M', orbM p f q M = some M' → ∃ N, N < f ∧ iterP N q = p ∧ ∀ c, M'.testBit c = true → M.testBit c = true ∨ ∃ i, i ≤ N ∧ c = codeP (iterP i q)
  | 0, q, M, M', h => by simp [orbM] at h
  | f + 1, q, M, M', h => by
    have hb : ∀ c, (M ||| (1 <<< codeP q)).testBit c = true → M.testBit c = true ∨ c = codeP q := fun c hc => by
      rw [Nat.testBit_or, Bool.or_eq_true] at hc
      rcases hc with hc | hc
      · exact .inl hc
      · rw [Nat.one_shiftLeft, Nat.testBit_two_pow] at hc
        exact .inr (of_decide_eq_true hc).symm
    unfold orbM at h
    split at h
    · rename_i e
      simp only [Option.some.injEq] at h
      subst h
      refine ⟨0, by omega, e, fun c hc => ?_⟩
      rcases hb c hc with h1 | h1
      · exact .inl h1
      · exact .inr ⟨0, Nat.le_refl _, h1⟩
    · obtain ⟨N, h1, h2, h3⟩ := orbM_spec p f _ _ _ h
      refine ⟨N + 1, by omega, h2, fun c hc => ?_⟩
      rcases h3 c hc with h4 | ⟨i, h4, h5⟩
      · rcases hb c h4 with h6 | h6
        · exact .inl h6
        · exact .inr ⟨0, by omega, h6⟩
      · exact .inr ⟨i + 1, by omega, h5⟩
theorem maskGo_spec : ∀ L M M', maskGo L M = some M' → (∀ p ∈ L, ∃ N, N < 721 ∧ iterP (N + 1) p = p) ∧ ∀ c, M'.testBit c = true → M.testBit c = true ∨ ∃ p, p ∈ L ∧ ∃ i, c = codeP (iterP i p)
  | [], M, M', h => by
    simp only [maskGo, Option.some.injEq] at h
    subst h
    exact ⟨fun p hp => by simp at hp, fun c hc => .inl hc⟩
  | p :: L, M, M', h => by
    unfold maskGo at h
    cases ho : orbM p 721 (nextP p) M with
    | none => rw [ho] at h; cases h
    | some M1 =>
      rw [ho] at h
      obtain ⟨N, h1, h2, h3⟩ := orbM_spec p 721 _ _ _ ho
      obtain ⟨k1, k2⟩ := maskGo_spec L M1 M' h
      refine ⟨fun q hq => ?_, fun c hc => ?_⟩
      · rcases List.mem_cons.1 hq with rfl | hq
        · exact ⟨N, h1, h2⟩
        · exact k1 q hq
      · rcases k2 c hc with h4 | ⟨q, h4, h5⟩
        · rcases h3 c h4 with h6 | ⟨i, _, h6⟩
          · exact .inl h6
          · exact .inr ⟨p, by simp, i + 1, h6⟩
        · exact .inr ⟨q, by simp [h4], h5⟩
theorem codeP_snocgo : ∀ (l : List Int) (a : Nat), l.foldl (fun n x => 8 * n + x.toNat) a = a * 8 ^ l.length + l.foldl (fun n x => 8 * n + x.toNat) 0
  | [], a => by simp
  | x :: l, a => by
    rw [List.foldl_cons, List.foldl_cons, codeP_snocgo l (8 * a + x.toNat), codeP_snocgo l (8 * 0 + x.toNat), List.length_cons, Nat.pow_succ, Nat.mul_zero, Nat.zero_add, Nat.add_mul, Nat.mul_comm 8 a, Nat.mul_assoc, Nat.mul_comm 8, Nat.add_assoc]
def digs (l : List Int) : Prop := ∀ x ∈ l, 0 ≤ x ∧ x < 8
theorem code0_lt : ∀ l : List Int, digs l → l.foldl (fun n x => 8 * n + x.toNat) 0 < 8 ^ l.length
  | [], _ => by simp
  | x :: l, h => by
    have hx := h x (by simp)
    have ih := code0_lt l (fun y hy => h y (by simp [hy]))
    rw [List.foldl_cons, codeP_snocgo, Nat.mul_zero, Nat.zero_add, List.length_cons, Nat.pow_succ]
    have : x.toNat * 8 ^ l.length ≤ 7 * 8 ^ l.length := Nat.mul_le_mul_right _ (by omega)
    omega
theorem code0_inj : ∀ l k : List Int, l.length = k.length → digs l → digs k → l.foldl (fun n x => 8 * n + x.toNat) 0 = k.foldl (fun n x => 8 * n + x.toNat) 0 → l = k
  | [], [], _, _, _, _ => rfl
  | [], _ :: _, h, _, _, _ => by simp at h
  | _ :: _, [], h, _, _, _ => by simp at h
  | x :: l, y :: k, h, hl, hk, he => by
    have hx := hl x (by simp)
    have hy := hk y (by simp)
    have hl' : digs l := fun z hz => hl z (by simp [hz])
    have hk' : digs k := fun z hz => hk z (by simp [hz])
    have hlen : l.length = k.length := by simpa using h
    have a1 := code0_lt l hl'
    have a2 := code0_lt k hk'
    rw [List.foldl_cons, List.foldl_cons, codeP_snocgo l, codeP_snocgo k, Nat.mul_zero, Nat.zero_add, Nat.zero_add, hlen] at he
    rw [hlen] at a1
    have hxy : x.toNat = y.toNat := by
      have p := Nat.pow_pos (n := k.length) (show 0 < 8 by decide)
      have e1 := congrArg (· / 8 ^ k.length) he
      rw [Nat.add_comm (x.toNat * _), Nat.add_comm (y.toNat * _)] at e1
      have e2 : (l.foldl (fun n x => 8 * n + x.toNat) 0 + x.toNat * 8 ^ k.length) / 8 ^ k.length = (k.foldl (fun n x => 8 * n + x.toNat) 0 + y.toNat * 8 ^ k.length) / 8 ^ k.length := e1
      rw [Nat.add_mul_div_right _ _ p, Nat.add_mul_div_right _ _ p, Nat.div_eq_of_lt a1, Nat.div_eq_of_lt a2] at e2
      omega
    rw [hxy] at he
    rw [code0_inj l k hlen hl' hk' (by omega), show x = y by omega]
theorem codeP_inj {l k : List Int} (h : l.length = k.length) (hl : digs l) (hk : digs k) (he : codeP l = codeP k) : l = k := by
  unfold codeP at he
  rw [codeP_snocgo l, codeP_snocgo k, h] at he
  exact code0_inj l k h hl hk (by omega)
theorem codeP_len {l k : List Int} (hl : digs l) (hk : digs k) (he : codeP l = codeP k) : l.length = k.length := by
  have b : ∀ l : List Int, digs l → 8 ^ l.length ≤ codeP l ∧ codeP l < 8 ^ (l.length + 1) := fun l h => by
    have := code0_lt l h
    unfold codeP
    rw [codeP_snocgo, Nat.one_mul, Nat.pow_succ]
    omega
  have b1 := b l hl
  have b2 := b k hk
  rw [he] at b1
  rcases Nat.lt_trichotomy l.length k.length with h | h | h
  · have : 8 ^ (l.length + 1) ≤ 8 ^ k.length := Nat.pow_le_pow_right (by decide) h
    omega
  · exact h
  · have : 8 ^ (k.length + 1) ≤ 8 ^ l.length := Nat.pow_le_pow_right (by decide) h
    omega
/-- The rank of a value among those of a list. -/
def dedupI : List Int → List Int
  | [] => []
  | x :: l => if x ∈ l then dedupI l else x :: dedupI l
theorem mem_dedupI {x : Int} : ∀ {l : List Int}, x ∈ dedupI l ↔ x ∈ l
  | [] => Iff.rfl
  | y :: l => by
    unfold dedupI
    split
    · rename_i h
      rw [mem_dedupI, List.mem_cons]
      exact ⟨.inr, fun h2 => h2.elim (fun e => by rw [e]; exact h) id⟩
    · rw [List.mem_cons, List.mem_cons, mem_dedupI]
theorem nodup_dedupI : ∀ l : List Int, (dedupI l).Nodup
  | [] => List.nodup_nil
  | y :: l => by
    unfold dedupI
    split
    · exact nodup_dedupI l
    · rename_i h
      rw [List.nodup_cons, mem_dedupI]
      exact ⟨h, nodup_dedupI l⟩
def rkI (l : List Int) (x : Int) : Nat := ((dedupI l).filter fun y => decide (y < x)).length
theorem filter_lt_le {L : List Int} {p q : Int → Bool} (h : ∀ x ∈ L, p x = true → q x = true) : (L.filter p).length ≤ (L.filter q).length := by
  induction L with
  | nil => simp
  | cons a L ih =>
    have ih := ih (fun x hx => h x (by simp [hx]))
    have ha := h a (by simp)
    rw [List.filter_cons, List.filter_cons]
    cases hp : p a with
    | false =>
      cases hq : q a <;> simp <;> omega
    | true =>
      rw [ha hp]; simp; omega
theorem filter_lt_lt {L : List Int} {p q : Int → Bool} (h : ∀ x ∈ L, p x = true → q x = true) {a : Int} (ha : a ∈ L) (hp : p a = false) (hq : q a = true) : (L.filter p).length < (L.filter q).length := by
  induction L with
  | nil => simp at ha
  | cons b L ih =>
    have h' := fun x (hx : x ∈ L) => h x (by simp [hx])
    have hb := h b (by simp)
    rw [List.filter_cons, List.filter_cons]
    rcases List.mem_cons.1 ha with e | e
    · subst e
      rw [hp, hq]
      have := filter_lt_le h'
      simp; omega
    · have ih := ih h' e
      cases hpb : p b with
      | false => cases hqb : q b <;> simp <;> omega
      | true => rw [hb hpb]; simp; omega
theorem rkI_mono {l : List Int} {x y : Int} (hx : x ∈ l) : x < y ↔ rkI l x < rkI l y := by
  constructor
  · intro h
    refine filter_lt_lt (fun z _ hz => ?_) (mem_dedupI.2 hx) (by simp) (by simpa using h)
    have := of_decide_eq_true hz
    exact decide_eq_true (by omega)
  · intro h
    rcases Int.lt_or_le x y with e | e
    · exact e
    · exfalso
      have := filter_lt_le (L := dedupI l) (p := fun z => decide (z < y)) (q := fun z => decide (z < x)) (fun z _ hz => by
        have := of_decide_eq_true hz
        exact decide_eq_true (by omega))
      unfold rkI at h
      omega
theorem dedupI_len (l : List Int) : (dedupI l).length ≤ l.length := by
  induction l with
  | nil => simp [dedupI]
  | cons a l ih => unfold dedupI; split <;> simp <;> omega
theorem rkI_lt {l : List Int} {x : Int} (hx : x ∈ l) : rkI l x < l.length := by
  have h := filter_lt_lt (L := dedupI l) (p := fun z => decide (z < x)) (q := fun _ => true) (fun _ _ _ => rfl) (mem_dedupI.2 hx) (by simp) rfl
  have h2 : ((dedupI l).filter fun _ => true).length = (dedupI l).length := by simp
  have := dedupI_len l
  unfold rkI
  omega
theorem max_of : ∀ L : List Int, L ≠ [] → ∃ m ∈ L, ∀ x ∈ L, x ≤ m
  | [], h => absurd rfl h
  | [a], _ => ⟨a, by simp, fun x hx => by simp at hx; omega⟩
  | a :: b :: L, _ => by
    obtain ⟨m, h1, h2⟩ := max_of (b :: L) (by simp)
    by_cases e : m ≤ a
    · exact ⟨a, by simp, fun x hx => by
        rcases List.mem_cons.1 hx with rfl | hx
        · omega
        · have := h2 x hx; omega⟩
    · exact ⟨m, by simp only [List.mem_cons] at h1 ⊢; exact .inr h1, fun x hx => by
        rcases List.mem_cons.1 hx with rfl | hx
        · omega
        · exact h2 x hx⟩
theorem rkI_pred {l : List Int} {x : Int} (hx : x ∈ l) (h0 : rkI l x ≠ 0) : ∃ y ∈ l, rkI l y + 1 = rkI l x := by
  have hne : ((dedupI l).filter fun y => decide (y < x)) ≠ [] := fun e => h0 (by unfold rkI; rw [e]; rfl)
  obtain ⟨y, hy, hmax⟩ := max_of _ hne
  obtain ⟨h1, h2⟩ := List.mem_filter.1 hy
  have hyx : y < x := of_decide_eq_true h2
  refine ⟨y, mem_dedupI.1 h1, ?_⟩
  have e : (dedupI l).filter (fun z => decide (z < x)) = (dedupI l).filter (fun z => decide (z < y) || z == y) := List.filter_congr fun z hz => by
    rw [Bool.eq_iff_iff]
    simp only [decide_eq_true_eq, Bool.or_eq_true, beq_iff_eq]
    constructor
    · intro hzx
      have := hmax z (List.mem_filter.2 ⟨hz, decide_eq_true hzx⟩)
      omega
    · rintro (h | h) <;> omega
  unfold rkI
  rw [e]
  have hn := nodup_dedupI l
  generalize dedupI l = L at *
  clear e hmax hne hx h0 hy
  induction L with
  | nil => simp at h1
  | cons a L ih =>
    rw [List.nodup_cons] at hn
    rw [List.filter_cons, List.filter_cons]
    rcases List.mem_cons.1 h1 with e | e
    · subst e
      have hno : L.filter (fun z => decide (z < y) || z == y) = L.filter (fun z => decide (z < y)) := List.filter_congr fun z hz => by
        have : z ≠ y := fun e => hn.1 (e ▸ hz)
        simp [this]
      rw [hno]
      simp
    · have ih := ih e hn.2
      have hay : a ≠ y := fun e2 => hn.1 (e2 ▸ e)
      by_cases e2 : a < y
      · simp [e2]; omega
      · simp [e2, hay]; omega
/-- The pattern of a list. -/
def patI (l : List Int) : List Int := l.map fun x => (rkI l x : Int)
theorem patI_normal (l : List Int) : normalP (patI l) = true := by
  unfold normalP
  rw [List.all_eq_true]
  intro r hr
  obtain ⟨x, hx, rfl⟩ := List.mem_map.1 hr
  rw [Bool.or_eq_true]
  by_cases h : rkI l x = 0
  · left; rw [h]; rfl
  · right
    obtain ⟨y, hy, e⟩ := rkI_pred hx h
    rw [List.any_eq_true]
    exact ⟨_, List.mem_map.2 ⟨y, hy, rfl⟩, beq_iff_eq.2 (by omega)⟩
def unI (l : List Int) (r : Int) : Int := (l.find? fun x => (rkI l x : Int) == r).getD 0
theorem unI_rk {l : List Int} {x : Int} (hx : x ∈ l) : unI l (rkI l x) = x := by
  unfold unI
  cases h : l.find? (fun y => (rkI l y : Int) == (rkI l x : Int)) with
  | none =>
    have := List.find?_eq_none.1 h x hx
    simp at this
  | some y =>
    have h1 := List.find?_some h
    have h2 := List.mem_of_find?_eq_some h
    have e : rkI l y = rkI l x := by have := beq_iff_eq.1 h1; omega
    show y = x
    have a := (rkI_mono (y := x) h2)
    have b := (rkI_mono (y := y) hx)
    omega
theorem patI_un (l : List Int) : (patI l).map (unI l) = l := by
  unfold patI
  rw [List.map_map]
  refine (List.map_congr_left fun x hx => ?_).trans (List.map_id l)
  exact unI_rk hx
theorem unI_keeps (l : List Int) : Keeps (unI l) (patI l) := by
  intro a ha b hb
  obtain ⟨x, hx, rfl⟩ := List.mem_map.1 ha
  obtain ⟨y, hy, rfl⟩ := List.mem_map.1 hb
  rw [unI_rk hx, unI_rk hy]
  have h1 := rkI_mono (y := x) hy
  omega
theorem mem_allP : ∀ (k : Nat) (l : List Int), l.length = k → (∀ x ∈ l, 0 ≤ x ∧ x < 6) → l ∈ allP k
  | 0, l, h, _ => by rw [List.length_eq_zero_iff.1 h]; simp [allP]
  | k + 1, [], h, _ => by simp at h
  | k + 1, x :: l, h, hx => by
    have ih := mem_allP k l (by simpa using h) (fun y hy => hx y (by simp [hy]))
    have h0 := hx x (by simp)
    unfold allP
    rw [List.mem_flatMap]
    exact ⟨l, ih, List.mem_map.2 ⟨x.toNat, List.mem_range.2 (by omega), by rw [Int.toNat_of_nonneg h0.1]⟩⟩
theorem normalP_perm {l k : List Int} (h : l.Perm k) (hl : normalP l = true) : normalP k = true := by
  unfold normalP at hl ⊢
  rw [List.all_eq_true] at hl ⊢
  intro x hx
  have := hl x (h.mem_iff.2 hx)
  rw [Bool.or_eq_true] at this ⊢
  refine this.imp id fun h2 => ?_
  rw [List.any_eq_true] at h2 ⊢
  obtain ⟨y, hy, e⟩ := h2
  exact ⟨y, h.mem_iff.1 hy, e⟩
def sortedOk (k : Nat) : Bool := (sortedPats k).all fun s => decide (s.Pairwise (· ≤ ·)) && s.all fun x => decide (0 ≤ x) && decide (x < 6)
theorem sortedOk_all : (sortedOk 1 && (sortedOk 2 && (sortedOk 3 && (sortedOk 4 && (sortedOk 5 && sortedOk 6))))) = true := by decide +kernel
theorem sorted_ok {k : Nat} (h1 : 1 ≤ k) (h6 : k ≤ 6) : sortedOk k = true := by
  have h := sortedOk_all
  simp only [Bool.and_eq_true] at h
  rcases (show k = 1 ∨ k = 2 ∨ k = 3 ∨ k = 4 ∨ k = 5 ∨ k = 6 by omega) with rfl | rfl | rfl | rfl | rfl | rfl
  · exact h.1
  · exact h.2.1
  · exact h.2.2.1
  · exact h.2.2.2.1
  · exact h.2.2.2.2.1
  · exact h.2.2.2.2.2
/-- Every pattern is in the orbit of a sorted one, which comes back. -/
theorem pat_orbit {k : Nat} (h1 : 1 ≤ k) (h6 : k ≤ 6) (hok : okP k = true) {p : List Int} (hl : p.length = k) (hd : ∀ x ∈ p, 0 ≤ x ∧ x < 6) (hn : normalP p = true) :
    ∃ s i N, s.Pairwise (· ≤ ·) ∧ N < 721 ∧ iterP (N + 1) s = s ∧ iterP i s = p := by
  unfold okP at hok
  cases hm : maskGo (sortedPats k) 0 with
  | none => rw [hm] at hok; cases hok
  | some M =>
    rw [hm] at hok
    have h2 := List.all_eq_true.1 hok p (mem_allP k p hl hd)
    rw [hn] at h2
    have h3 : M.testBit (codeP p) = true := by simpa using h2
    obtain ⟨k1, k2⟩ := maskGo_spec _ _ _ hm
    rcases k2 _ h3 with h4 | ⟨s, hs, i, h4⟩
    · simp at h4
    · have hso := List.all_eq_true.1 (sorted_ok h1 h6) s hs
      rw [Bool.and_eq_true] at hso
      have hsd : digs s := fun x hx => by
        have := List.all_eq_true.1 hso.2 x hx
        simp only [Bool.and_eq_true, decide_eq_true_eq] at this
        omega
      have hid : digs (iterP i s) := fun x hx => hsd x ((iterP_perm i s).mem_iff.1 hx)
      have hpd : digs p := fun x hx => by have := hd x hx; omega
      obtain ⟨N, hN, hr⟩ := k1 s hs
      exact ⟨s, i, N, of_decide_eq_true hso.1, hN, hr, (codeP_inj (codeP_len hpd hid h4) hpd hid h4).symm⟩
theorem iterP_comm (a b : Nat) (l : List Int) : iterP a (iterP b l) = iterP b (iterP a l) := by rw [← iterP_add, ← iterP_add, Nat.add_comm]
theorem iterP_mul {n : Nat} {s : List Int} (h : iterP n s = s) : ∀ i, iterP (i * n) s = s
  | 0 => by rw [Nat.zero_mul]; rfl
  | i + 1 => by rw [Nat.succ_mul, iterP_add, iterP_mul h i, h]
/-- All orders of a row come one after the other, and the row comes back. -/
theorem orbit_all {l : List Int} (h1 : 1 ≤ l.length) (h6 : l.length ≤ 6) (hok : okP l.length = true) : (∃ N, N < 721 ∧ iterP (N + 1) l = l) ∧ ∀ q : List Int, q.Perm l → ∃ i, iterP i l = q := by
  have hpl : (patI l).length = l.length := by simp [patI]
  have hpd : ∀ x ∈ patI l, 0 ≤ x ∧ x < 6 := fun r hr => by
    obtain ⟨x, hx, rfl⟩ := List.mem_map.1 hr
    have := rkI_lt hx
    omega
  obtain ⟨s, i, N, hs, hN, hr, hi⟩ := pat_orbit h1 h6 hok hpl hpd (patI_normal l)
  have hback : iterP (N + 1) (patI l) = patI l := by rw [← hi, iterP_comm, hr]
  have hl : ∀ j, (iterP j (patI l)).map (unI l) = iterP j l := fun j => by rw [← iterP_map j (unI_keeps l), patI_un]
  refine ⟨⟨N, hN, by rw [← hl, hback, patI_un]⟩, fun q hq => ?_⟩
  have hqp : (q.map fun x => (rkI l x : Int)).Perm (patI l) := hq.map _
  obtain ⟨s', i', N', hs', -, -, hi'⟩ := pat_orbit h1 h6 hok (p := q.map fun x => (rkI l x : Int)) (by rw [hqp.length_eq, hpl]) (fun x hx => hpd x (hqp.mem_iff.1 hx)) (normalP_perm hqp.symm (patI_normal l))
  have b1 : s'.Perm (q.map fun x => (rkI l x : Int)) := by rw [← hi']; exact (iterP_perm i' s').symm
  have b2 : (patI l).Perm s := by rw [← hi]; exact iterP_perm i s
  have e1 : s'.Perm s := b1.trans (hqp.trans b2)
  have e2 : s' = s := List.Perm.eq_of_pairwise (le := fun a b => decide (a ≤ b)) (fun a b _ _ h1 h2 => by have := of_decide_eq_true h1; have := of_decide_eq_true h2; omega) (hs'.imp fun h => decide_eq_true h) (hs.imp fun h => decide_eq_true h) e1
  subst e2
  have e3 : iterP (i * N) (patI l) = s' := by rw [← hi, ← iterP_add, show i + i * N = i * (N + 1) by rw [Nat.mul_succ, Nat.add_comm], iterP_mul hr]
  refine ⟨i * N + i', ?_⟩
  rw [← hl, iterP_add, e3, hi', List.map_map]
  refine (List.map_congr_left fun x hx => ?_).trans (List.map_id q)
  exact unI_rk (hq.mem_iff.1 hx)
end Go.Proofs.YtlpfglkopnmlnaaDoor
namespace Go.Proofs.YtlpfglkopnmlnaaDoor
open Go.RowKit Go.Shelf Go.Sort
theorem turned_before {xs : List Int} {i j : Nat} (hi : i ≤ xs.length) (hj : j < i) : (turned xs i)[j]? = xs[j]? := by
  rw [turned, List.getElem?_append_left (by simp; omega), List.getElem?_take, if_pos hj]
theorem turned_behind {xs : List Int} {i j : Nat} (hi : i ≤ xs.length) (hj : i ≤ j) : (turned xs i)[j]? = (xs.drop i).reverse[j - i]? := by
  rw [turned, List.getElem?_append_right (by simp; omega)]
  have : (xs.take i).length = i := by simp; omega
  rw [this]
theorem putCells_at {off j : Nat} {d : Array Int} {cur : Array Value} (h : j < cur.size) : (putCells (Value.int .i64) off d cur)[j]? = some (if off ≤ j ∧ j < off + d.size then Value.int .i64 d[j - off]! else cur[j]) := by
  simp [putCells, h]
theorem take_putCells_turned (cur : Array Value) (xs : List Int) (i : Nat) (hi : i ≤ xs.length) (hc : xs.length ≤ cur.size) (ht : cur.toList.take xs.length = xs.map (Value.int .i64)) :
    (putCells (Value.int .i64) i (xs.drop i).reverse.toArray cur).toList.take xs.length = (turned xs i).map (Value.int .i64) := by
  apply List.ext_getElem?
  intro j
  by_cases hj : j < xs.length
  · have hjc : j < cur.size := by omega
    have h0 : cur[j]? = xs[j]?.map (Value.int .i64) := by
      have := congrArg (fun l => l[j]?) ht
      simp only [List.getElem?_take_of_lt hj, Array.getElem?_toList, List.getElem?_map] at this
      exact this
    have hs : (xs.drop i).reverse.toArray.size = xs.length - i := by simp
    rw [List.getElem?_take_of_lt hj, Array.getElem?_toList, putCells_at hjc, hs, List.getElem?_map]
    by_cases hji : j < i
    · rw [if_neg (by omega), turned_before hi hji, ← h0, Array.getElem?_eq_getElem hjc]
    · have hl : j - i < (xs.drop i).reverse.length := by simp; omega
      rw [if_pos (by omega), turned_behind hi (by omega), List.getElem?_eq_getElem hl, getElem!_pos _ _ (by rw [hs]; omega)]
      rfl
  · rw [List.getElem?_take_eq_none (by omega), List.getElem?_eq_none (by rw [List.length_map, turned_len xs hi]; omega)]
theorem below_putAt {B : Nat} {w : World} {g q i : Nat} {d : Array Int} (hg : B ≤ g) : Below B w (putRow (Value.int .i64) (Sort.ahead w q) g i d) :=
  ⟨rfl, rfl, rfl, by simp [putRow, mapBlock, Sort.ahead], fun k hk => by
    simp [putRow, mapBlock, Sort.ahead, Array.getElem?_modify, show g ≠ k by omega]⟩
/-- slices.Reverse of the end of a row of the call's own. -/
theorem reverse_end (B g n c i cc : Nat) (xs : List Int) (w : World) (h : w.ownsRow B 3 1 (.slice (some ⟨g, 0, none⟩) n c) n (xs.map (Value.int .i64))) (hi : i < n) (hn : n ≤ 100) :
    Calls Tryd.prog 121 #[.slice (some ⟨g, i, none⟩) (n - i) cc] w fun e w' => e = .returned (.tuple #[]) ∧ w'.ownsRow B 3 1 (.slice (some ⟨g, 0, none⟩) n c) n ((turned xs i).map (Value.int .i64)) ∧ Below B w w' := by
  have hl : xs.length = n := by simpa using h.1
  have hH : Holds (Value.int .i64) w g i (xs.drop i).toArray := by
    intro j hj
    have hj' : j < n - i := by simpa [hl] using hj
    refine ⟨?_, h.frozenAt (i + j)⟩
    rw [h.cellAt (i + j) (by omega)]
    simp [List.getElem?_map, List.getElem?_eq_getElem (show i + j < xs.length by omega), getElem!_pos (xs.drop i).toArray j hj]
  have hd : (xs.drop i).length = n - i := by simp [hl]
  have hc := Tryd.slices_Reverse_int g i cc (xs.drop i) w hH (by omega)
  rw [hd] at hc
  refine hc.mono ?_
  rintro e w' ⟨rfl, q, rfl⟩
  refine ⟨rfl, ?_, ?_⟩
  · rcases h.2 with ⟨h0, _⟩ | ⟨g2, cap2, cur, hv, hb2, hcur, hn2, hcap2, hsz2, htk⟩
    · cases h0
    · cases hv
      refine ⟨by simp [turned_len xs (show i ≤ xs.length by omega), hl], .inr ⟨g, c, putCells (Value.int .i64) i (xs.drop i).reverse.toArray cur, rfl, hb2, ?_, hn2, hcap2, ?_, ?_⟩⟩
      · simp [putRow, mapBlock, Sort.ahead, Array.getElem?_modify, hcur, onCells]
      · simp [putCells, hsz2]
      · rw [Nat.mul_one, ← hl]
        exact take_putCells_turned cur xs i (by omega) (by omega) (by rw [Nat.mul_one, ← hl] at htk; exact htk)
  · exact below_putAt (ownsRow_blk h g rfl).1
end Go.Proofs.YtlpfglkopnmlnaaDoor
namespace Go.Proofs.YtlpfglkopnmlnaaDoor
open Go.RowKit Go.Shelf
theorem own_cap {w : World} {B g n c : Nat} {xs : List Value} (h : w.ownsRow B 3 1 (.slice (some ⟨g, 0, none⟩) n c) n xs) : n ≤ c := by
  rcases h.2 with ⟨h', _⟩ | ⟨g', cap', cur, h', _, _, hnc, _⟩
  · cases h'
  · cases h'; exact hnc
theorem own_at {w : World} {B g n c : Nat} {xs : List Int} (h : w.ownsRow B 3 1 (.slice (some ⟨g, 0, none⟩) n c) n (xs.map fun x => .int .i64 x)) {j : Nat} (hj : j < n) : w.cell? ⟨g, j, none⟩ = some (.int .i64 (xs.getD j 0)) := by
  obtain ⟨hl, hc⟩ := own_cells h
  have := hc j (by omega)
  rwa [Nat.zero_add] at this
set_option maxRecDepth 100000 in
set_option maxHeartbeats 2000000 in
theorem following_any (v : Value) (l : List Int) (w : World) (h : Ints w v l) (hp : 0 < l.length) (hl : l.length ≤ 100) :
    Calls Tryd.prog 103 #[v] w fun e w' => ∃ g c, e = .returned (.slice (some ⟨g, 0, none⟩) l.length c) ∧ w'.ownsRow w.heap.size 3 1 (.slice (some ⟨g, 0, none⟩) l.length c) l.length ((nextP l).map fun x => .int .i64 x) ∧ Below w.heap.size w w' := by
  go_enter Tryd.func103, Tryd.ntmps103
  go_wp2_with fail
  refine (clone_any v l w h hp hl).mono ?_
  rintro e w1 ⟨g, c, rfl, ho, hb⟩
  have hgz := ownsRow_blk ho g rfl
  obtain ⟨n, hn⟩ : ∃ n, l.length = n + 1 := ⟨l.length - 1, by omega⟩
  have Hn := hid hn
  have Ho := hid ho
  have hlc := own_cap ho
  have hpv : pivI l n = pivot l := by unfold pivot; rw [hn]; rfl
  have Hpv := hid hpv
  clear ho hn hpv
  have hn99 : n ≤ 99 := by have := Hn.out; omega
  have hd1 : IntKind.i64.wrap ((l.length : Int) - 1) = (n : Int) := by
    rw [show (l.length : Int) - 1 = (n : Int) by have := Hn.out; omega]
    exact IntWalk.i64_in _ (by omega)
  go_wp2_with fail
  go_loopw [5] (fun r wr => ∃ k : Nat, r = .int .i64 k ∧ k ≤ n ∧ pivI l k = pivot l ∧ Below w1.heap.size w1 wr) (fun r _ => (intOf r).toNat)
  case atStart => exact ⟨n, by go_num, Nat.le_refl _, Hpv.out, Below.refl _ _⟩
  case round =>
    obtain ⟨k, rfl, hk, hpk, hB⟩ := hrel
    have hor := owns_kept Ho.out (fun b _ hb => hB.block b hb)
    cases k with
    | zero =>
      have hp0 : pivot l = 0 := hpk.symm
      have hnx : nextP l = turned l 0 := by unfold nextP; rw [if_pos hp0]
      have hrv := reverse_end w.heap.size g l.length c 0 c l
      have Hrv := hid (fun (W : World) (hW : Below w1.heap.size w1 W) => reverse_end w.heap.size g l.length c 0 c l W (owns_kept Ho.out (fun b _ hb => hW.block b hb)) (by omega) hl)
      have Hnx := hid hnx
      clear hor hrv hnx hp0 hpk
      go_wp2_with fail
      go_quiet (fail)
      have hB2 := btr hB (below_dr wr nq)
      generalize wr.drewN nq = W2 at *
      go_wp2_with fail
      refine (Hrv.out _ hB2).mono ?_
      rintro e W3 ⟨rfl, ho3, hb3⟩
      have Ho3 := hid ho3
      clear ho3
      go_wp2
      go_ret
      exact ⟨g, c, rfl, by rw [Hnx.out]; exact Ho3.out, (hb.trans (hB2.mono (by have := hb.size; omega))).trans hb3⟩
    | succ k =>
      have c1 := own_at hor (j := k) (by have := Hn.out; omega)
      have c2 := own_at hor (j := k + 1) (by have := Hn.out; omega)
      have hk1 : (k : Int) + 1 < l.length := by have := Hn.out; omega
      have hk2 : (k : Int) < l.length := by have := Hn.out; omega
      have hpu : pivI l (k + 1) = if l.getD (k + 1) 0 ≤ l.getD k 0 then pivI l k else k + 1 := rfl
      by_cases hle : l.getD (k + 1) 0 ≤ l.getD k 0
      · have hd : decide (l.getD (k + 1) 0 ≤ l.getD k 0) = true := decide_eq_true hle
        rw [if_pos hle] at hpu
        have Hpk := hid (hpu.symm.trans hpk)
        clear hor hpu hpk
        generalize l.getD (k + 1) 0 = b0 at *
        generalize l.getD k 0 = a0 at *
        go_wp2_with fail
        go_quiet (fail)
        go_wp2
        go_roundw
        case rel => exact ⟨k, by go_num, by omega, Hpk.out, btr hB (below_dr wr nq)⟩
        case measure => simp [intOf]
      · have hd : decide (l.getD (k + 1) 0 ≤ l.getD k 0) = false := decide_eq_false hle
        have hkc : k + 1 < c := by omega
        have hkc2 : (k : Int) + 1 < c := by omega
        rw [if_neg hle] at hpu
        have hpv : pivot l = k + 1 := hpk.symm.trans hpu
        have hne : pivot l ≠ 0 := by omega
        obtain ⟨t1, t2, t3, t4, t5⟩ := next_at hne
        have hnx : nextP l = swapL (turned l (pivot l)) (pivot l - 1) (findJ (turned l (pivot l)) ((turned l (pivot l)).getD (pivot l - 1) 0) l.length (pivot l)) := by unfold nextP; rw [if_neg hne]
        have hfj := (findJ_spec (turned l (pivot l)) ((turned l (pivot l)).getD (pivot l - 1) 0) l.length (pivot l) ⟨_, t4, by have := turned_len l (i := pivot l) (by omega); omega, t5⟩).2.2.2
        have htl := turned_len l (i := pivot l) (by omega)
        rw [hpv] at t1 t2 t3 t4 t5 hnx hfj htl
        rw [Nat.add_sub_cancel] at t1 t3 t4 t5 hnx hfj
        have Hrv := hid (fun (W : World) (cc : Nat) (hW : Below w1.heap.size w1 W) => reverse_end w.heap.size g l.length c (k + 1) cc l W (owns_kept Ho.out (fun b _ hb => hW.block b hb)) (by omega) hl)
        generalize findJ (turned l (k + 1)) ((turned l (k + 1)).getD k 0) l.length (k + 1) = J at *
        generalize turned l (k + 1) = xs at *
        have Hnx := hid hnx
        have Hfj := hid hfj
        clear hor hpu hpk hnx hfj hne hpv
        generalize l.getD (k + 1) 0 = b0 at *
        generalize l.getD k 0 = a0 at *
        go_wp2_with fail
        go_quiet (fail)
        have hB2 := btr hB (below_dr wr nq)
        generalize wr.drewN nq = W2 at *
        go_wp2_with fail
        refine (Hrv.out _ _ hB2).mono ?_
        rintro e W3 ⟨rfl, ho3, hb3⟩
        have Ho3 := hid ho3
        clear ho3 Hrv
        go_wp2_with fail
        go_loopw [6] (fun r wr => ∃ j : Nat, r = .int .i64 j ∧ k + 1 ≤ j ∧ j ≤ J ∧ Below W3.heap.size W3 wr) (fun r _ => J - (intOf r).toNat)
        case atStart => exact ⟨k + 1, by go_num, Nat.le_refl _, t4, Below.refl _ _⟩
        case round =>
          clear hB
          obtain ⟨j, rfl, hj1, hj2, hB⟩ := hrel
          have hor := owns_kept Ho3.out (fun b _ hb => hB.block b hb)
          have c1 := own_at hor (j := j) (by omega)
          have c2 := own_at hor (j := k) (by omega)
          have c3 := own_at hor (j := J) (by omega)
          have hjx : (j : Int) < l.length := by omega
          by_cases hjJ : j < J
          · have hle2 := Hfj.out j hj1 hjJ
            generalize xs.getD j 0 = b1 at *
            generalize xs.getD k 0 = a1 at *
            have hd3 : decide (b1 ≤ a1) = true := decide_eq_true hle2
            have Hor := hid hor
            clear hor
            go_wp2_with fail
            go_quiet (fail)
            go_wp2
            go_roundw
            case rel => exact ⟨j + 1, by go_num, by omega, by omega, btr hB (below_dr wr nq)⟩
            case measure => simp [intOf]; omega
          · obtain rfl : j = J := by omega
            clear c3
            have Hor := hid hor
            obtain ⟨b1, hb1⟩ : ∃ b1, xs.getD j 0 = b1 := ⟨_, rfl⟩
            obtain ⟨a1, ha1⟩ : ∃ a1, xs.getD k 0 = a1 := ⟨_, rfl⟩
            have hsw : nextP l = (xs.set k b1).set j a1 := by rw [Hnx.out, ← hb1, ← ha1]; rfl
            have Hsw := hid hsw
            rw [hb1] at c1 t5
            rw [ha1] at c2 t5
            have hd3 : decide (b1 ≤ a1) = false := decide_eq_false (by omega)
            have hjk : j ≠ k := by omega
            have Hb1 := hid hb1
            have Ha1 := hid ha1
            clear hor hsw hb1 ha1 Hnx Hfj
            go_wp2_with fail
            go_quiet (fail)
            have hB4 := btr hB (below_dr wr nq)
            have Hor4 := hid (owns_kept Ho3.out (fun b _ hb => hB4.block b hb))
            generalize wr.drewN nq = W4 at *
            have d1 := own_at Hor4.out (j := j) (by omega)
            have d2 := own_at Hor4.out (j := k) (by omega)
            have f1 := World.ownsRow.frozenAt Hor4.out k
            have f2 := World.ownsRow.frozenAt Hor4.out j
            rw [Hb1.out] at d1
            rw [Ha1.out] at d2
            clear c1 c2 hd3
            go_wp2_with fail
            go_region
            have s1 := (World.ownsRow.stored (World.ownsRow.stored Hor4.out k (.int .i64 b1)).1 j (.int .i64 a1)).1
            have hs : ((xs.map fun x => Value.int .i64 x).set k (.int .i64 b1)).set j (.int .i64 a1) = ((xs.set k b1).set j a1).map fun x => .int .i64 x := by rw [List.map_set, List.map_set]
            rw [hs, ← Hsw.out] at s1
            have b5 : Below w.heap.size w ((W4.setCell ⟨g, k, none⟩ (.int .i64 b1)).setCell ⟨g, j, none⟩ (.int .i64 a1)) :=
              (((hb.trans (hB2.mono (by have := hb.size; omega))).trans (hb3.trans (hB4.mono (by have := hb.size; have := hB2.size; have := hb3.size; omega)))).setCell (p := ⟨g, k, none⟩) hgz.1 _).setCell (p := ⟨g, j, none⟩) hgz.1 _
            have S1 := hid s1
            clear s1 hs
            generalize (W4.setCell ⟨g, k, none⟩ (.int .i64 b1)).setCell ⟨g, j, none⟩ (.int .i64 a1) = W5 at *
            go_wp2
            go_ret
            exact ⟨g, c, rfl, ownsRow_same S1.out (fun _ _ => rfl), b5.drew⟩
end Go.Proofs.YtlpfglkopnmlnaaDoor
namespace Go.Proofs.YtlpfglkopnmlnaaDoor
theorem okP1 : okP 1 = true := by decide +kernel
theorem okP2 : okP 2 = true := by decide +kernel
theorem okP3 : okP 3 = true := by decide +kernel
theorem okP4 : okP 4 = true := by decide +kernel
theorem okP5 : okP 5 = true := by decide +kernel
/-- A slice of the patterns of six. -/
def okS (xs : List Nat) : Bool := match maskGo (sortedPats 6) 0 with | none => false | some M => (allP 5).all fun p => xs.all fun x => !normalP (((x : Nat) : Int) :: p) || M.testBit (codeP (((x : Nat) : Int) :: p))
theorem okS1 : okS [0, 1] = true := by decide +kernel
theorem okS2 : okS [2, 3] = true := by decide +kernel
theorem okS3 : okS [4, 5] = true := by decide +kernel
theorem okP6 : okP 6 = true := by
  have h1 := okS1
  have h2 := okS2
  have h3 := okS3
  revert h1 h2 h3
  unfold okS okP
  generalize maskGo (sortedPats 6) 0 = r
  cases r with
  | none => intro h; cases h
  | some M =>
    simp only [List.all_eq_true]
    intro h1 h2 h3 l hl
    rw [show allP 6 = (allP 5).flatMap fun p => (List.range 6).map fun x => ((x : Nat) : Int) :: p from rfl] at hl
    obtain ⟨p, hp, hx⟩ := List.mem_flatMap.1 hl
    obtain ⟨x, hx1, rfl⟩ := List.mem_map.1 hx
    have hx6 := List.mem_range.1 hx1
    rcases (show x = 0 ∨ x = 1 ∨ x = 2 ∨ x = 3 ∨ x = 4 ∨ x = 5 by omega) with rfl | rfl | rfl | rfl | rfl | rfl
    · exact h1 p hp 0 (by simp)
    · exact h1 p hp 1 (by simp)
    · exact h2 p hp 2 (by simp)
    · exact h2 p hp 3 (by simp)
    · exact h3 p hp 4 (by simp)
    · exact h3 p hp 5 (by simp)
theorem okP_all {k : Nat} (h1 : 1 ≤ k) (h6 : k ≤ 6) : okP k = true := by
  rcases (show k = 1 ∨ k = 2 ∨ k = 3 ∨ k = 4 ∨ k = 5 ∨ k = 6 by omega) with rfl | rfl | rfl | rfl | rfl | rfl
  · exact okP1
  · exact okP2
  · exact okP3
  · exact okP4
  · exact okP5
  · exact okP6
/-- Up to six numbers: all orders come, and the row comes back. -/
theorem orders_all {l : List Int} (h1 : 1 ≤ l.length) (h6 : l.length ≤ 6) : (∃ N, N < 721 ∧ iterP (N + 1) l = l) ∧ ∀ q : List Int, q.Perm l → ∃ i, iterP i l = q := orbit_all h1 h6 (okP_all h1 h6)
end Go.Proofs.YtlpfglkopnmlnaaDoor
namespace Go.Proofs.YtlpfglkopnmlnaaDoor
open Go.RowKit Go.Shelf
theorem MRows.slice {W : World} {base : Nat} {v : Value} {m : List (List Int)} (h : MRows W base v m) : ∃ A c, v = .slice A m.length c ∧ ∀ g, v.ownBlock = some g → base ≤ g ∧ g < W.heap.size := by
  obtain ⟨xs, ho, _⟩ := h
  rcases ho.2 with ⟨hu, h0⟩ | ⟨g, cap, cur, hu, hg, hh, _⟩
  · exact ⟨none, 0, by rw [hu, h0], fun g' h => by rw [hu] at h; cases h⟩
  · exact ⟨_, cap, hu, fun g' h => by rw [hu] at h; cases h; exact ⟨hg, lt_of_block hh⟩⟩
/-- 'append(rows, row)': the row lies beside. -/
theorem wpList_append_mrow {W : World} {ops : Array Oper} {rest : List Oper} {o : Oper} {a : Act} {Q : Exit → Act → World → Prop} (hgd : o.guard = none) (s x : Operand)
    (ho : o.op = .call { callee := .builtin .append, args := #[s, x], argTypes := #[22, 22] }) (base : Nat) (v u : Value) (m : List (List Int)) (l : List Int) (t : TypeId) (w0 : World) (hW : W = w0.alloc (.cells #[u] t)) (k : Nat) (hk : k = w0.heap.size)
    (hs : a.eval s = v) (hM : MRows w0 base v m) (hx : a.eval x = .slice (some ⟨k, 0, none⟩) 1 1) (hu : IntsOff w0 base v.ownBlock u l) (hb : base ≤ w0.heap.size) (hlen : m.length ≤ 100000)
    (h : ∀ A c w', MRows w' base (.slice A (m.length + 1) c) (m ++ [l]) → Below base w0 w' → wpList Tryd.prog ops Q rest (a.put o.dst (.slice A (m.length + 1) c)) w') :
    wpList Tryd.prog ops Q (o :: rest) a W := by
  subst hk
  subst hW
  obtain ⟨i0, hi, hz0, hz1, hz2⟩ := info_parts infoRow
  obtain ⟨A0, c0, rfl, hblk⟩ := hM.slice
  obtain ⟨xs, hxo, hxx⟩ := id hM
  have hone : ∀ u' ∈ [u], u'.oneCell' = true := by
    obtain ⟨A, c, rfl, _⟩ := hu
    simp [Value.oneCell']
  refine wpList_append_own_at _ hgd s x 22 ho base 41 i0 (.slice none 0 0) 1 24 Tryd.underlying22 hi hz0 hz1 hz2 rfl (by decide) _ _ _ hs (hxo.alloc _) ⟨w0.heap.size, 0, none⟩ 1 1 [u] hx rfl (cell_one_new _ _ _) hone (by unfold maxLen; omega) (by omega) (by simp; omega) ?_
  intro v' w5 hown' hgrow' _ hat
  obtain ⟨g', cap', rfl⟩ := ownsRow_succ hown'
  refine h _ _ _ ?_ (((Below.refl _ _).alloc hb _).grown hgrow' (by simp; omega) (fun q hq => (hblk q hq).1))
  exact MRows.appended (W := w0.alloc (.cells #[u] t)) (base := base) (v := .slice A0 m.length c0) (m := m) (l := l) (xs := xs) (u := u)
    (fun i hi => (hxx i hi).kept (fun q _ hq _ => Below.heap_alloc _ _ _ hq) (fun _ _ h => h)) (by have := hxo.1; omega)
    (hu.kept (fun q _ hq _ => Below.heap_alloc _ _ _ hq) (fun _ _ h => h)) hown' hgrow' hat
/-- A row of the call's own, made behind the rows, lies beside them. -/
theorem MRows.beside {W W' : World} {base n0 : Nat} {v u : Value} {m : List (List Int)} {l : List Int} (h : MRows W base v m) (hn : W.heap.size ≤ n0) (hb : base ≤ n0) (hu : W'.ownsRow n0 3 1 u l.length (l.map fun x => .int .i64 x)) (hl : l.length ≤ big) : IntsOff W' base v.ownBlock u l := by
  obtain ⟨A, c, hv, hblk⟩ := h.slice
  rcases hu.2 with ⟨rfl, h0⟩ | ⟨g, cap, cur, rfl, hg, hh, r⟩
  · exact ⟨none, 0, by rw [h0], hl, fun i hi => by omega⟩
  · refine ⟨some ⟨g, 0, none⟩, cap, rfl, hl, fun i hi => ⟨g, 0, rfl, by omega, fun e => ?_, ?_⟩⟩
    · have := (hblk g e.symm).2; omega
    · have := hu.cellAt i (by omega)
      rw [Nat.zero_add, this]
      simp [List.getElem?_map, List.getD_eq_getElem?_getD, List.getElem?_eq_getElem hi]
end Go.Proofs.YtlpfglkopnmlnaaDoor
namespace Go.Proofs.YtlpfglkopnmlnaaDoor
open Go.RowKit Go.Shelf
/-- After how many steps a row comes back. -/
def perGo (l : List Int) : Nat → List Int → Nat → Nat
  | 0, _, i => i
  | f + 1, q, i => if q = l then i else perGo l f (nextP q) (i + 1)
def perP (l : List Int) : Nat := perGo l 721 (nextP l) 1
def rowsP (l : List Int) (i : Nat) : List (List Int) := (List.range i).map fun j => iterP j l
/-- All orders of a row, the row itself first. -/
def orbP (l : List Int) : List (List Int) := rowsP l (perP l)
theorem iterP_succ (i : Nat) (l : List Int) : iterP (i + 1) l = nextP (iterP i l) := iterP_add i 1 l
theorem rowsP_succ (l : List Int) (i : Nat) : rowsP l (i + 1) = rowsP l i ++ [iterP i l] := by
  unfold rowsP; rw [List.range_succ, List.map_append]; rfl
theorem rowsP_len (l : List Int) (i : Nat) : (rowsP l i).length = i := by simp [rowsP]
theorem perGo_spec (l : List Int) : ∀ f i N, i ≤ N → N < i + f → iterP N l = l → i ≤ perGo l f (iterP i l) i ∧ perGo l f (iterP i l) i ≤ N ∧ iterP (perGo l f (iterP i l) i) l = l ∧ ∀ k, i ≤ k → k < perGo l f (iterP i l) i → iterP k l ≠ l
  | 0, i, N, h1, h2, _ => by omega
  | f + 1, i, N, h1, h2, h3 => by
    unfold perGo
    split
    · rename_i h
      exact ⟨Nat.le_refl _, h1, h, fun k h4 h5 => by omega⟩
    · rename_i h
      have hne : i ≠ N := fun e => by subst e; exact h h3
      rw [← iterP_succ]
      obtain ⟨a1, a2, a3, a4⟩ := perGo_spec l f (i + 1) N (by omega) (by omega) h3
      refine ⟨by omega, a2, a3, fun k h4 h5 => ?_⟩
      by_cases e : k = i
      · rw [e]; exact h
      · exact a4 k (by omega) h5
theorem perP_spec {l : List Int} (h1 : 1 ≤ l.length) (h6 : l.length ≤ 6) : 1 ≤ perP l ∧ perP l ≤ 721 ∧ iterP (perP l) l = l ∧ ∀ k, 1 ≤ k → k < perP l → iterP k l ≠ l := by
  obtain ⟨⟨N, hN, hi⟩, -⟩ := orders_all h1 h6
  obtain ⟨a1, a2, a3, a4⟩ := perGo_spec l 721 1 (N + 1) (by omega) (by omega) hi
  exact ⟨a1, by show perGo l 721 (iterP 1 l) 1 ≤ 721; omega, a3, a4⟩
theorem orbP_get (l : List Int) {i : Nat} (h : i < perP l) : (orbP l).getD i [] = iterP i l := by
  unfold orbP rowsP
  simp [List.getD_eq_getElem?_getD, h]
theorem orbP_len (l : List Int) : (orbP l).length = perP l := rowsP_len l _
theorem orbP_perm (l : List Int) {i : Nat} (h : i < perP l) : ((orbP l).getD i []).Perm l := by rw [orbP_get l h]; exact iterP_perm i l
theorem following_as (v : Value) (l : List Int) (n : Nat) (w : World) (h : Ints w v l) (hn : Hid (l.length = n)) (hp : 0 < n) (hl : n ≤ 100) :
    Calls Tryd.prog 103 #[v] w fun e w' => ∃ g c, e = .returned (.slice (some ⟨g, 0, none⟩) n c) ∧ w'.ownsRow w.heap.size 3 1 (.slice (some ⟨g, 0, none⟩) n c) n ((nextP l).map fun x => .int .i64 x) ∧ Below w.heap.size w w' := by
  obtain rfl := hn.out
  exact following_any v l w h hp hl
/-- slices.Equal of a row of the call's own and a row that is not empty. -/
theorem equal_row (B1 g1 c1 n1 : Nat) (u : Value) (xs ys : List Int) (b : Bool) (w : World) (h1 : w.ownsRow B1 3 1 (.slice (some ⟨g1, 0, none⟩) n1 c1) n1 (xs.map fun x => .int .i64 x)) (h2 : Ints w u ys) (hb : Hid ((xs == ys) = b)) (hn1 : n1 ≤ 100) (hp : 0 < ys.length) (hn2 : ys.length ≤ 100) :
    Calls Tryd.prog 46 #[.slice (some ⟨g1, 0, none⟩) n1 c1, u] w fun e w' => e = .returned (.bool b) ∧ Below w.heap.size w w' := by
  obtain ⟨l1, k1⟩ := own_cells h1
  obtain ⟨A, cap, rfl, hl, hc⟩ := h2
  obtain ⟨b0, off, rfl, _⟩ := hc 0 hp
  refine (Tryd.slices_Equal_int g1 0 n1 c1 b0 off ys.length cap xs ys w (by omega) (by omega) (by omega) (by omega) k1 (fun j hj => ?_)).mono ?_
  · obtain ⟨b', off', hA, hcell⟩ := hc j hj
    cases hA
    exact hcell
  rintro e w' ⟨rfl, q, rfl⟩
  rw [List.take_of_length_le (by omega), List.take_of_length_le (Nat.le_refl _), hb.out]
  exact ⟨rfl, below_dr w q⟩
def lenOf : Value → Nat
  | .slice _ n _ => n
  | _ => 0
theorem ints_of_own {w : World} {B g n c : Nat} {xs : List Int} (h : w.ownsRow B 3 1 (.slice (some ⟨g, 0, none⟩) n c) n (xs.map fun x => .int .i64 x)) (hl : xs.length = n) (hb : n ≤ 100) : Ints w (.slice (some ⟨g, 0, none⟩) n c) xs := by
  obtain ⟨l1, k1⟩ := own_cells h
  exact ⟨_, c, by rw [hl], by unfold big; omega, fun j hj => ⟨g, 0, rfl, k1 j hj⟩⟩
/-- A list of one row, made by the call. -/
theorem MRows.one {w : World} {base : Nat} {u : Value} {l : List Int} (hu : IntsOff w base none u l) (hb : base ≤ w.heap.size) : MRows (w.alloc (.cells #[u] 41)) base (.slice (some ⟨w.heap.size, 0, none⟩) 1 1) [l] := by
  refine ⟨[u], ?_, fun i hi => ?_⟩
  · exact World.ownsRow_lit (e := 41) w #[u] 1 hb (by unfold maxLen; omega) rfl
  · obtain rfl : i = 0 := by simpa using hi
    refine IntsOff.kept (g := none) (W := w) hu (fun k _ hk _ => Below.heap_alloc _ _ _ hk) (fun k hk _ e => ?_)
    have e2 := Option.some.inj e
    simp at e2
    omega
/-- 'append(rows, row)': the row lies beside; what else stays as it lay. -/
theorem wpList_append_mrow2 {W : World} {ops : Array Oper} {rest : List Oper} {o : Oper} {a : Act} {Q : Exit → Act → World → Prop} (hgd : o.guard = none) (s x : Operand)
    (ho : o.op = .call { callee := .builtin .append, args := #[s, x], argTypes := #[22, 22] }) (base : Nat) (v u : Value) (m : List (List Int)) (l : List Int) (t : TypeId) (w0 : World) (hW : W = w0.alloc (.cells #[u] t)) (k : Nat) (hk : k = w0.heap.size)
    (hs : a.eval s = v) (hM : MRows w0 base v m) (hx : a.eval x = .slice (some ⟨k, 0, none⟩) 1 1) (hu : IntsOff w0 base v.ownBlock u l) (hb : base ≤ w0.heap.size) (hlen : m.length ≤ 100000)
    (h : ∀ A c w', MRows w' base (.slice A (m.length + 1) c) (m ++ [l]) → Below base w0 w' → (∀ k, k < w0.heap.size → some k ≠ v.ownBlock → w'.heap[k]? = w0.heap[k]?) → wpList Tryd.prog ops Q rest (a.put o.dst (.slice A (m.length + 1) c)) w') :
    wpList Tryd.prog ops Q (o :: rest) a W := by
  subst hk
  subst hW
  obtain ⟨i0, hi, hz0, hz1, hz2⟩ := info_parts infoRow
  obtain ⟨A0, c0, rfl, hblk⟩ := hM.slice
  obtain ⟨xs, hxo, hxx⟩ := id hM
  have hone : ∀ u' ∈ [u], u'.oneCell' = true := by
    obtain ⟨A, c, rfl, _⟩ := hu
    simp [Value.oneCell']
  refine wpList_append_own_at _ hgd s x 22 ho base 41 i0 (.slice none 0 0) 1 24 Tryd.underlying22 hi hz0 hz1 hz2 rfl (by decide) _ _ _ hs (hxo.alloc _) ⟨w0.heap.size, 0, none⟩ 1 1 [u] hx rfl (cell_one_new _ _ _) hone (by unfold maxLen; omega) (by omega) (by simp; omega) ?_
  intro v' w5 hown' hgrow' _ hat
  obtain ⟨g', cap', rfl⟩ := ownsRow_succ hown'
  refine h _ _ _ ?_ (((Below.refl _ _).alloc hb _).grown hgrow' (by simp; omega) (fun q hq => (hblk q hq).1)) (fun k hk hne => (hgrow'.block k (by simp; omega) (fun e => hne e)).trans (Below.heap_alloc _ _ _ hk))
  exact MRows.appended (W := w0.alloc (.cells #[u] t)) (base := base) (v := .slice A0 m.length c0) (m := m) (l := l) (xs := xs) (u := u)
    (fun i hi => (hxx i hi).kept (fun q _ hq _ => Below.heap_alloc _ _ _ hq) (fun _ _ h => h)) (by have := hxo.1; omega)
    (hu.kept (fun q _ hq _ => Below.heap_alloc _ _ _ hq) (fun _ _ h => h)) hown' hgrow' hat
end Go.Proofs.YtlpfglkopnmlnaaDoor
namespace Go.Proofs.YtlpfglkopnmlnaaDoor
open Go.RowKit Go.Shelf
set_option maxRecDepth 100000 in
set_option maxHeartbeats 2000000 in
theorem ordersOf_any (v : Value) (l : List Int) (w : World) (h : Ints w v l) (hp : 1 ≤ l.length) (hl : l.length ≤ 6) :
    Calls Tryd.prog 83 #[v] w fun e w' => ∃ r, e = .returned r ∧ MRows w' w.heap.size r (orbP l) ∧ Below w.heap.size w w' := by
  obtain ⟨s1, s2, s3, s4⟩ := perP_spec hp hl
  have Hs3 := hid s3
  have Hs4 := hid s4
  obtain ⟨n, hn⟩ : ∃ n, l.length = n := ⟨_, rfl⟩
  have Hn := hid hn
  have Hlen := hid (fun i => show (iterP i l).length = n from (iterP_perm i l).length_eq.trans hn)
  rw [hn] at hp hl
  have Hfol := hid (fun (W : World) (g c i : Nat) (hW : W.ownsRow w.heap.size 3 1 (.slice (some ⟨g, 0, none⟩) n c) n ((iterP i l).map fun x => .int .i64 x)) =>
    following_as (.slice (some ⟨g, 0, none⟩) n c) (iterP i l) n W (ints_of_own hW (Hlen.out i) (by omega)) (hid (Hlen.out i)) (by omega) (by omega))
  have Hfol0 := hid (fun (W : World) (hb : Below w.heap.size w W) => following_as v l n W (h.below hb) Hn (by omega) (by omega))
  have Heq := hid (fun (W : World) (g c i : Nat) (b : Bool) (hW : W.ownsRow w.heap.size 3 1 (.slice (some ⟨g, 0, none⟩) n c) n ((iterP i l).map fun x => .int .i64 x)) (hb : Below w.heap.size w W) (he : Hid ((iterP i l == l) = b)) =>
    equal_row w.heap.size g c n v (iterP i l) l b W hW (h.below hb) he (by omega) (by rw [Hn.out]; omega) (by rw [Hn.out]; omega))
  have hcl := clone_any v l w h (by rw [hn]; omega) (by rw [hn]; omega)
  rw [hn] at hcl
  clear s3 s4 hn
  go_enter Tryd.func83, Tryd.ntmps83
  go_wp2_with fail
  refine hcl.mono ?_
  rintro e w1 ⟨g0, c0, rfl, ho, hb⟩
  have hoff : IntsOff w1 w.heap.size none (.slice (some ⟨g0, 0, none⟩) n c0) l := by
    obtain ⟨e1, e2⟩ := own_cells ho
    refine ⟨_, c0, by rw [e1], by unfold big; omega, fun j hj => ⟨g0, 0, rfl, (ownsRow_blk ho g0 rfl).1, by simp, e2 j hj⟩⟩
  have hM := MRows.one hoff hb.size
  have Hoff := hid hoff
  have HM := hid hM
  have hb2 := bal hb (.cells #[.slice (some ⟨g0, 0, none⟩) n c0] 41)
  clear hoff hM hcl ho
  go_wp2_with fail
  generalize hW2 : w1.alloc (.cells #[.slice (some ⟨g0, 0, none⟩) n c0] 41) = W2 at *
  have hs2 : w1.heap.size < W2.heap.size := by rw [← hW2]; simp
  clear hW2
  refine (Hfol0.out _ hb2).mono ?_
  rintro e W3 ⟨g1, c1, rfl, ho1, hb3⟩
  have hM3 := HM.out.below hb3
  have hbes := MRows.beside (W := W2) (W' := W3) (l := nextP l) HM.out (Nat.le_refl _) hb2.size (by rw [show (nextP l).length = n from Hlen.out 1]; exact ho1) (by unfold big; rw [show (nextP l).length = n from Hlen.out 1]; omega)
  have Hx := hid (show MRows W3 w.heap.size (.slice (some ⟨w1.heap.size, 0, none⟩) 1 1) (rowsP l 1) ∧ W3.ownsRow w.heap.size 3 1 (.slice (some ⟨g1, 0, none⟩) n c1) n ((iterP 1 l).map fun x => .int .i64 x) ∧ IntsOff W3 w.heap.size (Value.slice (some ⟨w1.heap.size, 0, none⟩) 1 1).ownBlock (.slice (some ⟨g1, 0, none⟩) n c1) (iterP 1 l) ∧ Below w.heap.size w W3 from ⟨hM3, row_mono ho1 hb2.size, hbes, hb2.trans (hb3.mono hb2.size)⟩)
  clear hM3 hbes ho1 Hoff HM Hfol0
  go_wp2_with fail
  go_loopw [3, 4] (fun r s wr => ∃ (i g c vc : Nat) (vA : Option Addr), 1 ≤ i ∧ i ≤ perP l ∧ r = .slice vA i vc ∧ s = .slice (some ⟨g, 0, none⟩) n c ∧ MRows wr w.heap.size (.slice vA i vc) (rowsP l i) ∧ wr.ownsRow w.heap.size 3 1 (.slice (some ⟨g, 0, none⟩) n c) n ((iterP i l).map fun x => .int .i64 x) ∧ IntsOff wr w.heap.size (Value.slice vA i vc).ownBlock (.slice (some ⟨g, 0, none⟩) n c) (iterP i l) ∧ Below w.heap.size w wr) (fun r _ _ => perP l - lenOf r)
  case atStart => exact ⟨1, g1, c1, 1, _, Nat.le_refl _, s1, rfl, rfl, Hx.out.1, Hx.out.2.1, Hx.out.2.2.1, Hx.out.2.2.2⟩
  case round =>
    clear Hx
    obtain ⟨i, g, c, vc, vA, hi1, hi2, rfl, rfl, hM, hO, hI, hB⟩ := hrel
    by_cases hip : i = perP l
    · have he := Heq.out wr g c i true hO hB (hid (by rw [hip, Hs3.out]; simp))
      have HM := hid hM
      clear hM hO hI
      go_wp2_with fail
      refine he.mono ?_
      rintro e w4 ⟨rfl, hb4⟩
      go_wp2
      go_ret
      exact ⟨_, rfl, by show MRows w4 _ _ (rowsP l (perP l)); rw [← hip]; exact HM.out.below hb4, hB.trans (hb4.mono hB.size)⟩
    · have hne : iterP i l ≠ l := Hs4.out i hi1 (by omega)
      have he := Heq.out wr g c i false hO hB (hid (by simp [hne]))
      have HM := hid hM
      have HO := hid hO
      have HI := hid hI
      have HI1 := hid (rowsP_succ l i)
      clear hM hO hI hne
      go_wp2_with fail
      refine he.mono ?_
      rintro e w4 ⟨rfl, hb4⟩
      have HM4 := hid (HM.out.below hb4)
      have HI4 := hid (HI.out.kept (W' := w4) (g' := (Value.slice vA i vc).ownBlock) (fun q _ hq _ => hb4.block q hq) (fun _ _ h => h))
      have HO4 := hid (owns_kept HO.out (fun k _ hk => hb4.block k hk))
      have hB4 := hB.trans (hb4.mono hB.size)
      have Hi4 := hid (ints_of_own HO4.out (Hlen.out i) (by omega))
      clear HM HI HO
      have hsz := hB4.size
      have hgI : g < w4.heap.size ∧ some g ≠ (Value.slice vA i vc).ownBlock := by
        obtain ⟨A, cap, hv, _, hc⟩ := HI4.out
        cases hv
        obtain ⟨b, off, hA, _, hne, hcell⟩ := hc 0 (by rw [Hlen.out i]; omega)
        cases hA
        exact ⟨World.block_lt_of_cell? _ _ hcell, hne⟩
      go_wp2_with (at_builtin; refine wpList_append_mrow2 rfl _ _ rfl w.heap.size (.slice vA i vc) (.slice (some ⟨g, 0, none⟩) n c) (rowsP l i) (iterP i l) _ w4 rfl w4.heap.size rfl rfl HM4.out rfl HI4.out hsz (by rw [rowsP_len]; omega) ?_; intro A5 k5 w5 hM5 hB5 hK5)
      have hg5 := hK5 g hgI.1 hgI.2
      have hO5 := owns_block HO4.out hg5
      rw [rowsP_len, ← HI1.out] at hM5
      have HM5 := hid hM5
      have hB5w := hB4.trans hB5
      have hs5 := hB5w.size
      have hf := Hfol.out w5 g c i hO5
      have HK := hid hB5
      clear hM5 hK5 hO5 HM4 HI4 HO4 hB5
      go_wp2_with fail
      refine hf.mono ?_
      rintro e w6 ⟨g6, c6, rfl, ho6, hb6⟩
      have hln : (nextP (iterP i l)).length = n := by rw [← iterP_succ]; exact Hlen.out (i + 1)
      have hbes := MRows.beside (W := w5) (W' := w6) (l := nextP (iterP i l)) HM5.out (Nat.le_refl _) hs5 (by rw [hln]; exact ho6) (by rw [hln]; unfold big; omega)
      have Hx := hid (show MRows w6 w.heap.size (.slice A5 (i + 1) k5) (rowsP l (i + 1)) ∧ w6.ownsRow w.heap.size 3 1 (.slice (some ⟨g6, 0, none⟩) n c6) n ((iterP (i + 1) l).map fun x => .int .i64 x) ∧ IntsOff w6 w.heap.size (Value.slice A5 (i + 1) k5).ownBlock (.slice (some ⟨g6, 0, none⟩) n c6) (iterP (i + 1) l) ∧ Below w.heap.size w w6 from ⟨HM5.out.below hb6, by rw [iterP_succ]; exact row_mono ho6 hs5, by rw [iterP_succ]; exact hbes, hB5w.trans (hb6.mono hs5)⟩)
      clear hbes ho6 HM5
      go_wp2
      go_roundw
      case rel => exact ⟨i + 1, g6, c6, k5, A5, by omega, by omega, by simp [rowsP_len], rfl, Hx.out.1, Hx.out.2.1, Hx.out.2.2.1, Hx.out.2.2.2⟩
      case measure => simp [lenOf, rowsP_len]; omega
end Go.Proofs.YtlpfglkopnmlnaaDoor
