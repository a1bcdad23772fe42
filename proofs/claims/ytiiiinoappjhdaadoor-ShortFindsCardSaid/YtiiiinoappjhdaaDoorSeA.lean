/-
  Texts that the proof of the law stands on: Rep, T1, T2, Bits, Pop, T3, T4, O1, Range, T5, T6, T7, T8, R1, R2, M1, H1, P1, P2, N21, R4, R5, P4, L1, P6, Q1, N1, N2, N6, N7, N8, N15, N16, N17, N18, N9, N10, N11, N12, N13, N22, N23, N14, N24, Q2, N27, Q8, Q11, D1.
-/
import Derived.WalkKit
import Derived.WalkSpells
import Derived.WalkLawsBesides
import Derived.Test.YtiiiinoappjhdaaDoorProg
import Derived.Lib.TrailingZeros
import Derived.Laws.Bits64b
import Derived.Deep.Matrix
import Derived.Lib.LaidU8
import Derived.SizedLaws
import Derived.Carry
import Derived.RangeFuncNested
import Derived.RangeFuncBound
import Derived.RangeFuncCalls
import Derived.RangeFuncLeaves
import Derived.Shelf.Abstract
import Derived.OwnWalkIn
import Derived.TacticsInMore
import Derived.LoopNIn
import Derived.LoopIn
import Derived.Shelf.RegionOpen
import Derived.Maps.OwnIn
import Derived.BigQuiet
import Derived.Deep.QuietTactic
import Derived.Maps.AppendAt
import Derived.Lib.SplitLaws
import Derived.Deep.CutRange
import Derived.Deep.AppendLies
import Derived.Deep.RegionLaw
import Derived.Laws.EntriesVeiled
import Derived.Maps.Own
import Derived.Maps.OwnOps
import Derived.Maps.Views
import Derived.ProofKit
import Derived.OpenShut
import Derived.Deep.DeepHandedRow
import Derived.Deep.DeepWitnessRowRef
import Derived.Lib.LaidTab
import Derived.Lib.LaidIn
import Derived.Lib.ItoaNum
import Derived.WideKeyArgs
import Derived.Lib.UnsafeStr
import Derived.Handy
import Derived.Deep.RegionHeld
import Derived.Deep.RegionHeld3
import Derived.Maps.OwnSet
import Derived.WideKeyPair
import Derived.WideKeyEntry
import Derived.WideKeyElems3
import Derived.Maps.Keyed
import Derived.RegionTactic
import Derived.ChangeAlike
import Derived.WalkMore
import Derived.Scope
import Derived.Deep.RegionWith
import Derived.Deep.DeepMust
import Derived.OrdersIn
import Derived.Deep.Quiet
import Derived.ChangeKeysEq
import Derived.Laws.StructEq
import Derived.Laws.AppendOwnNone
import Derived.Deep.LoopGhost
namespace Go.Proofs.YtiiiinoappjhdaaDoor
open Go.RowKit
/-- The greatest number of elements that is spoken of. -/
def big : Nat := 17592186044416
/-- A slice of ints that reads as a list. -/
def Ints (w : World) (v : Value) (l : List Int) : Prop :=
  ∃ A cap, v = .slice A l.length cap ∧ l.length ≤ big ∧ ∀ i, i < l.length → ∃ b off, A = some ⟨b, off, none⟩ ∧ w.cell? ⟨b, off + i, none⟩ = some (.int .i64 (l.getD i 0))
theorem Ints.below {w w' : World} {v : Value} {l : List Int} (h : Ints w v l) (hb : Below w.heap.size w w') : Ints w' v l := by
  obtain ⟨A, cap, hv, hl, hc⟩ := h
  refine ⟨A, cap, hv, hl, fun i hi => ?_⟩
  obtain ⟨b, off, hA, hcell⟩ := hc i hi
  exact ⟨b, off, hA, (hb.cell (p := ⟨b, off + i, none⟩) (World.block_lt_of_cell? _ _ hcell)).trans hcell⟩
theorem all_snoc_take {α : Type} [Inhabited α] (p : α → Bool) (l : List α) (d : α) (k : Nat) (hk : k < l.length) : (l.take (k + 1)).all p = ((l.take k).all p && p (l.getD k d)) := by
  rw [List.take_succ_eq_append_getElem hk, List.all_append]
  simp [List.getD_eq_getElem?_getD, List.getElem?_eq_getElem hk]
theorem all_false_of {α : Type} (p : α → Bool) (l : List α) (d : α) (k : Nat) (hk : k < l.length) (h : p (l.getD k d) = false) : l.all p = false := by
  rw [List.all_eq_false]
  refine ⟨l[k], List.getElem_mem _, ?_⟩
  have : l.getD k d = l[k] := by simp [List.getD_eq_getElem?_getD, List.getElem?_eq_getElem hk]
  rw [this] at h
  simp [h]
theorem hid {p : Prop} (h : p) : Hid p := h
theorem ret_bool {a b : Bool} (h : a = b) : Ending.returned (.bool a) = .returned (.bool b) := by rw [h]
theorem ret_int {k : IntKind} {a b : Int} (h : a = b) : Ending.returned (.int k a) = .returned (.int k b) := by rw [h]
/-- A slice of slices of ints. -/
def Rows (w : World) (v : Value) (m : List (List Int)) : Prop :=
  ∃ A cap, v = .slice A m.length cap ∧ m.length ≤ big ∧ ∀ i, i < m.length → ∃ b off r, A = some ⟨b, off, none⟩ ∧ w.cell? ⟨b, off + i, none⟩ = some r ∧ Ints w r (m.getD i [])
theorem Rows.below {w w' : World} {v : Value} {m : List (List Int)} (h : Rows w v m) (hb : Below w.heap.size w w') : Rows w' v m := by
  obtain ⟨A, cap, hv, hl, hc⟩ := h
  refine ⟨A, cap, hv, hl, fun i hi => ?_⟩
  obtain ⟨b, off, r, hA, hcell, hr⟩ := hc i hi
  exact ⟨b, off, r, hA, (hb.cell (p := ⟨b, off + i, none⟩) (World.block_lt_of_cell? _ _ hcell)).trans hcell, hr.below hb⟩
theorem Ints.alloc {w : World} {v : Value} {l : List Int} (h : Ints w v l) (o : Obj) : Ints (w.alloc o) v l := h.below ((Below.refl _ w).alloc (Nat.le_refl _) o)
theorem Rows.alloc {w : World} {v : Value} {l : List (List Int)} (h : Rows w v l) (o : Obj) : Rows (w.alloc o) v l := h.below ((Below.refl _ w).alloc (Nat.le_refl _) o)
/-- A list of one number, just made. -/
theorem Ints.one (w : World) (n : Int) (t : TypeId) : Ints (w.alloc (.cells #[.int .i64 n] t)) (.slice (some ⟨w.heap.size, 0, none⟩) 1 1) [n] :=
  ⟨_, 1, rfl, by unfold big; simp, fun i hi => ⟨w.heap.size, 0, rfl, by
    obtain rfl : i = 0 := by simp at hi; omega
    simp⟩⟩
theorem Ints.one' (w : World) (n : Int) (t : TypeId) (k : Nat) (hk : k = w.heap.size) : Ints (w.alloc (.cells #[.int .i64 n] t)) (.slice (some ⟨k, 0, none⟩) 1 1) [n] := by
  subst hk; exact Ints.one w n t
/-- Below the whole of the first world: new blocks, and all that a call leaves as it lay. -/
theorem bal {w w' : World} (h : Below w.heap.size w w') (o : Obj) : Below w.heap.size w (w'.alloc o) := h.alloc h.size o
theorem btr {w w' w'' : World} (h : Below w.heap.size w w') (k : Below w'.heap.size w' w'') : Below w.heap.size w w'' := h.trans (k.mono h.size)
theorem below_dr (w : World) (n : Nat) : Below w.heap.size w (w.drewN n) := ⟨rfl, rfl, rfl, Nat.le_refl _, fun _ _ => rfl⟩
theorem Ints.drewN {w : World} {v : Value} {l : List Int} (h : Ints w v l) (n : Nat) : Ints (w.drewN n) v l := h.below (below_dr w n)
theorem Rows.drewN {w : World} {v : Value} {m : List (List Int)} (h : Rows w v m) (n : Nat) : Rows (w.drewN n) v m := h.below (below_dr w n)
theorem bdr {w w' : World} (h : Below w.heap.size w w') (n : Nat) : Below w.heap.size w (w'.drewN n) := btr h (below_dr w' n)
end Go.Proofs.YtiiiinoappjhdaaDoor
namespace Go.Proofs.YtiiiinoappjhdaaDoor
open Go.RowKit
def inB (lo hi : Int) (n : Int) : Bool := decide (lo ≤ n) && decide (n ≤ hi)
theorem inB_true {lo hi n : Int} (h : lo ≤ n ∧ n ≤ hi) : inB lo hi n = true := by simp [inB, h]
theorem inB_false {lo hi n : Int} (h : n < lo ∨ hi < n) : inB lo hi n = false := by
  unfold inB; rcases h with h | h <;> simp <;> omega
set_option maxHeartbeats 400000 in
theorem between_any (lo hi : Int) (v : Value) (l : List Int) (w : World) (h : Ints w v l) :
    Calls Tryd.prog 67 #[.int .i64 lo, .int .i64 hi, v] w fun e w' => e = .returned (.bool (l.all (inB lo hi))) ∧ w = w' := by
  obtain ⟨A, cap, rfl, hl, hc⟩ := h
  unfold big at hl
  go_enter Tryd.func67, Tryd.ntmps67
  go_wp2
  go_loop [11] (fun i => ∃ k : Nat, k ≤ l.length ∧ i = .int .i64 k ∧ (l.take k).all (inB lo hi) = true) (fun i => l.length - (intOf i).toNat)
  case atStart => exact ⟨0, Nat.zero_le _, rfl, rfl⟩
  case round =>
    obtain ⟨k, hk, rfl, hall⟩ := hrel
    by_cases hlt : k < l.length
    · obtain ⟨b, off, hA, hcell⟩ := hc k hlt
      have hs := all_snoc_take (inB lo hi) l 0 k hlt
      rw [hall, Bool.true_and] at hs
      have hf := all_false_of (inB lo hi) l 0 k hlt
      have Hs := hid hs
      have Hf := hid hf
      clear hs hf hall hc
      generalize hn : l.getD k 0 = n at *
      clear hn
      subst hA
      go_wp2
      · go_ret
        exact ⟨ret_bool (Hf.out (inB_false ‹_›)).symm, rfl⟩
      · go_round
        case rel => exact ⟨k + 1, by omega, by go_num, by rw [Hs.out]; exact inB_true ‹_›⟩
        case measure => simp [intOf]; omega
      · go_ret
        exact ⟨ret_bool (Hf.out (inB_false (.inl ‹_›))).symm, rfl⟩
    · go_wp2
      go_ret
      exact ⟨ret_bool (by rw [← hall, List.take_of_length_le (by omega)]), rfl⟩
/-- How many letters. -/
def letters (m : List (List Int)) : Nat := (m.getD 0 []).length
def rowOk (m : List (List Int)) (r : List Int) : Bool := decide (r.length = letters m) && r.all (inB 0 ((m.length : Int) - 1))
def validM (m : List (List Int)) : Bool :=
  inB 1 60 m.length && (inB 1 6 (letters m) && m.all (rowOk m))
theorem between_one (lo hi n : Int) (b : Bool) (v : Value) (w : World) (h : Ints w v [n]) (hb : inB lo hi n = b) :
    Calls Tryd.prog 67 #[.int .i64 lo, .int .i64 hi, v] w fun e w' => e = .returned (.bool b) ∧ w = w' := by
  have := between_any lo hi v [n] w h
  simpa [hb] using this
set_option maxHeartbeats 400000 in
theorem areStates_any (v u : Value) (m : List (List Int)) (l : List Int) (w : World) (h : Rows w v m) (hu : Ints w u l) :
    Calls Tryd.prog 68 #[.agg #[v], u] w fun e w' => e = .returned (.bool (l.all (inB 0 ((m.length : Int) - 1)))) ∧ Below w.heap.size w w' := by
  have hu1 := hu.alloc (.cells #[v] 24)
  obtain ⟨A, cap, rfl, hl, hc⟩ := h
  unfold big at hl
  clear hc
  go_enter Tryd.func68, Tryd.ntmps68
  go_wp2_with (go_at_call 67; refine (between_any _ _ _ l _ hu1).mono ?_; rintro e w' ⟨rfl, rfl⟩)
  go_ret
  exact ⟨rfl, (Below.refl _ _).alloc (Nat.le_refl _) _⟩
theorem areStates_bool (v u : Value) (m : List (List Int)) (l : List Int) (b : Bool) (w : World) (h : Rows w v m) (hu : Ints w u l) (hb : l.all (inB 0 ((m.length : Int) - 1)) = b) :
    Calls Tryd.prog 68 #[.agg #[v], u] w fun e w' => e = .returned (.bool b) ∧ Below w.heap.size w w' := by
  subst hb; exact areStates_any v u m l w h hu
set_option maxHeartbeats 400000 in
theorem Valid_any (v : Value) (m : List (List Int)) (w : World) (h : Rows w v m) :
    Calls Tryd.prog 49 #[.agg #[v]] w fun e w' => e = .returned (.bool (validM m)) ∧ Below w.heap.size w w' := by
  have hr := h
  obtain ⟨A, cap, rfl, hl, hc⟩ := h
  unfold big at hl
  by_cases h1 : inB 1 60 m.length = true
  · have hpos : 0 < m.length := by simp [inB] at h1; omega
    obtain ⟨b, off, r0, hA, hcell0, hr0⟩ := hc 0 hpos
    subst hA
    obtain ⟨A0, cap0, rfl, hl0, hc0⟩ := hr0
    unfold big at hl0
    rw [Nat.add_zero] at hcell0
    have hbl : b < w.heap.size := World.block_lt_of_cell? _ _ hcell0
    have hlet : (m.getD 0 []).length = letters m := rfl
    rw [hlet] at hcell0 hl0
    clear hc0
    by_cases h2 : inB 1 6 (letters m) = true
    · have Hc := hid hc
      clear hc
      have hin : (0 : Int) < m.length := by omega
      go_enter Tryd.func49, Tryd.ntmps49
      go_wp2_with fail
      refine (between_one 1 60 m.length true _ _ (Ints.one' _ _ _ _ (by simp)) h1).mono ?_
      rintro e w1 ⟨rfl, rfl⟩
      go_wp2_with fail
      refine (between_one 1 6 (letters m) true _ _ (Ints.one' _ _ _ _ (by simp)) h2).mono ?_
      rintro e w1 ⟨rfl, rfl⟩
      go_wp2_with fail
      go_loopw [24] (fun i wr => ∃ k : Nat, k ≤ m.length ∧ i = .int .i64 k ∧ (m.take k).all (rowOk m) = true ∧ Below w.heap.size w wr ∧ wr.cell? ⟨w.heap.size, 0, none⟩ = some (.slice (some ⟨b, off, none⟩) m.length cap))
        (fun i _ => m.length - (intOf i).toNat)
      case atStart => exact ⟨0, Nat.zero_le _, rfl, rfl, bal (bal (bal (Below.refl _ _) _) _) _, by simp [go_sem]⟩
      case round =>
        obtain ⟨k, hk, rfl, hall, hB, hbox⟩ := hrel
        have hsz : w.heap.size < wr.heap.size := World.block_lt_of_cell? _ _ hbox
        by_cases hlt : k < m.length
        · obtain ⟨b', off', r, hA', hcell, hrow⟩ := Hc.out k hlt
          cases hA'
          have hrowc : wr.cell? ⟨b, off + k, none⟩ = some r := (hB.cell (p := ⟨b, off + k, none⟩) hbl).trans hcell
          have hroww := hrow.below hB
          have hrw := hr.below hB
          have Hs := hid (all_snoc_take (rowOk m) m [] k hlt)
          have Hf := hid (all_false_of (rowOk m) m [] k hlt)
          clear hrow hcell hcell0
          generalize m.getD k [] = row at *
          have hroww' := hroww
          obtain ⟨Ar, capr, rfl, hlr, hcr⟩ := hroww
          unfold big at hlr
          clear hcr
          have hv1 : validM m = m.all (rowOk m) := by simp [validM, h1, h2]
          have Hv := hid hv1
          have Ha := hid hall
          clear hv1 hall
          by_cases hle : row.length = letters m
          · have hne : ((row.length : Int) != (letters m : Int)) = false := by simp; omega
            by_cases hst : row.all (inB 0 ((m.length : Int) - 1)) = true
            · have Hle := hid hle
              clear hle
              go_wp2_with fail
              refine (areStates_bool _ _ m row true _ hrw hroww' hst).mono ?_
              rintro e w1 ⟨rfl, hb1⟩
              have hbx : w1.cell? ⟨w.heap.size, 0, none⟩ = some (.slice (some ⟨b, off, none⟩) m.length cap) := (hb1.cell (p := ⟨w.heap.size, 0, none⟩) hsz).trans hbox
              go_wp2
              go_roundw
              case rel => exact ⟨k + 1, by omega, by go_num, by rw [Hs.out, Ha.out]; simp [rowOk, Hle.out, hst], btr hB hb1, hbx⟩
              case measure => simp [intOf]; omega
            · have hst' : row.all (inB 0 ((m.length : Int) - 1)) = false := by simpa using hst
              have Hle := hid hle
              clear hle hst
              go_wp2_with fail
              refine (areStates_bool _ _ m row false _ hrw hroww' hst').mono ?_
              rintro e w1 ⟨rfl, hb1⟩
              go_wp2
              go_ret
              exact ⟨ret_bool (by rw [Hv.out, Hf.out]; simp [rowOk, hst']), btr hB hb1⟩
          · have hne : ((row.length : Int) != (letters m : Int)) = true := by simp; omega
            have Hle := hid hle
            clear hle
            go_wp2
            go_ret
            exact ⟨ret_bool (by rw [Hv.out, Hf.out]; simp [rowOk, Hle.out]), hB⟩
        · go_wp2
          go_ret
          exact ⟨ret_bool (by rw [← hall, List.take_of_length_le (by omega)]; simp [validM, h1, h2]), hB⟩
    · have h2' : inB 1 6 (letters m) = false := by simpa using h2
      have Hc := hid hc
      clear hc
      have hin : (0 : Int) < m.length := by omega
      go_enter Tryd.func49, Tryd.ntmps49
      go_wp2_with fail
      refine (between_one 1 60 m.length true _ _ (Ints.one' _ _ _ _ (by simp)) h1).mono ?_
      rintro e w1 ⟨rfl, rfl⟩
      go_wp2_with fail
      refine (between_one 1 6 (letters m) false _ _ (Ints.one' _ _ _ _ (by simp)) h2').mono ?_
      rintro e w1 ⟨rfl, rfl⟩
      go_wp2
      go_ret
      exact ⟨ret_bool (by simp [validM, h2']), bal (bal (bal (Below.refl _ _) _) _) _⟩
  · have h1' : inB 1 60 m.length = false := by simpa using h1
    clear hc
    go_enter Tryd.func49, Tryd.ntmps49
    go_wp2_with fail
    refine (between_one 1 60 m.length false _ _ (Ints.one' _ _ _ _ (by simp)) h1').mono ?_
    rintro e w1 ⟨rfl, rfl⟩
    go_wp2
    go_ret
    exact ⟨ret_bool (by simp [validM, h1']), bal (bal (Below.refl _ _) _) _⟩
end Go.Proofs.YtiiiinoappjhdaaDoor
namespace Go.Proofs.YtiiiinoappjhdaaDoor
open Go.RowKit
def isWordM (m : List (List Int)) (u : List Int) : Bool := decide (u.length ≤ 40000) && u.all (inB 0 ((letters m : Int) - 1))
/-- Where a letter leads, and a word. -/
def nx (m : List (List Int)) (s : Nat) (x : Int) : Nat := ((m.getD s []).getD x.toNat 0).toNat
def runM (m : List (List Int)) (s : Nat) (u : List Int) : Nat := u.foldl (nx m) s
theorem all_getD {α : Type} (p : α → Bool) (l : List α) (d : α) (h : l.all p = true) (i : Nat) (hi : i < l.length) : p (l.getD i d) = true := by
  rw [List.all_eq_true] at h
  have e : l.getD i d = l[i] := by simp [List.getD_eq_getElem?_getD, List.getElem?_eq_getElem hi]
  rw [e]; exact h _ (List.getElem_mem _)
theorem inB_iff {lo hi n : Int} : inB lo hi n = true ↔ lo ≤ n ∧ n ≤ hi := by simp [inB]
theorem valid_parts {m : List (List Int)} (h : validM m = true) : 1 ≤ m.length ∧ m.length ≤ 60 ∧ 1 ≤ letters m ∧ letters m ≤ 6 ∧
    ∀ i, i < m.length → (m.getD i []).length = letters m ∧ ∀ j, j < letters m → 0 ≤ (m.getD i []).getD j 0 ∧ (m.getD i []).getD j 0 < m.length := by
  simp only [validM, Bool.and_eq_true, inB_iff] at h
  obtain ⟨⟨a, b⟩, ⟨c, d⟩, e⟩ := h
  refine ⟨by omega, by omega, by omega, by omega, fun i hi => ?_⟩
  have hr := all_getD _ m [] e i hi
  simp only [rowOk, Bool.and_eq_true, decide_eq_true_eq] at hr
  refine ⟨hr.1, fun j hj => ?_⟩
  have := all_getD _ _ 0 hr.2 j (by omega)
  rw [inB_iff] at this
  omega
theorem nx_ok {m : List (List Int)} (h : validM m = true) {s : Nat} (hs : s < m.length) {x : Int} (h0 : 0 ≤ x) (h1 : x < letters m) :
    nx m s x < m.length ∧ (m.getD s []).getD x.toNat 0 = (nx m s x : Int) := by
  have := ((valid_parts h).2.2.2.2 s hs).2 x.toNat (by omega)
  unfold nx
  omega
theorem runM_lt {m : List (List Int)} (h : validM m = true) : ∀ (u : List Int) (s : Nat), s < m.length → u.all (inB 0 ((letters m : Int) - 1)) = true → runM m s u < m.length
  | [], s, hs, _ => hs
  | x :: u, s, hs, hu => by
    simp only [List.all_cons, Bool.and_eq_true, inB_iff] at hu
    exact runM_lt h u _ (nx_ok h hs hu.1.1 (by omega)).1 hu.2
theorem runM_snoc (m : List (List Int)) (s : Nat) (u : List Int) (k : Nat) (hk : k < u.length) : runM m s (u.take (k + 1)) = nx m (runM m s (u.take k)) (u.getD k 0) := by
  unfold runM
  rw [List.take_succ_eq_append_getElem hk, List.foldl_append]
  simp [List.getD_eq_getElem?_getD, List.getElem?_eq_getElem hk]
theorem all_take {α : Type} (p : α → Bool) (l : List α) (h : l.all p = true) (k : Nat) : (l.take k).all p = true := by
  rw [List.all_eq_true] at h ⊢
  exact fun x hx => h x (List.mem_of_mem_take hx)
end Go.Proofs.YtiiiinoappjhdaaDoor
namespace Go.Proofs.YtiiiinoappjhdaaDoor
/-- The elements of a set that is kept as the bits of a number. -/
def elems (S : Nat) : List Nat := (List.range 64).filter S.testBit
theorem filter_first (p q : Nat → Bool) (n k : Nat) (hk : k < n) (hp : p k = true) (hlo : ∀ i, i < k → p i = false) (hq : ∀ i, q i = (p i && decide (i ≠ k))) :
    (List.range n).filter p = k :: (List.range n).filter q := by
  have e : List.range n = List.range k ++ (k :: List.range' (k + 1) (n - k - 1)) := by
    rw [List.range_eq_range', List.range_eq_range']
    have h1 : k :: List.range' (k + 1) (n - k - 1) = List.range' k (n - k) := by
      have h2 : n - k = (n - k - 1) + 1 := by omega
      rw [h2, List.range'_succ]
      simp
    rw [h1]
    have h3 := List.range'_append (s := 0) (m := k) (n := n - k) (step := 1)
    simp only [Nat.one_mul, Nat.zero_add] at h3
    rw [h3]
    congr 1
    omega
  have f1 : (List.range k).filter p = [] := by
    rw [List.filter_eq_nil_iff]
    intro a ha
    simp [hlo a (List.mem_range.1 ha)]
  have f2 : (List.range k).filter q = [] := by
    rw [List.filter_eq_nil_iff]
    intro a ha
    simp [hq, hlo a (List.mem_range.1 ha)]
  have f3 : (List.range' (k + 1) (n - k - 1)).filter p = (List.range' (k + 1) (n - k - 1)).filter q := by
    apply List.filter_congr
    intro a ha
    have := List.mem_range'_1.1 ha
    rw [hq]
    have h : a ≠ k := by omega
    simp [h]
  rw [e, List.filter_append, List.filter_append, f1, f2, List.filter_cons, List.filter_cons, f3]
  simp [hp, hq]
/-- Of a number that is not zero: where its lowest bit is; without it the number is less. -/
theorem low_bit (k m : Nat) : ∀ i, (2 ^ k * (2 * m + 1)).testBit i = (decide (k = i) || (decide (k < i) && m.testBit (i - k - 1))) := by
  intro i
  have h := Nat.testBit_two_pow_mul_add (2 * m + 1) (b := 0) (i := k) (Nat.two_pow_pos k) i
  rw [Nat.add_zero] at h
  rw [h]
  by_cases h1 : i < k
  · have a : ¬ k = i := by omega
    have b : ¬ k < i := by omega
    simp [h1, a, b]
  · rw [if_neg h1]
    by_cases h2 : k = i
    · subst h2; simp [Nat.testBit_zero]
    · have h3 : k < i := by omega
      obtain ⟨j, rfl⟩ : ∃ j, i = k + 1 + j := ⟨i - k - 1, by omega⟩
      have e1 : k + 1 + j - k = j + 1 := by omega
      have e2 : k + 1 + j - k - 1 = j := by omega
      rw [e1, Nat.testBit_succ]
      have d1 : (2 * m + 1) / 2 = m := by omega
      rw [d1]
      have : ¬ k = k + 1 + j := by omega
      simp [h3, this]
theorem low_bit_pred (k m : Nat) : ∀ i, (2 ^ k * (2 * m + 1) - 1).testBit i = (decide (i < k) || (decide (k < i) && m.testBit (i - k - 1))) := by
  intro i
  have hp := Nat.two_pow_pos k
  have e : 2 ^ k * (2 * m + 1) - 1 = 2 ^ k * (2 * m) + (2 ^ k - 1) := by
    rw [Nat.mul_add, Nat.mul_one]; omega
  rw [e, Nat.testBit_two_pow_mul_add (2 * m) (b := 2 ^ k - 1) (i := k) (by omega) i]
  by_cases h1 : i < k
  · simp [h1, Nat.testBit_two_pow_sub_one]
  · rw [if_neg h1]
    by_cases h2 : k = i
    · subst h2; simp [Nat.testBit_zero]
    · have h3 : k < i := by omega
      obtain ⟨j, rfl⟩ : ∃ j, i = k + 1 + j := ⟨i - k - 1, by omega⟩
      have e1 : k + 1 + j - k = j + 1 := by omega
      have e2 : k + 1 + j - k - 1 = j := by omega
      rw [e1, Nat.testBit_succ]
      have d1 : 2 * m / 2 = m := by omega
      rw [d1]
      simp [h3, h1]
theorem elems_step (S k m : Nat) (hS : S = 2 ^ k * (2 * m + 1)) (hk : k < 64) : elems S = k :: elems (S &&& (S - 1)) ∧ S &&& (S - 1) < S := by
  have h1 := low_bit k m
  have h2 := low_bit_pred k m
  rw [← hS] at h1 h2
  refine ⟨filter_first _ _ 64 k hk ?_ ?_ ?_, ?_⟩
  · rw [h1]; simp
  · intro i hi
    rw [h1]
    have a : ¬ k = i := by omega
    have b : ¬ k < i := by omega
    simp [a, b]
  · intro i
    rw [Nat.testBit_and, h1, h2]
    by_cases e : k = i
    · subst e; simp
    · have e' : i ≠ k := fun h => e h.symm
      by_cases h3 : k < i
      · have h4 : ¬ i < k := by omega
        simp [e, e', h3, h4]
      · simp [e, h3]
  · have hle : S &&& (S - 1) ≤ S - 1 := Nat.and_le_right
    have hp := Nat.two_pow_pos k
    have : 0 < S := by rw [hS]; exact Nat.mul_pos hp (by omega)
    omega
theorem elems_zero : elems 0 = [] := by
  unfold elems
  rw [List.filter_eq_nil_iff]
  intro a _
  simp
theorem mem_elems (S i : Nat) : i ∈ elems S ↔ i < 64 ∧ S.testBit i = true := by
  unfold elems; simp [List.mem_filter]
/-- The bit of an element, set. -/
theorem testBit_with (S x i : Nat) : (S ||| 2 ^ x).testBit i = (S.testBit i || decide (x = i)) := by
  rw [Nat.testBit_or, Nat.testBit_two_pow]
theorem with_lt (S x n : Nat) (hS : S < 2 ^ n) (hx : x < n) : S ||| 2 ^ x < 2 ^ n :=
  Nat.or_lt_two_pow hS (Nat.pow_lt_pow_right (by decide) hx)
theorem testBit_below (n i : Nat) : (2 ^ n - 1).testBit i = decide (i < n) := Nat.testBit_two_pow_sub_one n i
/-- Two numbers below 2^64 with the same elements are one. -/
theorem eq_of_elems (S T : Nat) (hS : S < 2 ^ 64) (hT : T < 2 ^ 64) (h : ∀ i, i < 64 → S.testBit i = T.testBit i) : S = T := by
  apply Nat.eq_of_testBit_eq
  intro i
  by_cases hi : i < 64
  · exact h i hi
  · have a : S.testBit i = false := Nat.testBit_lt_two_pow (Nat.lt_of_lt_of_le hS (Nat.pow_le_pow_right (by decide) (by omega)))
    have b : T.testBit i = false := Nat.testBit_lt_two_pow (Nat.lt_of_lt_of_le hT (Nat.pow_le_pow_right (by decide) (by omega)))
    rw [a, b]
end Go.Proofs.YtiiiinoappjhdaaDoor
namespace Go.Proofs.YtiiiinoappjhdaaDoor
def m0 : Nat := 0x5555555555555555
def m1 : Nat := 0x3333333333333333
def m2 : Nat := 0x0f0f0f0f0f0f0f0f
def s1 (x : Nat) : Nat := ((x >>> 1) &&& m0) + (x &&& m0)
def s2 (x : Nat) : Nat := ((x >>> 2) &&& m1) + (x &&& m1)
def s3 (x : Nat) : Nat := ((x >>> 4) + x) &&& m2
def s4 (x : Nat) : Nat := (x + x >>> 8) % 18446744073709551616
def s5 (x : Nat) : Nat := (x + x >>> 16) % 18446744073709551616
def s6 (x : Nat) : Nat := (x + x >>> 32) % 18446744073709551616
def swar (x : Nat) : Nat := s6 (s5 (s4 (s3 (s2 (s1 x))))) &&& 127
/-- and, digit by digit. -/
theorem land_digit (k a b A B : Nat) (ha : a < 2 ^ k) (hb : b < 2 ^ k) : (2 ^ k * A + a) &&& (2 ^ k * B + b) = 2 ^ k * (A &&& B) + (a &&& b) := by
  apply Nat.eq_of_testBit_eq
  intro i
  rw [Nat.testBit_and, Nat.testBit_two_pow_mul_add _ ha, Nat.testBit_two_pow_mul_add _ hb, Nat.testBit_two_pow_mul_add _ (Nat.and_lt_two_pow _ hb)]
  split
  · rw [Nat.testBit_and]
  · rw [Nat.testBit_and]
/-- The masks of n bytes, all of one make. -/
def mask (c : Nat) : Nat → Nat
  | 0 => 0
  | n + 1 => 256 * mask c n + c
theorem mask_succ (c n : Nat) : mask c (n + 1) = 256 * mask c n + c := rfl
def t1 (n x : Nat) : Nat := ((x / 2) &&& mask 0x55 n) + (x &&& mask 0x55 n)
def t2 (n x : Nat) : Nat := ((x / 4) &&& mask 0x33 n) + (x &&& mask 0x33 n)
def t3 (n x : Nat) : Nat := ((x / 16) + x) &&& mask 0x0f n
theorem b1 : ∀ b, b < 256 → ∀ t, t < 2 → ((b / 2 + 128 * t) &&& 0x55) = ((b / 2) &&& 0x55) := by decide +kernel
theorem b2 : ∀ b, b < 256 → ∀ t, t < 4 → ((b / 4 + 64 * t) &&& 0x33) = ((b / 4) &&& 0x33) := by decide +kernel
theorem t1_digit (n b X : Nat) (hb : b < 256) : t1 (n + 1) (256 * X + b) = 256 * t1 n X + (((b / 2) &&& 0x55) + (b &&& 0x55)) := by
  unfold t1
  rw [mask_succ]
  have e1 : (256 * X + b) / 2 = 256 * (X / 2) + (b / 2 + 128 * (X % 2)) := by omega
  have h1 := land_digit 8 (b / 2 + 128 * (X % 2)) 0x55 (X / 2) (mask 0x55 n) (by omega) (by decide)
  have h2 := land_digit 8 b 0x55 X (mask 0x55 n) hb (by decide)
  simp only [Nat.reducePow] at h1 h2
  rw [e1, h1, h2, b1 b hb (X % 2) (by omega)]
  omega
theorem t2_digit (n b X : Nat) (hb : b < 256) : t2 (n + 1) (256 * X + b) = 256 * t2 n X + (((b / 4) &&& 0x33) + (b &&& 0x33)) := by
  unfold t2
  rw [mask_succ]
  have e1 : (256 * X + b) / 4 = 256 * (X / 4) + (b / 4 + 64 * (X % 4)) := by omega
  have h1 := land_digit 8 (b / 4 + 64 * (X % 4)) 0x33 (X / 4) (mask 0x33 n) (by omega) (by decide)
  have h2 := land_digit 8 b 0x33 X (mask 0x33 n) hb (by decide)
  simp only [Nat.reducePow] at h1 h2
  rw [e1, h1, h2, b2 b hb (X % 4) (by omega)]
  omega
theorem b3 : ∀ b, b < 256 → ∀ t, t < 16 → b / 16 + b + 16 * t < 256 → ((b / 16 + b + 16 * t) &&& 0x0f) = ((b / 16 + b) &&& 0x0f) := by decide +kernel
theorem t3_digit (n b X : Nat) (hb : b < 256) (hs : b / 16 + b + 16 * (X % 16) < 256) : t3 (n + 1) (256 * X + b) = 256 * t3 n X + ((b / 16 + b) &&& 0x0f) := by
  unfold t3
  rw [mask_succ]
  have e1 : (256 * X + b) / 16 + (256 * X + b) = 256 * (X / 16 + X) + (b / 16 + b + 16 * (X % 16)) := by omega
  have h1 := land_digit 8 (b / 16 + b + 16 * (X % 16)) 0x0f (X / 16 + X) (mask 0x0f n) hs (by decide)
  simp only [Nat.reducePow] at h1
  rw [e1, h1, b3 b hb (X % 16) (by omega) hs]
/-- The bits of a byte. -/
def byteCount (b : Nat) : Nat := ((List.range 8).filter b.testBit).length
def c1 (b : Nat) : Nat := ((b / 2) &&& 0x55) + (b &&& 0x55)
def c2 (b : Nat) : Nat := ((b / 4) &&& 0x33) + (b &&& 0x33)
def c3 (b : Nat) : Nat := (b / 16 + b) &&& 0x0f
theorem byte_ok : ∀ b, b < 256 → c1 b < 256 ∧ c2 (c1 b) < 256 ∧ c2 (c1 b) / 16 + c2 (c1 b) ≤ 80 ∧ c2 (c1 b) % 16 ≤ 4 ∧ c3 (c2 (c1 b)) = byteCount b ∧ byteCount b ≤ 8 := by decide +kernel
/-- The digits to the base 256, lowest first. -/
def ofBytes : List Nat → Nat
  | [] => 0
  | b :: l => 256 * ofBytes l + b
theorem t123 : ∀ (l : List Nat), (∀ b ∈ l, b < 256) → t2 l.length (t1 l.length (ofBytes l)) = ofBytes (l.map fun b => c2 (c1 b)) ∧ t3 l.length (t2 l.length (t1 l.length (ofBytes l))) = ofBytes (l.map byteCount)
  | [], _ => by decide
  | b :: l, h => by
    obtain ⟨i1, i2⟩ := t123 l (fun x hx => h x (List.mem_cons_of_mem _ hx))
    obtain ⟨k1, k2, k3, k4, k5, k6⟩ := byte_ok b (h b List.mem_cons_self)
    have e1 : t1 (l.length + 1) (256 * ofBytes l + b) = 256 * t1 l.length (ofBytes l) + c1 b := t1_digit _ _ _ (h b List.mem_cons_self)
    have e2 : t2 (l.length + 1) (256 * t1 l.length (ofBytes l) + c1 b) = 256 * t2 l.length (t1 l.length (ofBytes l)) + c2 (c1 b) := t2_digit _ _ _ k1
    have hm : t2 l.length (t1 l.length (ofBytes l)) % 16 ≤ 4 := by
      rw [i1]
      cases l with
      | nil => decide
      | cons d r =>
        have := (byte_ok d (h d (by simp))).2.2.2.1
        simp only [List.map_cons, ofBytes]
        omega
    have e3 : t3 (l.length + 1) (256 * t2 l.length (t1 l.length (ofBytes l)) + c2 (c1 b)) = 256 * t3 l.length (t2 l.length (t1 l.length (ofBytes l))) + c3 (c2 (c1 b)) := t3_digit _ _ _ k2 (by omega)
    simp only [List.length_cons, ofBytes, List.map_cons]
    refine ⟨by rw [e1, e2, i1], ?_⟩
    rw [e1, e2, e3, i2, k5]
theorem masks : mask 0x55 8 = m0 ∧ mask 0x33 8 = m1 ∧ mask 0x0f 8 = m2 := by decide
def digits (a b c d e f g h : Nat) : Nat := a + 256 * b + 65536 * c + 16777216 * d + 4294967296 * e + 1099511627776 * f + 281474976710656 * g + 72057594037927936 * h
theorem s4_digits (a b c d e f g h : Nat) (ha : a ≤ 40) (hb : b ≤ 40) (hc : c ≤ 40) (hd : d ≤ 40) (he : e ≤ 40) (hf : f ≤ 40) (hg : g ≤ 40) (hh : h ≤ 40) :
    s4 (digits a b c d e f g h) = digits (a + b) (b + c) (c + d) (d + e) (e + f) (f + g) (g + h) h := by
  have q : (digits a b c d e f g h) >>> 8 = digits b c d e f g h 0 := by
    rw [Nat.shiftRight_eq_div_pow]; unfold digits; omega
  unfold s4
  rw [q]
  unfold digits
  omega
theorem s5_digits (a b c d e f g h : Nat) (ha : a ≤ 40) (hb : b ≤ 40) (hc : c ≤ 40) (hd : d ≤ 40) (he : e ≤ 40) (hf : f ≤ 40) (hg : g ≤ 40) (hh : h ≤ 40) :
    s5 (digits a b c d e f g h) = digits (a + c) (b + d) (c + e) (d + f) (e + g) (f + h) g h := by
  have q : (digits a b c d e f g h) >>> 16 = digits c d e f g h 0 0 := by
    rw [Nat.shiftRight_eq_div_pow]; unfold digits; omega
  unfold s5
  rw [q]
  unfold digits
  omega
theorem s6_digits (a b c d e f g h : Nat) (ha : a ≤ 40) (hb : b ≤ 40) (hc : c ≤ 40) (hd : d ≤ 40) (he : e ≤ 40) (hf : f ≤ 40) (hg : g ≤ 40) (hh : h ≤ 40) :
    s6 (digits a b c d e f g h) = digits (a + e) (b + f) (c + g) (d + h) e f g h := by
  have q : (digits a b c d e f g h) >>> 32 = digits e f g h 0 0 0 0 := by
    rw [Nat.shiftRight_eq_div_pow]; unfold digits; omega
  unfold s6
  rw [q]
  unfold digits
  omega
theorem swar_bytes (a b c d e f g h : Nat) (ha : a < 256) (hb : b < 256) (hc : c < 256) (hd : d < 256) (he : e < 256) (hf : f < 256) (hg : g < 256) (hh : h < 256) :
    swar (ofBytes [a, b, c, d, e, f, g, h]) = byteCount a + byteCount b + byteCount c + byteCount d + byteCount e + byteCount f + byteCount g + byteCount h := by
  have ht := (t123 [a, b, c, d, e, f, g, h] (by simp; omega)).2
  simp only [List.length_cons, List.length_nil, Nat.reduceAdd] at ht
  have e1 : ∀ x, s1 x = t1 8 x := fun x => by unfold s1 t1; rw [masks.1, Nat.shiftRight_eq_div_pow]
  have e2 : ∀ x, s2 x = t2 8 x := fun x => by unfold s2 t2; rw [masks.2.1, Nat.shiftRight_eq_div_pow]
  have e3 : ∀ x, s3 x = t3 8 x := fun x => by unfold s3 t3; rw [masks.2.2, Nat.shiftRight_eq_div_pow]
  unfold swar
  rw [e1, e2, e3, ht]
  have := (byte_ok a ha).2.2.2.2.2; have := (byte_ok b hb).2.2.2.2.2; have := (byte_ok c hc).2.2.2.2.2; have := (byte_ok d hd).2.2.2.2.2
  have := (byte_ok e he).2.2.2.2.2; have := (byte_ok f hf).2.2.2.2.2; have := (byte_ok g hg).2.2.2.2.2; have := (byte_ok h hh).2.2.2.2.2
  simp only [List.map_cons, List.map_nil, ofBytes]
  generalize byteCount a = a at *; generalize byteCount b = b at *; generalize byteCount c = c at *; generalize byteCount d = d at *
  generalize byteCount e = e at *; generalize byteCount f = f at *; generalize byteCount g = g at *; generalize byteCount h = h at *
  have h127 : ∀ x, x &&& 127 = x % 128 := fun x => Nat.and_two_pow_sub_one_eq_mod x 7
  rw [h127]
  rw [show 256 * (256 * (256 * (256 * (256 * (256 * (256 * (256 * 0 + h) + g) + f) + e) + d) + c) + b) + a = digits a b c d e f g h from by unfold digits; omega]
  rw [s4_digits a b c d e f g h (by omega) (by omega) (by omega) (by omega) (by omega) (by omega) (by omega) (by omega)]
  rw [s5_digits _ _ _ _ _ _ _ _ (by omega) (by omega) (by omega) (by omega) (by omega) (by omega) (by omega) (by omega)]
  rw [s6_digits _ _ _ _ _ _ _ _ (by omega) (by omega) (by omega) (by omega) (by omega) (by omega) (by omega) (by omega)]
  unfold digits
  omega
theorem chunk (x k : Nat) : ((List.range 8).map (fun i => 8 * k + i) |>.filter x.testBit).length = byteCount (x / 2 ^ (8 * k) % 256) := by
  unfold byteCount
  rw [List.filter_map, List.length_map]
  congr 1
  apply List.filter_congr
  intro i hi
  have hi := List.mem_range.1 hi
  have h := Nat.testBit_mod_two_pow (x / 2 ^ (8 * k)) 8 i
  simp only [Nat.reducePow] at h
  rw [h, Nat.testBit_div_two_pow]
  simp [hi, Nat.add_comm]
theorem range64 : List.range 64 = (List.range 8).map (fun i => 8 * 0 + i) ++ (List.range 8).map (fun i => 8 * 1 + i) ++ (List.range 8).map (fun i => 8 * 2 + i) ++ (List.range 8).map (fun i => 8 * 3 + i) ++
    (List.range 8).map (fun i => 8 * 4 + i) ++ (List.range 8).map (fun i => 8 * 5 + i) ++ (List.range 8).map (fun i => 8 * 6 + i) ++ (List.range 8).map (fun i => 8 * 7 + i) := by decide
theorem swar_eq (x : Nat) (hx : x < 18446744073709551616) : swar x = (elems x).length := by
  have hb : x = ofBytes [x / 2 ^ (8 * 0) % 256, x / 2 ^ (8 * 1) % 256, x / 2 ^ (8 * 2) % 256, x / 2 ^ (8 * 3) % 256, x / 2 ^ (8 * 4) % 256, x / 2 ^ (8 * 5) % 256, x / 2 ^ (8 * 6) % 256, x / 2 ^ (8 * 7) % 256] := by
    simp only [ofBytes, Nat.reducePow, Nat.reduceMul]; omega
  conv => lhs; rw [hb]
  rw [swar_bytes _ _ _ _ _ _ _ _ (by omega) (by omega) (by omega) (by omega) (by omega) (by omega) (by omega) (by omega)]
  unfold elems
  rw [range64]
  simp only [List.filter_append, List.length_append, chunk]
end Go.Proofs.YtiiiinoappjhdaaDoor
namespace Go.Proofs.YtiiiinoappjhdaaDoor
open Go.RowKit
theorem wrap_u64n (n : Nat) (h : n < 18446744073709551616) : IntKind.u64.wrap (n : Int) = (n : Int) := by
  have : IntKind.u64.wrap (n : Int) = (n : Int) % 18446744073709551616 := by simp [IntKind.wrap, IntKind.signed, IntKind.bits]
  rw [this]; omega
theorem bits_and_n (a b : Nat) (ha : a < 2 ^ 64) (hb : b < 2 ^ 64) : bits .and .u64 (a : Int) (b : Int) = ((a &&& b : Nat) : Int) := by
  have h1 : (BitVec.ofInt 64 (a : Int)).toNat = a := by rw [BitVec.ofInt_natCast, BitVec.toNat_ofNat]; exact Nat.mod_eq_of_lt ha
  have h2 : (BitVec.ofInt 64 (b : Int)).toNat = b := by rw [BitVec.ofInt_natCast, BitVec.toNat_ofNat]; exact Nat.mod_eq_of_lt hb
  show IntKind.u64.wrap ((BitVec.ofInt 64 (a : Int) &&& BitVec.ofInt 64 (b : Int)).toNat : Int) = _
  rw [BitVec.toNat_and, h1, h2, wrap_u64n _ (Nat.and_lt_two_pow _ hb)]
theorem bits_or_n (a b : Nat) (ha : a < 2 ^ 64) (hb : b < 2 ^ 64) : bits .or .u64 (a : Int) (b : Int) = ((a ||| b : Nat) : Int) := by
  have h1 : (BitVec.ofInt 64 (a : Int)).toNat = a := by rw [BitVec.ofInt_natCast, BitVec.toNat_ofNat]; exact Nat.mod_eq_of_lt ha
  have h2 : (BitVec.ofInt 64 (b : Int)).toNat = b := by rw [BitVec.ofInt_natCast, BitVec.toNat_ofNat]; exact Nat.mod_eq_of_lt hb
  show IntKind.u64.wrap ((BitVec.ofInt 64 (a : Int) ||| BitVec.ofInt 64 (b : Int)).toNat : Int) = _
  rw [BitVec.toNat_or, h1, h2, wrap_u64n _ (Nat.or_lt_two_pow ha hb)]
theorem pow_cast (n : Nat) : ((2 : Int) ^ n) = ((2 ^ n : Nat) : Int) := by simp
theorem pow_lt64 (n : Nat) (h : n < 64) : 2 ^ n < 18446744073709551616 := Nat.pow_lt_pow_right (a := 2) (n := 64) (by decide) h
set_option maxHeartbeats 400000 in
theorem Below_any (n : Nat) (w : World) (hn : n ≤ 60) :
    Calls Tryd.prog 51 #[.int .i64 n] w fun e w' => e = .returned (.int .u64 ((2 ^ n - 1 : Nat) : Int)) ∧ w = w' := by
  go_enter Tryd.func51, Tryd.ntmps51
  go_wp2
  go_ret
  have h1 := pow_lt64 n (by omega)
  have h0 := Nat.two_pow_pos n
  refine ⟨ret_int ?_, rfl⟩
  rw [pow_cast, wrap_u64n _ h1]
  have e : ((2 ^ n : Nat) : Int) - 1 = ((2 ^ n - 1 : Nat) : Int) := by omega
  rw [e, wrap_u64n _ (by omega)]
set_option maxHeartbeats 400000 in
theorem With_any (S x : Nat) (w : World) (hS : S < 2 ^ 64) (hx : x < 64) :
    Calls Tryd.prog 66 #[.int .u64 S, .int .i64 x] w fun e w' => e = .returned (.int .u64 ((S ||| 2 ^ x : Nat) : Int)) ∧ w = w' := by
  go_enter Tryd.func66, Tryd.ntmps66
  go_wp2
  go_ret
  have h1 := pow_lt64 x hx
  refine ⟨ret_int ?_, rfl⟩
  rw [pow_cast, wrap_u64n _ h1, bits_or_n _ _ hS (by omega)]
end Go.Proofs.YtiiiinoappjhdaaDoor
namespace Go.Proofs.YtiiiinoappjhdaaDoor
open Go.RowKit
theorem s12_fact (S c m k : Nat) (hS : S < 18446744073709551616) (hm : m < 18446744073709551616) (hk : k = ((S / c) &&& m) + (S &&& m)) (hlt : k < 18446744073709551616) :
    IntKind.u64.wrap (bits .and .u64 ((S : Int) / (c : Int)) (m : Int) + bits .and .u64 (S : Int) (m : Int)) = (k : Int) := by
  have hd : (S : Int) / (c : Int) = ((S / c : Nat) : Int) := by simp
  have hlt2 : S / c < 2 ^ 64 := Nat.lt_of_le_of_lt (Nat.div_le_self _ _) hS
  rw [hd, bits_and_n _ m hlt2 hm, bits_and_n _ m hS hm, hk]
  have e : (((S / c &&& m : Nat) : Int) + ((S &&& m : Nat) : Int)) = (((S / c &&& m) + (S &&& m) : Nat) : Int) := by simp
  rw [e, wrap_u64n _ (by rw [← hk]; exact hlt)]
theorem s3_fact (S m k : Nat) (hS : S / 16 + S < 18446744073709551616) (hm : m < 18446744073709551616) (hk : k = (S / 16 + S) &&& m) :
    bits .and .u64 (IntKind.u64.wrap ((S : Int) / 16 + (S : Int))) (m : Int) = (k : Int) := by
  have hd : (S : Int) / 16 + (S : Int) = ((S / 16 + S : Nat) : Int) := by simp
  rw [hd, wrap_u64n _ hS, bits_and_n _ m hS hm, hk]
theorem s4_fact (S c k : Nat) (hk : k = (S + S / c) % 18446744073709551616) :
    IntKind.u64.wrap ((S : Int) + (S : Int) / (c : Int)) = (k : Int) := by
  have hd : (S : Int) + (S : Int) / (c : Int) = ((S + S / c : Nat) : Int) := by simp
  have e0 : ∀ n : Int, IntKind.u64.wrap n = n % 18446744073709551616 := fun n => by simp [IntKind.wrap, IntKind.signed, IntKind.bits]
  rw [hd, e0, hk]; simp
theorem and_low (a : Nat) (ha : a < 18446744073709551616) : bits .and .i64 (wrap64 (a : Int)) 127 = ((a &&& 127 : Nat) : Int) := by
  have h1 : (BitVec.ofInt 64 (wrap64 (a : Int))).toNat = a := by
    rw [BitVec.toNat_ofInt]
    unfold wrap64
    omega
  have h2 : (BitVec.ofInt 64 127).toNat = 127 := by decide
  show IntKind.i64.wrap ((BitVec.ofInt 64 (wrap64 (a : Int)) &&& BitVec.ofInt 64 127).toNat : Int) = _
  rw [BitVec.toNat_and, h1, h2]
  have h3 : a &&& 127 ≤ 127 := Nat.and_le_right
  rw [IntKind.wrap_i64]
  omega
/-- Each sum of two halves of a mask fits. -/
theorem s_lt (a b m : Nat) (hm : m ≤ 6148914691236517205) : (a &&& m) + (b &&& m) < 18446744073709551616 := by
  have h1 : a &&& m ≤ m := Nat.and_le_right
  have h2 : b &&& m ≤ m := Nat.and_le_right
  omega
set_option maxHeartbeats 400000 in
theorem OnesCount64_any (S : Nat) (w : World) (hS : S < 18446744073709551616) :
    Calls Tryd.prog 58 #[.int .u64 S] w fun e w' => e = .returned (.int .i64 ((elems S).length : Nat)) ∧ w = w' := by
  obtain ⟨a1, H1⟩ : ∃ a, Hid (a = s1 S) := ⟨_, rfl⟩
  obtain ⟨a2, H2⟩ : ∃ a, Hid (a = s2 a1) := ⟨_, rfl⟩
  obtain ⟨a3, H3⟩ : ∃ a, Hid (a = s3 a2) := ⟨_, rfl⟩
  obtain ⟨a4, H4⟩ : ∃ a, Hid (a = s4 a3) := ⟨_, rfl⟩
  obtain ⟨a5, H5⟩ : ∃ a, Hid (a = s5 a4) := ⟨_, rfl⟩
  obtain ⟨a6, H6⟩ : ∃ a, Hid (a = s6 a5) := ⟨_, rfl⟩
  have hsw : Hid (a6 &&& 127 = (elems S).length) := by
    have := swar_eq S hS
    unfold swar at this
    rw [← H1.out, ← H2.out, ← H3.out, ← H4.out, ← H5.out, ← H6.out] at this
    exact this
  have f1 : IntKind.u64.wrap (bits .and .u64 ((S : Int) / 2) 6148914691236517205 + bits .and .u64 (S : Int) 6148914691236517205) = (a1 : Int) :=
    s12_fact S 2 6148914691236517205 a1 hS (by decide) (by rw [H1.out]; unfold s1 m0; rw [Nat.shiftRight_eq_div_pow]) (by rw [H1.out]; exact s_lt _ _ _ (by decide))
  have l1 : a1 < 18446744073709551616 := by rw [H1.out]; exact s_lt _ _ _ (by decide)
  have f2 : IntKind.u64.wrap (bits .and .u64 ((a1 : Int) / 4) 3689348814741910323 + bits .and .u64 (a1 : Int) 3689348814741910323) = (a2 : Int) :=
    s12_fact a1 4 3689348814741910323 a2 l1 (by decide) (by rw [H2.out]; unfold s2 m1; rw [Nat.shiftRight_eq_div_pow]) (by rw [H2.out]; exact s_lt _ _ _ (by decide))
  have l2 : a2 / 16 + a2 < 18446744073709551616 := by
    have h1 : (a1 >>> 2) &&& m1 ≤ m1 := Nat.and_le_right
    have h2 : a1 &&& m1 ≤ m1 := Nat.and_le_right
    have h3 : a2 ≤ m1 + m1 := by rw [H2.out]; unfold s2; omega
    unfold m1 at h3; omega
  have f3 : bits .and .u64 (IntKind.u64.wrap ((a2 : Int) / 16 + (a2 : Int))) 1085102592571150095 = (a3 : Int) :=
    s3_fact a2 1085102592571150095 a3 l2 (by decide) (by rw [H3.out]; unfold s3 m2; rw [Nat.shiftRight_eq_div_pow])
  have f4 : IntKind.u64.wrap ((a3 : Int) + (a3 : Int) / 256) = (a4 : Int) := s4_fact a3 256 a4 (by rw [H4.out]; unfold s4; rw [Nat.shiftRight_eq_div_pow])
  have f5 : IntKind.u64.wrap ((a4 : Int) + (a4 : Int) / 65536) = (a5 : Int) := s4_fact a4 65536 a5 (by rw [H5.out]; unfold s5; rw [Nat.shiftRight_eq_div_pow])
  have f6 : IntKind.u64.wrap ((a5 : Int) + (a5 : Int) / 4294967296) = (a6 : Int) := s4_fact a5 4294967296 a6 (by rw [H6.out]; unfold s6; rw [Nat.shiftRight_eq_div_pow])
  clear l1 l2 hS
  go_enter Tryd.func58, Tryd.ntmps58
  go_wp2
  go_ret
  refine ⟨ret_int (k := .i64) (a := bits .and .i64 (wrap64 (a6 : Int)) 127) ?_, rfl⟩
  rw [and_low a6 (by rw [H6.out]; unfold s6; omega), hsw.out]
/-- The table of the library's, in its variable. -/
def Tab (w : World) : Prop := ∀ j, j < 64 → w.cell? ⟨0, j, none⟩ = some (.int .u8 (Lib.deBruijn64tab.getD j 0))
theorem tz_key (x a : Nat) (hx : x < 18446744073709551616) (hx0 : x ≠ 0) (hlow : x &&& (18446744073709551616 - x) = a) :
    IntKind.u64.wrap (bits BinOp.and IntKind.u64 (x : Int) (IntKind.u64.wrap (-(x : Int))) * 285870213051353865) / 288230376151711744 = ((a * 285870213051353865 % 18446744073709551616 / 288230376151711744 : Nat) : Int) := by
  have e0 : ∀ n : Int, IntKind.u64.wrap n = n % 18446744073709551616 := fun n => by simp [IntKind.wrap, IntKind.signed, IntKind.bits]
  have e1 : IntKind.u64.wrap (-(x : Int)) = ((18446744073709551616 - x : Nat) : Int) := by rw [e0]; omega
  rw [e1, bits_and_n x _ hx (by show _ < 18446744073709551616; omega), hlow, e0]
  omega
set_option maxHeartbeats 1000000 in
theorem tz_core (x k idx : Nat) (w : World) (hx0 : ((x : Int) == 0) = false)
    (key : IntKind.u64.wrap (bits BinOp.and IntKind.u64 (x : Int) (IntKind.u64.wrap (-(x : Int))) * 285870213051353865) / 288230376151711744 = (idx : Int))
    (hi : idx < 64) (hk : k < 64) (hcell : w.cell? ⟨0, idx, none⟩ = some (.int .u8 k)) :
    Calls Tryd.prog 74 #[.int .u64 x] w fun e w' => e = .returned (.int .i64 k) ∧ w = w' := by
  go_enter Tryd.func74, Tryd.ntmps74
  go_wp2_with (simp only [key])
  go_ret
  exact ⟨rfl, rfl⟩
theorem TrailingZeros64_any (x : Nat) (hx : x < 18446744073709551616) (h0 : x ≠ 0) (w : World) (hT : Tab w) :
    Calls Tryd.prog 74 #[.int .u64 x] w fun e w' => e = .returned (.int .i64 (Lib.ctz 64 x)) ∧ w = w' := by
  obtain ⟨hlow, hk⟩ := Lib.lowest_bit 64 x h0 hx
  obtain ⟨hi, htab⟩ := Lib.deBruijn64_at _ hk
  have hcell := hT _ hi
  rw [htab] at hcell
  exact tz_core x _ _ w (by simp; omega) (tz_key x _ hx h0 hlow) hi hk hcell
theorem Tab.below {w w' : World} {B : Nat} (h : Tab w) (hb : Below B w w') (hB : 0 < B) : Tab w' :=
  fun j hj => (hb.cell (p := ⟨0, j, none⟩) hB).trans (h j hj)
theorem Tab.lt {w : World} (h : Tab w) : 0 < w.heap.size := World.block_lt_of_cell? _ _ (h 0 (by decide))
theorem Tab.on {w w' : World} (h : Tab w) (hb : Below w.heap.size w w') : Tab w' := h.below hb h.lt
set_option maxHeartbeats 400000 in
theorem Size_any (S : Nat) (w : World) (hS : S < 18446744073709551616) :
    Calls Tryd.prog 36 #[.int .u64 S] w fun e w' => e = .returned (.int .i64 ((elems S).length : Nat)) ∧ w = w' := by
  go_enter Tryd.func36, Tryd.ntmps36
  go_wp2_with (go_at_call 58; refine (OnesCount64_any S _ hS).mono ?_; rintro e w' ⟨rfl, rfl⟩)
  go_ret
  exact ⟨rfl, rfl⟩
/-- The set of a list. -/
def ofList (l : List Int) : Nat := l.foldl (fun S x => S ||| 2 ^ x.toNat) 0
theorem foldl_or_lt (n : Nat) (hn : n ≤ 64) : ∀ (l : List Int) (S : Nat), S < 2 ^ n → (∀ x ∈ l, 0 ≤ x ∧ x < n) → l.foldl (fun S x => S ||| 2 ^ x.toNat) S < 2 ^ n
  | [], S, hS, _ => hS
  | x :: l, S, hS, h => foldl_or_lt n hn l _ (with_lt S _ n hS (by have := h x (by simp); omega)) (fun y hy => h y (List.mem_cons_of_mem _ hy))
theorem ofList_lt (n : Nat) (hn : n ≤ 64) (l : List Int) (h : ∀ x ∈ l, 0 ≤ x ∧ x < n) : ofList l < 2 ^ n := foldl_or_lt n hn l 0 (Nat.two_pow_pos n) h
theorem mem_getD {l : List Int} {k : Nat} (hk : k < l.length) : l.getD k 0 ∈ l := by
  have e : l.getD k 0 = l[k] := by simp [List.getD_eq_getElem?_getD, List.getElem?_eq_getElem hk]
  rw [e]; exact List.getElem_mem _
end Go.Proofs.YtiiiinoappjhdaaDoor
namespace Go.Proofs.YtiiiinoappjhdaaDoor
open Go.RowKit Go.Deep Go.ChangeShapes Go.WideShapes
section
variable {H : Type} {enc : TypeId × Value → H} {W : World} {base : Nat}
theorem weightsAll_mem {P : Program} {e : TypeId} : ∀ {l : List (DataW H)} {d : DataW H}, d ∈ l → ∀ n ∈ d.weights P e, n ∈ DataW.weightsAll P e l
  | [], _, h => by cases h
  | x :: r, d, h => by
    intro n hn
    rw [DataW.weightsAll, List.mem_append]
    rcases List.mem_cons.1 h with rfl | h'
    · exact .inl hn
    · exact .inr (weightsAll_mem h' n hn)
theorem bytes_int : Tryd.prog.bytesOf 3 = 8 := by kernel_rfl
theorem bytes_row : Tryd.prog.bytesOf 25 = 24 := by kernel_rfl
theorem cells_int : Tryd.prog.cellsOf 3 = 1 := by kernel_rfl
theorem cells_row : Tryd.prog.cellsOf 25 = 1 := by kernel_rfl
theorem cells_auto : Tryd.prog.cellsOf 24 = 1 := by kernel_rfl
theorem reach_big {n : Nat} (h : n * 8 ≤ reachBytes) : n ≤ big := by unfold reachBytes at h; unfold big; omega
theorem add_spot {a : Addr} {i : Nat} {v : Value} (h : W.cell? (a.add i) = some v) : a.add i = ⟨a.block, a.off + i, none⟩ := by
  by_cases h0 : i = 0
  · subst h0
    simp only [Addr.add, if_true] at h ⊢
    obtain ⟨b, o, sp⟩ := a
    obtain rfl := cell_spot h
    rfl
  · simp [Addr.add, h0]
theorem row_ints {A : Option Addr} {L C : Nat} {zs : List Int} (hl : L ≤ C) (hz : zs.length = C) (hn : A = none → C = 0) (hc : ∀ a, A = some a → ∀ c, c < C → W.cell? (a.add c) = some (.int .i64 (zs.getD c 0))) (hb : C ≤ big) : Ints W (.slice A L C) (zs.take L) := by
  have hll : (zs.take L).length = L := by simp; omega
  refine ⟨A, C, by rw [hll], by omega, fun i hi => ?_⟩
  rw [hll] at hi
  cases A with
  | none => have := hn rfl; omega
  | some a =>
    have h1 := hc a rfl i (by omega)
    have h2 := add_spot h1
    refine ⟨a.block, a.off, ?_, ?_⟩
    · have h0 := add_spot (hc a rfl 0 (by omega))
      simp only [Addr.add, if_true, Nat.add_zero] at h0
      rw [h0]
    · rw [h2] at h1
      rw [h1]
      congr 2
      simp [List.getD_eq_getElem?_getD, List.getElem?_take, hi]
theorem rows_of_trod {fuel : Nat} {c : Value} {x : DataW H × List MemPlace} (h : DataW.trod enc Tryd.prog W base (fun _ => true) true fuel 22 [c] = some x) (hw : ∀ n ∈ x.1.weights Tryd.prog 22, n ≤ reachBytes) : ∃ m, Rows W c m := by
  rcases open_int_rows Tryd.underlying22 Tryd.underlying25 Tryd.underlying3 cells_row cells_int h with ⟨hc, _⟩ | ⟨a, len, cap, A, L, C, Z, hc, _, hl, _, rfl, hr⟩
  · obtain rfl : c = .slice none 0 0 := by simpa using hc
    exact ⟨[], none, 0, rfl, by simp, fun i hi => by simp at hi⟩
  · obtain rfl : c = .slice (some a) len cap := by simpa using hc
    have hlen : ((List.range len).map fun r => (Z r).take (L r)).length = len := by simp
    have hout := hw ((len + (cap - len)) * Tryd.prog.bytesOf 25) (by simp [DataW.weights, Tryd.underlying22])
    rw [bytes_row] at hout
    have hrow : ∀ r, r < len → C r ≤ big := by
      intro r hr'
      obtain ⟨_, hLC, _, hz, _, hn, _⟩ := hr r (by omega)
      cases hA : A r with
      | none => rw [hn hA]; exact Nat.zero_le _
      | some a' =>
        have hm : (intRow .i64 (A r) (L r) (Z r) : DataW H) ∈ (List.range len).map fun r => (intRow .i64 (A r) (L r) (Z r) : DataW H) := List.mem_map.2 ⟨r, by simpa using hr', rfl⟩
        have hb := hw ((List.length (lits .i64 ((Z r).take (L r)) : List (DataW H)) + List.length (lits .i64 ((Z r).drop (L r)) : List (DataW H))) * Tryd.prog.bytesOf 3) (by
          rw [DataW.weights, Tryd.underlying22]
          refine List.mem_cons_of_mem _ (List.mem_append_left _ (weightsAll_mem hm _ ?_))
          simp [intRow, hA, DataW.weights, Tryd.underlying25])
        rw [bytes_int] at hb
        simp only [lits, List.length_map, List.length_take, List.length_drop] at hb
        exact reach_big (by omega)
    refine ⟨(List.range len).map fun r => (Z r).take (L r), some a, cap, by rw [hlen], by rw [hlen]; unfold reachBytes at hout; unfold big; omega, fun i hi => ?_⟩
    rw [hlen] at hi
    obtain ⟨hcell, hLC, _, hz, _, hn, hcc⟩ := hr i (by omega)
    have h2 := add_spot hcell
    have h00 := add_spot (hr 0 (by omega)).1
    simp only [Addr.add, if_true, Nat.add_zero] at h00
    refine ⟨a.block, a.off, .slice (A i) (L i) (C i), by rw [h00], by rw [h2] at hcell; exact hcell, ?_⟩
    have e1 : ((List.range len).map fun r => (Z r).take (L r)).getD i [] = (Z i).take (L i) := by simp [List.getD_eq_getElem?_getD, hi]
    rw [e1]
    exact row_ints hLC hz hn (fun a' ha c hc' => (hcc a' ha).2 c hc') (hrow i hi)
end
end Go.Proofs.YtiiiinoappjhdaaDoor
namespace Go.Proofs.YtiiiinoappjhdaaDoor
open Go.RowKit Go.Shelf
/-- A set of blocks. -/
abbrev Blocks := Nat → Prop
/-- Only the blocks of X may have been turned; new ones may have come. -/
structure Turn (X : Blocks) (W W' : World) : Prop where
  os : W'.os = W.os
  tape : W'.tape = W.tape
  output : W'.output = W.output
  size : W.heap.size ≤ W'.heap.size
  block : ∀ k, k < W.heap.size → ¬ X k → W'.heap[k]? = W.heap[k]?
theorem Turn.refl (X : Blocks) (W : World) : Turn X W W := ⟨rfl, rfl, rfl, Nat.le_refl _, fun _ _ _ => rfl⟩
theorem Turn.trans {X Y : Blocks} {A B C : World} (h : Turn X A B) (k : Turn Y B C) (hXY : ∀ i, Y i → X i ∨ A.heap.size ≤ i) : Turn X A C :=
  ⟨k.os.trans h.os, k.tape.trans h.tape, k.output.trans h.output, Nat.le_trans h.size k.size, fun i hi hX => (k.block i (Nat.lt_of_lt_of_le hi h.size) (fun hY => by
    rcases hXY i hY with h1 | h1
    · exact hX h1
    · omega)).trans (h.block i hi hX)⟩
theorem Turn.of_below {X : Blocks} {W W' : World} (h : Below W.heap.size W W') : Turn X W W' := ⟨h.os, h.tape, h.output, h.size, fun k hk _ => h.block k hk⟩
/-- What a round keeps: whatever lies below n₀, and the iterator's own blocks. -/
structure Keep (n₀ : Nat) (X : Blocks) (W W' : World) : Prop where
  os : W'.os = W.os
  tape : W'.tape = W.tape
  output : W'.output = W.output
  size : W.heap.size ≤ W'.heap.size
  block : ∀ k, k < W.heap.size → (k < n₀ ∨ X k) → W'.heap[k]? = W.heap[k]?
theorem Keep.refl (n₀ : Nat) (X : Blocks) (W : World) : Keep n₀ X W W := ⟨rfl, rfl, rfl, Nat.le_refl _, fun _ _ _ => rfl⟩
theorem Keep.trans {n₀ : Nat} {X : Blocks} {A B C : World} (h : Keep n₀ X A B) (k : Keep n₀ X B C) : Keep n₀ X A C :=
  ⟨k.os.trans h.os, k.tape.trans h.tape, k.output.trans h.output, Nat.le_trans h.size k.size, fun i hi hX => (k.block i (Nat.lt_of_lt_of_le hi h.size) hX).trans (h.block i hi hX)⟩
theorem Keep.of_below {n₀ : Nat} {X : Blocks} {W W' : World} (h : Below W.heap.size W W') : Keep n₀ X W W' := ⟨h.os, h.tape, h.output, h.size, fun k hk _ => h.block k hk⟩
theorem Keep.below {n₀ : Nat} {X : Blocks} {W W' : World} (h : Keep n₀ X W W') (hn : n₀ ≤ W.heap.size) : Below n₀ W W' := ⟨h.os, h.tape, h.output, h.size, fun k hk => h.block k (Nat.lt_of_lt_of_le hk hn) (.inl hk)⟩
/-- A step that turns one block at most, which is neither. -/
theorem Keep.of_grownBy {n₀ : Nat} {X : Blocks} {W W' : World} {row : Option Nat} (hg : W.grownBy W' row) (hr : ∀ k, row = some k → n₀ ≤ k ∧ ¬ X k) : Keep n₀ X W W' :=
  ⟨hg.os, hg.tape, hg.output, hg.size, fun k hk hX => hg.block k hk (fun e => by
    obtain ⟨h1, h2⟩ := hr k e.symm
    rcases hX with h | h
    · omega
    · exact h2 h)⟩
/-- The caller's invariant minds neither a turn of the iterator's blocks, nor new ones, nor a turn of a block of book-keeping. -/
def Stable (B : Nat) {β : Type} (I : Blocks → β → World → Prop) : Prop :=
  ∀ X X' s W W', I X s W → W'.os = W.os → W'.tape = W.tape → W'.output = W.output → W.heap.size ≤ W'.heap.size →
    (∀ k o, W.heap[k]? = some o → ¬ X k → (k < B ∨ o.isCells = true) → W'.heap[k]? = some o) → (∀ k, X' k → X k ∨ W.heap.size ≤ k) → I X' s W'
/-- .. as the iterator is told of it. -/
def Minds {β : Type} (J : Blocks → β → World → Prop) : Prop :=
  ∀ X X' s W W', J X s W → Turn X W W' → (∀ k, X' k → X k ∨ W.heap.size ≤ k) → J X' s W'
/-- WHAT AN ITERATOR PROMISES: gf with what comes before and behind yield among its arguments; encs: yield's arguments; n₀: what it reads lies below; G: what holds of an element while its round begins. -/
def SeqX {α : Type} (gf : Nat) (fb lb : Array Value) (encs : α → Array Value) (n₀ : Nat) (G : Blocks → α → World → Prop) (S Sp : List α → Prop) (w0 : World) : Prop :=
  ∀ (l : Nat) (J Jx : Blocks → List α → World → Prop) (W : World), Below w0.heap.size w0 W → Minds J → Minds Jx →
    (∀ X pre x W1, (∀ k, X k → k < W1.heap.size) → J X pre W1 → G X x W1 → Sp (pre ++ [x]) → YieldAt Fence.wide 0 Tryd.prog l (encs x) W1 fun e W' =>
      ((e = .returned (.bool true) ∧ J X (pre ++ [x]) W') ∨ (e = .returned (.bool false) ∧ Jx X (pre ++ [x]) W')) ∧ Keep n₀ X W1 W') →
    J (fun _ => False) [] W →
    Calls Tryd.prog gf ((fb ++ #[.func (.yield l) #[] #[]]) ++ lb) W fun e W' => (∃ v, e = .returned v) ∧ ((∃ X xs, S xs ∧ J X xs W') ∨ (∃ X pre, Sp pre ∧ Jx X pre W'))
/-- How a round may be left. -/
def postX {α : Type} (B n₀ : Nat) (I : Blocks → List α → World → Prop) (Ix : Code → Blocks → List α → World → Prop) (X : Blocks) (xs : List α) (W : World) : Exit → Act → World → Prop
  | .normal, _, W' => KeepsFrom B W W' ∧ Keep n₀ X W W' ∧ I X xs W'
  | .ret, _, W' => KeepsFrom B W W' ∧ Keep n₀ X W W' ∧ Ix .ret X xs W'
  | .exit id, _, W' => KeepsFrom B W W' ∧ Keep n₀ X W W' ∧ Ix (.exit id) X xs W'
  | .goto t, _, W' => KeepsFrom B W W' ∧ Keep n₀ X W W' ∧ Ix (.goto t) X xs W'
  | .panic _, _, _ => False
  | .outgrown, _, _ => False
theorem putObj_book (W : World) (l : Nat) (o' : Obj) : (W.putObj l o').os = W.os ∧ (W.putObj l o').tape = W.tape ∧ (W.putObj l o').output = W.output ∧ W.heap.size ≤ (W.putObj l o').heap.size :=
  ⟨rfl, rfl, rfl, by simp⟩
theorem Stable.put {B : Nat} {β : Type} {I : Blocks → β → World → Prop} (h : Stable B I) {X : Blocks} {s : β} {W : World} {l : Nat} {o : Obj} (o' : Obj) (hs : I X s W) (hB : B ≤ l) (hl : W.heap[l]? = some o) (ho : o.isCells = false) : I X s (W.putObj l o') := by
  obtain ⟨a, b, c, d⟩ := putObj_book W l o'
  refine h X X s W _ hs a b c d (fun k ok hk _ hc => ?_) (fun k hk => .inl hk)
  by_cases e : k = l
  · subst e
    rw [hl] at hk; cases hk
    rcases hc with h1 | h1
    · omega
    · rw [ho] at h1; cases h1
  · exact (World.putObj_heap_other e).trans hk
theorem Stable.new {B : Nat} {β : Type} {I : Blocks → β → World → Prop} (h : Stable B I) {X : Blocks} {s : β} {W : World} (o : Obj) (hs : I X s W) : I X s (W.alloc o) :=
  h X X s W _ hs rfl rfl rfl (by simp) (fun k ok hk _ _ => (Below.heap_alloc W o k (Array.getElem?_eq_some_iff.1 hk).1).trans hk) (fun k hk => .inl hk)
theorem keep_put {n₀ : Nat} {X : Blocks} {W : World} {l : Nat} (o' : Obj) (hn : n₀ ≤ l) (hX : ¬ X l) : Keep n₀ X W (W.putObj l o') := by
  obtain ⟨a, b, c, d⟩ := putObj_book W l o'
  refine ⟨a, b, c, d, fun k hk hc => World.putObj_heap_other (fun e => ?_)⟩
  subst e
  rcases hc with h | h
  · omega
  · exact hX h
/-- THE STATEMENT 'for .. := range f { .. }' over an iterator that keeps its promise. -/
theorem range_law {α : Type} {g : Operand} {ps : Array Tmp} {assign body : Code} {Q : Exit → Act → World → Prop} {a : Act} {w : World} {gf : Nat} {fb lb : Array Value}
    (hg : a.eval g = .func (.func gf) fb lb) (eg : ∀ args w, (callFunc gf args).run Tryd.prog w = .ok (.enter gf args) w)
    {encs : α → Array Value} {n₀ : Nat} {G : Blocks → α → World → Prop} {S Sp : List α → Prop} {w0 : World} (hseq : SeqX gf fb lb encs n₀ G S Sp w0)
    (hG : ∀ X x W W', G X x W → Keep n₀ X W W' → G X x W') (hn : n₀ ≤ w.heap.size) (hb0 : Below w0.heap.size w0 w) (hps : ∀ x, (encs x).size = ps.size)
    (I : Blocks → List α → World → Prop) (Ix : Code → Blocks → List α → World → Prop) (hI : Stable w.heap.size I) (hIx : ∀ c, Stable w.heap.size (Ix c)) (h0 : I (fun _ => False) [] w)
    (Ax : α → Act → World → Prop) (hAx : ∀ x a', Stable w.heap.size (fun _ (_ : Unit) W => Ax x a' W))
    (hassign : ∀ (l : Nat) (X : Blocks) (pre : List α) (x : α) (W : World) (K : Act → World → Prop), I X pre W → (∀ a' W', KeepsFrom w.heap.size W W' → Keep n₀ X W W' → I X pre W' → Ax x a' W' → K a' W') →
      assign.wpIn (Fence.wide.inRound l) 0 Tryd.prog (Exit.then K (fun _ _ _ => False)) { tmps := (ps.zip (encs x)).foldl (fun t (p, v) => t.setIfInBounds p v) a.tmps, defers := [] } W)
    (hbody : ∀ (l : Nat) (X : Blocks) (pre : List α) (x : α) (a' : Act) (W : World), w.heap.size ≤ l → (∃ r, W.heap[l]? = some (.loop r)) → ¬ X l → (∀ k, X k → k < W.heap.size) → I X pre W → G X x W → Ax x a' W → Sp (pre ++ [x]) →
      body.wpIn (Fence.wide.inRound l) 0 Tryd.prog (postX w.heap.size n₀ I Ix X (pre ++ [x]) W) a' W)
    (hdone : ∀ (D : Nat) (X : Blocks) (xs : List α) (W : World), w.heap.size ≤ D → S xs → I X xs W → W.heap[D]? = some (.deferred (some [])) → Q .normal { a with defers := { target := .collected D, args := #[] } :: a.defers } W)
    (hstop : ∀ (D : Nat) (X : Blocks) (c : Code) (pre : List α) (W : World), w.heap.size ≤ D → Sp pre → Ix c X pre W → W.heap[D]? = some (.deferred (some [])) → c.wpIn Fence.wide 0 Tryd.prog Q { a with defers := { target := .collected D, args := #[] } :: a.defers } W) :
    (Code.rangeFunc g ps assign body).wpIn Fence.wide 0 Tryd.prog Q a w := by
  refine wpIn_rangeFunc ?_
  intro fn hfn
  obtain ⟨rec, hrec⟩ : ∃ rec : LoopState → Option Code → Loop, rec = fun st pe => { state := st, pending := pe, fn, tmps := a.tmps, params := ps, assign, body, defers := w.heap.size } := ⟨_, rfl⟩
  obtain ⟨W1, hW1⟩ : ∃ W1, (w.alloc (.deferred (some []))).alloc (.loop (rec .ready none)) = W1 := ⟨_, rfl⟩
  have hL1 : W1.heap[w.heap.size + 1]? = some (.loop (rec .ready none)) := by
    rw [← hW1]; have := World.alloc_heap_new (w.alloc (.deferred (some []))) (.loop (rec .ready none)); rwa [World.size_alloc] at this
  have hK1 : W1.heap[w.heap.size]? = some (.deferred (some [])) := by
    rw [← hW1]; exact (Below.heap_alloc _ _ _ (by simp)).trans (World.alloc_heap_new w _)
  have hI1 : I (fun _ => False) [] W1 := by rw [← hW1]; exact hI.new _ (hI.new _ h0)
  have hb1 : Below w0.heap.size w0 W1 := by
    rw [← hW1]; exact hb0.trans ((((Below.refl _ w).alloc (Nat.le_refl _) _).alloc (by simp) _).mono hb0.size)
  refine ⟨w.heap.size + 1, [{ target := .collected w.heap.size, args := #[] }], W1, { target := .fn (.func gf) lb, args := fb ++ #[.func (.yield (w.heap.size + 1)) #[] #[]] }, W1, gf,
    (fb ++ #[.func (.yield (w.heap.size + 1)) #[] #[]]) ++ lb, W1, ?_, ?_, fun f' _ => trivial, ?_, fun h => by simp [Fence.wide] at h, ?_⟩
  · rw [← hW1, hrec]; exact run_enterLoop_outer _ _ _ _ _
  · simp only [resolve, hg]
    simp [go_sem, Deferred.ofValue]
  · simp [invoke, go_sem, eg]
  · refine callsIn_wide.2 ?_
    refine (hseq (w.heap.size + 1)
      (fun X pre W => I X pre W ∧ ¬ X (w.heap.size + 1) ∧ ¬ X w.heap.size ∧ W.heap[w.heap.size + 1]? = some (.loop (rec .ready none)) ∧ W.heap[w.heap.size]? = some (.deferred (some [])))
      (fun X pre W => ∃ c, Ix c X pre W ∧ ¬ X (w.heap.size + 1) ∧ ¬ X w.heap.size ∧ W.heap[w.heap.size + 1]? = some (.loop (rec .done (some c))) ∧ W.heap[w.heap.size]? = some (.deferred (some [])))
      W1 hb1 ?_ ?_ ?_ ⟨hI1, fun h => h, fun h => h, hL1, hK1⟩).mono ?_
    · rintro X X' s A B ⟨h1, h2, h3, h4, h5⟩ ht hX
      have l4 := (Array.getElem?_eq_some_iff.1 h4).1
      refine ⟨hI X X' s A B h1 ht.os ht.tape ht.output ht.size (fun k o hk hx _ => (ht.block k (Array.getElem?_eq_some_iff.1 hk).1 hx).trans hk) hX, fun h => ?_, fun h => ?_, (ht.block _ l4 h2).trans h4, (ht.block _ (by omega) h3).trans h5⟩
      · rcases hX _ h with h | h
        · exact h2 h
        · omega
      · rcases hX _ h with h | h
        · exact h3 h
        · omega
    · rintro X X' s A B ⟨c, h1, h2, h3, h4, h5⟩ ht hX
      have l4 := (Array.getElem?_eq_some_iff.1 h4).1
      refine ⟨c, hIx c X X' s A B h1 ht.os ht.tape ht.output ht.size (fun k o hk hx _ => (ht.block k (Array.getElem?_eq_some_iff.1 hk).1 hx).trans hk) hX, fun h => ?_, fun h => ?_, (ht.block _ l4 h2).trans h4, (ht.block _ (by omega) h3).trans h5⟩
      · rcases hX _ h with h | h
        · exact h2 h
        · omega
      · rcases hX _ h with h | h
        · exact h3 h
        · omega
    · -- one round
      rintro X pre x W hXs ⟨hi, hXl, hXd, hl, hk⟩ hgx hsp
      have hy := run_yield (P := Tryd.prog) (args := encs x) hl (by rw [hrec]; exact hps x)
      rw [hrec] at hy
      refine ⟨fn, _, assign, body, hy, roundIn_of_wpIn trivial (hassign _ X pre x W _ hi ?_)⟩
      clear hy
      intro a' Wa hkfa hkpa hia hax
      have hl' := hkfa.same _ _ (by omega) hl rfl
      have hk' := hkfa.same _ _ (Nat.le_refl _) hk rfl
      have hlt := (Array.getElem?_eq_some_iff.1 hl').1
      refine ⟨_, run_beginRound hl' (by rw [hrec]), ?_⟩
      have hl2 : (Wa.putObj (w.heap.size + 1) (.loop { rec .ready none with state := .busy })).heap[w.heap.size + 1]? = some (.loop { rec .ready none with state := .busy }) := World.putObj_heap_same hlt
      have hk2 : (Wa.putObj (w.heap.size + 1) (.loop { rec .ready none with state := .busy })).heap[w.heap.size]? = some (.deferred (some [])) := (World.putObj_heap_other (by omega)).trans hk'
      have hkp2 : Keep n₀ X Wa (Wa.putObj (w.heap.size + 1) (.loop { rec .ready none with state := .busy })) := keep_put _ (by omega) hXl
      refine wpIn_mono (hbody _ X pre x a' _ (by omega) ⟨_, hl2⟩ hXl (fun k hk => by have h1 := hXs k hk; have h2 := hkpa.size; simp; omega) (hI.put _ hia (by omega) hl' rfl) (hG _ _ _ _ hgx (hkpa.trans hkp2)) ((hAx x a').put (X := X) (s := ()) _ hax (by omega) hl' rfl) hsp) ?_
      have fin : ∀ (jump : Option Code) (W3 : World), KeepsFrom w.heap.size (Wa.putObj (w.heap.size + 1) (.loop { rec .ready none with state := .busy })) W3 →
          (Instr.endRound (w.heap.size + 1) jump).run Tryd.prog W3 = .ok (.bool jump.isNone) (W3.putObj (w.heap.size + 1) (.loop (rec (if jump.isNone then .ready else .done) jump))) ∧
          W3.heap[w.heap.size + 1]? = some (.loop { rec .ready none with state := .busy }) ∧
          (W3.putObj (w.heap.size + 1) (.loop (rec (if jump.isNone then .ready else .done) jump))).heap[w.heap.size + 1]? = some (.loop (rec (if jump.isNone then .ready else .done) jump)) ∧
          (W3.putObj (w.heap.size + 1) (.loop (rec (if jump.isNone then .ready else .done) jump))).heap[w.heap.size]? = some (.deferred (some [])) := fun jump W3 hk3 => by
        have hl3 := hk3.same _ _ (by omega) hl2 rfl
        have := run_endRound (P := Tryd.prog) jump hl3
        rw [hrec] at this ⊢
        exact ⟨this, by rw [hrec] at hl3; exact hl3, World.putObj_heap_same (Array.getElem?_eq_some_iff.1 hl3).1, (World.putObj_heap_other (by omega)).trans (hk3.same _ _ (Nat.le_refl _) hk2 rfl)⟩
      have kp : ∀ (W3 : World) (o : Obj), Keep n₀ X (Wa.putObj (w.heap.size + 1) (.loop { rec .ready none with state := .busy })) W3 → Keep n₀ X W (W3.putObj (w.heap.size + 1) o) := fun W3 o h3 =>
        ((hkpa.trans hkp2).trans h3).trans (keep_put _ (by omega) hXl)
      rintro e a3 W3 hp
      cases e with
      | normal =>
        obtain ⟨hk3, hkp3, hi3⟩ := hp
        obtain ⟨hr, hl3, hl4, hk4⟩ := fin none W3 hk3
        exact ⟨_, _, hr, .inl ⟨rfl, hI.put _ hi3 (by omega) hl3 rfl, hXl, hXd, hl4, hk4⟩, kp _ _ hkp3⟩
      | ret =>
        obtain ⟨hk3, hkp3, hi3⟩ := hp
        obtain ⟨hr, hl3, hl4, hk4⟩ := fin (some .ret) W3 hk3
        exact ⟨_, _, hr, .inr ⟨rfl, .ret, (hIx _).put _ hi3 (by omega) hl3 rfl, hXl, hXd, hl4, hk4⟩, kp _ _ hkp3⟩
      | exit id =>
        obtain ⟨hk3, hkp3, hi3⟩ := hp
        obtain ⟨hr, hl3, hl4, hk4⟩ := fin (some (.exit id)) W3 hk3
        exact ⟨_, _, hr, .inr ⟨rfl, .exit id, (hIx _).put _ hi3 (by omega) hl3 rfl, hXl, hXd, hl4, hk4⟩, kp _ _ hkp3⟩
      | goto t =>
        obtain ⟨hk3, hkp3, hi3⟩ := hp
        obtain ⟨hr, hl3, hl4, hk4⟩ := fin (some (.goto t)) W3 hk3
        exact ⟨_, _, hr, .inr ⟨rfl, .goto t, (hIx _).put _ hi3 (by omega) hl3 rfl, hXl, hXd, hl4, hk4⟩, kp _ _ hkp3⟩
      | panic ch => exact hp.elim
      | outgrown => exact hp.elim
    · -- behind the iterator
      rintro e W2 ⟨⟨v, rfl⟩, (⟨X, xs, hS, hi, _, _, hl, hk⟩ | ⟨X, pre, hSp, c, hi, _, _, hl, hk⟩)⟩
      · exact ⟨none, _, by have := run_endLoop (P := Tryd.prog) hl (by rw [hrec]; simp); rw [hrec] at this; exact this, hdone _ X xs _ (Nat.le_refl _) hS (hI.put _ hi (by omega) hl rfl) ((World.putObj_heap_other (by omega)).trans hk)⟩
      · exact ⟨some c, _, by have := run_endLoop (P := Tryd.prog) hl (by rw [hrec]; simp); rw [hrec] at this; exact this, hstop _ X c pre _ (Nat.le_refl _) hSp ((hIx c).put _ hi (by omega) hl rfl) ((World.putObj_heap_other (by omega)).trans hk)⟩
theorem Stable.and {B : Nat} {β : Type} {I J : Blocks → β → World → Prop} (h : Stable B I) (k : Stable B J) : Stable B (fun X s W => I X s W ∧ J X s W) :=
  fun X X' s W W' hs a b c d e f => ⟨h X X' s W W' hs.1 a b c d e f, k X X' s W W' hs.2 a b c d e f⟩
theorem stable_pure (B : Nat) {β : Type} (p : β → Prop) : Stable B (fun _ s _ => p s) := fun _ _ _ _ _ hs _ _ _ _ _ _ => hs
/-- A box that is none of the iterator's. -/
def Mine (X : Blocks) (W : World) (b : Nat) (t : TypeId) (v : Value) : Prop := Boxed W b t v ∧ ¬ X b
theorem stable_box (B b : Nat) (t : TypeId) {β : Type} (f : β → Value) : Stable B (fun X s W => Mine X W b t (f s)) := by
  rintro X X' s W W' ⟨h, hX⟩ _ _ _ _ e hX'
  refine ⟨e b _ h hX (.inr rfl), fun hb => ?_⟩
  rcases hX' b hb with h1 | h1
  · exact hX h1
  · have := h.lt; omega
/-- What lay below n₀ lies as it lay; the iterator's blocks lie beyond. -/
def Base (n₀ : Nat) (w : World) (X : Blocks) (W : World) : Prop := (∀ k, X k → n₀ ≤ k) ∧ Below n₀ w W
theorem stable_base (B n₀ : Nat) (w : World) (hB : n₀ ≤ B) (hw : n₀ ≤ w.heap.size) {β : Type} : Stable B (fun X (_ : β) W => Base n₀ w X W) := by
  rintro X X' s W W' ⟨h1, h2⟩ a b c d e hX'
  have hs := h2.size
  refine ⟨fun k hk => ?_, ⟨a.trans h2.os, b.trans h2.tape, c.trans h2.output, Nat.le_trans h2.size d, fun k hk => ?_⟩⟩
  · rcases hX' k hk with h | h
    · exact h1 k h
    · omega
  · have hlt : k < W.heap.size := by omega
    have hx : W.heap[k]? = some W.heap[k] := Array.getElem?_eq_getElem hlt
    rw [e k _ hx (fun h => by have := h1 k h; omega) (.inl (by omega)), ← hx]
    exact h2.block k hk
theorem Base.start {n₀ : Nat} {w W : World} (h : Below n₀ w W) : Base n₀ w (fun _ => False) W := ⟨fun _ h => h.elim, h⟩
theorem Base.step {n₀ : Nat} {w W W' : World} {X : Blocks} (h : Base n₀ w X W) (k : Below n₀ W W') : Base n₀ w X W' := ⟨h.1, h.2.trans k⟩
theorem Mine.cell {X : Blocks} {W : World} {b : Nat} {t : TypeId} {v : Value} (h : Mine X W b t v) : W.cell? ⟨b, 0, none⟩ = some v := h.1.cell
theorem Mine.frozen {X : Blocks} {W : World} {b : Nat} {t : TypeId} {v : Value} (h : Mine X W b t v) : W.frozen? ⟨b, 0, none⟩ = false := h.1.frozen
theorem Mine.lt {X : Blocks} {W : World} {b : Nat} {t : TypeId} {v : Value} (h : Mine X W b t v) : b < W.heap.size := h.1.lt
theorem Mine.drew {X : Blocks} {W : World} {b : Nat} {t : TypeId} {v : Value} (h : Mine X W b t v) : Mine X W.drew b t v := h
theorem Mine.below {X : Blocks} {W W' : World} {b : Nat} {t : TypeId} {v : Value} (h : Mine X W b t v) (k : Below W.heap.size W W') : Mine X W' b t v := ⟨(k.block b h.lt).trans h.1, h.2⟩
theorem Mine.set {X : Blocks} {W : World} {b : Nat} {t : TypeId} {v : Value} (v' : Value) (h : Mine X W b t v) : Mine X (W.setCell ⟨b, 0, none⟩ v') b t v' := ⟨h.1.set v', h.2⟩
theorem Mine.other {X : Blocks} {W : World} {b b' : Nat} {t : TypeId} {v : Value} (h : Mine X W b t v) (hne : b ≠ b') (u : Value) : Mine X (W.setCell ⟨b', 0, none⟩ u) b t v := ⟨h.1.other hne u, h.2⟩
theorem keep_set {n₀ : Nat} {X : Blocks} (W : World) (b : Nat) (u : Value) (hn : n₀ ≤ b) (hX : ¬ X b) : Keep n₀ X W (W.setCell ⟨b, 0, none⟩ u) :=
  Keep.of_grownBy (grownBy_setCell' W b u) (fun k e => by cases e; exact ⟨hn, hX⟩)
theorem Keep.drew {n₀ : Nat} {X : Blocks} {W W' : World} (h : Keep n₀ X W W') : Keep n₀ X W W'.drew := ⟨h.os, h.tape, h.output, h.size, h.block⟩
theorem kf_set (B : Nat) (W : World) (a : Addr) (v : Value) : KeepsFrom B W (W.setCell a v) := (KeepsOthers.setCell W a v).from B
theorem kf_drew (B : Nat) (W : World) : KeepsFrom B W W.drew := (KeepsOthers.drew W).from B
theorem kf_below {B : Nat} {W W' : World} (h : Below W.heap.size W W') : KeepsFrom B W W' := ⟨h.size, fun k _ _ hk _ => (h.block k (Array.getElem?_eq_some_iff.1 hk).1).trans hk⟩
/-- A variable that holds a slice of the call's own; neither is the iterator's. -/
def MineRow (n₀ : Nat) (X : Blocks) (W : World) (b : Nat) (t e : TypeId) (xs : List Value) : Prop :=
  ∃ v, Mine X W b t v ∧ W.ownsRow n₀ e 1 v xs.length xs ∧ ∀ j, v.ownBlock = some j → ¬ X j
theorem ownsRow_same {W W' : World} {base : Nat} {e : TypeId} {size : Nat} {v : Value} {n : Nat} {xs : List Value} (h : W.ownsRow base e size v n xs) (hs : ∀ g, v.ownBlock = some g → W'.heap[g]? = W.heap[g]?) : W'.ownsRow base e size v n xs := by
  refine ⟨h.1, ?_⟩
  rcases h.2 with hn | ⟨g, cap, cur, rfl, hb, hgg, rest⟩
  · exact .inl hn
  · exact .inr ⟨g, cap, cur, rfl, hb, (hs g rfl).trans hgg, rest⟩
theorem stable_row (B n₀ b : Nat) (t e : TypeId) {β : Type} (f : β → List Value) : Stable B (fun X s W => MineRow n₀ X W b t e (f s)) := by
  rintro X X' s W W' ⟨v, hm, ho, hx⟩ a1 a2 a3 a4 he hX'
  refine ⟨v, stable_box B b t (fun _ : Unit => v) X X' () W W' hm a1 a2 a3 a4 he hX', ownsRow_same ho fun g hg => ?_, fun j hj h => ?_⟩
  · rcases ho.2 with ⟨rfl, _⟩ | ⟨g', cap, cur, rfl, hb, hgg, rest⟩
    · simp [Value.ownBlock] at hg
    · obtain rfl : g' = g := by simpa [Value.ownBlock] using hg
      rw [he _ _ hgg (hx _ rfl) (.inr rfl), hgg]
  · have hlt := (ho.lt j hj).2
    rcases hX' j h with h1 | h1
    · exact hx j hj h1
    · omega
/-- Such a row reads as a list. -/
theorem Ints.of_own {W : World} {n₀ : Nat} {e : TypeId} {v : Value} {l : List Int} (h : W.ownsRow n₀ e 1 v l.length (l.map fun x => .int .i64 x)) (hl : l.length ≤ big) : Ints W v l := by
  rcases h.2 with ⟨rfl, h0⟩ | ⟨g, cap, cur, rfl, hb, hg, hn, hc, hs, ht⟩
  · exact ⟨none, 0, by rw [h0], hl, fun i hi => by omega⟩
  · refine ⟨some ⟨g, 0, none⟩, cap, rfl, hl, fun i hi => ⟨g, 0, rfl, ?_⟩⟩
    have h1 : (l.map fun x => Value.int .i64 x)[i]? = some (.int .i64 (l.getD i 0)) := by
      simp [List.getElem?_map, List.getElem?_eq_getElem hi, List.getD_eq_getElem?_getD]
    rw [← ht, List.getElem?_take, if_pos (by omega)] at h1
    simp only [World.cell?, hg]
    simpa using h1
end Go.Proofs.YtiiiinoappjhdaaDoor
namespace Go.Proofs.YtiiiinoappjhdaaDoor
open Go.RowKit Go.Shelf
attribute [local go_sem] Oper.semAt_some
/-- A call by a number of arguments, as a run in a round of the wide fence. -/
theorem inr {f : FuncId} {args : Array Value} {w : World} {R : Ending → World → Prop} (l n : Nat) (h : Calls Tryd.prog f args w R) : CallsIn (Fence.wide.inRound l) n Tryd.prog f args w R :=
  CallsIn.inRound l (callsIn_wide.2 h)
set_option maxRecDepth 100000 in
set_option maxHeartbeats 1000000 in
theorem All_seq (S : Nat) (hS : S < 2 ^ 64) (n₀ : Nat) (hn₀ : 0 < n₀) (w : World) (hn : n₀ ≤ w.heap.size) (hT : Tab w) :
    SeqX 65 #[.int .u64 S] #[] (fun x : Nat => #[.int .i64 x]) n₀ (fun _ _ _ => True) (fun xs => xs = elems S) (fun pre => pre <+: elems S) w := by
  intro l J Jx W hW hJ hJx hY h0
  have hTW := hT.on hW
  refine (callsIn_wide (n := 0)).1 ?_
  refine callsIn_of_wp Tryd.func65 rfl trivial ?_ rfl
  simp only [Tryd.ntmps65, List.size_toArray, List.length_cons, List.length_nil, Nat.reduceAdd, Nat.reduceSub, Array.replicate_succ, Array.replicate_zero, List.push_toArray, List.append_toArray, List.nil_append, List.cons_append]
  gi_wp2
  gi_loopw [4] (fun r wr => ∃ (T : Nat) (pre : List Nat), r = .int .u64 T ∧ T < 2 ^ 64 ∧ elems S = pre ++ elems T ∧ J (fun _ => False) pre wr ∧ Below n₀ W wr) (fun r _ => (intOf r).toNat)
  case atStart => exact ⟨S, [], rfl, hS, rfl, h0, Below.refl _ _⟩
  case round =>
    obtain ⟨T, pre, rfl, hT64, hel, hJs, hB⟩ := hrel
    by_cases hT0 : T = 0
    · subst hT0
      rw [elems_zero, List.append_nil] at hel
      gi_wp2
      refine bodyPost_end (results_none rfl _ _ _) rfl ?_
      exact ⟨⟨_, rfl⟩, .inl ⟨_, pre, hel.symm, hJs⟩⟩
    · have hctz : Lib.ctz 64 T = Lib.ctzFrom 64 T := by simp [Lib.ctz, hT0]
      obtain ⟨m, hm, hk⟩ := Lib.ctzFrom_spec 64 T (by omega) hT64
      rw [← hctz] at hm hk
      obtain ⟨hst, hlt⟩ := elems_step T _ m hm hk
      have hne : ((T : Int) != 0) = true := by simp; omega
      have htz := TrailingZeros64_any T hT64 hT0 wr (hTW.below hB hn₀)
      have hand : bits .and .u64 (T : Int) ((T : Int) - 1) = ((T &&& (T - 1) : Nat) : Int) := by
        rw [show (T : Int) - 1 = ((T - 1 : Nat) : Int) from by omega]
        exact bits_and_n T (T - 1) hT64 (by omega)
      have Hlt := hid hlt
      have Hst := hid hst
      have hT64' : T &&& (T - 1) < 2 ^ 64 := by omega
      clear hst hlt hm hctz
      generalize Lib.ctz 64 T = k at *
      generalize T &&& (T - 1) = T' at *
      obtain ⟨⟨fn, tmps, assign, body, hy, hR⟩⟩ : Nonempty _ := ⟨hY _ pre k wr (fun _ h => h.elim) hJs trivial (by rw [hel, Hst.out]; exact ⟨elems T', by simp⟩)⟩
      have Hel := hid hel
      clear hel
      gi_wp2_with (refine ⟨trivial, rfl, ?_⟩; gi_at_call 74; refine (callsIn_wide.2 htz).mono ?_; rintro e w' ⟨rfl, rfl⟩)
      refine ⟨rfl, hR.mono ?_⟩
      rintro e W3 ⟨⟨rfl, hJ3⟩ | ⟨rfl, hJ3⟩, hk3⟩
      · gi_wp2
        go_roundw
        case rel => exact ⟨T', pre ++ [k], rfl, hT64', by rw [Hel.out, Hst.out]; simp, hJ3, hB.trans (hk3.below (by have := hB.size; have := hW.size; omega))⟩
        case measure => simp [intOf]; exact Hlt.out
      · gi_wp2
        refine bodyPost_ret (results_none rfl _ _ _) rfl ?_
        exact ⟨⟨_, rfl⟩, .inr ⟨_, pre ++ [k], by rw [Hel.out, Hst.out]; exact ⟨elems T', by simp⟩, hJ3⟩⟩
end Go.Proofs.YtiiiinoappjhdaaDoor
namespace Go.Proofs.YtiiiinoappjhdaaDoor
open Go.RowKit Go.Shelf
attribute [local go_sem] Oper.semAt_some
/-- The set to which a letter leads from some states. -/
def imgTo (m : List (List Int)) (x : Int) (l : List Nat) : Nat := l.foldl (fun T s => T ||| 2 ^ nx m s x) 0
theorem imgTo_snoc (m : List (List Int)) (x : Int) (l : List Nat) (s : Nat) : imgTo m x (l ++ [s]) = imgTo m x l ||| 2 ^ nx m s x := by simp [imgTo, List.foldl_append]
theorem imgTo_lt' (m : List (List Int)) (x : Int) (n : Nat) : ∀ (l : List Nat) (T : Nat), T < 2 ^ n → (∀ s ∈ l, nx m s x < n) → l.foldl (fun T s => T ||| 2 ^ nx m s x) T < 2 ^ n
  | [], T, hT, _ => hT
  | s :: l, T, hT, h => imgTo_lt' m x n l _ (with_lt T _ n hT (h s (by simp))) (fun y hy => h y (List.mem_cons_of_mem _ hy))
theorem imgTo_lt (m : List (List Int)) (x : Int) (n : Nat) (l : List Nat) (h : ∀ s ∈ l, nx m s x < n) : imgTo m x l < 2 ^ n := imgTo_lt' m x n l 0 (Nat.two_pow_pos n) h
theorem elems_lt {S n : Nat} (hS : S < 2 ^ n) {s : Nat} (h : s ∈ elems S) : s < n := by
  have h := (mem_elems S s).1 h
  rcases Nat.lt_or_ge s n with h1 | h1
  · exact h1
  · have := Nat.testBit_lt_two_pow (i := s) (Nat.lt_of_lt_of_le hS (Nat.pow_le_pow_right (by decide) h1))
    rw [this] at h; simp at h
theorem follows : Tryd.prog.follows .mixedOrders = true := by kernel_rfl
set_option maxRecDepth 100000 in
set_option maxHeartbeats 1000000 in
theorem SetImage_any (v : Value) (m : List (List Int)) (S : Nat) (x : Nat) (w : World) (hT : Tab w) (h : Rows w v m) (hv : validM m = true) (hS : S < 2 ^ m.length) (hx : x < letters m) :
    Calls Tryd.prog 48 #[.int .u64 S, v, .int .i64 x] w fun e w' => e = .returned (.int .u64 (imgTo m x (elems S) : Nat)) ∧ Below w.heap.size w w' := by
  obtain ⟨p1, p2, p3, p4, p5⟩ := valid_parts hv
  have hS64 : S < 2 ^ 64 := Nat.lt_of_lt_of_le hS (Nat.pow_le_pow_right (by decide) (by omega))
  have hfo := follows
  have hr := h
  obtain ⟨A, cap, rfl, hml, hc⟩ := h
  refine (callsIn_wide (n := 0)).1 ?_
  refine callsIn_of_wp_marks Tryd.func48 rfl trivial ?_ rfl
  simp only [Tryd.ntmps48, List.size_toArray, List.length_cons, List.length_nil, Nat.reduceAdd, Nat.reduceSub, Array.replicate_succ, Array.replicate_zero, List.push_toArray, List.append_toArray, List.nil_append, List.cons_append]
  gi_wp2
  have q1 := Boxed.new w 22 (.slice A m.length cap)
  have q2 := Boxed.new (w.alloc (.cells #[.slice A m.length cap] 22)) 3 (.int .i64 x)
  have q3 := Boxed.new ((w.alloc (.cells #[.slice A m.length cap] 22)).alloc (.cells #[.int .i64 x] 3)) 57 (.int .u64 0)
  simp only [World.size_alloc] at q2 q3
  have hb0 : Below w.heap.size w (((w.alloc (.cells #[.slice A m.length cap] 22)).alloc (.cells #[.int .i64 x] 3)).alloc (.cells #[.int .u64 0] 57)) := bal (bal (bal (Below.refl _ _) _) _) _
  refine range_law (gf := 65) (fb := #[.int .u64 S]) (lb := #[]) rfl (enters_of Tryd.func65 (by kernel_rfl) rfl)
    (All_seq S hS64 w.heap.size hT.lt _ hb0.size (hT.on hb0)) (fun _ _ _ _ _ _ => trivial) hb0.size (Below.refl _ _) (fun _ => rfl)
    (fun X pre W => (Mine X W w.heap.size 22 (.slice A m.length cap) ∧ Mine X W (w.heap.size + 1) 3 (.int .i64 x)) ∧ (Mine X W (w.heap.size + 1 + 1) 57 (.int .u64 (imgTo m x pre : Nat)) ∧ Base w.heap.size w X W))
    (fun _ _ _ _ => False)
    (Stable.and (Stable.and (stable_box _ _ _ (fun _ => _)) (stable_box _ _ _ (fun _ => _))) (Stable.and (stable_box _ _ _ (fun pre => .int .u64 (imgTo m x pre : Nat))) (stable_base _ _ _ hb0.size (Nat.le_refl _))))
    (fun _ _ _ _ _ _ hs _ _ _ _ _ _ => hs)
    ⟨⟨⟨(q1.alloc _).alloc _, fun h => h⟩, ⟨q2.alloc _, fun h => h⟩⟩, ⟨q3, fun h => h⟩, Base.start hb0⟩
    (fun s a' _ => a' = { tmps := #[.int .u64 S, .slice A m.length cap, .int .i64 x, undef, .pointer (some ⟨w.heap.size, 0, none⟩), .pointer (some ⟨w.heap.size + 1, 0, none⟩), .int .u64 0, .pointer (some ⟨w.heap.size + 1 + 1, 0, none⟩), .int .i64 s, .int .u64 S, .func (.func 65) #[.int .u64 S] #[], .int .i64 s, undef, undef, undef, undef, undef, undef, undef, undef, undef, undef], defers := [] })
    (fun _ _ _ _ _ _ _ hs _ _ _ _ _ _ => hs) ?assign ?body ?done ?stop
  case assign =>
    intro l X pre s W K hi hK
    gi_wp2
    exact hK _ _ (KeepsFrom.refl _ _) (Keep.refl _ _ _) hi rfl
  case body =>
    rintro l X pre s a' W hl hrec hXl hXs ⟨⟨b1, b2⟩, b3, hB⟩ _ rfl hsp
    have hs : s < m.length := elems_lt hS (hsp.subset (by simp))
    obtain ⟨b, off, r, hA, hcell, hrow⟩ := hc s hs
    obtain ⟨Ar, capr, rfl, hlr, hcr⟩ := hrow
    subst hA
    have hrl := (p5 s hs).1
    obtain ⟨br, offr, hAr, hrcell⟩ := hcr x (by omega)
    subst hAr
    have hnx := nx_ok hv hs (x := x) (by omega) (by omega)
    rw [Int.toNat_natCast] at hnx
    rw [hnx.2] at hrcell
    rw [hrl] at hcell
    have hcell' := (hB.2.cell (p := ⟨b, off + s, none⟩) (World.block_lt_of_cell? _ _ hcell)).trans hcell
    have hrcell' := (hB.2.cell (p := ⟨br, offr + x, none⟩) (World.block_lt_of_cell? _ _ hrcell)).trans hrcell
    have hT := imgTo_lt m x 64 pre (fun t ht => by have := (nx_ok hv (elems_lt hS (hsp.subset (List.mem_append_left [s] ht))) (x := (x : Int)) (by omega) (by omega)).1; omega)
    have hq : nx m s x < 64 := by omega
    have hin1 : (s : Int) < m.length := by omega
    have hin2 : (x : Int) < letters m := by omega
    have c1 := b1.cell; have c2 := b2.cell; have c3 := b3.cell; have f3 := b3.frozen
    clear hXs hc hcr hcell hrcell p5 hrl hnx hsp hrec hr q1 q2 q3 hb0 hl hml hlr
    generalize hy : nx m s x = q at *
    have Hy := hid hy
    clear hy
    generalize hTe : imgTo m x pre = T at *
    have HT := hid hTe
    clear hTe
    gi_wp2
    gi_region_with_o (refine ⟨trivial, rfl, ?_⟩; gi_at_call 66; refine (inr l _ (With_any T q _ hT hq)).mono ?_; rintro e w' ⟨rfl, rfl⟩)
    all_goals gi_wp2
    all_goals
      refine ⟨(kf_set _ _ _ _).trans (kf_drew _ _), (keep_set _ _ _ (by omega) b3.2).drew, ⟨(b1.other (by omega) _).drew, (b2.other (by omega) _).drew⟩, ?_, ?_⟩
      · rw [imgTo_snoc, Hy.out, HT.out]; exact (b3.set _).drew
      · exact hB.step ((keep_set _ _ _ (by omega) b3.2).drew.below hB.2.size)
  case done =>
    rintro D X xs W hD rfl ⟨_, b3, hB⟩ hK
    have b3c := b3.cell
    gi_wp2
    refine ⟨by simp, .inl ⟨_, _, rfl, run_takeDeferred hK, ?_⟩⟩
    exact ⟨_, results_tmp rfl _ _ _, rfl, hB.2.trans (belowK_b (w := w) (Nat.le_refl _) _ D _ _ (by have := hb0.size; omega) hK rfl rfl)⟩
  case stop =>
    rintro D X c pre W _ _ h _
    exact h.elim
end Go.Proofs.YtiiiinoappjhdaaDoor
namespace Go.Proofs.YtiiiinoappjhdaaDoor
open Go.RowKit Go.Shelf
attribute [local go_sem] Oper.semAt_some
theorem infoInt : (Tryd.prog.info? 3).map (fun i => (i.zero, i.size, i.bytes)) = some (some (.int .i64 0), 1, 8) := by kernel_rfl
/-- The elements as ints. -/
def intsOf (l : List Nat) : List Int := l.map fun x : Nat => (x : Int)
theorem elems_length (S : Nat) : (elems S).length ≤ 64 := by
  have := List.length_filter_le S.testBit (List.range 64)
  simpa [elems] using this
end Go.Proofs.YtiiiinoappjhdaaDoor
namespace Go.Proofs.YtiiiinoappjhdaaDoor
open Go.RowKit Go.Shelf
def imgSet (m : List (List Int)) (S : Nat) (x : Int) : Nat := imgTo m x (elems S)
def imgWord (m : List (List Int)) (S : Nat) (u : List Int) : Nat := u.foldl (imgSet m) S
theorem imgSet_lt {m : List (List Int)} (hv : validM m = true) {S : Nat} (hS : S < 2 ^ m.length) {x : Int} (h0 : 0 ≤ x) (h1 : x < letters m) : imgSet m S x < 2 ^ m.length :=
  imgTo_lt m x m.length _ (fun _ hs => (nx_ok hv (elems_lt hS hs) h0 h1).1)
theorem imgWord_lt {m : List (List Int)} (hv : validM m = true) : ∀ (u : List Int) (S : Nat), S < 2 ^ m.length → u.all (inB 0 ((letters m : Int) - 1)) = true → imgWord m S u < 2 ^ m.length
  | [], S, hS, _ => hS
  | x :: u, S, hS, hu => by
    simp only [List.all_cons, Bool.and_eq_true, inB_iff] at hu
    exact imgWord_lt hv u _ (imgSet_lt hv hS hu.1.1 (by omega)) hu.2
/-- Strictly increasing, and of states. -/
def incr (l : List Int) (k : Nat) : Bool := (List.range k).all fun i => decide (l.getD i 0 < l.getD (i + 1) 0)
def isSetM (m : List (List Int)) (l : List Int) : Bool := incr l (l.length - 1) && l.all (inB 0 ((m.length : Int) - 1))
theorem isSetM_mem {m : List (List Int)} {l : List Int} (h : isSetM m l = true) : ∀ x ∈ l, 0 ≤ x ∧ x < (m.length : Int) := by
  simp only [isSetM, Bool.and_eq_true] at h
  intro x hx
  have := List.all_eq_true.1 h.2 x hx
  rw [inB_iff] at this
  omega
theorem isWordM_all {m : List (List Int)} {l : List Int} (h : isWordM m l = true) : l.all (inB 0 ((letters m : Int) - 1)) = true := by
  simp only [isWordM, Bool.and_eq_true] at h
  exact h.2
def imageM (m : List (List Int)) (s u : List Int) : List Int := intsOf (elems (imgWord m (ofList s) u))
theorem Valid_bool (v : Value) (m : List (List Int)) (b : Bool) (w : World) (h : Rows w v m) (hb : validM m = b) :
    Calls Tryd.prog 49 #[.agg #[v]] w fun e w' => e = .returned (.bool b) ∧ Below w.heap.size w w' := by
  subst hb; exact Valid_any v m w h
end Go.Proofs.YtiiiinoappjhdaaDoor
namespace Go.Proofs.YtiiiinoappjhdaaDoor
open Go.RowKit Go.Shelf
set_option maxHeartbeats 400000 in
theorem rBelow_any (v : Value) (l : List Int) (n : Int) (w : World) (h : Ints w v l) (hn : -9223372036854775808 < n ∧ n ≤ 9223372036854775807) :
    Calls Tryd.prog 37 #[v, .int .i64 n] w fun e w' => e = .returned (.bool (l.all (inB 0 (n - 1)))) ∧ w = w' := by
  obtain ⟨A, cap, rfl, hl, hc⟩ := h
  unfold big at hl
  go_enter Tryd.func37, Tryd.ntmps37
  go_wp2
  go_loop [5] (fun i => ∃ k : Nat, k ≤ l.length ∧ i = .int .i64 k ∧ (l.take k).all (inB 0 (n - 1)) = true) (fun i => l.length - (intOf i).toNat)
  case atStart => exact ⟨0, Nat.zero_le _, rfl, rfl⟩
  case round =>
    obtain ⟨k, hk, rfl, hall⟩ := hrel
    by_cases hlt : k < l.length
    · obtain ⟨b, off, hA, hcell⟩ := hc k hlt
      have hs := all_snoc_take (inB 0 (n - 1)) l 0 k hlt
      rw [hall, Bool.true_and] at hs
      have hf := all_false_of (inB 0 (n - 1)) l 0 k hlt
      have Hs := hid hs
      have Hf := hid hf
      clear hs hf hall hc
      generalize hx : l.getD k 0 = x at *
      clear hx
      subst hA
      by_cases h0 : x < 0
      · have d1 : decide (x < 0) = true := by simp [h0]
        go_wp2
        go_ret
        exact ⟨ret_bool (Hf.out (inB_false (.inl h0))).symm, rfl⟩
      · have d1 : decide (x < 0) = false := by simp; omega
        by_cases h1 : n ≤ x
        · have d2 : decide (n ≤ x) = true := by simp [h1]
          go_wp2
          go_ret
          exact ⟨ret_bool (Hf.out (inB_false (.inr (by omega)))).symm, rfl⟩
        · have d2 : decide (n ≤ x) = false := by simp; omega
          go_wp2
          go_round
          case rel => exact ⟨k + 1, by omega, by go_num, by rw [Hs.out]; exact inB_true (by omega)⟩
          case measure => simp [intOf]; omega
    · go_wp2
      go_ret
      exact ⟨ret_bool (by rw [← hall, List.take_of_length_le (by omega)]), rfl⟩
theorem rBelow_bool (v : Value) (l : List Int) (n : Int) (b : Bool) (w : World) (h : Ints w v l) (hn : -9223372036854775808 < n ∧ n ≤ 9223372036854775807) (hb : l.all (inB 0 (n - 1)) = b) :
    Calls Tryd.prog 37 #[v, .int .i64 n] w fun e w' => e = .returned (.bool b) ∧ w = w' := by
  subst hb; exact rBelow_any v l n w h hn
set_option maxHeartbeats 400000 in
theorem rLetters_any (v : Value) (m : List (List Int)) (w : World) (h : Rows w v m) (hv : validM m = true) :
    Calls Tryd.prog 41 #[.agg #[v]] w fun e w' => e = .returned (.int .i64 (letters m : Nat)) ∧ Below w.heap.size w w' := by
  obtain ⟨p1, p2, p3, p4, p5⟩ := valid_parts hv
  obtain ⟨A, cap, rfl, hl, hc⟩ := h
  obtain ⟨b, off, r0, hA, hcell0, hr0⟩ := hc 0 (by omega)
  subst hA
  obtain ⟨A0, cap0, rfl, hl0, hc0⟩ := hr0
  rw [Nat.add_zero] at hcell0
  have hlet : (m.getD 0 []).length = letters m := rfl
  rw [hlet] at hcell0
  have hbl : b < w.heap.size := World.block_lt_of_cell? _ _ hcell0
  have hin : (0 : Int) < m.length := by omega
  clear hc hc0 hlet p5
  go_enter Tryd.func41, Tryd.ntmps41
  go_wp2
  go_ret
  exact ⟨rfl, bal (Below.refl _ _) _⟩
/-- Whether a list has a number. -/
def hasB (l : List Int) (n : Int) : Bool := l.any fun x => x == n
theorem any_snoc_take (p : Int → Bool) (l : List Int) (k : Nat) (hk : k < l.length) : (l.take (k + 1)).any p = ((l.take k).any p || p (l.getD k 0)) := by
  rw [List.take_succ_eq_append_getElem hk, List.any_append]
  simp [List.getD_eq_getElem?_getD, List.getElem?_eq_getElem hk]
theorem any_true_of (p : Int → Bool) (l : List Int) (k : Nat) (hk : k < l.length) (h : p (l.getD k 0) = true) : l.any p = true := by
  rw [List.any_eq_true]
  exact ⟨_, mem_getD hk, h⟩
set_option maxHeartbeats 400000 in
theorem rHas_any (v : Value) (l : List Int) (n : Int) (w : World) (h : Ints w v l) :
    Calls Tryd.prog 60 #[v, .int .i64 n] w fun e w' => e = .returned (.bool (hasB l n)) ∧ w = w' := by
  obtain ⟨A, cap, rfl, hl, hc⟩ := h
  unfold big at hl
  go_enter Tryd.func60, Tryd.ntmps60
  go_wp2
  go_loop [5] (fun i => ∃ k : Nat, k ≤ l.length ∧ i = .int .i64 k ∧ hasB (l.take k) n = false) (fun i => l.length - (intOf i).toNat)
  case atStart => exact ⟨0, Nat.zero_le _, rfl, rfl⟩
  case round =>
    obtain ⟨k, hk, rfl, hall⟩ := hrel
    by_cases hlt : k < l.length
    · obtain ⟨b, off, hA, hcell⟩ := hc k hlt
      have hs := any_snoc_take (fun x => x == n) l k hlt
      have hf := any_true_of (fun x => x == n) l k hlt
      have Ha := hid hall
      have Hs := hid hs
      have Hf := hid hf
      clear hs hf hall hc
      generalize hx : l.getD k 0 = x at *
      clear hx
      subst hA
      by_cases h0 : x = n
      · subst h0
        go_wp2
        go_ret
        exact ⟨ret_bool (Hf.out (by simp)).symm, rfl⟩
      · have d1 : (x == n) = false := by simp [h0]
        have H0 := hid h0
        clear h0
        go_wp2
        go_round
        case rel => exact ⟨k + 1, by omega, by go_num, by have h1 := Ha.out; unfold hasB at h1 ⊢; rw [Hs.out, h1]; simpa using H0.out⟩
        case measure => simp [intOf]; omega
    · go_wp2
      go_ret
      exact ⟨ret_bool (by rw [← hall, List.take_of_length_le (by omega)]), rfl⟩
theorem take_eq_succ {l m : List Int} {k : Nat} (hk : k < l.length) (hl : l.length = m.length) (h : l.take k = m.take k) (hx : l.getD k 0 = m.getD k 0) : l.take (k + 1) = m.take (k + 1) := by
  have h1 : k < m.length := by omega
  rw [List.take_succ_eq_append_getElem hk, List.take_succ_eq_append_getElem h1, h]
  have e1 : l.getD k 0 = l[k] := by simp [List.getD_eq_getElem?_getD, List.getElem?_eq_getElem hk]
  have e2 : m.getD k 0 = m[k] := by simp [List.getD_eq_getElem?_getD, List.getElem?_eq_getElem h1]
  rw [← e1, ← e2, hx]
theorem ne_of_getD {l m : List Int} {k : Nat} (hx : ¬ l.getD k 0 = m.getD k 0) : decide (l = m) = false := by
  rw [decide_eq_false_iff_not]
  intro h
  rw [h] at hx
  exact hx rfl
set_option maxHeartbeats 400000 in
theorem rSame_any (v u : Value) (l m : List Int) (w : World) (h : Ints w v l) (hu : Ints w u m) :
    Calls Tryd.prog 15 #[v, u] w fun e w' => e = .returned (.bool (decide (l = m))) ∧ Below w.heap.size w w' := by
  obtain ⟨A, cap, rfl, hl, hc⟩ := h
  obtain ⟨Au, capu, rfl, hlu, hcu⟩ := hu
  unfold big at hl hlu
  by_cases hlen : l.length = m.length
  · have hne : ((l.length : Int) != (m.length : Int)) = false := by simp; omega
    have Hlen := hid hlen
    clear hlen
    go_enter Tryd.func15, Tryd.ntmps15
    go_wp2
    go_loopw [5] (fun i wr => ∃ k : Nat, k ≤ l.length ∧ i = .int .i64 k ∧ l.take k = m.take k ∧ Below w.heap.size w wr) (fun i _ => l.length - (intOf i).toNat)
    case atStart => exact ⟨0, Nat.zero_le _, rfl, rfl, Below.refl _ _⟩
    case round =>
      obtain ⟨k, hk, rfl, htk, hB⟩ := hrel
      have Htk := hid htk
      clear htk
      by_cases hlt : k < l.length
      · have hle := Hlen.out
        obtain ⟨b, off, hA, hcell⟩ := hc k hlt
        obtain ⟨b', off', hA', hcell'⟩ := hcu k (by omega)
        subst hA
        subst hA'
        have c1 := (hB.cell (p := ⟨b, off + k, none⟩) (World.block_lt_of_cell? _ _ hcell)).trans hcell
        have c2 := (hB.cell (p := ⟨b', off' + k, none⟩) (World.block_lt_of_cell? _ _ hcell')).trans hcell'
        have Hs := hid (fun hx => take_eq_succ hlt Hlen.out Htk.out hx)
        have Hf := hid (fun hx => ne_of_getD (l := l) (m := m) (k := k) hx)
        have i1 : (k : Int) < l.length := by omega
        have i2 : (k : Int) < m.length := by omega
        clear hc hcu hcell hcell' hle
        generalize l.getD k 0 = x at *
        generalize m.getD k 0 = y at *
        by_cases hxy : x = y
        · have hd : (x != y) = false := by simp [hxy]
          have Hxy := hid hxy
          clear hxy
          go_wp2_with fail
          go_quiet (fail)
          go_wp2
          go_roundw
          case rel => exact ⟨k + 1, by omega, by go_num, Hs.out Hxy.out, bdr hB _⟩
          case measure => simp [intOf]; omega
        · have hd : (x != y) = true := by simp [hxy]
          have Hxy := hid hxy
          clear hxy
          go_wp2_with fail
          go_quiet (fail)
          go_wp2
          go_ret
          exact ⟨ret_bool (Hf.out Hxy.out).symm, bdr hB _⟩
      · go_wp2
        go_ret
        have h1 := Htk.out
        have h2 := Hlen.out
        rw [List.take_of_length_le (by omega), List.take_of_length_le (by omega)] at h1
        exact ⟨ret_bool (by simp [h1]), hB⟩
  · have hne : ((l.length : Int) != (m.length : Int)) = true := by simp; omega
    have Hlen := hid hlen
    clear hlen
    go_enter Tryd.func15, Tryd.ntmps15
    go_wp2
    go_ret
    exact ⟨ret_bool (by
      symm
      rw [decide_eq_false_iff_not]
      intro h
      exact Hlen.out (by rw [h])), Below.refl _ _⟩
end Go.Proofs.YtiiiinoappjhdaaDoor
namespace Go.Proofs.YtiiiinoappjhdaaDoor
open Go.RowKit Go.Shelf
set_option maxHeartbeats 1000000 in
theorem rValid_any (v : Value) (m : List (List Int)) (w : World) (h : Rows w v m) :
    Calls Tryd.prog 12 #[.agg #[v]] w fun e w' => e = .returned (.bool (validM m)) ∧ Below w.heap.size w w' := by
  have hr := h
  obtain ⟨A, cap, rfl, hl, hc⟩ := h
  unfold big at hl
  by_cases h0 : m.length = 0
  · have d0 : ((m.length : Int) == 0) = true := by simp [h0]
    clear hc
    go_enter Tryd.func12, Tryd.ntmps12
    go_wp2
    go_ret
    exact ⟨ret_bool (by simp [validM, inB, h0]), bal (Below.refl _ _) _⟩
  have d0 : ((m.length : Int) == 0) = false := by rw [beq_eq_false_iff_ne]; omega
  by_cases h1 : 60 < m.length
  · have d1 : decide ((60 : Int) < m.length) = true := by simp; omega
    clear hc
    go_enter Tryd.func12, Tryd.ntmps12
    go_wp2
    go_ret
    have e1 : inB 1 60 m.length = false := inB_false (.inr (by omega))
    exact ⟨ret_bool (by simp [validM, e1]), bal (Below.refl _ _) _⟩
  have d1 : decide ((60 : Int) < m.length) = false := by simp; omega
  obtain ⟨b, off, r0, hA, hcell0, hr0⟩ := hc 0 (by omega)
  subst hA
  obtain ⟨A0, cap0, rfl, hl0, hc0⟩ := hr0
  unfold big at hl0
  rw [Nat.add_zero] at hcell0
  have hbl : b < w.heap.size := World.block_lt_of_cell? _ _ hcell0
  have hlet : (m.getD 0 []).length = letters m := rfl
  rw [hlet] at hcell0 hl0
  have hin : (0 : Int) < m.length := by omega
  clear hc0 hlet
  have Hc := hid hc
  clear hc
  by_cases h2 : letters m = 0
  · have d2 : ((letters m : Int) == 0) = true := by simp [h2]
    go_enter Tryd.func12, Tryd.ntmps12
    go_wp2
    go_ret
    exact ⟨ret_bool (by simp [validM, inB, h2]), bal (Below.refl _ _) _⟩
  have d2 : ((letters m : Int) == 0) = false := by simp; omega
  by_cases h3 : 6 < letters m
  · have d3 : decide ((6 : Int) < letters m) = true := by simp; omega
    go_enter Tryd.func12, Tryd.ntmps12
    go_wp2
    go_ret
    have e1 : inB 1 6 (letters m) = false := inB_false (.inr (by omega))
    exact ⟨ret_bool (by simp [validM, e1]), bal (Below.refl _ _) _⟩
  have d3 : decide ((6 : Int) < letters m) = false := by simp; omega
  have hv1 : validM m = m.all (rowOk m) := by
    have e1 : inB 1 60 m.length = true := inB_true (by omega)
    have e2 : inB 1 6 (letters m) = true := inB_true (by omega)
    simp [validM, e1, e2]
  have Hv := hid hv1
  clear hv1
  go_enter Tryd.func12, Tryd.ntmps12
  go_wp2
  go_loopw [4] (fun i wr => ∃ k : Nat, k ≤ m.length ∧ i = .int .i64 k ∧ (m.take k).all (rowOk m) = true ∧ Below w.heap.size w wr ∧ wr.cell? ⟨w.heap.size, 0, none⟩ = some (.slice (some ⟨b, off, none⟩) m.length cap)) (fun i _ => m.length - (intOf i).toNat)
  case atStart => exact ⟨0, Nat.zero_le _, rfl, rfl, bal (Below.refl _ _) _, by simp [go_sem]⟩
  case round =>
    obtain ⟨k, hk, rfl, hall, hB, hbox⟩ := hrel
    have hsz : w.heap.size < wr.heap.size := World.block_lt_of_cell? _ _ hbox
    by_cases hlt : k < m.length
    · obtain ⟨b', off', r, hA', hcell, hrow⟩ := Hc.out k hlt
      cases hA'
      have hrowc : wr.cell? ⟨b, off + k, none⟩ = some r := (hB.cell (p := ⟨b, off + k, none⟩) hbl).trans hcell
      have hrow0 : wr.cell? ⟨b, off, none⟩ = some (.slice A0 (letters m) cap0) := (hB.cell (p := ⟨b, off, none⟩) hbl).trans hcell0
      have hroww := hrow.below hB
      have Hs := hid (all_snoc_take (rowOk m) m [] k hlt)
      have Hf := hid (all_false_of (rowOk m) m [] k hlt)
      clear hrow hcell
      generalize m.getD k [] = row at *
      have hroww' := hroww
      obtain ⟨Ar, capr, rfl, hlr, hcr⟩ := hroww
      unfold big at hlr
      clear hcr
      have Ha := hid hall
      clear hall
      by_cases hle : row.length = letters m
      · have hne : ((row.length : Int) != (letters m : Int)) = false := by simp; omega
        have Hle := hid hle
        clear hle
        by_cases hst : row.all (inB 0 ((m.length : Int) - 1)) = true
        · go_wp2_with fail
          go_quiet ((go_at_call 37; exact Calls.quiet_of_same ((rBelow_bool _ row _ true _ (hroww'.drewN _) (by omega) hst).mono fun _ _ ⟨h1, h2⟩ => ⟨h1, h2.symm⟩)))
          go_wp2
          go_roundw
          case rel => exact ⟨k + 1, by omega, by go_num, by rw [Hs.out, Ha.out]; simp [rowOk, Hle.out, hst], bdr hB _, hbox⟩
          case measure => simp [intOf]; omega
        · have hst' : row.all (inB 0 ((m.length : Int) - 1)) = false := by simpa using hst
          clear hst
          go_wp2_with fail
          go_quiet ((go_at_call 37; exact Calls.quiet_of_same ((rBelow_bool _ row _ false _ (hroww'.drewN _) (by omega) hst').mono fun _ _ ⟨h1, h2⟩ => ⟨h1, h2.symm⟩)))
          go_wp2
          go_ret
          exact ⟨ret_bool (by rw [Hv.out, Hf.out]; simp [rowOk, hst']), bdr hB _⟩
      · have hne : ((row.length : Int) != (letters m : Int)) = true := by simp; omega
        have Hle := hid hle
        clear hle
        go_wp2_with fail
        go_quiet (fail)
        go_wp2
        go_ret
        exact ⟨ret_bool (by rw [Hv.out, Hf.out]; simp [rowOk, Hle.out]), bdr hB _⟩
    · go_wp2
      go_ret
      exact ⟨ret_bool (by rw [Hv.out, ← hall, List.take_of_length_le (by omega)]), hB⟩
set_option maxHeartbeats 1000000 in
theorem rRun_any (v u : Value) (m : List (List Int)) (s : Nat) (l : List Int) (w : World) (h : Rows w v m) (hu : Ints w u l) (hv : validM m = true) (hs : s < m.length) (hw : isWordM m l = true) :
    Calls Tryd.prog 73 #[.agg #[v], .int .i64 s, u] w fun e w' => e = .returned (.int .i64 (runM m s l : Nat)) ∧ Below w.heap.size w w' := by
  have hr := h
  have hur := hu
  obtain ⟨A, cap, rfl, hml, hc⟩ := h
  obtain ⟨Au, capu, rfl, hlu, hcu⟩ := hu
  unfold big at hlu hml
  have Hc := hid hc
  have Hcu := hid hcu
  clear hc hcu
  go_enter Tryd.func73, Tryd.ntmps73
  go_wp2
  go_loopw [1, 7] (fun s' i wr => ∃ k : Nat, k ≤ l.length ∧ i = .int .i64 k ∧ s' = .int .i64 (runM m s (l.take k)) ∧ Below w.heap.size w wr ∧ wr.cell? ⟨w.heap.size, 0, none⟩ = some (.slice A m.length cap)) (fun _ i _ => l.length - (intOf i).toNat)
  case atStart => exact ⟨0, Nat.zero_le _, rfl, rfl, bal (Below.refl _ _) _, by simp [go_sem]⟩
  case round =>
    obtain ⟨k, hk, rfl, rfl, hB, hbox⟩ := hrel
    by_cases hlt : k < l.length
    · have hl : l.all (inB 0 ((letters m : Int) - 1)) = true := by simp only [isWordM, Bool.and_eq_true] at hw; exact hw.2
      have hq := runM_lt hv (l.take k) s hs (all_take _ _ hl k)
      have hx := all_getD _ l 0 hl k hlt
      rw [inB_iff] at hx
      have Hs := hid (runM_snoc m s l k hlt)
      obtain ⟨bu, offu, hAu, hcell⟩ := Hcu.out k hlt
      subst hAu
      have hcu' := (hB.cell (p := ⟨bu, offu + k, none⟩) (World.block_lt_of_cell? _ _ hcell)).trans hcell
      generalize hqe : runM m s (l.take k) = q at *
      generalize l.getD k 0 = x at *
      obtain ⟨xn, rfl⟩ := Int.eq_ofNat_of_zero_le hx.1
      obtain ⟨b, off, r, hA, hrc, hrr⟩ := Hc.out q hq
      subst hA
      obtain ⟨Ar, capr, rfl, hlr, hcr⟩ := hrr
      have hn := nx_ok hv hq hx.1 (by omega)
      have hrl := ((valid_parts hv).2.2.2.2 q hq).1
      obtain ⟨br, offr, hAr, hrcell⟩ := hcr xn (by omega)
      subst hAr
      rw [Int.toNat_natCast] at hn
      rw [hn.2] at hrcell
      have hrc' := (hB.cell (p := ⟨b, off + q, none⟩) (World.block_lt_of_cell? _ _ hrc)).trans hrc
      have hrcell' := (hB.cell (p := ⟨br, offr + xn, none⟩) (World.block_lt_of_cell? _ _ hrcell)).trans hrcell
      rw [hrl] at hrc'
      have hin1 : (q : Int) < m.length := by omega
      have hin2 : (xn : Int) < letters m := by omega
      clear hcr hcell hrc hrcell hqe hl hr hur
      generalize nx m q (xn : Int) = y at *
      have Hn := hid hn.2
      clear hn hrl
      go_wp2_with fail
      go_quiet (fail)
      go_wp2
      go_roundw
      case rel => exact ⟨k + 1, by omega, by go_num, by rw [Hs.out], bdr hB _, hbox⟩
      case measure => simp [intOf]; omega
    · go_wp2
      go_ret
      exact ⟨ret_int (by rw [List.take_of_length_le (by omega)]), hB⟩
end Go.Proofs.YtiiiinoappjhdaaDoor
namespace Go.Proofs.YtiiiinoappjhdaaDoor
open Go.RowKit Go.Shelf
theorem imgWord_append (m : List (List Int)) (S : Nat) (u v : List Int) : imgWord m S (u ++ v) = imgWord m (imgWord m S u) v := by simp [imgWord, List.foldl_append]
theorem foldl_or_testBit : ∀ (l : List Int) (T i : Nat), (l.foldl (fun S x => S ||| 2 ^ x.toNat) T).testBit i = (T.testBit i || l.any fun x => decide (x.toNat = i))
  | [], T, i => by simp
  | x :: l, T, i => by
    rw [List.foldl_cons, foldl_or_testBit l, testBit_with, List.any_cons, Bool.or_assoc]
theorem ofList_testBit (l : List Int) (i : Nat) : (ofList l).testBit i = l.any fun x => decide (x.toNat = i) := by
  rw [ofList, foldl_or_testBit]; simp
theorem testBit_big {S n i : Nat} (hS : S < 2 ^ n) (hi : n ≤ i) : S.testBit i = false := Nat.testBit_lt_two_pow (Nat.lt_of_lt_of_le hS (Nat.pow_le_pow_right (by decide) hi))
theorem ofList_elems {S : Nat} (hS : S < 2 ^ 64) : ofList (intsOf (elems S)) = S := by
  apply Nat.eq_of_testBit_eq
  intro i
  rw [ofList_testBit]
  by_cases hi : i < 64
  · cases hb : S.testBit i with
    | true =>
      rw [List.any_eq_true]
      exact ⟨(i : Int), List.mem_map.2 ⟨i, (mem_elems S i).2 ⟨hi, hb⟩, rfl⟩, by simp⟩
    | false =>
      rw [List.any_eq_false]
      intro x hx
      obtain ⟨y, hy, rfl⟩ := List.mem_map.1 hx
      have := (mem_elems S y).1 hy
      simp
      rintro rfl
      rw [hb] at this
      simp at this
  · rw [testBit_big hS (by omega), List.any_eq_false]
    intro x hx
    obtain ⟨y, hy, rfl⟩ := List.mem_map.1 hx
    have := (mem_elems S y).1 hy
    simp
    omega
theorem elems_sorted (S : Nat) : (elems S).Pairwise (· < ·) := List.Pairwise.filter _ List.pairwise_lt_range
theorem isSetM_of_sorted {m : List (List Int)} {l : List Int} (hs : l.Pairwise (· < ·)) (hb : ∀ x ∈ l, 0 ≤ x ∧ x < (m.length : Int)) : isSetM m l = true := by
  rw [isSetM, Bool.and_eq_true]
  constructor
  · rw [incr, List.all_eq_true]
    intro i hi
    have hi' : i < l.length - 1 := by simpa using hi
    have h := List.pairwise_iff_getElem.1 hs i (i + 1) (by omega) (by omega) (by omega)
    simp only [decide_eq_true_eq]
    simp only [List.getD_eq_getElem?_getD, List.getElem?_eq_getElem (show i < l.length by omega), List.getElem?_eq_getElem (show i + 1 < l.length by omega), Option.getD_some]
    exact h
  · rw [List.all_eq_true]
    intro x hx
    have := hb x hx
    exact inB_true (by omega)
theorem intsOf_sorted {l : List Nat} (h : l.Pairwise (· < ·)) : (intsOf l).Pairwise (· < ·) := by
  rw [intsOf, List.pairwise_map]
  exact h.imp (fun hab => by omega)
theorem isSetM_elems {m : List (List Int)} {S : Nat} (hS : S < 2 ^ m.length) : isSetM m (intsOf (elems S)) = true := by
  refine isSetM_of_sorted (intsOf_sorted (elems_sorted S)) (fun x hx => ?_)
  obtain ⟨y, hy, rfl⟩ := List.mem_map.1 hx
  have := elems_lt hS hy
  omega
/-- A sorted list is as long as the numbers that there are, at most. -/
theorem sorted_len {l : List Int} {n : Nat} (hs : l.Pairwise (· < ·)) (hb : ∀ x ∈ l, 0 ≤ x ∧ x < (n : Int)) : l.length ≤ n := by
  have key : ∀ i (hi : i < l.length), (i : Int) ≤ l[i] := by
    intro i
    induction i with
    | zero => intro hi; exact (hb _ (List.getElem_mem hi)).1
    | succ i ih =>
      intro hi
      have h1 := ih (by omega)
      have h2 := List.pairwise_iff_getElem.1 hs i (i + 1) (by omega) hi (by omega)
      omega
  by_cases h0 : l.length = 0
  · omega
  · have h1 := key (l.length - 1) (by omega)
    have h2 := (hb _ (List.getElem_mem (show l.length - 1 < l.length by omega))).2
    omega
theorem sorted_of_incr {l : List Int} (h : incr l (l.length - 1) = true) : l.Pairwise (· < ·) := by
  rw [incr, List.all_eq_true] at h
  have step : ∀ i (h1 : i + 1 < l.length), l[i] < l[i + 1] := by
    intro i h1
    have := h i (by simp; omega)
    simp only [decide_eq_true_eq] at this
    simpa only [List.getD_eq_getElem?_getD, List.getElem?_eq_getElem (show i < l.length by omega), List.getElem?_eq_getElem h1, Option.getD_some] using this
  rw [List.pairwise_iff_getElem]
  intro i j hi hj hij
  induction j with
  | zero => omega
  | succ j ih =>
    by_cases e : i = j
    · subst e; exact step i hj
    · exact Int.lt_trans (ih (by omega) (by omega)) (step j hj)
theorem isSetM_len {m : List (List Int)} {l : List Int} (h : isSetM m l = true) : l.length ≤ m.length := by
  have h' := h
  rw [isSetM, Bool.and_eq_true] at h'
  exact sorted_len (sorted_of_incr h'.1) (isSetM_mem h)
theorem imgTo_testBit (m : List (List Int)) (x : Int) (t : Nat) : ∀ (l : List Nat) (T : Nat), (l.foldl (fun T s => T ||| 2 ^ nx m s x) T).testBit t = (T.testBit t || l.any fun s => decide (nx m s x = t))
  | [], T => by simp
  | s :: l, T => by rw [List.foldl_cons, imgTo_testBit m x t l, testBit_with, List.any_cons, Bool.or_assoc]
theorem imgSet_mem (m : List (List Int)) {S : Nat} (hS : S < 2 ^ m.length) (hm : m.length ≤ 64) (x : Int) (t : Nat) : (imgSet m S x).testBit t = true ↔ ∃ s, s < m.length ∧ S.testBit s = true ∧ nx m s x = t := by
  rw [imgSet, imgTo, imgTo_testBit]
  simp only [Nat.zero_testBit, Bool.false_or, List.any_eq_true, decide_eq_true_eq]
  constructor
  · rintro ⟨s, hs, rfl⟩
    exact ⟨s, elems_lt hS hs, ((mem_elems S s).1 hs).2, rfl⟩
  · rintro ⟨s, h1, h2, rfl⟩
    exact ⟨s, (mem_elems S s).2 ⟨by omega, h2⟩, rfl⟩
theorem all_cons_parts {m : List (List Int)} {x : Int} {u : List Int} (h : (x :: u).all (inB 0 ((letters m : Int) - 1)) = true) : (0 ≤ x ∧ x < letters m) ∧ u.all (inB 0 ((letters m : Int) - 1)) = true := by
  rw [List.all_cons, Bool.and_eq_true, inB_iff] at h
  exact ⟨⟨h.1.1, by omega⟩, h.2⟩
theorem imgWord_mem {m : List (List Int)} (hv : validM m = true) : ∀ (u : List Int) (S t : Nat), S < 2 ^ m.length → u.all (inB 0 ((letters m : Int) - 1)) = true →
    ((imgWord m S u).testBit t = true ↔ ∃ s, s < m.length ∧ S.testBit s = true ∧ runM m s u = t)
  | [], S, t, hS, _ => by
    constructor
    · intro h
      refine ⟨t, ?_, h, rfl⟩
      by_cases ht : t < m.length
      · exact ht
      · have := testBit_big hS (show m.length ≤ t by omega)
        simp only [imgWord, List.foldl_nil] at h
        rw [this] at h
        cases h
    · rintro ⟨s, _, h, rfl⟩
      exact h
  | x :: u, S, t, hS, hu => by
    obtain ⟨hx, hu'⟩ := all_cons_parts hu
    have hm : m.length ≤ 64 := by have := (valid_parts hv).2.1; omega
    show (imgWord m (imgSet m S x) u).testBit t = true ↔ _
    rw [imgWord_mem hv u _ t (imgSet_lt hv hS hx.1 hx.2) hu']
    constructor
    · rintro ⟨s, h1, h2, h3⟩
      obtain ⟨q, g1, g2, rfl⟩ := (imgSet_mem m hS hm x s).1 h2
      exact ⟨q, g1, g2, h3⟩
    · rintro ⟨q, g1, g2, h3⟩
      refine ⟨nx m q x, (nx_ok hv g1 hx.1 hx.2).1, (imgSet_mem m hS hm x _).2 ⟨q, g1, g2, rfl⟩, h3⟩
theorem imageM_set {m : List (List Int)} (hv : validM m = true) {s u : List Int} (hs : isSetM m s = true) (hu : isWordM m u = true) : isSetM m (imageM m s u) = true := by
  have hm : m.length ≤ 64 := by have := (valid_parts hv).2.1; omega
  simp only [isWordM, Bool.and_eq_true] at hu
  exact isSetM_elems (imgWord_lt hv u _ (ofList_lt m.length hm s (isSetM_mem hs)) hu.2)
end Go.Proofs.YtiiiinoappjhdaaDoor
namespace Go.Proofs.YtiiiinoappjhdaaDoor
open Go.RowKit Go.Shelf
/-- Row 0, where the letters are counted. -/
theorem row_zero {w : World} {A : Option Addr} {n cap : Nat} {m : List (List Int)} (h : Rows w (.slice A n cap) m) (hv : validM m = true) : ∃ b off A0 cap0, A = some ⟨b, off, none⟩ ∧ w.cell? ⟨b, off, none⟩ = some (.slice A0 (letters m) cap0) := by
  obtain ⟨p1, -⟩ := valid_parts hv
  obtain ⟨A', cap', hA, -, hc⟩ := h
  simp only [Value.slice.injEq] at hA
  obtain ⟨rfl, rfl, rfl⟩ := hA
  obtain ⟨b, off, r0, hA, hcell0, hr0⟩ := hc 0 (by omega)
  obtain ⟨A0, cap0, rfl, -, -⟩ := hr0
  exact ⟨b, off, A0, cap0, hA, hcell0⟩
end Go.Proofs.YtiiiinoappjhdaaDoor
namespace Go.Proofs.YtiiiinoappjhdaaDoor
open Go.RowKit Go.Shelf
theorem getD_elem (l : List Int) (j : Nat) (hj : j < l.length) : l.getD j 0 = l[j] := by simp [List.getD_eq_getElem?_getD, List.getElem?_eq_getElem hj]
end Go.Proofs.YtiiiinoappjhdaaDoor
namespace Go.Proofs.YtiiiinoappjhdaaDoor
open Go.RowKit Go.Shelf
theorem owns_kept {B n : Nat} {e : TypeId} {s : Nat} {v : Value} {xs : List Value} {w w' : World} (h : w.ownsRow B e s v n xs) (hk : ∀ k, B ≤ k → k < w.heap.size → w'.heap[k]? = w.heap[k]?) : w'.ownsRow B e s v n xs := by
  obtain ⟨h1, h2⟩ := h
  refine ⟨h1, ?_⟩
  rcases h2 with h2 | ⟨g, cap, cur, hv, hB, hh, r⟩
  · exact .inl h2
  · exact .inr ⟨g, cap, cur, hv, hB, by rw [hk g hB (lt_of_block hh)]; exact hh, r⟩
/-- A slice of ints that lies beside a row. -/
def IntsOff (W : World) (base : Nat) (g : Option Nat) (v : Value) (l : List Int) : Prop :=
  ∃ A cap, v = .slice A l.length cap ∧ l.length ≤ big ∧ (∀ i, i < l.length → ∃ b off, A = some ⟨b, off, none⟩ ∧ base ≤ b ∧ some b ≠ g ∧ W.cell? ⟨b, off + i, none⟩ = some (.int .i64 (l.getD i 0)))
theorem IntsOff.ints {W : World} {base : Nat} {g : Option Nat} {v : Value} {l : List Int} (h : IntsOff W base g v l) : Ints W v l := by
  obtain ⟨A, cap, rfl, hl, hc⟩ := h
  exact ⟨A, cap, rfl, hl, fun i hi => by obtain ⟨b, off, hA, _, _, hcell⟩ := hc i hi; exact ⟨b, off, hA, hcell⟩⟩
/-- A row of the call's own from base on, whose elements are slices of ints beside it. -/
def MRows (W : World) (base : Nat) (v : Value) (m : List (List Int)) : Prop :=
  ∃ xs : List Value, W.ownsRow base 25 1 v m.length xs ∧ ∀ i, i < m.length → IntsOff W base v.ownBlock (xs.getD i .nilIface) (m.getD i [])
theorem MRows.nil (W : World) (base : Nat) : MRows W base (.slice none 0 0) [] := ⟨[], ⟨rfl, .inl ⟨rfl, rfl⟩⟩, fun i hi => by simp at hi⟩
theorem MRows.rows {W : World} {base : Nat} {v : Value} {m : List (List Int)} (h : MRows W base v m) (hl : m.length ≤ big) : Rows W v m := by
  obtain ⟨xs, ho, hx⟩ := h
  have hxl : xs.length = m.length := by have := ho.1; omega
  rcases ho.2 with ⟨rfl, h0⟩ | ⟨g, cap, cur, rfl, hb, hg, hn, hc, hs, ht⟩
  · exact ⟨none, 0, by rw [h0], hl, fun i hi => by omega⟩
  · refine ⟨some ⟨g, 0, none⟩, cap, rfl, hl, fun i hi => ⟨g, 0, xs.getD i .nilIface, rfl, ?_, (hx i hi).ints⟩⟩
    have h1 : xs[i]? = some (xs.getD i .nilIface) := by
      simp [List.getElem?_eq_getElem (show i < xs.length by omega), List.getD_eq_getElem?_getD]
    rw [← ht, List.getElem?_take, if_pos (by omega)] at h1
    simp only [World.cell?, hg]
    rw [← ht]
    simpa using h1
/-- Kept by a world that leaves the blocks from base on, but the row's own, as they lay. -/
theorem IntsOff.kept {W W' : World} {base : Nat} {g : Option Nat} {v : Value} {l : List Int} (h : IntsOff W base g v l) (hk : ∀ k, base ≤ k → k < W.heap.size → some k ≠ g → W'.heap[k]? = W.heap[k]?) {g' : Option Nat} (hg : ∀ k, k < W.heap.size → some k ≠ g → some k ≠ g') : IntsOff W' base g' v l := by
  obtain ⟨A, cap, rfl, hl, hc⟩ := h
  refine ⟨A, cap, rfl, hl, fun i hi => ?_⟩
  obtain ⟨b, off, hA, hB, hne, hcell⟩ := hc i hi
  have hb := World.block_lt_of_cell? _ _ hcell
  refine ⟨b, off, hA, hB, hg _ hb hne, ?_⟩
  rw [← hcell]
  exact World.cell?_of_block (w := W) (hk _ hB hb hne)
theorem MRows.kept {W W' : World} {base : Nat} {v : Value} {m : List (List Int)} (h : MRows W base v m) (hk : ∀ k, base ≤ k → k < W.heap.size → W'.heap[k]? = W.heap[k]?) : MRows W' base v m := by
  obtain ⟨xs, ho, hx⟩ := h
  exact ⟨xs, owns_kept ho hk, fun i hi => (hx i hi).kept (fun k hb hs _ => hk k hb hs) (fun _ _ h => h)⟩
theorem MRows.below {W W' : World} {base : Nat} {v : Value} {m : List (List Int)} (h : MRows W base v m) (hb : Below W.heap.size W W') : MRows W' base v m := h.kept fun k _ hk => hb.block k hk
end Go.Proofs.YtiiiinoappjhdaaDoor
namespace Go.Proofs.YtiiiinoappjhdaaDoor
open Go.RowKit Go.Shelf
/-- A slice of bools that reads as a list. -/
def Bools (w : World) (v : Value) (l : List Bool) : Prop :=
  ∃ A cap, v = .slice A l.length cap ∧ l.length ≤ big ∧ ∀ i, i < l.length → ∃ b off, A = some ⟨b, off, none⟩ ∧ w.cell? ⟨b, off + i, none⟩ = some (.bool (l.getD i false))
theorem Bools.below {w w' : World} {v : Value} {l : List Bool} (h : Bools w v l) (hb : Below w.heap.size w w') : Bools w' v l := by
  obtain ⟨A, cap, hv, hl, hc⟩ := h
  refine ⟨A, cap, hv, hl, fun i hi => ?_⟩
  obtain ⟨b, off, hA, hcell⟩ := hc i hi
  exact ⟨b, off, hA, (hb.cell (p := ⟨b, off + i, none⟩) (World.block_lt_of_cell? _ _ hcell)).trans hcell⟩
theorem Bools.of_own {W : World} {n₀ : Nat} {e : TypeId} {v : Value} {l : List Bool} (h : W.ownsRow n₀ e 1 v l.length (l.map fun x => .bool x)) (hl : l.length ≤ big) : Bools W v l := by
  rcases h.2 with ⟨rfl, h0⟩ | ⟨g, cap, cur, rfl, hb, hg, hn, hc, hs, ht⟩
  · exact ⟨none, 0, by rw [h0], hl, fun i hi => by omega⟩
  · refine ⟨some ⟨g, 0, none⟩, cap, rfl, hl, fun i hi => ⟨g, 0, rfl, ?_⟩⟩
    have h1 : (l.map fun x => Value.bool x)[i]? = some (.bool (l.getD i false)) := by
      simp [List.getElem?_map, List.getElem?_eq_getElem hi, List.getD_eq_getElem?_getD]
    rw [← ht, List.getElem?_take, if_pos (by omega)] at h1
    simp only [World.cell?, hg]
    simpa using h1
theorem infoBool : (Tryd.prog.info? 4).map (fun i => (i.zero, i.size, i.bytes)) = some (some (.bool false), 1, 1) := by kernel_rfl
end Go.Proofs.YtiiiinoappjhdaaDoor
namespace Go.Proofs.YtiiiinoappjhdaaDoor
open Go.RowKit Go.Shelf
/-- Where a word leads from each of the first states. -/
def endsTo (m : List (List Int)) (u : List Int) (k : Nat) : List Int := (List.range k).map fun s => ((runM m s u : Nat) : Int)
theorem endsTo_succ (m : List (List Int)) (u : List Int) (k : Nat) : (endsTo m u (k + 1)).map (fun x => Value.int .i64 x) = (endsTo m u k).map (fun x => Value.int .i64 x) ++ [.int .i64 (runM m k u : Nat)] := by
  simp [endsTo, List.range_succ]
theorem endsTo_length (m : List (List Int)) (u : List Int) (k : Nat) : (endsTo m u k).length = k := by simp [endsTo]
theorem endsTo_get (m : List (List Int)) (u : List Int) (k s : Nat) (h : s < k) : (endsTo m u k).getD s 0 = ((runM m s u : Nat) : Int) := by simp [endsTo, List.getD_eq_getElem?_getD, h]
set_option maxRecDepth 100000 in
set_option maxHeartbeats 2000000 in
theorem rEnds_any (v u : Value) (m : List (List Int)) (l : List Int) (w : World) (h : Rows w v m) (hu : Ints w u l) (hv : validM m = true) (hw : isWordM m l = true) :
    Calls Tryd.prog 59 #[.agg #[v], u] w fun e w' => ∃ r, e = .returned r ∧ Ints w' r (endsTo m l m.length) ∧ Below w.heap.size w w' := by
  obtain ⟨j0, hj, hy0, hy1, hy2⟩ := info_parts infoInt
  have hn : m.length ≤ 60 := (valid_parts hv).2.1
  have hb0 := bal (Below.refl _ w) (.cells #[v] 24)
  obtain ⟨A, cap, rfl, _⟩ := id h
  obtain ⟨Au, capu, rfl, _⟩ := id hu
  have hbx : (w.alloc (.cells #[.slice A m.length cap] 24)).cell? ⟨w.heap.size, 0, none⟩ = some (.slice A m.length cap) := by simp
  have hs0 : (w.alloc (.cells #[.slice A m.length cap] 24)).heap.size = w.heap.size + 1 := by simp
  go_enter Tryd.func59, Tryd.ntmps59
  go_wp2
  generalize hX : w.alloc (.cells #[.slice A m.length cap] 24) = X at *
  clear hX
  go_loopw [5, 6] (fun r i wr => ∃ k : Nat, k ≤ m.length ∧ i = .int .i64 k ∧ Below (w.heap.size + 1) X wr ∧ wr.ownsRow (w.heap.size + 1) 3 1 r k ((endsTo m l k).map fun x => .int .i64 x)) (fun _ i _ => m.length - (intOf i).toNat)
  case atStart => exact ⟨0, Nat.zero_le _, rfl, Below.refl _ _, ⟨rfl, .inl ⟨rfl, rfl⟩⟩⟩
  case round =>
    obtain ⟨k, hk, rfl, hB, ho⟩ := hrel
    have hbr : wr.cell? ⟨w.heap.size, 0, none⟩ = some (.slice A m.length cap) := (hB.cell (p := ⟨w.heap.size, 0, none⟩) (Nat.lt_succ_self _)).trans hbx
    have hsz : w.heap.size + 1 ≤ wr.heap.size := by have := hB.size; omega
    have hBw : Below w.heap.size w wr := hb0.trans (hB.mono (Nat.le_succ _))
    by_cases hlt : k < m.length
    · have hkm : (k : Int) < m.length := by omega
      go_wp2_with fail
      refine (rRun_any _ _ m k l _ (h.below hBw) (hu.below hBw) hv hlt hw).mono ?_
      rintro e w2 ⟨rfl, hb2⟩
      have hs2 := hb2.size
      have hB2 := hB.trans (hb2.mono hsz)
      have ho2 := owns_kept ho (fun q _ hq => hb2.block q hq)
      have Hs := hid (endsTo_succ m l k)
      generalize runM m k l = y at *
      go_wp2_with (at_builtin; refine wpList_append_own_at _ rfl _ _ 25 rfl (w.heap.size + 1) 3 j0 (.int .i64 0) 1 8 Tryd.underlying25 hj hy0 hy1 hy2 rfl (by decide) _ _ _ rfl (ho2.alloc _) ⟨w2.heap.size, 0, none⟩ 1 1 [.int .i64 (y : Int)] rfl rfl (cell_one_new _ _ _) (by simp [Value.oneCell']) (by unfold maxLen; omega) (by omega) (by simp; omega) ?_; intro v' w5 hown' hgrow' _ hat)
      go_roundw
      case rel =>
        refine ⟨k + 1, by omega, by go_num, ?_, by rw [Hs.out]; exact hown'⟩
        refine (hB2.alloc (by omega) _).grown hgrow' (by simp; omega) (fun q hq => ?_)
        rcases ho2.2 with ⟨hr, _⟩ | ⟨g, c, cur, hr, hg, _⟩
        · rw [hr] at hq; cases hq
        · rw [hr] at hq; cases hq; exact hg
      case measure => simp [intOf]; omega
    · obtain rfl : k = m.length := by omega
      go_wp2
      go_ret
      exact ⟨_, rfl, Ints.of_own (n₀ := w.heap.size + 1) (e := 3) (by rw [endsTo_length]; exact ho) (by rw [endsTo_length]; unfold big; omega), hBw⟩
theorem elems_range {S n : Nat} (hS : S < 2 ^ n) (hn : n ≤ 64) : elems S = (List.range n).filter S.testBit := by
  have e : List.range 64 = List.range n ++ List.range' n (64 - n) := by
    rw [List.range_eq_range', List.range_eq_range', show (64 : Nat) = n + (64 - n) by omega, ← List.range'_append_1]
    simp
  rw [elems, e, List.filter_append]
  have : (List.range' n (64 - n)).filter S.testBit = [] := by
    rw [List.filter_eq_nil_iff]
    intro x hx
    have := (List.mem_range'_1.1 hx).1
    rw [testBit_big hS this]
    simp
  rw [this, List.append_nil]
/-- The states that are in a list, out of the first ones. -/
def pick (p : Nat → Bool) (k : Nat) : List Int := ((List.range k).filter p).map fun t : Nat => (t : Int)
theorem pick_succ (p : Nat → Bool) (k : Nat) : (pick p (k + 1)).map (fun x => Value.int .i64 x) = (pick p k).map (fun x => Value.int .i64 x) ++ (if p k then [.int .i64 (k : Int)] else []) := by
  unfold pick
  rw [List.range_succ, List.filter_append]
  by_cases h : p k = true <;> simp [h]
theorem pick_length (p : Nat → Bool) (k : Nat) : (pick p k).length ≤ k := by
  unfold pick
  have := List.length_filter_le p (List.range k)
  simpa using this
def thereM (m : List (List Int)) (s u : List Int) : List Int := s.map fun x => ((runM m x.toNat u : Nat) : Int)
theorem image_pick {m : List (List Int)} (hv : validM m = true) {s u : List Int} (hs : isSetM m s = true) (hu : isWordM m u = true) : pick (fun t => hasB (thereM m s u) t) m.length = imageM m s u := by
  have hm : m.length ≤ 64 := by have := (valid_parts hv).2.1; omega
  have hS : ofList s < 2 ^ m.length := ofList_lt m.length hm s (isSetM_mem hs)
  simp only [isWordM, Bool.and_eq_true] at hu
  rw [imageM, elems_range (imgWord_lt hv u _ hS hu.2) hm, pick, intsOf]
  congr 1
  apply List.filter_congr
  intro t _
  rw [Bool.eq_iff_iff, imgWord_mem hv u _ t hS hu.2, hasB, List.any_eq_true]
  constructor
  · rintro ⟨y, hy, ht⟩
    obtain ⟨x, hx, rfl⟩ := List.mem_map.1 hy
    have hxm := isSetM_mem hs x hx
    refine ⟨x.toNat, by omega, ?_, ?_⟩
    · rw [ofList_testBit, List.any_eq_true]
      exact ⟨x, hx, by simp⟩
    · have := beq_iff_eq.1 ht
      omega
  · rintro ⟨q, hq, hb, rfl⟩
    rw [ofList_testBit, List.any_eq_true] at hb
    obtain ⟨x, hx, hxq⟩ := hb
    refine ⟨_, List.mem_map.2 ⟨x, hx, rfl⟩, ?_⟩
    rw [of_decide_eq_true hxq]
    simp
end Go.Proofs.YtiiiinoappjhdaaDoor
namespace Go.Proofs.YtiiiinoappjhdaaDoor
open Go.RowKit Go.Shelf
theorem hasB_bool (v : Value) (l : List Int) (n : Int) (b : Bool) (w : World) (h : Ints w v l) (hb : hasB l n = b) :
    Calls Tryd.prog 60 #[v, .int .i64 n] w fun e w' => e = .returned (.bool b) ∧ w = w' := by
  subst hb; exact rHas_any v l n w h
theorem appended_below {B : Nat} {X w2 w5 : World} {r : Value} {k : Nat} {xs : List Value} {e : TypeId} {s : Nat} {o : Obj} (hB : Below B X w2) (ho : w2.ownsRow B e s r k xs) (hb : B ≤ w2.heap.size) (hg : (w2.alloc o).grownBy w5 r.ownBlock) : Below B X w5 := by
  refine (hB.alloc hb o).grown hg (by simp; omega) (fun q hq => ?_)
  rcases ho.2 with ⟨hr, _⟩ | ⟨g, c, cur, hr, hg, _⟩
  · rw [hr] at hq; cases hq
  · rw [hr] at hq; cases hq; exact hg
theorem there_succ (m : List (List Int)) (s u : List Int) (k : Nat) (hk : k < s.length) : (thereM m (s.take (k + 1)) u).map (fun x => Value.int .i64 x) = (thereM m (s.take k) u).map (fun x => Value.int .i64 x) ++ [.int .i64 (runM m (s.getD k 0).toNat u : Nat)] := by
  rw [List.take_succ_eq_append_getElem hk, getD_elem s k hk, thereM, List.map_append, List.map_append]
  rfl
theorem there_length (m : List (List Int)) (s u : List Int) : (thereM m s u).length = s.length := by simp [thereM]
set_option maxRecDepth 100000 in
set_option maxHeartbeats 2000000 in
theorem rImage_any (v s u : Value) (m : List (List Int)) (sl l : List Int) (w : World) (h : Rows w v m) (hs : Ints w s sl) (hu : Ints w u l) (hv : validM m = true) (h1 : isSetM m sl = true) (hw : isWordM m l = true) :
    Calls Tryd.prog 45 #[.agg #[v], s, u] w fun e w' => ∃ r, e = .returned r ∧ Ints w' r (imageM m sl l) ∧ Below w.heap.size w w' := by
  obtain ⟨j0, hj, hy0, hy1, hy2⟩ := info_parts infoInt
  have hn : m.length ≤ 60 := (valid_parts hv).2.1
  have hsl := isSetM_len h1
  have hb0 := bal (Below.refl _ w) (.cells #[v] 24)
  obtain ⟨A, cap, rfl, _⟩ := id h
  obtain ⟨Au, capu, rfl, _⟩ := id hu
  obtain ⟨As, caps, rfl, _⟩ := id hs
  have hbx : (w.alloc (.cells #[.slice A m.length cap] 24)).cell? ⟨w.heap.size, 0, none⟩ = some (.slice A m.length cap) := by simp
  have Hpick := hid (image_pick hv h1 hw)
  go_enter Tryd.func45, Tryd.ntmps45
  go_wp2_with fail
  refine (rEnds_any _ _ m l _ (h.alloc _) (hu.alloc _) hv hw).mono ?_
  rintro e X ⟨r, rfl, hends, hbX⟩
  have hX := btr hb0 hbX
  have hbX' := (hbX.cell (p := ⟨w.heap.size, 0, none⟩) (by simp)).trans hbx
  have hlt : w.heap.size < X.heap.size := World.block_lt_of_cell? _ _ hbX'
  have hsX := hs.below hX
  obtain ⟨As', caps', hAs, _, hcs⟩ := id hsX
  simp only [Value.slice.injEq] at hAs
  obtain ⟨rfl, -, rfl⟩ := hAs
  have Hcs := hid hcs
  obtain ⟨Ae, ce, rfl, _, hce⟩ := id hends
  have Hce := hid hce
  clear hce hcs hb0 hbX hbx
  rw [endsTo_length] at *
  go_wp2
  go_loopw [8, 10] (fun r i wr => ∃ k : Nat, k ≤ sl.length ∧ i = .int .i64 k ∧ Below X.heap.size X wr ∧ wr.ownsRow X.heap.size 3 1 r k ((thereM m (sl.take k) l).map fun x => .int .i64 x)) (fun _ i _ => sl.length - (intOf i).toNat)
  case atStart => exact ⟨0, Nat.zero_le _, rfl, Below.refl _ _, ⟨rfl, .inl ⟨rfl, rfl⟩⟩⟩
  case round =>
    obtain ⟨k, hk, rfl, hB, ho⟩ := hrel
    have hbr := (hB.cell (p := ⟨w.heap.size, 0, none⟩) hlt).trans hbX'
    have hsz := hB.size
    by_cases hlt' : k < sl.length
    · obtain ⟨bs, os, hAs, hcells⟩ := Hcs.out k hlt'
      subst hAs
      have hcr := (hB.cell (p := ⟨bs, os + k, none⟩) (World.block_lt_of_cell? _ _ hcells)).trans hcells
      have hmem := isSetM_mem h1 _ (show sl.getD k 0 ∈ sl by rw [getD_elem sl k hlt']; exact List.getElem_mem _)
      have Hs := hid (there_succ m sl l k hlt')
      clear hcells
      generalize hq : sl.getD k 0 = q at *
      obtain ⟨qn, rfl⟩ := Int.eq_ofNat_of_zero_le hmem.1
      rw [Int.toNat_natCast] at Hs
      obtain ⟨be, oe, hAe, hcell⟩ := Hce.out qn (by omega)
      subst hAe
      rw [endsTo_get _ _ _ _ (by omega)] at hcell
      have hcr2 := (hB.cell (p := ⟨be, oe + qn, none⟩) (World.block_lt_of_cell? _ _ hcell)).trans hcell
      have hqm : (qn : Int) < m.length := by omega
      have hks : (k : Int) < sl.length := by omega
      clear hcell hq
      generalize runM m qn l = y at *
      go_wp2_with (at_builtin; refine wpList_append_own_at _ rfl _ _ 25 rfl X.heap.size 3 j0 (.int .i64 0) 1 8 Tryd.underlying25 hj hy0 hy1 hy2 rfl (by decide) _ _ _ rfl (ho.alloc _) ⟨wr.heap.size, 0, none⟩ 1 1 [.int .i64 (y : Int)] rfl rfl (cell_one_new _ _ _) (by simp [Value.oneCell']) (by unfold maxLen; omega) (by omega) (by simp; omega) ?_; intro v' w5 hown' hgrow' _ hat)
      go_roundw
      case rel =>
        refine ⟨k + 1, by omega, by go_num, appended_below hB ho hsz hgrow', ?_⟩
        rw [Hs.out]
        exact hown'
      case measure => simp [intOf]; omega
    · obtain rfl : k = sl.length := by omega
      rw [List.take_of_length_le (Nat.le_refl _)] at ho
      have hth : Ints wr u8 (thereM m sl l) := Ints.of_own (n₀ := X.heap.size) (e := 3) (by rw [there_length]; exact ho) (by rw [there_length]; unfold big; omega)
      obtain ⟨Y, rfl⟩ : ∃ Y : World, Y = wr := ⟨_, rfl⟩
      obtain ⟨A8, c8, rfl, _⟩ := id hth
      clear ho
      go_wp2
      go_loopw [9, 11] (fun r i wr => ∃ k : Nat, k ≤ m.length ∧ i = .int .i64 k ∧ Below Y.heap.size Y wr ∧ wr.ownsRow Y.heap.size 3 1 r (pick (fun t => hasB (thereM m sl l) t) k).length ((pick (fun t => hasB (thereM m sl l) t) k).map fun x => .int .i64 x)) (fun _ i _ => m.length - (intOf i).toNat)
      case atStart => exact ⟨0, Nat.zero_le _, rfl, Below.refl _ _, ⟨rfl, .inl ⟨rfl, rfl⟩⟩⟩
      case round =>
        obtain ⟨k, hk, rfl, hB2, ho⟩ := hrel
        have hbr2 := (hB2.cell (p := ⟨w.heap.size, 0, none⟩) (by show w.heap.size < _; omega)).trans hbr
        have hsz2 := hB2.size
        by_cases hlt' : k < m.length
        · have Hs := hid (pick_succ (fun t => hasB (thereM m sl l) t) k)
          have hpl := pick_length (fun t => hasB (thereM m sl l) t) k
          have Hlen : Hid ((pick (fun t => hasB (thereM m sl l) t) (k + 1)).length = (pick (fun t => hasB (thereM m sl l) t) k).length + (if hasB (thereM m sl l) k then 1 else 0)) := by
            have := congrArg List.length Hs.out
            unfold Hid
            simp only [List.length_map, List.length_append] at this
            rw [this]
            split <;> simp
          generalize pick (fun t => hasB (thereM m sl l) t) k = pk at *
          have hkm : (k : Int) < m.length := by omega
          by_cases hb : hasB (thereM m sl l) k = true
          · go_wp2_with fail
            refine (hasB_bool _ (thereM m sl l) k true _ (hth.below hB2) hb).mono ?_
            rintro e w2 ⟨rfl, rfl⟩
            go_wp2_with (at_builtin; refine wpList_append_own_at _ rfl _ _ 25 rfl Y.heap.size 3 j0 (.int .i64 0) 1 8 Tryd.underlying25 hj hy0 hy1 hy2 rfl (by decide) _ _ _ rfl (ho.alloc _) ⟨wr.heap.size, 0, none⟩ 1 1 [.int .i64 (k : Int)] rfl rfl (cell_one_new _ _ _) (by simp [Value.oneCell']) (by unfold maxLen; omega) (by omega) (by simp; omega) ?_; intro v' w5 hown' hgrow' _ hat)
            go_roundw
            case rel =>
              refine ⟨k + 1, by omega, by go_num, appended_below hB2 ho hsz2 hgrow', ?_⟩
              rw [Hs.out, Hlen.out, if_pos hb, if_pos hb]
              exact hown'
            case measure => simp [intOf]; omega
          · have hb' : hasB (thereM m sl l) k = false := by simpa using hb
            go_wp2_with fail
            refine (hasB_bool _ (thereM m sl l) k false _ (hth.below hB2) hb').mono ?_
            rintro e w2 ⟨rfl, rfl⟩
            go_wp2
            go_roundw
            case rel =>
              refine ⟨k + 1, by omega, by go_num, hB2, ?_⟩
              rw [Hs.out, Hlen.out, if_neg hb, if_neg hb, List.append_nil, Nat.add_zero]
              exact ho
            case measure => simp [intOf]; omega
        · obtain rfl : k = m.length := by omega
          have hpl := pick_length (fun t => hasB (thereM m sl l) t) m.length
          rw [Hpick.out] at ho hpl
          go_wp2
          go_ret
          exact ⟨_, rfl, Ints.of_own (n₀ := Y.heap.size) (e := 3) ho (by unfold big; omega), btr (btr hX hB) hB2⟩
end Go.Proofs.YtiiiinoappjhdaaDoor
namespace Go.Proofs.YtiiiinoappjhdaaDoor
open Go.RowKit Go.Shelf
theorem Ints.two' (w : World) (x y : Int) (t : TypeId) (k : Nat) (hk : k = w.heap.size) : Ints (w.alloc (.cells #[.int .i64 x, .int .i64 y] t)) (.slice (some ⟨k, 0, none⟩) 2 2) [x, y] := by
  subst hk
  refine ⟨_, 2, rfl, by unfold big; simp, fun i hi => ⟨w.heap.size, 0, rfl, ?_⟩⟩
  have h2 : i = 0 ∨ i = 1 := by simp at hi; omega
  rcases h2 with rfl | rfl <;> simp
theorem rSame_eq (v u : Value) (l : List Int) (w : World) (h : Ints w v l) (hu : Ints w u l) : Calls Tryd.prog 15 #[v, u] w fun e w' => e = .returned (.bool true) ∧ Below w.heap.size w w' := by
  have hs := rSame_any v u l l w h hu
  rw [decide_eq_true rfl] at hs
  exact hs
end Go.Proofs.YtiiiinoappjhdaaDoor
namespace Go.Proofs.YtiiiinoappjhdaaDoor
open Go.RowKit Go.Shelf
theorem rValid_bool (v : Value) (m : List (List Int)) (b : Bool) (w : World) (h : Rows w v m) (hb : validM m = b) :
    Calls Tryd.prog 12 #[.agg #[v]] w fun e w' => e = .returned (.bool b) ∧ Below w.heap.size w w' := by
  subst hb; exact rValid_any v m w h
end Go.Proofs.YtiiiinoappjhdaaDoor
namespace Go.Proofs.YtiiiinoappjhdaaDoor
open Go.RowKit Go.Shelf
theorem owns_block {B g n c k : Nat} {e : TypeId} {s : Nat} {xs : List Value} {w w' : World} (h : w.ownsRow B e s (.slice (some ⟨g, 0, none⟩) n c) k xs) (hg : w'.heap[g]? = w.heap[g]?) : w'.ownsRow B e s (.slice (some ⟨g, 0, none⟩) n c) k xs := by
  obtain ⟨h1, h2⟩ := h
  refine ⟨h1, ?_⟩
  rcases h2 with ⟨h', _⟩ | ⟨g', cap', cur, h', hB, hh, r⟩
  · simp at h'
  · simp only [Value.slice.injEq, Option.some.injEq, Addr.mk.injEq, and_true, true_and] at h'
    obtain ⟨rfl, rfl, rfl⟩ := h'
    exact .inr ⟨g, c, cur, rfl, hB, by rw [hg]; exact hh, r⟩
end Go.Proofs.YtiiiinoappjhdaaDoor
namespace Go.Proofs.YtiiiinoappjhdaaDoor
open Go.RowKit Go.Shelf
theorem ownq_lt {W : World} {base : Nat} {e : TypeId} {s : Nat} {g n c k : Nat} {xs : List Value} (h : W.ownsRow base e s (.slice (some ⟨g, 0, none⟩) n c) k xs) : base ≤ g ∧ g < W.heap.size := by
  rcases h.2 with ⟨h', _⟩ | ⟨g', cap, cur, h', hb, hh, _⟩
  · cases h'
  · cases h'; exact ⟨hb, (Array.getElem?_eq_some_iff.1 hh).1⟩
theorem List.map_set_bool (l : List Bool) (i : Nat) (b : Bool) : (l.set i b).map (fun x => Value.bool x) = (l.map fun x => Value.bool x).set i (.bool b) := by rw [List.map_set]
end Go.Proofs.YtiiiinoappjhdaaDoor
namespace Go.Proofs.YtiiiinoappjhdaaDoor
open Go.RowKit Go.Shelf
/-- Some letters lead there. -/
def reachP (m : List (List Int)) (s t : Nat) : Prop := ∃ u : List Int, u.all (inB 0 ((letters m : Int) - 1)) = true ∧ runM m s u = t
theorem reachP.refl (m : List (List Int)) (s : Nat) : reachP m s s := ⟨[], rfl, rfl⟩
theorem reachP.step {m : List (List Int)} {s t : Nat} {x : Nat} (hx : x < letters m) (h : reachP m (nx m s x) t) : reachP m s t := by
  obtain ⟨u, hu, rfl⟩ := h
  refine ⟨(x : Int) :: u, ?_, rfl⟩
  rw [List.all_cons, hu, inB_true (by omega)]; rfl
theorem reachP.trans {m : List (List Int)} {s t r : Nat} (h : reachP m s t) (k : reachP m t r) : reachP m s r := by
  obtain ⟨u, hu, rfl⟩ := h
  obtain ⟨v, hv, rfl⟩ := k
  exact ⟨u ++ v, by rw [List.all_append, hu, hv]; rfl, by rw [runM, List.foldl_append]; rfl⟩
/-- What a search in depth has done. -/
structure DfsPost (m : List (List Int)) (S s S' : Nat) : Prop where
  lt : S' < 2 ^ m.length
  sub : ∀ t, S.testBit t = true → S'.testBit t = true
  here : S'.testBit s = true
  shut : ∀ t, S'.testBit t = true → S.testBit t = false → ∀ x, x < letters m → S'.testBit (nx m t x) = true
  from_ : ∀ t, S'.testBit t = true → S.testBit t = true ∨ reachP m s t
/-- The search goes on from the next state. -/
structure DfsInv (m : List (List Int)) (S s j Sj : Nat) : Prop where
  lt : Sj < 2 ^ m.length
  sub : ∀ t, S.testBit t = true → Sj.testBit t = true
  here : Sj.testBit s = true
  shut : ∀ t, Sj.testBit t = true → S.testBit t = false → t ≠ s → ∀ x, x < letters m → Sj.testBit (nx m t x) = true
  done : ∀ x, x < j → Sj.testBit (nx m s x) = true
  from_ : ∀ t, Sj.testBit t = true → S.testBit t = true ∨ reachP m s t
theorem DfsInv.start {m : List (List Int)} {S s : Nat} (hS : S < 2 ^ m.length) (hs : s < m.length) : DfsInv m S s 0 (S ||| 2 ^ s) := by
  refine ⟨with_lt S s _ hS hs, fun t ht => ?_, ?_, fun t ht h0 hne => ?_, fun x hx => by omega, fun t ht => ?_⟩
  · rw [testBit_with, ht]; rfl
  · rw [testBit_with]; simp
  · rw [testBit_with, h0] at ht; simp at ht; omega
  · rw [testBit_with, Bool.or_eq_true, decide_eq_true_eq] at ht
    rcases ht with h | rfl
    · exact .inl h
    · exact .inr (reachP.refl m _)
theorem DfsInv.next {m : List (List Int)} {S s j Sj S' : Nat} (h : DfsInv m S s j Sj) (hj : j < letters m) (k : DfsPost m Sj (nx m s j) S') : DfsInv m S s (j + 1) S' := by
  refine ⟨k.lt, fun t ht => k.sub t (h.sub t ht), k.sub s h.here, fun t ht h0 hne x hx => ?_, fun x hx => ?_, fun t ht => ?_⟩
  · cases hb : Sj.testBit t with
    | true => exact k.sub _ (h.shut t hb h0 hne x hx)
    | false => exact k.shut t ht hb x hx
  · by_cases e : x = j
    · subst e; exact k.here
    · exact k.sub _ (h.done x (by omega))
  · rcases k.from_ t ht with h1 | h1
    · exact h.from_ t h1
    · exact .inr (reachP.step hj h1)
theorem DfsInv.post {m : List (List Int)} {S s S' : Nat} (h : DfsInv m S s (letters m) S') : DfsPost m S s S' :=
  ⟨h.lt, h.sub, h.here, fun t ht h0 x hx => by
    by_cases e : t = s
    · subst e; exact h.done x hx
    · exact h.shut t ht h0 e x hx, h.from_⟩
end Go.Proofs.YtiiiinoappjhdaaDoor
namespace Go.Proofs.YtiiiinoappjhdaaDoor
open Go.RowKit Go.Shelf
open Classical in
/-- The states to which letters lead, as a set. -/
noncomputable def reachM (m : List (List Int)) (s : Nat) : Nat := ofList (((List.range m.length).filter fun t => decide (reachP m s t)).map fun t : Nat => (t : Int))
/-- Strongly connected. -/
noncomputable def connM (m : List (List Int)) : Bool := (List.range m.length).all fun s => decide (reachM m s = 2 ^ m.length - 1)
end Go.Proofs.YtiiiinoappjhdaaDoor
namespace Go.Proofs.YtiiiinoappjhdaaDoor
open Go.RowKit Go.Shelf
/-- A step: the place, the step that it was reached from, the letter. -/
abbrev Steps := List (Int × Int × Int)
def plB (B : Steps) (i : Nat) : Int := (B.getD i (0, 0, 0)).1
def frB (B : Steps) (i : Nat) : Int := (B.getD i (0, 0, 0)).2.1
def leB (B : Steps) (i : Nat) : Int := (B.getD i (0, 0, 0)).2.2
/-- Each step but the first one comes from an earlier one. -/
def TreeB (B : Steps) : Prop := 0 < B.length ∧ frB B 0 = -1 ∧ ∀ i, 0 < i → i < B.length → 0 ≤ frB B i ∧ frB B i < i
def wordF (B : Steps) : Nat → Nat → List Int
  | 0, _ => []
  | f + 1, i => if frB B i < 0 then [] else wordF B f (frB B i).toNat ++ [leB B i]
def wordB (B : Steps) (i : Nat) : List Int := wordF B (i + 1) i
theorem wordF_fuel {B : Steps} (hB : TreeB B) : ∀ (i f : Nat), i < B.length → i < f → wordF B f i = wordB B i := by
  intro i
  induction i using Nat.strongRecOn with
  | _ i ih =>
    intro f hi hf
    cases f with
    | zero => omega
    | succ f =>
      rw [wordB, wordF, wordF]
      by_cases h0 : frB B i < 0
      · rw [if_pos h0, if_pos h0]
      · rw [if_neg h0, if_neg h0]
        have hp : 0 < i := by
          rcases Nat.eq_zero_or_pos i with e | e
          · subst e; rw [hB.2.1] at h0; omega
          · exact e
        obtain ⟨h1, h2⟩ := hB.2.2 i hp hi
        rw [ih (frB B i).toNat (by omega) f (by omega) (by omega), ih (frB B i).toNat (by omega) i (by omega) (by omega)]
theorem wordB_root {B : Steps} (hB : TreeB B) : wordB B 0 = [] := by
  rw [wordB, wordF, hB.2.1]; rfl
theorem wordB_step {B : Steps} (hB : TreeB B) {i : Nat} (h0 : 0 < i) (hi : i < B.length) : wordB B i = wordB B (frB B i).toNat ++ [leB B i] := by
  obtain ⟨h1, h2⟩ := hB.2.2 i h0 hi
  rw [wordB, wordF, if_neg (by omega), wordF_fuel hB _ i (by omega) (by omega)]
theorem wordB_len {B : Steps} (hB : TreeB B) : ∀ i, i < B.length → (wordB B i).length ≤ i := by
  intro i
  induction i using Nat.strongRecOn with
  | _ i ih =>
    intro hi
    rcases Nat.eq_zero_or_pos i with e | e
    · subst e; rw [wordB_root hB]; simp
    · obtain ⟨h1, h2⟩ := hB.2.2 i e hi
      have := ih (frB B i).toNat (by omega) (by omega)
      rw [wordB_step hB e hi, List.length_append]
      simp; omega
/-- The word behind, zeros ahead. -/
def halfRow (W : List Int) (k : Nat) : List Value := List.replicate k (.int .i64 0) ++ (W.drop k).map fun x => .int .i64 x
theorem halfRow_set (W : List Int) (k : Nat) (x : Int) (hk : k < W.length) (hx : W.getD k 0 = x) : (halfRow W (k + 1)).set k (.int .i64 x) = halfRow W k := by
  unfold halfRow
  apply List.ext_getElem
  · simp; omega
  · intro i h1 h2
    rw [List.getElem_set]
    by_cases e : k = i
    · subst e
      rw [if_pos rfl, List.getElem_append_right (by simp)]
      simp only [List.length_replicate, Nat.sub_self, List.getElem_map, List.getElem_drop, Nat.add_zero]
      rw [← hx, getD_elem W k hk]
    · rw [if_neg e]
      by_cases h3 : i < k
      · rw [List.getElem_append_left (by simp; omega), List.getElem_append_left (by simp; omega)]
        simp
      · rw [List.getElem_append_right (by simp; omega), List.getElem_append_right (by simp; omega)]
        simp only [List.length_replicate, List.getElem_map, List.getElem_drop]
        congr 2
        omega
end Go.Proofs.YtiiiinoappjhdaaDoor
namespace Go.Proofs.YtiiiinoappjhdaaDoor
open Go.RowKit Go.Shelf Go.Maps Go.WideAt
theorem zeroB (w : World) : (zeroValue 4).run Tryd.prog w = .ok (.bool false) w := by kernel_rfl
theorem plainB (x : Bool) : (plainElem Tryd.prog 4 (.bool x) : Option (DataW Unit × List MemPlace)) = some (.lit (.bool x), []) := by
  unfold plainElem; rw [Tryd.underlying4]
theorem plainB_inv {v : Value} {x : DataW Unit} {ps : List MemPlace} (h : plainElem Tryd.prog 4 v = some (x, ps)) : ∃ b, v = .bool b ∧ x = .lit (.bool b) := by
  have e := Tryd.underlying4
  generalize Tryd.prog = P at *
  unfold plainElem at h
  cases v with
  | bool b =>
    simp only [e, Option.some.injEq, Prod.mk.injEq] at h
    exact ⟨b, rfl, h.1.symm⟩
  | _ => simp [e] at h
/-- A map from numbers to bools that reads as a set. -/
def SeenMap (w : World) (bm n : Nat) (S : Nat → Bool) : Prop :=
  ∃ D : DataW Unit, w.ownsMap Tryd.prog 3 (plainElem Tryd.prog 4) bm n D ∧ IsMap D ∧ ∀ p : Nat, D.atKey (.int .i64 p) (.lit (.bool false)) = .lit (.bool (S p))
theorem SeenMap.made (w : World) : SeenMap (w.alloc (.map #[] 0)) w.heap.size 0 (fun _ => false) :=
  ⟨.map [], World.ownsMap_made w _ _ _, ⟨[], rfl⟩, fun p => rfl⟩
theorem SeenMap.kept {w w' : World} {bm n : Nat} {S : Nat → Bool} (h : SeenMap w bm n S) (hk : w'.heap[bm]? = w.heap[bm]?) : SeenMap w' bm n S := by
  obtain ⟨D, ⟨es, clock, hb, F, hs, hD⟩, hM, hS⟩ := h
  exact ⟨D, ⟨es, clock, hk.trans hb, F, hs, hD⟩, hM, hS⟩
theorem SeenMap.lt {w : World} {bm n : Nat} {S : Nat → Bool} (h : SeenMap w bm n S) : bm < w.heap.size := by
  obtain ⟨D, hD, _⟩ := h; exact hD.lt
end Go.Proofs.YtiiiinoappjhdaaDoor
namespace Go.Proofs.YtiiiinoappjhdaaDoor
open Go.RowKit Go.Shelf
def hasP (B : Steps) (p : Nat) : Bool := B.any fun t => t.1 == (p : Int)
/-- One letter from the place of a step. -/
def addB (ld : Nat → Nat → Nat) (B : Steps) (p i x : Nat) : Steps := if hasP B (ld p x) then B else B ++ [(((ld p x : Nat) : Int), (i : Int), (x : Int))]
def rowB (ld : Nat → Nat → Nat) (B : Steps) (p i : Nat) : Nat → Steps
  | 0 => B
  | x + 1 => addB ld (rowB ld B p i x) p i x
def bfsTo (ld : Nat → Nat → Nat) (K s : Nat) : Nat → Steps
  | 0 => [((s : Int), -1, 0)]
  | i + 1 => if i < (bfsTo ld K s i).length then rowB ld (bfsTo ld K s i) (plB (bfsTo ld K s i) i).toNat i K else bfsTo ld K s i
theorem hasP_snoc (B : Steps) (t : Int × Int × Int) (p : Nat) : hasP (B ++ [t]) p = (hasP B p || t.1 == (p : Int)) := by simp [hasP]
theorem getD_pre {B C : Steps} (h : B <+: C) (i : Nat) (hi : i < B.length) : C.getD i (0, 0, 0) = B.getD i (0, 0, 0) := by
  obtain ⟨t, rfl⟩ := h
  simp only [List.getD_eq_getElem?_getD, List.getElem?_append_left hi]
theorem addB_pre (ld : Nat → Nat → Nat) (B : Steps) (p i x : Nat) : B <+: addB ld B p i x := by
  unfold addB; split
  · exact List.prefix_refl _
  · exact List.prefix_append _ _
theorem rowB_pre (ld : Nat → Nat → Nat) (B : Steps) (p i : Nat) : ∀ x, B <+: rowB ld B p i x
  | 0 => List.prefix_refl _
  | x + 1 => (rowB_pre ld B p i x).trans (addB_pre _ _ _ _ _)
theorem bfs_pre (ld : Nat → Nat → Nat) (K s i : Nat) : bfsTo ld K s i <+: bfsTo ld K s (i + 1) := by
  show _ <+: (if i < (bfsTo ld K s i).length then _ else _)
  split
  · exact rowB_pre _ _ _ _ _
  · exact List.prefix_refl _
theorem bfs_pre_le (ld : Nat → Nat → Nat) (K s i : Nat) : ∀ d, bfsTo ld K s i <+: bfsTo ld K s (i + d)
  | 0 => List.prefix_refl _
  | d + 1 => (bfs_pre_le ld K s i d).trans (bfs_pre ld K s (i + d))
theorem bfs_stop (ld : Nat → Nat → Nat) (K s i : Nat) (h : (bfsTo ld K s i).length ≤ i) : ∀ d, bfsTo ld K s (i + d) = bfsTo ld K s i
  | 0 => rfl
  | d + 1 => by
    have ih := bfs_stop ld K s i h d
    have e : bfsTo ld K s (i + (d + 1)) = (if i + d < (bfsTo ld K s (i + d)).length then rowB ld (bfsTo ld K s (i + d)) (plB (bfsTo ld K s (i + d)) (i + d)).toNat (i + d) K else bfsTo ld K s (i + d)) := rfl
    rw [e, ih, if_neg (by omega)]
/-- What holds of steps: a tree; each place once, and below n. -/
structure GoodB (n : Nat) (B : Steps) : Prop where
  tree : TreeB B
  below : ∀ i, i < B.length → ∃ p : Nat, plB B i = p ∧ p < n
  nodup : (B.map (·.1)).Nodup
  let_ : ∀ i, i < B.length → ∃ x : Nat, leB B i = x ∧ x < 1000
theorem pre_pl {B C : Steps} (h : B <+: C) (i : Nat) (hi : i < B.length) : plB C i = plB B i ∧ frB C i = frB B i ∧ leB C i = leB B i := by
  unfold plB frB leB; rw [getD_pre h i hi]; exact ⟨rfl, rfl, rfl⟩
theorem snoc_pl (B : Steps) (p : Nat) (i x : Int) : plB (B ++ [((p : Int), i, x)]) B.length = p ∧ frB (B ++ [((p : Int), i, x)]) B.length = i ∧ leB (B ++ [((p : Int), i, x)]) B.length = x := by
  unfold plB frB leB; simp [List.getD_eq_getElem?_getD]
theorem GoodB.start {n s : Nat} (hs : s < n) : GoodB n [((s : Int), -1, 0)] := by
  refine ⟨⟨by simp, rfl, fun i h0 hi => by simp at hi; omega⟩, fun i hi => ?_, by simp, fun i hi => ?_⟩
  · obtain rfl : i = 0 := by simpa using hi
    exact ⟨s, rfl, hs⟩
  · obtain rfl : i = 0 := by simpa using hi
    exact ⟨0, rfl, by omega⟩
theorem GoodB.add {n : Nat} {B : Steps} (h : GoodB n B) {ld : Nat → Nat → Nat} {p i x : Nat} (hi : i < B.length) (hx : x < 1000) (hq : ld p x < n) : GoodB n (addB ld B p i x) := by
  unfold addB
  split
  · exact h
  · rename_i hn
    obtain ⟨s1, s2, s3⟩ := snoc_pl B (ld p x) (i : Int) (x : Int)
    have hp : B <+: B ++ [(((ld p x : Nat) : Int), (i : Int), (x : Int))] := List.prefix_append _ _
    obtain ⟨t1, t2, t3⟩ := h.tree
    refine ⟨⟨by simp, by rw [(pre_pl hp 0 t1).2.1]; exact t2, fun j h0 hj => ?_⟩, fun j hj => ?_, ?_, fun j hj => ?_⟩
    · by_cases e : j < B.length
      · rw [(pre_pl hp j e).2.1]; exact t3 j h0 e
      · obtain rfl : j = B.length := by simp at hj; omega
        rw [s2]; omega
    · by_cases e : j < B.length
      · rw [(pre_pl hp j e).1]; exact h.below j e
      · obtain rfl : j = B.length := by simp at hj; omega
        exact ⟨_, s1, hq⟩
    · rw [List.map_append, List.nodup_append]
      refine ⟨h.nodup, by simp, fun a ha b hb => ?_⟩
      simp only [List.map_cons, List.map_nil, List.mem_cons, List.mem_nil_iff, or_false] at hb
      subst hb
      intro e
      subst e
      obtain ⟨t, ht, he⟩ := List.mem_map.1 ha
      refine hn ?_
      rw [hasP, List.any_eq_true]
      exact ⟨t, ht, by rw [he]; simp⟩
    · by_cases e : j < B.length
      · rw [(pre_pl hp j e).2.2]; exact h.let_ j e
      · obtain rfl : j = B.length := by simp at hj; omega
        exact ⟨x, s3, hx⟩
theorem GoodB.row {n : Nat} {B : Steps} (h : GoodB n B) {ld : Nat → Nat → Nat} {p i : Nat} (hi : i < B.length) : ∀ K, K ≤ 1000 → (∀ x, x < K → ld p x < n) → GoodB n (rowB ld B p i K)
  | 0, _, _ => h
  | K + 1, hK, hq => (h.row hi K (by omega) (fun x hx => hq x (by omega))).add (Nat.lt_of_lt_of_le hi (rowB_pre ld B p i K).length_le) (by omega) (hq K (by omega))
theorem GoodB.bfs {n K s : Nat} {ld : Nat → Nat → Nat} (hs : s < n) (hK : K ≤ 1000) (hld : ∀ p x, p < n → x < K → ld p x < n) : ∀ i, GoodB n (bfsTo ld K s i)
  | 0 => GoodB.start hs
  | i + 1 => by
    have ih := GoodB.bfs (n := n) hs hK hld i
    show GoodB n (if i < (bfsTo ld K s i).length then _ else _)
    split
    · rename_i hlt
      obtain ⟨p, hp, hpn⟩ := ih.below i hlt
      rw [hp, Int.toNat_natCast]
      exact ih.row hlt K hK (fun x hx => hld p x hpn hx)
    · exact ih
theorem nodup_len : ∀ (n : Nat) (l : List Int), l.Nodup → (∀ x ∈ l, 0 ≤ x ∧ x < (n : Int)) → l.length ≤ n
  | 0, l, _, hb => by
    cases l with
    | nil => simp
    | cons a l => have := hb a (by simp); omega
  | n + 1, l, hn, hb => by
    by_cases hm : (n : Int) ∈ l
    · have h1 := nodup_len n (l.erase n) (hn.erase _) (fun x hx => by
        have h2 := hb x (List.mem_of_mem_erase hx)
        have h3 : x ≠ n := fun e => by subst e; exact (List.Nodup.not_mem_erase hn) hx
        omega)
      rw [List.length_erase_of_mem hm] at h1
      omega
    · have := nodup_len n l hn (fun x hx => by
        have h2 := hb x hx
        have h3 : x ≠ n := fun e => by subst e; exact hm hx
        omega)
      omega
theorem GoodB.len {n : Nat} {B : Steps} (h : GoodB n B) : B.length ≤ n := by
  have := nodup_len n (B.map (·.1)) h.nodup (fun x hx => by
    obtain ⟨t, ht, rfl⟩ := List.mem_map.1 hx
    obtain ⟨i, hi, rfl⟩ := List.mem_iff_getElem.1 ht
    obtain ⟨p, hp, hpn⟩ := h.below i hi
    unfold plB at hp
    rw [List.getD_eq_getElem?_getD, List.getElem?_eq_getElem hi, Option.getD_some] at hp
    omega)
  simpa using this
/-- The word of a step does not change. -/
theorem wordB_pre {n : Nat} {B C : Steps} (h : B <+: C) (hB : GoodB n B) (hC : GoodB n C) : ∀ i, i < B.length → wordB C i = wordB B i := by
  intro i
  induction i using Nat.strongRecOn with
  | _ i ih =>
    intro hi
    have hi' : i < C.length := Nat.lt_of_lt_of_le hi h.length_le
    rcases Nat.eq_zero_or_pos i with e | e
    · subst e; rw [wordB_root hB.tree, wordB_root hC.tree]
    · obtain ⟨_, h2, h3⟩ := pre_pl h i hi
      obtain ⟨k1, k2⟩ := hB.tree.2.2 i e hi
      rw [wordB_step hC.tree e hi', wordB_step hB.tree e hi, h2, h3, ih (frB B i).toNat (by omega) (by omega)]
end Go.Proofs.YtiiiinoappjhdaaDoor
namespace Go.Proofs.YtiiiinoappjhdaaDoor
open Go.RowKit Go.Shelf
/-- The steps come in the order of those that they come from, up to a bound. -/
def RiseB (B : Steps) (b : Int) : Prop := (∀ k, k < B.length → frB B k ≤ b) ∧ ∀ j k, j ≤ k → k < B.length → frB B j ≤ frB B k
theorem RiseB.mono {B : Steps} {b c : Int} (h : RiseB B b) (hbc : b ≤ c) : RiseB B c := ⟨fun k hk => by have := h.1 k hk; omega, h.2⟩
theorem RiseB.add {B : Steps} {i : Nat} (h : RiseB B i) (ld : Nat → Nat → Nat) (p x : Nat) : RiseB (addB ld B p i x) i := by
  unfold addB
  split
  · exact h
  · obtain ⟨s1, s2, s3⟩ := snoc_pl B (ld p x) (i : Int) (x : Int)
    have hp : B <+: B ++ [(((ld p x : Nat) : Int), (i : Int), (x : Int))] := List.prefix_append _ _
    have key : ∀ k, k < (B ++ [(((ld p x : Nat) : Int), (i : Int), (x : Int))]).length → (k < B.length ∧ frB (B ++ [(((ld p x : Nat) : Int), (i : Int), (x : Int))]) k = frB B k) ∨ (k = B.length ∧ frB (B ++ [(((ld p x : Nat) : Int), (i : Int), (x : Int))]) k = i) := fun k hk => by
      by_cases e : k < B.length
      · exact .inl ⟨e, (pre_pl hp k e).2.1⟩
      · have e2 : k = B.length := by rw [List.length_append] at hk; simp at hk; omega
        subst e2
        exact .inr ⟨rfl, s2⟩
    refine ⟨fun k hk => ?_, fun j k hjk hk => ?_⟩
    · rcases key k hk with ⟨h1, h2⟩ | ⟨_, h2⟩ <;> rw [h2]
      · exact h.1 k h1
      · exact Int.le_refl _
    · rcases key k hk with ⟨h1, h2⟩ | ⟨h1, h2⟩
      · rcases key j (by omega) with ⟨h3, h4⟩ | ⟨h3, h4⟩
        · rw [h2, h4]; exact h.2 j k hjk h1
        · omega
      · rcases key j (by omega) with ⟨h3, h4⟩ | ⟨h3, h4⟩
        · rw [h2, h4]; exact h.1 j h3
        · rw [h2, h4]; exact Int.le_refl _
theorem RiseB.row {B : Steps} {i : Nat} (h : RiseB B i) (ld : Nat → Nat → Nat) (p : Nat) : ∀ K, RiseB (rowB ld B p i K) i
  | 0 => h
  | K + 1 => (h.row ld p K).add ld p K
theorem RiseB.bfs (ld : Nat → Nat → Nat) (K s : Nat) : ∀ i : Nat, RiseB (bfsTo ld K s i) ((i : Int) - 1)
  | 0 => by
    refine ⟨fun k hk => ?_, fun j k hjk hk => ?_⟩
    · obtain rfl : k = 0 := by simpa [bfsTo] using hk
      exact Int.le_of_eq rfl
    · obtain rfl : k = 0 := by simpa [bfsTo] using hk
      obtain rfl : j = 0 := by omega
      exact Int.le_refl _
  | i + 1 => by
    have ih := RiseB.bfs ld K s i
    have e : bfsTo ld K s (i + 1) = (if i < (bfsTo ld K s i).length then rowB ld (bfsTo ld K s i) (plB (bfsTo ld K s i) i).toNat i K else bfsTo ld K s i) := rfl
    rw [e]
    split
    · exact ((ih.mono (by omega)).row ld _ K).mono (by omega)
    · exact ih.mono (by omega)
theorem hasP_iff {B : Steps} {q : Nat} (h : hasP B q = true) : ∃ j, j < B.length ∧ plB B j = (q : Int) := by
  rw [hasP, List.any_eq_true] at h
  obtain ⟨t, ht, he⟩ := h
  obtain ⟨j, hj, rfl⟩ := List.mem_iff_getElem.1 ht
  refine ⟨j, hj, ?_⟩
  unfold plB
  rw [List.getD_eq_getElem?_getD, List.getElem?_eq_getElem hj, Option.getD_some]
  exact eq_of_beq he
theorem addB_has (ld : Nat → Nat → Nat) (B : Steps) (p i x : Nat) : hasP (addB ld B p i x) (ld p x) = true := by
  unfold addB
  split
  · assumption
  · rw [hasP_snoc]; simp
end Go.Proofs.YtiiiinoappjhdaaDoor
namespace Go.Proofs.YtiiiinoappjhdaaDoor
open Go.RowKit Go.Shelf
/-- Each step's letter leads from the place that it comes from. -/
def EdgeB (ld : Nat → Nat → Nat) (B : Steps) : Prop := ∀ k, 0 < k → k < B.length → plB B k = ((ld (plB B (frB B k).toNat).toNat (leB B k).toNat : Nat) : Int)
theorem EdgeB.add {ld : Nat → Nat → Nat} {B : Steps} (hT : TreeB B) (h : EdgeB ld B) {p i x : Nat} (hi : i < B.length) (hp : plB B i = (p : Int)) : EdgeB ld (addB ld B p i x) := by
  unfold addB
  split
  · exact h
  · obtain ⟨s1, s2, s3⟩ := snoc_pl B (ld p x) (i : Int) (x : Int)
    have hpre : B <+: B ++ [(((ld p x : Nat) : Int), (i : Int), (x : Int))] := List.prefix_append _ _
    intro k h0 hk
    by_cases e : k < B.length
    · obtain ⟨t1, t2⟩ := hT.2.2 k h0 e
      rw [(pre_pl hpre k e).1, (pre_pl hpre k e).2.1, (pre_pl hpre k e).2.2, (pre_pl hpre (frB B k).toNat (by omega)).1]
      exact h k h0 e
    · have e2 : k = B.length := by rw [List.length_append] at hk; simp at hk; omega
      subst e2
      rw [s1, s2, s3, Int.toNat_natCast, Int.toNat_natCast, (pre_pl hpre i hi).1, hp, Int.toNat_natCast]
theorem EdgeB.row {n : Nat} {ld : Nat → Nat → Nat} {B : Steps} (hG : GoodB n B) (h : EdgeB ld B) {p i : Nat} (hi : i < B.length) (hp : plB B i = (p : Int)) : ∀ K, K ≤ 1000 → (∀ x, x < K → ld p x < n) → EdgeB ld (rowB ld B p i K)
  | 0, _, _ => h
  | K + 1, hK, hq => by
    have hg := GoodB.row hG hi K (by omega) (fun x hx => hq x (by omega))
    exact (EdgeB.row hG h hi hp K (by omega) (fun x hx => hq x (by omega))).add hg.tree (Nat.lt_of_lt_of_le hi (rowB_pre ld B p i K).length_le) ((pre_pl (rowB_pre ld B p i K) i hi).1.trans hp)
theorem EdgeB.bfs {n K s : Nat} {ld : Nat → Nat → Nat} (hs : s < n) (hK : K ≤ 1000) (hld : ∀ p x, p < n → x < K → ld p x < n) : ∀ i, EdgeB ld (bfsTo ld K s i)
  | 0 => fun k h0 hk => by simp [bfsTo] at hk; omega
  | i + 1 => by
    have ih := EdgeB.bfs (n := n) hs hK hld i
    have e : bfsTo ld K s (i + 1) = (if i < (bfsTo ld K s i).length then rowB ld (bfsTo ld K s i) (plB (bfsTo ld K s i) i).toNat i K else bfsTo ld K s i) := rfl
    rw [e]
    split
    · rename_i hlt
      have hg := GoodB.bfs (n := n) (K := K) (s := s) (ld := ld) hs hK hld i
      obtain ⟨p, hp, hpn⟩ := hg.below i hlt
      rw [hp, Int.toNat_natCast]
      exact EdgeB.row hg ih hlt hp K hK (fun x hx => hld p x hpn hx)
    · exact ih
theorem bfs_zero (ld : Nat → Nat → Nat) (K s n : Nat) : 0 < (bfsTo ld K s n).length ∧ plB (bfsTo ld K s n) 0 = (s : Int) := by
  have hpre : bfsTo ld K s 0 <+: bfsTo ld K s n := by
    have := bfs_pre_le ld K s 0 n
    rwa [Nat.zero_add] at this
  have h0 : 0 < (bfsTo ld K s 0).length := Nat.zero_lt_one
  exact ⟨Nat.lt_of_lt_of_le h0 hpre.length_le, (pre_pl hpre 0 h0).1⟩
/-- The word of a step leads to its place. -/
theorem word_leads {n K s : Nat} {ld : Nat → Nat → Nat} (hs : s < n) (hK : K ≤ 1000) (hld : ∀ p x, p < n → x < K → ld p x < n) : ∀ j, j < (bfsTo ld K s n).length → plB (bfsTo ld K s n) j = ((((wordB (bfsTo ld K s n) j).map Int.toNat).foldl ld s : Nat) : Int) := by
  have hg := GoodB.bfs (n := n) (K := K) (s := s) (ld := ld) hs hK hld n
  have hE := EdgeB.bfs (n := n) (K := K) (s := s) (ld := ld) hs hK hld n
  have hz := (bfs_zero ld K s n).2
  intro j
  induction j using Nat.strongRecOn with
  | _ j ih =>
    intro hj
    rcases Nat.eq_zero_or_pos j with e | e
    · subst e; rw [wordB_root hg.tree, hz]; rfl
    · obtain ⟨b1, b2⟩ := hg.tree.2.2 j e hj
      rw [hE j e hj, wordB_step hg.tree e hj, List.map_append, List.foldl_append]
      have h := ih (frB (bfsTo ld K s n) j).toNat (by omega) (by omega)
      rw [h, Int.toNat_natCast]
      rfl
end Go.Proofs.YtiiiinoappjhdaaDoor
namespace Go.Proofs.YtiiiinoappjhdaaDoor
open Go.RowKit Go.Shelf
/-- The steps came in the order of (the step that they come from, the letter); all before a round and a letter. -/
def OrdB (B : Steps) (i x : Int) : Prop :=
  (∀ k, 0 < k → k < B.length → frB B k < i ∨ (frB B k = i ∧ leB B k < x)) ∧ ∀ j k, 0 < j → j < k → k < B.length → frB B j < frB B k ∨ (frB B j = frB B k ∧ leB B j < leB B k)
theorem OrdB.add {B : Steps} {i x : Nat} (h : OrdB B i x) (ld : Nat → Nat → Nat) (p : Nat) : OrdB (addB ld B p i x) i ((x : Int) + 1) := by
  unfold addB
  split
  · refine ⟨fun k h0 hk => ?_, h.2⟩
    rcases h.1 k h0 hk with h1 | ⟨h1, h2⟩
    · exact .inl h1
    · exact .inr ⟨h1, by omega⟩
  · obtain ⟨s1, s2, s3⟩ := snoc_pl B (ld p x) (i : Int) (x : Int)
    have hp : B <+: B ++ [(((ld p x : Nat) : Int), (i : Int), (x : Int))] := List.prefix_append _ _
    have key : ∀ k, k < (B ++ [(((ld p x : Nat) : Int), (i : Int), (x : Int))]).length → (k < B.length ∧ frB (B ++ [(((ld p x : Nat) : Int), (i : Int), (x : Int))]) k = frB B k ∧ leB (B ++ [(((ld p x : Nat) : Int), (i : Int), (x : Int))]) k = leB B k) ∨ (k = B.length ∧ frB (B ++ [(((ld p x : Nat) : Int), (i : Int), (x : Int))]) k = i ∧ leB (B ++ [(((ld p x : Nat) : Int), (i : Int), (x : Int))]) k = x) := fun k hk => by
      by_cases e : k < B.length
      · exact .inl ⟨e, (pre_pl hp k e).2.1, (pre_pl hp k e).2.2⟩
      · have e2 : k = B.length := by rw [List.length_append] at hk; simp at hk; omega
        subst e2
        exact .inr ⟨rfl, s2, s3⟩
    refine ⟨fun k h0 hk => ?_, fun j k h0 hjk hk => ?_⟩
    · rcases key k hk with ⟨h1, h2, h3⟩ | ⟨_, h2, h3⟩ <;> rw [h2, h3]
      · rcases h.1 k h0 h1 with h4 | ⟨h4, h5⟩
        · exact .inl h4
        · exact .inr ⟨h4, by omega⟩
      · exact .inr ⟨rfl, by omega⟩
    · rcases key k hk with ⟨h1, h2, h3⟩ | ⟨h1, h2, h3⟩
      · rcases key j (by omega) with ⟨h4, h5, h6⟩ | ⟨h4, h5, h6⟩
        · rw [h2, h3, h5, h6]; exact h.2 j k h0 hjk h1
        · omega
      · rcases key j (by omega) with ⟨h4, h5, h6⟩ | ⟨h4, h5, h6⟩
        · rw [h2, h3, h5, h6]; exact h.1 j h0 h4
        · omega
theorem OrdB.row {B : Steps} {i : Nat} (h : OrdB B i 0) (ld : Nat → Nat → Nat) (p : Nat) : ∀ K : Nat, OrdB (rowB ld B p i K) i K
  | 0 => h
  | K + 1 => by
    have := (OrdB.row h ld p K).add ld p
    rw [show ((K + 1 : Nat) : Int) = (K : Int) + 1 by omega]
    exact this
theorem OrdB.bfs (ld : Nat → Nat → Nat) (K s : Nat) : ∀ i : Nat, OrdB (bfsTo ld K s i) i 0
  | 0 => ⟨fun k h0 hk => by simp [bfsTo] at hk; omega, fun j k h0 hjk hk => by simp [bfsTo] at hk; omega⟩
  | i + 1 => by
    have ih := OrdB.bfs ld K s i
    have e : bfsTo ld K s (i + 1) = (if i < (bfsTo ld K s i).length then rowB ld (bfsTo ld K s i) (plB (bfsTo ld K s i) i).toNat i K else bfsTo ld K s i) := rfl
    have next : ∀ {B : Steps} {x : Int}, OrdB B i x → OrdB B ((i + 1 : Nat) : Int) 0 := fun h => ⟨fun k h0 hk => by rcases h.1 k h0 hk with h1 | ⟨h1, _⟩ <;> exact .inl (by omega), h.2⟩
    rw [e]
    split
    · exact next (ih.row ld _ K)
    · exact next ih
theorem rowB_le (ld : Nat → Nat → Nat) (B : Steps) (p i : Nat) : ∀ d x : Nat, rowB ld B p i x <+: rowB ld B p i (x + d)
  | 0, _ => List.prefix_refl _
  | d + 1, x => (rowB_le ld B p i d x).trans (addB_pre ld _ p i (x + d))
/-- The place to which a letter leads was reached at that letter of that step, or before. -/
theorem bfs_first {n K s : Nat} {ld : Nat → Nat → Nat} (hs : s < n) (hK : K ≤ 1000) (hld : ∀ p x, p < n → x < K → ld p x < n) (i p x : Nat) (hi : i < (bfsTo ld K s n).length) (hp : plB (bfsTo ld K s n) i = (p : Int)) (hx : x < K) :
    ∃ j, j < (bfsTo ld K s n).length ∧ plB (bfsTo ld K s n) j = ((ld p x : Nat) : Int) ∧ (j = 0 ∨ frB (bfsTo ld K s n) j < i ∨ (frB (bfsTo ld K s n) j = i ∧ leB (bfsTo ld K s n) j ≤ x)) := by
  have hg := GoodB.bfs (n := n) (K := K) (s := s) (ld := ld) hs hK hld
  have hn := (hg n).len
  have hlt : i < (bfsTo ld K s i).length := by
    rcases Nat.lt_or_ge i (bfsTo ld K s i).length with h | h
    · exact h
    · exfalso
      have e := bfs_stop ld K s i h (n - i)
      rw [show i + (n - i) = n by omega] at e
      rw [e] at hi; omega
  have hpre1 : bfsTo ld K s i <+: bfsTo ld K s n := by
    have := bfs_pre_le ld K s i (n - i)
    rwa [show i + (n - i) = n by omega] at this
  have hpre2 : bfsTo ld K s (i + 1) <+: bfsTo ld K s n := by
    have := bfs_pre_le ld K s (i + 1) (n - (i + 1))
    rwa [show i + 1 + (n - (i + 1)) = n by omega] at this
  have hpi : plB (bfsTo ld K s i) i = (p : Int) := (pre_pl hpre1 i hlt).1.symm.trans hp
  have e : bfsTo ld K s (i + 1) = rowB ld (bfsTo ld K s i) p i K := by
    have e0 : bfsTo ld K s (i + 1) = (if i < (bfsTo ld K s i).length then rowB ld (bfsTo ld K s i) (plB (bfsTo ld K s i) i).toNat i K else bfsTo ld K s i) := rfl
    rw [e0, if_pos hlt, hpi, Int.toNat_natCast]
  have hpre3 : rowB ld (bfsTo ld K s i) p i (x + 1) <+: bfsTo ld K s n := by
    have := rowB_le ld (bfsTo ld K s i) p i (K - (x + 1)) (x + 1)
    rw [show x + 1 + (K - (x + 1)) = K by omega, ← e] at this
    exact this.trans hpre2
  obtain ⟨j, hj, hpj⟩ := hasP_iff (addB_has ld (rowB ld (bfsTo ld K s i) p i x) p i x)
  have hj : j < (rowB ld (bfsTo ld K s i) p i (x + 1)).length := hj
  obtain ⟨r1, r2, r3⟩ := pre_pl hpre3 j hj
  refine ⟨j, Nat.lt_of_lt_of_le hj hpre3.length_le, r1.trans hpj, ?_⟩
  rcases Nat.eq_zero_or_pos j with e1 | e1
  · exact .inl e1
  · rw [r2, r3]
    rcases ((OrdB.bfs ld K s i).row ld p (x + 1)).1 j e1 hj with h1 | ⟨h1, h2⟩
    · exact .inr (.inl h1)
    · exact .inr (.inr ⟨h1, by omega⟩)
end Go.Proofs.YtiiiinoappjhdaaDoor
namespace Go.Proofs.YtiiiinoappjhdaaDoor
open Go.RowKit Go.Shelf
def lexLt : List Int → List Int → Prop
  | x :: a, y :: b => x < y ∨ (x = y ∧ lexLt a b)
  | _, _ => False
theorem lexLt.trans : ∀ {a b d : List Int}, lexLt a b → lexLt b d → lexLt a d
  | [], _, _, h, _ => h.elim
  | _ :: _, [], _, h, _ => h.elim
  | _ :: _, _ :: _, [], _, k => k.elim
  | x :: a, y :: b, z :: d, h, k => by
    rcases h with h | ⟨rfl, h⟩
    · rcases k with k | ⟨rfl, _⟩
      · exact .inl (by omega)
      · exact .inl h
    · rcases k with k | ⟨rfl, k⟩
      · exact .inl k
      · exact .inr ⟨rfl, lexLt.trans h k⟩
theorem lexLt.snoc : ∀ {a b : List Int}, lexLt a b → ∀ x y : Int, lexLt (a ++ [x]) (b ++ [y])
  | [], _, h, _, _ => h.elim
  | _ :: _, [], h, _, _ => h.elim
  | p :: a, q :: b, h, x, y => by
    rcases h with h | ⟨rfl, h⟩
    · exact .inl h
    · exact .inr ⟨rfl, h.snoc x y⟩
theorem lexLt.last : ∀ (a : List Int) {x y : Int}, x < y → lexLt (a ++ [x]) (a ++ [y])
  | [], _, _, h => .inl h
  | _ :: a, _, _, h => .inr ⟨rfl, lexLt.last a h⟩
/-- Shorter, or of the same length and earlier in order. -/
def SL (a b : List Int) : Prop := a.length < b.length ∨ (a.length = b.length ∧ lexLt a b)
def SLe (a b : List Int) : Prop := a = b ∨ SL a b
theorem SL.snoc {a b : List Int} (h : SL a b) (x y : Int) : SL (a ++ [x]) (b ++ [y]) := by
  rcases h with h | ⟨h, k⟩
  · exact .inl (by simp; omega)
  · exact .inr ⟨by simp; omega, k.snoc x y⟩
theorem SL.last (a : List Int) {x y : Int} (h : x < y) : SL (a ++ [x]) (a ++ [y]) := .inr ⟨by simp, lexLt.last a h⟩
theorem SL.trans {a b d : List Int} (h : SL a b) (k : SL b d) : SL a d := by
  rcases h with h | ⟨h, h'⟩ <;> rcases k with k | ⟨k, k'⟩
  · exact .inl (by omega)
  · exact .inl (by omega)
  · exact .inl (by omega)
  · exact .inr ⟨by omega, h'.trans k'⟩
theorem SLe.snoc {a b : List Int} (h : SLe a b) (x : Int) : SLe (a ++ [x]) (b ++ [x]) := by
  rcases h with rfl | h
  · exact .inl rfl
  · exact .inr (h.snoc x x)
theorem SL.le {a b d : List Int} (h : SL a b) (k : SLe b d) : SL a d := by
  rcases k with rfl | k
  · exact h
  · exact h.trans k
/-- The steps come in the order of their words. -/
theorem words_rise {B : Steps} {i x : Int} (hT : TreeB B) (hO : OrdB B i x) : ∀ k j, j < k → k < B.length → SL (wordB B j) (wordB B k) := by
  intro k
  induction k using Nat.strongRecOn with
  | _ k ih =>
    intro j hjk hk
    obtain ⟨b1, b2⟩ := hT.2.2 k (by omega) hk
    rw [wordB_step hT (by omega) hk]
    rcases Nat.eq_zero_or_pos j with e | e
    · subst e
      rw [wordB_root hT]
      exact .inl (by simp)
    · obtain ⟨a1, a2⟩ := hT.2.2 j e (by omega)
      rw [wordB_step hT e (by omega)]
      rcases hO.2 j k e hjk hk with h | ⟨h, h'⟩
      · exact (ih (frB B k).toNat (by omega) (frB B j).toNat (by omega) (by omega)).snoc _ _
      · rw [h]
        exact SL.last _ h'
/-- Of all words that lead to a place that of its step comes first. -/
theorem word_least {n K s : Nat} {ld : Nat → Nat → Nat} (hs : s < n) (hK : K ≤ 1000) (hld : ∀ p x, p < n → x < K → ld p x < n) : ∀ (m : Nat) (u : List Nat), u.length = m → (∀ x ∈ u, x < K) →
    ∃ j, j < (bfsTo ld K s n).length ∧ plB (bfsTo ld K s n) j = ((u.foldl ld s : Nat) : Int) ∧ SLe (wordB (bfsTo ld K s n) j) (u.map fun x : Nat => (x : Int)) := by
  have hg := GoodB.bfs (n := n) (K := K) (s := s) (ld := ld) hs hK hld n
  have hT := hg.tree
  have hO := OrdB.bfs ld K s n
  intro m
  induction m with
  | zero =>
    intro u hl _
    obtain rfl : u = [] := List.eq_nil_of_length_eq_zero hl
    obtain ⟨z1, z2⟩ := bfs_zero ld K s n
    exact ⟨0, z1, z2, .inl (by rw [wordB_root hT]; rfl)⟩
  | succ m ih =>
    intro u hl hu
    obtain ⟨u', x, rfl⟩ : ∃ u' x, u = u' ++ [x] := by
      have hne : u ≠ [] := fun e => by subst e; simp at hl
      exact ⟨u.dropLast, u.getLast hne, (List.dropLast_concat_getLast hne).symm⟩
    obtain ⟨i, hi, hp, hw⟩ := ih u' (by simp at hl; omega) (fun y hy => hu y (by simp [hy]))
    have hx := hu x (by simp)
    obtain ⟨j, hj, hpj, hord⟩ := bfs_first hs hK hld i _ x hi hp hx
    refine ⟨j, hj, by rw [hpj, List.foldl_append]; rfl, ?_⟩
    rw [List.map_append]
    show SLe _ ((u'.map fun x : Nat => (x : Int)) ++ [(x : Int)])
    rcases Nat.eq_zero_or_pos j with e | e
    · subst e
      rw [wordB_root hT]
      exact .inr (.inl (by simp))
    · obtain ⟨b1, b2⟩ := hT.2.2 j e hj
      rw [wordB_step hT e hj]
      rcases hord with h | h | ⟨h, h'⟩
      · omega
      · have h1 := words_rise hT hO i (frB (bfsTo ld K s n) j).toNat (by omega) hi
        exact .inr ((h1.snoc _ (x : Int)).le (hw.snoc _))
      · rw [h, Int.toNat_natCast]
        rcases Int.lt_or_eq_of_le h' with h2 | h2
        · exact .inr ((SL.last _ h2).le (hw.snoc _))
        · rw [h2]; exact hw.snoc _
end Go.Proofs.YtiiiinoappjhdaaDoor
namespace Go.Proofs.YtiiiinoappjhdaaDoor
open Go.RowKit Go.Shelf
/-- WHAT AN ITERATOR PROMISES: gf with what comes before and behind yield among its arguments; encs: yield's arguments; n₀: what it reads lies below; G: what holds of an element while its round begins. -/
def SeqO {α : Type} (gf : Nat) (fb lb : Array Value) (encs : α → Array Value) (n₀ : Nat) (G : Blocks → α → World → Prop) (S Sp : List α → Prop) (w0 : World) (X0 : Blocks) : Prop :=
  ∀ (l : Nat) (J Jx : Blocks → List α → World → Prop) (W : World), Below w0.heap.size w0 W → Minds J → Minds Jx →
    (∀ X pre x W1, (∀ k, X k → k < W1.heap.size) → J X pre W1 → G X x W1 → Sp (pre ++ [x]) → YieldAt Fence.wide 0 Tryd.prog l (encs x) W1 fun e W' =>
      ((e = .returned (.bool true) ∧ J X (pre ++ [x]) W') ∨ (e = .returned (.bool false) ∧ Jx X (pre ++ [x]) W')) ∧ Keep n₀ X W1 W') →
    J X0 [] W →
    Calls Tryd.prog gf ((fb ++ #[.func (.yield l) #[] #[]]) ++ lb) W fun e W' => (∃ v, e = .returned v) ∧ ((∃ X xs, S xs ∧ J X xs W') ∨ (∃ X pre, Sp pre ∧ Jx X pre W'))
/-- THE STATEMENT 'for .. := range f { .. }' over an iterator that keeps its promise. -/
theorem range_lawO {α : Type} {g : Operand} {ps : Array Tmp} {assign body : Code} {Q : Exit → Act → World → Prop} {a : Act} {w : World} {gf : Nat} {fb lb : Array Value}
    (hg : a.eval g = .func (.func gf) fb lb) (eg : ∀ args w, (callFunc gf args).run Tryd.prog w = .ok (.enter gf args) w)
    {encs : α → Array Value} {n₀ : Nat} {G : Blocks → α → World → Prop} {S Sp : List α → Prop} {w0 : World} {X0 : Blocks} (hseq : SeqO gf fb lb encs n₀ G S Sp w0 X0) (hX0 : ∀ k, X0 k → k < w.heap.size)
    (hG : ∀ X x W W', G X x W → Keep n₀ X W W' → G X x W') (hn : n₀ ≤ w.heap.size) (hb0 : Below w0.heap.size w0 w) (hps : ∀ x, (encs x).size = ps.size)
    (I : Blocks → List α → World → Prop) (Ix : Code → Blocks → List α → World → Prop) (hI : Stable w.heap.size I) (hIx : ∀ c, Stable w.heap.size (Ix c)) (h0 : I X0 [] w)
    (Ax : α → Act → World → Prop) (hAx : ∀ x a', Stable w.heap.size (fun _ (_ : Unit) W => Ax x a' W))
    (hassign : ∀ (l : Nat) (X : Blocks) (pre : List α) (x : α) (W : World) (K : Act → World → Prop), I X pre W → (∀ a' W', KeepsFrom w.heap.size W W' → Keep n₀ X W W' → I X pre W' → Ax x a' W' → K a' W') →
      assign.wpIn (Fence.wide.inRound l) 0 Tryd.prog (Exit.then K (fun _ _ _ => False)) { tmps := (ps.zip (encs x)).foldl (fun t (p, v) => t.setIfInBounds p v) a.tmps, defers := [] } W)
    (hbody : ∀ (l : Nat) (X : Blocks) (pre : List α) (x : α) (a' : Act) (W : World), w.heap.size ≤ l → (∃ r, W.heap[l]? = some (.loop r)) → ¬ X l → (∀ k, X k → k < W.heap.size) → I X pre W → G X x W → Ax x a' W → Sp (pre ++ [x]) →
      body.wpIn (Fence.wide.inRound l) 0 Tryd.prog (postX w.heap.size n₀ I Ix X (pre ++ [x]) W) a' W)
    (hdone : ∀ (D : Nat) (X : Blocks) (xs : List α) (W : World), w.heap.size ≤ D → S xs → I X xs W → W.heap[D]? = some (.deferred (some [])) → Q .normal { a with defers := { target := .collected D, args := #[] } :: a.defers } W)
    (hstop : ∀ (D : Nat) (X : Blocks) (c : Code) (pre : List α) (W : World), w.heap.size ≤ D → Sp pre → Ix c X pre W → W.heap[D]? = some (.deferred (some [])) → c.wpIn Fence.wide 0 Tryd.prog Q { a with defers := { target := .collected D, args := #[] } :: a.defers } W) :
    (Code.rangeFunc g ps assign body).wpIn Fence.wide 0 Tryd.prog Q a w := by
  refine wpIn_rangeFunc ?_
  intro fn hfn
  obtain ⟨rec, hrec⟩ : ∃ rec : LoopState → Option Code → Loop, rec = fun st pe => { state := st, pending := pe, fn, tmps := a.tmps, params := ps, assign, body, defers := w.heap.size } := ⟨_, rfl⟩
  obtain ⟨W1, hW1⟩ : ∃ W1, (w.alloc (.deferred (some []))).alloc (.loop (rec .ready none)) = W1 := ⟨_, rfl⟩
  have hL1 : W1.heap[w.heap.size + 1]? = some (.loop (rec .ready none)) := by
    rw [← hW1]; have := World.alloc_heap_new (w.alloc (.deferred (some []))) (.loop (rec .ready none)); rwa [World.size_alloc] at this
  have hK1 : W1.heap[w.heap.size]? = some (.deferred (some [])) := by
    rw [← hW1]; exact (Below.heap_alloc _ _ _ (by simp)).trans (World.alloc_heap_new w _)
  have hI1 : I X0 [] W1 := by rw [← hW1]; exact hI.new _ (hI.new _ h0)
  have hb1 : Below w0.heap.size w0 W1 := by
    rw [← hW1]; exact hb0.trans ((((Below.refl _ w).alloc (Nat.le_refl _) _).alloc (by simp) _).mono hb0.size)
  refine ⟨w.heap.size + 1, [{ target := .collected w.heap.size, args := #[] }], W1, { target := .fn (.func gf) lb, args := fb ++ #[.func (.yield (w.heap.size + 1)) #[] #[]] }, W1, gf,
    (fb ++ #[.func (.yield (w.heap.size + 1)) #[] #[]]) ++ lb, W1, ?_, ?_, fun f' _ => trivial, ?_, fun h => by simp [Fence.wide] at h, ?_⟩
  · rw [← hW1, hrec]; exact run_enterLoop_outer _ _ _ _ _
  · simp only [resolve, hg]
    simp [go_sem, Deferred.ofValue]
  · simp [invoke, go_sem, eg]
  · refine callsIn_wide.2 ?_
    refine (hseq (w.heap.size + 1)
      (fun X pre W => I X pre W ∧ ¬ X (w.heap.size + 1) ∧ ¬ X w.heap.size ∧ W.heap[w.heap.size + 1]? = some (.loop (rec .ready none)) ∧ W.heap[w.heap.size]? = some (.deferred (some [])))
      (fun X pre W => ∃ c, Ix c X pre W ∧ ¬ X (w.heap.size + 1) ∧ ¬ X w.heap.size ∧ W.heap[w.heap.size + 1]? = some (.loop (rec .done (some c))) ∧ W.heap[w.heap.size]? = some (.deferred (some [])))
      W1 hb1 ?_ ?_ ?_ ⟨hI1, fun h => by have := hX0 _ h; omega, fun h => by have := hX0 _ h; omega, hL1, hK1⟩).mono ?_
    · rintro X X' s A B ⟨h1, h2, h3, h4, h5⟩ ht hX
      have l4 := (Array.getElem?_eq_some_iff.1 h4).1
      refine ⟨hI X X' s A B h1 ht.os ht.tape ht.output ht.size (fun k o hk hx _ => (ht.block k (Array.getElem?_eq_some_iff.1 hk).1 hx).trans hk) hX, fun h => ?_, fun h => ?_, (ht.block _ l4 h2).trans h4, (ht.block _ (by omega) h3).trans h5⟩
      · rcases hX _ h with h | h
        · exact h2 h
        · omega
      · rcases hX _ h with h | h
        · exact h3 h
        · omega
    · rintro X X' s A B ⟨c, h1, h2, h3, h4, h5⟩ ht hX
      have l4 := (Array.getElem?_eq_some_iff.1 h4).1
      refine ⟨c, hIx c X X' s A B h1 ht.os ht.tape ht.output ht.size (fun k o hk hx _ => (ht.block k (Array.getElem?_eq_some_iff.1 hk).1 hx).trans hk) hX, fun h => ?_, fun h => ?_, (ht.block _ l4 h2).trans h4, (ht.block _ (by omega) h3).trans h5⟩
      · rcases hX _ h with h | h
        · exact h2 h
        · omega
      · rcases hX _ h with h | h
        · exact h3 h
        · omega
    · -- one round
      rintro X pre x W hXs ⟨hi, hXl, hXd, hl, hk⟩ hgx hsp
      have hy := run_yield (P := Tryd.prog) (args := encs x) hl (by rw [hrec]; exact hps x)
      rw [hrec] at hy
      refine ⟨fn, _, assign, body, hy, roundIn_of_wpIn trivial (hassign _ X pre x W _ hi ?_)⟩
      clear hy
      intro a' Wa hkfa hkpa hia hax
      have hl' := hkfa.same _ _ (by omega) hl rfl
      have hk' := hkfa.same _ _ (Nat.le_refl _) hk rfl
      have hlt := (Array.getElem?_eq_some_iff.1 hl').1
      refine ⟨_, run_beginRound hl' (by rw [hrec]), ?_⟩
      have hl2 : (Wa.putObj (w.heap.size + 1) (.loop { rec .ready none with state := .busy })).heap[w.heap.size + 1]? = some (.loop { rec .ready none with state := .busy }) := World.putObj_heap_same hlt
      have hk2 : (Wa.putObj (w.heap.size + 1) (.loop { rec .ready none with state := .busy })).heap[w.heap.size]? = some (.deferred (some [])) := (World.putObj_heap_other (by omega)).trans hk'
      have hkp2 : Keep n₀ X Wa (Wa.putObj (w.heap.size + 1) (.loop { rec .ready none with state := .busy })) := keep_put _ (by omega) hXl
      refine wpIn_mono (hbody _ X pre x a' _ (by omega) ⟨_, hl2⟩ hXl (fun k hk => by have h1 := hXs k hk; have h2 := hkpa.size; simp; omega) (hI.put _ hia (by omega) hl' rfl) (hG _ _ _ _ hgx (hkpa.trans hkp2)) ((hAx x a').put (X := X) (s := ()) _ hax (by omega) hl' rfl) hsp) ?_
      have fin : ∀ (jump : Option Code) (W3 : World), KeepsFrom w.heap.size (Wa.putObj (w.heap.size + 1) (.loop { rec .ready none with state := .busy })) W3 →
          (Instr.endRound (w.heap.size + 1) jump).run Tryd.prog W3 = .ok (.bool jump.isNone) (W3.putObj (w.heap.size + 1) (.loop (rec (if jump.isNone then .ready else .done) jump))) ∧
          W3.heap[w.heap.size + 1]? = some (.loop { rec .ready none with state := .busy }) ∧
          (W3.putObj (w.heap.size + 1) (.loop (rec (if jump.isNone then .ready else .done) jump))).heap[w.heap.size + 1]? = some (.loop (rec (if jump.isNone then .ready else .done) jump)) ∧
          (W3.putObj (w.heap.size + 1) (.loop (rec (if jump.isNone then .ready else .done) jump))).heap[w.heap.size]? = some (.deferred (some [])) := fun jump W3 hk3 => by
        have hl3 := hk3.same _ _ (by omega) hl2 rfl
        have := run_endRound (P := Tryd.prog) jump hl3
        rw [hrec] at this ⊢
        exact ⟨this, by rw [hrec] at hl3; exact hl3, World.putObj_heap_same (Array.getElem?_eq_some_iff.1 hl3).1, (World.putObj_heap_other (by omega)).trans (hk3.same _ _ (Nat.le_refl _) hk2 rfl)⟩
      have kp : ∀ (W3 : World) (o : Obj), Keep n₀ X (Wa.putObj (w.heap.size + 1) (.loop { rec .ready none with state := .busy })) W3 → Keep n₀ X W (W3.putObj (w.heap.size + 1) o) := fun W3 o h3 =>
        ((hkpa.trans hkp2).trans h3).trans (keep_put _ (by omega) hXl)
      rintro e a3 W3 hp
      cases e with
      | normal =>
        obtain ⟨hk3, hkp3, hi3⟩ := hp
        obtain ⟨hr, hl3, hl4, hk4⟩ := fin none W3 hk3
        exact ⟨_, _, hr, .inl ⟨rfl, hI.put _ hi3 (by omega) hl3 rfl, hXl, hXd, hl4, hk4⟩, kp _ _ hkp3⟩
      | ret =>
        obtain ⟨hk3, hkp3, hi3⟩ := hp
        obtain ⟨hr, hl3, hl4, hk4⟩ := fin (some .ret) W3 hk3
        exact ⟨_, _, hr, .inr ⟨rfl, .ret, (hIx _).put _ hi3 (by omega) hl3 rfl, hXl, hXd, hl4, hk4⟩, kp _ _ hkp3⟩
      | exit id =>
        obtain ⟨hk3, hkp3, hi3⟩ := hp
        obtain ⟨hr, hl3, hl4, hk4⟩ := fin (some (.exit id)) W3 hk3
        exact ⟨_, _, hr, .inr ⟨rfl, .exit id, (hIx _).put _ hi3 (by omega) hl3 rfl, hXl, hXd, hl4, hk4⟩, kp _ _ hkp3⟩
      | goto t =>
        obtain ⟨hk3, hkp3, hi3⟩ := hp
        obtain ⟨hr, hl3, hl4, hk4⟩ := fin (some (.goto t)) W3 hk3
        exact ⟨_, _, hr, .inr ⟨rfl, .goto t, (hIx _).put _ hi3 (by omega) hl3 rfl, hXl, hXd, hl4, hk4⟩, kp _ _ hkp3⟩
      | panic ch => exact hp.elim
      | outgrown => exact hp.elim
    · -- behind the iterator
      rintro e W2 ⟨⟨v, rfl⟩, (⟨X, xs, hS, hi, _, _, hl, hk⟩ | ⟨X, pre, hSp, c, hi, _, _, hl, hk⟩)⟩
      · exact ⟨none, _, by have := run_endLoop (P := Tryd.prog) hl (by rw [hrec]; simp); rw [hrec] at this; exact this, hdone _ X xs _ (Nat.le_refl _) hS (hI.put _ hi (by omega) hl rfl) ((World.putObj_heap_other (by omega)).trans hk)⟩
      · exact ⟨some c, _, by have := run_endLoop (P := Tryd.prog) hl (by rw [hrec]; simp); rw [hrec] at this; exact this, hstop _ X c pre _ (Nat.le_refl _) hSp ((hIx c).put _ hi (by omega) hl rfl) ((World.putObj_heap_other (by omega)).trans hk)⟩
end Go.Proofs.YtiiiinoappjhdaaDoor
namespace Go.Proofs.YtiiiinoappjhdaaDoor
open Go.RowKit Go.Shelf
theorem own_lt {W : World} {base : Nat} {e : TypeId} {s : Nat} {g n c k : Nat} {xs : List Value} (h : W.ownsRow base e s (.slice (some ⟨g, 0, none⟩) n c) k xs) : base ≤ g ∧ g < W.heap.size := by
  rcases h.2 with ⟨h', _⟩ | ⟨g', cap, cur, h', hb, hh, _⟩
  · cases h'
  · cases h'; exact ⟨hb, lt_of_block hh⟩
theorem SeenMap.isMap {w : World} {bm n : Nat} {S : Nat → Bool} (h : SeenMap w bm n S) : ∃ es c, w.heap[bm]? = some (.map es c) := by
  obtain ⟨D, ⟨es, clock, hb, _⟩, _⟩ := h
  exact ⟨es, clock, hb⟩
theorem Turn.mono {X Y : Blocks} {W W' : World} (h : Turn X W W') (hXY : ∀ k, X k → Y k) : Turn Y W W' := ⟨h.os, h.tape, h.output, h.size, fun k hk hY => h.block k hk (fun hX => hY (hXY k hX))⟩
theorem Keep.mono {n₀ : Nat} {X Y : Blocks} {W W' : World} (h : Keep n₀ Y W W') (hXY : ∀ k, X k → Y k) : Keep n₀ X W W' := ⟨h.os, h.tape, h.output, h.size, fun k hk hc => h.block k hk (hc.imp id (hXY k))⟩
/-- What lay there when the search began stays. -/
theorem Keep.of_turn {n₀ base : Nat} {X0 X : Blocks} {W W' : World} (h : Turn (fun k => X k ∧ base ≤ k) W W') (hn : n₀ ≤ base) (h0 : ∀ k, X0 k → k < base) : Keep n₀ X0 W W' :=
  ⟨h.os, h.tape, h.output, h.size, fun k hk hc => h.block k hk (fun hX => by
    obtain ⟨_, h2⟩ := hX
    rcases hc with h1 | h1
    · omega
    · have := h0 k h1; omega)⟩
section
variable {J : Blocks → List (Nat × Value) → World → Prop} {n₀ : Nat} {X0 : Blocks} {W : World} {bm b6 b7 i : Nat} {B : Steps} {pre : List (Nat × Value)} {X : Blocks} {g cap : Nat} {wr : World}
end
end Go.Proofs.YtiiiinoappjhdaaDoor
namespace Go.Proofs.YtiiiinoappjhdaaDoor
open Go.RowKit Go.Shelf
attribute [local go_sem] Oper.semAt_some
/-- The number that a box holds. -/
def boxI (v : Value) (w : World) : Nat := match v with
  | .pointer (some a) => (match w.cell? a with | some (.int _ x) => x.toNat | _ => 0)
  | _ => 0
theorem keep_cell {n₀ b : Nat} {X : Blocks} {W W' : World} {v : Value} (h : Keep n₀ X W W') (hX : X b) (hc : W.cell? ⟨b, 0, none⟩ = some v) : W'.cell? ⟨b, 0, none⟩ = some v :=
  (World.cell?_of_block (w := W) (w' := W') (a := ⟨b, 0, none⟩) (h.block b (World.block_lt_of_cell? _ _ hc) (.inr hX))).trans hc
theorem cells_three (w : World) (t : TypeId) (a b c : Value) : ∀ (j : Nat) (u : Value), [a, b, c][j]? = some u → (w.alloc (.cells #[a, b, c] t)).cell? ((⟨w.heap.size, 0, none⟩ : Addr).add j) = some u := by
  intro j u hu
  have hj : j < 3 := by
    have := (List.getElem?_eq_some_iff.1 hu).1
    simpa using this
  have h3 : j = 0 ∨ j = 1 ∨ j = 2 := by omega
  rcases h3 with rfl | rfl | rfl <;> simp at hu <;> subst hu <;> simp [Addr.add]
end Go.Proofs.YtiiiinoappjhdaaDoor
namespace Go.Proofs.YtiiiinoappjhdaaDoor
open Go.RowKit Go.Shelf
attribute [local go_sem] Oper.semAt_some
theorem row_blk2 {w : World} {base : Nat} {e : TypeId} {s : Nat} {v : Value} {n : Nat} {xs : List Value} (h : w.ownsRow base e s v n xs) : ∀ g, v.ownBlock = some g → base ≤ g ∧ g < w.heap.size := by
  intro g hg
  rcases h.2 with ⟨rfl, _⟩ | ⟨g', cap, cur, rfl, hb, hh, _⟩
  · cases hg
  · cases hg; exact ⟨hb, lt_of_block hh⟩
theorem row_mono {w : World} {base base' : Nat} {e : TypeId} {s : Nat} {v : Value} {n : Nat} {xs : List Value} (h : w.ownsRow base e s v n xs) (hb : base' ≤ base) : w.ownsRow base' e s v n xs := by
  refine ⟨h.1, ?_⟩
  rcases h.2 with h' | ⟨g, cap, cur, hv, hg, r⟩
  · exact .inl h'
  · exact .inr ⟨g, cap, cur, hv, Nat.le_trans hb hg, r⟩
theorem put_boxed {W : World} {b D : Nat} {t : TypeId} {v : Value} {x : Option (List Deferred)} (h : Boxed W b t v) (hD : W.heap[D]? = some (.deferred x)) : Boxed (W.putObj D (.deferred none)) b t v :=
  (World.putObj_heap_other (fun e => by
    unfold Boxed at h
    rw [e, hD] at h; cases h)).trans h
theorem sp_last {pre : List (Nat × Value)} {x : Nat × Value} {k : Nat} (h : (pre ++ [x]).map (·.1) = List.range k) : k = pre.length + 1 ∧ x.1 = pre.length := by
  have hl := congrArg List.length h
  simp at hl
  refine ⟨hl.symm, ?_⟩
  have h2 := congrArg (fun l => l[pre.length]?) h
  rw [← hl] at h2
  simpa using h2
end Go.Proofs.YtiiiinoappjhdaaDoor
namespace Go.Proofs.YtiiiinoappjhdaaDoor
open Go.RowKit Go.Shelf
attribute [local go_sem] Oper.semAt_some
theorem held_pair {w1 w' : World} {p q : Addr} {u v : Value} (h1 : w1.cell? p = some u) (h2 : w1.cell? q = some v) (hb : Below w1.heap.size w1 w') : Below w1.heap.size w1 w' ∧ w'.cell? p = some u ∧ w'.cell? q = some v :=
  ⟨hb, (hb.cell (p := p) (World.block_lt_of_cell? _ _ h1)).trans h1, (hb.cell (p := q) (World.block_lt_of_cell? _ _ h2)).trans h2⟩
/-- The search from a state of an automaton. -/
def bfsM (m : List (List Int)) (s : Nat) : Steps := bfsTo (fun p x => nx m p (x : Int)) (letters m) s m.length
end Go.Proofs.YtiiiinoappjhdaaDoor
namespace Go.Proofs.YtiiiinoappjhdaaDoor
open Go.RowKit Go.Shelf
theorem nat_word {m : List (List Int)} {u : List Int} (h : u.all (inB 0 ((letters m : Int) - 1)) = true) : ∀ x ∈ u.map Int.toNat, x < letters m := by
  intro x hx
  obtain ⟨y, hy, rfl⟩ := List.mem_map.1 hx
  have h1 := List.all_eq_true.1 h y hy
  unfold inB at h1
  simp at h1; omega
theorem ldM_ok {m : List (List Int)} (hv : validM m = true) : ∀ p x, p < m.length → x < letters m → nx m p (x : Int) < m.length := fun p x hp hx => by
  obtain ⟨p1, p2, p3, p4, p5⟩ := valid_parts hv
  exact (nx_ok hv hp (x := (x : Int)) (by omega) (by omega)).1
end Go.Proofs.YtiiiinoappjhdaaDoor
namespace Go.Proofs.YtiiiinoappjhdaaDoor
open Go.RowKit Go.Shelf
/-- The letters of the steps but the first one are letters. -/
def LetB (K : Nat) (B : Steps) : Prop := ∀ k, 0 < k → k < B.length → 0 ≤ leB B k ∧ leB B k < K
theorem LetB.add {K : Nat} {B : Steps} (h : LetB K B) (ld : Nat → Nat → Nat) (p i : Nat) {x : Nat} (hx : x < K) : LetB K (addB ld B p i x) := by
  unfold addB
  split
  · exact h
  · obtain ⟨s1, s2, s3⟩ := snoc_pl B (ld p x) (i : Int) (x : Int)
    have hpre : B <+: B ++ [(((ld p x : Nat) : Int), (i : Int), (x : Int))] := List.prefix_append _ _
    intro k h0 hk
    by_cases e : k < B.length
    · rw [(pre_pl hpre k e).2.2]; exact h k h0 e
    · have e2 : k = B.length := by rw [List.length_append] at hk; simp at hk; omega
      subst e2
      rw [s3]; omega
theorem LetB.row {K : Nat} {B : Steps} (h : LetB K B) (ld : Nat → Nat → Nat) (p i : Nat) : ∀ x, x ≤ K → LetB K (rowB ld B p i x)
  | 0, _ => h
  | x + 1, hx => (LetB.row h ld p i x (by omega)).add ld p i (by omega)
theorem LetB.bfs (ld : Nat → Nat → Nat) (K s : Nat) : ∀ i, LetB K (bfsTo ld K s i)
  | 0 => fun k h0 hk => by simp [bfsTo] at hk; omega
  | i + 1 => by
    have ih := LetB.bfs ld K s i
    have e : bfsTo ld K s (i + 1) = (if i < (bfsTo ld K s i).length then rowB ld (bfsTo ld K s i) (plB (bfsTo ld K s i) i).toNat i K else bfsTo ld K s i) := rfl
    rw [e]
    split
    · exact ih.row ld _ i K (Nat.le_refl _)
    · exact ih
theorem word_letters {K : Nat} {B : Steps} (hT : TreeB B) (hL : LetB K B) : ∀ j, j < B.length → (wordB B j).all (inB 0 ((K : Int) - 1)) = true := by
  intro j
  induction j using Nat.strongRecOn with
  | _ j ih =>
    intro hj
    rcases Nat.eq_zero_or_pos j with e | e
    · subst e; rw [wordB_root hT]; rfl
    · obtain ⟨b1, b2⟩ := hT.2.2 j e hj
      obtain ⟨l1, l2⟩ := hL j e hj
      rw [wordB_step hT e hj, List.all_append, ih (frB B j).toNat (by omega) (by omega)]
      simp only [List.all_cons, List.all_nil, Bool.and_true, Bool.true_and]
      exact inB_true ⟨l1, by omega⟩
end Go.Proofs.YtiiiinoappjhdaaDoor
namespace Go.Proofs.YtiiiinoappjhdaaDoor
open Go.RowKit Go.Shelf
/-- No word, and an error. -/
def NoWord (w : World) (c : Int) (e : Ending) (w' : World) : Prop := e = .returned (.tuple #[.slice none 0 0, .int .i64 c]) ∧ Below w.heap.size w w'
end Go.Proofs.YtiiiinoappjhdaaDoor
namespace Go.Proofs.YtiiiinoappjhdaaDoor
open Go.RowKit Go.Shelf
/-- The row of the lengths behind k steps. -/
def lensTo (F : Steps) (n : Nat) : Nat → List Int
  | 0 => List.replicate n 0
  | k + 1 => (lensTo F n k).set (plB F k).toNat ((wordB F k).length : Int)
theorem SLe.len {a b : List Int} (h : SLe a b) : a.length ≤ b.length := by
  rcases h with rfl | h | ⟨h, _⟩ <;> omega
/-- The lengths of the shortest words from state 0. -/
def lensM (m : List (List Int)) : List Int := lensTo (bfsM m 0) m.length (bfsM m 0).length
/-- How much longer the way by a letter is. -/
def excM (L : List Int) (m : List (List Int)) (s x : Nat) : Nat := (L.getD s 0 + 1 - L.getD (nx m s (x : Int)) 0).toNat
def gRow (L : List Int) (m : List (List Int)) (s d : Nat) : Nat → Nat
  | 0 => d
  | x + 1 => Nat.gcd (excM L m s x) (gRow L m s d x)
def gAll (L : List Int) (m : List (List Int)) : Nat → Nat
  | 0 => 0
  | s + 1 => gRow L m s (gAll L m s) (letters m)
/-- The period. -/
def perM (m : List (List Int)) : Nat := gAll (lensM m) m m.length
section
variable {m : List (List Int)} (hv : validM m = true) (hc : connM m = true)
include hv hc
end
end Go.Proofs.YtiiiinoappjhdaaDoor
namespace Go.Proofs.YtiiiinoappjhdaaDoor
open Go.RowKit Go.Shelf
theorem runQ_lt {m : List (List Int)} (hv : validM m = true) {s : Nat} (hs : s < m.length) {u : List Int} (hu : u.all (inB 0 ((letters m : Int) - 1)) = true) : runM m s u < m.length := by
  induction u generalizing s with
  | nil => exact hs
  | cons x u ih =>
    obtain ⟨hx, hu'⟩ := all_cons_parts hu
    obtain ⟨xn, rfl⟩ := Int.eq_ofNat_of_zero_le hx.1
    exact ih (nx_ok hv hs hx.1 hx.2).1 hu'
end Go.Proofs.YtiiiinoappjhdaaDoor
namespace Go.Proofs.YtiiiinoappjhdaaDoor
open Go.RowKit Go.Shelf
theorem runQ_append (m : List (List Int)) (s : Nat) (u v : List Int) : runM m s (u ++ v) = runM m (runM m s u) v := by
  unfold runM; rw [List.foldl_append]
theorem all_append_ok {K : Nat} {u v : List Int} (hu : u.all (inB 0 ((K : Int) - 1)) = true) (hv : v.all (inB 0 ((K : Int) - 1)) = true) : (u ++ v).all (inB 0 ((K : Int) - 1)) = true := by
  rw [List.all_append, hu, hv]; rfl
section
variable {m : List (List Int)} (hv : validM m = true) (hc : connM m = true)
include hv hc
end
end Go.Proofs.YtiiiinoappjhdaaDoor
namespace Go.Proofs.YtiiiinoappjhdaaDoor
open Go.RowKit Go.Shelf
theorem lexLt_irrefl : ∀ a : List Int, ¬ lexLt a a
  | [], h => h
  | x :: a, h => by
    rcases h with h | ⟨_, h⟩
    · omega
    · exact lexLt_irrefl a h
end Go.Proofs.YtiiiinoappjhdaaDoor
namespace Go.Proofs.YtiiiinoappjhdaaDoor
open Go.RowKit Go.Shelf
theorem least_nat {p : Nat → Prop} : ∀ n, p n → ∃ k, p k ∧ k ≤ n ∧ ∀ j, p j → ¬ j < k := by
  intro n
  induction n using Nat.strongRecOn with
  | _ n ih =>
    intro hn
    by_cases h : ∃ j, p j ∧ j < n
    · obtain ⟨j, hj, hlt⟩ := h
      obtain ⟨k, h1, h2, h3⟩ := ih j hlt hj
      exact ⟨k, h1, by omega, h3⟩
    · exact ⟨n, hn, Nat.le_refl _, fun j hj hlt => h ⟨j, hj, hlt⟩⟩
theorem allw_take {K : Nat} {u : List Int} (h : u.all (inB 0 ((K : Int) - 1)) = true) (i : Nat) : (u.take i).all (inB 0 ((K : Int) - 1)) = true := by
  rw [List.all_eq_true] at h ⊢
  exact fun x hx => h x (List.mem_of_mem_take hx)
theorem allw_drop {K : Nat} {u : List Int} (h : u.all (inB 0 ((K : Int) - 1)) = true) (i : Nat) : (u.drop i).all (inB 0 ((K : Int) - 1)) = true := by
  rw [List.all_eq_true] at h ⊢
  exact fun x hx => h x (List.mem_of_mem_drop hx)
theorem run_split (m : List (List Int)) (a : Nat) (u : List Int) (i : Nat) : runM m (runM m a (u.take i)) (u.drop i) = runM m a u := by
  rw [← runQ_append, List.take_append_drop]
theorem pigeon {n k : Nat} (f : Nat → Nat) (hf : ∀ i, i ≤ k → f i < n) (hk : n ≤ k) : ∃ i j, i < j ∧ j ≤ k ∧ f i = f j := by
  apply Classical.byContradiction
  intro hno
  have hnd : ((List.range (k + 1)).map fun i => ((f i : Nat) : Int)).Nodup := by
    unfold List.Nodup
    rw [List.pairwise_map]
    refine List.Pairwise.imp_of_mem (fun {i j} _ hj hlt e => hno ⟨i, j, hlt, ?_, by omega⟩) List.pairwise_lt_range
    have := List.mem_range.1 hj
    omega
  have := nodup_len n _ hnd (fun x hx => by
    obtain ⟨i, hi, rfl⟩ := List.mem_map.1 hx
    have h1 := List.mem_range.1 hi
    have h2 := hf i (by omega)
    omega)
  simp at this
  omega
section
variable {m : List (List Int)} (hv : validM m = true) (hc : connM m = true) (hp : perM m = 1)
include hv hc hp
end
end Go.Proofs.YtiiiinoappjhdaaDoor
namespace Go.Proofs.YtiiiinoappjhdaaDoor
open Go.RowKit Go.Shelf
/-- A word of k letters merges the two states. -/
def mergeP (m : List (List Int)) (p q k : Nat) : Prop := ∃ u : List Int, u.all (inB 0 ((letters m : Int) - 1)) = true ∧ u.length = k ∧ runM m p u = runM m q u
theorem mergeP_zero {m : List (List Int)} {p q : Nat} : mergeP m p q 0 ↔ p = q := by
  constructor
  · rintro ⟨u, _, h2, h3⟩
    obtain rfl : u = [] := List.length_eq_zero_iff.1 h2
    exact h3
  · rintro rfl; exact ⟨[], rfl, rfl, rfl⟩
theorem mergeP_cons {m : List (List Int)} {p q x k : Nat} (hx : x < letters m) (h : mergeP m (nx m p (x : Int)) (nx m q (x : Int)) k) : mergeP m p q (k + 1) := by
  obtain ⟨u, h1, h2, h3⟩ := h
  refine ⟨(x : Int) :: u, ?_, by simp [h2], h3⟩
  rw [List.all_cons, h1, Bool.and_true]
  exact inB_true ⟨by omega, by omega⟩
theorem mergeP_head {m : List (List Int)} {p q k : Nat} (h : mergeP m p q (k + 1)) : ∃ x, x < letters m ∧ mergeP m (nx m p (x : Int)) (nx m q (x : Int)) k := by
  obtain ⟨u, h1, h2, h3⟩ := h
  cases u with
  | nil => simp at h2
  | cons y u =>
    obtain ⟨hy, hu⟩ := all_cons_parts h1
    obtain ⟨x, rfl⟩ := Int.eq_ofNat_of_zero_le hy.1
    exact ⟨x, by omega, u, hu, by simpa using h2, h3⟩
theorem mergeP_symm {m : List (List Int)} {p q k : Nat} (h : mergeP m p q k) : mergeP m q p k := by
  obtain ⟨u, h1, h2, h3⟩ := h
  exact ⟨u, h1, h2, h3.symm⟩
/-- A shortest word that merges the two states has k letters. -/
def mdist (m : List (List Int)) (p q k : Nat) : Prop := mergeP m p q k ∧ ∀ i, i < k → ¬ mergeP m p q i
theorem mdist_symm {m : List (List Int)} {p q k : Nat} (h : mdist m p q k) : mdist m q p k := ⟨mergeP_symm h.1, fun i hi k => h.2 i hi (mergeP_symm k)⟩
theorem mdist_zero {m : List (List Int)} {p q : Nat} : mdist m p q 0 ↔ p = q := by
  constructor
  · exact fun h => mergeP_zero.1 h.1
  · exact fun h => ⟨mergeP_zero.2 h, fun i hi => by omega⟩
theorem mdist_unique {m : List (List Int)} {p q i j : Nat} (h : mdist m p q i) (k : mdist m p q j) : i = j := by
  rcases Nat.lt_trichotomy i j with e | e | e
  · exact absurd h.1 (k.2 i e)
  · exact e
  · exact absurd k.1 (h.2 j e)
theorem mdist_some {m : List (List Int)} {p q k : Nat} (h : mergeP m p q k) : ∃ j, j ≤ k ∧ mdist m p q j := by
  obtain ⟨j, h1, h2, h3⟩ := least_nat (p := mergeP m p q) k h
  exact ⟨j, h2, h1, fun i hi hp => h3 i hp hi⟩
theorem mdist_step {m : List (List Int)} {p q k : Nat} (h : mdist m p q (k + 1)) : ∃ x, x < letters m ∧ mdist m (nx m p (x : Int)) (nx m q (x : Int)) k := by
  obtain ⟨x, hx, he⟩ := mergeP_head h.1
  exact ⟨x, hx, he, fun i hi h2 => h.2 (i + 1) (by omega) (mergeP_cons hx h2)⟩
theorem mdist_up {m : List (List Int)} {p q x k : Nat} (hx : x < letters m) (h : mdist m (nx m p (x : Int)) (nx m q (x : Int)) k) (hn : ∀ i, i ≤ k → ¬ mergeP m p q i) : mdist m p q (k + 1) := ⟨mergeP_cons hx h.1, fun i hi => hn i (by omega)⟩
/-- Where there is a length, there are all the shorter ones. -/
theorem mdist_down {m : List (List Int)} (hv : validM m = true) : ∀ k p q, p < m.length → q < m.length → mdist m p q k → ∀ j, j ≤ k → ∃ p' q', p' < m.length ∧ q' < m.length ∧ mdist m p' q' j
  | 0, p, q, hp, hq, h, j, hj => ⟨p, q, hp, hq, by rw [show j = 0 by omega]; exact h⟩
  | k + 1, p, q, hp, hq, h, j, hj => by
    by_cases e : j = k + 1
    · subst e; exact ⟨p, q, hp, hq, h⟩
    · obtain ⟨x, hx, h2⟩ := mdist_step h
      exact mdist_down hv k _ _ (ldM_ok hv p x hp hx) (ldM_ok hv q x hq hx) h2 j (by omega)
theorem mdist_lt {m : List (List Int)} (hv : validM m = true) {p q k : Nat} (hp : p < m.length) (hq : q < m.length) (h : mdist m p q k) : k < m.length * m.length := by
  apply Classical.byContradiction
  intro hk
  have hf : ∀ j, ∃ c, j ≤ k → ∃ p' q', p' < m.length ∧ q' < m.length ∧ mdist m p' q' j ∧ c = p' * m.length + q' := fun j => by
    by_cases hj : j ≤ k
    · obtain ⟨p', q', h1, h2, h3⟩ := mdist_down hv k p q hp hq h j hj
      exact ⟨_, fun _ => ⟨p', q', h1, h2, h3, rfl⟩⟩
    · exact ⟨0, fun h => absurd h hj⟩
  obtain ⟨f, hf⟩ := Classical.axiomOfChoice hf
  obtain ⟨i, j, h1, h2, h3⟩ := pigeon (n := m.length * m.length) (k := k) f (fun i hi => by
    obtain ⟨p', q', a1, a2, _, a4⟩ := hf i hi
    rw [a4]
    have := Nat.mul_le_mul_right m.length (show p' + 1 ≤ m.length by omega)
    rw [Nat.succ_mul] at this
    omega) (by omega)
  obtain ⟨p1, q1, a1, a2, a3, a4⟩ := hf i (by omega)
  obtain ⟨p2, q2, b1, b2, b3, b4⟩ := hf j h2
  rw [a4, b4] at h3
  have e1 : p1 = p2 := by
    have := congrArg (· / m.length) h3
    simp only [Nat.add_comm (_ * _), Nat.add_mul_div_right _ _ (show 0 < m.length by omega), Nat.div_eq_of_lt a2, Nat.div_eq_of_lt b2] at this
    omega
  subst e1
  have e2 : q1 = q2 := by omega
  subst e2
  have := mdist_unique a3 b3
  omega
/-- Behind k rounds: the length of a shortest word, or -1. -/
def mlenAt (m : List (List Int)) : Nat → Nat → Nat → Int
  | 0, p, q => if p = q then 0 else -1
  | k + 1, p, q => if 0 ≤ mlenAt m k p q then mlenAt m k p q else if (List.range (letters m)).any (fun x : Nat => mlenAt m k (nx m p (x : Int)) (nx m q (x : Int)) == (k : Int)) then (k : Int) + 1 else -1
theorem mlenAt_spec (m : List (List Int)) : ∀ k p q, (mlenAt m k p q = -1 ∧ ∀ i, i ≤ k → ¬ mergeP m p q i) ∨ ∃ j : Nat, j ≤ k ∧ mlenAt m k p q = j ∧ mdist m p q j
  | 0, p, q => by
    by_cases e : p = q
    · exact .inr ⟨0, Nat.le_refl _, by simp [mlenAt, e], mdist_zero.2 e⟩
    · refine .inl ⟨by simp [mlenAt, e], fun i hi h => ?_⟩
      obtain rfl : i = 0 := by omega
      exact e (mergeP_zero.1 h)
  | k + 1, p, q => by
    have ih := mlenAt_spec m k
    rcases ih p q with ⟨h1, h2⟩ | ⟨j, h1, h2, h3⟩
    · have hneg : ¬ (0 : Int) ≤ mlenAt m k p q := by rw [h1]; omega
      cases hany : (List.range (letters m)).any (fun x : Nat => mlenAt m k (nx m p (x : Int)) (nx m q (x : Int)) == (k : Int)) with
      | true =>
        obtain ⟨x, hx, he⟩ := List.any_eq_true.1 hany
        have hx' := List.mem_range.1 hx
        have he' : mlenAt m k (nx m p (x : Int)) (nx m q (x : Int)) = (k : Int) := beq_iff_eq.1 he
        rcases ih (nx m p (x : Int)) (nx m q (x : Int)) with ⟨a1, _⟩ | ⟨j, a1, a2, a3⟩
        · omega
        · obtain rfl : j = k := by omega
          refine .inr ⟨j + 1, Nat.le_refl _, ?_, mdist_up hx' a3 h2⟩
          simp only [mlenAt]
          rw [if_neg hneg, if_pos hany]; rfl
      | false =>
        refine .inl ⟨?_, fun i hi h => ?_⟩
        · simp only [mlenAt]
          rw [if_neg hneg, hany]; rfl
        · by_cases e : i ≤ k
          · exact h2 i e h
          · obtain rfl : i = k + 1 := by omega
            obtain ⟨x, hx, hxe⟩ := mergeP_head h
            have hne := List.any_eq_false.1 hany x (List.mem_range.2 hx)
            rcases ih (nx m p (x : Int)) (nx m q (x : Int)) with ⟨a1, a2⟩ | ⟨j, a1, a2, a3⟩
            · exact a2 k (Nat.le_refl _) hxe
            · by_cases e2 : j = k
              · subst e2
                rw [a2] at hne
                simp at hne
              · exact h2 (j + 1) (by omega) (mergeP_cons hx a3.1)
    · refine .inr ⟨j, by omega, ?_, h3⟩
      simp only [mlenAt]
      rw [if_pos (by omega)]
      exact h2
theorem mlenAt_range (m : List (List Int)) (k p q : Nat) : -1 ≤ mlenAt m k p q ∧ mlenAt m k p q ≤ k := by
  rcases mlenAt_spec m k p q with ⟨h1, _⟩ | ⟨j, h1, h2, _⟩ <;> omega
/-- The length of a shortest word that merges, or -1. -/
def mlen (m : List (List Int)) (p q : Nat) : Int := mlenAt m (m.length * m.length) p q
theorem mlen_spec {m : List (List Int)} (hv : validM m = true) {p q : Nat} (hp : p < m.length) (hq : q < m.length) : (mlen m p q = -1 ∧ ∀ k, ¬ mergeP m p q k) ∨ ∃ j : Nat, j < m.length * m.length ∧ mlen m p q = j ∧ mdist m p q j := by
  rcases mlenAt_spec m (m.length * m.length) p q with ⟨h1, h2⟩ | ⟨j, h1, h2, h3⟩
  · refine .inl ⟨h1, fun k h => ?_⟩
    obtain ⟨j, hj, hd⟩ := mdist_some h
    exact h2 j (by have := mdist_lt hv hp hq hd; omega) hd.1
  · exact .inr ⟨j, mdist_lt hv hp hq h3, h2, h3⟩
theorem mlen_of {m : List (List Int)} (hv : validM m = true) {p q j : Nat} (hp : p < m.length) (hq : q < m.length) (h : mdist m p q j) : mlen m p q = j := by
  rcases mlen_spec hv hp hq with ⟨_, h2⟩ | ⟨i, h1, h2, h3⟩
  · exact absurd h.1 (h2 j)
  · rw [h2, mdist_unique h3 h]
theorem mlen_symm {m : List (List Int)} (hv : validM m = true) {p q : Nat} (hp : p < m.length) (hq : q < m.length) : mlen m p q = mlen m q p := by
  rcases mlen_spec hv hp hq with ⟨h1, h2⟩ | ⟨i, h1, h2, h3⟩
  · rcases mlen_spec hv hq hp with ⟨k1, k2⟩ | ⟨j, k1, k2, k3⟩
    · rw [h1, k1]
    · exact absurd (mergeP_symm k3.1) (h2 j)
  · rw [h2, mlen_of hv hq hp (mdist_symm h3)]
/-- A round that changes nothing is the last one. -/
theorem mlen_stop {m : List (List Int)} (hv : validM m = true) {k : Nat} (h : ∀ p q, p < m.length → q < m.length → mlenAt m (k + 1) p q = mlenAt m k p q) {p q : Nat} (hp : p < m.length) (hq : q < m.length) : mlenAt m k p q = mlen m p q := by
  have hno : ∀ p q, p < m.length → q < m.length → ¬ mdist m p q (k + 1) := fun p q hp hq hd => by
    rcases mlenAt_spec m (k + 1) p q with ⟨_, a2⟩ | ⟨j, a1, a2, a3⟩
    · exact a2 _ (Nat.le_refl _) hd.1
    · have e := mdist_unique a3 hd
      have := h p q hp hq
      have := mlenAt_range m k p q
      omega
  rcases mlenAt_spec m k p q with ⟨h1, h2⟩ | ⟨j, h1, h2, h3⟩
  · rcases mlen_spec hv hp hq with ⟨k1, _⟩ | ⟨j, k1, k2, k3⟩
    · rw [h1, k1]
    · exfalso
      have hj : k + 1 ≤ j := Nat.lt_of_not_le fun e => h2 j e k3.1
      obtain ⟨p', q', b1, b2, b3⟩ := mdist_down hv j p q hp hq k3 (k + 1) hj
      exact hno p' q' b1 b2 b3
  · rw [h2, mlen_of hv hp hq h3]
/-- The first letter that leads one nearer. -/
def mX (m : List (List Int)) (p q : Nat) : Nat := ((List.range (letters m)).find? fun x : Nat => mlen m (nx m p (x : Int)) (nx m q (x : Int)) == mlen m p q - 1).getD 0
/-- The word that is made so. -/
def mW (m : List (List Int)) : Nat → Nat → Nat → List Int
  | 0, _, _ => []
  | j + 1, p, q => (mX m p q : Int) :: mW m j (nx m p (mX m p q : Int)) (nx m q (mX m p q : Int))
theorem mX_spec {m : List (List Int)} (hv : validM m = true) {p q j : Nat} (hp : p < m.length) (hq : q < m.length) (h : mdist m p q (j + 1)) :
    mX m p q < letters m ∧ mdist m (nx m p (mX m p q : Int)) (nx m q (mX m p q : Int)) j ∧ mlen m (nx m p (mX m p q : Int)) (nx m q (mX m p q : Int)) = mlen m p q - 1 ∧ ∀ y, y < mX m p q → mlen m (nx m p (y : Int)) (nx m q (y : Int)) ≠ mlen m p q - 1 := by
  have hls := mlen_of hv hp hq h
  obtain ⟨x0, hx0, hd0⟩ := mdist_step h
  have hl0 := mlen_of hv (ldM_ok hv p x0 hp hx0) (ldM_ok hv q x0 hq hx0) hd0
  have hfind : ∃ x, (List.range (letters m)).find? (fun x : Nat => mlen m (nx m p (x : Int)) (nx m q (x : Int)) == mlen m p q - 1) = some x := by
    cases he : (List.range (letters m)).find? (fun x : Nat => mlen m (nx m p (x : Int)) (nx m q (x : Int)) == mlen m p q - 1) with
    | some x => exact ⟨x, rfl⟩
    | none =>
      have := List.find?_eq_none.1 he x0 (List.mem_range.2 hx0)
      rw [hl0, hls] at this
      exact absurd (by simp) this
  obtain ⟨x, hx⟩ := hfind
  have hrx : mX m p q = x := by rw [mX, hx]; rfl
  have hpx := List.find?_some hx
  have hmem := List.mem_of_find?_eq_some hx
  have hxl := List.mem_range.1 hmem
  have hp' : mlen m (nx m p (x : Int)) (nx m q (x : Int)) = mlen m p q - 1 := beq_iff_eq.1 hpx
  rw [hrx]
  refine ⟨hxl, ?_, hp', fun y hy => ?_⟩
  · rcases mlen_spec hv (ldM_ok hv p x hp hxl) (ldM_ok hv q x hq hxl) with ⟨a1, _⟩ | ⟨i, a1, a2, a3⟩
    · omega
    · obtain rfl : i = j := by omega
      exact a3
  · obtain ⟨xa, bs, hab, hno⟩ := (List.find?_eq_some_iff_append.1 hx).2
    have hy2 : y ∈ xa := by
      have hyr : y ∈ List.range (letters m) := List.mem_range.2 (by omega)
      rw [hab] at hyr
      rcases List.mem_append.1 hyr with h1 | h1
      · exact h1
      · have hsort : (List.range (letters m)).Pairwise (· < ·) := List.pairwise_lt_range
        rw [hab] at hsort
        have h2 := (List.pairwise_append.1 hsort).2.1
        rcases List.mem_cons.1 h1 with e | e
        · omega
        · have := (List.pairwise_cons.1 h2).1 y e
          omega
    have := hno y hy2
    intro e
    rw [e] at this
    simp at this
theorem mW_ok {m : List (List Int)} (hv : validM m = true) : ∀ j p q, p < m.length → q < m.length → mdist m p q j → (mW m j p q).all (inB 0 ((letters m : Int) - 1)) = true ∧ (mW m j p q).length = j ∧ runM m p (mW m j p q) = runM m q (mW m j p q)
  | 0, p, q, hp, hq, h => ⟨rfl, rfl, mergeP_zero.1 h.1⟩
  | j + 1, p, q, hp, hq, h => by
    obtain ⟨a1, a2, a3, a4⟩ := mX_spec hv hp hq h
    obtain ⟨b1, b2, b3⟩ := mW_ok hv j _ _ (ldM_ok hv p _ hp a1) (ldM_ok hv q _ hq a1) a2
    refine ⟨?_, by simp [mW, b2], b3⟩
    rw [mW, List.all_cons, b1, Bool.and_true]
    exact inB_true ⟨by omega, by omega⟩
end Go.Proofs.YtiiiinoappjhdaaDoor
