/-
  Texts that the proof of the law stands on: Rep, T1, T2, Bits, Pop, T3, T4, O1, Range, T5, T6, T7, T8, T9, R1, P1, P2, N21, R2, M1, R4, R5, P3, P4, L1, R6, P5, P6, Q1, N1.
-/
import Derived.WalkKit
import Derived.WalkSpells
import Derived.WalkLawsBesides
import Derived.Test.YtlpfglkopnmlnaaDoorProg
import Derived.Lib.TrailingZeros
import Derived.Laws.Bits64b
import Derived.Deep.Matrix
import Derived.Lib.LaidU8
import Derived.SizedLaws
import Derived.Carry
import Derived.RangeFuncNested
import Derived.RangeFuncBound
import Derived.RangeFuncCalls
import Derived.RangeFuncLeaves
import Derived.Shelf.Abstract
import Derived.OwnWalkIn
import Derived.TacticsInMore
import Derived.LoopNIn
import Derived.LoopIn
import Derived.Shelf.RegionOpen
import Derived.Maps.OwnIn
import Derived.BigQuiet
import Derived.Deep.QuietTactic
import Derived.Test.YtlpfglkopnmlnaaDoorShelf
import Derived.Maps.AppendAt
import Derived.Lib.SplitLaws
import Derived.Lib.UnsafeStr
import Derived.Deep.CutRange
import Derived.Deep.AppendLies
import Derived.Deep.RegionLaw
import Derived.ProofKit
import Derived.OpenShut
import Derived.Deep.DeepHandedRow
import Derived.Deep.DeepWitnessRowRef
import Derived.Lib.LaidTab
import Derived.Lib.LaidIn
import Derived.Lib.ItoaNum
import Derived.WideKeyArgs
import Derived.Laws.EntriesVeiled
import Derived.Maps.Own
import Derived.Maps.OwnOps
import Derived.Maps.Views
import Derived.Deep.RegionHeld
import Derived.WalkMore
import Derived.Scope
import Derived.Deep.RegionWith
import Derived.Sort.OwnSortedInts
import Derived.Lib.OwnBridge
import Derived.Deep.RegionHeld3
import Derived.Handy
import Derived.Maps.OwnSet
import Derived.WideKeyPair
import Derived.WideKeyEntry
import Derived.WideKeyElems3
import Derived.Maps.Keyed
import Derived.RegionTactic
import Derived.ChangeAlike
import Derived.Deep.DeepMust
import Derived.OrdersIn
import Derived.Deep.Quiet
import Derived.ChangeKeysEq
import Derived.Laws.StructEq
import Derived.Laws.AppendOwnNone
set_option linter.unusedVariables false
set_option linter.unusedSimpArgs false
namespace Go.Proofs.YtlpfglkopnmlnaaDoor
open Go.RowKit
/-- The greatest number of elements that is spoken of. -/
def big : Nat := 17592186044416
/-- A slice of ints that reads as a list. -/
def Ints (w : World) (v : Value) (l : List Int) : Prop :=
  ∃ A cap, v = .slice A l.length cap ∧ l.length ≤ big ∧ ∀ i, i < l.length → ∃ b off, A = some ⟨b, off, none⟩ ∧ w.cell? ⟨b, off + i, none⟩ = some (.int .i64 (l.getD i 0))
theorem Ints.below {w w' : World} {v : Value} {l : List Int} (h : Ints w v l) (hb : Below w.heap.size w w') : Ints w' v l := by
  obtain ⟨A, cap, hv, hl, hc⟩ := h
  refine ⟨A, cap, hv, hl, fun i hi => ?_⟩
  obtain ⟨b, off, hA, hcell⟩ := hc i hi
  exact ⟨b, off, hA, (hb.cell (p := ⟨b, off + i, none⟩) (World.block_lt_of_cell? _ _ hcell)).trans hcell⟩
theorem all_snoc_take {α : Type} [Inhabited α] (p : α → Bool) (l : List α) (d : α) (k : Nat) (hk : k < l.length) : (l.take (k + 1)).all p = ((l.take k).all p && p (l.getD k d)) := by
  rw [List.take_succ_eq_append_getElem hk, List.all_append]
  simp [List.getD_eq_getElem?_getD, List.getElem?_eq_getElem hk]
theorem all_false_of {α : Type} (p : α → Bool) (l : List α) (d : α) (k : Nat) (hk : k < l.length) (h : p (l.getD k d) = false) : l.all p = false := by
  rw [List.all_eq_false]
  refine ⟨l[k], List.getElem_mem _, ?_⟩
  have : l.getD k d = l[k] := by simp [List.getD_eq_getElem?_getD, List.getElem?_eq_getElem hk]
  rw [this] at h
  simp [h]
theorem hid {p : Prop} (h : p) : Hid p := h
theorem ret_bool {a b : Bool} (h : a = b) : Ending.returned (.bool a) = .returned (.bool b) := by rw [h]
theorem ret_int {k : IntKind} {a b : Int} (h : a = b) : Ending.returned (.int k a) = .returned (.int k b) := by rw [h]
/-- A slice of slices of ints. -/
def Rows (w : World) (v : Value) (m : List (List Int)) : Prop :=
  ∃ A cap, v = .slice A m.length cap ∧ m.length ≤ big ∧ ∀ i, i < m.length → ∃ b off r, A = some ⟨b, off, none⟩ ∧ w.cell? ⟨b, off + i, none⟩ = some r ∧ Ints w r (m.getD i [])
theorem Rows.below {w w' : World} {v : Value} {m : List (List Int)} (h : Rows w v m) (hb : Below w.heap.size w w') : Rows w' v m := by
  obtain ⟨A, cap, hv, hl, hc⟩ := h
  refine ⟨A, cap, hv, hl, fun i hi => ?_⟩
  obtain ⟨b, off, r, hA, hcell, hr⟩ := hc i hi
  exact ⟨b, off, r, hA, (hb.cell (p := ⟨b, off + i, none⟩) (World.block_lt_of_cell? _ _ hcell)).trans hcell, hr.below hb⟩
theorem Ints.alloc {w : World} {v : Value} {l : List Int} (h : Ints w v l) (o : Obj) : Ints (w.alloc o) v l := h.below ((Below.refl _ w).alloc (Nat.le_refl _) o)
theorem Rows.alloc {w : World} {v : Value} {l : List (List Int)} (h : Rows w v l) (o : Obj) : Rows (w.alloc o) v l := h.below ((Below.refl _ w).alloc (Nat.le_refl _) o)
/-- A list of one number, just made. -/
theorem Ints.one (w : World) (n : Int) (t : TypeId) : Ints (w.alloc (.cells #[.int .i64 n] t)) (.slice (some ⟨w.heap.size, 0, none⟩) 1 1) [n] :=
  ⟨_, 1, rfl, by unfold big; simp, fun i hi => ⟨w.heap.size, 0, rfl, by
    obtain rfl : i = 0 := by simp at hi; omega
    simp⟩⟩
theorem Ints.one' (w : World) (n : Int) (t : TypeId) (k : Nat) (hk : k = w.heap.size) : Ints (w.alloc (.cells #[.int .i64 n] t)) (.slice (some ⟨k, 0, none⟩) 1 1) [n] := by
  subst hk; exact Ints.one w n t
/-- Below the whole of the first world: new blocks, and all that a call leaves as it lay. -/
theorem bal {w w' : World} (h : Below w.heap.size w w') (o : Obj) : Below w.heap.size w (w'.alloc o) := h.alloc h.size o
theorem btr {w w' w'' : World} (h : Below w.heap.size w w') (k : Below w'.heap.size w' w'') : Below w.heap.size w w'' := h.trans (k.mono h.size)
theorem below_dr (w : World) (n : Nat) : Below w.heap.size w (w.drewN n) := ⟨rfl, rfl, rfl, Nat.le_refl _, fun _ _ => rfl⟩
theorem Ints.drewN {w : World} {v : Value} {l : List Int} (h : Ints w v l) (n : Nat) : Ints (w.drewN n) v l := h.below (below_dr w n)
theorem Rows.drewN {w : World} {v : Value} {m : List (List Int)} (h : Rows w v m) (n : Nat) : Rows (w.drewN n) v m := h.below (below_dr w n)
theorem bdr {w w' : World} (h : Below w.heap.size w w') (n : Nat) : Below w.heap.size w (w'.drewN n) := btr h (below_dr w' n)
theorem bdrew {w w' : World} (h : Below w.heap.size w w') : Below w.heap.size w w'.drew := h.drew
end Go.Proofs.YtlpfglkopnmlnaaDoor
namespace Go.Proofs.YtlpfglkopnmlnaaDoor
open Go.RowKit
def inB (lo hi : Int) (n : Int) : Bool := decide (lo ≤ n) && decide (n ≤ hi)
theorem inB_true {lo hi n : Int} (h : lo ≤ n ∧ n ≤ hi) : inB lo hi n = true := by simp [inB, h]
theorem inB_false {lo hi n : Int} (h : n < lo ∨ hi < n) : inB lo hi n = false := by
  unfold inB; rcases h with h | h <;> simp <;> omega
set_option maxHeartbeats 400000 in
theorem between_any (lo hi : Int) (v : Value) (l : List Int) (w : World) (h : Ints w v l) :
    Calls Tryd.prog 77 #[.int .i64 lo, .int .i64 hi, v] w fun e w' => e = .returned (.bool (l.all (inB lo hi))) ∧ w = w' := by
  obtain ⟨A, cap, rfl, hl, hc⟩ := h
  unfold big at hl
  go_enter Tryd.func77, Tryd.ntmps77
  go_wp2
  go_loop [11] (fun i => ∃ k : Nat, k ≤ l.length ∧ i = .int .i64 k ∧ (l.take k).all (inB lo hi) = true) (fun i => l.length - (intOf i).toNat)
  case atStart => exact ⟨0, Nat.zero_le _, rfl, rfl⟩
  case round =>
    obtain ⟨k, hk, rfl, hall⟩ := hrel
    by_cases hlt : k < l.length
    · obtain ⟨b, off, hA, hcell⟩ := hc k hlt
      have hs := all_snoc_take (inB lo hi) l 0 k hlt
      rw [hall, Bool.true_and] at hs
      have hf := all_false_of (inB lo hi) l 0 k hlt
      have Hs := hid hs
      have Hf := hid hf
      clear hs hf hall hc
      generalize hn : l.getD k 0 = n at *
      clear hn
      subst hA
      go_wp2
      · go_ret
        exact ⟨ret_bool (Hf.out (inB_false ‹_›)).symm, rfl⟩
      · go_round
        case rel => exact ⟨k + 1, by omega, by go_num, by rw [Hs.out]; exact inB_true ‹_›⟩
        case measure => simp [intOf]; omega
      · go_ret
        exact ⟨ret_bool (Hf.out (inB_false (.inl ‹_›))).symm, rfl⟩
    · go_wp2
      go_ret
      exact ⟨ret_bool (by rw [← hall, List.take_of_length_le (by omega)]), rfl⟩
/-- How many letters. -/
def letters (m : List (List Int)) : Nat := (m.getD 0 []).length
def rowOk (m : List (List Int)) (r : List Int) : Bool := decide (r.length = letters m) && r.all (inB 0 ((m.length : Int) - 1))
def validM (m : List (List Int)) : Bool :=
  inB 1 60 m.length && (inB 1 6 (letters m) && m.all (rowOk m))
theorem between_one (lo hi n : Int) (b : Bool) (v : Value) (w : World) (h : Ints w v [n]) (hb : inB lo hi n = b) :
    Calls Tryd.prog 77 #[.int .i64 lo, .int .i64 hi, v] w fun e w' => e = .returned (.bool b) ∧ w = w' := by
  have := between_any lo hi v [n] w h
  simpa [hb] using this
set_option maxHeartbeats 400000 in
theorem areStates_any (v u : Value) (m : List (List Int)) (l : List Int) (w : World) (h : Rows w v m) (hu : Ints w u l) :
    Calls Tryd.prog 78 #[.agg #[v], u] w fun e w' => e = .returned (.bool (l.all (inB 0 ((m.length : Int) - 1)))) ∧ Below w.heap.size w w' := by
  have hu1 := hu.alloc (.cells #[v] 24)
  obtain ⟨A, cap, rfl, hl, hc⟩ := h
  unfold big at hl
  clear hc
  go_enter Tryd.func78, Tryd.ntmps78
  go_wp2_with (go_at_call 77; refine (between_any _ _ _ l _ hu1).mono ?_; rintro e w' ⟨rfl, rfl⟩)
  go_ret
  exact ⟨rfl, (Below.refl _ _).alloc (Nat.le_refl _) _⟩
theorem areStates_bool (v u : Value) (m : List (List Int)) (l : List Int) (b : Bool) (w : World) (h : Rows w v m) (hu : Ints w u l) (hb : l.all (inB 0 ((m.length : Int) - 1)) = b) :
    Calls Tryd.prog 78 #[.agg #[v], u] w fun e w' => e = .returned (.bool b) ∧ Below w.heap.size w w' := by
  subst hb; exact areStates_any v u m l w h hu
set_option maxHeartbeats 400000 in
theorem Valid_any (v : Value) (m : List (List Int)) (w : World) (h : Rows w v m) :
    Calls Tryd.prog 44 #[.agg #[v]] w fun e w' => e = .returned (.bool (validM m)) ∧ Below w.heap.size w w' := by
  have hr := h
  obtain ⟨A, cap, rfl, hl, hc⟩ := h
  unfold big at hl
  by_cases h1 : inB 1 60 m.length = true
  · have hpos : 0 < m.length := by simp [inB] at h1; omega
    obtain ⟨b, off, r0, hA, hcell0, hr0⟩ := hc 0 hpos
    subst hA
    obtain ⟨A0, cap0, rfl, hl0, hc0⟩ := hr0
    unfold big at hl0
    rw [Nat.add_zero] at hcell0
    have hbl : b < w.heap.size := World.block_lt_of_cell? _ _ hcell0
    have hlet : (m.getD 0 []).length = letters m := rfl
    rw [hlet] at hcell0 hl0
    clear hc0
    by_cases h2 : inB 1 6 (letters m) = true
    · have Hc := hid hc
      clear hc
      have hin : (0 : Int) < m.length := by omega
      go_enter Tryd.func44, Tryd.ntmps44
      go_wp2_with fail
      refine (between_one 1 60 m.length true _ _ (Ints.one' _ _ _ _ (by simp)) h1).mono ?_
      rintro e w1 ⟨rfl, rfl⟩
      go_wp2_with fail
      refine (between_one 1 6 (letters m) true _ _ (Ints.one' _ _ _ _ (by simp)) h2).mono ?_
      rintro e w1 ⟨rfl, rfl⟩
      go_wp2_with fail
      go_loopw [24] (fun i wr => ∃ k : Nat, k ≤ m.length ∧ i = .int .i64 k ∧ (m.take k).all (rowOk m) = true ∧ Below w.heap.size w wr ∧ wr.cell? ⟨w.heap.size, 0, none⟩ = some (.slice (some ⟨b, off, none⟩) m.length cap))
        (fun i _ => m.length - (intOf i).toNat)
      case atStart => exact ⟨0, Nat.zero_le _, rfl, rfl, bal (bal (bal (Below.refl _ _) _) _) _, by simp [go_sem]⟩
      case round =>
        obtain ⟨k, hk, rfl, hall, hB, hbox⟩ := hrel
        have hsz : w.heap.size < wr.heap.size := World.block_lt_of_cell? _ _ hbox
        by_cases hlt : k < m.length
        · obtain ⟨b', off', r, hA', hcell, hrow⟩ := Hc.out k hlt
          cases hA'
          have hrowc : wr.cell? ⟨b, off + k, none⟩ = some r := (hB.cell (p := ⟨b, off + k, none⟩) hbl).trans hcell
          have hroww := hrow.below hB
          have hrw := hr.below hB
          have Hs := hid (all_snoc_take (rowOk m) m [] k hlt)
          have Hf := hid (all_false_of (rowOk m) m [] k hlt)
          clear hrow hcell hcell0
          generalize m.getD k [] = row at *
          have hroww' := hroww
          obtain ⟨Ar, capr, rfl, hlr, hcr⟩ := hroww
          unfold big at hlr
          clear hcr
          have hv1 : validM m = m.all (rowOk m) := by simp [validM, h1, h2]
          have Hv := hid hv1
          have Ha := hid hall
          clear hv1 hall
          by_cases hle : row.length = letters m
          · have hne : ((row.length : Int) != (letters m : Int)) = false := by simp; omega
            by_cases hst : row.all (inB 0 ((m.length : Int) - 1)) = true
            · have Hle := hid hle
              clear hle
              go_wp2_with fail
              refine (areStates_bool _ _ m row true _ hrw hroww' hst).mono ?_
              rintro e w1 ⟨rfl, hb1⟩
              have hbx : w1.cell? ⟨w.heap.size, 0, none⟩ = some (.slice (some ⟨b, off, none⟩) m.length cap) := (hb1.cell (p := ⟨w.heap.size, 0, none⟩) hsz).trans hbox
              go_wp2
              go_roundw
              case rel => exact ⟨k + 1, by omega, by go_num, by rw [Hs.out, Ha.out]; simp [rowOk, Hle.out, hst], btr hB hb1, hbx⟩
              case measure => simp [intOf]; omega
            · have hst' : row.all (inB 0 ((m.length : Int) - 1)) = false := by simpa using hst
              have Hle := hid hle
              clear hle hst
              go_wp2_with fail
              refine (areStates_bool _ _ m row false _ hrw hroww' hst').mono ?_
              rintro e w1 ⟨rfl, hb1⟩
              go_wp2
              go_ret
              exact ⟨ret_bool (by rw [Hv.out, Hf.out]; simp [rowOk, hst']), btr hB hb1⟩
          · have hne : ((row.length : Int) != (letters m : Int)) = true := by simp; omega
            have Hle := hid hle
            clear hle
            go_wp2
            go_ret
            exact ⟨ret_bool (by rw [Hv.out, Hf.out]; simp [rowOk, Hle.out]), hB⟩
        · go_wp2
          go_ret
          exact ⟨ret_bool (by rw [← hall, List.take_of_length_le (by omega)]; simp [validM, h1, h2]), hB⟩
    · have h2' : inB 1 6 (letters m) = false := by simpa using h2
      have Hc := hid hc
      clear hc
      have hin : (0 : Int) < m.length := by omega
      go_enter Tryd.func44, Tryd.ntmps44
      go_wp2_with fail
      refine (between_one 1 60 m.length true _ _ (Ints.one' _ _ _ _ (by simp)) h1).mono ?_
      rintro e w1 ⟨rfl, rfl⟩
      go_wp2_with fail
      refine (between_one 1 6 (letters m) false _ _ (Ints.one' _ _ _ _ (by simp)) h2').mono ?_
      rintro e w1 ⟨rfl, rfl⟩
      go_wp2
      go_ret
      exact ⟨ret_bool (by simp [validM, h2']), bal (bal (bal (Below.refl _ _) _) _) _⟩
  · have h1' : inB 1 60 m.length = false := by simpa using h1
    clear hc
    go_enter Tryd.func44, Tryd.ntmps44
    go_wp2_with fail
    refine (between_one 1 60 m.length false _ _ (Ints.one' _ _ _ _ (by simp)) h1').mono ?_
    rintro e w1 ⟨rfl, rfl⟩
    go_wp2
    go_ret
    exact ⟨ret_bool (by simp [validM, h1']), bal (bal (Below.refl _ _) _) _⟩
end Go.Proofs.YtlpfglkopnmlnaaDoor
namespace Go.Proofs.YtlpfglkopnmlnaaDoor
open Go.RowKit
def isWordM (m : List (List Int)) (u : List Int) : Bool := decide (u.length ≤ 40000) && u.all (inB 0 ((letters m : Int) - 1))
/-- Where a letter leads, and a word. -/
def nx (m : List (List Int)) (s : Nat) (x : Int) : Nat := ((m.getD s []).getD x.toNat 0).toNat
def runM (m : List (List Int)) (s : Nat) (u : List Int) : Nat := u.foldl (nx m) s
theorem all_getD {α : Type} (p : α → Bool) (l : List α) (d : α) (h : l.all p = true) (i : Nat) (hi : i < l.length) : p (l.getD i d) = true := by
  rw [List.all_eq_true] at h
  have e : l.getD i d = l[i] := by simp [List.getD_eq_getElem?_getD, List.getElem?_eq_getElem hi]
  rw [e]; exact h _ (List.getElem_mem _)
theorem inB_iff {lo hi n : Int} : inB lo hi n = true ↔ lo ≤ n ∧ n ≤ hi := by simp [inB]
theorem valid_parts {m : List (List Int)} (h : validM m = true) : 1 ≤ m.length ∧ m.length ≤ 60 ∧ 1 ≤ letters m ∧ letters m ≤ 6 ∧
    ∀ i, i < m.length → (m.getD i []).length = letters m ∧ ∀ j, j < letters m → 0 ≤ (m.getD i []).getD j 0 ∧ (m.getD i []).getD j 0 < m.length := by
  simp only [validM, Bool.and_eq_true, inB_iff] at h
  obtain ⟨⟨a, b⟩, ⟨c, d⟩, e⟩ := h
  refine ⟨by omega, by omega, by omega, by omega, fun i hi => ?_⟩
  have hr := all_getD _ m [] e i hi
  simp only [rowOk, Bool.and_eq_true, decide_eq_true_eq] at hr
  refine ⟨hr.1, fun j hj => ?_⟩
  have := all_getD _ _ 0 hr.2 j (by omega)
  rw [inB_iff] at this
  omega
theorem nx_ok {m : List (List Int)} (h : validM m = true) {s : Nat} (hs : s < m.length) {x : Int} (h0 : 0 ≤ x) (h1 : x < letters m) :
    nx m s x < m.length ∧ (m.getD s []).getD x.toNat 0 = (nx m s x : Int) := by
  have := ((valid_parts h).2.2.2.2 s hs).2 x.toNat (by omega)
  unfold nx
  omega
theorem runM_lt {m : List (List Int)} (h : validM m = true) : ∀ (u : List Int) (s : Nat), s < m.length → u.all (inB 0 ((letters m : Int) - 1)) = true → runM m s u < m.length
  | [], s, hs, _ => hs
  | x :: u, s, hs, hu => by
    simp only [List.all_cons, Bool.and_eq_true, inB_iff] at hu
    exact runM_lt h u _ (nx_ok h hs hu.1.1 (by omega)).1 hu.2
theorem runM_snoc (m : List (List Int)) (s : Nat) (u : List Int) (k : Nat) (hk : k < u.length) : runM m s (u.take (k + 1)) = nx m (runM m s (u.take k)) (u.getD k 0) := by
  unfold runM
  rw [List.take_succ_eq_append_getElem hk, List.foldl_append]
  simp [List.getD_eq_getElem?_getD, List.getElem?_eq_getElem hk]
theorem all_take {α : Type} (p : α → Bool) (l : List α) (h : l.all p = true) (k : Nat) : (l.take k).all p = true := by
  rw [List.all_eq_true] at h ⊢
  exact fun x hx => h x (List.mem_of_mem_take hx)
set_option maxHeartbeats 400000 in
theorem isWord_any (v u : Value) (m : List (List Int)) (l : List Int) (w : World) (h : Rows w v m) (hv : validM m = true) (hu : Ints w u l) :
    Calls Tryd.prog 94 #[.agg #[v], u] w fun e w' => e = .returned (.bool (isWordM m l)) ∧ Below w.heap.size w w' := by
  have hu1 := hu.alloc (.cells #[v] 24)
  obtain ⟨p1, p2, p3, p4, p5⟩ := valid_parts hv
  obtain ⟨A, cap, rfl, hl, hc⟩ := h
  obtain ⟨b, off, r0, hA, hcell0, hr0⟩ := hc 0 (by omega)
  subst hA
  obtain ⟨A0, cap0, rfl, hl0, hc0⟩ := hr0
  obtain ⟨Au, capu, rfl, hlu, hcu⟩ := hu
  rw [Nat.add_zero] at hcell0
  have hlet : (m.getD 0 []).length = letters m := rfl
  rw [hlet] at hcell0
  have hbl : b < w.heap.size := World.block_lt_of_cell? _ _ hcell0
  have hin : (0 : Int) < m.length := by omega
  unfold big at hlu
  clear hc hc0 hcu hl hl0 hlet p5
  by_cases hlen : l.length ≤ 40000
  · have hle : decide ((l.length : Int) ≤ 40000) = true := by simp; omega
    go_enter Tryd.func94, Tryd.ntmps94
    go_wp2_with (go_at_call 77; refine (between_any _ _ _ l _ hu1).mono ?_; rintro e w' ⟨rfl, rfl⟩)
    go_ret
    exact ⟨ret_bool (by simp [isWordM, hlen]), bal (Below.refl _ _) _⟩
  · have hle : decide ((l.length : Int) ≤ 40000) = false := by simp; omega
    go_enter Tryd.func94, Tryd.ntmps94
    go_wp2
    go_ret
    exact ⟨ret_bool (by simp [isWordM, hlen]), bal (Below.refl _ _) _⟩
end Go.Proofs.YtlpfglkopnmlnaaDoor
namespace Go.Proofs.YtlpfglkopnmlnaaDoor
/-- The elements of a set that is kept as the bits of a number. -/
def elems (S : Nat) : List Nat := (List.range 64).filter S.testBit
theorem filter_first (p q : Nat → Bool) (n k : Nat) (hk : k < n) (hp : p k = true) (hlo : ∀ i, i < k → p i = false) (hq : ∀ i, q i = (p i && decide (i ≠ k))) :
    (List.range n).filter p = k :: (List.range n).filter q := by
  have e : List.range n = List.range k ++ (k :: List.range' (k + 1) (n - k - 1)) := by
    rw [List.range_eq_range', List.range_eq_range']
    have h1 : k :: List.range' (k + 1) (n - k - 1) = List.range' k (n - k) := by
      have h2 : n - k = (n - k - 1) + 1 := by omega
      rw [h2, List.range'_succ]
      simp
    rw [h1]
    have h3 := List.range'_append (s := 0) (m := k) (n := n - k) (step := 1)
    simp only [Nat.one_mul, Nat.zero_add] at h3
    rw [h3]
    congr 1
    omega
  have f1 : (List.range k).filter p = [] := by
    rw [List.filter_eq_nil_iff]
    intro a ha
    simp [hlo a (List.mem_range.1 ha)]
  have f2 : (List.range k).filter q = [] := by
    rw [List.filter_eq_nil_iff]
    intro a ha
    simp [hq, hlo a (List.mem_range.1 ha)]
  have f3 : (List.range' (k + 1) (n - k - 1)).filter p = (List.range' (k + 1) (n - k - 1)).filter q := by
    apply List.filter_congr
    intro a ha
    have := List.mem_range'_1.1 ha
    rw [hq]
    have h : a ≠ k := by omega
    simp [h]
  rw [e, List.filter_append, List.filter_append, f1, f2, List.filter_cons, List.filter_cons, f3]
  simp [hp, hq]
/-- Of a number that is not zero: where its lowest bit is; without it the number is less. -/
theorem low_bit (k m : Nat) : ∀ i, (2 ^ k * (2 * m + 1)).testBit i = (decide (k = i) || (decide (k < i) && m.testBit (i - k - 1))) := by
  intro i
  have h := Nat.testBit_two_pow_mul_add (2 * m + 1) (b := 0) (i := k) (Nat.two_pow_pos k) i
  rw [Nat.add_zero] at h
  rw [h]
  by_cases h1 : i < k
  · have a : ¬ k = i := by omega
    have b : ¬ k < i := by omega
    simp [h1, a, b]
  · rw [if_neg h1]
    by_cases h2 : k = i
    · subst h2; simp [Nat.testBit_zero]
    · have h3 : k < i := by omega
      obtain ⟨j, rfl⟩ : ∃ j, i = k + 1 + j := ⟨i - k - 1, by omega⟩
      have e1 : k + 1 + j - k = j + 1 := by omega
      have e2 : k + 1 + j - k - 1 = j := by omega
      rw [e1, Nat.testBit_succ]
      have d1 : (2 * m + 1) / 2 = m := by omega
      rw [d1]
      have : ¬ k = k + 1 + j := by omega
      simp [h3, this]
theorem low_bit_pred (k m : Nat) : ∀ i, (2 ^ k * (2 * m + 1) - 1).testBit i = (decide (i < k) || (decide (k < i) && m.testBit (i - k - 1))) := by
  intro i
  have hp := Nat.two_pow_pos k
  have e : 2 ^ k * (2 * m + 1) - 1 = 2 ^ k * (2 * m) + (2 ^ k - 1) := by
    rw [Nat.mul_add, Nat.mul_one]; omega
  rw [e, Nat.testBit_two_pow_mul_add (2 * m) (b := 2 ^ k - 1) (i := k) (by omega) i]
  by_cases h1 : i < k
  · simp [h1, Nat.testBit_two_pow_sub_one]
  · rw [if_neg h1]
    by_cases h2 : k = i
    · subst h2; simp [Nat.testBit_zero]
    · have h3 : k < i := by omega
      obtain ⟨j, rfl⟩ : ∃ j, i = k + 1 + j := ⟨i - k - 1, by omega⟩
      have e1 : k + 1 + j - k = j + 1 := by omega
      have e2 : k + 1 + j - k - 1 = j := by omega
      rw [e1, Nat.testBit_succ]
      have d1 : 2 * m / 2 = m := by omega
      rw [d1]
      simp [h3, h1]
theorem elems_step (S k m : Nat) (hS : S = 2 ^ k * (2 * m + 1)) (hk : k < 64) : elems S = k :: elems (S &&& (S - 1)) ∧ S &&& (S - 1) < S := by
  have h1 := low_bit k m
  have h2 := low_bit_pred k m
  rw [← hS] at h1 h2
  refine ⟨filter_first _ _ 64 k hk ?_ ?_ ?_, ?_⟩
  · rw [h1]; simp
  · intro i hi
    rw [h1]
    have a : ¬ k = i := by omega
    have b : ¬ k < i := by omega
    simp [a, b]
  · intro i
    rw [Nat.testBit_and, h1, h2]
    by_cases e : k = i
    · subst e; simp
    · have e' : i ≠ k := fun h => e h.symm
      by_cases h3 : k < i
      · have h4 : ¬ i < k := by omega
        simp [e, e', h3, h4]
      · simp [e, h3]
  · have hle : S &&& (S - 1) ≤ S - 1 := Nat.and_le_right
    have hp := Nat.two_pow_pos k
    have : 0 < S := by rw [hS]; exact Nat.mul_pos hp (by omega)
    omega
theorem elems_zero : elems 0 = [] := by
  unfold elems
  rw [List.filter_eq_nil_iff]
  intro a _
  simp
theorem mem_elems (S i : Nat) : i ∈ elems S ↔ i < 64 ∧ S.testBit i = true := by
  unfold elems; simp [List.mem_filter]
/-- The bit of an element, set. -/
theorem testBit_with (S x i : Nat) : (S ||| 2 ^ x).testBit i = (S.testBit i || decide (x = i)) := by
  rw [Nat.testBit_or, Nat.testBit_two_pow]
theorem with_lt (S x n : Nat) (hS : S < 2 ^ n) (hx : x < n) : S ||| 2 ^ x < 2 ^ n :=
  Nat.or_lt_two_pow hS (Nat.pow_lt_pow_right (by decide) hx)
theorem testBit_below (n i : Nat) : (2 ^ n - 1).testBit i = decide (i < n) := Nat.testBit_two_pow_sub_one n i
/-- Two numbers below 2^64 with the same elements are one. -/
theorem eq_of_elems (S T : Nat) (hS : S < 2 ^ 64) (hT : T < 2 ^ 64) (h : ∀ i, i < 64 → S.testBit i = T.testBit i) : S = T := by
  apply Nat.eq_of_testBit_eq
  intro i
  by_cases hi : i < 64
  · exact h i hi
  · have a : S.testBit i = false := Nat.testBit_lt_two_pow (Nat.lt_of_lt_of_le hS (Nat.pow_le_pow_right (by decide) (by omega)))
    have b : T.testBit i = false := Nat.testBit_lt_two_pow (Nat.lt_of_lt_of_le hT (Nat.pow_le_pow_right (by decide) (by omega)))
    rw [a, b]
end Go.Proofs.YtlpfglkopnmlnaaDoor
namespace Go.Proofs.YtlpfglkopnmlnaaDoor
def m0 : Nat := 0x5555555555555555
def m1 : Nat := 0x3333333333333333
def m2 : Nat := 0x0f0f0f0f0f0f0f0f
def s1 (x : Nat) : Nat := ((x >>> 1) &&& m0) + (x &&& m0)
def s2 (x : Nat) : Nat := ((x >>> 2) &&& m1) + (x &&& m1)
def s3 (x : Nat) : Nat := ((x >>> 4) + x) &&& m2
def s4 (x : Nat) : Nat := (x + x >>> 8) % 18446744073709551616
def s5 (x : Nat) : Nat := (x + x >>> 16) % 18446744073709551616
def s6 (x : Nat) : Nat := (x + x >>> 32) % 18446744073709551616
def swar (x : Nat) : Nat := s6 (s5 (s4 (s3 (s2 (s1 x))))) &&& 127
/-- and, digit by digit. -/
theorem land_digit (k a b A B : Nat) (ha : a < 2 ^ k) (hb : b < 2 ^ k) : (2 ^ k * A + a) &&& (2 ^ k * B + b) = 2 ^ k * (A &&& B) + (a &&& b) := by
  apply Nat.eq_of_testBit_eq
  intro i
  rw [Nat.testBit_and, Nat.testBit_two_pow_mul_add _ ha, Nat.testBit_two_pow_mul_add _ hb, Nat.testBit_two_pow_mul_add _ (Nat.and_lt_two_pow _ hb)]
  split
  · rw [Nat.testBit_and]
  · rw [Nat.testBit_and]
/-- The masks of n bytes, all of one make. -/
def mask (c : Nat) : Nat → Nat
  | 0 => 0
  | n + 1 => 256 * mask c n + c
theorem mask_succ (c n : Nat) : mask c (n + 1) = 256 * mask c n + c := rfl
def t1 (n x : Nat) : Nat := ((x / 2) &&& mask 0x55 n) + (x &&& mask 0x55 n)
def t2 (n x : Nat) : Nat := ((x / 4) &&& mask 0x33 n) + (x &&& mask 0x33 n)
def t3 (n x : Nat) : Nat := ((x / 16) + x) &&& mask 0x0f n
theorem b1 : ∀ b, b < 256 → ∀ t, t < 2 → ((b / 2 + 128 * t) &&& 0x55) = ((b / 2) &&& 0x55) := by decide +kernel
theorem b2 : ∀ b, b < 256 → ∀ t, t < 4 → ((b / 4 + 64 * t) &&& 0x33) = ((b / 4) &&& 0x33) := by decide +kernel
theorem t1_digit (n b X : Nat) (hb : b < 256) : t1 (n + 1) (256 * X + b) = 256 * t1 n X + (((b / 2) &&& 0x55) + (b &&& 0x55)) := by
  unfold t1
  rw [mask_succ]
  have e1 : (256 * X + b) / 2 = 256 * (X / 2) + (b / 2 + 128 * (X % 2)) := by omega
  have h1 := land_digit 8 (b / 2 + 128 * (X % 2)) 0x55 (X / 2) (mask 0x55 n) (by omega) (by decide)
  have h2 := land_digit 8 b 0x55 X (mask 0x55 n) hb (by decide)
  simp only [Nat.reducePow] at h1 h2
  rw [e1, h1, h2, b1 b hb (X % 2) (by omega)]
  omega
theorem t2_digit (n b X : Nat) (hb : b < 256) : t2 (n + 1) (256 * X + b) = 256 * t2 n X + (((b / 4) &&& 0x33) + (b &&& 0x33)) := by
  unfold t2
  rw [mask_succ]
  have e1 : (256 * X + b) / 4 = 256 * (X / 4) + (b / 4 + 64 * (X % 4)) := by omega
  have h1 := land_digit 8 (b / 4 + 64 * (X % 4)) 0x33 (X / 4) (mask 0x33 n) (by omega) (by decide)
  have h2 := land_digit 8 b 0x33 X (mask 0x33 n) hb (by decide)
  simp only [Nat.reducePow] at h1 h2
  rw [e1, h1, h2, b2 b hb (X % 4) (by omega)]
  omega
theorem b3 : ∀ b, b < 256 → ∀ t, t < 16 → b / 16 + b + 16 * t < 256 → ((b / 16 + b + 16 * t) &&& 0x0f) = ((b / 16 + b) &&& 0x0f) := by decide +kernel
theorem t3_digit (n b X : Nat) (hb : b < 256) (hs : b / 16 + b + 16 * (X % 16) < 256) : t3 (n + 1) (256 * X + b) = 256 * t3 n X + ((b / 16 + b) &&& 0x0f) := by
  unfold t3
  rw [mask_succ]
  have e1 : (256 * X + b) / 16 + (256 * X + b) = 256 * (X / 16 + X) + (b / 16 + b + 16 * (X % 16)) := by omega
  have h1 := land_digit 8 (b / 16 + b + 16 * (X % 16)) 0x0f (X / 16 + X) (mask 0x0f n) hs (by decide)
  simp only [Nat.reducePow] at h1
  rw [e1, h1, b3 b hb (X % 16) (by omega) hs]
/-- The bits of a byte. -/
def byteCount (b : Nat) : Nat := ((List.range 8).filter b.testBit).length
def c1 (b : Nat) : Nat := ((b / 2) &&& 0x55) + (b &&& 0x55)
def c2 (b : Nat) : Nat := ((b / 4) &&& 0x33) + (b &&& 0x33)
def c3 (b : Nat) : Nat := (b / 16 + b) &&& 0x0f
theorem byte_ok : ∀ b, b < 256 → c1 b < 256 ∧ c2 (c1 b) < 256 ∧ c2 (c1 b) / 16 + c2 (c1 b) ≤ 80 ∧ c2 (c1 b) % 16 ≤ 4 ∧ c3 (c2 (c1 b)) = byteCount b ∧ byteCount b ≤ 8 := by decide +kernel
/-- The digits to the base 256, lowest first. -/
def ofBytes : List Nat → Nat
  | [] => 0
  | b :: l => 256 * ofBytes l + b
theorem t123 : ∀ (l : List Nat), (∀ b ∈ l, b < 256) → t2 l.length (t1 l.length (ofBytes l)) = ofBytes (l.map fun b => c2 (c1 b)) ∧ t3 l.length (t2 l.length (t1 l.length (ofBytes l))) = ofBytes (l.map byteCount)
  | [], _ => by decide
  | b :: l, h => by
    obtain ⟨i1, i2⟩ := t123 l (fun x hx => h x (List.mem_cons_of_mem _ hx))
    obtain ⟨k1, k2, k3, k4, k5, k6⟩ := byte_ok b (h b List.mem_cons_self)
    have e1 : t1 (l.length + 1) (256 * ofBytes l + b) = 256 * t1 l.length (ofBytes l) + c1 b := t1_digit _ _ _ (h b List.mem_cons_self)
    have e2 : t2 (l.length + 1) (256 * t1 l.length (ofBytes l) + c1 b) = 256 * t2 l.length (t1 l.length (ofBytes l)) + c2 (c1 b) := t2_digit _ _ _ k1
    have hm : t2 l.length (t1 l.length (ofBytes l)) % 16 ≤ 4 := by
      rw [i1]
      cases l with
      | nil => decide
      | cons d r =>
        have := (byte_ok d (h d (by simp))).2.2.2.1
        simp only [List.map_cons, ofBytes]
        omega
    have e3 : t3 (l.length + 1) (256 * t2 l.length (t1 l.length (ofBytes l)) + c2 (c1 b)) = 256 * t3 l.length (t2 l.length (t1 l.length (ofBytes l))) + c3 (c2 (c1 b)) := t3_digit _ _ _ k2 (by omega)
    simp only [List.length_cons, ofBytes, List.map_cons]
    refine ⟨by rw [e1, e2, i1], ?_⟩
    rw [e1, e2, e3, i2, k5]
theorem masks : mask 0x55 8 = m0 ∧ mask 0x33 8 = m1 ∧ mask 0x0f 8 = m2 := by decide
def digits (a b c d e f g h : Nat) : Nat := a + 256 * b + 65536 * c + 16777216 * d + 4294967296 * e + 1099511627776 * f + 281474976710656 * g + 72057594037927936 * h
theorem s4_digits (a b c d e f g h : Nat) (ha : a ≤ 40) (hb : b ≤ 40) (hc : c ≤ 40) (hd : d ≤ 40) (he : e ≤ 40) (hf : f ≤ 40) (hg : g ≤ 40) (hh : h ≤ 40) :
    s4 (digits a b c d e f g h) = digits (a + b) (b + c) (c + d) (d + e) (e + f) (f + g) (g + h) h := by
  have q : (digits a b c d e f g h) >>> 8 = digits b c d e f g h 0 := by
    rw [Nat.shiftRight_eq_div_pow]; unfold digits; omega
  unfold s4
  rw [q]
  unfold digits
  omega
theorem s5_digits (a b c d e f g h : Nat) (ha : a ≤ 40) (hb : b ≤ 40) (hc : c ≤ 40) (hd : d ≤ 40) (he : e ≤ 40) (hf : f ≤ 40) (hg : g ≤ 40) (hh : h ≤ 40) :
    s5 (digits a b c d e f g h) = digits (a + c) (b + d) (c + e) (d + f) (e + g) (f + h) g h := by
  have q : (digits a b c d e f g h) >>> 16 = digits c d e f g h 0 0 := by
    rw [Nat.shiftRight_eq_div_pow]; unfold digits; omega
  unfold s5
  rw [q]
  unfold digits
  omega
theorem s6_digits (a b c d e f g h : Nat) (ha : a ≤ 40) (hb : b ≤ 40) (hc : c ≤ 40) (hd : d ≤ 40) (he : e ≤ 40) (hf : f ≤ 40) (hg : g ≤ 40) (hh : h ≤ 40) :
    s6 (digits a b c d e f g h) = digits (a + e) (b + f) (c + g) (d + h) e f g h := by
  have q : (digits a b c d e f g h) >>> 32 = digits e f g h 0 0 0 0 := by
    rw [Nat.shiftRight_eq_div_pow]; unfold digits; omega
  unfold s6
  rw [q]
  unfold digits
  omega
theorem swar_bytes (a b c d e f g h : Nat) (ha : a < 256) (hb : b < 256) (hc : c < 256) (hd : d < 256) (he : e < 256) (hf : f < 256) (hg : g < 256) (hh : h < 256) :
    swar (ofBytes [a, b, c, d, e, f, g, h]) = byteCount a + byteCount b + byteCount c + byteCount d + byteCount e + byteCount f + byteCount g + byteCount h := by
  have ht := (t123 [a, b, c, d, e, f, g, h] (by simp; omega)).2
  simp only [List.length_cons, List.length_nil, Nat.reduceAdd] at ht
  have e1 : ∀ x, s1 x = t1 8 x := fun x => by unfold s1 t1; rw [masks.1, Nat.shiftRight_eq_div_pow]
  have e2 : ∀ x, s2 x = t2 8 x := fun x => by unfold s2 t2; rw [masks.2.1, Nat.shiftRight_eq_div_pow]
  have e3 : ∀ x, s3 x = t3 8 x := fun x => by unfold s3 t3; rw [masks.2.2, Nat.shiftRight_eq_div_pow]
  unfold swar
  rw [e1, e2, e3, ht]
  have := (byte_ok a ha).2.2.2.2.2; have := (byte_ok b hb).2.2.2.2.2; have := (byte_ok c hc).2.2.2.2.2; have := (byte_ok d hd).2.2.2.2.2
  have := (byte_ok e he).2.2.2.2.2; have := (byte_ok f hf).2.2.2.2.2; have := (byte_ok g hg).2.2.2.2.2; have := (byte_ok h hh).2.2.2.2.2
  simp only [List.map_cons, List.map_nil, ofBytes]
  generalize byteCount a = a at *; generalize byteCount b = b at *; generalize byteCount c = c at *; generalize byteCount d = d at *
  generalize byteCount e = e at *; generalize byteCount f = f at *; generalize byteCount g = g at *; generalize byteCount h = h at *
  have h127 : ∀ x, x &&& 127 = x % 128 := fun x => Nat.and_two_pow_sub_one_eq_mod x 7
  rw [h127]
  rw [show 256 * (256 * (256 * (256 * (256 * (256 * (256 * (256 * 0 + h) + g) + f) + e) + d) + c) + b) + a = digits a b c d e f g h from by unfold digits; omega]
  rw [s4_digits a b c d e f g h (by omega) (by omega) (by omega) (by omega) (by omega) (by omega) (by omega) (by omega)]
  rw [s5_digits _ _ _ _ _ _ _ _ (by omega) (by omega) (by omega) (by omega) (by omega) (by omega) (by omega) (by omega)]
  rw [s6_digits _ _ _ _ _ _ _ _ (by omega) (by omega) (by omega) (by omega) (by omega) (by omega) (by omega) (by omega)]
  unfold digits
  omega
theorem chunk (x k : Nat) : ((List.range 8).map (fun i => 8 * k + i) |>.filter x.testBit).length = byteCount (x / 2 ^ (8 * k) % 256) := by
  unfold byteCount
  rw [List.filter_map, List.length_map]
  congr 1
  apply List.filter_congr
  intro i hi
  have hi := List.mem_range.1 hi
  have h := Nat.testBit_mod_two_pow (x / 2 ^ (8 * k)) 8 i
  simp only [Nat.reducePow] at h
  rw [h, Nat.testBit_div_two_pow]
  simp [hi, Nat.add_comm]
theorem range64 : List.range 64 = (List.range 8).map (fun i => 8 * 0 + i) ++ (List.range 8).map (fun i => 8 * 1 + i) ++ (List.range 8).map (fun i => 8 * 2 + i) ++ (List.range 8).map (fun i => 8 * 3 + i) ++
    (List.range 8).map (fun i => 8 * 4 + i) ++ (List.range 8).map (fun i => 8 * 5 + i) ++ (List.range 8).map (fun i => 8 * 6 + i) ++ (List.range 8).map (fun i => 8 * 7 + i) := by decide
theorem swar_eq (x : Nat) (hx : x < 18446744073709551616) : swar x = (elems x).length := by
  have hb : x = ofBytes [x / 2 ^ (8 * 0) % 256, x / 2 ^ (8 * 1) % 256, x / 2 ^ (8 * 2) % 256, x / 2 ^ (8 * 3) % 256, x / 2 ^ (8 * 4) % 256, x / 2 ^ (8 * 5) % 256, x / 2 ^ (8 * 6) % 256, x / 2 ^ (8 * 7) % 256] := by
    simp only [ofBytes, Nat.reducePow, Nat.reduceMul]; omega
  conv => lhs; rw [hb]
  rw [swar_bytes _ _ _ _ _ _ _ _ (by omega) (by omega) (by omega) (by omega) (by omega) (by omega) (by omega) (by omega)]
  unfold elems
  rw [range64]
  simp only [List.filter_append, List.length_append, chunk]
end Go.Proofs.YtlpfglkopnmlnaaDoor
namespace Go.Proofs.YtlpfglkopnmlnaaDoor
open Go.RowKit
theorem wrap_u64n (n : Nat) (h : n < 18446744073709551616) : IntKind.u64.wrap (n : Int) = (n : Int) := by
  have : IntKind.u64.wrap (n : Int) = (n : Int) % 18446744073709551616 := by simp [IntKind.wrap, IntKind.signed, IntKind.bits]
  rw [this]; omega
theorem bits_and_n (a b : Nat) (ha : a < 2 ^ 64) (hb : b < 2 ^ 64) : bits .and .u64 (a : Int) (b : Int) = ((a &&& b : Nat) : Int) := by
  have h1 : (BitVec.ofInt 64 (a : Int)).toNat = a := by rw [BitVec.ofInt_natCast, BitVec.toNat_ofNat]; exact Nat.mod_eq_of_lt ha
  have h2 : (BitVec.ofInt 64 (b : Int)).toNat = b := by rw [BitVec.ofInt_natCast, BitVec.toNat_ofNat]; exact Nat.mod_eq_of_lt hb
  show IntKind.u64.wrap ((BitVec.ofInt 64 (a : Int) &&& BitVec.ofInt 64 (b : Int)).toNat : Int) = _
  rw [BitVec.toNat_and, h1, h2, wrap_u64n _ (Nat.and_lt_two_pow _ hb)]
theorem bits_or_n (a b : Nat) (ha : a < 2 ^ 64) (hb : b < 2 ^ 64) : bits .or .u64 (a : Int) (b : Int) = ((a ||| b : Nat) : Int) := by
  have h1 : (BitVec.ofInt 64 (a : Int)).toNat = a := by rw [BitVec.ofInt_natCast, BitVec.toNat_ofNat]; exact Nat.mod_eq_of_lt ha
  have h2 : (BitVec.ofInt 64 (b : Int)).toNat = b := by rw [BitVec.ofInt_natCast, BitVec.toNat_ofNat]; exact Nat.mod_eq_of_lt hb
  show IntKind.u64.wrap ((BitVec.ofInt 64 (a : Int) ||| BitVec.ofInt 64 (b : Int)).toNat : Int) = _
  rw [BitVec.toNat_or, h1, h2, wrap_u64n _ (Nat.or_lt_two_pow ha hb)]
theorem pow_cast (n : Nat) : ((2 : Int) ^ n) = ((2 ^ n : Nat) : Int) := by simp
theorem pow_lt64 (n : Nat) (h : n < 64) : 2 ^ n < 18446744073709551616 := Nat.pow_lt_pow_right (a := 2) (n := 64) (by decide) h
set_option maxHeartbeats 400000 in
theorem Below_any (n : Nat) (w : World) (hn : n ≤ 60) :
    Calls Tryd.prog 66 #[.int .i64 n] w fun e w' => e = .returned (.int .u64 ((2 ^ n - 1 : Nat) : Int)) ∧ w = w' := by
  go_enter Tryd.func66, Tryd.ntmps66
  go_wp2
  go_ret
  have h1 := pow_lt64 n (by omega)
  have h0 := Nat.two_pow_pos n
  refine ⟨ret_int ?_, rfl⟩
  rw [pow_cast, wrap_u64n _ h1]
  have e : ((2 ^ n : Nat) : Int) - 1 = ((2 ^ n - 1 : Nat) : Int) := by omega
  rw [e, wrap_u64n _ (by omega)]
set_option maxHeartbeats 400000 in
theorem With_any (S x : Nat) (w : World) (hS : S < 2 ^ 64) (hx : x < 64) :
    Calls Tryd.prog 79 #[.int .u64 S, .int .i64 x] w fun e w' => e = .returned (.int .u64 ((S ||| 2 ^ x : Nat) : Int)) ∧ w = w' := by
  go_enter Tryd.func79, Tryd.ntmps79
  go_wp2
  go_ret
  have h1 := pow_lt64 x hx
  refine ⟨ret_int ?_, rfl⟩
  rw [pow_cast, wrap_u64n _ h1, bits_or_n _ _ hS (by omega)]
set_option maxHeartbeats 400000 in
theorem Has_any (S x : Nat) (w : World) (hS : S < 2 ^ 64) (hx : x < 64) :
    Calls Tryd.prog 99 #[.int .u64 S, .int .i64 x] w fun e w' => e = .returned (.bool (S.testBit x)) ∧ w = w' := by
  go_enter Tryd.func99, Tryd.ntmps99
  go_wp2
  go_ret
  refine ⟨ret_bool ?_, rfl⟩
  have hd : (S : Int) / 2 ^ x = ((S / 2 ^ x : Nat) : Int) := by simp
  have hlt : S / 2 ^ x < 2 ^ 64 := Nat.lt_of_le_of_lt (Nat.div_le_self _ _) hS
  rw [hd, show (1 : Int) = ((1 : Nat) : Int) from rfl, bits_and_n _ 1 hlt (by decide), Nat.and_one_is_mod]
  rw [Nat.testBit_eq_decide_div_mod_eq]
  by_cases h : S / 2 ^ x % 2 = 1
  · simp [h]
  · simp [h]; omega
end Go.Proofs.YtlpfglkopnmlnaaDoor
namespace Go.Proofs.YtlpfglkopnmlnaaDoor
open Go.RowKit
theorem s12_fact (S c m k : Nat) (hS : S < 18446744073709551616) (hm : m < 18446744073709551616) (hk : k = ((S / c) &&& m) + (S &&& m)) (hlt : k < 18446744073709551616) :
    IntKind.u64.wrap (bits .and .u64 ((S : Int) / (c : Int)) (m : Int) + bits .and .u64 (S : Int) (m : Int)) = (k : Int) := by
  have hd : (S : Int) / (c : Int) = ((S / c : Nat) : Int) := by simp
  have hlt2 : S / c < 2 ^ 64 := Nat.lt_of_le_of_lt (Nat.div_le_self _ _) hS
  rw [hd, bits_and_n _ m hlt2 hm, bits_and_n _ m hS hm, hk]
  have e : (((S / c &&& m : Nat) : Int) + ((S &&& m : Nat) : Int)) = (((S / c &&& m) + (S &&& m) : Nat) : Int) := by simp
  rw [e, wrap_u64n _ (by rw [← hk]; exact hlt)]
theorem s3_fact (S m k : Nat) (hS : S / 16 + S < 18446744073709551616) (hm : m < 18446744073709551616) (hk : k = (S / 16 + S) &&& m) :
    bits .and .u64 (IntKind.u64.wrap ((S : Int) / 16 + (S : Int))) (m : Int) = (k : Int) := by
  have hd : (S : Int) / 16 + (S : Int) = ((S / 16 + S : Nat) : Int) := by simp
  rw [hd, wrap_u64n _ hS, bits_and_n _ m hS hm, hk]
theorem s4_fact (S c k : Nat) (hk : k = (S + S / c) % 18446744073709551616) :
    IntKind.u64.wrap ((S : Int) + (S : Int) / (c : Int)) = (k : Int) := by
  have hd : (S : Int) + (S : Int) / (c : Int) = ((S + S / c : Nat) : Int) := by simp
  have e0 : ∀ n : Int, IntKind.u64.wrap n = n % 18446744073709551616 := fun n => by simp [IntKind.wrap, IntKind.signed, IntKind.bits]
  rw [hd, e0, hk]; simp
theorem and_low (a : Nat) (ha : a < 18446744073709551616) : bits .and .i64 (wrap64 (a : Int)) 127 = ((a &&& 127 : Nat) : Int) := by
  have h1 : (BitVec.ofInt 64 (wrap64 (a : Int))).toNat = a := by
    rw [BitVec.toNat_ofInt]
    unfold wrap64
    omega
  have h2 : (BitVec.ofInt 64 127).toNat = 127 := by decide
  show IntKind.i64.wrap ((BitVec.ofInt 64 (wrap64 (a : Int)) &&& BitVec.ofInt 64 127).toNat : Int) = _
  rw [BitVec.toNat_and, h1, h2]
  have h3 : a &&& 127 ≤ 127 := Nat.and_le_right
  rw [IntKind.wrap_i64]
  omega
/-- Each sum of two halves of a mask fits. -/
theorem s_lt (a b m : Nat) (hm : m ≤ 6148914691236517205) : (a &&& m) + (b &&& m) < 18446744073709551616 := by
  have h1 : a &&& m ≤ m := Nat.and_le_right
  have h2 : b &&& m ≤ m := Nat.and_le_right
  omega
set_option maxHeartbeats 400000 in
theorem OnesCount64_any (S : Nat) (w : World) (hS : S < 18446744073709551616) :
    Calls Tryd.prog 97 #[.int .u64 S] w fun e w' => e = .returned (.int .i64 ((elems S).length : Nat)) ∧ w = w' := by
  obtain ⟨a1, H1⟩ : ∃ a, Hid (a = s1 S) := ⟨_, rfl⟩
  obtain ⟨a2, H2⟩ : ∃ a, Hid (a = s2 a1) := ⟨_, rfl⟩
  obtain ⟨a3, H3⟩ : ∃ a, Hid (a = s3 a2) := ⟨_, rfl⟩
  obtain ⟨a4, H4⟩ : ∃ a, Hid (a = s4 a3) := ⟨_, rfl⟩
  obtain ⟨a5, H5⟩ : ∃ a, Hid (a = s5 a4) := ⟨_, rfl⟩
  obtain ⟨a6, H6⟩ : ∃ a, Hid (a = s6 a5) := ⟨_, rfl⟩
  have hsw : Hid (a6 &&& 127 = (elems S).length) := by
    have := swar_eq S hS
    unfold swar at this
    rw [← H1.out, ← H2.out, ← H3.out, ← H4.out, ← H5.out, ← H6.out] at this
    exact this
  have f1 : IntKind.u64.wrap (bits .and .u64 ((S : Int) / 2) 6148914691236517205 + bits .and .u64 (S : Int) 6148914691236517205) = (a1 : Int) :=
    s12_fact S 2 6148914691236517205 a1 hS (by decide) (by rw [H1.out]; unfold s1 m0; rw [Nat.shiftRight_eq_div_pow]) (by rw [H1.out]; exact s_lt _ _ _ (by decide))
  have l1 : a1 < 18446744073709551616 := by rw [H1.out]; exact s_lt _ _ _ (by decide)
  have f2 : IntKind.u64.wrap (bits .and .u64 ((a1 : Int) / 4) 3689348814741910323 + bits .and .u64 (a1 : Int) 3689348814741910323) = (a2 : Int) :=
    s12_fact a1 4 3689348814741910323 a2 l1 (by decide) (by rw [H2.out]; unfold s2 m1; rw [Nat.shiftRight_eq_div_pow]) (by rw [H2.out]; exact s_lt _ _ _ (by decide))
  have l2 : a2 / 16 + a2 < 18446744073709551616 := by
    have h1 : (a1 >>> 2) &&& m1 ≤ m1 := Nat.and_le_right
    have h2 : a1 &&& m1 ≤ m1 := Nat.and_le_right
    have h3 : a2 ≤ m1 + m1 := by rw [H2.out]; unfold s2; omega
    unfold m1 at h3; omega
  have f3 : bits .and .u64 (IntKind.u64.wrap ((a2 : Int) / 16 + (a2 : Int))) 1085102592571150095 = (a3 : Int) :=
    s3_fact a2 1085102592571150095 a3 l2 (by decide) (by rw [H3.out]; unfold s3 m2; rw [Nat.shiftRight_eq_div_pow])
  have f4 : IntKind.u64.wrap ((a3 : Int) + (a3 : Int) / 256) = (a4 : Int) := s4_fact a3 256 a4 (by rw [H4.out]; unfold s4; rw [Nat.shiftRight_eq_div_pow])
  have f5 : IntKind.u64.wrap ((a4 : Int) + (a4 : Int) / 65536) = (a5 : Int) := s4_fact a4 65536 a5 (by rw [H5.out]; unfold s5; rw [Nat.shiftRight_eq_div_pow])
  have f6 : IntKind.u64.wrap ((a5 : Int) + (a5 : Int) / 4294967296) = (a6 : Int) := s4_fact a5 4294967296 a6 (by rw [H6.out]; unfold s6; rw [Nat.shiftRight_eq_div_pow])
  clear l1 l2 hS
  go_enter Tryd.func97, Tryd.ntmps97
  go_wp2
  go_ret
  refine ⟨ret_int (k := .i64) (a := bits .and .i64 (wrap64 (a6 : Int)) 127) ?_, rfl⟩
  rw [and_low a6 (by rw [H6.out]; unfold s6; omega), hsw.out]
/-- The table of the library's, in its variable. -/
def Tab (w : World) : Prop := ∀ j, j < 64 → w.cell? ⟨0, j, none⟩ = some (.int .u8 (Lib.deBruijn64tab.getD j 0))
theorem tz_key (x a : Nat) (hx : x < 18446744073709551616) (hx0 : x ≠ 0) (hlow : x &&& (18446744073709551616 - x) = a) :
    IntKind.u64.wrap (bits BinOp.and IntKind.u64 (x : Int) (IntKind.u64.wrap (-(x : Int))) * 285870213051353865) / 288230376151711744 = ((a * 285870213051353865 % 18446744073709551616 / 288230376151711744 : Nat) : Int) := by
  have e0 : ∀ n : Int, IntKind.u64.wrap n = n % 18446744073709551616 := fun n => by simp [IntKind.wrap, IntKind.signed, IntKind.bits]
  have e1 : IntKind.u64.wrap (-(x : Int)) = ((18446744073709551616 - x : Nat) : Int) := by rw [e0]; omega
  rw [e1, bits_and_n x _ hx (by show _ < 18446744073709551616; omega), hlow, e0]
  omega
set_option maxHeartbeats 1000000 in
theorem tz_core (x k idx : Nat) (w : World) (hx0 : ((x : Int) == 0) = false)
    (key : IntKind.u64.wrap (bits BinOp.and IntKind.u64 (x : Int) (IntKind.u64.wrap (-(x : Int))) * 285870213051353865) / 288230376151711744 = (idx : Int))
    (hi : idx < 64) (hk : k < 64) (hcell : w.cell? ⟨0, idx, none⟩ = some (.int .u8 k)) :
    Calls Tryd.prog 100 #[.int .u64 x] w fun e w' => e = .returned (.int .i64 k) ∧ w = w' := by
  go_enter Tryd.func100, Tryd.ntmps100
  go_wp2_with (simp only [key])
  go_ret
  exact ⟨rfl, rfl⟩
theorem TrailingZeros64_any (x : Nat) (hx : x < 18446744073709551616) (h0 : x ≠ 0) (w : World) (hT : Tab w) :
    Calls Tryd.prog 100 #[.int .u64 x] w fun e w' => e = .returned (.int .i64 (Lib.ctz 64 x)) ∧ w = w' := by
  obtain ⟨hlow, hk⟩ := Lib.lowest_bit 64 x h0 hx
  obtain ⟨hi, htab⟩ := Lib.deBruijn64_at _ hk
  have hcell := hT _ hi
  rw [htab] at hcell
  exact tz_core x _ _ w (by simp; omega) (tz_key x _ hx h0 hlow) hi hk hcell
theorem Tab.below {w w' : World} {B : Nat} (h : Tab w) (hb : Below B w w') (hB : 0 < B) : Tab w' :=
  fun j hj => (hb.cell (p := ⟨0, j, none⟩) hB).trans (h j hj)
theorem Tab.lt {w : World} (h : Tab w) : 0 < w.heap.size := World.block_lt_of_cell? _ _ (h 0 (by decide))
theorem Tab.on {w w' : World} (h : Tab w) (hb : Below w.heap.size w w') : Tab w' := h.below hb h.lt
set_option maxHeartbeats 400000 in
theorem Size_any (S : Nat) (w : World) (hS : S < 18446744073709551616) :
    Calls Tryd.prog 67 #[.int .u64 S] w fun e w' => e = .returned (.int .i64 ((elems S).length : Nat)) ∧ w = w' := by
  go_enter Tryd.func67, Tryd.ntmps67
  go_wp2_with (go_at_call 97; refine (OnesCount64_any S _ hS).mono ?_; rintro e w' ⟨rfl, rfl⟩)
  go_ret
  exact ⟨rfl, rfl⟩
/-- The set of a list. -/
def ofList (l : List Int) : Nat := l.foldl (fun S x => S ||| 2 ^ x.toNat) 0
theorem ofList_snoc (l : List Int) (k : Nat) (hk : k < l.length) : ofList (l.take (k + 1)) = ofList (l.take k) ||| 2 ^ (l.getD k 0).toNat := by
  unfold ofList
  rw [List.take_succ_eq_append_getElem hk, List.foldl_append]
  simp [List.getD_eq_getElem?_getD, List.getElem?_eq_getElem hk]
theorem foldl_or_lt (n : Nat) (hn : n ≤ 64) : ∀ (l : List Int) (S : Nat), S < 2 ^ n → (∀ x ∈ l, 0 ≤ x ∧ x < n) → l.foldl (fun S x => S ||| 2 ^ x.toNat) S < 2 ^ n
  | [], S, hS, _ => hS
  | x :: l, S, hS, h => foldl_or_lt n hn l _ (with_lt S _ n hS (by have := h x (by simp); omega)) (fun y hy => h y (List.mem_cons_of_mem _ hy))
theorem ofList_lt (n : Nat) (hn : n ≤ 64) (l : List Int) (h : ∀ x ∈ l, 0 ≤ x ∧ x < n) : ofList l < 2 ^ n := foldl_or_lt n hn l 0 (Nat.two_pow_pos n) h
theorem mem_getD {l : List Int} {k : Nat} (hk : k < l.length) : l.getD k 0 ∈ l := by
  have e : l.getD k 0 = l[k] := by simp [List.getD_eq_getElem?_getD, List.getElem?_eq_getElem hk]
  rw [e]; exact List.getElem_mem _
set_option maxHeartbeats 400000 in
theorem Of_any (v : Value) (l : List Int) (w : World) (h : Ints w v l) (hl : ∀ x ∈ l, 0 ≤ x ∧ x < 64) :
    Calls Tryd.prog 95 #[v] w fun e w' => e = .returned (.int .u64 (ofList l : Nat)) ∧ w = w' := by
  obtain ⟨A, cap, rfl, hn, hc⟩ := h
  unfold big at hn
  go_enter Tryd.func95, Tryd.ntmps95
  go_wp2
  go_loop [3, 8] (fun S i => ∃ k : Nat, k ≤ l.length ∧ i = .int .i64 k ∧ S = .int .u64 (ofList (l.take k) : Nat)) (fun _ i => l.length - (intOf i).toNat)
  case atStart => exact ⟨0, Nat.zero_le _, rfl, rfl⟩
  case round =>
    obtain ⟨k, hk, rfl, rfl⟩ := hrel
    by_cases hlt : k < l.length
    · obtain ⟨b, off, hA, hcell⟩ := hc k hlt
      subst hA
      have Hs := hid (ofList_snoc l k hlt)
      have hS := ofList_lt 64 (by decide) (l.take k) (fun x hx => hl x (List.mem_of_mem_take hx))
      have hx := hl _ (mem_getD hlt)
      clear hc hl
      generalize ofList (l.take k) = S at *
      generalize l.getD k 0 = x at *
      obtain ⟨xn, rfl⟩ := Int.eq_ofNat_of_zero_le hx.1
      rw [Int.toNat_natCast] at Hs
      go_wp2_with (go_at_call 79; refine (With_any S xn _ hS (by omega)).mono ?_; rintro e w' ⟨rfl, rfl⟩)
      go_round
      case rel => exact ⟨k + 1, by omega, by go_num, by rw [Hs.out]⟩
      case measure => simp [intOf]; omega
    · go_wp2
      go_ret
      exact ⟨ret_int (by rw [List.take_of_length_le (by omega)]), rfl⟩
end Go.Proofs.YtlpfglkopnmlnaaDoor
namespace Go.Proofs.YtlpfglkopnmlnaaDoor
open Go.RowKit Go.Deep Go.ChangeShapes Go.WideShapes
section
variable {H : Type} {enc : TypeId × Value → H} {W : World} {base : Nat}
theorem weightsAll_mem {P : Program} {e : TypeId} : ∀ {l : List (DataW H)} {d : DataW H}, d ∈ l → ∀ n ∈ d.weights P e, n ∈ DataW.weightsAll P e l
  | [], _, h => by cases h
  | x :: r, d, h => by
    intro n hn
    rw [DataW.weightsAll, List.mem_append]
    rcases List.mem_cons.1 h with rfl | h'
    · exact .inl hn
    · exact .inr (weightsAll_mem h' n hn)
theorem bytes_int : Tryd.prog.bytesOf 3 = 8 := by kernel_rfl
theorem bytes_row : Tryd.prog.bytesOf 41 = 24 := by kernel_rfl
theorem cells_int : Tryd.prog.cellsOf 3 = 1 := by kernel_rfl
theorem cells_row : Tryd.prog.cellsOf 41 = 1 := by kernel_rfl
theorem cells_auto : Tryd.prog.cellsOf 24 = 1 := by kernel_rfl
theorem reach_big {n : Nat} (h : n * 8 ≤ reachBytes) : n ≤ big := by unfold reachBytes at h; unfold big; omega
theorem add_spot {a : Addr} {i : Nat} {v : Value} (h : W.cell? (a.add i) = some v) : a.add i = ⟨a.block, a.off + i, none⟩ := by
  by_cases h0 : i = 0
  · subst h0
    simp only [Addr.add, if_true] at h ⊢
    obtain ⟨b, o, sp⟩ := a
    obtain rfl := cell_spot h
    rfl
  · simp [Addr.add, h0]
theorem row_ints {A : Option Addr} {L C : Nat} {zs : List Int} (hl : L ≤ C) (hz : zs.length = C) (hn : A = none → C = 0) (hc : ∀ a, A = some a → ∀ c, c < C → W.cell? (a.add c) = some (.int .i64 (zs.getD c 0))) (hb : C ≤ big) : Ints W (.slice A L C) (zs.take L) := by
  have hll : (zs.take L).length = L := by simp; omega
  refine ⟨A, C, by rw [hll], by omega, fun i hi => ?_⟩
  rw [hll] at hi
  cases A with
  | none => have := hn rfl; omega
  | some a =>
    have h1 := hc a rfl i (by omega)
    have h2 := add_spot h1
    refine ⟨a.block, a.off, ?_, ?_⟩
    · have h0 := add_spot (hc a rfl 0 (by omega))
      simp only [Addr.add, if_true, Nat.add_zero] at h0
      rw [h0]
    · rw [h2] at h1
      rw [h1]
      congr 2
      simp [List.getD_eq_getElem?_getD, List.getElem?_take, hi]
theorem ints_of_trod {fuel : Nat} {c : Value} {x : DataW H × List MemPlace} (h : DataW.trod enc Tryd.prog W base (fun _ => true) true fuel 41 [c] = some x) (hw : ∀ n ∈ x.1.weights Tryd.prog 41, n ≤ reachBytes) : ∃ l, Ints W c l := by
  rcases open_ints Tryd.underlying41 Tryd.underlying3 cells_int h with ⟨hc, _⟩ | ⟨a, len, cap, zs, hc, _, hl, _, hz, rfl, hcell, _⟩
  · obtain rfl : c = .slice none 0 0 := by simpa using hc
    exact ⟨[], none, 0, rfl, by simp, fun i hi => by simp at hi⟩
  · obtain rfl : c = .slice (some a) len cap := by simpa using hc
    simp only [if_true] at hz
    have hb := hw ((List.length (lits .i64 (zs.take len) : List (DataW H)) + List.length (lits .i64 (zs.drop len) : List (DataW H))) * Tryd.prog.bytesOf 3) (by simp [DataW.weights, Tryd.underlying41])
    rw [bytes_int] at hb
    simp only [lits, List.length_map, List.length_take, List.length_drop] at hb
    refine ⟨zs.take len, row_ints hl hz (fun h => by cases h) (fun a' ha c hc' => ?_) (reach_big (by omega))⟩
    cases ha
    exact hcell c (by omega)
theorem rows_of_trod {fuel : Nat} {c : Value} {x : DataW H × List MemPlace} (h : DataW.trod enc Tryd.prog W base (fun _ => true) true fuel 22 [c] = some x) (hw : ∀ n ∈ x.1.weights Tryd.prog 22, n ≤ reachBytes) : ∃ m, Rows W c m := by
  rcases open_int_rows Tryd.underlying22 Tryd.underlying41 Tryd.underlying3 cells_row cells_int h with ⟨hc, _⟩ | ⟨a, len, cap, A, L, C, Z, hc, _, hl, _, rfl, hr⟩
  · obtain rfl : c = .slice none 0 0 := by simpa using hc
    exact ⟨[], none, 0, rfl, by simp, fun i hi => by simp at hi⟩
  · obtain rfl : c = .slice (some a) len cap := by simpa using hc
    have hlen : ((List.range len).map fun r => (Z r).take (L r)).length = len := by simp
    have hout := hw ((len + (cap - len)) * Tryd.prog.bytesOf 41) (by simp [DataW.weights, Tryd.underlying22])
    rw [bytes_row] at hout
    have hrow : ∀ r, r < len → C r ≤ big := by
      intro r hr'
      obtain ⟨_, hLC, _, hz, _, hn, _⟩ := hr r (by omega)
      cases hA : A r with
      | none => rw [hn hA]; exact Nat.zero_le _
      | some a' =>
        have hm : (intRow .i64 (A r) (L r) (Z r) : DataW H) ∈ (List.range len).map fun r => (intRow .i64 (A r) (L r) (Z r) : DataW H) := List.mem_map.2 ⟨r, by simpa using hr', rfl⟩
        have hb := hw ((List.length (lits .i64 ((Z r).take (L r)) : List (DataW H)) + List.length (lits .i64 ((Z r).drop (L r)) : List (DataW H))) * Tryd.prog.bytesOf 3) (by
          rw [DataW.weights, Tryd.underlying22]
          refine List.mem_cons_of_mem _ (List.mem_append_left _ (weightsAll_mem hm _ ?_))
          simp [intRow, hA, DataW.weights, Tryd.underlying41])
        rw [bytes_int] at hb
        simp only [lits, List.length_map, List.length_take, List.length_drop] at hb
        exact reach_big (by omega)
    refine ⟨(List.range len).map fun r => (Z r).take (L r), some a, cap, by rw [hlen], by rw [hlen]; unfold reachBytes at hout; unfold big; omega, fun i hi => ?_⟩
    rw [hlen] at hi
    obtain ⟨hcell, hLC, _, hz, _, hn, hcc⟩ := hr i (by omega)
    have h2 := add_spot hcell
    have h00 := add_spot (hr 0 (by omega)).1
    simp only [Addr.add, if_true, Nat.add_zero] at h00
    refine ⟨a.block, a.off, .slice (A i) (L i) (C i), by rw [h00], by rw [h2] at hcell; exact hcell, ?_⟩
    have e1 : ((List.range len).map fun r => (Z r).take (L r)).getD i [] = (Z i).take (L i) := by simp [List.getD_eq_getElem?_getD, hi]
    rw [e1]
    exact row_ints hLC hz hn (fun a' ha c hc' => (hcc a' ha).2 c hc') (hrow i hi)
end
end Go.Proofs.YtlpfglkopnmlnaaDoor
namespace Go.Proofs.YtlpfglkopnmlnaaDoor
open Go.RowKit Go.Shelf
/-- A set of blocks. -/
abbrev Blocks := Nat → Prop
/-- Only the blocks of X may have been turned; new ones may have come. -/
structure Turn (X : Blocks) (W W' : World) : Prop where
  os : W'.os = W.os
  tape : W'.tape = W.tape
  output : W'.output = W.output
  size : W.heap.size ≤ W'.heap.size
  block : ∀ k, k < W.heap.size → ¬ X k → W'.heap[k]? = W.heap[k]?
theorem Turn.refl (X : Blocks) (W : World) : Turn X W W := ⟨rfl, rfl, rfl, Nat.le_refl _, fun _ _ _ => rfl⟩
theorem Turn.trans {X Y : Blocks} {A B C : World} (h : Turn X A B) (k : Turn Y B C) (hXY : ∀ i, Y i → X i ∨ A.heap.size ≤ i) : Turn X A C :=
  ⟨k.os.trans h.os, k.tape.trans h.tape, k.output.trans h.output, Nat.le_trans h.size k.size, fun i hi hX => (k.block i (Nat.lt_of_lt_of_le hi h.size) (fun hY => by
    rcases hXY i hY with h1 | h1
    · exact hX h1
    · omega)).trans (h.block i hi hX)⟩
theorem Turn.of_below {X : Blocks} {W W' : World} (h : Below W.heap.size W W') : Turn X W W' := ⟨h.os, h.tape, h.output, h.size, fun k hk _ => h.block k hk⟩
/-- What a round keeps: whatever lies below n₀, and the iterator's own blocks. -/
structure Keep (n₀ : Nat) (X : Blocks) (W W' : World) : Prop where
  os : W'.os = W.os
  tape : W'.tape = W.tape
  output : W'.output = W.output
  size : W.heap.size ≤ W'.heap.size
  block : ∀ k, k < W.heap.size → (k < n₀ ∨ X k) → W'.heap[k]? = W.heap[k]?
theorem Keep.refl (n₀ : Nat) (X : Blocks) (W : World) : Keep n₀ X W W := ⟨rfl, rfl, rfl, Nat.le_refl _, fun _ _ _ => rfl⟩
theorem Keep.trans {n₀ : Nat} {X : Blocks} {A B C : World} (h : Keep n₀ X A B) (k : Keep n₀ X B C) : Keep n₀ X A C :=
  ⟨k.os.trans h.os, k.tape.trans h.tape, k.output.trans h.output, Nat.le_trans h.size k.size, fun i hi hX => (k.block i (Nat.lt_of_lt_of_le hi h.size) hX).trans (h.block i hi hX)⟩
theorem Keep.of_below {n₀ : Nat} {X : Blocks} {W W' : World} (h : Below W.heap.size W W') : Keep n₀ X W W' := ⟨h.os, h.tape, h.output, h.size, fun k hk _ => h.block k hk⟩
theorem Keep.below {n₀ : Nat} {X : Blocks} {W W' : World} (h : Keep n₀ X W W') (hn : n₀ ≤ W.heap.size) : Below n₀ W W' := ⟨h.os, h.tape, h.output, h.size, fun k hk => h.block k (Nat.lt_of_lt_of_le hk hn) (.inl hk)⟩
/-- A step that turns one block at most, which is neither. -/
theorem Keep.of_grownBy {n₀ : Nat} {X : Blocks} {W W' : World} {row : Option Nat} (hg : W.grownBy W' row) (hr : ∀ k, row = some k → n₀ ≤ k ∧ ¬ X k) : Keep n₀ X W W' :=
  ⟨hg.os, hg.tape, hg.output, hg.size, fun k hk hX => hg.block k hk (fun e => by
    obtain ⟨h1, h2⟩ := hr k e.symm
    rcases hX with h | h
    · omega
    · exact h2 h)⟩
/-- The caller's invariant minds neither a turn of the iterator's blocks, nor new ones, nor a turn of a block of book-keeping. -/
def Stable (B : Nat) {β : Type} (I : Blocks → β → World → Prop) : Prop :=
  ∀ X X' s W W', I X s W → W'.os = W.os → W'.tape = W.tape → W'.output = W.output → W.heap.size ≤ W'.heap.size →
    (∀ k o, W.heap[k]? = some o → ¬ X k → (k < B ∨ o.isCells = true) → W'.heap[k]? = some o) → (∀ k, X' k → X k ∨ W.heap.size ≤ k) → I X' s W'
/-- .. as the iterator is told of it. -/
def Minds {β : Type} (J : Blocks → β → World → Prop) : Prop :=
  ∀ X X' s W W', J X s W → Turn X W W' → (∀ k, X' k → X k ∨ W.heap.size ≤ k) → J X' s W'
/-- WHAT AN ITERATOR PROMISES: gf with what comes before and behind yield among its arguments; encs: yield's arguments; n₀: what it reads lies below; G: what holds of an element while its round begins. -/
def SeqX {α : Type} (gf : Nat) (fb lb : Array Value) (encs : α → Array Value) (n₀ : Nat) (G : Blocks → α → World → Prop) (S Sp : List α → Prop) (w0 : World) : Prop :=
  ∀ (l : Nat) (J Jx : Blocks → List α → World → Prop) (W : World), Below w0.heap.size w0 W → Minds J → Minds Jx →
    (∀ X pre x W1, (∀ k, X k → k < W1.heap.size) → J X pre W1 → G X x W1 → Sp (pre ++ [x]) → YieldAt Fence.wide 0 Tryd.prog l (encs x) W1 fun e W' =>
      ((e = .returned (.bool true) ∧ J X (pre ++ [x]) W') ∨ (e = .returned (.bool false) ∧ Jx X (pre ++ [x]) W')) ∧ Keep n₀ X W1 W') →
    J (fun _ => False) [] W →
    Calls Tryd.prog gf ((fb ++ #[.func (.yield l) #[] #[]]) ++ lb) W fun e W' => (∃ v, e = .returned v) ∧ ((∃ X xs, S xs ∧ J X xs W') ∨ (∃ X pre, Sp pre ∧ Jx X pre W'))
/-- How a round may be left. -/
def postX {α : Type} (B n₀ : Nat) (I : Blocks → List α → World → Prop) (Ix : Code → Blocks → List α → World → Prop) (X : Blocks) (xs : List α) (W : World) : Exit → Act → World → Prop
  | .normal, _, W' => KeepsFrom B W W' ∧ Keep n₀ X W W' ∧ I X xs W'
  | .ret, _, W' => KeepsFrom B W W' ∧ Keep n₀ X W W' ∧ Ix .ret X xs W'
  | .exit id, _, W' => KeepsFrom B W W' ∧ Keep n₀ X W W' ∧ Ix (.exit id) X xs W'
  | .goto t, _, W' => KeepsFrom B W W' ∧ Keep n₀ X W W' ∧ Ix (.goto t) X xs W'
  | .panic _, _, _ => False
  | .outgrown, _, _ => False
theorem putObj_book (W : World) (l : Nat) (o' : Obj) : (W.putObj l o').os = W.os ∧ (W.putObj l o').tape = W.tape ∧ (W.putObj l o').output = W.output ∧ W.heap.size ≤ (W.putObj l o').heap.size :=
  ⟨rfl, rfl, rfl, by simp⟩
theorem Stable.put {B : Nat} {β : Type} {I : Blocks → β → World → Prop} (h : Stable B I) {X : Blocks} {s : β} {W : World} {l : Nat} {o : Obj} (o' : Obj) (hs : I X s W) (hB : B ≤ l) (hl : W.heap[l]? = some o) (ho : o.isCells = false) : I X s (W.putObj l o') := by
  obtain ⟨a, b, c, d⟩ := putObj_book W l o'
  refine h X X s W _ hs a b c d (fun k ok hk _ hc => ?_) (fun k hk => .inl hk)
  by_cases e : k = l
  · subst e
    rw [hl] at hk; cases hk
    rcases hc with h1 | h1
    · omega
    · rw [ho] at h1; cases h1
  · exact (World.putObj_heap_other e).trans hk
theorem Stable.new {B : Nat} {β : Type} {I : Blocks → β → World → Prop} (h : Stable B I) {X : Blocks} {s : β} {W : World} (o : Obj) (hs : I X s W) : I X s (W.alloc o) :=
  h X X s W _ hs rfl rfl rfl (by simp) (fun k ok hk _ _ => (Below.heap_alloc W o k (Array.getElem?_eq_some_iff.1 hk).1).trans hk) (fun k hk => .inl hk)
theorem keep_put {n₀ : Nat} {X : Blocks} {W : World} {l : Nat} (o' : Obj) (hn : n₀ ≤ l) (hX : ¬ X l) : Keep n₀ X W (W.putObj l o') := by
  obtain ⟨a, b, c, d⟩ := putObj_book W l o'
  refine ⟨a, b, c, d, fun k hk hc => World.putObj_heap_other (fun e => ?_)⟩
  subst e
  rcases hc with h | h
  · omega
  · exact hX h
/-- THE STATEMENT 'for .. := range f { .. }' over an iterator that keeps its promise. -/
theorem range_law {α : Type} {g : Operand} {ps : Array Tmp} {assign body : Code} {Q : Exit → Act → World → Prop} {a : Act} {w : World} {gf : Nat} {fb lb : Array Value}
    (hg : a.eval g = .func (.func gf) fb lb) (eg : ∀ args w, (callFunc gf args).run Tryd.prog w = .ok (.enter gf args) w)
    {encs : α → Array Value} {n₀ : Nat} {G : Blocks → α → World → Prop} {S Sp : List α → Prop} {w0 : World} (hseq : SeqX gf fb lb encs n₀ G S Sp w0)
    (hG : ∀ X x W W', G X x W → Keep n₀ X W W' → G X x W') (hn : n₀ ≤ w.heap.size) (hb0 : Below w0.heap.size w0 w) (hps : ∀ x, (encs x).size = ps.size)
    (I : Blocks → List α → World → Prop) (Ix : Code → Blocks → List α → World → Prop) (hI : Stable w.heap.size I) (hIx : ∀ c, Stable w.heap.size (Ix c)) (h0 : I (fun _ => False) [] w)
    (Ax : α → Act → World → Prop) (hAx : ∀ x a', Stable w.heap.size (fun _ (_ : Unit) W => Ax x a' W))
    (hassign : ∀ (l : Nat) (X : Blocks) (pre : List α) (x : α) (W : World) (K : Act → World → Prop), I X pre W → (∀ a' W', KeepsFrom w.heap.size W W' → Keep n₀ X W W' → I X pre W' → Ax x a' W' → K a' W') →
      assign.wpIn (Fence.wide.inRound l) 0 Tryd.prog (Exit.then K (fun _ _ _ => False)) { tmps := (ps.zip (encs x)).foldl (fun t (p, v) => t.setIfInBounds p v) a.tmps, defers := [] } W)
    (hbody : ∀ (l : Nat) (X : Blocks) (pre : List α) (x : α) (a' : Act) (W : World), w.heap.size ≤ l → (∃ r, W.heap[l]? = some (.loop r)) → ¬ X l → (∀ k, X k → k < W.heap.size) → I X pre W → G X x W → Ax x a' W → Sp (pre ++ [x]) →
      body.wpIn (Fence.wide.inRound l) 0 Tryd.prog (postX w.heap.size n₀ I Ix X (pre ++ [x]) W) a' W)
    (hdone : ∀ (D : Nat) (X : Blocks) (xs : List α) (W : World), w.heap.size ≤ D → S xs → I X xs W → W.heap[D]? = some (.deferred (some [])) → Q .normal { a with defers := { target := .collected D, args := #[] } :: a.defers } W)
    (hstop : ∀ (D : Nat) (X : Blocks) (c : Code) (pre : List α) (W : World), w.heap.size ≤ D → Sp pre → Ix c X pre W → W.heap[D]? = some (.deferred (some [])) → c.wpIn Fence.wide 0 Tryd.prog Q { a with defers := { target := .collected D, args := #[] } :: a.defers } W) :
    (Code.rangeFunc g ps assign body).wpIn Fence.wide 0 Tryd.prog Q a w := by
  refine wpIn_rangeFunc ?_
  intro fn hfn
  obtain ⟨rec, hrec⟩ : ∃ rec : LoopState → Option Code → Loop, rec = fun st pe => { state := st, pending := pe, fn, tmps := a.tmps, params := ps, assign, body, defers := w.heap.size } := ⟨_, rfl⟩
  obtain ⟨W1, hW1⟩ : ∃ W1, (w.alloc (.deferred (some []))).alloc (.loop (rec .ready none)) = W1 := ⟨_, rfl⟩
  have hL1 : W1.heap[w.heap.size + 1]? = some (.loop (rec .ready none)) := by
    rw [← hW1]; have := World.alloc_heap_new (w.alloc (.deferred (some []))) (.loop (rec .ready none)); rwa [World.size_alloc] at this
  have hK1 : W1.heap[w.heap.size]? = some (.deferred (some [])) := by
    rw [← hW1]; exact (Below.heap_alloc _ _ _ (by simp)).trans (World.alloc_heap_new w _)
  have hI1 : I (fun _ => False) [] W1 := by rw [← hW1]; exact hI.new _ (hI.new _ h0)
  have hb1 : Below w0.heap.size w0 W1 := by
    rw [← hW1]; exact hb0.trans ((((Below.refl _ w).alloc (Nat.le_refl _) _).alloc (by simp) _).mono hb0.size)
  refine ⟨w.heap.size + 1, [{ target := .collected w.heap.size, args := #[] }], W1, { target := .fn (.func gf) lb, args := fb ++ #[.func (.yield (w.heap.size + 1)) #[] #[]] }, W1, gf,
    (fb ++ #[.func (.yield (w.heap.size + 1)) #[] #[]]) ++ lb, W1, ?_, ?_, fun f' _ => trivial, ?_, fun h => by simp [Fence.wide] at h, ?_⟩
  · rw [← hW1, hrec]; exact run_enterLoop_outer _ _ _ _ _
  · simp only [resolve, hg]
    simp [go_sem, Deferred.ofValue]
  · simp [invoke, go_sem, eg]
  · refine callsIn_wide.2 ?_
    refine (hseq (w.heap.size + 1)
      (fun X pre W => I X pre W ∧ ¬ X (w.heap.size + 1) ∧ ¬ X w.heap.size ∧ W.heap[w.heap.size + 1]? = some (.loop (rec .ready none)) ∧ W.heap[w.heap.size]? = some (.deferred (some [])))
      (fun X pre W => ∃ c, Ix c X pre W ∧ ¬ X (w.heap.size + 1) ∧ ¬ X w.heap.size ∧ W.heap[w.heap.size + 1]? = some (.loop (rec .done (some c))) ∧ W.heap[w.heap.size]? = some (.deferred (some [])))
      W1 hb1 ?_ ?_ ?_ ⟨hI1, fun h => h, fun h => h, hL1, hK1⟩).mono ?_
    · rintro X X' s A B ⟨h1, h2, h3, h4, h5⟩ ht hX
      have l4 := (Array.getElem?_eq_some_iff.1 h4).1
      refine ⟨hI X X' s A B h1 ht.os ht.tape ht.output ht.size (fun k o hk hx _ => (ht.block k (Array.getElem?_eq_some_iff.1 hk).1 hx).trans hk) hX, fun h => ?_, fun h => ?_, (ht.block _ l4 h2).trans h4, (ht.block _ (by omega) h3).trans h5⟩
      · rcases hX _ h with h | h
        · exact h2 h
        · omega
      · rcases hX _ h with h | h
        · exact h3 h
        · omega
    · rintro X X' s A B ⟨c, h1, h2, h3, h4, h5⟩ ht hX
      have l4 := (Array.getElem?_eq_some_iff.1 h4).1
      refine ⟨c, hIx c X X' s A B h1 ht.os ht.tape ht.output ht.size (fun k o hk hx _ => (ht.block k (Array.getElem?_eq_some_iff.1 hk).1 hx).trans hk) hX, fun h => ?_, fun h => ?_, (ht.block _ l4 h2).trans h4, (ht.block _ (by omega) h3).trans h5⟩
      · rcases hX _ h with h | h
        · exact h2 h
        · omega
      · rcases hX _ h with h | h
        · exact h3 h
        · omega
    · -- one round
      rintro X pre x W hXs ⟨hi, hXl, hXd, hl, hk⟩ hgx hsp
      have hy := run_yield (P := Tryd.prog) (args := encs x) hl (by rw [hrec]; exact hps x)
      rw [hrec] at hy
      refine ⟨fn, _, assign, body, hy, roundIn_of_wpIn trivial (hassign _ X pre x W _ hi ?_)⟩
      clear hy
      intro a' Wa hkfa hkpa hia hax
      have hl' := hkfa.same _ _ (by omega) hl rfl
      have hk' := hkfa.same _ _ (Nat.le_refl _) hk rfl
      have hlt := (Array.getElem?_eq_some_iff.1 hl').1
      refine ⟨_, run_beginRound hl' (by rw [hrec]), ?_⟩
      have hl2 : (Wa.putObj (w.heap.size + 1) (.loop { rec .ready none with state := .busy })).heap[w.heap.size + 1]? = some (.loop { rec .ready none with state := .busy }) := World.putObj_heap_same hlt
      have hk2 : (Wa.putObj (w.heap.size + 1) (.loop { rec .ready none with state := .busy })).heap[w.heap.size]? = some (.deferred (some [])) := (World.putObj_heap_other (by omega)).trans hk'
      have hkp2 : Keep n₀ X Wa (Wa.putObj (w.heap.size + 1) (.loop { rec .ready none with state := .busy })) := keep_put _ (by omega) hXl
      refine wpIn_mono (hbody _ X pre x a' _ (by omega) ⟨_, hl2⟩ hXl (fun k hk => by have h1 := hXs k hk; have h2 := hkpa.size; simp; omega) (hI.put _ hia (by omega) hl' rfl) (hG _ _ _ _ hgx (hkpa.trans hkp2)) ((hAx x a').put (X := X) (s := ()) _ hax (by omega) hl' rfl) hsp) ?_
      have fin : ∀ (jump : Option Code) (W3 : World), KeepsFrom w.heap.size (Wa.putObj (w.heap.size + 1) (.loop { rec .ready none with state := .busy })) W3 →
          (Instr.endRound (w.heap.size + 1) jump).run Tryd.prog W3 = .ok (.bool jump.isNone) (W3.putObj (w.heap.size + 1) (.loop (rec (if jump.isNone then .ready else .done) jump))) ∧
          W3.heap[w.heap.size + 1]? = some (.loop { rec .ready none with state := .busy }) ∧
          (W3.putObj (w.heap.size + 1) (.loop (rec (if jump.isNone then .ready else .done) jump))).heap[w.heap.size + 1]? = some (.loop (rec (if jump.isNone then .ready else .done) jump)) ∧
          (W3.putObj (w.heap.size + 1) (.loop (rec (if jump.isNone then .ready else .done) jump))).heap[w.heap.size]? = some (.deferred (some [])) := fun jump W3 hk3 => by
        have hl3 := hk3.same _ _ (by omega) hl2 rfl
        have := run_endRound (P := Tryd.prog) jump hl3
        rw [hrec] at this ⊢
        exact ⟨this, by rw [hrec] at hl3; exact hl3, World.putObj_heap_same (Array.getElem?_eq_some_iff.1 hl3).1, (World.putObj_heap_other (by omega)).trans (hk3.same _ _ (Nat.le_refl _) hk2 rfl)⟩
      have kp : ∀ (W3 : World) (o : Obj), Keep n₀ X (Wa.putObj (w.heap.size + 1) (.loop { rec .ready none with state := .busy })) W3 → Keep n₀ X W (W3.putObj (w.heap.size + 1) o) := fun W3 o h3 =>
        ((hkpa.trans hkp2).trans h3).trans (keep_put _ (by omega) hXl)
      rintro e a3 W3 hp
      cases e with
      | normal =>
        obtain ⟨hk3, hkp3, hi3⟩ := hp
        obtain ⟨hr, hl3, hl4, hk4⟩ := fin none W3 hk3
        exact ⟨_, _, hr, .inl ⟨rfl, hI.put _ hi3 (by omega) hl3 rfl, hXl, hXd, hl4, hk4⟩, kp _ _ hkp3⟩
      | ret =>
        obtain ⟨hk3, hkp3, hi3⟩ := hp
        obtain ⟨hr, hl3, hl4, hk4⟩ := fin (some .ret) W3 hk3
        exact ⟨_, _, hr, .inr ⟨rfl, .ret, (hIx _).put _ hi3 (by omega) hl3 rfl, hXl, hXd, hl4, hk4⟩, kp _ _ hkp3⟩
      | exit id =>
        obtain ⟨hk3, hkp3, hi3⟩ := hp
        obtain ⟨hr, hl3, hl4, hk4⟩ := fin (some (.exit id)) W3 hk3
        exact ⟨_, _, hr, .inr ⟨rfl, .exit id, (hIx _).put _ hi3 (by omega) hl3 rfl, hXl, hXd, hl4, hk4⟩, kp _ _ hkp3⟩
      | goto t =>
        obtain ⟨hk3, hkp3, hi3⟩ := hp
        obtain ⟨hr, hl3, hl4, hk4⟩ := fin (some (.goto t)) W3 hk3
        exact ⟨_, _, hr, .inr ⟨rfl, .goto t, (hIx _).put _ hi3 (by omega) hl3 rfl, hXl, hXd, hl4, hk4⟩, kp _ _ hkp3⟩
      | panic ch => exact hp.elim
      | outgrown => exact hp.elim
    · -- behind the iterator
      rintro e W2 ⟨⟨v, rfl⟩, (⟨X, xs, hS, hi, _, _, hl, hk⟩ | ⟨X, pre, hSp, c, hi, _, _, hl, hk⟩)⟩
      · exact ⟨none, _, by have := run_endLoop (P := Tryd.prog) hl (by rw [hrec]; simp); rw [hrec] at this; exact this, hdone _ X xs _ (Nat.le_refl _) hS (hI.put _ hi (by omega) hl rfl) ((World.putObj_heap_other (by omega)).trans hk)⟩
      · exact ⟨some c, _, by have := run_endLoop (P := Tryd.prog) hl (by rw [hrec]; simp); rw [hrec] at this; exact this, hstop _ X c pre _ (Nat.le_refl _) hSp ((hIx c).put _ hi (by omega) hl rfl) ((World.putObj_heap_other (by omega)).trans hk)⟩
theorem Stable.and {B : Nat} {β : Type} {I J : Blocks → β → World → Prop} (h : Stable B I) (k : Stable B J) : Stable B (fun X s W => I X s W ∧ J X s W) :=
  fun X X' s W W' hs a b c d e f => ⟨h X X' s W W' hs.1 a b c d e f, k X X' s W W' hs.2 a b c d e f⟩
theorem stable_pure (B : Nat) {β : Type} (p : β → Prop) : Stable B (fun _ s _ => p s) := fun _ _ _ _ _ hs _ _ _ _ _ _ => hs
/-- A box that is none of the iterator's. -/
def Mine (X : Blocks) (W : World) (b : Nat) (t : TypeId) (v : Value) : Prop := Boxed W b t v ∧ ¬ X b
theorem stable_box (B b : Nat) (t : TypeId) {β : Type} (f : β → Value) : Stable B (fun X s W => Mine X W b t (f s)) := by
  rintro X X' s W W' ⟨h, hX⟩ _ _ _ _ e hX'
  refine ⟨e b _ h hX (.inr rfl), fun hb => ?_⟩
  rcases hX' b hb with h1 | h1
  · exact hX h1
  · have := h.lt; omega
/-- What lay below n₀ lies as it lay; the iterator's blocks lie beyond. -/
def Base (n₀ : Nat) (w : World) (X : Blocks) (W : World) : Prop := (∀ k, X k → n₀ ≤ k) ∧ Below n₀ w W
theorem stable_base (B n₀ : Nat) (w : World) (hB : n₀ ≤ B) (hw : n₀ ≤ w.heap.size) {β : Type} : Stable B (fun X (_ : β) W => Base n₀ w X W) := by
  rintro X X' s W W' ⟨h1, h2⟩ a b c d e hX'
  have hs := h2.size
  refine ⟨fun k hk => ?_, ⟨a.trans h2.os, b.trans h2.tape, c.trans h2.output, Nat.le_trans h2.size d, fun k hk => ?_⟩⟩
  · rcases hX' k hk with h | h
    · exact h1 k h
    · omega
  · have hlt : k < W.heap.size := by omega
    have hx : W.heap[k]? = some W.heap[k] := Array.getElem?_eq_getElem hlt
    rw [e k _ hx (fun h => by have := h1 k h; omega) (.inl (by omega)), ← hx]
    exact h2.block k hk
theorem Base.start {n₀ : Nat} {w W : World} (h : Below n₀ w W) : Base n₀ w (fun _ => False) W := ⟨fun _ h => h.elim, h⟩
theorem Base.step {n₀ : Nat} {w W W' : World} {X : Blocks} (h : Base n₀ w X W) (k : Below n₀ W W') : Base n₀ w X W' := ⟨h.1, h.2.trans k⟩
theorem Mine.cell {X : Blocks} {W : World} {b : Nat} {t : TypeId} {v : Value} (h : Mine X W b t v) : W.cell? ⟨b, 0, none⟩ = some v := h.1.cell
theorem Mine.frozen {X : Blocks} {W : World} {b : Nat} {t : TypeId} {v : Value} (h : Mine X W b t v) : W.frozen? ⟨b, 0, none⟩ = false := h.1.frozen
theorem Mine.lt {X : Blocks} {W : World} {b : Nat} {t : TypeId} {v : Value} (h : Mine X W b t v) : b < W.heap.size := h.1.lt
theorem Mine.drew {X : Blocks} {W : World} {b : Nat} {t : TypeId} {v : Value} (h : Mine X W b t v) : Mine X W.drew b t v := h
theorem Mine.below {X : Blocks} {W W' : World} {b : Nat} {t : TypeId} {v : Value} (h : Mine X W b t v) (k : Below W.heap.size W W') : Mine X W' b t v := ⟨(k.block b h.lt).trans h.1, h.2⟩
theorem Mine.set {X : Blocks} {W : World} {b : Nat} {t : TypeId} {v : Value} (v' : Value) (h : Mine X W b t v) : Mine X (W.setCell ⟨b, 0, none⟩ v') b t v' := ⟨h.1.set v', h.2⟩
theorem Mine.other {X : Blocks} {W : World} {b b' : Nat} {t : TypeId} {v : Value} (h : Mine X W b t v) (hne : b ≠ b') (u : Value) : Mine X (W.setCell ⟨b', 0, none⟩ u) b t v := ⟨h.1.other hne u, h.2⟩
theorem keep_set {n₀ : Nat} {X : Blocks} (W : World) (b : Nat) (u : Value) (hn : n₀ ≤ b) (hX : ¬ X b) : Keep n₀ X W (W.setCell ⟨b, 0, none⟩ u) :=
  Keep.of_grownBy (grownBy_setCell' W b u) (fun k e => by cases e; exact ⟨hn, hX⟩)
theorem Keep.drew {n₀ : Nat} {X : Blocks} {W W' : World} (h : Keep n₀ X W W') : Keep n₀ X W W'.drew := ⟨h.os, h.tape, h.output, h.size, h.block⟩
theorem kf_set (B : Nat) (W : World) (a : Addr) (v : Value) : KeepsFrom B W (W.setCell a v) := (KeepsOthers.setCell W a v).from B
theorem kf_drew (B : Nat) (W : World) : KeepsFrom B W W.drew := (KeepsOthers.drew W).from B
theorem kf_below {B : Nat} {W W' : World} (h : Below W.heap.size W W') : KeepsFrom B W W' := ⟨h.size, fun k _ _ hk _ => (h.block k (Array.getElem?_eq_some_iff.1 hk).1).trans hk⟩
/-- A variable that holds a slice of the call's own; neither is the iterator's. -/
def MineRow (n₀ : Nat) (X : Blocks) (W : World) (b : Nat) (t e : TypeId) (xs : List Value) : Prop :=
  ∃ v, Mine X W b t v ∧ W.ownsRow n₀ e 1 v xs.length xs ∧ ∀ j, v.ownBlock = some j → ¬ X j
theorem ownsRow_same {W W' : World} {base : Nat} {e : TypeId} {size : Nat} {v : Value} {n : Nat} {xs : List Value} (h : W.ownsRow base e size v n xs) (hs : ∀ g, v.ownBlock = some g → W'.heap[g]? = W.heap[g]?) : W'.ownsRow base e size v n xs := by
  refine ⟨h.1, ?_⟩
  rcases h.2 with hn | ⟨g, cap, cur, rfl, hb, hgg, rest⟩
  · exact .inl hn
  · exact .inr ⟨g, cap, cur, rfl, hb, (hs g rfl).trans hgg, rest⟩
theorem stable_row (B n₀ b : Nat) (t e : TypeId) {β : Type} (f : β → List Value) : Stable B (fun X s W => MineRow n₀ X W b t e (f s)) := by
  rintro X X' s W W' ⟨v, hm, ho, hx⟩ a1 a2 a3 a4 he hX'
  refine ⟨v, stable_box B b t (fun _ : Unit => v) X X' () W W' hm a1 a2 a3 a4 he hX', ownsRow_same ho fun g hg => ?_, fun j hj h => ?_⟩
  · rcases ho.2 with ⟨rfl, _⟩ | ⟨g', cap, cur, rfl, hb, hgg, rest⟩
    · simp [Value.ownBlock] at hg
    · obtain rfl : g' = g := by simpa [Value.ownBlock] using hg
      rw [he _ _ hgg (hx _ rfl) (.inr rfl), hgg]
  · have hlt := (ho.lt j hj).2
    rcases hX' j h with h1 | h1
    · exact hx j hj h1
    · omega
/-- Behind an append to such a variable: all that a round owes. -/
theorem MineRow.appended {n₀ : Nat} {X : Blocks} {W w1 : World} {b : Nat} {t e : TypeId} {v v' : Value} {xs ys : List Value} {tmp : Obj}
    (hm : Mine X W b t v) (ho : W.ownsRow n₀ e 1 v xs.length xs) (hx : ∀ j, v.ownBlock = some j → ¬ X j) (hte : t ≠ e) (hn₀ : n₀ ≤ W.heap.size) (hb : n₀ ≤ b) (hXs : ∀ k, X k → k < W.heap.size)
    (ho' : w1.ownsRow n₀ e 1 v' ys.length ys) (hgrow : (W.alloc tmp).grownBy w1 v.ownBlock) (hat : v'.ownBlock = v.ownBlock ∨ v'.ownBlock = some (W.alloc tmp).heap.size) :
    Boxed w1 b t v ∧ MineRow n₀ X (w1.setCell ⟨b, 0, none⟩ v') b t e ys ∧ KeepsOthers W (w1.setCell ⟨b, 0, none⟩ v') ∧ Below n₀ W (w1.setCell ⟨b, 0, none⟩ v') ∧ Keep n₀ X W (w1.setCell ⟨b, 0, none⟩ v') ∧
      ∀ b' t' u, b' ≠ b → t' ≠ e → Mine X W b' t' u → Mine X (w1.setCell ⟨b, 0, none⟩ v') b' t' u := by
  obtain ⟨q1, q2, q3, q4, q5⟩ := Boxed.appended (tmp := tmp) hm.1 hte ho hn₀ hb ho' hgrow
  refine ⟨q1, ⟨v', ⟨q2, hm.2⟩, q3, fun j hj hX => ?_⟩, q4, q5, ?_, fun b' t' u hne hte' hu => ?_⟩
  · rcases hat with h | h
    · exact hx j (h ▸ hj) hX
    · have h1 := hXs j hX
      rw [h] at hj
      simp at hj
      omega
  · have k1 : Keep n₀ X W (W.alloc tmp) := Keep.of_below ((Below.refl _ W).alloc (Nat.le_refl _) _)
    have k2 : Keep n₀ X (W.alloc tmp) w1 := Keep.of_grownBy hgrow (fun k hk => ⟨(ho.lt k hk).1, hx k hk⟩)
    exact (k1.trans k2).trans (keep_set _ _ _ hb hm.2)
  · have u1 : Boxed w1 b' t' u := (hu.1.alloc tmp).kept hgrow (hu.1.not_row hte' ho)
    exact ⟨u1.other hne _, hu.2⟩
/-- Such a row reads as a list. -/
theorem Ints.of_own {W : World} {n₀ : Nat} {e : TypeId} {v : Value} {l : List Int} (h : W.ownsRow n₀ e 1 v l.length (l.map fun x => .int .i64 x)) (hl : l.length ≤ big) : Ints W v l := by
  rcases h.2 with ⟨rfl, h0⟩ | ⟨g, cap, cur, rfl, hb, hg, hn, hc, hs, ht⟩
  · exact ⟨none, 0, by rw [h0], hl, fun i hi => by omega⟩
  · refine ⟨some ⟨g, 0, none⟩, cap, rfl, hl, fun i hi => ⟨g, 0, rfl, ?_⟩⟩
    have h1 : (l.map fun x => Value.int .i64 x)[i]? = some (.int .i64 (l.getD i 0)) := by
      simp [List.getElem?_map, List.getElem?_eq_getElem hi, List.getD_eq_getElem?_getD]
    rw [← ht, List.getElem?_take, if_pos (by omega)] at h1
    simp only [World.cell?, hg]
    simpa using h1
end Go.Proofs.YtlpfglkopnmlnaaDoor
namespace Go.Proofs.YtlpfglkopnmlnaaDoor
open Go.RowKit Go.Shelf
attribute [local go_sem] Oper.semAt_some
/-- A call by a number of arguments, as a run in a round of the wide fence. -/
theorem inr {f : FuncId} {args : Array Value} {w : World} {R : Ending → World → Prop} (l n : Nat) (h : Calls Tryd.prog f args w R) : CallsIn (Fence.wide.inRound l) n Tryd.prog f args w R :=
  CallsIn.inRound l (callsIn_wide.2 h)
set_option maxRecDepth 100000 in
set_option maxHeartbeats 1000000 in
theorem All_seq (S : Nat) (hS : S < 2 ^ 64) (n₀ : Nat) (hn₀ : 0 < n₀) (w : World) (hn : n₀ ≤ w.heap.size) (hT : Tab w) :
    SeqX 72 #[.int .u64 S] #[] (fun x : Nat => #[.int .i64 x]) n₀ (fun _ _ _ => True) (fun xs => xs = elems S) (fun pre => pre <+: elems S) w := by
  intro l J Jx W hW hJ hJx hY h0
  have hTW := hT.on hW
  refine (callsIn_wide (n := 0)).1 ?_
  refine callsIn_of_wp Tryd.func72 rfl trivial ?_ rfl
  simp only [Tryd.ntmps72, List.size_toArray, List.length_cons, List.length_nil, Nat.reduceAdd, Nat.reduceSub, Array.replicate_succ, Array.replicate_zero, List.push_toArray, List.append_toArray, List.nil_append, List.cons_append]
  gi_wp2
  gi_loopw [4] (fun r wr => ∃ (T : Nat) (pre : List Nat), r = .int .u64 T ∧ T < 2 ^ 64 ∧ elems S = pre ++ elems T ∧ J (fun _ => False) pre wr ∧ Below n₀ W wr) (fun r _ => (intOf r).toNat)
  case atStart => exact ⟨S, [], rfl, hS, rfl, h0, Below.refl _ _⟩
  case round =>
    obtain ⟨T, pre, rfl, hT64, hel, hJs, hB⟩ := hrel
    by_cases hT0 : T = 0
    · subst hT0
      rw [elems_zero, List.append_nil] at hel
      gi_wp2
      refine bodyPost_end (results_none rfl _ _ _) rfl ?_
      exact ⟨⟨_, rfl⟩, .inl ⟨_, pre, hel.symm, hJs⟩⟩
    · have hctz : Lib.ctz 64 T = Lib.ctzFrom 64 T := by simp [Lib.ctz, hT0]
      obtain ⟨m, hm, hk⟩ := Lib.ctzFrom_spec 64 T (by omega) hT64
      rw [← hctz] at hm hk
      obtain ⟨hst, hlt⟩ := elems_step T _ m hm hk
      have hne : ((T : Int) != 0) = true := by simp; omega
      have htz := TrailingZeros64_any T hT64 hT0 wr (hTW.below hB hn₀)
      have hand : bits .and .u64 (T : Int) ((T : Int) - 1) = ((T &&& (T - 1) : Nat) : Int) := by
        rw [show (T : Int) - 1 = ((T - 1 : Nat) : Int) from by omega]
        exact bits_and_n T (T - 1) hT64 (by omega)
      have Hlt := hid hlt
      have Hst := hid hst
      have hT64' : T &&& (T - 1) < 2 ^ 64 := by omega
      clear hst hlt hm hctz
      generalize Lib.ctz 64 T = k at *
      generalize T &&& (T - 1) = T' at *
      obtain ⟨⟨fn, tmps, assign, body, hy, hR⟩⟩ : Nonempty _ := ⟨hY _ pre k wr (fun _ h => h.elim) hJs trivial (by rw [hel, Hst.out]; exact ⟨elems T', by simp⟩)⟩
      have Hel := hid hel
      clear hel
      gi_wp2_with (refine ⟨trivial, rfl, ?_⟩; gi_at_call 100; refine (callsIn_wide.2 htz).mono ?_; rintro e w' ⟨rfl, rfl⟩)
      refine ⟨rfl, hR.mono ?_⟩
      rintro e W3 ⟨⟨rfl, hJ3⟩ | ⟨rfl, hJ3⟩, hk3⟩
      · gi_wp2
        go_roundw
        case rel => exact ⟨T', pre ++ [k], rfl, hT64', by rw [Hel.out, Hst.out]; simp, hJ3, hB.trans (hk3.below (by have := hB.size; have := hW.size; omega))⟩
        case measure => simp [intOf]; exact Hlt.out
      · gi_wp2
        refine bodyPost_ret (results_none rfl _ _ _) rfl ?_
        exact ⟨⟨_, rfl⟩, .inr ⟨_, pre ++ [k], by rw [Hel.out, Hst.out]; exact ⟨elems T', by simp⟩, hJ3⟩⟩
end Go.Proofs.YtlpfglkopnmlnaaDoor
namespace Go.Proofs.YtlpfglkopnmlnaaDoor
open Go.RowKit Go.Shelf
attribute [local go_sem] Oper.semAt_some
/-- The set to which a letter leads from some states. -/
def imgTo (m : List (List Int)) (x : Int) (l : List Nat) : Nat := l.foldl (fun T s => T ||| 2 ^ nx m s x) 0
theorem imgTo_snoc (m : List (List Int)) (x : Int) (l : List Nat) (s : Nat) : imgTo m x (l ++ [s]) = imgTo m x l ||| 2 ^ nx m s x := by simp [imgTo, List.foldl_append]
theorem imgTo_lt' (m : List (List Int)) (x : Int) (n : Nat) : ∀ (l : List Nat) (T : Nat), T < 2 ^ n → (∀ s ∈ l, nx m s x < n) → l.foldl (fun T s => T ||| 2 ^ nx m s x) T < 2 ^ n
  | [], T, hT, _ => hT
  | s :: l, T, hT, h => imgTo_lt' m x n l _ (with_lt T _ n hT (h s (by simp))) (fun y hy => h y (List.mem_cons_of_mem _ hy))
theorem imgTo_lt (m : List (List Int)) (x : Int) (n : Nat) (l : List Nat) (h : ∀ s ∈ l, nx m s x < n) : imgTo m x l < 2 ^ n := imgTo_lt' m x n l 0 (Nat.two_pow_pos n) h
theorem elems_lt {S n : Nat} (hS : S < 2 ^ n) {s : Nat} (h : s ∈ elems S) : s < n := by
  have h := (mem_elems S s).1 h
  rcases Nat.lt_or_ge s n with h1 | h1
  · exact h1
  · have := Nat.testBit_lt_two_pow (i := s) (Nat.lt_of_lt_of_le hS (Nat.pow_le_pow_right (by decide) h1))
    rw [this] at h; simp at h
theorem follows : Tryd.prog.follows .mixedOrders = true := by kernel_rfl
set_option maxRecDepth 100000 in
set_option maxHeartbeats 1000000 in
theorem SetImage_any (v : Value) (m : List (List Int)) (S : Nat) (x : Nat) (w : World) (hT : Tab w) (h : Rows w v m) (hv : validM m = true) (hS : S < 2 ^ m.length) (hx : x < letters m) :
    Calls Tryd.prog 64 #[.int .u64 S, v, .int .i64 x] w fun e w' => e = .returned (.int .u64 (imgTo m x (elems S) : Nat)) ∧ Below w.heap.size w w' := by
  obtain ⟨p1, p2, p3, p4, p5⟩ := valid_parts hv
  have hS64 : S < 2 ^ 64 := Nat.lt_of_lt_of_le hS (Nat.pow_le_pow_right (by decide) (by omega))
  have hfo := follows
  have hr := h
  obtain ⟨A, cap, rfl, hml, hc⟩ := h
  refine (callsIn_wide (n := 0)).1 ?_
  refine callsIn_of_wp_marks Tryd.func64 rfl trivial ?_ rfl
  simp only [Tryd.ntmps64, List.size_toArray, List.length_cons, List.length_nil, Nat.reduceAdd, Nat.reduceSub, Array.replicate_succ, Array.replicate_zero, List.push_toArray, List.append_toArray, List.nil_append, List.cons_append]
  gi_wp2
  have q1 := Boxed.new w 22 (.slice A m.length cap)
  have q2 := Boxed.new (w.alloc (.cells #[.slice A m.length cap] 22)) 3 (.int .i64 x)
  have q3 := Boxed.new ((w.alloc (.cells #[.slice A m.length cap] 22)).alloc (.cells #[.int .i64 x] 3)) 79 (.int .u64 0)
  simp only [World.size_alloc] at q2 q3
  have hb0 : Below w.heap.size w (((w.alloc (.cells #[.slice A m.length cap] 22)).alloc (.cells #[.int .i64 x] 3)).alloc (.cells #[.int .u64 0] 79)) := bal (bal (bal (Below.refl _ _) _) _) _
  refine range_law (gf := 72) (fb := #[.int .u64 S]) (lb := #[]) rfl (enters_of Tryd.func72 (by kernel_rfl) rfl)
    (All_seq S hS64 w.heap.size hT.lt _ hb0.size (hT.on hb0)) (fun _ _ _ _ _ _ => trivial) hb0.size (Below.refl _ _) (fun _ => rfl)
    (fun X pre W => (Mine X W w.heap.size 22 (.slice A m.length cap) ∧ Mine X W (w.heap.size + 1) 3 (.int .i64 x)) ∧ (Mine X W (w.heap.size + 1 + 1) 79 (.int .u64 (imgTo m x pre : Nat)) ∧ Base w.heap.size w X W))
    (fun _ _ _ _ => False)
    (Stable.and (Stable.and (stable_box _ _ _ (fun _ => _)) (stable_box _ _ _ (fun _ => _))) (Stable.and (stable_box _ _ _ (fun pre => .int .u64 (imgTo m x pre : Nat))) (stable_base _ _ _ hb0.size (Nat.le_refl _))))
    (fun _ _ _ _ _ _ hs _ _ _ _ _ _ => hs)
    ⟨⟨⟨(q1.alloc _).alloc _, fun h => h⟩, ⟨q2.alloc _, fun h => h⟩⟩, ⟨q3, fun h => h⟩, Base.start hb0⟩
    (fun s a' _ => a' = { tmps := #[.int .u64 S, .slice A m.length cap, .int .i64 x, undef, .pointer (some ⟨w.heap.size, 0, none⟩), .pointer (some ⟨w.heap.size + 1, 0, none⟩), .int .u64 0, .pointer (some ⟨w.heap.size + 1 + 1, 0, none⟩), .int .i64 s, .int .u64 S, .func (.func 72) #[.int .u64 S] #[], .int .i64 s, undef, undef, undef, undef, undef, undef, undef, undef, undef, undef], defers := [] })
    (fun _ _ _ _ _ _ _ hs _ _ _ _ _ _ => hs) ?assign ?body ?done ?stop
  case assign =>
    intro l X pre s W K hi hK
    gi_wp2
    exact hK _ _ (KeepsFrom.refl _ _) (Keep.refl _ _ _) hi rfl
  case body =>
    rintro l X pre s a' W hl hrec hXl hXs ⟨⟨b1, b2⟩, b3, hB⟩ _ rfl hsp
    have hs : s < m.length := elems_lt hS (hsp.subset (by simp))
    obtain ⟨b, off, r, hA, hcell, hrow⟩ := hc s hs
    obtain ⟨Ar, capr, rfl, hlr, hcr⟩ := hrow
    subst hA
    have hrl := (p5 s hs).1
    obtain ⟨br, offr, hAr, hrcell⟩ := hcr x (by omega)
    subst hAr
    have hnx := nx_ok hv hs (x := x) (by omega) (by omega)
    rw [Int.toNat_natCast] at hnx
    rw [hnx.2] at hrcell
    rw [hrl] at hcell
    have hcell' := (hB.2.cell (p := ⟨b, off + s, none⟩) (World.block_lt_of_cell? _ _ hcell)).trans hcell
    have hrcell' := (hB.2.cell (p := ⟨br, offr + x, none⟩) (World.block_lt_of_cell? _ _ hrcell)).trans hrcell
    have hT := imgTo_lt m x 64 pre (fun t ht => by have := (nx_ok hv (elems_lt hS (hsp.subset (List.mem_append_left [s] ht))) (x := (x : Int)) (by omega) (by omega)).1; omega)
    have hq : nx m s x < 64 := by omega
    have hin1 : (s : Int) < m.length := by omega
    have hin2 : (x : Int) < letters m := by omega
    have c1 := b1.cell; have c2 := b2.cell; have c3 := b3.cell; have f3 := b3.frozen
    clear hXs hc hcr hcell hrcell p5 hrl hnx hsp hrec hr q1 q2 q3 hb0 hl hml hlr
    generalize hy : nx m s x = q at *
    have Hy := hid hy
    clear hy
    generalize hTe : imgTo m x pre = T at *
    have HT := hid hTe
    clear hTe
    gi_wp2
    gi_region_with_o (refine ⟨trivial, rfl, ?_⟩; gi_at_call 79; refine (inr l _ (With_any T q _ hT hq)).mono ?_; rintro e w' ⟨rfl, rfl⟩)
    all_goals gi_wp2
    all_goals
      refine ⟨(kf_set _ _ _ _).trans (kf_drew _ _), (keep_set _ _ _ (by omega) b3.2).drew, ⟨(b1.other (by omega) _).drew, (b2.other (by omega) _).drew⟩, ?_, ?_⟩
      · rw [imgTo_snoc, Hy.out, HT.out]; exact (b3.set _).drew
      · exact hB.step ((keep_set _ _ _ (by omega) b3.2).drew.below hB.2.size)
  case done =>
    rintro D X xs W hD rfl ⟨_, b3, hB⟩ hK
    have b3c := b3.cell
    gi_wp2
    refine ⟨by simp, .inl ⟨_, _, rfl, run_takeDeferred hK, ?_⟩⟩
    exact ⟨_, results_tmp rfl _ _ _, rfl, hB.2.trans (belowK_b (w := w) (Nat.le_refl _) _ D _ _ (by have := hb0.size; omega) hK rfl rfl)⟩
  case stop =>
    rintro D X c pre W _ _ h _
    exact h.elim
end Go.Proofs.YtlpfglkopnmlnaaDoor
namespace Go.Proofs.YtlpfglkopnmlnaaDoor
open Go.RowKit Go.Shelf
attribute [local go_sem] Oper.semAt_some
theorem infoInt : (Tryd.prog.info? 3).map (fun i => (i.zero, i.size, i.bytes)) = some (some (.int .i64 0), 1, 8) := by kernel_rfl
/-- The elements as ints. -/
def intsOf (l : List Nat) : List Int := l.map fun x : Nat => (x : Int)
theorem elems_length (S : Nat) : (elems S).length ≤ 64 := by
  have := List.length_filter_le S.testBit (List.range 64)
  simpa [elems] using this
set_option maxRecDepth 100000 in
set_option maxHeartbeats 1000000 in
theorem List_any (S : Nat) (w : World) (hT : Tab w) (hS : S < 2 ^ 64) :
    Calls Tryd.prog 73 #[.int .u64 S] w fun e w' => ∃ v, e = .returned v ∧ Ints w' v (intsOf (elems S)) ∧ Below w.heap.size w w' := by
  obtain ⟨i0, hi, hz0, hz1, hz2⟩ := info_parts infoInt
  have hlen := elems_length S
  refine (callsIn_wide (n := 0)).1 ?_
  refine callsIn_of_wp_marks Tryd.func73 rfl trivial ?_ rfl
  simp only [Tryd.ntmps73, List.size_toArray, List.length_cons, List.length_nil, Nat.reduceAdd, Nat.reduceSub, Array.replicate_succ, Array.replicate_zero, List.push_toArray, List.append_toArray, List.nil_append, List.cons_append]
  gi_wp2_with (first | (refine ⟨trivial, rfl, ?_⟩; gi_at_call 67; refine (callsIn_wide.2 (Size_any S _ hS)).mono ?_; rintro e w' ⟨rfl, rfl⟩) | (gi_at_make; refine wpListIn_make_own _ rfl _ _ 41 rfl w.heap.size 3 i0 (.int .i64 0) 1 Tryd.underlying41 hi hz0 hz1 .i64 .i64 _ (elems S).length rfl rfl rfl (by rw [hz2]; omega) (by unfold maxLen; omega) (Nat.le_refl _) ?_; intro w1 hown hgrow))
  have hb1 : Below w.heap.size w w1 := (Below.refl _ w).grown hgrow (Nat.le_refl _) (fun k e => by cases e)
  have q1 := Boxed.new w1 41 (.slice (some ⟨w.heap.size, 0, none⟩) 0 (elems S).length)
  have hb0 := bal hb1 (.cells #[.slice (some ⟨w.heap.size, 0, none⟩) 0 (elems S).length] 41)
  have hsz := hb1.size
  have hown0 := hown.alloc (.cells #[.slice (some ⟨w.heap.size, 0, none⟩) 0 (elems S).length] 41)
  refine range_law (gf := 72) (fb := #[.int .u64 S]) (lb := #[]) rfl (enters_of Tryd.func72 (by kernel_rfl) rfl)
    (All_seq S hS w.heap.size hT.lt _ hb0.size (hT.on hb0)) (fun _ _ _ _ _ _ => trivial) hb0.size (Below.refl _ _) (fun _ => rfl)
    (fun X pre W => MineRow w.heap.size X W w1.heap.size 41 3 (pre.map fun s : Nat => Value.int .i64 s) ∧ Base w.heap.size w X W)
    (fun _ _ _ _ => False)
    (Stable.and (stable_row _ _ _ _ _ (fun pre : List Nat => pre.map fun s : Nat => Value.int .i64 s)) (stable_base _ _ _ hb0.size (Nat.le_refl _)))
    (fun _ _ _ _ _ _ hs _ _ _ _ _ _ => hs)
    ⟨⟨_, ⟨q1, fun h => h⟩, by simpa using hown0, fun _ _ h => h⟩, Base.start hb0⟩
    (fun s a' _ => a' = { tmps := #[.int .u64 S, undef, .slice none 0 0, .pointer (some ⟨w1.heap.size, 0, none⟩), .int .i64 s, .int .u64 S, .int .i64 (elems S).length, .slice (some ⟨w.heap.size, 0, none⟩) 0 (elems S).length, .int .u64 S, .func (.func 72) #[.int .u64 S] #[], .int .i64 s, undef, undef, undef, undef, undef], defers := [] })
    (fun _ _ _ _ _ _ _ hs _ _ _ _ _ _ => hs) ?assign ?body ?done ?stop
  case assign =>
    intro l X pre s W K hi hK
    gi_wp2
    exact hK _ _ (KeepsFrom.refl _ _) (Keep.refl _ _ _) hi rfl
  case body =>
    rintro l X pre s a' W hl hrec hXl hXs ⟨⟨v, hm, ho, hx⟩, hB⟩ _ rfl hsp
    have hpl : pre.length < 64 := by have := hsp.length_le; simp at this; omega
    have hmc := hm.cell
    have hBs := hB.2.size
    simp only [List.length_map] at ho
    gi_wp2_with (gi_at_builtin; go_must (refine wpListIn_append_own_at _ rfl _ _ 41 rfl w.heap.size 3 i0 (.int .i64 0) 1 8 Tryd.underlying41 hi hz0 hz1 hz2 rfl (by decide) _ _ _ rfl (ho.alloc _) ⟨W.heap.size, 0, none⟩ 1 1 [.int .i64 s] rfl rfl (cell_one_new _ _ _) (by simp [Value.oneCell']) (by unfold maxLen; omega) (by omega) (by simp; omega) ?_); intro v' w2 hown' hgrow' _ hat; obtain ⟨g', cap', rfl⟩ := ownsRow_succ hown'; obtain ⟨r1, r2, r3, r4, r5, r6⟩ := MineRow.appended (e := 3) (xs := pre.map fun s : Nat => Value.int .i64 s) (ys := (pre ++ [s]).map fun s : Nat => Value.int .i64 s) hm (by simpa using ho) hx (by decide) hBs (by omega) hXs (by simpa using hown') hgrow' hat; have hc1 := r1.cell; have hf1 := r1.frozen)
    exact ⟨r3.from _, r5, r2, hB.step r4⟩
  case done =>
    rintro D X xs W hD rfl ⟨⟨v, hm, ho, hx⟩, hB⟩ hK
    have hmc := hm.cell
    gi_wp2
    refine ⟨by simp, .inl ⟨_, _, rfl, run_takeDeferred hK, ?_⟩⟩
    refine ⟨_, results_tmp rfl _ _ _, _, rfl, ?_, hB.2.trans (belowK_b (w := w) (Nat.le_refl _) _ D _ _ (by have := hb0.size; omega) hK rfl rfl)⟩
    refine Ints.of_own (n₀ := w.heap.size) (e := 3) (l := intsOf (elems S)) ?_ (by unfold big intsOf; simp; omega)
    have := ownsRow_putObj ho (.deferred none) hK rfl
    simpa [intsOf, Function.comp_def] using this
  case stop =>
    rintro D X c pre W _ _ h _
    exact h.elim
end Go.Proofs.YtlpfglkopnmlnaaDoor
namespace Go.Proofs.YtlpfglkopnmlnaaDoor
open Go.RowKit Go.Shelf
def imgSet (m : List (List Int)) (S : Nat) (x : Int) : Nat := imgTo m x (elems S)
def imgWord (m : List (List Int)) (S : Nat) (u : List Int) : Nat := u.foldl (imgSet m) S
theorem imgWord_snoc (m : List (List Int)) (S : Nat) (u : List Int) (k : Nat) (hk : k < u.length) : imgWord m S (u.take (k + 1)) = imgSet m (imgWord m S (u.take k)) (u.getD k 0) := by
  unfold imgWord
  rw [List.take_succ_eq_append_getElem hk, List.foldl_append]
  simp [List.getD_eq_getElem?_getD, List.getElem?_eq_getElem hk]
theorem imgSet_lt {m : List (List Int)} (hv : validM m = true) {S : Nat} (hS : S < 2 ^ m.length) {x : Int} (h0 : 0 ≤ x) (h1 : x < letters m) : imgSet m S x < 2 ^ m.length :=
  imgTo_lt m x m.length _ (fun _ hs => (nx_ok hv (elems_lt hS hs) h0 h1).1)
theorem imgWord_lt {m : List (List Int)} (hv : validM m = true) : ∀ (u : List Int) (S : Nat), S < 2 ^ m.length → u.all (inB 0 ((letters m : Int) - 1)) = true → imgWord m S u < 2 ^ m.length
  | [], S, hS, _ => hS
  | x :: u, S, hS, hu => by
    simp only [List.all_cons, Bool.and_eq_true, inB_iff] at hu
    exact imgWord_lt hv u _ (imgSet_lt hv hS hu.1.1 (by omega)) hu.2
set_option maxHeartbeats 400000 in
theorem Image1_any (bw ba : Nat) (vw va : Value) (m : List (List Int)) (S : Nat) (l : List Int) (w : World) (hT : Tab w) (hcw : w.cell? ⟨bw, 0, none⟩ = some vw) (hca : w.cell? ⟨ba, 0, none⟩ = some va)
    (hu : Ints w vw l) (h : Rows w va m) (hv : validM m = true) (hS : S < 2 ^ m.length) (hl : l.all (inB 0 ((letters m : Int) - 1)) = true) :
    Calls Tryd.prog 63 #[.int .u64 S, .pointer (some ⟨bw, 0, none⟩), .pointer (some ⟨ba, 0, none⟩)] w fun e w' => e = .returned (.int .u64 (imgWord m S l : Nat)) ∧ Below w.heap.size w w' := by
  obtain ⟨Au, capu, rfl, hlu, hcu⟩ := hu
  have hr := h
  obtain ⟨A, cap, rfl, hml, hc⟩ := h
  have hbw := World.block_lt_of_cell? _ _ hcw
  have hba := World.block_lt_of_cell? _ _ hca
  unfold big at hlu
  clear hc
  go_enter Tryd.func63, Tryd.ntmps63
  go_wp2
  go_loopw [0, 9] (fun S' i wr => ∃ k : Nat, k ≤ l.length ∧ i = .int .i64 k ∧ S' = .int .u64 (imgWord m S (l.take k) : Nat) ∧ Below w.heap.size w wr) (fun _ i _ => l.length - (intOf i).toNat)
  case atStart => exact ⟨0, Nat.zero_le _, rfl, rfl, Below.refl _ _⟩
  case round =>
    obtain ⟨k, hk, rfl, rfl, hB⟩ := hrel
    by_cases hlt : k < l.length
    · have hq := imgWord_lt hv (l.take k) S hS (all_take _ _ hl k)
      have hx := all_getD _ l 0 hl k hlt
      rw [inB_iff] at hx
      have Hs := hid (imgWord_snoc m S l k hlt)
      obtain ⟨bu, offu, hAu, hcell⟩ := hcu k hlt
      subst hAu
      have hcu' := (hB.cell (p := ⟨bu, offu + k, none⟩) (World.block_lt_of_cell? _ _ hcell)).trans hcell
      have hca' := (hB.cell (p := ⟨ba, 0, none⟩) hba).trans hca
      have hTr := hT.on hB
      have hrr := hr.below hB
      clear hcw hca hcu hcell hT hr
      generalize imgWord m S (l.take k) = q at *
      generalize l.getD k 0 = x at *
      obtain ⟨xn, rfl⟩ := Int.eq_ofNat_of_zero_le hx.1
      have hIm := SetImage_any _ m q xn wr hTr hrr hv hq (by omega)
      clear hx hl
      go_wp2_with fail
      refine hIm.mono ?_
      rintro e w1 ⟨rfl, hb1⟩
      go_wp2
      go_roundw
      case rel => exact ⟨k + 1, by omega, by go_num, by rw [Hs.out]; rfl, btr hB hb1⟩
      case measure => simp [intOf]; omega
    · go_wp2
      go_ret
      exact ⟨ret_int (by rw [List.take_of_length_le (by omega)]), hB⟩
def l0 (u : List Int) (k : Nat) : Int := u.getD k 0
/-- Strictly increasing, and of states. -/
def incr (l : List Int) (k : Nat) : Bool := (List.range k).all fun i => decide (l.getD i 0 < l.getD (i + 1) 0)
def isSetM (m : List (List Int)) (l : List Int) : Bool := incr l (l.length - 1) && l.all (inB 0 ((m.length : Int) - 1))
theorem incr_succ (l : List Int) (k : Nat) : incr l (k + 1) = (incr l k && decide (l.getD k 0 < l.getD (k + 1) 0)) := by
  simp [incr, List.range_succ, List.all_append]
theorem incr_false (l : List Int) {k n : Nat} (hk : k < n) (h : ¬ l.getD k 0 < l.getD (k + 1) 0) : incr l n = false := by
  unfold incr
  rw [List.all_eq_false]
  exact ⟨k, List.mem_range.2 hk, by rw [decide_eq_true_iff]; exact h⟩
set_option maxHeartbeats 400000 in
theorem isSet_any (v u : Value) (m : List (List Int)) (l : List Int) (w : World) (h : Rows w v m) (hu : Ints w u l) :
    Calls Tryd.prog 93 #[.agg #[v], u] w fun e w' => e = .returned (.bool (isSetM m l)) ∧ Below w.heap.size w w' := by
  have hr := h
  have hur := hu
  obtain ⟨A, cap, rfl, hml, hc⟩ := h
  obtain ⟨Au, capu, rfl, hlu, hcu⟩ := hu
  unfold big at hml hlu
  clear hc
  go_enter Tryd.func93, Tryd.ntmps93
  go_wp2
  go_loopw [5] (fun i wr => ∃ k : Nat, (k = 0 ∨ k + 1 ≤ l.length) ∧ i = .int .i64 ((k : Int) + 1) ∧ incr l k = true ∧ Below w.heap.size w wr ∧ wr.cell? ⟨w.heap.size, 0, none⟩ = some (.slice A m.length cap)) (fun i _ => l.length - (intOf i).toNat)
  case atStart => exact ⟨0, .inl rfl, rfl, rfl, bal (Below.refl _ _) _, by simp [go_sem]⟩
  case round =>
    obtain ⟨k, hk, rfl, hinc, hB, hbox⟩ := hrel
    have hsz : w.heap.size < wr.heap.size := World.block_lt_of_cell? _ _ hbox
    by_cases hlt : k + 1 < l.length
    · obtain ⟨bu, offu, hAu, hcell⟩ := hcu k (by omega)
      obtain ⟨bu', offu', hAu', hcell'⟩ := hcu (k + 1) hlt
      subst hAu
      cases hAu'
      have c1 := (hB.cell (p := ⟨bu, offu + k, none⟩) (World.block_lt_of_cell? _ _ hcell)).trans hcell
      have c2 := (hB.cell (p := ⟨bu, offu + (k + 1), none⟩) (World.block_lt_of_cell? _ _ hcell')).trans hcell'
      have Hs := hid (incr_succ l k)
      have Hf := hid (incr_false l (k := k) (n := l.length - 1) (by omega))
      have Hi := hid hinc
      clear hcell hcell' hcu hinc hr hur
      generalize l.getD k 0 = x at *
      generalize l.getD (k + 1) 0 = y at *
      have i1 : (k : Int) + 1 < l.length := by omega
      have i2 : (k : Int) < l.length := by omega
      have i3 : IntKind.i64.wrap ((k : Int) + 1 - 1) = (k : Int) := by rw [IntKind.wrap_i64]; omega
      have i4 : ((k : Int) + 1).toNat = k + 1 := by omega
      by_cases hxy : x < y
      · have hd : decide (y ≤ x) = false := by simp; omega
        go_wp2_with fail
        go_quiet (fail)
        go_wp2
        go_roundw
        case rel => exact ⟨k + 1, .inr (by omega), by simp, by rw [Hs.out, Hi.out]; simp [hxy], bdr hB _, hbox⟩
        case measure => simp [intOf]; omega
      · have hd : decide (y ≤ x) = true := by simp; omega
        go_wp2_with fail
        go_quiet (fail)
        go_wp2
        go_ret
        exact ⟨ret_bool (by rw [isSetM, Hf.out hxy]; rfl), bdr hB _⟩
    · have hur' := hur.below hB
      have hrr := hr.below hB
      have hil : ¬ ((k : Int) + 1 < l.length) := by omega
      go_wp2_with fail
      refine (areStates_any _ _ m l _ hrr hur').mono ?_
      rintro e w1 ⟨rfl, hb1⟩
      go_wp2
      go_ret
      refine ⟨ret_bool ?_, btr hB hb1⟩
      have : l.length - 1 = k := by omega
      simp [isSetM, this, hinc]
theorem isSetM_mem {m : List (List Int)} {l : List Int} (h : isSetM m l = true) : ∀ x ∈ l, 0 ≤ x ∧ x < (m.length : Int) := by
  simp only [isSetM, Bool.and_eq_true] at h
  intro x hx
  have := List.all_eq_true.1 h.2 x hx
  rw [inB_iff] at this
  omega
theorem isWordM_all {m : List (List Int)} {l : List Int} (h : isWordM m l = true) : l.all (inB 0 ((letters m : Int) - 1)) = true := by
  simp only [isWordM, Bool.and_eq_true] at h
  exact h.2
def imageM (m : List (List Int)) (s u : List Int) : List Int := intsOf (elems (imgWord m (ofList s) u))
theorem Valid_bool (v : Value) (m : List (List Int)) (b : Bool) (w : World) (h : Rows w v m) (hb : validM m = b) :
    Calls Tryd.prog 44 #[.agg #[v]] w fun e w' => e = .returned (.bool b) ∧ Below w.heap.size w w' := by
  subst hb; exact Valid_any v m w h
theorem isSet_bool (v u : Value) (m : List (List Int)) (l : List Int) (b : Bool) (w : World) (h : Rows w v m) (hu : Ints w u l) (hb : isSetM m l = b) :
    Calls Tryd.prog 93 #[.agg #[v], u] w fun e w' => e = .returned (.bool b) ∧ Below w.heap.size w w' := by
  subst hb; exact isSet_any v u m l w h hu
theorem isWord_bool (v u : Value) (m : List (List Int)) (l : List Int) (b : Bool) (w : World) (h : Rows w v m) (hv : validM m = true) (hu : Ints w u l) (hb : isWordM m l = b) :
    Calls Tryd.prog 94 #[.agg #[v], u] w fun e w' => e = .returned (.bool b) ∧ Below w.heap.size w w' := by
  subst hb; exact isWord_any v u m l w h hv hu
/-- A pair of results: a list, and an error that is none. -/
def ListOk (w : World) (l : List Int) (e : Ending) (w' : World) : Prop := ∃ v, e = .returned (.tuple #[v, .int .i64 0]) ∧ Ints w' v l ∧ Below w.heap.size w w'
set_option maxHeartbeats 400000 in
theorem led_Image (bw ba : Nat) (v s u : Value) (m : List (List Int)) (sl ul : List Int) (w : World) (hT : Tab w) (h : Rows w v m) (hs : Ints w s sl) (hu : Ints w u ul) (hv : validM m = true) (hset : isSetM m sl = true) (hw : isWordM m ul = true)
    (hcw : w.cell? ⟨bw, 0, none⟩ = some u) (hca : w.cell? ⟨ba, 0, none⟩ = some v) :
    Calls Tryd.prog 62 #[.agg #[v], s, u, .func (.func 63) #[] #[.pointer (some ⟨bw, 0, none⟩), .pointer (some ⟨ba, 0, none⟩)]] w (ListOk w (intsOf (elems (imgWord m (ofList sl) ul)))) := by
  have hr := h.alloc (.cells #[v] 24)
  have hss := hs.alloc (.cells #[v] 24)
  have huu := hu.alloc (.cells #[v] 24)
  have hbw := World.block_lt_of_cell? _ _ hcw
  have hba := World.block_lt_of_cell? _ _ hca
  obtain ⟨p1, p2, _⟩ := valid_parts hv
  have hmem := isSetM_mem hset
  have hS := ofList_lt m.length (by omega) sl hmem
  have hlt := imgWord_lt hv ul _ hS (isWordM_all hw)
  have hlt64 : imgWord m (ofList sl) ul < 2 ^ 64 := Nat.lt_of_lt_of_le hlt (Nat.pow_le_pow_right (by decide) (by omega))
  have hsl := isWordM_all hw
  have hof : ∀ x ∈ sl, 0 ≤ x ∧ x < 64 := fun x hx => by have := hmem x hx; omega
  obtain ⟨A, cap, rfl, hml, hc⟩ := h
  obtain ⟨As, caps, rfl, hls, hcs⟩ := hs
  obtain ⟨Au, capu, rfl, hlu, hcu⟩ := hu
  clear hc hcs hcu
  go_enter Tryd.func62, Tryd.ntmps62
  go_wp2_with fail
  refine (Valid_bool _ m true _ hr hv).mono ?_
  rintro e w1 ⟨rfl, hb1⟩
  have hbx : w1.cell? ⟨w.heap.size, 0, none⟩ = some (.slice A m.length cap) := (hb1.cell (p := ⟨w.heap.size, 0, none⟩) (by simp)).trans (by simp [go_sem])
  have hr1 := hr.below hb1
  have hs1 := hss.below hb1
  go_wp2_with fail
  refine (isSet_bool _ _ m sl true _ hr1 hs1 hset).mono ?_
  rintro e w2 ⟨rfl, hb2⟩
  have hbx2 := (hb2.cell (p := ⟨w.heap.size, 0, none⟩) (World.block_lt_of_cell? _ _ hbx)).trans hbx
  have hr2 := hr1.below hb2
  have hu2 := (huu.below hb1).below hb2
  go_wp2_with fail
  refine (isWord_bool _ _ m ul true _ hr2 hv hu2 hw).mono ?_
  rintro e w3 ⟨rfl, hb3⟩
  have hB3 := btr (btr (btr (bal (Below.refl w.heap.size w) (.cells #[.slice A m.length cap] 24)) hb1) hb2) hb3
  have hs3 := (hs1.below hb2).below hb3
  have hr3 := hr2.below hb3
  have hu3 := hu2.below hb3
  have hcw3 := (hB3.cell (p := ⟨bw, 0, none⟩) hbw).trans hcw
  have hca3 := (hB3.cell (p := ⟨ba, 0, none⟩) hba).trans hca
  have hT3 := hT.on hB3
  go_wp2_with fail
  refine (Of_any _ sl _ hs3 hof).mono ?_
  rintro e w4 ⟨rfl, rfl⟩
  go_wp2_with fail
  refine (Image1_any bw ba _ _ m (ofList sl) ul _ hT3 hcw3 hca3 hu3 hr3 hv hS hsl).mono ?_
  rintro e w5 ⟨rfl, hb5⟩
  go_wp2_with fail
  refine (List_any _ _ (hT3.on hb5) hlt64).mono ?_
  rintro e w6 ⟨lv, rfl, hlv, hb6⟩
  go_wp2
  go_ret2
  exact ⟨_, rfl, hlv, btr (btr hB3 hb5) hb6⟩
end Go.Proofs.YtlpfglkopnmlnaaDoor
namespace Go.Proofs.YtlpfglkopnmlnaaDoor
open Go.RowKit Go.Shelf
set_option maxHeartbeats 400000 in
theorem Image_ok (v s u : Value) (m : List (List Int)) (sl ul : List Int) (w : World) (hT : Tab w) (h : Rows w v m) (hs : Ints w s sl) (hu : Ints w u ul) (hv : validM m = true) (h1 : isSetM m sl = true) (h2 : isWordM m ul = true) :
    Calls Tryd.prog 27 #[.agg #[v], s, u] w (ListOk w (imageM m sl ul)) := by
  have hB := bal (bal (Below.refl w.heap.size w) (.cells #[v] 24)) (.cells #[u] 41)
  have hr := h.below hB
  have hss := hs.below hB
  have huu := hu.below hB
  have hTT := hT.on hB
  obtain ⟨A, cap, rfl, hml, hc⟩ := h
  obtain ⟨As, caps, rfl, hls, hcs⟩ := hs
  obtain ⟨Au, capu, rfl, hlu, hcu⟩ := hu
  clear hc hcs hcu
  go_enter Tryd.func27, Tryd.ntmps27
  go_wp2_with fail
  refine (led_Image (w.heap.size + 1) w.heap.size _ _ _ m sl ul _ hTT hr hss huu hv h1 h2 (by simp [go_sem]) (by simp [go_sem])).mono ?_
  rintro e w1 ⟨lv, rfl, hlv, hb1⟩
  go_wp2
  go_ret2
  exact ⟨_, rfl, hlv, btr hB hb1⟩
end Go.Proofs.YtlpfglkopnmlnaaDoor
namespace Go.Proofs.YtlpfglkopnmlnaaDoor
open Go.RowKit Go.Shelf
set_option maxHeartbeats 400000 in
theorem rBelow_any (v : Value) (l : List Int) (n : Int) (w : World) (h : Ints w v l) (hn : -9223372036854775808 < n ∧ n ≤ 9223372036854775807) :
    Calls Tryd.prog 48 #[v, .int .i64 n] w fun e w' => e = .returned (.bool (l.all (inB 0 (n - 1)))) ∧ w = w' := by
  obtain ⟨A, cap, rfl, hl, hc⟩ := h
  unfold big at hl
  go_enter Tryd.func48, Tryd.ntmps48
  go_wp2
  go_loop [5] (fun i => ∃ k : Nat, k ≤ l.length ∧ i = .int .i64 k ∧ (l.take k).all (inB 0 (n - 1)) = true) (fun i => l.length - (intOf i).toNat)
  case atStart => exact ⟨0, Nat.zero_le _, rfl, rfl⟩
  case round =>
    obtain ⟨k, hk, rfl, hall⟩ := hrel
    by_cases hlt : k < l.length
    · obtain ⟨b, off, hA, hcell⟩ := hc k hlt
      have hs := all_snoc_take (inB 0 (n - 1)) l 0 k hlt
      rw [hall, Bool.true_and] at hs
      have hf := all_false_of (inB 0 (n - 1)) l 0 k hlt
      have Hs := hid hs
      have Hf := hid hf
      clear hs hf hall hc
      generalize hx : l.getD k 0 = x at *
      clear hx
      subst hA
      by_cases h0 : x < 0
      · have d1 : decide (x < 0) = true := by simp [h0]
        go_wp2
        go_ret
        exact ⟨ret_bool (Hf.out (inB_false (.inl h0))).symm, rfl⟩
      · have d1 : decide (x < 0) = false := by simp; omega
        by_cases h1 : n ≤ x
        · have d2 : decide (n ≤ x) = true := by simp [h1]
          go_wp2
          go_ret
          exact ⟨ret_bool (Hf.out (inB_false (.inr (by omega)))).symm, rfl⟩
        · have d2 : decide (n ≤ x) = false := by simp; omega
          go_wp2
          go_round
          case rel => exact ⟨k + 1, by omega, by go_num, by rw [Hs.out]; exact inB_true (by omega)⟩
          case measure => simp [intOf]; omega
    · go_wp2
      go_ret
      exact ⟨ret_bool (by rw [← hall, List.take_of_length_le (by omega)]), rfl⟩
theorem rBelow_bool (v : Value) (l : List Int) (n : Int) (b : Bool) (w : World) (h : Ints w v l) (hn : -9223372036854775808 < n ∧ n ≤ 9223372036854775807) (hb : l.all (inB 0 (n - 1)) = b) :
    Calls Tryd.prog 48 #[v, .int .i64 n] w fun e w' => e = .returned (.bool b) ∧ w = w' := by
  subst hb; exact rBelow_any v l n w h hn
set_option maxHeartbeats 400000 in
theorem rLetters_any (v : Value) (m : List (List Int)) (w : World) (h : Rows w v m) (hv : validM m = true) :
    Calls Tryd.prog 50 #[.agg #[v]] w fun e w' => e = .returned (.int .i64 (letters m : Nat)) ∧ Below w.heap.size w w' := by
  obtain ⟨p1, p2, p3, p4, p5⟩ := valid_parts hv
  obtain ⟨A, cap, rfl, hl, hc⟩ := h
  obtain ⟨b, off, r0, hA, hcell0, hr0⟩ := hc 0 (by omega)
  subst hA
  obtain ⟨A0, cap0, rfl, hl0, hc0⟩ := hr0
  rw [Nat.add_zero] at hcell0
  have hlet : (m.getD 0 []).length = letters m := rfl
  rw [hlet] at hcell0
  have hbl : b < w.heap.size := World.block_lt_of_cell? _ _ hcell0
  have hin : (0 : Int) < m.length := by omega
  clear hc hc0 hlet p5
  go_enter Tryd.func50, Tryd.ntmps50
  go_wp2
  go_ret
  exact ⟨rfl, bal (Below.refl _ _) _⟩
set_option maxHeartbeats 400000 in
theorem rWord_any (v u : Value) (m : List (List Int)) (l : List Int) (w : World) (h : Rows w v m) (hv : validM m = true) (hu : Ints w u l) :
    Calls Tryd.prog 25 #[.agg #[v], u] w fun e w' => e = .returned (.bool (isWordM m l)) ∧ Below w.heap.size w w' := by
  have hr1 := h.alloc (.cells #[v] 24)
  have hu1 := hu.alloc (.cells #[v] 24)
  have hp := (valid_parts hv).2.2.2.1
  obtain ⟨A, cap, rfl, hml, hc⟩ := h
  obtain ⟨Au, capu, rfl, hlu, hcu⟩ := hu
  unfold big at hlu
  clear hc hcu
  by_cases hlen : l.length ≤ 40000
  · have hle : decide ((l.length : Int) ≤ 40000) = true := by simp; omega
    go_enter Tryd.func25, Tryd.ntmps25
    go_wp2_with fail
    refine (rLetters_any _ m _ hr1 hv).mono ?_
    rintro e w1 ⟨rfl, hb1⟩
    have hu2 := hu1.below hb1
    go_wp2_with fail
    refine (rBelow_any _ l _ _ hu2 (by omega)).mono ?_
    rintro e w2 ⟨rfl, rfl⟩
    go_wp2
    go_ret
    exact ⟨ret_bool (by simp [isWordM, hlen]), btr (bal (Below.refl _ _) _) hb1⟩
  · have hle : decide ((l.length : Int) ≤ 40000) = false := by simp; omega
    go_enter Tryd.func25, Tryd.ntmps25
    go_wp2
    go_ret
    exact ⟨ret_bool (by simp [isWordM, hlen]), bal (Below.refl _ _) _⟩
/-- Whether a list has a number. -/
def hasB (l : List Int) (n : Int) : Bool := l.any fun x => x == n
theorem any_snoc_take (p : Int → Bool) (l : List Int) (k : Nat) (hk : k < l.length) : (l.take (k + 1)).any p = ((l.take k).any p || p (l.getD k 0)) := by
  rw [List.take_succ_eq_append_getElem hk, List.any_append]
  simp [List.getD_eq_getElem?_getD, List.getElem?_eq_getElem hk]
theorem any_true_of (p : Int → Bool) (l : List Int) (k : Nat) (hk : k < l.length) (h : p (l.getD k 0) = true) : l.any p = true := by
  rw [List.any_eq_true]
  exact ⟨_, mem_getD hk, h⟩
set_option maxHeartbeats 400000 in
theorem rHas_any (v : Value) (l : List Int) (n : Int) (w : World) (h : Ints w v l) :
    Calls Tryd.prog 82 #[v, .int .i64 n] w fun e w' => e = .returned (.bool (hasB l n)) ∧ w = w' := by
  obtain ⟨A, cap, rfl, hl, hc⟩ := h
  unfold big at hl
  go_enter Tryd.func82, Tryd.ntmps82
  go_wp2
  go_loop [5] (fun i => ∃ k : Nat, k ≤ l.length ∧ i = .int .i64 k ∧ hasB (l.take k) n = false) (fun i => l.length - (intOf i).toNat)
  case atStart => exact ⟨0, Nat.zero_le _, rfl, rfl⟩
  case round =>
    obtain ⟨k, hk, rfl, hall⟩ := hrel
    by_cases hlt : k < l.length
    · obtain ⟨b, off, hA, hcell⟩ := hc k hlt
      have hs := any_snoc_take (fun x => x == n) l k hlt
      have hf := any_true_of (fun x => x == n) l k hlt
      have Ha := hid hall
      have Hs := hid hs
      have Hf := hid hf
      clear hs hf hall hc
      generalize hx : l.getD k 0 = x at *
      clear hx
      subst hA
      by_cases h0 : x = n
      · subst h0
        go_wp2
        go_ret
        exact ⟨ret_bool (Hf.out (by simp)).symm, rfl⟩
      · have d1 : (x == n) = false := by simp [h0]
        have H0 := hid h0
        clear h0
        go_wp2
        go_round
        case rel => exact ⟨k + 1, by omega, by go_num, by have h1 := Ha.out; unfold hasB at h1 ⊢; rw [Hs.out, h1]; simpa using H0.out⟩
        case measure => simp [intOf]; omega
    · go_wp2
      go_ret
      exact ⟨ret_bool (by rw [← hall, List.take_of_length_le (by omega)]), rfl⟩
theorem take_eq_succ {l m : List Int} {k : Nat} (hk : k < l.length) (hl : l.length = m.length) (h : l.take k = m.take k) (hx : l.getD k 0 = m.getD k 0) : l.take (k + 1) = m.take (k + 1) := by
  have h1 : k < m.length := by omega
  rw [List.take_succ_eq_append_getElem hk, List.take_succ_eq_append_getElem h1, h]
  have e1 : l.getD k 0 = l[k] := by simp [List.getD_eq_getElem?_getD, List.getElem?_eq_getElem hk]
  have e2 : m.getD k 0 = m[k] := by simp [List.getD_eq_getElem?_getD, List.getElem?_eq_getElem h1]
  rw [← e1, ← e2, hx]
theorem ne_of_getD {l m : List Int} {k : Nat} (hx : ¬ l.getD k 0 = m.getD k 0) : decide (l = m) = false := by
  rw [decide_eq_false_iff_not]
  intro h
  rw [h] at hx
  exact hx rfl
set_option maxHeartbeats 400000 in
theorem rSame_any (v u : Value) (l m : List Int) (w : World) (h : Ints w v l) (hu : Ints w u m) :
    Calls Tryd.prog 33 #[v, u] w fun e w' => e = .returned (.bool (decide (l = m))) ∧ Below w.heap.size w w' := by
  obtain ⟨A, cap, rfl, hl, hc⟩ := h
  obtain ⟨Au, capu, rfl, hlu, hcu⟩ := hu
  unfold big at hl hlu
  by_cases hlen : l.length = m.length
  · have hne : ((l.length : Int) != (m.length : Int)) = false := by simp; omega
    have Hlen := hid hlen
    clear hlen
    go_enter Tryd.func33, Tryd.ntmps33
    go_wp2
    go_loopw [5] (fun i wr => ∃ k : Nat, k ≤ l.length ∧ i = .int .i64 k ∧ l.take k = m.take k ∧ Below w.heap.size w wr) (fun i _ => l.length - (intOf i).toNat)
    case atStart => exact ⟨0, Nat.zero_le _, rfl, rfl, Below.refl _ _⟩
    case round =>
      obtain ⟨k, hk, rfl, htk, hB⟩ := hrel
      have Htk := hid htk
      clear htk
      by_cases hlt : k < l.length
      · have hle := Hlen.out
        obtain ⟨b, off, hA, hcell⟩ := hc k hlt
        obtain ⟨b', off', hA', hcell'⟩ := hcu k (by omega)
        subst hA
        subst hA'
        have c1 := (hB.cell (p := ⟨b, off + k, none⟩) (World.block_lt_of_cell? _ _ hcell)).trans hcell
        have c2 := (hB.cell (p := ⟨b', off' + k, none⟩) (World.block_lt_of_cell? _ _ hcell')).trans hcell'
        have Hs := hid (fun hx => take_eq_succ hlt Hlen.out Htk.out hx)
        have Hf := hid (fun hx => ne_of_getD (l := l) (m := m) (k := k) hx)
        have i1 : (k : Int) < l.length := by omega
        have i2 : (k : Int) < m.length := by omega
        clear hc hcu hcell hcell' hle
        generalize l.getD k 0 = x at *
        generalize m.getD k 0 = y at *
        by_cases hxy : x = y
        · have hd : (x != y) = false := by simp [hxy]
          have Hxy := hid hxy
          clear hxy
          go_wp2_with fail
          go_quiet (fail)
          go_wp2
          go_roundw
          case rel => exact ⟨k + 1, by omega, by go_num, Hs.out Hxy.out, bdr hB _⟩
          case measure => simp [intOf]; omega
        · have hd : (x != y) = true := by simp [hxy]
          have Hxy := hid hxy
          clear hxy
          go_wp2_with fail
          go_quiet (fail)
          go_wp2
          go_ret
          exact ⟨ret_bool (Hf.out Hxy.out).symm, bdr hB _⟩
      · go_wp2
        go_ret
        have h1 := Htk.out
        have h2 := Hlen.out
        rw [List.take_of_length_le (by omega), List.take_of_length_le (by omega)] at h1
        exact ⟨ret_bool (by simp [h1]), hB⟩
  · have hne : ((l.length : Int) != (m.length : Int)) = true := by simp; omega
    have Hlen := hid hlen
    clear hlen
    go_enter Tryd.func33, Tryd.ntmps33
    go_wp2
    go_ret
    exact ⟨ret_bool (by
      symm
      rw [decide_eq_false_iff_not]
      intro h
      exact Hlen.out (by rw [h])), Below.refl _ _⟩
end Go.Proofs.YtlpfglkopnmlnaaDoor
namespace Go.Proofs.YtlpfglkopnmlnaaDoor
open Go.RowKit Go.Shelf
theorem getD_elem (l : List Int) (j : Nat) (hj : j < l.length) : l.getD j 0 = l[j] := by simp [List.getD_eq_getElem?_getD, List.getElem?_eq_getElem hj]
end Go.Proofs.YtlpfglkopnmlnaaDoor
namespace Go.Proofs.YtlpfglkopnmlnaaDoor
open Go.RowKit Go.Shelf
theorem infoRow : (Tryd.prog.info? 41).map (fun i => (i.zero, i.size, i.bytes)) = some (some (.slice none 0 0), 1, 24) := by kernel_rfl
theorem owns_kept {B n : Nat} {e : TypeId} {s : Nat} {v : Value} {xs : List Value} {w w' : World} (h : w.ownsRow B e s v n xs) (hk : ∀ k, B ≤ k → k < w.heap.size → w'.heap[k]? = w.heap[k]?) : w'.ownsRow B e s v n xs := by
  obtain ⟨h1, h2⟩ := h
  refine ⟨h1, ?_⟩
  rcases h2 with h2 | ⟨g, cap, cur, hv, hB, hh, r⟩
  · exact .inl h2
  · exact .inr ⟨g, cap, cur, hv, hB, by rw [hk g hB (lt_of_block hh)]; exact hh, r⟩
/-- A slice of ints that lies beside a row. -/
def IntsOff (W : World) (base : Nat) (g : Option Nat) (v : Value) (l : List Int) : Prop :=
  ∃ A cap, v = .slice A l.length cap ∧ l.length ≤ big ∧ (∀ i, i < l.length → ∃ b off, A = some ⟨b, off, none⟩ ∧ base ≤ b ∧ some b ≠ g ∧ W.cell? ⟨b, off + i, none⟩ = some (.int .i64 (l.getD i 0)))
theorem IntsOff.ints {W : World} {base : Nat} {g : Option Nat} {v : Value} {l : List Int} (h : IntsOff W base g v l) : Ints W v l := by
  obtain ⟨A, cap, rfl, hl, hc⟩ := h
  exact ⟨A, cap, rfl, hl, fun i hi => by obtain ⟨b, off, hA, _, _, hcell⟩ := hc i hi; exact ⟨b, off, hA, hcell⟩⟩
/-- A row of the call's own from base on, whose elements are slices of ints beside it. -/
def MRows (W : World) (base : Nat) (v : Value) (m : List (List Int)) : Prop :=
  ∃ xs : List Value, W.ownsRow base 41 1 v m.length xs ∧ ∀ i, i < m.length → IntsOff W base v.ownBlock (xs.getD i .nilIface) (m.getD i [])
theorem MRows.nil (W : World) (base : Nat) : MRows W base (.slice none 0 0) [] := ⟨[], ⟨rfl, .inl ⟨rfl, rfl⟩⟩, fun i hi => by simp at hi⟩
theorem MRows.rows {W : World} {base : Nat} {v : Value} {m : List (List Int)} (h : MRows W base v m) (hl : m.length ≤ big) : Rows W v m := by
  obtain ⟨xs, ho, hx⟩ := h
  have hxl : xs.length = m.length := by have := ho.1; omega
  rcases ho.2 with ⟨rfl, h0⟩ | ⟨g, cap, cur, rfl, hb, hg, hn, hc, hs, ht⟩
  · exact ⟨none, 0, by rw [h0], hl, fun i hi => by omega⟩
  · refine ⟨some ⟨g, 0, none⟩, cap, rfl, hl, fun i hi => ⟨g, 0, xs.getD i .nilIface, rfl, ?_, (hx i hi).ints⟩⟩
    have h1 : xs[i]? = some (xs.getD i .nilIface) := by
      simp [List.getElem?_eq_getElem (show i < xs.length by omega), List.getD_eq_getElem?_getD]
    rw [← ht, List.getElem?_take, if_pos (by omega)] at h1
    simp only [World.cell?, hg]
    rw [← ht]
    simpa using h1
/-- Kept by a world that leaves the blocks from base on, but the row's own, as they lay. -/
theorem IntsOff.kept {W W' : World} {base : Nat} {g : Option Nat} {v : Value} {l : List Int} (h : IntsOff W base g v l) (hk : ∀ k, base ≤ k → k < W.heap.size → some k ≠ g → W'.heap[k]? = W.heap[k]?) {g' : Option Nat} (hg : ∀ k, k < W.heap.size → some k ≠ g → some k ≠ g') : IntsOff W' base g' v l := by
  obtain ⟨A, cap, rfl, hl, hc⟩ := h
  refine ⟨A, cap, rfl, hl, fun i hi => ?_⟩
  obtain ⟨b, off, hA, hB, hne, hcell⟩ := hc i hi
  have hb := World.block_lt_of_cell? _ _ hcell
  refine ⟨b, off, hA, hB, hg _ hb hne, ?_⟩
  rw [← hcell]
  exact World.cell?_of_block (w := W) (hk _ hB hb hne)
theorem MRows.kept {W W' : World} {base : Nat} {v : Value} {m : List (List Int)} (h : MRows W base v m) (hk : ∀ k, base ≤ k → k < W.heap.size → W'.heap[k]? = W.heap[k]?) : MRows W' base v m := by
  obtain ⟨xs, ho, hx⟩ := h
  exact ⟨xs, owns_kept ho hk, fun i hi => (hx i hi).kept (fun k hb hs _ => hk k hb hs) (fun _ _ h => h)⟩
theorem MRows.below {W W' : World} {base : Nat} {v : Value} {m : List (List Int)} (h : MRows W base v m) (hb : Below W.heap.size W W') : MRows W' base v m := h.kept fun k _ hk => hb.block k hk
/-- Behind an append of a slice that lies beside. -/
theorem MRows.appended {W W' : World} {base : Nat} {v v' u : Value} {m : List (List Int)} {l : List Int} {xs : List Value} (hx : ∀ i, i < m.length → IntsOff W base v.ownBlock (xs.getD i .nilIface) (m.getD i [])) (hxl : xs.length = m.length)
    (hu : IntsOff W base v.ownBlock u l) (ho : W'.ownsRow base 41 1 v' (m.length + 1) (xs ++ [u])) (hg : W.grownBy W' v.ownBlock) (hat : v'.ownBlock = v.ownBlock ∨ v'.ownBlock = some W.heap.size) : MRows W' base v' (m ++ [l]) := by
  refine ⟨xs ++ [u], by simpa using ho, fun i hi => ?_⟩
  have key : ∀ {x : Value} {r : List Int}, IntsOff W base v.ownBlock x r → IntsOff W' base v'.ownBlock x r := by
    intro x r h
    refine h.kept (fun k _ hk hne => hg.block k hk (fun e => hne e)) (fun k hk hne e => ?_)
    rcases hat with h1 | h1
    · exact hne (e.trans h1)
    · rw [h1] at e
      have : k = W.heap.size := by simpa using e
      omega
  simp only [List.length_append, List.length_cons, List.length_nil] at hi
  by_cases hil : i < m.length
  · have e1 : (xs ++ [u]).getD i .nilIface = xs.getD i .nilIface := by simp [List.getD_eq_getElem?_getD, List.getElem?_append_left (show i < xs.length by omega)]
    have e2 : (m ++ [l]).getD i [] = m.getD i [] := by simp [List.getD_eq_getElem?_getD, List.getElem?_append_left hil]
    rw [e1, e2]
    exact key (hx i hil)
  · obtain rfl : i = m.length := by omega
    have e1 : (xs ++ [u]).getD m.length .nilIface = u := by rw [← hxl]; simp [List.getD_eq_getElem?_getD]
    have e2 : (m ++ [l]).getD m.length [] = l := by simp [List.getD_eq_getElem?_getD]
    rw [e1, e2]
    exact key hu
end Go.Proofs.YtlpfglkopnmlnaaDoor
namespace Go.Proofs.YtlpfglkopnmlnaaDoor
open Go.RowKit Go.Shelf
/-- A slice of bools that reads as a list. -/
def Bools (w : World) (v : Value) (l : List Bool) : Prop :=
  ∃ A cap, v = .slice A l.length cap ∧ l.length ≤ big ∧ ∀ i, i < l.length → ∃ b off, A = some ⟨b, off, none⟩ ∧ w.cell? ⟨b, off + i, none⟩ = some (.bool (l.getD i false))
theorem Bools.below {w w' : World} {v : Value} {l : List Bool} (h : Bools w v l) (hb : Below w.heap.size w w') : Bools w' v l := by
  obtain ⟨A, cap, hv, hl, hc⟩ := h
  refine ⟨A, cap, hv, hl, fun i hi => ?_⟩
  obtain ⟨b, off, hA, hcell⟩ := hc i hi
  exact ⟨b, off, hA, (hb.cell (p := ⟨b, off + i, none⟩) (World.block_lt_of_cell? _ _ hcell)).trans hcell⟩
theorem Bools.of_own {W : World} {n₀ : Nat} {e : TypeId} {v : Value} {l : List Bool} (h : W.ownsRow n₀ e 1 v l.length (l.map fun x => .bool x)) (hl : l.length ≤ big) : Bools W v l := by
  rcases h.2 with ⟨rfl, h0⟩ | ⟨g, cap, cur, rfl, hb, hg, hn, hc, hs, ht⟩
  · exact ⟨none, 0, by rw [h0], hl, fun i hi => by omega⟩
  · refine ⟨some ⟨g, 0, none⟩, cap, rfl, hl, fun i hi => ⟨g, 0, rfl, ?_⟩⟩
    have h1 : (l.map fun x => Value.bool x)[i]? = some (.bool (l.getD i false)) := by
      simp [List.getElem?_map, List.getElem?_eq_getElem hi, List.getD_eq_getElem?_getD]
    rw [← ht, List.getElem?_take, if_pos (by omega)] at h1
    simp only [World.cell?, hg]
    simpa using h1
set_option maxHeartbeats 400000 in
theorem rFull_any (v : Value) (l : List Bool) (w : World) (h : Bools w v l) :
    Calls Tryd.prog 55 #[v] w fun e w' => e = .returned (.bool (l.all id)) ∧ w = w' := by
  obtain ⟨A, cap, rfl, hl, hc⟩ := h
  unfold big at hl
  go_enter Tryd.func55, Tryd.ntmps55
  go_wp2
  go_loop [3] (fun i => ∃ k : Nat, k ≤ l.length ∧ i = .int .i64 k ∧ (l.take k).all id = true) (fun i => l.length - (intOf i).toNat)
  case atStart => exact ⟨0, Nat.zero_le _, rfl, rfl⟩
  case round =>
    obtain ⟨k, hk, rfl, hall⟩ := hrel
    by_cases hlt : k < l.length
    · obtain ⟨b, off, hA, hcell⟩ := hc k hlt
      have hs := all_snoc_take id l false k hlt
      rw [hall, Bool.true_and] at hs
      have hf := all_false_of id l false k hlt
      have Hs := hid hs
      have Hf := hid hf
      clear hs hf hall hc
      generalize hx : l.getD k false = x at *
      clear hx
      subst hA
      have hks : (k : Int) < l.length := by omega
      cases x with
      | false =>
        go_wp2
        go_ret
        exact ⟨ret_bool (Hf.out rfl).symm, rfl⟩
      | true =>
        go_wp2
        go_round
        case rel => exact ⟨k + 1, by omega, by go_num, Hs.out⟩
        case measure => simp [intOf]; omega
    · obtain rfl : k = l.length := by omega
      rw [List.take_length] at hall
      have hks : ¬ ((l.length : Int) < l.length) := by omega
      go_wp2
      go_ret
      exact ⟨rfl, rfl⟩
theorem infoBool : (Tryd.prog.info? 4).map (fun i => (i.zero, i.size, i.bytes)) = some (some (.bool false), 1, 1) := by kernel_rfl
/-- The states of which one alone is true. -/
def onlyL (n s : Nat) : List Bool := (List.replicate n false).set s true
set_option maxRecDepth 100000 in
set_option maxHeartbeats 1000000 in
theorem rOnly_any (v : Value) (m : List (List Int)) (s : Nat) (w : World) (h : Rows w v m) (hm : m.length ≤ 1000) (hs : s < m.length) :
    Calls Tryd.prog 57 #[.agg #[v], .int .i64 s] w fun e w' => ∃ r, e = .returned r ∧ w'.ownsRow w.heap.size 4 1 r (onlyL m.length s).length ((onlyL m.length s).map fun x => .bool x) ∧ Below w.heap.size w w' := by
  obtain ⟨j0, hj, hy0, hy1, hy2⟩ := info_parts infoBool
  obtain ⟨A, cap, rfl, hml, -⟩ := id h
  clear h
  have hX := bal (Below.refl _ w) (.cells #[.slice A m.length cap] 24)
  have hss : (s : Int) < m.length := by omega
  generalize hM : m.length = n at *
  clear hM
  go_enter Tryd.func57, Tryd.ntmps57
  go_wp2_with (at_make; refine wpList_make_full _ rfl _ _ 70 rfl w.heap.size 4 j0 (.bool false) 1 Tryd.underlying70 hj hy0 hy1 .i64 .i64 _ _ n rfl rfl rfl rfl (by rw [hy2]; omega) (by unfold maxLen; omega) (by simp) ?_; intro w1 hown hgrow; rw [show Value.cells (.bool false) = #[.bool false] from rfl, toList_madeCells_one, Nat.mul_one] at hown; simp only [World.size_alloc] at hown; have hB1 := hX.grown hgrow (by simp) (fun q hq => by cases hq); have hcA := hown.cellAt s (by omega); have hfA := hown.frozenAt s; rw [List.getElem?_replicate, if_pos hs] at hcA; have hst := (hown.stored s (.bool true)).1)
  go_ret
  have hlen : (onlyL n s).length = n := by simp [onlyL]
  have hmap : (onlyL n s).map (fun x => Value.bool x) = (List.replicate n (Value.bool false)).set s (.bool true) := by simp [onlyL, List.map_set]
  refine ⟨_, rfl, ?_, hB1.setCell (p := ⟨w.heap.size + 1, s, none⟩) (by show w.heap.size ≤ w.heap.size + 1; omega) _⟩
  rw [hmap, hlen]
  exact hst
end Go.Proofs.YtlpfglkopnmlnaaDoor
namespace Go.Proofs.YtlpfglkopnmlnaaDoor
open Go.RowKit Go.Shelf
set_option maxHeartbeats 1000000 in
theorem rValid_any (v : Value) (m : List (List Int)) (w : World) (h : Rows w v m) :
    Calls Tryd.prog 12 #[.agg #[v]] w fun e w' => e = .returned (.bool (validM m)) ∧ Below w.heap.size w w' := by
  have hr := h
  obtain ⟨A, cap, rfl, hl, hc⟩ := h
  unfold big at hl
  by_cases h0 : m.length = 0
  · have d0 : ((m.length : Int) == 0) = true := by simp [h0]
    clear hc
    go_enter Tryd.func12, Tryd.ntmps12
    go_wp2
    go_ret
    exact ⟨ret_bool (by simp [validM, inB, h0]), bal (Below.refl _ _) _⟩
  have d0 : ((m.length : Int) == 0) = false := by rw [beq_eq_false_iff_ne]; omega
  by_cases h1 : 60 < m.length
  · have d1 : decide ((60 : Int) < m.length) = true := by simp; omega
    clear hc
    go_enter Tryd.func12, Tryd.ntmps12
    go_wp2
    go_ret
    have e1 : inB 1 60 m.length = false := inB_false (.inr (by omega))
    exact ⟨ret_bool (by simp [validM, e1]), bal (Below.refl _ _) _⟩
  have d1 : decide ((60 : Int) < m.length) = false := by simp; omega
  obtain ⟨b, off, r0, hA, hcell0, hr0⟩ := hc 0 (by omega)
  subst hA
  obtain ⟨A0, cap0, rfl, hl0, hc0⟩ := hr0
  unfold big at hl0
  rw [Nat.add_zero] at hcell0
  have hbl : b < w.heap.size := World.block_lt_of_cell? _ _ hcell0
  have hlet : (m.getD 0 []).length = letters m := rfl
  rw [hlet] at hcell0 hl0
  have hin : (0 : Int) < m.length := by omega
  clear hc0 hlet
  have Hc := hid hc
  clear hc
  by_cases h2 : letters m = 0
  · have d2 : ((letters m : Int) == 0) = true := by simp [h2]
    go_enter Tryd.func12, Tryd.ntmps12
    go_wp2
    go_ret
    exact ⟨ret_bool (by simp [validM, inB, h2]), bal (Below.refl _ _) _⟩
  have d2 : ((letters m : Int) == 0) = false := by simp; omega
  by_cases h3 : 6 < letters m
  · have d3 : decide ((6 : Int) < letters m) = true := by simp; omega
    go_enter Tryd.func12, Tryd.ntmps12
    go_wp2
    go_ret
    have e1 : inB 1 6 (letters m) = false := inB_false (.inr (by omega))
    exact ⟨ret_bool (by simp [validM, e1]), bal (Below.refl _ _) _⟩
  have d3 : decide ((6 : Int) < letters m) = false := by simp; omega
  have hv1 : validM m = m.all (rowOk m) := by
    have e1 : inB 1 60 m.length = true := inB_true (by omega)
    have e2 : inB 1 6 (letters m) = true := inB_true (by omega)
    simp [validM, e1, e2]
  have Hv := hid hv1
  clear hv1
  go_enter Tryd.func12, Tryd.ntmps12
  go_wp2
  go_loopw [4] (fun i wr => ∃ k : Nat, k ≤ m.length ∧ i = .int .i64 k ∧ (m.take k).all (rowOk m) = true ∧ Below w.heap.size w wr ∧ wr.cell? ⟨w.heap.size, 0, none⟩ = some (.slice (some ⟨b, off, none⟩) m.length cap)) (fun i _ => m.length - (intOf i).toNat)
  case atStart => exact ⟨0, Nat.zero_le _, rfl, rfl, bal (Below.refl _ _) _, by simp [go_sem]⟩
  case round =>
    obtain ⟨k, hk, rfl, hall, hB, hbox⟩ := hrel
    have hsz : w.heap.size < wr.heap.size := World.block_lt_of_cell? _ _ hbox
    by_cases hlt : k < m.length
    · obtain ⟨b', off', r, hA', hcell, hrow⟩ := Hc.out k hlt
      cases hA'
      have hrowc : wr.cell? ⟨b, off + k, none⟩ = some r := (hB.cell (p := ⟨b, off + k, none⟩) hbl).trans hcell
      have hrow0 : wr.cell? ⟨b, off, none⟩ = some (.slice A0 (letters m) cap0) := (hB.cell (p := ⟨b, off, none⟩) hbl).trans hcell0
      have hroww := hrow.below hB
      have Hs := hid (all_snoc_take (rowOk m) m [] k hlt)
      have Hf := hid (all_false_of (rowOk m) m [] k hlt)
      clear hrow hcell
      generalize m.getD k [] = row at *
      have hroww' := hroww
      obtain ⟨Ar, capr, rfl, hlr, hcr⟩ := hroww
      unfold big at hlr
      clear hcr
      have Ha := hid hall
      clear hall
      by_cases hle : row.length = letters m
      · have hne : ((row.length : Int) != (letters m : Int)) = false := by simp; omega
        have Hle := hid hle
        clear hle
        by_cases hst : row.all (inB 0 ((m.length : Int) - 1)) = true
        · go_wp2_with fail
          go_quiet ((go_at_call 48; exact Calls.quiet_of_same ((rBelow_bool _ row _ true _ (hroww'.drewN _) (by omega) hst).mono fun _ _ ⟨h1, h2⟩ => ⟨h1, h2.symm⟩)))
          go_wp2
          go_roundw
          case rel => exact ⟨k + 1, by omega, by go_num, by rw [Hs.out, Ha.out]; simp [rowOk, Hle.out, hst], bdr hB _, hbox⟩
          case measure => simp [intOf]; omega
        · have hst' : row.all (inB 0 ((m.length : Int) - 1)) = false := by simpa using hst
          clear hst
          go_wp2_with fail
          go_quiet ((go_at_call 48; exact Calls.quiet_of_same ((rBelow_bool _ row _ false _ (hroww'.drewN _) (by omega) hst').mono fun _ _ ⟨h1, h2⟩ => ⟨h1, h2.symm⟩)))
          go_wp2
          go_ret
          exact ⟨ret_bool (by rw [Hv.out, Hf.out]; simp [rowOk, hst']), bdr hB _⟩
      · have hne : ((row.length : Int) != (letters m : Int)) = true := by simp; omega
        have Hle := hid hle
        clear hle
        go_wp2_with fail
        go_quiet (fail)
        go_wp2
        go_ret
        exact ⟨ret_bool (by rw [Hv.out, Hf.out]; simp [rowOk, Hle.out]), bdr hB _⟩
    · go_wp2
      go_ret
      exact ⟨ret_bool (by rw [Hv.out, ← hall, List.take_of_length_le (by omega)]), hB⟩
set_option maxHeartbeats 1000000 in
theorem rRun_any (v u : Value) (m : List (List Int)) (s : Nat) (l : List Int) (w : World) (h : Rows w v m) (hu : Ints w u l) (hv : validM m = true) (hs : s < m.length) (hw : isWordM m l = true) :
    Calls Tryd.prog 104 #[.agg #[v], .int .i64 s, u] w fun e w' => e = .returned (.int .i64 (runM m s l : Nat)) ∧ Below w.heap.size w w' := by
  have hr := h
  have hur := hu
  obtain ⟨A, cap, rfl, hml, hc⟩ := h
  obtain ⟨Au, capu, rfl, hlu, hcu⟩ := hu
  unfold big at hlu hml
  have Hc := hid hc
  have Hcu := hid hcu
  clear hc hcu
  go_enter Tryd.func104, Tryd.ntmps104
  go_wp2
  go_loopw [1, 7] (fun s' i wr => ∃ k : Nat, k ≤ l.length ∧ i = .int .i64 k ∧ s' = .int .i64 (runM m s (l.take k)) ∧ Below w.heap.size w wr ∧ wr.cell? ⟨w.heap.size, 0, none⟩ = some (.slice A m.length cap)) (fun _ i _ => l.length - (intOf i).toNat)
  case atStart => exact ⟨0, Nat.zero_le _, rfl, rfl, bal (Below.refl _ _) _, by simp [go_sem]⟩
  case round =>
    obtain ⟨k, hk, rfl, rfl, hB, hbox⟩ := hrel
    by_cases hlt : k < l.length
    · have hl : l.all (inB 0 ((letters m : Int) - 1)) = true := by simp only [isWordM, Bool.and_eq_true] at hw; exact hw.2
      have hq := runM_lt hv (l.take k) s hs (all_take _ _ hl k)
      have hx := all_getD _ l 0 hl k hlt
      rw [inB_iff] at hx
      have Hs := hid (runM_snoc m s l k hlt)
      obtain ⟨bu, offu, hAu, hcell⟩ := Hcu.out k hlt
      subst hAu
      have hcu' := (hB.cell (p := ⟨bu, offu + k, none⟩) (World.block_lt_of_cell? _ _ hcell)).trans hcell
      generalize hqe : runM m s (l.take k) = q at *
      generalize l.getD k 0 = x at *
      obtain ⟨xn, rfl⟩ := Int.eq_ofNat_of_zero_le hx.1
      obtain ⟨b, off, r, hA, hrc, hrr⟩ := Hc.out q hq
      subst hA
      obtain ⟨Ar, capr, rfl, hlr, hcr⟩ := hrr
      have hn := nx_ok hv hq hx.1 (by omega)
      have hrl := ((valid_parts hv).2.2.2.2 q hq).1
      obtain ⟨br, offr, hAr, hrcell⟩ := hcr xn (by omega)
      subst hAr
      rw [Int.toNat_natCast] at hn
      rw [hn.2] at hrcell
      have hrc' := (hB.cell (p := ⟨b, off + q, none⟩) (World.block_lt_of_cell? _ _ hrc)).trans hrc
      have hrcell' := (hB.cell (p := ⟨br, offr + xn, none⟩) (World.block_lt_of_cell? _ _ hrcell)).trans hrcell
      rw [hrl] at hrc'
      have hin1 : (q : Int) < m.length := by omega
      have hin2 : (xn : Int) < letters m := by omega
      clear hcr hcell hrc hrcell hqe hl hr hur
      generalize nx m q (xn : Int) = y at *
      have Hn := hid hn.2
      clear hn hrl
      go_wp2_with fail
      go_quiet (fail)
      go_wp2
      go_roundw
      case rel => exact ⟨k + 1, by omega, by go_num, by rw [Hs.out], bdr hB _, hbox⟩
      case measure => simp [intOf]; omega
    · go_wp2
      go_ret
      exact ⟨ret_int (by rw [List.take_of_length_le (by omega)]), hB⟩
end Go.Proofs.YtlpfglkopnmlnaaDoor
namespace Go.Proofs.YtlpfglkopnmlnaaDoor
open Go.RowKit Go.Shelf
theorem runM_append (m : List (List Int)) (s : Nat) (u v : List Int) : runM m s (u ++ v) = runM m (runM m s u) v := by simp [runM, List.foldl_append]
theorem imgWord_append (m : List (List Int)) (S : Nat) (u v : List Int) : imgWord m S (u ++ v) = imgWord m (imgWord m S u) v := by simp [imgWord, List.foldl_append]
theorem foldl_or_testBit : ∀ (l : List Int) (T i : Nat), (l.foldl (fun S x => S ||| 2 ^ x.toNat) T).testBit i = (T.testBit i || l.any fun x => decide (x.toNat = i))
  | [], T, i => by simp
  | x :: l, T, i => by
    rw [List.foldl_cons, foldl_or_testBit l, testBit_with, List.any_cons, Bool.or_assoc]
theorem ofList_testBit (l : List Int) (i : Nat) : (ofList l).testBit i = l.any fun x => decide (x.toNat = i) := by
  rw [ofList, foldl_or_testBit]; simp
theorem testBit_big {S n i : Nat} (hS : S < 2 ^ n) (hi : n ≤ i) : S.testBit i = false := Nat.testBit_lt_two_pow (Nat.lt_of_lt_of_le hS (Nat.pow_le_pow_right (by decide) hi))
theorem ofList_elems {S : Nat} (hS : S < 2 ^ 64) : ofList (intsOf (elems S)) = S := by
  apply Nat.eq_of_testBit_eq
  intro i
  rw [ofList_testBit]
  by_cases hi : i < 64
  · cases hb : S.testBit i with
    | true =>
      rw [List.any_eq_true]
      exact ⟨(i : Int), List.mem_map.2 ⟨i, (mem_elems S i).2 ⟨hi, hb⟩, rfl⟩, by simp⟩
    | false =>
      rw [List.any_eq_false]
      intro x hx
      obtain ⟨y, hy, rfl⟩ := List.mem_map.1 hx
      have := (mem_elems S y).1 hy
      simp
      rintro rfl
      rw [hb] at this
      simp at this
  · rw [testBit_big hS (by omega), List.any_eq_false]
    intro x hx
    obtain ⟨y, hy, rfl⟩ := List.mem_map.1 hx
    have := (mem_elems S y).1 hy
    simp
    omega
theorem elems_sorted (S : Nat) : (elems S).Pairwise (· < ·) := List.Pairwise.filter _ List.pairwise_lt_range
theorem isSetM_of_sorted {m : List (List Int)} {l : List Int} (hs : l.Pairwise (· < ·)) (hb : ∀ x ∈ l, 0 ≤ x ∧ x < (m.length : Int)) : isSetM m l = true := by
  rw [isSetM, Bool.and_eq_true]
  constructor
  · rw [incr, List.all_eq_true]
    intro i hi
    have hi' : i < l.length - 1 := by simpa using hi
    have h := List.pairwise_iff_getElem.1 hs i (i + 1) (by omega) (by omega) (by omega)
    simp only [decide_eq_true_eq]
    simp only [List.getD_eq_getElem?_getD, List.getElem?_eq_getElem (show i < l.length by omega), List.getElem?_eq_getElem (show i + 1 < l.length by omega), Option.getD_some]
    exact h
  · rw [List.all_eq_true]
    intro x hx
    have := hb x hx
    exact inB_true (by omega)
theorem intsOf_sorted {l : List Nat} (h : l.Pairwise (· < ·)) : (intsOf l).Pairwise (· < ·) := by
  rw [intsOf, List.pairwise_map]
  exact h.imp (fun hab => by omega)
theorem isSetM_elems {m : List (List Int)} {S : Nat} (hS : S < 2 ^ m.length) : isSetM m (intsOf (elems S)) = true := by
  refine isSetM_of_sorted (intsOf_sorted (elems_sorted S)) (fun x hx => ?_)
  obtain ⟨y, hy, rfl⟩ := List.mem_map.1 hx
  have := elems_lt hS hy
  omega
/-- A sorted list is as long as the numbers that there are, at most. -/
theorem sorted_len {l : List Int} {n : Nat} (hs : l.Pairwise (· < ·)) (hb : ∀ x ∈ l, 0 ≤ x ∧ x < (n : Int)) : l.length ≤ n := by
  have key : ∀ i (hi : i < l.length), (i : Int) ≤ l[i] := by
    intro i
    induction i with
    | zero => intro hi; exact (hb _ (List.getElem_mem hi)).1
    | succ i ih =>
      intro hi
      have h1 := ih (by omega)
      have h2 := List.pairwise_iff_getElem.1 hs i (i + 1) (by omega) hi (by omega)
      omega
  by_cases h0 : l.length = 0
  · omega
  · have h1 := key (l.length - 1) (by omega)
    have h2 := (hb _ (List.getElem_mem (show l.length - 1 < l.length by omega))).2
    omega
theorem sorted_of_incr {l : List Int} (h : incr l (l.length - 1) = true) : l.Pairwise (· < ·) := by
  rw [incr, List.all_eq_true] at h
  have step : ∀ i (h1 : i + 1 < l.length), l[i] < l[i + 1] := by
    intro i h1
    have := h i (by simp; omega)
    simp only [decide_eq_true_eq] at this
    simpa only [List.getD_eq_getElem?_getD, List.getElem?_eq_getElem (show i < l.length by omega), List.getElem?_eq_getElem h1, Option.getD_some] using this
  rw [List.pairwise_iff_getElem]
  intro i j hi hj hij
  induction j with
  | zero => omega
  | succ j ih =>
    by_cases e : i = j
    · subst e; exact step i hj
    · exact Int.lt_trans (ih (by omega) (by omega)) (step j hj)
theorem isSetM_len {m : List (List Int)} {l : List Int} (h : isSetM m l = true) : l.length ≤ m.length := by
  have h' := h
  rw [isSetM, Bool.and_eq_true] at h'
  exact sorted_len (sorted_of_incr h'.1) (isSetM_mem h)
theorem imgTo_testBit (m : List (List Int)) (x : Int) (t : Nat) : ∀ (l : List Nat) (T : Nat), (l.foldl (fun T s => T ||| 2 ^ nx m s x) T).testBit t = (T.testBit t || l.any fun s => decide (nx m s x = t))
  | [], T => by simp
  | s :: l, T => by rw [List.foldl_cons, imgTo_testBit m x t l, testBit_with, List.any_cons, Bool.or_assoc]
theorem imgSet_mem (m : List (List Int)) {S : Nat} (hS : S < 2 ^ m.length) (hm : m.length ≤ 64) (x : Int) (t : Nat) : (imgSet m S x).testBit t = true ↔ ∃ s, s < m.length ∧ S.testBit s = true ∧ nx m s x = t := by
  rw [imgSet, imgTo, imgTo_testBit]
  simp only [Nat.zero_testBit, Bool.false_or, List.any_eq_true, decide_eq_true_eq]
  constructor
  · rintro ⟨s, hs, rfl⟩
    exact ⟨s, elems_lt hS hs, ((mem_elems S s).1 hs).2, rfl⟩
  · rintro ⟨s, h1, h2, rfl⟩
    exact ⟨s, (mem_elems S s).2 ⟨by omega, h2⟩, rfl⟩
theorem all_cons_parts {m : List (List Int)} {x : Int} {u : List Int} (h : (x :: u).all (inB 0 ((letters m : Int) - 1)) = true) : (0 ≤ x ∧ x < letters m) ∧ u.all (inB 0 ((letters m : Int) - 1)) = true := by
  rw [List.all_cons, Bool.and_eq_true, inB_iff] at h
  exact ⟨⟨h.1.1, by omega⟩, h.2⟩
theorem imgWord_mem {m : List (List Int)} (hv : validM m = true) : ∀ (u : List Int) (S t : Nat), S < 2 ^ m.length → u.all (inB 0 ((letters m : Int) - 1)) = true →
    ((imgWord m S u).testBit t = true ↔ ∃ s, s < m.length ∧ S.testBit s = true ∧ runM m s u = t)
  | [], S, t, hS, _ => by
    constructor
    · intro h
      refine ⟨t, ?_, h, rfl⟩
      by_cases ht : t < m.length
      · exact ht
      · have := testBit_big hS (show m.length ≤ t by omega)
        simp only [imgWord, List.foldl_nil] at h
        rw [this] at h
        cases h
    · rintro ⟨s, _, h, rfl⟩
      exact h
  | x :: u, S, t, hS, hu => by
    obtain ⟨hx, hu'⟩ := all_cons_parts hu
    have hm : m.length ≤ 64 := by have := (valid_parts hv).2.1; omega
    show (imgWord m (imgSet m S x) u).testBit t = true ↔ _
    rw [imgWord_mem hv u _ t (imgSet_lt hv hS hx.1 hx.2) hu']
    constructor
    · rintro ⟨s, h1, h2, h3⟩
      obtain ⟨q, g1, g2, rfl⟩ := (imgSet_mem m hS hm x s).1 h2
      exact ⟨q, g1, g2, h3⟩
    · rintro ⟨q, g1, g2, h3⟩
      refine ⟨nx m q x, (nx_ok hv g1 hx.1 hx.2).1, (imgSet_mem m hS hm x _).2 ⟨q, g1, g2, rfl⟩, h3⟩
theorem imageM_set {m : List (List Int)} (hv : validM m = true) {s u : List Int} (hs : isSetM m s = true) (hu : isWordM m u = true) : isSetM m (imageM m s u) = true := by
  have hm : m.length ≤ 64 := by have := (valid_parts hv).2.1; omega
  simp only [isWordM, Bool.and_eq_true] at hu
  exact isSetM_elems (imgWord_lt hv u _ (ofList_lt m.length hm s (isSetM_mem hs)) hu.2)
end Go.Proofs.YtlpfglkopnmlnaaDoor
namespace Go.Proofs.YtlpfglkopnmlnaaDoor
open Go.RowKit Go.Shelf
/-- Where a word leads from each of the first states. -/
def endsTo (m : List (List Int)) (u : List Int) (k : Nat) : List Int := (List.range k).map fun s => ((runM m s u : Nat) : Int)
theorem endsTo_succ (m : List (List Int)) (u : List Int) (k : Nat) : (endsTo m u (k + 1)).map (fun x => Value.int .i64 x) = (endsTo m u k).map (fun x => Value.int .i64 x) ++ [.int .i64 (runM m k u : Nat)] := by
  simp [endsTo, List.range_succ]
theorem endsTo_length (m : List (List Int)) (u : List Int) (k : Nat) : (endsTo m u k).length = k := by simp [endsTo]
theorem endsTo_get (m : List (List Int)) (u : List Int) (k s : Nat) (h : s < k) : (endsTo m u k).getD s 0 = ((runM m s u : Nat) : Int) := by simp [endsTo, List.getD_eq_getElem?_getD, h]
set_option maxRecDepth 100000 in
set_option maxHeartbeats 2000000 in
theorem rEnds_any (v u : Value) (m : List (List Int)) (l : List Int) (w : World) (h : Rows w v m) (hu : Ints w u l) (hv : validM m = true) (hw : isWordM m l = true) :
    Calls Tryd.prog 89 #[.agg #[v], u] w fun e w' => ∃ r, e = .returned r ∧ Ints w' r (endsTo m l m.length) ∧ Below w.heap.size w w' := by
  obtain ⟨j0, hj, hy0, hy1, hy2⟩ := info_parts infoInt
  have hn : m.length ≤ 60 := (valid_parts hv).2.1
  have hb0 := bal (Below.refl _ w) (.cells #[v] 24)
  obtain ⟨A, cap, rfl, _⟩ := id h
  obtain ⟨Au, capu, rfl, _⟩ := id hu
  have hbx : (w.alloc (.cells #[.slice A m.length cap] 24)).cell? ⟨w.heap.size, 0, none⟩ = some (.slice A m.length cap) := by simp
  have hs0 : (w.alloc (.cells #[.slice A m.length cap] 24)).heap.size = w.heap.size + 1 := by simp
  go_enter Tryd.func89, Tryd.ntmps89
  go_wp2
  generalize hX : w.alloc (.cells #[.slice A m.length cap] 24) = X at *
  clear hX
  go_loopw [5, 6] (fun r i wr => ∃ k : Nat, k ≤ m.length ∧ i = .int .i64 k ∧ Below (w.heap.size + 1) X wr ∧ wr.ownsRow (w.heap.size + 1) 3 1 r k ((endsTo m l k).map fun x => .int .i64 x)) (fun _ i _ => m.length - (intOf i).toNat)
  case atStart => exact ⟨0, Nat.zero_le _, rfl, Below.refl _ _, ⟨rfl, .inl ⟨rfl, rfl⟩⟩⟩
  case round =>
    obtain ⟨k, hk, rfl, hB, ho⟩ := hrel
    have hbr : wr.cell? ⟨w.heap.size, 0, none⟩ = some (.slice A m.length cap) := (hB.cell (p := ⟨w.heap.size, 0, none⟩) (Nat.lt_succ_self _)).trans hbx
    have hsz : w.heap.size + 1 ≤ wr.heap.size := by have := hB.size; omega
    have hBw : Below w.heap.size w wr := hb0.trans (hB.mono (Nat.le_succ _))
    by_cases hlt : k < m.length
    · have hkm : (k : Int) < m.length := by omega
      go_wp2_with fail
      refine (rRun_any _ _ m k l _ (h.below hBw) (hu.below hBw) hv hlt hw).mono ?_
      rintro e w2 ⟨rfl, hb2⟩
      have hs2 := hb2.size
      have hB2 := hB.trans (hb2.mono hsz)
      have ho2 := owns_kept ho (fun q _ hq => hb2.block q hq)
      have Hs := hid (endsTo_succ m l k)
      generalize runM m k l = y at *
      go_wp2_with (at_builtin; refine wpList_append_own_at _ rfl _ _ 41 rfl (w.heap.size + 1) 3 j0 (.int .i64 0) 1 8 Tryd.underlying41 hj hy0 hy1 hy2 rfl (by decide) _ _ _ rfl (ho2.alloc _) ⟨w2.heap.size, 0, none⟩ 1 1 [.int .i64 (y : Int)] rfl rfl (cell_one_new _ _ _) (by simp [Value.oneCell']) (by unfold maxLen; omega) (by omega) (by simp; omega) ?_; intro v' w5 hown' hgrow' _ hat)
      go_roundw
      case rel =>
        refine ⟨k + 1, by omega, by go_num, ?_, by rw [Hs.out]; exact hown'⟩
        refine (hB2.alloc (by omega) _).grown hgrow' (by simp; omega) (fun q hq => ?_)
        rcases ho2.2 with ⟨hr, _⟩ | ⟨g, c, cur, hr, hg, _⟩
        · rw [hr] at hq; cases hq
        · rw [hr] at hq; cases hq; exact hg
      case measure => simp [intOf]; omega
    · obtain rfl : k = m.length := by omega
      go_wp2
      go_ret
      exact ⟨_, rfl, Ints.of_own (n₀ := w.heap.size + 1) (e := 3) (by rw [endsTo_length]; exact ho) (by rw [endsTo_length]; unfold big; omega), hBw⟩
theorem elems_range {S n : Nat} (hS : S < 2 ^ n) (hn : n ≤ 64) : elems S = (List.range n).filter S.testBit := by
  have e : List.range 64 = List.range n ++ List.range' n (64 - n) := by
    rw [List.range_eq_range', List.range_eq_range', show (64 : Nat) = n + (64 - n) by omega, ← List.range'_append_1]
    simp
  rw [elems, e, List.filter_append]
  have : (List.range' n (64 - n)).filter S.testBit = [] := by
    rw [List.filter_eq_nil_iff]
    intro x hx
    have := (List.mem_range'_1.1 hx).1
    rw [testBit_big hS this]
    simp
  rw [this, List.append_nil]
/-- The states that are in a list, out of the first ones. -/
def pick (p : Nat → Bool) (k : Nat) : List Int := ((List.range k).filter p).map fun t : Nat => (t : Int)
theorem pick_succ (p : Nat → Bool) (k : Nat) : (pick p (k + 1)).map (fun x => Value.int .i64 x) = (pick p k).map (fun x => Value.int .i64 x) ++ (if p k then [.int .i64 (k : Int)] else []) := by
  unfold pick
  rw [List.range_succ, List.filter_append]
  by_cases h : p k = true <;> simp [h]
theorem pick_length (p : Nat → Bool) (k : Nat) : (pick p k).length ≤ k := by
  unfold pick
  have := List.length_filter_le p (List.range k)
  simpa using this
def thereM (m : List (List Int)) (s u : List Int) : List Int := s.map fun x => ((runM m x.toNat u : Nat) : Int)
theorem image_pick {m : List (List Int)} (hv : validM m = true) {s u : List Int} (hs : isSetM m s = true) (hu : isWordM m u = true) : pick (fun t => hasB (thereM m s u) t) m.length = imageM m s u := by
  have hm : m.length ≤ 64 := by have := (valid_parts hv).2.1; omega
  have hS : ofList s < 2 ^ m.length := ofList_lt m.length hm s (isSetM_mem hs)
  simp only [isWordM, Bool.and_eq_true] at hu
  rw [imageM, elems_range (imgWord_lt hv u _ hS hu.2) hm, pick, intsOf]
  congr 1
  apply List.filter_congr
  intro t _
  rw [Bool.eq_iff_iff, imgWord_mem hv u _ t hS hu.2, hasB, List.any_eq_true]
  constructor
  · rintro ⟨y, hy, ht⟩
    obtain ⟨x, hx, rfl⟩ := List.mem_map.1 hy
    have hxm := isSetM_mem hs x hx
    refine ⟨x.toNat, by omega, ?_, ?_⟩
    · rw [ofList_testBit, List.any_eq_true]
      exact ⟨x, hx, by simp⟩
    · have := beq_iff_eq.1 ht
      omega
  · rintro ⟨q, hq, hb, rfl⟩
    rw [ofList_testBit, List.any_eq_true] at hb
    obtain ⟨x, hx, hxq⟩ := hb
    refine ⟨_, List.mem_map.2 ⟨x, hx, rfl⟩, ?_⟩
    rw [of_decide_eq_true hxq]
    simp
end Go.Proofs.YtlpfglkopnmlnaaDoor
namespace Go.Proofs.YtlpfglkopnmlnaaDoor
open Go.RowKit Go.Shelf
theorem hasB_bool (v : Value) (l : List Int) (n : Int) (b : Bool) (w : World) (h : Ints w v l) (hb : hasB l n = b) :
    Calls Tryd.prog 82 #[v, .int .i64 n] w fun e w' => e = .returned (.bool b) ∧ w = w' := by
  subst hb; exact rHas_any v l n w h
theorem appended_below {B : Nat} {X w2 w5 : World} {r : Value} {k : Nat} {xs : List Value} {e : TypeId} {s : Nat} {o : Obj} (hB : Below B X w2) (ho : w2.ownsRow B e s r k xs) (hb : B ≤ w2.heap.size) (hg : (w2.alloc o).grownBy w5 r.ownBlock) : Below B X w5 := by
  refine (hB.alloc hb o).grown hg (by simp; omega) (fun q hq => ?_)
  rcases ho.2 with ⟨hr, _⟩ | ⟨g, c, cur, hr, hg, _⟩
  · rw [hr] at hq; cases hq
  · rw [hr] at hq; cases hq; exact hg
theorem there_succ (m : List (List Int)) (s u : List Int) (k : Nat) (hk : k < s.length) : (thereM m (s.take (k + 1)) u).map (fun x => Value.int .i64 x) = (thereM m (s.take k) u).map (fun x => Value.int .i64 x) ++ [.int .i64 (runM m (s.getD k 0).toNat u : Nat)] := by
  rw [List.take_succ_eq_append_getElem hk, getD_elem s k hk, thereM, List.map_append, List.map_append]
  rfl
theorem there_length (m : List (List Int)) (s u : List Int) : (thereM m s u).length = s.length := by simp [thereM]
set_option maxRecDepth 100000 in
set_option maxHeartbeats 2000000 in
theorem rImage_any (v s u : Value) (m : List (List Int)) (sl l : List Int) (w : World) (h : Rows w v m) (hs : Ints w s sl) (hu : Ints w u l) (hv : validM m = true) (h1 : isSetM m sl = true) (hw : isWordM m l = true) :
    Calls Tryd.prog 60 #[.agg #[v], s, u] w fun e w' => ∃ r, e = .returned r ∧ Ints w' r (imageM m sl l) ∧ Below w.heap.size w w' := by
  obtain ⟨j0, hj, hy0, hy1, hy2⟩ := info_parts infoInt
  have hn : m.length ≤ 60 := (valid_parts hv).2.1
  have hsl := isSetM_len h1
  have hb0 := bal (Below.refl _ w) (.cells #[v] 24)
  obtain ⟨A, cap, rfl, _⟩ := id h
  obtain ⟨Au, capu, rfl, _⟩ := id hu
  obtain ⟨As, caps, rfl, _⟩ := id hs
  have hbx : (w.alloc (.cells #[.slice A m.length cap] 24)).cell? ⟨w.heap.size, 0, none⟩ = some (.slice A m.length cap) := by simp
  have Hpick := hid (image_pick hv h1 hw)
  go_enter Tryd.func60, Tryd.ntmps60
  go_wp2_with fail
  refine (rEnds_any _ _ m l _ (h.alloc _) (hu.alloc _) hv hw).mono ?_
  rintro e X ⟨r, rfl, hends, hbX⟩
  have hX := btr hb0 hbX
  have hbX' := (hbX.cell (p := ⟨w.heap.size, 0, none⟩) (by simp)).trans hbx
  have hlt : w.heap.size < X.heap.size := World.block_lt_of_cell? _ _ hbX'
  have hsX := hs.below hX
  obtain ⟨As', caps', hAs, _, hcs⟩ := id hsX
  simp only [Value.slice.injEq] at hAs
  obtain ⟨rfl, -, rfl⟩ := hAs
  have Hcs := hid hcs
  obtain ⟨Ae, ce, rfl, _, hce⟩ := id hends
  have Hce := hid hce
  clear hce hcs hb0 hbX hbx
  rw [endsTo_length] at *
  go_wp2
  go_loopw [8, 10] (fun r i wr => ∃ k : Nat, k ≤ sl.length ∧ i = .int .i64 k ∧ Below X.heap.size X wr ∧ wr.ownsRow X.heap.size 3 1 r k ((thereM m (sl.take k) l).map fun x => .int .i64 x)) (fun _ i _ => sl.length - (intOf i).toNat)
  case atStart => exact ⟨0, Nat.zero_le _, rfl, Below.refl _ _, ⟨rfl, .inl ⟨rfl, rfl⟩⟩⟩
  case round =>
    obtain ⟨k, hk, rfl, hB, ho⟩ := hrel
    have hbr := (hB.cell (p := ⟨w.heap.size, 0, none⟩) hlt).trans hbX'
    have hsz := hB.size
    by_cases hlt' : k < sl.length
    · obtain ⟨bs, os, hAs, hcells⟩ := Hcs.out k hlt'
      subst hAs
      have hcr := (hB.cell (p := ⟨bs, os + k, none⟩) (World.block_lt_of_cell? _ _ hcells)).trans hcells
      have hmem := isSetM_mem h1 _ (show sl.getD k 0 ∈ sl by rw [getD_elem sl k hlt']; exact List.getElem_mem _)
      have Hs := hid (there_succ m sl l k hlt')
      clear hcells
      generalize hq : sl.getD k 0 = q at *
      obtain ⟨qn, rfl⟩ := Int.eq_ofNat_of_zero_le hmem.1
      rw [Int.toNat_natCast] at Hs
      obtain ⟨be, oe, hAe, hcell⟩ := Hce.out qn (by omega)
      subst hAe
      rw [endsTo_get _ _ _ _ (by omega)] at hcell
      have hcr2 := (hB.cell (p := ⟨be, oe + qn, none⟩) (World.block_lt_of_cell? _ _ hcell)).trans hcell
      have hqm : (qn : Int) < m.length := by omega
      have hks : (k : Int) < sl.length := by omega
      clear hcell hq
      generalize runM m qn l = y at *
      go_wp2_with (at_builtin; refine wpList_append_own_at _ rfl _ _ 41 rfl X.heap.size 3 j0 (.int .i64 0) 1 8 Tryd.underlying41 hj hy0 hy1 hy2 rfl (by decide) _ _ _ rfl (ho.alloc _) ⟨wr.heap.size, 0, none⟩ 1 1 [.int .i64 (y : Int)] rfl rfl (cell_one_new _ _ _) (by simp [Value.oneCell']) (by unfold maxLen; omega) (by omega) (by simp; omega) ?_; intro v' w5 hown' hgrow' _ hat)
      go_roundw
      case rel =>
        refine ⟨k + 1, by omega, by go_num, appended_below hB ho hsz hgrow', ?_⟩
        rw [Hs.out]
        exact hown'
      case measure => simp [intOf]; omega
    · obtain rfl : k = sl.length := by omega
      rw [List.take_of_length_le (Nat.le_refl _)] at ho
      have hth : Ints wr u8 (thereM m sl l) := Ints.of_own (n₀ := X.heap.size) (e := 3) (by rw [there_length]; exact ho) (by rw [there_length]; unfold big; omega)
      obtain ⟨Y, rfl⟩ : ∃ Y : World, Y = wr := ⟨_, rfl⟩
      obtain ⟨A8, c8, rfl, _⟩ := id hth
      clear ho
      go_wp2
      go_loopw [9, 11] (fun r i wr => ∃ k : Nat, k ≤ m.length ∧ i = .int .i64 k ∧ Below Y.heap.size Y wr ∧ wr.ownsRow Y.heap.size 3 1 r (pick (fun t => hasB (thereM m sl l) t) k).length ((pick (fun t => hasB (thereM m sl l) t) k).map fun x => .int .i64 x)) (fun _ i _ => m.length - (intOf i).toNat)
      case atStart => exact ⟨0, Nat.zero_le _, rfl, Below.refl _ _, ⟨rfl, .inl ⟨rfl, rfl⟩⟩⟩
      case round =>
        obtain ⟨k, hk, rfl, hB2, ho⟩ := hrel
        have hbr2 := (hB2.cell (p := ⟨w.heap.size, 0, none⟩) (by show w.heap.size < _; omega)).trans hbr
        have hsz2 := hB2.size
        by_cases hlt' : k < m.length
        · have Hs := hid (pick_succ (fun t => hasB (thereM m sl l) t) k)
          have hpl := pick_length (fun t => hasB (thereM m sl l) t) k
          have Hlen : Hid ((pick (fun t => hasB (thereM m sl l) t) (k + 1)).length = (pick (fun t => hasB (thereM m sl l) t) k).length + (if hasB (thereM m sl l) k then 1 else 0)) := by
            have := congrArg List.length Hs.out
            unfold Hid
            simp only [List.length_map, List.length_append] at this
            rw [this]
            split <;> simp
          generalize pick (fun t => hasB (thereM m sl l) t) k = pk at *
          have hkm : (k : Int) < m.length := by omega
          by_cases hb : hasB (thereM m sl l) k = true
          · go_wp2_with fail
            refine (hasB_bool _ (thereM m sl l) k true _ (hth.below hB2) hb).mono ?_
            rintro e w2 ⟨rfl, rfl⟩
            go_wp2_with (at_builtin; refine wpList_append_own_at _ rfl _ _ 41 rfl Y.heap.size 3 j0 (.int .i64 0) 1 8 Tryd.underlying41 hj hy0 hy1 hy2 rfl (by decide) _ _ _ rfl (ho.alloc _) ⟨wr.heap.size, 0, none⟩ 1 1 [.int .i64 (k : Int)] rfl rfl (cell_one_new _ _ _) (by simp [Value.oneCell']) (by unfold maxLen; omega) (by omega) (by simp; omega) ?_; intro v' w5 hown' hgrow' _ hat)
            go_roundw
            case rel =>
              refine ⟨k + 1, by omega, by go_num, appended_below hB2 ho hsz2 hgrow', ?_⟩
              rw [Hs.out, Hlen.out, if_pos hb, if_pos hb]
              exact hown'
            case measure => simp [intOf]; omega
          · have hb' : hasB (thereM m sl l) k = false := by simpa using hb
            go_wp2_with fail
            refine (hasB_bool _ (thereM m sl l) k false _ (hth.below hB2) hb').mono ?_
            rintro e w2 ⟨rfl, rfl⟩
            go_wp2
            go_roundw
            case rel =>
              refine ⟨k + 1, by omega, by go_num, hB2, ?_⟩
              rw [Hs.out, Hlen.out, if_neg hb, if_neg hb, List.append_nil, Nat.add_zero]
              exact ho
            case measure => simp [intOf]; omega
        · obtain rfl : k = m.length := by omega
          have hpl := pick_length (fun t => hasB (thereM m sl l) t) m.length
          rw [Hpick.out] at ho hpl
          go_wp2
          go_ret
          exact ⟨_, rfl, Ints.of_own (n₀ := Y.heap.size) (e := 3) ho (by unfold big; omega), btr (btr hX hB) hB2⟩
end Go.Proofs.YtlpfglkopnmlnaaDoor
namespace Go.Proofs.YtlpfglkopnmlnaaDoor
open Go.RowKit Go.Shelf
theorem three_alloc (w : World) (a b c : Obj) : (((w.alloc a).alloc b).alloc c).heap[w.heap.size]? = some a ∧ (((w.alloc a).alloc b).alloc c).heap[w.heap.size + 1]? = some b ∧ (((w.alloc a).alloc b).alloc c).heap[w.heap.size + 2]? = some c := by
  have e1 : (w.alloc a).heap.size = w.heap.size + 1 := by simp
  have e2 : ((w.alloc a).alloc b).heap.size = w.heap.size + 2 := by simp
  refine ⟨?_, ?_, ?_⟩
  · rw [Below.heap_alloc _ _ _ (by omega), Below.heap_alloc _ _ _ (by omega)]; exact heap_alloc_new _ _
  · rw [Below.heap_alloc _ _ _ (by omega), ← e1]; exact heap_alloc_new _ _
  · rw [← e2]; exact heap_alloc_new _ _
theorem off_of_own {W : World} {B base n g cap : Nat} {gg : Option Nat} {row : List Int} (h : W.ownsRow B 3 1 (.slice (some ⟨g, 0, none⟩) n cap) n (row.map fun x => .int .i64 x)) (hn : row.length = n) (hb : base ≤ g) (hne : some g ≠ gg) (hl : n ≤ big) : IntsOff W base gg (.slice (some ⟨g, 0, none⟩) n cap) row := by
  subst hn
  refine ⟨_, cap, rfl, hl, fun i hi => ⟨g, 0, rfl, hb, hne, ?_⟩⟩
  rw [Nat.zero_add, h.cellAt i (by omega)]
  simp [List.getElem?_map, List.getElem?_eq_getElem hi, List.getD_eq_getElem?_getD]
end Go.Proofs.YtlpfglkopnmlnaaDoor
namespace Go.Proofs.YtlpfglkopnmlnaaDoor
open Go.RowKit Go.Shelf
theorem Ints.two' (w : World) (x y : Int) (t : TypeId) (k : Nat) (hk : k = w.heap.size) : Ints (w.alloc (.cells #[.int .i64 x, .int .i64 y] t)) (.slice (some ⟨k, 0, none⟩) 2 2) [x, y] := by
  subst hk
  refine ⟨_, 2, rfl, by unfold big; simp, fun i hi => ⟨w.heap.size, 0, rfl, ?_⟩⟩
  have h2 : i = 0 ∨ i = 1 := by simp at hi; omega
  rcases h2 with rfl | rfl <;> simp
def mA : List (List Int) := [[1, 0], [0, 0]]
theorem rSame_eq (v u : Value) (l : List Int) (w : World) (h : Ints w v l) (hu : Ints w u l) : Calls Tryd.prog 33 #[v, u] w fun e w' => e = .returned (.bool true) ∧ Below w.heap.size w w' := by
  have hs := rSame_any v u l l w h hu
  rw [decide_eq_true rfl] at hs
  exact hs
attribute [local irreducible] mA
end Go.Proofs.YtlpfglkopnmlnaaDoor
namespace Go.Proofs.YtlpfglkopnmlnaaDoor
open Go.RowKit Go.Shelf
theorem rValid_bool (v : Value) (m : List (List Int)) (b : Bool) (w : World) (h : Rows w v m) (hb : validM m = b) :
    Calls Tryd.prog 12 #[.agg #[v]] w fun e w' => e = .returned (.bool b) ∧ Below w.heap.size w w' := by
  subst hb; exact rValid_any v m w h
theorem rWord_bool (v u : Value) (m : List (List Int)) (l : List Int) (b : Bool) (w : World) (h : Rows w v m) (hv : validM m = true) (hu : Ints w u l) (hb : isWordM m l = b) :
    Calls Tryd.prog 25 #[.agg #[v], u] w fun e w' => e = .returned (.bool b) ∧ Below w.heap.size w w' := by
  subst hb; exact rWord_any v u m l w h hv hu
end Go.Proofs.YtlpfglkopnmlnaaDoor
namespace Go.Proofs.YtlpfglkopnmlnaaDoor
open Go.RowKit Go.Shelf
def namesM (l : List Int) (n : Nat) : Bool := decide (l.length = n) && (List.range n).all fun i => hasB l i
/-- What holds as many as there are holds no other. -/
theorem no_other {α : Type} [BEq α] [LawfulBEq α] : ∀ (s l : List α), s.Nodup → (∀ x ∈ s, x ∈ l) → l.length = s.length → ∀ x ∈ l, x ∈ s
  | [], l, _, _, hl => by
    have : l = [] := List.eq_nil_of_length_eq_zero hl
    subst this
    intro x hx
    cases hx
  | a :: s, l, hn, hs, hl => by
    intro x hx
    have ha := hs a (by simp)
    have hn' := List.nodup_cons.1 hn
    by_cases e : x = a
    · simp [e]
    · refine List.mem_cons_of_mem _ (no_other s (l.erase a) hn'.2 (fun y hy => ?_) ?_ x ?_)
      · have hya : y ≠ a := fun e => hn'.1 (e ▸ hy)
        exact (List.mem_erase_of_ne hya).2 (hs y (List.mem_cons_of_mem _ hy))
      · rw [List.length_erase_of_mem ha, hl]; simp
      · exact (List.mem_erase_of_ne e).2 hx
theorem hasB_mem {l : List Int} {n : Int} : hasB l n = true ↔ n ∈ l := by
  rw [hasB, List.any_eq_true]
  constructor
  · rintro ⟨x, hx, e⟩
    rw [beq_iff_eq] at e
    exact e ▸ hx
  · intro h
    exact ⟨n, h, by simp⟩
theorem names_bound {l : List Int} {n : Nat} (h : namesM l n = true) : ∀ x ∈ l, 0 ≤ x ∧ x < (n : Int) := by
  rw [namesM, Bool.and_eq_true, decide_eq_true_eq, List.all_eq_true] at h
  intro x hx
  have hs : ∀ y ∈ (List.range n).map fun i : Nat => (i : Int), y ∈ l := by
    intro y hy
    obtain ⟨i, hi, rfl⟩ := List.mem_map.1 hy
    exact hasB_mem.1 (h.2 i hi)
  have hnd : ((List.range n).map fun i : Nat => (i : Int)).Nodup := by
    rw [List.nodup_iff_pairwise_ne, List.pairwise_map]
    exact List.pairwise_lt_range.imp (fun hab e => by omega)
  obtain ⟨i, hi, rfl⟩ := List.mem_map.1 (no_other _ l hnd hs (by simp [h.1]) x hx)
  have := List.mem_range.1 hi
  omega
theorem hasB_bit {l : List Int} (h : ∀ x ∈ l, 0 ≤ x) (t : Nat) : hasB l t = (ofList l).testBit t := by
  rw [ofList_testBit, hasB, Bool.eq_iff_iff, List.any_eq_true, List.any_eq_true]
  constructor
  · rintro ⟨x, hx, e⟩
    exact ⟨x, hx, by rw [beq_iff_eq] at e; simp [e]⟩
  · rintro ⟨x, hx, e⟩
    have h1 := of_decide_eq_true e
    have h2 := h x hx
    exact ⟨x, hx, by rw [beq_iff_eq]; omega⟩
/-- The program's test on names. -/
theorem names_iff {l : List Int} {n : Nat} (hn : n ≤ 64) : namesM l n = (decide (l.length = n) && (l.all (inB 0 ((n : Int) - 1)) && decide (ofList l = 2 ^ n - 1))) := by
  rw [Bool.eq_iff_iff]
  constructor
  · intro h
    have hb := names_bound h
    have h' := h
    rw [namesM, Bool.and_eq_true, decide_eq_true_eq, List.all_eq_true] at h'
    rw [Bool.and_eq_true, Bool.and_eq_true, decide_eq_true_eq, decide_eq_true_eq, List.all_eq_true]
    refine ⟨h'.1, fun x hx => inB_true (by have := hb x hx; omega), ?_⟩
    apply Nat.eq_of_testBit_eq
    intro i
    rw [testBit_below, ← hasB_bit (fun x hx => (hb x hx).1)]
    by_cases hi : i < n
    · rw [h'.2 i (List.mem_range.2 hi)]; simp [hi]
    · cases hc : hasB l i with
      | true => have := (hb _ (hasB_mem.1 hc)).2; omega
      | false => simp [hi]
  · intro h
    rw [Bool.and_eq_true, Bool.and_eq_true, decide_eq_true_eq, decide_eq_true_eq, List.all_eq_true] at h
    rw [namesM, Bool.and_eq_true, decide_eq_true_eq, List.all_eq_true]
    refine ⟨h.1, fun i hi => ?_⟩
    have hi' := List.mem_range.1 hi
    rw [hasB_bit (fun x hx => by have := (inB_iff.1 (h.2.1 x hx)).1; omega), h.2.2, testBit_below]
    simp [hi']
set_option maxHeartbeats 1000000 in
theorem rNames_any (v : Value) (l : List Int) (n : Nat) (w : World) (hn : n ≤ 60) (h : Ints w v l) :
    Calls Tryd.prog 49 #[v, .int .i64 n] w fun e w' => e = .returned (.bool (namesM l n)) ∧ w = w' := by
  obtain ⟨A, cap, rfl, hl, _⟩ := id h
  by_cases hlen : l.length = n
  · have d0 : ((l.length : Int) != (n : Int)) = false := by simp; omega
    have Hlen := hid hlen
    clear hlen
    go_enter Tryd.func49, Tryd.ntmps49
    go_wp2
    go_loop [5] (fun i => ∃ k : Nat, k ≤ n ∧ i = .int .i64 k ∧ (List.range k).all (fun i => hasB l i) = true) (fun i => n - (intOf i).toNat)
    case atStart => exact ⟨0, Nat.zero_le _, rfl, rfl⟩
    case round =>
      obtain ⟨k, hk, rfl, hall⟩ := hrel
      by_cases hlt : k < n
      · have hks : (k : Int) < n := by omega
        have Ha := hid hall
        clear hall
        by_cases hb : hasB l k = true
        · go_wp2_with fail
          refine (hasB_bool _ l k true _ h hb).mono ?_
          rintro e w2 ⟨rfl, rfl⟩
          go_wp2
          go_round
          case rel => exact ⟨k + 1, by omega, by go_num, by rw [List.range_succ, List.all_append, Ha.out]; simp [hb]⟩
          case measure => simp [intOf]; omega
        · have hb' : hasB l k = false := by simpa using hb
          go_wp2_with fail
          refine (hasB_bool _ l k false _ h hb').mono ?_
          rintro e w2 ⟨rfl, rfl⟩
          go_wp2
          go_ret
          refine ⟨ret_bool ?_, rfl⟩
          rw [namesM]
          have : (List.range n).all (fun i => hasB l i) = false := by
            rw [List.all_eq_false]
            exact ⟨k, List.mem_range.2 hlt, by simp [hb']⟩
          rw [this, Bool.and_false]
      · obtain rfl : k = n := by omega
        go_wp2
        go_ret
        exact ⟨ret_bool (by rw [namesM, hall, decide_eq_true Hlen.out]; rfl), rfl⟩
  · have d0 : ((l.length : Int) != (n : Int)) = true := by simp; omega
    have Hlen := hid hlen
    clear hlen
    go_enter Tryd.func49, Tryd.ntmps49
    go_wp2
    go_ret
    exact ⟨ret_bool (by rw [namesM, decide_eq_false Hlen.out]; rfl), rfl⟩
end Go.Proofs.YtlpfglkopnmlnaaDoor
namespace Go.Proofs.YtlpfglkopnmlnaaDoor
open Go.RowKit Go.Shelf
/-- An automaton, and no error. -/
def AutoOk (w : World) (m : List (List Int)) (e : Ending) (w' : World) : Prop := ∃ r, e = .returned (.tuple #[.agg #[r], .int .i64 0]) ∧ Rows w' r m ∧ Below w.heap.size w w'
/-- No automaton, and an error. -/
def AutoErr (w : World) (n : Int) (e : Ending) (w' : World) : Prop := e = .returned (.tuple #[.agg #[.slice none 0 0], .int .i64 n]) ∧ Below w.heap.size w w'
theorem store_res {W : World} {b : Nat} {x : Value} {t : TypeId} (h : W.heap[b]? = some (.cells #[x] t (0, 0))) (u : Value) : (W.setCell ⟨b, 0, none⟩ u).cell? ⟨b, 0, none⟩ = some u := cell_of_one (by simpa using heap_setCell_same W b 0 _ _ u h)
theorem two_alloc (w : World) (a b : Obj) : ((w.alloc a).alloc b).heap[w.heap.size]? = some a ∧ ((w.alloc a).alloc b).heap[w.heap.size + 1]? = some b := by
  have e1 : (w.alloc a).heap.size = w.heap.size + 1 := by simp
  refine ⟨?_, ?_⟩
  · rw [Below.heap_alloc _ _ _ (by omega)]; exact heap_alloc_new _ _
  · rw [← e1]; exact heap_alloc_new _ _
end Go.Proofs.YtlpfglkopnmlnaaDoor
namespace Go.Proofs.YtlpfglkopnmlnaaDoor
open Go.RowKit Go.Shelf
theorem owns_block {B g n c k : Nat} {e : TypeId} {s : Nat} {xs : List Value} {w w' : World} (h : w.ownsRow B e s (.slice (some ⟨g, 0, none⟩) n c) k xs) (hg : w'.heap[g]? = w.heap[g]?) : w'.ownsRow B e s (.slice (some ⟨g, 0, none⟩) n c) k xs := by
  obtain ⟨h1, h2⟩ := h
  refine ⟨h1, ?_⟩
  rcases h2 with ⟨h', _⟩ | ⟨g', cap', cur, h', hB, hh, r⟩
  · simp at h'
  · simp only [Value.slice.injEq, Option.some.injEq, Addr.mk.injEq, and_true, true_and] at h'
    obtain ⟨rfl, rfl, rfl⟩ := h'
    exact .inr ⟨g, c, cur, rfl, hB, by rw [hg]; exact hh, r⟩
/-- A round in which a number is appended to a row of a row of rows. -/
theorem power_round {Z wo wr w2 w5 : World} {k n j g1 cap1 : Nat} {xs : List Value} {x : Value} {e : TypeId} {ys : List Value} {o : Obj} {old : Option Nat}
    (hg : (w2.alloc o).grownBy w5 old) (ho : ∀ q, old = some q → wo.heap.size ≤ q ∧ q ≠ Z.heap.size) (hown : w5.ownsRow wo.heap.size e 1 (.slice (some ⟨g1, 0, none⟩) (j + 1) cap1) (j + 1) ys)
    (hO : w5.ownsRow Z.heap.size 41 1 (.slice (some ⟨Z.heap.size, 0, none⟩) n n) n (xs.set k x)) (hb2 : Below wr.heap.size wr w2) (hK : ∀ b, b < wo.heap.size → b ≠ Z.heap.size → wr.heap[b]? = wo.heap[b]?)
    (hB : Below Z.heap.size Z wr) (hsz : Z.heap.size < wo.heap.size) (hszi : wo.heap.size ≤ wr.heap.size) (hG : Z.heap.size < w2.heap.size) :
    (w5.setCell ⟨Z.heap.size, k, none⟩ (.slice (some ⟨g1, 0, none⟩) (j + 1) cap1)).ownsRow Z.heap.size 41 1 (.slice (some ⟨Z.heap.size, 0, none⟩) n n) n (xs.set k (.slice (some ⟨g1, 0, none⟩) (j + 1) cap1)) ∧
    (w5.setCell ⟨Z.heap.size, k, none⟩ (.slice (some ⟨g1, 0, none⟩) (j + 1) cap1)).ownsRow wo.heap.size e 1 (.slice (some ⟨g1, 0, none⟩) (j + 1) cap1) (j + 1) ys ∧
    (∀ b, b < wo.heap.size → b ≠ Z.heap.size → (w5.setCell ⟨Z.heap.size, k, none⟩ (.slice (some ⟨g1, 0, none⟩) (j + 1) cap1)).heap[b]? = wo.heap[b]?) ∧
    wo.heap.size ≤ (w5.setCell ⟨Z.heap.size, k, none⟩ (.slice (some ⟨g1, 0, none⟩) (j + 1) cap1)).heap.size ∧
    Below Z.heap.size Z (w5.setCell ⟨Z.heap.size, k, none⟩ (.slice (some ⟨g1, 0, none⟩) (j + 1) cap1)) := by
  have hs2 := hb2.size
  have hs5 : w2.heap.size + 1 ≤ w5.heap.size := by have := hg.size; simpa using this
  have hg1 : wo.heap.size ≤ g1 := by
    rcases hown.2 with ⟨h', _⟩ | ⟨g', cap', cur, h', hB', _⟩
    · simp at h'
    · simp only [Value.slice.injEq, Option.some.injEq, Addr.mk.injEq, and_true, true_and] at h'
      omega
  refine ⟨?_, ?_, ?_, ?_, ?_⟩
  · have h1 := (hO.stored k (.slice (some ⟨g1, 0, none⟩) (j + 1) cap1)).1
    rw [List.set_set] at h1
    exact h1
  · exact owns_block hown (Below.heap_setCell _ _ _ _ (by simp; omega))
  · intro b hb hbz
    rw [Below.heap_setCell _ _ _ _ (by simpa using hbz), hg.block b (by simp; omega) (fun e => by have := (ho b e.symm).1; omega), Below.heap_alloc _ _ _ (by omega), hb2.block b (by omega)]
    exact hK b hb hbz
  · simp [World.setCell]; omega
  · refine Below.setCell (((hB.trans (hb2.mono (by omega))).alloc (by omega) o).grown hg (by simp; omega) (fun q hq => by have := (ho q hq).1; omega)) (Nat.le_refl _) _
end Go.Proofs.YtlpfglkopnmlnaaDoor
namespace Go.Proofs.YtlpfglkopnmlnaaDoor
open Go.RowKit Go.Shelf
def stX (m : List (List Int)) (s : Nat) (out : List Bool) : Nat → List Bool
  | 0 => out
  | x + 1 => (stX m s out x).set (nx m s (x : Int)) true
def stTo (m : List (List Int)) (l : List Bool) : Nat → List Bool
  | 0 => List.replicate l.length false
  | s + 1 => if l.getD s false then stX m s (stTo m l s) (letters m) else stTo m l s
/-- The states to which some letter leads from some states. -/
def stepM (m : List (List Int)) (l : List Bool) : List Bool := stTo m l l.length
theorem stX_len (m : List (List Int)) (s : Nat) (out : List Bool) : ∀ x, (stX m s out x).length = out.length
  | 0 => rfl
  | x + 1 => by simp [stX, stX_len m s out x]
theorem stTo_len (m : List (List Int)) (l : List Bool) : ∀ s, (stTo m l s).length = l.length
  | 0 => by simp [stTo]
  | s + 1 => by
    simp only [stTo]
    split
    · rw [stX_len, stTo_len m l s]
    · exact stTo_len m l s
theorem stepM_len (m : List (List Int)) (l : List Bool) : (stepM m l).length = l.length := stTo_len m l _
theorem getD_set_true {l : List Bool} {i j : Nat} (hi : i < l.length) : (l.set i true).getD j false = (decide (i = j) || l.getD j false) := by
  simp only [List.getD_eq_getElem?_getD, List.getElem?_set]
  by_cases e : i = j
  · subst e; simp [hi]
  · simp [e]
theorem stX_get {m : List (List Int)} {s : Nat} {out : List Bool} (hn : ∀ x, x < letters m → nx m s (x : Int) < out.length) : ∀ k, k ≤ letters m → ∀ t, (stX m s out k).getD t false = true ↔ out.getD t false = true ∨ ∃ x, x < k ∧ nx m s (x : Int) = t
  | 0, _, t => by simp [stX]
  | k + 1, hk, t => by
    simp only [stX]
    rw [getD_set_true (by rw [stX_len]; exact hn k (by omega)), Bool.or_eq_true, decide_eq_true_eq, stX_get hn k (by omega) t]
    constructor
    · rintro (h | h | ⟨x, hx, h⟩)
      · exact .inr ⟨k, by omega, h⟩
      · exact .inl h
      · exact .inr ⟨x, by omega, h⟩
    · rintro (h | ⟨x, hx, h⟩)
      · exact .inr (.inl h)
      · by_cases e : x = k
        · subst e; exact .inl h
        · exact .inr (.inr ⟨x, by omega, h⟩)
theorem stTo_get {m : List (List Int)} {l : List Bool} (hv : validM m = true) (hl : l.length = m.length) : ∀ k, k ≤ l.length → ∀ t, (stTo m l k).getD t false = true ↔ ∃ s, s < k ∧ l.getD s false = true ∧ ∃ x, x < letters m ∧ nx m s (x : Int) = t
  | 0, _, t => by simp [stTo, List.getD_eq_getElem?_getD, List.getElem?_replicate]; split <;> simp
  | k + 1, hk, t => by
    have ih := stTo_get hv hl k (by omega) t
    simp only [stTo]
    have hn : ∀ x, x < letters m → nx m k (x : Int) < (stTo m l k).length := fun x hx => by
      obtain ⟨p1, p2, p3, p4, p5⟩ := valid_parts hv
      rw [stTo_len, hl]
      exact (nx_ok hv (s := k) (by omega) (x := (x : Int)) (by omega) (by omega)).1
    cases hb : l.getD k false with
    | false =>
      rw [if_neg (by decide), ih]
      constructor
      · rintro ⟨s, hs, h⟩; exact ⟨s, by omega, h⟩
      · rintro ⟨s, hs, h1, h⟩
        have : s ≠ k := fun e => by subst e; rw [hb] at h1; cases h1
        exact ⟨s, by omega, h1, h⟩
    | true =>
      rw [if_pos rfl, stX_get hn _ (Nat.le_refl _) t, ih]
      constructor
      · rintro (⟨s, hs, h⟩ | h)
        · exact ⟨s, by omega, h⟩
        · exact ⟨k, by omega, hb, h⟩
      · rintro ⟨s, hs, h1, h⟩
        by_cases e : s = k
        · subst e; exact .inr h
        · exact .inl ⟨s, by omega, h1, h⟩
theorem stepM_get {m : List (List Int)} {l : List Bool} (hv : validM m = true) (hl : l.length = m.length) (t : Nat) : (stepM m l).getD t false = true ↔ ∃ s, s < m.length ∧ l.getD s false = true ∧ ∃ x, x < letters m ∧ nx m s (x : Int) = t := by
  rw [stepM, stTo_get hv hl _ (Nat.le_refl _) t, hl]
theorem ownq_lt {W : World} {base : Nat} {e : TypeId} {s : Nat} {g n c k : Nat} {xs : List Value} (h : W.ownsRow base e s (.slice (some ⟨g, 0, none⟩) n c) k xs) : base ≤ g ∧ g < W.heap.size := by
  rcases h.2 with ⟨h', _⟩ | ⟨g', cap, cur, h', hb, hh, _⟩
  · cases h'
  · cases h'; exact ⟨hb, (Array.getElem?_eq_some_iff.1 hh).1⟩
theorem List.map_set_bool (l : List Bool) (i : Nat) (b : Bool) : (l.set i b).map (fun x => Value.bool x) = (l.map fun x => Value.bool x).set i (.bool b) := by rw [List.map_set]
set_option maxRecDepth 100000 in
set_option maxHeartbeats 2000000 in
theorem rStep_any (v vl : Value) (m : List (List Int)) (l : List Bool) (w : World) (h : Rows w v m) (hv : validM m = true) (hb : Bools w vl l) (hl : l.length = m.length) :
    Calls Tryd.prog 58 #[.agg #[v], vl] w fun e w' => ∃ r, e = .returned r ∧ w'.ownsRow w.heap.size 4 1 r (stepM m l).length ((stepM m l).map fun x => .bool x) ∧ Below w.heap.size w w' := by
  obtain ⟨j0, hj, hy0, hy1, hy2⟩ := info_parts infoBool
  obtain ⟨p1, p2, p3, p4, p5⟩ := valid_parts hv
  obtain ⟨A, cap, rfl, hml, hcm⟩ := id h
  obtain ⟨Al, capl, rfl, hll, hcl⟩ := id hb
  have Hcl := hid hcl
  have Hcm := hid hcm
  have Hp5 := hid p5
  clear hcl hcm p5
  have hX := bal (Below.refl _ w) (.cells #[.slice A m.length cap] 24)
  have HN := hid hl
  have hst := stTo_len m l
  have hml2 := stepM_len m l
  rw [hl] at hst hml2 ⊢
  clear hl
  go_enter Tryd.func58, Tryd.ntmps58
  go_wp2_with (at_make; go_must (refine wpList_make_full _ rfl _ _ 70 rfl w.heap.size 4 j0 (.bool false) 1 Tryd.underlying70 hj hy0 hy1 .i64 .i64 _ _ m.length rfl rfl rfl rfl (by rw [hy2]; omega) (by unfold maxLen; omega) (by simp) ?_); intro w1 hown hgrow; rw [show Value.cells (.bool false) = #[.bool false] from rfl, toList_madeCells_one, Nat.mul_one] at hown; simp only [World.size_alloc] at hown; have hB1 := hX.grown hgrow (by simp) (fun q hq => by cases hq))
  have bx : w1.cell? ⟨w.heap.size, 0, none⟩ = some (.slice A m.length cap) := (World.cell?_of_block (hgrow.block w.heap.size (by simp) (by simp))).trans (by simp [go_sem])
  have hs1 := hB1.size
  have hgz := hgrow.size
  rw [World.size_alloc] at hgz
  have hown0 : w1.ownsRow w.heap.size 4 1 (.slice (some ⟨w.heap.size + 1, 0, none⟩) m.length m.length) m.length ((stTo m l 0).map fun x => .bool x) := by
    simpa [stTo, HN.out] using hown
  clear hown
  go_loopw [6] (fun sv wr => ∃ s : Nat, s ≤ m.length ∧ sv = .int .i64 s ∧ wr.ownsRow w.heap.size 4 1 (.slice (some ⟨w.heap.size + 1, 0, none⟩) m.length m.length) m.length ((stTo m l s).map fun x => .bool x) ∧ Below w.heap.size w wr ∧ wr.cell? ⟨w.heap.size, 0, none⟩ = some (.slice A m.length cap)) (fun s _ => m.length - (intOf s).toNat)
  case atStart => exact ⟨0, Nat.zero_le _, rfl, hown0, hB1, bx⟩
  case round =>
    clear hown0 bx
    obtain ⟨s, hs, rfl, hO, hB, hbx⟩ := hrel
    by_cases hlt : s < m.length
    · have hss : (s : Int) < m.length := by omega
      obtain ⟨bl, ol, hAl, hcl⟩ := Hcl.out s (by rw [HN.out]; exact hlt)
      subst hAl
      have hcl := (hB.cell (p := ⟨bl, ol + s, none⟩) (World.block_lt_of_cell? _ _ hcl)).trans hcl
      have hblw := World.block_lt_of_cell? _ _ hcl
      have hsucc := hid (show stTo m l (s + 1) = if l.getD s false then stX m s (stTo m l s) (letters m) else stTo m l s from rfl)
      have HO := hid hO
      clear hO
      cases hbv : l.getD s false with
      | false =>
        rw [hbv] at hcl hsucc
        have hO2 : wr.ownsRow w.heap.size 4 1 (.slice (some ⟨w.heap.size + 1, 0, none⟩) m.length m.length) m.length ((stTo m l (s + 1)).map fun x => .bool x) := by
          rw [hsucc.out, if_neg (by decide)]; exact HO.out
        have HO2 := hid hO2
        clear hO2 hsucc hbv
        go_wp2_with fail
        go_loopw [7] (fun xv wq => xv = .int .i64 0 ∧ wq = wr) (fun _ _ => 0)
        case atStart => exact ⟨rfl, rfl⟩
        case round =>
          obtain ⟨rfl, rfl⟩ := hrel
          go_wp2
          go_roundw
          case rel => exact ⟨s + 1, by omega, by go_num, HO2.out, hB, hbx⟩
          case measure => simp [intOf]; omega
      | true =>
        rw [hbv] at hcl hsucc
        obtain ⟨wo, rfl⟩ : ∃ wo : World, wo = wr := ⟨_, rfl⟩
        go_wp2_with fail
        go_loopw [7] (fun xv wq => ∃ x : Nat, x ≤ letters m ∧ xv = .int .i64 x ∧ wq.ownsRow w.heap.size 4 1 (.slice (some ⟨w.heap.size + 1, 0, none⟩) m.length m.length) m.length ((stX m s (stTo m l s) x).map fun x => .bool x) ∧ Below w.heap.size w wq ∧ wq.cell? ⟨w.heap.size, 0, none⟩ = some (.slice A m.length cap)) (fun x _ => letters m - (intOf x).toNat)
        case atStart => exact ⟨0, Nat.zero_le _, rfl, HO.out, hB, hbx⟩
        case round =>
          clear HO hB hbx hcl
          have hbv0 := hid hbv
          clear hbv
          obtain ⟨x, hx, rfl, hO, hB, hbx⟩ := hrel
          obtain ⟨bl', ol', hAl', hcl⟩ := Hcl.out s (by rw [HN.out]; exact hlt)
          cases hAl'
          have hcl := (hB.cell (p := ⟨bl, ol + s, none⟩) (World.block_lt_of_cell? _ _ hcl)).trans hcl
          rw [hbv0.out] at hcl
          have HO := hid hO
          clear hO
          go_wp2_with fail
          refine (rLetters_any _ m _ (h.below hB) hv).mono ?_
          rintro e w2 ⟨rfl, hb2⟩
          have hB2 := btr hB hb2
          have hbx2 := (hb2.cell (p := ⟨w.heap.size, 0, none⟩) (World.block_lt_of_cell? _ _ hbx)).trans hbx
          have HO2 := hid (owns_block HO.out (hb2.block _ (ownq_lt HO.out).2))
          by_cases hxl : x < letters m
          · have hxs : (x : Int) < letters m := by omega
            obtain ⟨b, off, r, hA, hcell, hrow⟩ := Hcm.out s hlt
            subst hA
            have hrl := (Hp5.out s hlt).1
            obtain ⟨Ar, capr, rfl, -, hcr⟩ := id hrow
            rw [hrl] at hcell
            obtain ⟨br, offr, hAr, hct⟩ := hcr x (by omega)
            subst hAr
            obtain ⟨hn1, hn⟩ := nx_ok hv (s := s) hlt (x := (x : Int)) (by omega) (by omega)
            rw [Int.toNat_natCast] at hn
            rw [hn] at hct
            have hsx := hid (show stX m s (stTo m l s) (x + 1) = (stX m s (stTo m l s) x).set (nx m s (x : Int)) true from rfl)
            have hcell2 := (hB2.cell (p := ⟨b, off + s, none⟩) (World.block_lt_of_cell? _ _ hcell)).trans hcell
            have hct2 := (hB2.cell (p := ⟨br, offr + x, none⟩) (World.block_lt_of_cell? _ _ hct)).trans hct
            clear hcell hct hcr hrow hn hrl hcl
            generalize nx m s (x : Int) = t at *
            have hts : (t : Int) < m.length := by omega
            have hcA := HO2.out.cellAt t (by omega)
            have hfA := HO2.out.frozenAt t
            have hlen : t < (stX m s (stTo m l s) x).length := by rw [stX_len, hst]; exact hn1
            rw [List.getElem?_map, List.getElem?_eq_getElem hlen, Option.map_some] at hcA
            have hSt := hid (HO2.out.stored t (.bool true)).1
            rw [← List.map_set_bool] at hSt
            rw [← hsx.out] at hSt
            have hBs := hid (hB2.setCell (p := ⟨w.heap.size + 1, t, none⟩) (by show w.heap.size ≤ w.heap.size + 1; omega) (.bool true))
            have hbx3 : (w2.setCell ⟨w.heap.size + 1, t, none⟩ (.bool true)).cell? ⟨w.heap.size, 0, none⟩ = some (.slice (some ⟨b, off, none⟩) m.length cap) := (World.cell?_of_block (Below.heap_setCell _ _ _ _ (by simp))).trans hbx2
            go_wp2
            go_roundw
            case rel => exact ⟨x + 1, by omega, by go_num, hSt.out, hBs.out, hbx3⟩
            case measure => simp [intOf]; omega
          · obtain rfl : x = letters m := by omega
            have hxs : ¬ ((letters m : Nat) : Int) < letters m := by omega
            have hO3 := HO2.out
            have e3 := hsucc.out
            simp only [if_true] at e3
            rw [← e3] at hO3
            have HO3 := hid hO3
            clear hO3 e3
            go_wp2
            go_roundw
            case rel => exact ⟨s + 1, by omega, by go_num, HO3.out, hB2, hbx2⟩
            case measure => simp [intOf]; omega
    · obtain rfl : s = m.length := by omega
      have hss : ¬ ((m.length : Nat) : Int) < m.length := by omega
      have HO := hid (show wr.ownsRow w.heap.size 4 1 (.slice (some ⟨w.heap.size + 1, 0, none⟩) m.length m.length) m.length ((stepM m l).map fun x => .bool x) by rw [stepM, HN.out]; exact hO)
      clear hO
      go_wp2
      go_ret
      exact ⟨_, rfl, HO.out, hB⟩
end Go.Proofs.YtlpfglkopnmlnaaDoor
namespace Go.Proofs.YtlpfglkopnmlnaaDoor
open Go.RowKit Go.Shelf
/-- Some letters lead there. -/
def reachP (m : List (List Int)) (s t : Nat) : Prop := ∃ u : List Int, u.all (inB 0 ((letters m : Int) - 1)) = true ∧ runM m s u = t
theorem reachP.refl (m : List (List Int)) (s : Nat) : reachP m s s := ⟨[], rfl, rfl⟩
theorem reachP.step {m : List (List Int)} {s t : Nat} {x : Nat} (hx : x < letters m) (h : reachP m (nx m s x) t) : reachP m s t := by
  obtain ⟨u, hu, rfl⟩ := h
  refine ⟨(x : Int) :: u, ?_, rfl⟩
  rw [List.all_cons, hu, inB_true (by omega)]; rfl
theorem reachP.trans {m : List (List Int)} {s t r : Nat} (h : reachP m s t) (k : reachP m t r) : reachP m s r := by
  obtain ⟨u, hu, rfl⟩ := h
  obtain ⟨v, hv, rfl⟩ := k
  exact ⟨u ++ v, by rw [List.all_append, hu, hv]; rfl, by rw [runM, List.foldl_append]; rfl⟩
/-- What a search in depth has done. -/
structure DfsPost (m : List (List Int)) (S s S' : Nat) : Prop where
  lt : S' < 2 ^ m.length
  sub : ∀ t, S.testBit t = true → S'.testBit t = true
  here : S'.testBit s = true
  shut : ∀ t, S'.testBit t = true → S.testBit t = false → ∀ x, x < letters m → S'.testBit (nx m t x) = true
  from_ : ∀ t, S'.testBit t = true → S.testBit t = true ∨ reachP m s t
def unseen (n S : Nat) : Nat := ((List.range n).filter fun t => !S.testBit t).length
theorem filter_len_lt {α : Type} (p q : α → Bool) : ∀ (l : List α), (∀ x ∈ l, p x = true → q x = true) → (∃ x ∈ l, p x = false ∧ q x = true) → (l.filter p).length < (l.filter q).length
  | [], _, h => by obtain ⟨x, hx, _⟩ := h; simp at hx
  | a :: l, h1, h2 => by
    have hle : ∀ (l : List α), (∀ x ∈ l, p x = true → q x = true) → (l.filter p).length ≤ (l.filter q).length := by
      intro l
      induction l with
      | nil => intro _; simp
      | cons b l ih =>
        intro h
        have h3 := ih (fun x hx => h x (List.mem_cons_of_mem _ hx))
        have h4 := h b (by simp)
        cases hp : p b <;> cases hq : q b <;> simp_all [List.filter_cons] <;> omega
    have h3 := hle l (fun x hx => h1 x (List.mem_cons_of_mem _ hx))
    obtain ⟨x, hx, hpx, hqx⟩ := h2
    rcases List.mem_cons.1 hx with rfl | hx
    · simp [List.filter_cons, hpx, hqx]; omega
    · have h4 := filter_len_lt p q l (fun x hx => h1 x (List.mem_cons_of_mem _ hx)) ⟨x, hx, hpx, hqx⟩
      have h5 := h1 a (by simp)
      cases hp : p a <;> cases hq : q a <;> simp_all [List.filter_cons] <;> omega
theorem unseen_lt {n S S' s : Nat} (hs : s < n) (hsub : ∀ t, S.testBit t = true → S'.testBit t = true) (h1 : S.testBit s = false) (h2 : S'.testBit s = true) : unseen n S' < unseen n S := by
  refine filter_len_lt _ _ _ (fun t _ ht => ?_) ⟨s, by simpa using hs, by simp [h2], by simp [h1]⟩
  cases h : S.testBit t with
  | false => rfl
  | true => rw [hsub t h] at ht; simp at ht
/-- The search goes on from the next state. -/
structure DfsInv (m : List (List Int)) (S s j Sj : Nat) : Prop where
  lt : Sj < 2 ^ m.length
  sub : ∀ t, S.testBit t = true → Sj.testBit t = true
  here : Sj.testBit s = true
  shut : ∀ t, Sj.testBit t = true → S.testBit t = false → t ≠ s → ∀ x, x < letters m → Sj.testBit (nx m t x) = true
  done : ∀ x, x < j → Sj.testBit (nx m s x) = true
  from_ : ∀ t, Sj.testBit t = true → S.testBit t = true ∨ reachP m s t
theorem DfsInv.start {m : List (List Int)} {S s : Nat} (hS : S < 2 ^ m.length) (hs : s < m.length) : DfsInv m S s 0 (S ||| 2 ^ s) := by
  refine ⟨with_lt S s _ hS hs, fun t ht => ?_, ?_, fun t ht h0 hne => ?_, fun x hx => by omega, fun t ht => ?_⟩
  · rw [testBit_with, ht]; rfl
  · rw [testBit_with]; simp
  · rw [testBit_with, h0] at ht; simp at ht; omega
  · rw [testBit_with, Bool.or_eq_true, decide_eq_true_eq] at ht
    rcases ht with h | rfl
    · exact .inl h
    · exact .inr (reachP.refl m _)
theorem DfsInv.next {m : List (List Int)} {S s j Sj S' : Nat} (h : DfsInv m S s j Sj) (hj : j < letters m) (k : DfsPost m Sj (nx m s j) S') : DfsInv m S s (j + 1) S' := by
  refine ⟨k.lt, fun t ht => k.sub t (h.sub t ht), k.sub s h.here, fun t ht h0 hne x hx => ?_, fun x hx => ?_, fun t ht => ?_⟩
  · cases hb : Sj.testBit t with
    | true => exact k.sub _ (h.shut t hb h0 hne x hx)
    | false => exact k.shut t ht hb x hx
  · by_cases e : x = j
    · subst e; exact k.here
    · exact k.sub _ (h.done x (by omega))
  · rcases k.from_ t ht with h1 | h1
    · exact h.from_ t h1
    · exact .inr (reachP.step hj h1)
theorem DfsInv.post {m : List (List Int)} {S s S' : Nat} (h : DfsInv m S s (letters m) S') : DfsPost m S s S' :=
  ⟨h.lt, h.sub, h.here, fun t ht h0 x hx => by
    by_cases e : t = s
    · subst e; exact h.done x hx
    · exact h.shut t ht h0 e x hx, h.from_⟩
theorem turn_box {b : Nat} {w w' : World} {n₀ : Nat} {w0 : World} (h : Below n₀ w0 w) (ht : Turn (fun k => k = b) w w') (hb : n₀ ≤ b) (hn : n₀ ≤ w.heap.size) : Below n₀ w0 w' :=
  ⟨ht.os.trans h.os, ht.tape.trans h.tape, ht.output.trans h.output, Nat.le_trans h.size ht.size, fun k hk => (ht.block k (by omega) (by omega)).trans (h.block k hk)⟩
theorem turn_set (w : World) (b : Nat) (v : Value) : Turn (fun k => k = b) w (w.setCell ⟨b, 0, none⟩ v) :=
  ⟨rfl, rfl, rfl, by simp [World.setCell], fun k _ hk => Below.heap_setCell _ _ _ _ (by simpa using hk)⟩
theorem With_as (S x S1 : Nat) (w : World) (hS : S < 2 ^ 64) (hx : x < 64) (he : Hid (S ||| 2 ^ x = S1)) :
    Calls Tryd.prog 79 #[.int .u64 S, .int .i64 x] w fun e w' => e = .returned (.int .u64 (S1 : Int)) ∧ w = w' := by
  rw [← he.out]; exact With_any S x w hS hx
/-- Behind a visit: the set that is seen has grown; nothing else that lay there has changed. -/
def Visited (m : List (List Int)) (S s bs : Nat) (w : World) (e : Ending) (w' : World) : Prop :=
  ∃ (v : Value) (S' : Nat), e = .returned v ∧ DfsPost m S s S' ∧ Turn (fun k => k = bs) w w' ∧ w'.heap[bs]? = some (.cells #[.int .u64 S'] 79 (0, 0))
set_option maxRecDepth 100000 in
set_option maxHeartbeats 2000000 in
theorem visit_any (m : List (List Int)) (A : Option Addr) (cap : Nat) (w0 : World) (h : Rows w0 (.slice A m.length cap) m) (hv : validM m = true) (bs ba bv : Nat) (hb0 : w0.heap.size ≤ bs) (hba : ba ≠ bs) (hbv : bv ≠ bs) :
    ∀ (d S s : Nat) (w : World), unseen m.length S < d → S < 2 ^ m.length → s < m.length → Below w0.heap.size w0 w → w.heap[bs]? = some (.cells #[.int .u64 S] 79 (0, 0)) → w.cell? ⟨ba, 0, none⟩ = some (.slice A m.length cap) →
      w.cell? ⟨bv, 0, none⟩ = some (.func (.func 98) #[] #[.pointer (some ⟨bs, 0, none⟩), .pointer (some ⟨ba, 0, none⟩), .pointer (some ⟨bv, 0, none⟩)]) →
      Calls Tryd.prog 98 #[.int .i64 s, .pointer (some ⟨bs, 0, none⟩), .pointer (some ⟨ba, 0, none⟩), .pointer (some ⟨bv, 0, none⟩)] w (Visited m S s bs w) := by
  intro d
  induction d with
  | zero => intro S s w hd; omega
  | succ d ih =>
    intro S s w hd hS hs hB hcs hca hcv
    obtain ⟨p1, p2, p3, p4, p5⟩ := valid_parts hv
    have hS64 : S < 2 ^ 64 := Nat.lt_of_lt_of_le hS (Nat.pow_le_pow_right (by decide) (by omega))
    obtain ⟨A', cap', hA0, _, hcm⟩ := id h
    cases hA0
    have hcc := cell_of_one hcs
    have hfc := free_of_one hcs
    have Ih := hid ih
    have Hcm := hid hcm
    have Hcs := hid hcs
    clear ih hcm hcs
    go_enter Tryd.func98, Tryd.ntmps98
    go_wp2_with fail
    refine (Has_any S s _ hS64 (by omega)).mono ?_
    rintro e w1 ⟨rfl, rfl⟩
    cases hb : S.testBit s with
    | true =>
      have HP : Hid (DfsPost m S s S) := hid ⟨hS, fun _ h => h, hb, (fun t h0 h1 => by rw [h0] at h1; cases h1), fun t h => .inl h⟩
      go_wp2
      refine bodyPost_ret (results_none rfl _ _ _) rfl ?_
      exact ⟨_, S, rfl, HP.out, Turn.refl _ _, Hcs.out⟩
    | false =>
      have hI0 := DfsInv.start (m := m) (s := s) hS hs
      have hT0 := turn_set w bs (.int .u64 ((S ||| 2 ^ s : Nat) : Int))
      have hc0 : (w.setCell ⟨bs, 0, none⟩ (.int .u64 ((S ||| 2 ^ s : Nat) : Int))).heap[bs]? = some (.cells #[.int .u64 ((S ||| 2 ^ s : Nat) : Int)] 79 (0, 0)) := by simpa using heap_setCell_same w bs 0 _ _ (.int .u64 ((S ||| 2 ^ s : Nat) : Int)) Hcs.out
      have hu0 := unseen_lt (n := m.length) hs hI0.sub hb hI0.here
      obtain ⟨b, off, r, hA, hcell, hrow⟩ := Hcm.out s hs
      cases hA
      have hrl := (p5 s hs).1
      have hrb := (p5 s hs).2
      obtain ⟨Ar, capr, rfl, _, hcr⟩ := id hrow
      rw [hrl] at hcell
      have hnxt := fun j (hj : j < letters m) => nx_ok hv hs (x := (j : Int)) (by omega) (by omega)
      have Hnx := hid hnxt
      have Hcr := hid hcr
      have hw0 : w0.heap.size ≤ w.heap.size := hB.size
      have hbs : bs < w.heap.size := lt_of_block Hcs.out
      have hblt : b < w0.heap.size := World.block_lt_of_cell? _ _ hcell
      have hcell1 : w.cell? ⟨b, off + s, none⟩ = some (.slice Ar (letters m) capr) := (hB.cell (p := ⟨b, off + s, none⟩) hblt).trans hcell
      have hcell2 : (w.setCell ⟨bs, 0, none⟩ (.int .u64 ((S ||| 2 ^ s : Nat) : Int))).cell? ⟨b, off + s, none⟩ = some (.slice Ar (letters m) capr) := (World.cell?_of_block (w := w) (hT0.block b (by omega) (by omega))).trans hcell1
      have hca2 : (w.setCell ⟨bs, 0, none⟩ (.int .u64 ((S ||| 2 ^ s : Nat) : Int))).cell? ⟨ba, 0, none⟩ = some (.slice (some ⟨b, off, none⟩) m.length cap) := (World.cell?_of_block (w := w) (hT0.block ba (World.block_lt_of_cell? _ _ hca) hba)).trans hca
      have hss : (s : Int) < m.length := by omega
      have Hu := hid hu0
      have Hsub := hid hI0
      generalize hS1 : S ||| 2 ^ s = S1 at *
      have HS1 := hid hS1
      clear hS1
      clear hI0 hu0 hcr hrow hnxt hcell hrb
      go_wp2_with fail
      refine (With_as S s S1 _ hS64 (by omega) HS1).mono ?_
      rintro e w1 ⟨rfl, rfl⟩
      have hcc1 := cell_of_one hc0
      have Hc0 := hid hc0
      have HT0 := hid hT0
      clear hc0 hT0
      go_wp2_with fail
      go_loopw [19] (fun i wr => ∃ (j Sj : Nat), j ≤ letters m ∧ i = .int .i64 j ∧ DfsInv m S s j Sj ∧ Turn (fun k => k = bs) w wr ∧ wr.heap[bs]? = some (.cells #[.int .u64 Sj] 79 (0, 0)) ∧ (∀ t, S1.testBit t = true → Sj.testBit t = true)) (fun i _ => letters m - (intOf i).toNat)
      case atStart => exact ⟨0, S1, Nat.zero_le _, rfl, Hsub.out, HT0.out, Hc0.out, fun _ h => h⟩
      case round =>
        obtain ⟨j, Sj, hj, rfl, hI, hT, hcj, hsub⟩ := hrel
        by_cases hjl : j < letters m
        · have hjs : (j : Int) < letters m := by omega
          obtain ⟨br, offr, hAr, hct⟩ := Hcr.out j (by omega)
          subst hAr
          obtain ⟨hn1, hn2⟩ := Hnx.out j hjl
          rw [Int.toNat_natCast] at hn2
          have hbrl : br < w0.heap.size := World.block_lt_of_cell? _ _ hct
          rw [hn2] at hct
          have hBr := turn_box hB hT hb0 hw0
          have hct2 : wr.cell? ⟨br, offr + j, none⟩ = some (.int .i64 (nx m s (j : Int) : Nat)) := (hBr.cell (p := ⟨br, offr + j, none⟩) hbrl).trans hct
          have hcv2 := (World.cell?_of_block (w := w) (w' := wr) (a := ⟨bv, 0, none⟩) (hT.block bv (World.block_lt_of_cell? _ _ hcv) hbv)).trans hcv
          have hca3 := (World.cell?_of_block (w := w) (w' := wr) (a := ⟨ba, 0, none⟩) (hT.block ba (World.block_lt_of_cell? _ _ hca) hba)).trans hca
          have huj : unseen m.length Sj < d := by
            have h1 := unseen_lt (n := m.length) hs hI.sub hb hI.here
            omega
          have hIH := Ih.out Sj (nx m s (j : Int)) wr huj hI.lt hn1 hBr hcj hca3 hcv2
          have HI := hid hI
          have HIH := hid hIH
          have Hst := hid hsub
          clear hI hIH hcj hsub hct hn2
          generalize hy : nx m s (j : Int) = y at *
          have Hy := hid hy
          clear hy
          go_wp2_with fail
          refine HIH.out.mono ?_
          rintro e w2 ⟨rv, S', rfl, hP, hT2, hc2⟩
          go_wp2
          go_roundw
          case rel => exact ⟨j + 1, S', by omega, by go_num, HI.out.next hjl (by rw [Hy.out]; exact hP), hT.trans hT2 (fun i hi => .inl hi), hc2, fun t ht => hP.sub t (Hst.out t ht)⟩
          case measure => simp [intOf]; omega
        · obtain rfl : j = letters m := by omega
          have HP := hid hI.post
          have HT := hid hT
          have Hcj := hid hcj
          clear hI hT hcj hsub
          go_wp2
          refine bodyPost_end (results_none rfl _ _ _) rfl ?_
          exact ⟨_, Sj, rfl, HP.out, HT.out, Hcj.out⟩
end Go.Proofs.YtlpfglkopnmlnaaDoor
