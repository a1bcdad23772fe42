/-
  Texts that the proof of the law stands on: Rep, T1, T2, Bits, Pop, T3, T4, O1, Range, T5, T6, T7, T8, T9, R1, P1, P2, P4, R2, L1, N1, M1, R3, R4, R5, N2, P6, N6, N7, N8, N15, N16, N17, N18, U1, N21, Q1, N10, N12, N13, N22, N23, N24, Q8, Q11, D1.
-/
import Derived.WalkKit
import Derived.WalkSpells
import Derived.WalkLawsBesides
import Derived.Test.YtphpablchlpagaaDoorProg
import Derived.Lib.TrailingZeros
import Derived.Laws.Bits64b
import Derived.Deep.Matrix
import Derived.Lib.LaidU8
import Derived.SizedLaws
import Derived.Carry
import Derived.RangeFuncNested
import Derived.RangeFuncBound
import Derived.RangeFuncCalls
import Derived.RangeFuncLeaves
import Derived.Shelf.Abstract
import Derived.OwnWalkIn
import Derived.TacticsInMore
import Derived.LoopNIn
import Derived.LoopIn
import Derived.Shelf.RegionOpen
import Derived.Maps.OwnIn
import Derived.BigQuiet
import Derived.Deep.QuietTactic
import Derived.Maps.AppendAt
import Derived.Lib.SplitLaws
import Derived.Deep.CutRange
import Derived.Laws.EntriesVeiled
import Derived.Deep.AppendLies
import Derived.Deep.RegionLaw
import Derived.Maps.Own
import Derived.Maps.OwnOps
import Derived.Maps.Views
import Derived.ProofKit
import Derived.OpenShut
import Derived.Deep.DeepHandedRow
import Derived.Deep.DeepWitnessRowRef
import Derived.Lib.LaidTab
import Derived.Lib.LaidIn
import Derived.Lib.ItoaNum
import Derived.WideKeyArgs
import Derived.Lib.UnsafeStr
import Derived.Handy
import Derived.Deep.RegionHeld
import Derived.Deep.RegionHeld3
import Derived.Maps.OwnSet
import Derived.WideKeyPair
import Derived.WideKeyEntry
import Derived.WideKeyElems3
import Derived.Maps.Keyed
import Derived.RegionTactic
import Derived.ChangeAlike
import Derived.WalkMore
import Derived.Scope
import Derived.Deep.RegionWith
import Derived.Deep.DeepMust
import Derived.OrdersIn
import Derived.Deep.Quiet
import Derived.ChangeKeysEq
import Derived.Laws.StructEq
import Derived.Laws.AppendOwnNone
import Derived.Deep.LoopGhost
import Derived.Sort.OwnSortedInts
import Derived.Lib.OwnBridge
import Derived.Laws.OwnMore
import Derived.Deep.RegionLawGrows
set_option linter.unusedVariables false
set_option linter.unusedSimpArgs false
namespace Go.Proofs.YtphpablchlpagaaDoor
open Go.RowKit
/-- The greatest number of elements that is spoken of. -/
def big : Nat := 17592186044416
/-- A slice of ints that reads as a list. -/
def Ints (w : World) (v : Value) (l : List Int) : Prop :=
  ∃ A cap, v = .slice A l.length cap ∧ l.length ≤ big ∧ ∀ i, i < l.length → ∃ b off, A = some ⟨b, off, none⟩ ∧ w.cell? ⟨b, off + i, none⟩ = some (.int .i64 (l.getD i 0))
theorem Ints.below {w w' : World} {v : Value} {l : List Int} (h : Ints w v l) (hb : Below w.heap.size w w') : Ints w' v l := by
  obtain ⟨A, cap, hv, hl, hc⟩ := h
  refine ⟨A, cap, hv, hl, fun i hi => ?_⟩
  obtain ⟨b, off, hA, hcell⟩ := hc i hi
  exact ⟨b, off, hA, (hb.cell (p := ⟨b, off + i, none⟩) (World.block_lt_of_cell? _ _ hcell)).trans hcell⟩
theorem all_snoc_take {α : Type} [Inhabited α] (p : α → Bool) (l : List α) (d : α) (k : Nat) (hk : k < l.length) : (l.take (k + 1)).all p = ((l.take k).all p && p (l.getD k d)) := by
  rw [List.take_succ_eq_append_getElem hk, List.all_append]
  simp [List.getD_eq_getElem?_getD, List.getElem?_eq_getElem hk]
theorem all_false_of {α : Type} (p : α → Bool) (l : List α) (d : α) (k : Nat) (hk : k < l.length) (h : p (l.getD k d) = false) : l.all p = false := by
  rw [List.all_eq_false]
  refine ⟨l[k], List.getElem_mem _, ?_⟩
  have : l.getD k d = l[k] := by simp [List.getD_eq_getElem?_getD, List.getElem?_eq_getElem hk]
  rw [this] at h
  simp [h]
theorem hid {p : Prop} (h : p) : Hid p := h
theorem ret_bool {a b : Bool} (h : a = b) : Ending.returned (.bool a) = .returned (.bool b) := by rw [h]
theorem ret_int {k : IntKind} {a b : Int} (h : a = b) : Ending.returned (.int k a) = .returned (.int k b) := by rw [h]
/-- A slice of slices of ints. -/
def Rows (w : World) (v : Value) (m : List (List Int)) : Prop :=
  ∃ A cap, v = .slice A m.length cap ∧ m.length ≤ big ∧ ∀ i, i < m.length → ∃ b off r, A = some ⟨b, off, none⟩ ∧ w.cell? ⟨b, off + i, none⟩ = some r ∧ Ints w r (m.getD i [])
theorem Rows.below {w w' : World} {v : Value} {m : List (List Int)} (h : Rows w v m) (hb : Below w.heap.size w w') : Rows w' v m := by
  obtain ⟨A, cap, hv, hl, hc⟩ := h
  refine ⟨A, cap, hv, hl, fun i hi => ?_⟩
  obtain ⟨b, off, r, hA, hcell, hr⟩ := hc i hi
  exact ⟨b, off, r, hA, (hb.cell (p := ⟨b, off + i, none⟩) (World.block_lt_of_cell? _ _ hcell)).trans hcell, hr.below hb⟩
theorem Ints.alloc {w : World} {v : Value} {l : List Int} (h : Ints w v l) (o : Obj) : Ints (w.alloc o) v l := h.below ((Below.refl _ w).alloc (Nat.le_refl _) o)
theorem Rows.alloc {w : World} {v : Value} {l : List (List Int)} (h : Rows w v l) (o : Obj) : Rows (w.alloc o) v l := h.below ((Below.refl _ w).alloc (Nat.le_refl _) o)
/-- A list of one number, just made. -/
theorem Ints.one (w : World) (n : Int) (t : TypeId) : Ints (w.alloc (.cells #[.int .i64 n] t)) (.slice (some ⟨w.heap.size, 0, none⟩) 1 1) [n] :=
  ⟨_, 1, rfl, by unfold big; simp, fun i hi => ⟨w.heap.size, 0, rfl, by
    obtain rfl : i = 0 := by simp at hi; omega
    simp⟩⟩
theorem Ints.one' (w : World) (n : Int) (t : TypeId) (k : Nat) (hk : k = w.heap.size) : Ints (w.alloc (.cells #[.int .i64 n] t)) (.slice (some ⟨k, 0, none⟩) 1 1) [n] := by
  subst hk; exact Ints.one w n t
/-- Below the whole of the first world: new blocks, and all that a call leaves as it lay. -/
theorem bal {w w' : World} (h : Below w.heap.size w w') (o : Obj) : Below w.heap.size w (w'.alloc o) := h.alloc h.size o
theorem btr {w w' w'' : World} (h : Below w.heap.size w w') (k : Below w'.heap.size w' w'') : Below w.heap.size w w'' := h.trans (k.mono h.size)
theorem below_dr (w : World) (n : Nat) : Below w.heap.size w (w.drewN n) := ⟨rfl, rfl, rfl, Nat.le_refl _, fun _ _ => rfl⟩
theorem Ints.drewN {w : World} {v : Value} {l : List Int} (h : Ints w v l) (n : Nat) : Ints (w.drewN n) v l := h.below (below_dr w n)
theorem Rows.drewN {w : World} {v : Value} {m : List (List Int)} (h : Rows w v m) (n : Nat) : Rows (w.drewN n) v m := h.below (below_dr w n)
theorem bdr {w w' : World} (h : Below w.heap.size w w') (n : Nat) : Below w.heap.size w (w'.drewN n) := btr h (below_dr w' n)
theorem bdrew {w w' : World} (h : Below w.heap.size w w') : Below w.heap.size w w'.drew := h.drew
end Go.Proofs.YtphpablchlpagaaDoor
namespace Go.Proofs.YtphpablchlpagaaDoor
open Go.RowKit
def inB (lo hi : Int) (n : Int) : Bool := decide (lo ≤ n) && decide (n ≤ hi)
theorem inB_true {lo hi n : Int} (h : lo ≤ n ∧ n ≤ hi) : inB lo hi n = true := by simp [inB, h]
theorem inB_false {lo hi n : Int} (h : n < lo ∨ hi < n) : inB lo hi n = false := by
  unfold inB; rcases h with h | h <;> simp <;> omega
set_option maxHeartbeats 400000 in
theorem between_any (lo hi : Int) (v : Value) (l : List Int) (w : World) (h : Ints w v l) :
    Calls Tryd.prog 57 #[.int .i64 lo, .int .i64 hi, v] w fun e w' => e = .returned (.bool (l.all (inB lo hi))) ∧ w = w' := by
  obtain ⟨A, cap, rfl, hl, hc⟩ := h
  unfold big at hl
  go_enter Tryd.func57, Tryd.ntmps57
  go_wp2
  go_loop [11] (fun i => ∃ k : Nat, k ≤ l.length ∧ i = .int .i64 k ∧ (l.take k).all (inB lo hi) = true) (fun i => l.length - (intOf i).toNat)
  case atStart => exact ⟨0, Nat.zero_le _, rfl, rfl⟩
  case round =>
    obtain ⟨k, hk, rfl, hall⟩ := hrel
    by_cases hlt : k < l.length
    · obtain ⟨b, off, hA, hcell⟩ := hc k hlt
      have hs := all_snoc_take (inB lo hi) l 0 k hlt
      rw [hall, Bool.true_and] at hs
      have hf := all_false_of (inB lo hi) l 0 k hlt
      have Hs := hid hs
      have Hf := hid hf
      clear hs hf hall hc
      generalize hn : l.getD k 0 = n at *
      clear hn
      subst hA
      go_wp2
      · go_ret
        exact ⟨ret_bool (Hf.out (inB_false ‹_›)).symm, rfl⟩
      · go_round
        case rel => exact ⟨k + 1, by omega, by go_num, by rw [Hs.out]; exact inB_true ‹_›⟩
        case measure => simp [intOf]; omega
      · go_ret
        exact ⟨ret_bool (Hf.out (inB_false (.inl ‹_›))).symm, rfl⟩
    · go_wp2
      go_ret
      exact ⟨ret_bool (by rw [← hall, List.take_of_length_le (by omega)]), rfl⟩
/-- How many letters. -/
def letters (m : List (List Int)) : Nat := (m.getD 0 []).length
def rowOk (m : List (List Int)) (r : List Int) : Bool := decide (r.length = letters m) && r.all (inB 0 ((m.length : Int) - 1))
def validM (m : List (List Int)) : Bool :=
  inB 1 60 m.length && (inB 1 6 (letters m) && m.all (rowOk m))
theorem between_one (lo hi n : Int) (b : Bool) (v : Value) (w : World) (h : Ints w v [n]) (hb : inB lo hi n = b) :
    Calls Tryd.prog 57 #[.int .i64 lo, .int .i64 hi, v] w fun e w' => e = .returned (.bool b) ∧ w = w' := by
  have := between_any lo hi v [n] w h
  simpa [hb] using this
set_option maxHeartbeats 400000 in
theorem areStates_any (v u : Value) (m : List (List Int)) (l : List Int) (w : World) (h : Rows w v m) (hu : Ints w u l) :
    Calls Tryd.prog 58 #[.agg #[v], u] w fun e w' => e = .returned (.bool (l.all (inB 0 ((m.length : Int) - 1)))) ∧ Below w.heap.size w w' := by
  have hu1 := hu.alloc (.cells #[v] 24)
  obtain ⟨A, cap, rfl, hl, hc⟩ := h
  unfold big at hl
  clear hc
  go_enter Tryd.func58, Tryd.ntmps58
  go_wp2_with (go_at_call 57; refine (between_any _ _ _ l _ hu1).mono ?_; rintro e w' ⟨rfl, rfl⟩)
  go_ret
  exact ⟨rfl, (Below.refl _ _).alloc (Nat.le_refl _) _⟩
theorem areStates_bool (v u : Value) (m : List (List Int)) (l : List Int) (b : Bool) (w : World) (h : Rows w v m) (hu : Ints w u l) (hb : l.all (inB 0 ((m.length : Int) - 1)) = b) :
    Calls Tryd.prog 58 #[.agg #[v], u] w fun e w' => e = .returned (.bool b) ∧ Below w.heap.size w w' := by
  subst hb; exact areStates_any v u m l w h hu
set_option maxHeartbeats 400000 in
theorem Valid_any (v : Value) (m : List (List Int)) (w : World) (h : Rows w v m) :
    Calls Tryd.prog 31 #[.agg #[v]] w fun e w' => e = .returned (.bool (validM m)) ∧ Below w.heap.size w w' := by
  have hr := h
  obtain ⟨A, cap, rfl, hl, hc⟩ := h
  unfold big at hl
  by_cases h1 : inB 1 60 m.length = true
  · have hpos : 0 < m.length := by simp [inB] at h1; omega
    obtain ⟨b, off, r0, hA, hcell0, hr0⟩ := hc 0 hpos
    subst hA
    obtain ⟨A0, cap0, rfl, hl0, hc0⟩ := hr0
    unfold big at hl0
    rw [Nat.add_zero] at hcell0
    have hbl : b < w.heap.size := World.block_lt_of_cell? _ _ hcell0
    have hlet : (m.getD 0 []).length = letters m := rfl
    rw [hlet] at hcell0 hl0
    clear hc0
    by_cases h2 : inB 1 6 (letters m) = true
    · have Hc := hid hc
      clear hc
      have hin : (0 : Int) < m.length := by omega
      go_enter Tryd.func31, Tryd.ntmps31
      go_wp2_with fail
      refine (between_one 1 60 m.length true _ _ (Ints.one' _ _ _ _ (by simp)) h1).mono ?_
      rintro e w1 ⟨rfl, rfl⟩
      go_wp2_with fail
      refine (between_one 1 6 (letters m) true _ _ (Ints.one' _ _ _ _ (by simp)) h2).mono ?_
      rintro e w1 ⟨rfl, rfl⟩
      go_wp2_with fail
      go_loopw [24] (fun i wr => ∃ k : Nat, k ≤ m.length ∧ i = .int .i64 k ∧ (m.take k).all (rowOk m) = true ∧ Below w.heap.size w wr ∧ wr.cell? ⟨w.heap.size, 0, none⟩ = some (.slice (some ⟨b, off, none⟩) m.length cap))
        (fun i _ => m.length - (intOf i).toNat)
      case atStart => exact ⟨0, Nat.zero_le _, rfl, rfl, bal (bal (bal (Below.refl _ _) _) _) _, by simp [go_sem]⟩
      case round =>
        obtain ⟨k, hk, rfl, hall, hB, hbox⟩ := hrel
        have hsz : w.heap.size < wr.heap.size := World.block_lt_of_cell? _ _ hbox
        by_cases hlt : k < m.length
        · obtain ⟨b', off', r, hA', hcell, hrow⟩ := Hc.out k hlt
          cases hA'
          have hrowc : wr.cell? ⟨b, off + k, none⟩ = some r := (hB.cell (p := ⟨b, off + k, none⟩) hbl).trans hcell
          have hroww := hrow.below hB
          have hrw := hr.below hB
          have Hs := hid (all_snoc_take (rowOk m) m [] k hlt)
          have Hf := hid (all_false_of (rowOk m) m [] k hlt)
          clear hrow hcell hcell0
          generalize m.getD k [] = row at *
          have hroww' := hroww
          obtain ⟨Ar, capr, rfl, hlr, hcr⟩ := hroww
          unfold big at hlr
          clear hcr
          have hv1 : validM m = m.all (rowOk m) := by simp [validM, h1, h2]
          have Hv := hid hv1
          have Ha := hid hall
          clear hv1 hall
          by_cases hle : row.length = letters m
          · have hne : ((row.length : Int) != (letters m : Int)) = false := by simp; omega
            by_cases hst : row.all (inB 0 ((m.length : Int) - 1)) = true
            · have Hle := hid hle
              clear hle
              go_wp2_with fail
              refine (areStates_bool _ _ m row true _ hrw hroww' hst).mono ?_
              rintro e w1 ⟨rfl, hb1⟩
              have hbx : w1.cell? ⟨w.heap.size, 0, none⟩ = some (.slice (some ⟨b, off, none⟩) m.length cap) := (hb1.cell (p := ⟨w.heap.size, 0, none⟩) hsz).trans hbox
              go_wp2
              go_roundw
              case rel => exact ⟨k + 1, by omega, by go_num, by rw [Hs.out, Ha.out]; simp [rowOk, Hle.out, hst], btr hB hb1, hbx⟩
              case measure => simp [intOf]; omega
            · have hst' : row.all (inB 0 ((m.length : Int) - 1)) = false := by simpa using hst
              have Hle := hid hle
              clear hle hst
              go_wp2_with fail
              refine (areStates_bool _ _ m row false _ hrw hroww' hst').mono ?_
              rintro e w1 ⟨rfl, hb1⟩
              go_wp2
              go_ret
              exact ⟨ret_bool (by rw [Hv.out, Hf.out]; simp [rowOk, hst']), btr hB hb1⟩
          · have hne : ((row.length : Int) != (letters m : Int)) = true := by simp; omega
            have Hle := hid hle
            clear hle
            go_wp2
            go_ret
            exact ⟨ret_bool (by rw [Hv.out, Hf.out]; simp [rowOk, Hle.out]), hB⟩
        · go_wp2
          go_ret
          exact ⟨ret_bool (by rw [← hall, List.take_of_length_le (by omega)]; simp [validM, h1, h2]), hB⟩
    · have h2' : inB 1 6 (letters m) = false := by simpa using h2
      have Hc := hid hc
      clear hc
      have hin : (0 : Int) < m.length := by omega
      go_enter Tryd.func31, Tryd.ntmps31
      go_wp2_with fail
      refine (between_one 1 60 m.length true _ _ (Ints.one' _ _ _ _ (by simp)) h1).mono ?_
      rintro e w1 ⟨rfl, rfl⟩
      go_wp2_with fail
      refine (between_one 1 6 (letters m) false _ _ (Ints.one' _ _ _ _ (by simp)) h2').mono ?_
      rintro e w1 ⟨rfl, rfl⟩
      go_wp2
      go_ret
      exact ⟨ret_bool (by simp [validM, h2']), bal (bal (bal (Below.refl _ _) _) _) _⟩
  · have h1' : inB 1 60 m.length = false := by simpa using h1
    clear hc
    go_enter Tryd.func31, Tryd.ntmps31
    go_wp2_with fail
    refine (between_one 1 60 m.length false _ _ (Ints.one' _ _ _ _ (by simp)) h1').mono ?_
    rintro e w1 ⟨rfl, rfl⟩
    go_wp2
    go_ret
    exact ⟨ret_bool (by simp [validM, h1']), bal (bal (Below.refl _ _) _) _⟩
end Go.Proofs.YtphpablchlpagaaDoor
namespace Go.Proofs.YtphpablchlpagaaDoor
open Go.RowKit
def isWordM (m : List (List Int)) (u : List Int) : Bool := decide (u.length ≤ 40000) && u.all (inB 0 ((letters m : Int) - 1))
/-- Where a letter leads, and a word. -/
def nx (m : List (List Int)) (s : Nat) (x : Int) : Nat := ((m.getD s []).getD x.toNat 0).toNat
def runM (m : List (List Int)) (s : Nat) (u : List Int) : Nat := u.foldl (nx m) s
theorem all_getD {α : Type} (p : α → Bool) (l : List α) (d : α) (h : l.all p = true) (i : Nat) (hi : i < l.length) : p (l.getD i d) = true := by
  rw [List.all_eq_true] at h
  have e : l.getD i d = l[i] := by simp [List.getD_eq_getElem?_getD, List.getElem?_eq_getElem hi]
  rw [e]; exact h _ (List.getElem_mem _)
theorem inB_iff {lo hi n : Int} : inB lo hi n = true ↔ lo ≤ n ∧ n ≤ hi := by simp [inB]
theorem valid_parts {m : List (List Int)} (h : validM m = true) : 1 ≤ m.length ∧ m.length ≤ 60 ∧ 1 ≤ letters m ∧ letters m ≤ 6 ∧
    ∀ i, i < m.length → (m.getD i []).length = letters m ∧ ∀ j, j < letters m → 0 ≤ (m.getD i []).getD j 0 ∧ (m.getD i []).getD j 0 < m.length := by
  simp only [validM, Bool.and_eq_true, inB_iff] at h
  obtain ⟨⟨a, b⟩, ⟨c, d⟩, e⟩ := h
  refine ⟨by omega, by omega, by omega, by omega, fun i hi => ?_⟩
  have hr := all_getD _ m [] e i hi
  simp only [rowOk, Bool.and_eq_true, decide_eq_true_eq] at hr
  refine ⟨hr.1, fun j hj => ?_⟩
  have := all_getD _ _ 0 hr.2 j (by omega)
  rw [inB_iff] at this
  omega
theorem nx_ok {m : List (List Int)} (h : validM m = true) {s : Nat} (hs : s < m.length) {x : Int} (h0 : 0 ≤ x) (h1 : x < letters m) :
    nx m s x < m.length ∧ (m.getD s []).getD x.toNat 0 = (nx m s x : Int) := by
  have := ((valid_parts h).2.2.2.2 s hs).2 x.toNat (by omega)
  unfold nx
  omega
theorem runM_lt {m : List (List Int)} (h : validM m = true) : ∀ (u : List Int) (s : Nat), s < m.length → u.all (inB 0 ((letters m : Int) - 1)) = true → runM m s u < m.length
  | [], s, hs, _ => hs
  | x :: u, s, hs, hu => by
    simp only [List.all_cons, Bool.and_eq_true, inB_iff] at hu
    exact runM_lt h u _ (nx_ok h hs hu.1.1 (by omega)).1 hu.2
theorem runM_snoc (m : List (List Int)) (s : Nat) (u : List Int) (k : Nat) (hk : k < u.length) : runM m s (u.take (k + 1)) = nx m (runM m s (u.take k)) (u.getD k 0) := by
  unfold runM
  rw [List.take_succ_eq_append_getElem hk, List.foldl_append]
  simp [List.getD_eq_getElem?_getD, List.getElem?_eq_getElem hk]
theorem all_take {α : Type} (p : α → Bool) (l : List α) (h : l.all p = true) (k : Nat) : (l.take k).all p = true := by
  rw [List.all_eq_true] at h ⊢
  exact fun x hx => h x (List.mem_of_mem_take hx)
set_option maxHeartbeats 400000 in
theorem isWord_any (v u : Value) (m : List (List Int)) (l : List Int) (w : World) (h : Rows w v m) (hv : validM m = true) (hu : Ints w u l) :
    Calls Tryd.prog 71 #[.agg #[v], u] w fun e w' => e = .returned (.bool (isWordM m l)) ∧ Below w.heap.size w w' := by
  have hu1 := hu.alloc (.cells #[v] 24)
  obtain ⟨p1, p2, p3, p4, p5⟩ := valid_parts hv
  obtain ⟨A, cap, rfl, hl, hc⟩ := h
  obtain ⟨b, off, r0, hA, hcell0, hr0⟩ := hc 0 (by omega)
  subst hA
  obtain ⟨A0, cap0, rfl, hl0, hc0⟩ := hr0
  obtain ⟨Au, capu, rfl, hlu, hcu⟩ := hu
  rw [Nat.add_zero] at hcell0
  have hlet : (m.getD 0 []).length = letters m := rfl
  rw [hlet] at hcell0
  have hbl : b < w.heap.size := World.block_lt_of_cell? _ _ hcell0
  have hin : (0 : Int) < m.length := by omega
  unfold big at hlu
  clear hc hc0 hcu hl hl0 hlet p5
  by_cases hlen : l.length ≤ 40000
  · have hle : decide ((l.length : Int) ≤ 40000) = true := by simp; omega
    go_enter Tryd.func71, Tryd.ntmps71
    go_wp2_with (go_at_call 57; refine (between_any _ _ _ l _ hu1).mono ?_; rintro e w' ⟨rfl, rfl⟩)
    go_ret
    exact ⟨ret_bool (by simp [isWordM, hlen]), bal (Below.refl _ _) _⟩
  · have hle : decide ((l.length : Int) ≤ 40000) = false := by simp; omega
    go_enter Tryd.func71, Tryd.ntmps71
    go_wp2
    go_ret
    exact ⟨ret_bool (by simp [isWordM, hlen]), bal (Below.refl _ _) _⟩
end Go.Proofs.YtphpablchlpagaaDoor
namespace Go.Proofs.YtphpablchlpagaaDoor
/-- The elements of a set that is kept as the bits of a number. -/
def elems (S : Nat) : List Nat := (List.range 64).filter S.testBit
theorem filter_first (p q : Nat → Bool) (n k : Nat) (hk : k < n) (hp : p k = true) (hlo : ∀ i, i < k → p i = false) (hq : ∀ i, q i = (p i && decide (i ≠ k))) :
    (List.range n).filter p = k :: (List.range n).filter q := by
  have e : List.range n = List.range k ++ (k :: List.range' (k + 1) (n - k - 1)) := by
    rw [List.range_eq_range', List.range_eq_range']
    have h1 : k :: List.range' (k + 1) (n - k - 1) = List.range' k (n - k) := by
      have h2 : n - k = (n - k - 1) + 1 := by omega
      rw [h2, List.range'_succ]
      simp
    rw [h1]
    have h3 := List.range'_append (s := 0) (m := k) (n := n - k) (step := 1)
    simp only [Nat.one_mul, Nat.zero_add] at h3
    rw [h3]
    congr 1
    omega
  have f1 : (List.range k).filter p = [] := by
    rw [List.filter_eq_nil_iff]
    intro a ha
    simp [hlo a (List.mem_range.1 ha)]
  have f2 : (List.range k).filter q = [] := by
    rw [List.filter_eq_nil_iff]
    intro a ha
    simp [hq, hlo a (List.mem_range.1 ha)]
  have f3 : (List.range' (k + 1) (n - k - 1)).filter p = (List.range' (k + 1) (n - k - 1)).filter q := by
    apply List.filter_congr
    intro a ha
    have := List.mem_range'_1.1 ha
    rw [hq]
    have h : a ≠ k := by omega
    simp [h]
  rw [e, List.filter_append, List.filter_append, f1, f2, List.filter_cons, List.filter_cons, f3]
  simp [hp, hq]
/-- Of a number that is not zero: where its lowest bit is; without it the number is less. -/
theorem low_bit (k m : Nat) : ∀ i, (2 ^ k * (2 * m + 1)).testBit i = (decide (k = i) || (decide (k < i) && m.testBit (i - k - 1))) := by
  intro i
  have h := Nat.testBit_two_pow_mul_add (2 * m + 1) (b := 0) (i := k) (Nat.two_pow_pos k) i
  rw [Nat.add_zero] at h
  rw [h]
  by_cases h1 : i < k
  · have a : ¬ k = i := by omega
    have b : ¬ k < i := by omega
    simp [h1, a, b]
  · rw [if_neg h1]
    by_cases h2 : k = i
    · subst h2; simp [Nat.testBit_zero]
    · have h3 : k < i := by omega
      obtain ⟨j, rfl⟩ : ∃ j, i = k + 1 + j := ⟨i - k - 1, by omega⟩
      have e1 : k + 1 + j - k = j + 1 := by omega
      have e2 : k + 1 + j - k - 1 = j := by omega
      rw [e1, Nat.testBit_succ]
      have d1 : (2 * m + 1) / 2 = m := by omega
      rw [d1]
      have : ¬ k = k + 1 + j := by omega
      simp [h3, this]
theorem low_bit_pred (k m : Nat) : ∀ i, (2 ^ k * (2 * m + 1) - 1).testBit i = (decide (i < k) || (decide (k < i) && m.testBit (i - k - 1))) := by
  intro i
  have hp := Nat.two_pow_pos k
  have e : 2 ^ k * (2 * m + 1) - 1 = 2 ^ k * (2 * m) + (2 ^ k - 1) := by
    rw [Nat.mul_add, Nat.mul_one]; omega
  rw [e, Nat.testBit_two_pow_mul_add (2 * m) (b := 2 ^ k - 1) (i := k) (by omega) i]
  by_cases h1 : i < k
  · simp [h1, Nat.testBit_two_pow_sub_one]
  · rw [if_neg h1]
    by_cases h2 : k = i
    · subst h2; simp [Nat.testBit_zero]
    · have h3 : k < i := by omega
      obtain ⟨j, rfl⟩ : ∃ j, i = k + 1 + j := ⟨i - k - 1, by omega⟩
      have e1 : k + 1 + j - k = j + 1 := by omega
      have e2 : k + 1 + j - k - 1 = j := by omega
      rw [e1, Nat.testBit_succ]
      have d1 : 2 * m / 2 = m := by omega
      rw [d1]
      simp [h3, h1]
theorem elems_step (S k m : Nat) (hS : S = 2 ^ k * (2 * m + 1)) (hk : k < 64) : elems S = k :: elems (S &&& (S - 1)) ∧ S &&& (S - 1) < S := by
  have h1 := low_bit k m
  have h2 := low_bit_pred k m
  rw [← hS] at h1 h2
  refine ⟨filter_first _ _ 64 k hk ?_ ?_ ?_, ?_⟩
  · rw [h1]; simp
  · intro i hi
    rw [h1]
    have a : ¬ k = i := by omega
    have b : ¬ k < i := by omega
    simp [a, b]
  · intro i
    rw [Nat.testBit_and, h1, h2]
    by_cases e : k = i
    · subst e; simp
    · have e' : i ≠ k := fun h => e h.symm
      by_cases h3 : k < i
      · have h4 : ¬ i < k := by omega
        simp [e, e', h3, h4]
      · simp [e, h3]
  · have hle : S &&& (S - 1) ≤ S - 1 := Nat.and_le_right
    have hp := Nat.two_pow_pos k
    have : 0 < S := by rw [hS]; exact Nat.mul_pos hp (by omega)
    omega
theorem elems_zero : elems 0 = [] := by
  unfold elems
  rw [List.filter_eq_nil_iff]
  intro a _
  simp
theorem mem_elems (S i : Nat) : i ∈ elems S ↔ i < 64 ∧ S.testBit i = true := by
  unfold elems; simp [List.mem_filter]
/-- The bit of an element, set. -/
theorem testBit_with (S x i : Nat) : (S ||| 2 ^ x).testBit i = (S.testBit i || decide (x = i)) := by
  rw [Nat.testBit_or, Nat.testBit_two_pow]
theorem with_lt (S x n : Nat) (hS : S < 2 ^ n) (hx : x < n) : S ||| 2 ^ x < 2 ^ n :=
  Nat.or_lt_two_pow hS (Nat.pow_lt_pow_right (by decide) hx)
end Go.Proofs.YtphpablchlpagaaDoor
namespace Go.Proofs.YtphpablchlpagaaDoor
def m0 : Nat := 0x5555555555555555
def m1 : Nat := 0x3333333333333333
def m2 : Nat := 0x0f0f0f0f0f0f0f0f
def s1 (x : Nat) : Nat := ((x >>> 1) &&& m0) + (x &&& m0)
def s2 (x : Nat) : Nat := ((x >>> 2) &&& m1) + (x &&& m1)
def s3 (x : Nat) : Nat := ((x >>> 4) + x) &&& m2
def s4 (x : Nat) : Nat := (x + x >>> 8) % 18446744073709551616
def s5 (x : Nat) : Nat := (x + x >>> 16) % 18446744073709551616
def s6 (x : Nat) : Nat := (x + x >>> 32) % 18446744073709551616
def swar (x : Nat) : Nat := s6 (s5 (s4 (s3 (s2 (s1 x))))) &&& 127
/-- and, digit by digit. -/
theorem land_digit (k a b A B : Nat) (ha : a < 2 ^ k) (hb : b < 2 ^ k) : (2 ^ k * A + a) &&& (2 ^ k * B + b) = 2 ^ k * (A &&& B) + (a &&& b) := by
  apply Nat.eq_of_testBit_eq
  intro i
  rw [Nat.testBit_and, Nat.testBit_two_pow_mul_add _ ha, Nat.testBit_two_pow_mul_add _ hb, Nat.testBit_two_pow_mul_add _ (Nat.and_lt_two_pow _ hb)]
  split
  · rw [Nat.testBit_and]
  · rw [Nat.testBit_and]
/-- The masks of n bytes, all of one make. -/
def mask (c : Nat) : Nat → Nat
  | 0 => 0
  | n + 1 => 256 * mask c n + c
theorem mask_succ (c n : Nat) : mask c (n + 1) = 256 * mask c n + c := rfl
def t1 (n x : Nat) : Nat := ((x / 2) &&& mask 0x55 n) + (x &&& mask 0x55 n)
def t2 (n x : Nat) : Nat := ((x / 4) &&& mask 0x33 n) + (x &&& mask 0x33 n)
def t3 (n x : Nat) : Nat := ((x / 16) + x) &&& mask 0x0f n
theorem b1 : ∀ b, b < 256 → ∀ t, t < 2 → ((b / 2 + 128 * t) &&& 0x55) = ((b / 2) &&& 0x55) := by decide +kernel
theorem b2 : ∀ b, b < 256 → ∀ t, t < 4 → ((b / 4 + 64 * t) &&& 0x33) = ((b / 4) &&& 0x33) := by decide +kernel
theorem t1_digit (n b X : Nat) (hb : b < 256) : t1 (n + 1) (256 * X + b) = 256 * t1 n X + (((b / 2) &&& 0x55) + (b &&& 0x55)) := by
  unfold t1
  rw [mask_succ]
  have e1 : (256 * X + b) / 2 = 256 * (X / 2) + (b / 2 + 128 * (X % 2)) := by omega
  have h1 := land_digit 8 (b / 2 + 128 * (X % 2)) 0x55 (X / 2) (mask 0x55 n) (by omega) (by decide)
  have h2 := land_digit 8 b 0x55 X (mask 0x55 n) hb (by decide)
  simp only [Nat.reducePow] at h1 h2
  rw [e1, h1, h2, b1 b hb (X % 2) (by omega)]
  omega
theorem t2_digit (n b X : Nat) (hb : b < 256) : t2 (n + 1) (256 * X + b) = 256 * t2 n X + (((b / 4) &&& 0x33) + (b &&& 0x33)) := by
  unfold t2
  rw [mask_succ]
  have e1 : (256 * X + b) / 4 = 256 * (X / 4) + (b / 4 + 64 * (X % 4)) := by omega
  have h1 := land_digit 8 (b / 4 + 64 * (X % 4)) 0x33 (X / 4) (mask 0x33 n) (by omega) (by decide)
  have h2 := land_digit 8 b 0x33 X (mask 0x33 n) hb (by decide)
  simp only [Nat.reducePow] at h1 h2
  rw [e1, h1, h2, b2 b hb (X % 4) (by omega)]
  omega
theorem b3 : ∀ b, b < 256 → ∀ t, t < 16 → b / 16 + b + 16 * t < 256 → ((b / 16 + b + 16 * t) &&& 0x0f) = ((b / 16 + b) &&& 0x0f) := by decide +kernel
theorem t3_digit (n b X : Nat) (hb : b < 256) (hs : b / 16 + b + 16 * (X % 16) < 256) : t3 (n + 1) (256 * X + b) = 256 * t3 n X + ((b / 16 + b) &&& 0x0f) := by
  unfold t3
  rw [mask_succ]
  have e1 : (256 * X + b) / 16 + (256 * X + b) = 256 * (X / 16 + X) + (b / 16 + b + 16 * (X % 16)) := by omega
  have h1 := land_digit 8 (b / 16 + b + 16 * (X % 16)) 0x0f (X / 16 + X) (mask 0x0f n) hs (by decide)
  simp only [Nat.reducePow] at h1
  rw [e1, h1, b3 b hb (X % 16) (by omega) hs]
/-- The bits of a byte. -/
def byteCount (b : Nat) : Nat := ((List.range 8).filter b.testBit).length
def c1 (b : Nat) : Nat := ((b / 2) &&& 0x55) + (b &&& 0x55)
def c2 (b : Nat) : Nat := ((b / 4) &&& 0x33) + (b &&& 0x33)
def c3 (b : Nat) : Nat := (b / 16 + b) &&& 0x0f
theorem byte_ok : ∀ b, b < 256 → c1 b < 256 ∧ c2 (c1 b) < 256 ∧ c2 (c1 b) / 16 + c2 (c1 b) ≤ 80 ∧ c2 (c1 b) % 16 ≤ 4 ∧ c3 (c2 (c1 b)) = byteCount b ∧ byteCount b ≤ 8 := by decide +kernel
/-- The digits to the base 256, lowest first. -/
def ofBytes : List Nat → Nat
  | [] => 0
  | b :: l => 256 * ofBytes l + b
theorem t123 : ∀ (l : List Nat), (∀ b ∈ l, b < 256) → t2 l.length (t1 l.length (ofBytes l)) = ofBytes (l.map fun b => c2 (c1 b)) ∧ t3 l.length (t2 l.length (t1 l.length (ofBytes l))) = ofBytes (l.map byteCount)
  | [], _ => by decide
  | b :: l, h => by
    obtain ⟨i1, i2⟩ := t123 l (fun x hx => h x (List.mem_cons_of_mem _ hx))
    obtain ⟨k1, k2, k3, k4, k5, k6⟩ := byte_ok b (h b List.mem_cons_self)
    have e1 : t1 (l.length + 1) (256 * ofBytes l + b) = 256 * t1 l.length (ofBytes l) + c1 b := t1_digit _ _ _ (h b List.mem_cons_self)
    have e2 : t2 (l.length + 1) (256 * t1 l.length (ofBytes l) + c1 b) = 256 * t2 l.length (t1 l.length (ofBytes l)) + c2 (c1 b) := t2_digit _ _ _ k1
    have hm : t2 l.length (t1 l.length (ofBytes l)) % 16 ≤ 4 := by
      rw [i1]
      cases l with
      | nil => decide
      | cons d r =>
        have := (byte_ok d (h d (by simp))).2.2.2.1
        simp only [List.map_cons, ofBytes]
        omega
    have e3 : t3 (l.length + 1) (256 * t2 l.length (t1 l.length (ofBytes l)) + c2 (c1 b)) = 256 * t3 l.length (t2 l.length (t1 l.length (ofBytes l))) + c3 (c2 (c1 b)) := t3_digit _ _ _ k2 (by omega)
    simp only [List.length_cons, ofBytes, List.map_cons]
    refine ⟨by rw [e1, e2, i1], ?_⟩
    rw [e1, e2, e3, i2, k5]
theorem masks : mask 0x55 8 = m0 ∧ mask 0x33 8 = m1 ∧ mask 0x0f 8 = m2 := by decide
def digits (a b c d e f g h : Nat) : Nat := a + 256 * b + 65536 * c + 16777216 * d + 4294967296 * e + 1099511627776 * f + 281474976710656 * g + 72057594037927936 * h
theorem s4_digits (a b c d e f g h : Nat) (ha : a ≤ 40) (hb : b ≤ 40) (hc : c ≤ 40) (hd : d ≤ 40) (he : e ≤ 40) (hf : f ≤ 40) (hg : g ≤ 40) (hh : h ≤ 40) :
    s4 (digits a b c d e f g h) = digits (a + b) (b + c) (c + d) (d + e) (e + f) (f + g) (g + h) h := by
  have q : (digits a b c d e f g h) >>> 8 = digits b c d e f g h 0 := by
    rw [Nat.shiftRight_eq_div_pow]; unfold digits; omega
  unfold s4
  rw [q]
  unfold digits
  omega
theorem s5_digits (a b c d e f g h : Nat) (ha : a ≤ 40) (hb : b ≤ 40) (hc : c ≤ 40) (hd : d ≤ 40) (he : e ≤ 40) (hf : f ≤ 40) (hg : g ≤ 40) (hh : h ≤ 40) :
    s5 (digits a b c d e f g h) = digits (a + c) (b + d) (c + e) (d + f) (e + g) (f + h) g h := by
  have q : (digits a b c d e f g h) >>> 16 = digits c d e f g h 0 0 := by
    rw [Nat.shiftRight_eq_div_pow]; unfold digits; omega
  unfold s5
  rw [q]
  unfold digits
  omega
theorem s6_digits (a b c d e f g h : Nat) (ha : a ≤ 40) (hb : b ≤ 40) (hc : c ≤ 40) (hd : d ≤ 40) (he : e ≤ 40) (hf : f ≤ 40) (hg : g ≤ 40) (hh : h ≤ 40) :
    s6 (digits a b c d e f g h) = digits (a + e) (b + f) (c + g) (d + h) e f g h := by
  have q : (digits a b c d e f g h) >>> 32 = digits e f g h 0 0 0 0 := by
    rw [Nat.shiftRight_eq_div_pow]; unfold digits; omega
  unfold s6
  rw [q]
  unfold digits
  omega
theorem swar_bytes (a b c d e f g h : Nat) (ha : a < 256) (hb : b < 256) (hc : c < 256) (hd : d < 256) (he : e < 256) (hf : f < 256) (hg : g < 256) (hh : h < 256) :
    swar (ofBytes [a, b, c, d, e, f, g, h]) = byteCount a + byteCount b + byteCount c + byteCount d + byteCount e + byteCount f + byteCount g + byteCount h := by
  have ht := (t123 [a, b, c, d, e, f, g, h] (by simp; omega)).2
  simp only [List.length_cons, List.length_nil, Nat.reduceAdd] at ht
  have e1 : ∀ x, s1 x = t1 8 x := fun x => by unfold s1 t1; rw [masks.1, Nat.shiftRight_eq_div_pow]
  have e2 : ∀ x, s2 x = t2 8 x := fun x => by unfold s2 t2; rw [masks.2.1, Nat.shiftRight_eq_div_pow]
  have e3 : ∀ x, s3 x = t3 8 x := fun x => by unfold s3 t3; rw [masks.2.2, Nat.shiftRight_eq_div_pow]
  unfold swar
  rw [e1, e2, e3, ht]
  have := (byte_ok a ha).2.2.2.2.2; have := (byte_ok b hb).2.2.2.2.2; have := (byte_ok c hc).2.2.2.2.2; have := (byte_ok d hd).2.2.2.2.2
  have := (byte_ok e he).2.2.2.2.2; have := (byte_ok f hf).2.2.2.2.2; have := (byte_ok g hg).2.2.2.2.2; have := (byte_ok h hh).2.2.2.2.2
  simp only [List.map_cons, List.map_nil, ofBytes]
  generalize byteCount a = a at *; generalize byteCount b = b at *; generalize byteCount c = c at *; generalize byteCount d = d at *
  generalize byteCount e = e at *; generalize byteCount f = f at *; generalize byteCount g = g at *; generalize byteCount h = h at *
  have h127 : ∀ x, x &&& 127 = x % 128 := fun x => Nat.and_two_pow_sub_one_eq_mod x 7
  rw [h127]
  rw [show 256 * (256 * (256 * (256 * (256 * (256 * (256 * (256 * 0 + h) + g) + f) + e) + d) + c) + b) + a = digits a b c d e f g h from by unfold digits; omega]
  rw [s4_digits a b c d e f g h (by omega) (by omega) (by omega) (by omega) (by omega) (by omega) (by omega) (by omega)]
  rw [s5_digits _ _ _ _ _ _ _ _ (by omega) (by omega) (by omega) (by omega) (by omega) (by omega) (by omega) (by omega)]
  rw [s6_digits _ _ _ _ _ _ _ _ (by omega) (by omega) (by omega) (by omega) (by omega) (by omega) (by omega) (by omega)]
  unfold digits
  omega
theorem chunk (x k : Nat) : ((List.range 8).map (fun i => 8 * k + i) |>.filter x.testBit).length = byteCount (x / 2 ^ (8 * k) % 256) := by
  unfold byteCount
  rw [List.filter_map, List.length_map]
  congr 1
  apply List.filter_congr
  intro i hi
  have hi := List.mem_range.1 hi
  have h := Nat.testBit_mod_two_pow (x / 2 ^ (8 * k)) 8 i
  simp only [Nat.reducePow] at h
  rw [h, Nat.testBit_div_two_pow]
  simp [hi, Nat.add_comm]
theorem range64 : List.range 64 = (List.range 8).map (fun i => 8 * 0 + i) ++ (List.range 8).map (fun i => 8 * 1 + i) ++ (List.range 8).map (fun i => 8 * 2 + i) ++ (List.range 8).map (fun i => 8 * 3 + i) ++
    (List.range 8).map (fun i => 8 * 4 + i) ++ (List.range 8).map (fun i => 8 * 5 + i) ++ (List.range 8).map (fun i => 8 * 6 + i) ++ (List.range 8).map (fun i => 8 * 7 + i) := by decide
theorem swar_eq (x : Nat) (hx : x < 18446744073709551616) : swar x = (elems x).length := by
  have hb : x = ofBytes [x / 2 ^ (8 * 0) % 256, x / 2 ^ (8 * 1) % 256, x / 2 ^ (8 * 2) % 256, x / 2 ^ (8 * 3) % 256, x / 2 ^ (8 * 4) % 256, x / 2 ^ (8 * 5) % 256, x / 2 ^ (8 * 6) % 256, x / 2 ^ (8 * 7) % 256] := by
    simp only [ofBytes, Nat.reducePow, Nat.reduceMul]; omega
  conv => lhs; rw [hb]
  rw [swar_bytes _ _ _ _ _ _ _ _ (by omega) (by omega) (by omega) (by omega) (by omega) (by omega) (by omega) (by omega)]
  unfold elems
  rw [range64]
  simp only [List.filter_append, List.length_append, chunk]
end Go.Proofs.YtphpablchlpagaaDoor
namespace Go.Proofs.YtphpablchlpagaaDoor
open Go.RowKit
theorem wrap_u64n (n : Nat) (h : n < 18446744073709551616) : IntKind.u64.wrap (n : Int) = (n : Int) := by
  have : IntKind.u64.wrap (n : Int) = (n : Int) % 18446744073709551616 := by simp [IntKind.wrap, IntKind.signed, IntKind.bits]
  rw [this]; omega
theorem bits_and_n (a b : Nat) (ha : a < 2 ^ 64) (hb : b < 2 ^ 64) : bits .and .u64 (a : Int) (b : Int) = ((a &&& b : Nat) : Int) := by
  have h1 : (BitVec.ofInt 64 (a : Int)).toNat = a := by rw [BitVec.ofInt_natCast, BitVec.toNat_ofNat]; exact Nat.mod_eq_of_lt ha
  have h2 : (BitVec.ofInt 64 (b : Int)).toNat = b := by rw [BitVec.ofInt_natCast, BitVec.toNat_ofNat]; exact Nat.mod_eq_of_lt hb
  show IntKind.u64.wrap ((BitVec.ofInt 64 (a : Int) &&& BitVec.ofInt 64 (b : Int)).toNat : Int) = _
  rw [BitVec.toNat_and, h1, h2, wrap_u64n _ (Nat.and_lt_two_pow _ hb)]
theorem bits_or_n (a b : Nat) (ha : a < 2 ^ 64) (hb : b < 2 ^ 64) : bits .or .u64 (a : Int) (b : Int) = ((a ||| b : Nat) : Int) := by
  have h1 : (BitVec.ofInt 64 (a : Int)).toNat = a := by rw [BitVec.ofInt_natCast, BitVec.toNat_ofNat]; exact Nat.mod_eq_of_lt ha
  have h2 : (BitVec.ofInt 64 (b : Int)).toNat = b := by rw [BitVec.ofInt_natCast, BitVec.toNat_ofNat]; exact Nat.mod_eq_of_lt hb
  show IntKind.u64.wrap ((BitVec.ofInt 64 (a : Int) ||| BitVec.ofInt 64 (b : Int)).toNat : Int) = _
  rw [BitVec.toNat_or, h1, h2, wrap_u64n _ (Nat.or_lt_two_pow ha hb)]
theorem pow_cast (n : Nat) : ((2 : Int) ^ n) = ((2 ^ n : Nat) : Int) := by simp
theorem pow_lt64 (n : Nat) (h : n < 64) : 2 ^ n < 18446744073709551616 := Nat.pow_lt_pow_right (a := 2) (n := 64) (by decide) h
set_option maxHeartbeats 400000 in
theorem Below_any (n : Nat) (w : World) (hn : n ≤ 60) :
    Calls Tryd.prog 47 #[.int .i64 n] w fun e w' => e = .returned (.int .u64 ((2 ^ n - 1 : Nat) : Int)) ∧ w = w' := by
  go_enter Tryd.func47, Tryd.ntmps47
  go_wp2
  go_ret
  have h1 := pow_lt64 n (by omega)
  have h0 := Nat.two_pow_pos n
  refine ⟨ret_int ?_, rfl⟩
  rw [pow_cast, wrap_u64n _ h1]
  have e : ((2 ^ n : Nat) : Int) - 1 = ((2 ^ n - 1 : Nat) : Int) := by omega
  rw [e, wrap_u64n _ (by omega)]
set_option maxHeartbeats 400000 in
theorem With_any (S x : Nat) (w : World) (hS : S < 2 ^ 64) (hx : x < 64) :
    Calls Tryd.prog 59 #[.int .u64 S, .int .i64 x] w fun e w' => e = .returned (.int .u64 ((S ||| 2 ^ x : Nat) : Int)) ∧ w = w' := by
  go_enter Tryd.func59, Tryd.ntmps59
  go_wp2
  go_ret
  have h1 := pow_lt64 x hx
  refine ⟨ret_int ?_, rfl⟩
  rw [pow_cast, wrap_u64n _ h1, bits_or_n _ _ hS (by omega)]
set_option maxHeartbeats 400000 in
theorem Has_any (S x : Nat) (w : World) (hS : S < 2 ^ 64) (hx : x < 64) :
    Calls Tryd.prog 73 #[.int .u64 S, .int .i64 x] w fun e w' => e = .returned (.bool (S.testBit x)) ∧ w = w' := by
  go_enter Tryd.func73, Tryd.ntmps73
  go_wp2
  go_ret
  refine ⟨ret_bool ?_, rfl⟩
  have hd : (S : Int) / 2 ^ x = ((S / 2 ^ x : Nat) : Int) := by simp
  have hlt : S / 2 ^ x < 2 ^ 64 := Nat.lt_of_le_of_lt (Nat.div_le_self _ _) hS
  rw [hd, show (1 : Int) = ((1 : Nat) : Int) from rfl, bits_and_n _ 1 hlt (by decide), Nat.and_one_is_mod]
  rw [Nat.testBit_eq_decide_div_mod_eq]
  by_cases h : S / 2 ^ x % 2 = 1
  · simp [h]
  · simp [h]; omega
end Go.Proofs.YtphpablchlpagaaDoor
namespace Go.Proofs.YtphpablchlpagaaDoor
open Go.RowKit
theorem s12_fact (S c m k : Nat) (hS : S < 18446744073709551616) (hm : m < 18446744073709551616) (hk : k = ((S / c) &&& m) + (S &&& m)) (hlt : k < 18446744073709551616) :
    IntKind.u64.wrap (bits .and .u64 ((S : Int) / (c : Int)) (m : Int) + bits .and .u64 (S : Int) (m : Int)) = (k : Int) := by
  have hd : (S : Int) / (c : Int) = ((S / c : Nat) : Int) := by simp
  have hlt2 : S / c < 2 ^ 64 := Nat.lt_of_le_of_lt (Nat.div_le_self _ _) hS
  rw [hd, bits_and_n _ m hlt2 hm, bits_and_n _ m hS hm, hk]
  have e : (((S / c &&& m : Nat) : Int) + ((S &&& m : Nat) : Int)) = (((S / c &&& m) + (S &&& m) : Nat) : Int) := by simp
  rw [e, wrap_u64n _ (by rw [← hk]; exact hlt)]
theorem s3_fact (S m k : Nat) (hS : S / 16 + S < 18446744073709551616) (hm : m < 18446744073709551616) (hk : k = (S / 16 + S) &&& m) :
    bits .and .u64 (IntKind.u64.wrap ((S : Int) / 16 + (S : Int))) (m : Int) = (k : Int) := by
  have hd : (S : Int) / 16 + (S : Int) = ((S / 16 + S : Nat) : Int) := by simp
  rw [hd, wrap_u64n _ hS, bits_and_n _ m hS hm, hk]
theorem s4_fact (S c k : Nat) (hk : k = (S + S / c) % 18446744073709551616) :
    IntKind.u64.wrap ((S : Int) + (S : Int) / (c : Int)) = (k : Int) := by
  have hd : (S : Int) + (S : Int) / (c : Int) = ((S + S / c : Nat) : Int) := by simp
  have e0 : ∀ n : Int, IntKind.u64.wrap n = n % 18446744073709551616 := fun n => by simp [IntKind.wrap, IntKind.signed, IntKind.bits]
  rw [hd, e0, hk]; simp
theorem and_low (a : Nat) (ha : a < 18446744073709551616) : bits .and .i64 (wrap64 (a : Int)) 127 = ((a &&& 127 : Nat) : Int) := by
  have h1 : (BitVec.ofInt 64 (wrap64 (a : Int))).toNat = a := by
    rw [BitVec.toNat_ofInt]
    unfold wrap64
    omega
  have h2 : (BitVec.ofInt 64 127).toNat = 127 := by decide
  show IntKind.i64.wrap ((BitVec.ofInt 64 (wrap64 (a : Int)) &&& BitVec.ofInt 64 127).toNat : Int) = _
  rw [BitVec.toNat_and, h1, h2]
  have h3 : a &&& 127 ≤ 127 := Nat.and_le_right
  rw [IntKind.wrap_i64]
  omega
/-- Each sum of two halves of a mask fits. -/
theorem s_lt (a b m : Nat) (hm : m ≤ 6148914691236517205) : (a &&& m) + (b &&& m) < 18446744073709551616 := by
  have h1 : a &&& m ≤ m := Nat.and_le_right
  have h2 : b &&& m ≤ m := Nat.and_le_right
  omega
set_option maxHeartbeats 400000 in
theorem OnesCount64_any (S : Nat) (w : World) (hS : S < 18446744073709551616) :
    Calls Tryd.prog 68 #[.int .u64 S] w fun e w' => e = .returned (.int .i64 ((elems S).length : Nat)) ∧ w = w' := by
  obtain ⟨a1, H1⟩ : ∃ a, Hid (a = s1 S) := ⟨_, rfl⟩
  obtain ⟨a2, H2⟩ : ∃ a, Hid (a = s2 a1) := ⟨_, rfl⟩
  obtain ⟨a3, H3⟩ : ∃ a, Hid (a = s3 a2) := ⟨_, rfl⟩
  obtain ⟨a4, H4⟩ : ∃ a, Hid (a = s4 a3) := ⟨_, rfl⟩
  obtain ⟨a5, H5⟩ : ∃ a, Hid (a = s5 a4) := ⟨_, rfl⟩
  obtain ⟨a6, H6⟩ : ∃ a, Hid (a = s6 a5) := ⟨_, rfl⟩
  have hsw : Hid (a6 &&& 127 = (elems S).length) := by
    have := swar_eq S hS
    unfold swar at this
    rw [← H1.out, ← H2.out, ← H3.out, ← H4.out, ← H5.out, ← H6.out] at this
    exact this
  have f1 : IntKind.u64.wrap (bits .and .u64 ((S : Int) / 2) 6148914691236517205 + bits .and .u64 (S : Int) 6148914691236517205) = (a1 : Int) :=
    s12_fact S 2 6148914691236517205 a1 hS (by decide) (by rw [H1.out]; unfold s1 m0; rw [Nat.shiftRight_eq_div_pow]) (by rw [H1.out]; exact s_lt _ _ _ (by decide))
  have l1 : a1 < 18446744073709551616 := by rw [H1.out]; exact s_lt _ _ _ (by decide)
  have f2 : IntKind.u64.wrap (bits .and .u64 ((a1 : Int) / 4) 3689348814741910323 + bits .and .u64 (a1 : Int) 3689348814741910323) = (a2 : Int) :=
    s12_fact a1 4 3689348814741910323 a2 l1 (by decide) (by rw [H2.out]; unfold s2 m1; rw [Nat.shiftRight_eq_div_pow]) (by rw [H2.out]; exact s_lt _ _ _ (by decide))
  have l2 : a2 / 16 + a2 < 18446744073709551616 := by
    have h1 : (a1 >>> 2) &&& m1 ≤ m1 := Nat.and_le_right
    have h2 : a1 &&& m1 ≤ m1 := Nat.and_le_right
    have h3 : a2 ≤ m1 + m1 := by rw [H2.out]; unfold s2; omega
    unfold m1 at h3; omega
  have f3 : bits .and .u64 (IntKind.u64.wrap ((a2 : Int) / 16 + (a2 : Int))) 1085102592571150095 = (a3 : Int) :=
    s3_fact a2 1085102592571150095 a3 l2 (by decide) (by rw [H3.out]; unfold s3 m2; rw [Nat.shiftRight_eq_div_pow])
  have f4 : IntKind.u64.wrap ((a3 : Int) + (a3 : Int) / 256) = (a4 : Int) := s4_fact a3 256 a4 (by rw [H4.out]; unfold s4; rw [Nat.shiftRight_eq_div_pow])
  have f5 : IntKind.u64.wrap ((a4 : Int) + (a4 : Int) / 65536) = (a5 : Int) := s4_fact a4 65536 a5 (by rw [H5.out]; unfold s5; rw [Nat.shiftRight_eq_div_pow])
  have f6 : IntKind.u64.wrap ((a5 : Int) + (a5 : Int) / 4294967296) = (a6 : Int) := s4_fact a5 4294967296 a6 (by rw [H6.out]; unfold s6; rw [Nat.shiftRight_eq_div_pow])
  clear l1 l2 hS
  go_enter Tryd.func68, Tryd.ntmps68
  go_wp2
  go_ret
  refine ⟨ret_int (k := .i64) (a := bits .and .i64 (wrap64 (a6 : Int)) 127) ?_, rfl⟩
  rw [and_low a6 (by rw [H6.out]; unfold s6; omega), hsw.out]
/-- The table of the library's, in its variable. -/
def Tab (w : World) : Prop := ∀ j, j < 64 → w.cell? ⟨0, j, none⟩ = some (.int .u8 (Lib.deBruijn64tab.getD j 0))
theorem tz_key (x a : Nat) (hx : x < 18446744073709551616) (hx0 : x ≠ 0) (hlow : x &&& (18446744073709551616 - x) = a) :
    IntKind.u64.wrap (bits BinOp.and IntKind.u64 (x : Int) (IntKind.u64.wrap (-(x : Int))) * 285870213051353865) / 288230376151711744 = ((a * 285870213051353865 % 18446744073709551616 / 288230376151711744 : Nat) : Int) := by
  have e0 : ∀ n : Int, IntKind.u64.wrap n = n % 18446744073709551616 := fun n => by simp [IntKind.wrap, IntKind.signed, IntKind.bits]
  have e1 : IntKind.u64.wrap (-(x : Int)) = ((18446744073709551616 - x : Nat) : Int) := by rw [e0]; omega
  rw [e1, bits_and_n x _ hx (by show _ < 18446744073709551616; omega), hlow, e0]
  omega
set_option maxHeartbeats 1000000 in
theorem tz_core (x k idx : Nat) (w : World) (hx0 : ((x : Int) == 0) = false)
    (key : IntKind.u64.wrap (bits BinOp.and IntKind.u64 (x : Int) (IntKind.u64.wrap (-(x : Int))) * 285870213051353865) / 288230376151711744 = (idx : Int))
    (hi : idx < 64) (hk : k < 64) (hcell : w.cell? ⟨0, idx, none⟩ = some (.int .u8 k)) :
    Calls Tryd.prog 79 #[.int .u64 x] w fun e w' => e = .returned (.int .i64 k) ∧ w = w' := by
  go_enter Tryd.func79, Tryd.ntmps79
  go_wp2_with (simp only [key])
  go_ret
  exact ⟨rfl, rfl⟩
theorem TrailingZeros64_any (x : Nat) (hx : x < 18446744073709551616) (h0 : x ≠ 0) (w : World) (hT : Tab w) :
    Calls Tryd.prog 79 #[.int .u64 x] w fun e w' => e = .returned (.int .i64 (Lib.ctz 64 x)) ∧ w = w' := by
  obtain ⟨hlow, hk⟩ := Lib.lowest_bit 64 x h0 hx
  obtain ⟨hi, htab⟩ := Lib.deBruijn64_at _ hk
  have hcell := hT _ hi
  rw [htab] at hcell
  exact tz_core x _ _ w (by simp; omega) (tz_key x _ hx h0 hlow) hi hk hcell
theorem Tab.below {w w' : World} {B : Nat} (h : Tab w) (hb : Below B w w') (hB : 0 < B) : Tab w' :=
  fun j hj => (hb.cell (p := ⟨0, j, none⟩) hB).trans (h j hj)
theorem Tab.lt {w : World} (h : Tab w) : 0 < w.heap.size := World.block_lt_of_cell? _ _ (h 0 (by decide))
theorem Tab.on {w w' : World} (h : Tab w) (hb : Below w.heap.size w w') : Tab w' := h.below hb h.lt
set_option maxHeartbeats 400000 in
theorem Size_any (S : Nat) (w : World) (hS : S < 18446744073709551616) :
    Calls Tryd.prog 48 #[.int .u64 S] w fun e w' => e = .returned (.int .i64 ((elems S).length : Nat)) ∧ w = w' := by
  go_enter Tryd.func48, Tryd.ntmps48
  go_wp2_with (go_at_call 68; refine (OnesCount64_any S _ hS).mono ?_; rintro e w' ⟨rfl, rfl⟩)
  go_ret
  exact ⟨rfl, rfl⟩
/-- The set of a list. -/
def ofList (l : List Int) : Nat := l.foldl (fun S x => S ||| 2 ^ x.toNat) 0
theorem ofList_snoc (l : List Int) (k : Nat) (hk : k < l.length) : ofList (l.take (k + 1)) = ofList (l.take k) ||| 2 ^ (l.getD k 0).toNat := by
  unfold ofList
  rw [List.take_succ_eq_append_getElem hk, List.foldl_append]
  simp [List.getD_eq_getElem?_getD, List.getElem?_eq_getElem hk]
theorem foldl_or_lt (n : Nat) (hn : n ≤ 64) : ∀ (l : List Int) (S : Nat), S < 2 ^ n → (∀ x ∈ l, 0 ≤ x ∧ x < n) → l.foldl (fun S x => S ||| 2 ^ x.toNat) S < 2 ^ n
  | [], S, hS, _ => hS
  | x :: l, S, hS, h => foldl_or_lt n hn l _ (with_lt S _ n hS (by have := h x (by simp); omega)) (fun y hy => h y (List.mem_cons_of_mem _ hy))
theorem ofList_lt (n : Nat) (hn : n ≤ 64) (l : List Int) (h : ∀ x ∈ l, 0 ≤ x ∧ x < n) : ofList l < 2 ^ n := foldl_or_lt n hn l 0 (Nat.two_pow_pos n) h
theorem mem_getD {l : List Int} {k : Nat} (hk : k < l.length) : l.getD k 0 ∈ l := by
  have e : l.getD k 0 = l[k] := by simp [List.getD_eq_getElem?_getD, List.getElem?_eq_getElem hk]
  rw [e]; exact List.getElem_mem _
set_option maxHeartbeats 400000 in
theorem Of_any (v : Value) (l : List Int) (w : World) (h : Ints w v l) (hl : ∀ x ∈ l, 0 ≤ x ∧ x < 64) :
    Calls Tryd.prog 41 #[v] w fun e w' => e = .returned (.int .u64 (ofList l : Nat)) ∧ w = w' := by
  obtain ⟨A, cap, rfl, hn, hc⟩ := h
  unfold big at hn
  go_enter Tryd.func41, Tryd.ntmps41
  go_wp2
  go_loop [3, 8] (fun S i => ∃ k : Nat, k ≤ l.length ∧ i = .int .i64 k ∧ S = .int .u64 (ofList (l.take k) : Nat)) (fun _ i => l.length - (intOf i).toNat)
  case atStart => exact ⟨0, Nat.zero_le _, rfl, rfl⟩
  case round =>
    obtain ⟨k, hk, rfl, rfl⟩ := hrel
    by_cases hlt : k < l.length
    · obtain ⟨b, off, hA, hcell⟩ := hc k hlt
      subst hA
      have Hs := hid (ofList_snoc l k hlt)
      have hS := ofList_lt 64 (by decide) (l.take k) (fun x hx => hl x (List.mem_of_mem_take hx))
      have hx := hl _ (mem_getD hlt)
      clear hc hl
      generalize ofList (l.take k) = S at *
      generalize l.getD k 0 = x at *
      obtain ⟨xn, rfl⟩ := Int.eq_ofNat_of_zero_le hx.1
      rw [Int.toNat_natCast] at Hs
      go_wp2_with (go_at_call 59; refine (With_any S xn _ hS (by omega)).mono ?_; rintro e w' ⟨rfl, rfl⟩)
      go_round
      case rel => exact ⟨k + 1, by omega, by go_num, by rw [Hs.out]⟩
      case measure => simp [intOf]; omega
    · go_wp2
      go_ret
      exact ⟨ret_int (by rw [List.take_of_length_le (by omega)]), rfl⟩
/-- Of the first k states those that a letter leads into a set. -/
def preTo (m : List (List Int)) (S : Nat) (x : Int) : Nat → Nat
  | 0 => 0
  | k + 1 => if S.testBit (nx m k x) then preTo m S x k ||| 2 ^ k else preTo m S x k
theorem preTo_lt (m : List (List Int)) (S : Nat) (x : Int) (n : Nat) (hn : n ≤ 64) : ∀ k, k ≤ n → preTo m S x k < 2 ^ n
  | 0, _ => Nat.two_pow_pos n
  | k + 1, h => by
    unfold preTo
    split
    · exact with_lt _ _ n (preTo_lt m S x n hn k (by omega)) (by omega)
    · exact preTo_lt m S x n hn k (by omega)
set_option maxHeartbeats 400000 in
theorem SetPreimage_any (v : Value) (m : List (List Int)) (S : Nat) (x : Nat) (w : World) (h : Rows w v m) (hv : validM m = true) (hS : S < 2 ^ 64) (hx : x < letters m) :
    Calls Tryd.prog 54 #[.int .u64 S, v, .int .i64 x] w fun e w' => e = .returned (.int .u64 (preTo m S x m.length : Nat)) ∧ w = w' := by
  obtain ⟨A, cap, rfl, hn, hc⟩ := h
  unfold big at hn
  obtain ⟨p1, p2, p3, p4, p5⟩ := valid_parts hv
  go_enter Tryd.func54, Tryd.ntmps54
  go_wp2
  go_loop [7, 12] (fun T i => ∃ k : Nat, k ≤ m.length ∧ i = .int .i64 k ∧ T = .int .u64 (preTo m S x k : Nat)) (fun _ i => m.length - (intOf i).toNat)
  case atStart => exact ⟨0, Nat.zero_le _, rfl, rfl⟩
  case round =>
    obtain ⟨k, hk, rfl, rfl⟩ := hrel
    by_cases hlt : k < m.length
    · obtain ⟨b, off, r, hA, hcell, hr⟩ := hc k hlt
      subst hA
      obtain ⟨Ar, capr, rfl, hlr, hcr⟩ := hr
      have hrl := (p5 k hlt).1
      obtain ⟨br, offr, hAr, hrcell⟩ := hcr x (by omega)
      subst hAr
      have hnx := nx_ok hv hlt (x := x) (by omega) (by omega)
      rw [Int.toNat_natCast] at hnx
      rw [hnx.2] at hrcell
      rw [hrl] at hcell
      have hT := preTo_lt m S x 64 (by decide) k (by omega)
      have Hs : Hid (preTo m S x (k + 1) = if S.testBit (nx m k x) then preTo m S x k ||| 2 ^ k else preTo m S x k) := rfl
      have hq := hnx.1
      have hin : (x : Int) < letters m := by omega
      clear hc hcr p5 hnx hrl
      generalize preTo m S x k = T at *
      generalize nx m k x = q at *
      by_cases hb : S.testBit q = true
      · rw [if_pos hb] at Hs
        go_wp2_with fail
        refine (Has_any S q _ hS (by omega)).mono ?_
        rw [hb]
        rintro e w' ⟨rfl, rfl⟩
        go_wp2_with (go_at_call 59; refine (With_any T k _ hT (by omega)).mono ?_; rintro e w' ⟨rfl, rfl⟩)
        go_round
        case rel => exact ⟨k + 1, by omega, by go_num, by rw [Hs.out]⟩
        case measure => simp [intOf]; omega
      · rw [if_neg hb] at Hs
        have hb' : S.testBit q = false := by simpa using hb
        clear hb
        go_wp2_with fail
        refine (Has_any S q _ hS (by omega)).mono ?_
        rw [hb']
        rintro e w' ⟨rfl, rfl⟩
        go_wp2
        go_round
        case rel => exact ⟨k + 1, by omega, by go_num, by rw [Hs.out]⟩
        case measure => simp [intOf]; omega
    · go_wp2
      go_ret
      obtain rfl : k = m.length := by omega
      exact ⟨rfl, rfl⟩
end Go.Proofs.YtphpablchlpagaaDoor
namespace Go.Proofs.YtphpablchlpagaaDoor
open Go.RowKit Go.Deep Go.ChangeShapes Go.WideShapes
section
variable {H : Type} {enc : TypeId × Value → H} {W : World} {base : Nat}
theorem weightsAll_mem {P : Program} {e : TypeId} : ∀ {l : List (DataW H)} {d : DataW H}, d ∈ l → ∀ n ∈ d.weights P e, n ∈ DataW.weightsAll P e l
  | [], _, h => by cases h
  | x :: r, d, h => by
    intro n hn
    rw [DataW.weightsAll, List.mem_append]
    rcases List.mem_cons.1 h with rfl | h'
    · exact .inl hn
    · exact .inr (weightsAll_mem h' n hn)
theorem bytes_int : Tryd.prog.bytesOf 3 = 8 := by kernel_rfl
theorem bytes_row : Tryd.prog.bytesOf 34 = 24 := by kernel_rfl
theorem cells_int : Tryd.prog.cellsOf 3 = 1 := by kernel_rfl
theorem cells_row : Tryd.prog.cellsOf 34 = 1 := by kernel_rfl
theorem cells_auto : Tryd.prog.cellsOf 24 = 1 := by kernel_rfl
theorem reach_big {n : Nat} (h : n * 8 ≤ reachBytes) : n ≤ big := by unfold reachBytes at h; unfold big; omega
theorem add_spot {a : Addr} {i : Nat} {v : Value} (h : W.cell? (a.add i) = some v) : a.add i = ⟨a.block, a.off + i, none⟩ := by
  by_cases h0 : i = 0
  · subst h0
    simp only [Addr.add, if_true] at h ⊢
    obtain ⟨b, o, sp⟩ := a
    obtain rfl := cell_spot h
    rfl
  · simp [Addr.add, h0]
theorem row_ints {A : Option Addr} {L C : Nat} {zs : List Int} (hl : L ≤ C) (hz : zs.length = C) (hn : A = none → C = 0) (hc : ∀ a, A = some a → ∀ c, c < C → W.cell? (a.add c) = some (.int .i64 (zs.getD c 0))) (hb : C ≤ big) : Ints W (.slice A L C) (zs.take L) := by
  have hll : (zs.take L).length = L := by simp; omega
  refine ⟨A, C, by rw [hll], by omega, fun i hi => ?_⟩
  rw [hll] at hi
  cases A with
  | none => have := hn rfl; omega
  | some a =>
    have h1 := hc a rfl i (by omega)
    have h2 := add_spot h1
    refine ⟨a.block, a.off, ?_, ?_⟩
    · have h0 := add_spot (hc a rfl 0 (by omega))
      simp only [Addr.add, if_true, Nat.add_zero] at h0
      rw [h0]
    · rw [h2] at h1
      rw [h1]
      congr 2
      simp [List.getD_eq_getElem?_getD, List.getElem?_take, hi]
theorem ints_of_trod {fuel : Nat} {c : Value} {x : DataW H × List MemPlace} (h : DataW.trod enc Tryd.prog W base (fun _ => true) true fuel 34 [c] = some x) (hw : ∀ n ∈ x.1.weights Tryd.prog 34, n ≤ reachBytes) : ∃ l, Ints W c l := by
  rcases open_ints Tryd.underlying34 Tryd.underlying3 cells_int h with ⟨hc, _⟩ | ⟨a, len, cap, zs, hc, _, hl, _, hz, rfl, hcell, _⟩
  · obtain rfl : c = .slice none 0 0 := by simpa using hc
    exact ⟨[], none, 0, rfl, by simp, fun i hi => by simp at hi⟩
  · obtain rfl : c = .slice (some a) len cap := by simpa using hc
    simp only [if_true] at hz
    have hb := hw ((List.length (lits .i64 (zs.take len) : List (DataW H)) + List.length (lits .i64 (zs.drop len) : List (DataW H))) * Tryd.prog.bytesOf 3) (by simp [DataW.weights, Tryd.underlying34])
    rw [bytes_int] at hb
    simp only [lits, List.length_map, List.length_take, List.length_drop] at hb
    refine ⟨zs.take len, row_ints hl hz (fun h => by cases h) (fun a' ha c hc' => ?_) (reach_big (by omega))⟩
    cases ha
    exact hcell c (by omega)
theorem rows_of_trod {fuel : Nat} {c : Value} {x : DataW H × List MemPlace} (h : DataW.trod enc Tryd.prog W base (fun _ => true) true fuel 22 [c] = some x) (hw : ∀ n ∈ x.1.weights Tryd.prog 22, n ≤ reachBytes) : ∃ m, Rows W c m := by
  rcases open_int_rows Tryd.underlying22 Tryd.underlying34 Tryd.underlying3 cells_row cells_int h with ⟨hc, _⟩ | ⟨a, len, cap, A, L, C, Z, hc, _, hl, _, rfl, hr⟩
  · obtain rfl : c = .slice none 0 0 := by simpa using hc
    exact ⟨[], none, 0, rfl, by simp, fun i hi => by simp at hi⟩
  · obtain rfl : c = .slice (some a) len cap := by simpa using hc
    have hlen : ((List.range len).map fun r => (Z r).take (L r)).length = len := by simp
    have hout := hw ((len + (cap - len)) * Tryd.prog.bytesOf 34) (by simp [DataW.weights, Tryd.underlying22])
    rw [bytes_row] at hout
    have hrow : ∀ r, r < len → C r ≤ big := by
      intro r hr'
      obtain ⟨_, hLC, _, hz, _, hn, _⟩ := hr r (by omega)
      cases hA : A r with
      | none => rw [hn hA]; exact Nat.zero_le _
      | some a' =>
        have hm : (intRow .i64 (A r) (L r) (Z r) : DataW H) ∈ (List.range len).map fun r => (intRow .i64 (A r) (L r) (Z r) : DataW H) := List.mem_map.2 ⟨r, by simpa using hr', rfl⟩
        have hb := hw ((List.length (lits .i64 ((Z r).take (L r)) : List (DataW H)) + List.length (lits .i64 ((Z r).drop (L r)) : List (DataW H))) * Tryd.prog.bytesOf 3) (by
          rw [DataW.weights, Tryd.underlying22]
          refine List.mem_cons_of_mem _ (List.mem_append_left _ (weightsAll_mem hm _ ?_))
          simp [intRow, hA, DataW.weights, Tryd.underlying34])
        rw [bytes_int] at hb
        simp only [lits, List.length_map, List.length_take, List.length_drop] at hb
        exact reach_big (by omega)
    refine ⟨(List.range len).map fun r => (Z r).take (L r), some a, cap, by rw [hlen], by rw [hlen]; unfold reachBytes at hout; unfold big; omega, fun i hi => ?_⟩
    rw [hlen] at hi
    obtain ⟨hcell, hLC, _, hz, _, hn, hcc⟩ := hr i (by omega)
    have h2 := add_spot hcell
    have h00 := add_spot (hr 0 (by omega)).1
    simp only [Addr.add, if_true, Nat.add_zero] at h00
    refine ⟨a.block, a.off, .slice (A i) (L i) (C i), by rw [h00], by rw [h2] at hcell; exact hcell, ?_⟩
    have e1 : ((List.range len).map fun r => (Z r).take (L r)).getD i [] = (Z i).take (L i) := by simp [List.getD_eq_getElem?_getD, hi]
    rw [e1]
    exact row_ints hLC hz hn (fun a' ha c hc' => (hcc a' ha).2 c hc') (hrow i hi)
end
end Go.Proofs.YtphpablchlpagaaDoor
namespace Go.Proofs.YtphpablchlpagaaDoor
open Go.RowKit Go.Shelf
/-- A set of blocks. -/
abbrev Blocks := Nat → Prop
/-- Only the blocks of X may have been turned; new ones may have come. -/
structure Turn (X : Blocks) (W W' : World) : Prop where
  os : W'.os = W.os
  tape : W'.tape = W.tape
  output : W'.output = W.output
  size : W.heap.size ≤ W'.heap.size
  block : ∀ k, k < W.heap.size → ¬ X k → W'.heap[k]? = W.heap[k]?
theorem Turn.refl (X : Blocks) (W : World) : Turn X W W := ⟨rfl, rfl, rfl, Nat.le_refl _, fun _ _ _ => rfl⟩
theorem Turn.trans {X Y : Blocks} {A B C : World} (h : Turn X A B) (k : Turn Y B C) (hXY : ∀ i, Y i → X i ∨ A.heap.size ≤ i) : Turn X A C :=
  ⟨k.os.trans h.os, k.tape.trans h.tape, k.output.trans h.output, Nat.le_trans h.size k.size, fun i hi hX => (k.block i (Nat.lt_of_lt_of_le hi h.size) (fun hY => by
    rcases hXY i hY with h1 | h1
    · exact hX h1
    · omega)).trans (h.block i hi hX)⟩
theorem Turn.of_below {X : Blocks} {W W' : World} (h : Below W.heap.size W W') : Turn X W W' := ⟨h.os, h.tape, h.output, h.size, fun k hk _ => h.block k hk⟩
/-- What a round keeps: whatever lies below n₀, and the iterator's own blocks. -/
structure Keep (n₀ : Nat) (X : Blocks) (W W' : World) : Prop where
  os : W'.os = W.os
  tape : W'.tape = W.tape
  output : W'.output = W.output
  size : W.heap.size ≤ W'.heap.size
  block : ∀ k, k < W.heap.size → (k < n₀ ∨ X k) → W'.heap[k]? = W.heap[k]?
theorem Keep.refl (n₀ : Nat) (X : Blocks) (W : World) : Keep n₀ X W W := ⟨rfl, rfl, rfl, Nat.le_refl _, fun _ _ _ => rfl⟩
theorem Keep.trans {n₀ : Nat} {X : Blocks} {A B C : World} (h : Keep n₀ X A B) (k : Keep n₀ X B C) : Keep n₀ X A C :=
  ⟨k.os.trans h.os, k.tape.trans h.tape, k.output.trans h.output, Nat.le_trans h.size k.size, fun i hi hX => (k.block i (Nat.lt_of_lt_of_le hi h.size) hX).trans (h.block i hi hX)⟩
theorem Keep.of_below {n₀ : Nat} {X : Blocks} {W W' : World} (h : Below W.heap.size W W') : Keep n₀ X W W' := ⟨h.os, h.tape, h.output, h.size, fun k hk _ => h.block k hk⟩
theorem Keep.below {n₀ : Nat} {X : Blocks} {W W' : World} (h : Keep n₀ X W W') (hn : n₀ ≤ W.heap.size) : Below n₀ W W' := ⟨h.os, h.tape, h.output, h.size, fun k hk => h.block k (Nat.lt_of_lt_of_le hk hn) (.inl hk)⟩
/-- A step that turns one block at most, which is neither. -/
theorem Keep.of_grownBy {n₀ : Nat} {X : Blocks} {W W' : World} {row : Option Nat} (hg : W.grownBy W' row) (hr : ∀ k, row = some k → n₀ ≤ k ∧ ¬ X k) : Keep n₀ X W W' :=
  ⟨hg.os, hg.tape, hg.output, hg.size, fun k hk hX => hg.block k hk (fun e => by
    obtain ⟨h1, h2⟩ := hr k e.symm
    rcases hX with h | h
    · omega
    · exact h2 h)⟩
/-- The caller's invariant minds neither a turn of the iterator's blocks, nor new ones, nor a turn of a block of book-keeping. -/
def Stable (B : Nat) {β : Type} (I : Blocks → β → World → Prop) : Prop :=
  ∀ X X' s W W', I X s W → W'.os = W.os → W'.tape = W.tape → W'.output = W.output → W.heap.size ≤ W'.heap.size →
    (∀ k o, W.heap[k]? = some o → ¬ X k → (k < B ∨ o.isCells = true) → W'.heap[k]? = some o) → (∀ k, X' k → X k ∨ W.heap.size ≤ k) → I X' s W'
/-- .. as the iterator is told of it. -/
def Minds {β : Type} (J : Blocks → β → World → Prop) : Prop :=
  ∀ X X' s W W', J X s W → Turn X W W' → (∀ k, X' k → X k ∨ W.heap.size ≤ k) → J X' s W'
/-- WHAT AN ITERATOR PROMISES: gf with what comes before and behind yield among its arguments; encs: yield's arguments; n₀: what it reads lies below; G: what holds of an element while its round begins. -/
def SeqX {α : Type} (gf : Nat) (fb lb : Array Value) (encs : α → Array Value) (n₀ : Nat) (G : Blocks → α → World → Prop) (S Sp : List α → Prop) (w0 : World) : Prop :=
  ∀ (l : Nat) (J Jx : Blocks → List α → World → Prop) (W : World), Below w0.heap.size w0 W → Minds J → Minds Jx →
    (∀ X pre x W1, (∀ k, X k → k < W1.heap.size) → J X pre W1 → G X x W1 → Sp (pre ++ [x]) → YieldAt Fence.wide 0 Tryd.prog l (encs x) W1 fun e W' =>
      ((e = .returned (.bool true) ∧ J X (pre ++ [x]) W') ∨ (e = .returned (.bool false) ∧ Jx X (pre ++ [x]) W')) ∧ Keep n₀ X W1 W') →
    J (fun _ => False) [] W →
    Calls Tryd.prog gf ((fb ++ #[.func (.yield l) #[] #[]]) ++ lb) W fun e W' => (∃ v, e = .returned v) ∧ ((∃ X xs, S xs ∧ J X xs W') ∨ (∃ X pre, Sp pre ∧ Jx X pre W'))
/-- How a round may be left. -/
def postX {α : Type} (B n₀ : Nat) (I : Blocks → List α → World → Prop) (Ix : Code → Blocks → List α → World → Prop) (X : Blocks) (xs : List α) (W : World) : Exit → Act → World → Prop
  | .normal, _, W' => KeepsFrom B W W' ∧ Keep n₀ X W W' ∧ I X xs W'
  | .ret, _, W' => KeepsFrom B W W' ∧ Keep n₀ X W W' ∧ Ix .ret X xs W'
  | .exit id, _, W' => KeepsFrom B W W' ∧ Keep n₀ X W W' ∧ Ix (.exit id) X xs W'
  | .goto t, _, W' => KeepsFrom B W W' ∧ Keep n₀ X W W' ∧ Ix (.goto t) X xs W'
  | .panic _, _, _ => False
  | .outgrown, _, _ => False
theorem putObj_book (W : World) (l : Nat) (o' : Obj) : (W.putObj l o').os = W.os ∧ (W.putObj l o').tape = W.tape ∧ (W.putObj l o').output = W.output ∧ W.heap.size ≤ (W.putObj l o').heap.size :=
  ⟨rfl, rfl, rfl, by simp⟩
theorem Stable.put {B : Nat} {β : Type} {I : Blocks → β → World → Prop} (h : Stable B I) {X : Blocks} {s : β} {W : World} {l : Nat} {o : Obj} (o' : Obj) (hs : I X s W) (hB : B ≤ l) (hl : W.heap[l]? = some o) (ho : o.isCells = false) : I X s (W.putObj l o') := by
  obtain ⟨a, b, c, d⟩ := putObj_book W l o'
  refine h X X s W _ hs a b c d (fun k ok hk _ hc => ?_) (fun k hk => .inl hk)
  by_cases e : k = l
  · subst e
    rw [hl] at hk; cases hk
    rcases hc with h1 | h1
    · omega
    · rw [ho] at h1; cases h1
  · exact (World.putObj_heap_other e).trans hk
theorem Stable.new {B : Nat} {β : Type} {I : Blocks → β → World → Prop} (h : Stable B I) {X : Blocks} {s : β} {W : World} (o : Obj) (hs : I X s W) : I X s (W.alloc o) :=
  h X X s W _ hs rfl rfl rfl (by simp) (fun k ok hk _ _ => (Below.heap_alloc W o k (Array.getElem?_eq_some_iff.1 hk).1).trans hk) (fun k hk => .inl hk)
theorem keep_put {n₀ : Nat} {X : Blocks} {W : World} {l : Nat} (o' : Obj) (hn : n₀ ≤ l) (hX : ¬ X l) : Keep n₀ X W (W.putObj l o') := by
  obtain ⟨a, b, c, d⟩ := putObj_book W l o'
  refine ⟨a, b, c, d, fun k hk hc => World.putObj_heap_other (fun e => ?_)⟩
  subst e
  rcases hc with h | h
  · omega
  · exact hX h
/-- THE STATEMENT 'for .. := range f { .. }' over an iterator that keeps its promise. -/
theorem range_law {α : Type} {g : Operand} {ps : Array Tmp} {assign body : Code} {Q : Exit → Act → World → Prop} {a : Act} {w : World} {gf : Nat} {fb lb : Array Value}
    (hg : a.eval g = .func (.func gf) fb lb) (eg : ∀ args w, (callFunc gf args).run Tryd.prog w = .ok (.enter gf args) w)
    {encs : α → Array Value} {n₀ : Nat} {G : Blocks → α → World → Prop} {S Sp : List α → Prop} {w0 : World} (hseq : SeqX gf fb lb encs n₀ G S Sp w0)
    (hG : ∀ X x W W', G X x W → Keep n₀ X W W' → G X x W') (hn : n₀ ≤ w.heap.size) (hb0 : Below w0.heap.size w0 w) (hps : ∀ x, (encs x).size = ps.size)
    (I : Blocks → List α → World → Prop) (Ix : Code → Blocks → List α → World → Prop) (hI : Stable w.heap.size I) (hIx : ∀ c, Stable w.heap.size (Ix c)) (h0 : I (fun _ => False) [] w)
    (Ax : α → Act → World → Prop) (hAx : ∀ x a', Stable w.heap.size (fun _ (_ : Unit) W => Ax x a' W))
    (hassign : ∀ (l : Nat) (X : Blocks) (pre : List α) (x : α) (W : World) (K : Act → World → Prop), I X pre W → (∀ a' W', KeepsFrom w.heap.size W W' → Keep n₀ X W W' → I X pre W' → Ax x a' W' → K a' W') →
      assign.wpIn (Fence.wide.inRound l) 0 Tryd.prog (Exit.then K (fun _ _ _ => False)) { tmps := (ps.zip (encs x)).foldl (fun t (p, v) => t.setIfInBounds p v) a.tmps, defers := [] } W)
    (hbody : ∀ (l : Nat) (X : Blocks) (pre : List α) (x : α) (a' : Act) (W : World), w.heap.size ≤ l → (∃ r, W.heap[l]? = some (.loop r)) → ¬ X l → (∀ k, X k → k < W.heap.size) → I X pre W → G X x W → Ax x a' W → Sp (pre ++ [x]) →
      body.wpIn (Fence.wide.inRound l) 0 Tryd.prog (postX w.heap.size n₀ I Ix X (pre ++ [x]) W) a' W)
    (hdone : ∀ (D : Nat) (X : Blocks) (xs : List α) (W : World), w.heap.size ≤ D → S xs → I X xs W → W.heap[D]? = some (.deferred (some [])) → Q .normal { a with defers := { target := .collected D, args := #[] } :: a.defers } W)
    (hstop : ∀ (D : Nat) (X : Blocks) (c : Code) (pre : List α) (W : World), w.heap.size ≤ D → Sp pre → Ix c X pre W → W.heap[D]? = some (.deferred (some [])) → c.wpIn Fence.wide 0 Tryd.prog Q { a with defers := { target := .collected D, args := #[] } :: a.defers } W) :
    (Code.rangeFunc g ps assign body).wpIn Fence.wide 0 Tryd.prog Q a w := by
  refine wpIn_rangeFunc ?_
  intro fn hfn
  obtain ⟨rec, hrec⟩ : ∃ rec : LoopState → Option Code → Loop, rec = fun st pe => { state := st, pending := pe, fn, tmps := a.tmps, params := ps, assign, body, defers := w.heap.size } := ⟨_, rfl⟩
  obtain ⟨W1, hW1⟩ : ∃ W1, (w.alloc (.deferred (some []))).alloc (.loop (rec .ready none)) = W1 := ⟨_, rfl⟩
  have hL1 : W1.heap[w.heap.size + 1]? = some (.loop (rec .ready none)) := by
    rw [← hW1]; have := World.alloc_heap_new (w.alloc (.deferred (some []))) (.loop (rec .ready none)); rwa [World.size_alloc] at this
  have hK1 : W1.heap[w.heap.size]? = some (.deferred (some [])) := by
    rw [← hW1]; exact (Below.heap_alloc _ _ _ (by simp)).trans (World.alloc_heap_new w _)
  have hI1 : I (fun _ => False) [] W1 := by rw [← hW1]; exact hI.new _ (hI.new _ h0)
  have hb1 : Below w0.heap.size w0 W1 := by
    rw [← hW1]; exact hb0.trans ((((Below.refl _ w).alloc (Nat.le_refl _) _).alloc (by simp) _).mono hb0.size)
  refine ⟨w.heap.size + 1, [{ target := .collected w.heap.size, args := #[] }], W1, { target := .fn (.func gf) lb, args := fb ++ #[.func (.yield (w.heap.size + 1)) #[] #[]] }, W1, gf,
    (fb ++ #[.func (.yield (w.heap.size + 1)) #[] #[]]) ++ lb, W1, ?_, ?_, fun f' _ => trivial, ?_, fun h => by simp [Fence.wide] at h, ?_⟩
  · rw [← hW1, hrec]; exact run_enterLoop_outer _ _ _ _ _
  · simp only [resolve, hg]
    simp [go_sem, Deferred.ofValue]
  · simp [invoke, go_sem, eg]
  · refine callsIn_wide.2 ?_
    refine (hseq (w.heap.size + 1)
      (fun X pre W => I X pre W ∧ ¬ X (w.heap.size + 1) ∧ ¬ X w.heap.size ∧ W.heap[w.heap.size + 1]? = some (.loop (rec .ready none)) ∧ W.heap[w.heap.size]? = some (.deferred (some [])))
      (fun X pre W => ∃ c, Ix c X pre W ∧ ¬ X (w.heap.size + 1) ∧ ¬ X w.heap.size ∧ W.heap[w.heap.size + 1]? = some (.loop (rec .done (some c))) ∧ W.heap[w.heap.size]? = some (.deferred (some [])))
      W1 hb1 ?_ ?_ ?_ ⟨hI1, fun h => h, fun h => h, hL1, hK1⟩).mono ?_
    · rintro X X' s A B ⟨h1, h2, h3, h4, h5⟩ ht hX
      have l4 := (Array.getElem?_eq_some_iff.1 h4).1
      refine ⟨hI X X' s A B h1 ht.os ht.tape ht.output ht.size (fun k o hk hx _ => (ht.block k (Array.getElem?_eq_some_iff.1 hk).1 hx).trans hk) hX, fun h => ?_, fun h => ?_, (ht.block _ l4 h2).trans h4, (ht.block _ (by omega) h3).trans h5⟩
      · rcases hX _ h with h | h
        · exact h2 h
        · omega
      · rcases hX _ h with h | h
        · exact h3 h
        · omega
    · rintro X X' s A B ⟨c, h1, h2, h3, h4, h5⟩ ht hX
      have l4 := (Array.getElem?_eq_some_iff.1 h4).1
      refine ⟨c, hIx c X X' s A B h1 ht.os ht.tape ht.output ht.size (fun k o hk hx _ => (ht.block k (Array.getElem?_eq_some_iff.1 hk).1 hx).trans hk) hX, fun h => ?_, fun h => ?_, (ht.block _ l4 h2).trans h4, (ht.block _ (by omega) h3).trans h5⟩
      · rcases hX _ h with h | h
        · exact h2 h
        · omega
      · rcases hX _ h with h | h
        · exact h3 h
        · omega
    · -- one round
      rintro X pre x W hXs ⟨hi, hXl, hXd, hl, hk⟩ hgx hsp
      have hy := run_yield (P := Tryd.prog) (args := encs x) hl (by rw [hrec]; exact hps x)
      rw [hrec] at hy
      refine ⟨fn, _, assign, body, hy, roundIn_of_wpIn trivial (hassign _ X pre x W _ hi ?_)⟩
      clear hy
      intro a' Wa hkfa hkpa hia hax
      have hl' := hkfa.same _ _ (by omega) hl rfl
      have hk' := hkfa.same _ _ (Nat.le_refl _) hk rfl
      have hlt := (Array.getElem?_eq_some_iff.1 hl').1
      refine ⟨_, run_beginRound hl' (by rw [hrec]), ?_⟩
      have hl2 : (Wa.putObj (w.heap.size + 1) (.loop { rec .ready none with state := .busy })).heap[w.heap.size + 1]? = some (.loop { rec .ready none with state := .busy }) := World.putObj_heap_same hlt
      have hk2 : (Wa.putObj (w.heap.size + 1) (.loop { rec .ready none with state := .busy })).heap[w.heap.size]? = some (.deferred (some [])) := (World.putObj_heap_other (by omega)).trans hk'
      have hkp2 : Keep n₀ X Wa (Wa.putObj (w.heap.size + 1) (.loop { rec .ready none with state := .busy })) := keep_put _ (by omega) hXl
      refine wpIn_mono (hbody _ X pre x a' _ (by omega) ⟨_, hl2⟩ hXl (fun k hk => by have h1 := hXs k hk; have h2 := hkpa.size; simp; omega) (hI.put _ hia (by omega) hl' rfl) (hG _ _ _ _ hgx (hkpa.trans hkp2)) ((hAx x a').put (X := X) (s := ()) _ hax (by omega) hl' rfl) hsp) ?_
      have fin : ∀ (jump : Option Code) (W3 : World), KeepsFrom w.heap.size (Wa.putObj (w.heap.size + 1) (.loop { rec .ready none with state := .busy })) W3 →
          (Instr.endRound (w.heap.size + 1) jump).run Tryd.prog W3 = .ok (.bool jump.isNone) (W3.putObj (w.heap.size + 1) (.loop (rec (if jump.isNone then .ready else .done) jump))) ∧
          W3.heap[w.heap.size + 1]? = some (.loop { rec .ready none with state := .busy }) ∧
          (W3.putObj (w.heap.size + 1) (.loop (rec (if jump.isNone then .ready else .done) jump))).heap[w.heap.size + 1]? = some (.loop (rec (if jump.isNone then .ready else .done) jump)) ∧
          (W3.putObj (w.heap.size + 1) (.loop (rec (if jump.isNone then .ready else .done) jump))).heap[w.heap.size]? = some (.deferred (some [])) := fun jump W3 hk3 => by
        have hl3 := hk3.same _ _ (by omega) hl2 rfl
        have := run_endRound (P := Tryd.prog) jump hl3
        rw [hrec] at this ⊢
        exact ⟨this, by rw [hrec] at hl3; exact hl3, World.putObj_heap_same (Array.getElem?_eq_some_iff.1 hl3).1, (World.putObj_heap_other (by omega)).trans (hk3.same _ _ (Nat.le_refl _) hk2 rfl)⟩
      have kp : ∀ (W3 : World) (o : Obj), Keep n₀ X (Wa.putObj (w.heap.size + 1) (.loop { rec .ready none with state := .busy })) W3 → Keep n₀ X W (W3.putObj (w.heap.size + 1) o) := fun W3 o h3 =>
        ((hkpa.trans hkp2).trans h3).trans (keep_put _ (by omega) hXl)
      rintro e a3 W3 hp
      cases e with
      | normal =>
        obtain ⟨hk3, hkp3, hi3⟩ := hp
        obtain ⟨hr, hl3, hl4, hk4⟩ := fin none W3 hk3
        exact ⟨_, _, hr, .inl ⟨rfl, hI.put _ hi3 (by omega) hl3 rfl, hXl, hXd, hl4, hk4⟩, kp _ _ hkp3⟩
      | ret =>
        obtain ⟨hk3, hkp3, hi3⟩ := hp
        obtain ⟨hr, hl3, hl4, hk4⟩ := fin (some .ret) W3 hk3
        exact ⟨_, _, hr, .inr ⟨rfl, .ret, (hIx _).put _ hi3 (by omega) hl3 rfl, hXl, hXd, hl4, hk4⟩, kp _ _ hkp3⟩
      | exit id =>
        obtain ⟨hk3, hkp3, hi3⟩ := hp
        obtain ⟨hr, hl3, hl4, hk4⟩ := fin (some (.exit id)) W3 hk3
        exact ⟨_, _, hr, .inr ⟨rfl, .exit id, (hIx _).put _ hi3 (by omega) hl3 rfl, hXl, hXd, hl4, hk4⟩, kp _ _ hkp3⟩
      | goto t =>
        obtain ⟨hk3, hkp3, hi3⟩ := hp
        obtain ⟨hr, hl3, hl4, hk4⟩ := fin (some (.goto t)) W3 hk3
        exact ⟨_, _, hr, .inr ⟨rfl, .goto t, (hIx _).put _ hi3 (by omega) hl3 rfl, hXl, hXd, hl4, hk4⟩, kp _ _ hkp3⟩
      | panic ch => exact hp.elim
      | outgrown => exact hp.elim
    · -- behind the iterator
      rintro e W2 ⟨⟨v, rfl⟩, (⟨X, xs, hS, hi, _, _, hl, hk⟩ | ⟨X, pre, hSp, c, hi, _, _, hl, hk⟩)⟩
      · exact ⟨none, _, by have := run_endLoop (P := Tryd.prog) hl (by rw [hrec]; simp); rw [hrec] at this; exact this, hdone _ X xs _ (Nat.le_refl _) hS (hI.put _ hi (by omega) hl rfl) ((World.putObj_heap_other (by omega)).trans hk)⟩
      · exact ⟨some c, _, by have := run_endLoop (P := Tryd.prog) hl (by rw [hrec]; simp); rw [hrec] at this; exact this, hstop _ X c pre _ (Nat.le_refl _) hSp ((hIx c).put _ hi (by omega) hl rfl) ((World.putObj_heap_other (by omega)).trans hk)⟩
theorem Stable.and {B : Nat} {β : Type} {I J : Blocks → β → World → Prop} (h : Stable B I) (k : Stable B J) : Stable B (fun X s W => I X s W ∧ J X s W) :=
  fun X X' s W W' hs a b c d e f => ⟨h X X' s W W' hs.1 a b c d e f, k X X' s W W' hs.2 a b c d e f⟩
/-- A box that is none of the iterator's. -/
def Mine (X : Blocks) (W : World) (b : Nat) (t : TypeId) (v : Value) : Prop := Boxed W b t v ∧ ¬ X b
theorem stable_box (B b : Nat) (t : TypeId) {β : Type} (f : β → Value) : Stable B (fun X s W => Mine X W b t (f s)) := by
  rintro X X' s W W' ⟨h, hX⟩ _ _ _ _ e hX'
  refine ⟨e b _ h hX (.inr rfl), fun hb => ?_⟩
  rcases hX' b hb with h1 | h1
  · exact hX h1
  · have := h.lt; omega
/-- What lay below n₀ lies as it lay; the iterator's blocks lie beyond. -/
def Base (n₀ : Nat) (w : World) (X : Blocks) (W : World) : Prop := (∀ k, X k → n₀ ≤ k) ∧ Below n₀ w W
theorem stable_base (B n₀ : Nat) (w : World) (hB : n₀ ≤ B) (hw : n₀ ≤ w.heap.size) {β : Type} : Stable B (fun X (_ : β) W => Base n₀ w X W) := by
  rintro X X' s W W' ⟨h1, h2⟩ a b c d e hX'
  have hs := h2.size
  refine ⟨fun k hk => ?_, ⟨a.trans h2.os, b.trans h2.tape, c.trans h2.output, Nat.le_trans h2.size d, fun k hk => ?_⟩⟩
  · rcases hX' k hk with h | h
    · exact h1 k h
    · omega
  · have hlt : k < W.heap.size := by omega
    have hx : W.heap[k]? = some W.heap[k] := Array.getElem?_eq_getElem hlt
    rw [e k _ hx (fun h => by have := h1 k h; omega) (.inl (by omega)), ← hx]
    exact h2.block k hk
theorem Base.start {n₀ : Nat} {w W : World} (h : Below n₀ w W) : Base n₀ w (fun _ => False) W := ⟨fun _ h => h.elim, h⟩
theorem Base.step {n₀ : Nat} {w W W' : World} {X : Blocks} (h : Base n₀ w X W) (k : Below n₀ W W') : Base n₀ w X W' := ⟨h.1, h.2.trans k⟩
theorem Mine.cell {X : Blocks} {W : World} {b : Nat} {t : TypeId} {v : Value} (h : Mine X W b t v) : W.cell? ⟨b, 0, none⟩ = some v := h.1.cell
theorem Mine.frozen {X : Blocks} {W : World} {b : Nat} {t : TypeId} {v : Value} (h : Mine X W b t v) : W.frozen? ⟨b, 0, none⟩ = false := h.1.frozen
theorem Mine.lt {X : Blocks} {W : World} {b : Nat} {t : TypeId} {v : Value} (h : Mine X W b t v) : b < W.heap.size := h.1.lt
theorem Mine.drew {X : Blocks} {W : World} {b : Nat} {t : TypeId} {v : Value} (h : Mine X W b t v) : Mine X W.drew b t v := h
theorem Mine.below {X : Blocks} {W W' : World} {b : Nat} {t : TypeId} {v : Value} (h : Mine X W b t v) (k : Below W.heap.size W W') : Mine X W' b t v := ⟨(k.block b h.lt).trans h.1, h.2⟩
theorem Mine.set {X : Blocks} {W : World} {b : Nat} {t : TypeId} {v : Value} (v' : Value) (h : Mine X W b t v) : Mine X (W.setCell ⟨b, 0, none⟩ v') b t v' := ⟨h.1.set v', h.2⟩
theorem Mine.other {X : Blocks} {W : World} {b b' : Nat} {t : TypeId} {v : Value} (h : Mine X W b t v) (hne : b ≠ b') (u : Value) : Mine X (W.setCell ⟨b', 0, none⟩ u) b t v := ⟨h.1.other hne u, h.2⟩
theorem keep_set {n₀ : Nat} {X : Blocks} (W : World) (b : Nat) (u : Value) (hn : n₀ ≤ b) (hX : ¬ X b) : Keep n₀ X W (W.setCell ⟨b, 0, none⟩ u) :=
  Keep.of_grownBy (grownBy_setCell' W b u) (fun k e => by cases e; exact ⟨hn, hX⟩)
theorem Keep.drew {n₀ : Nat} {X : Blocks} {W W' : World} (h : Keep n₀ X W W') : Keep n₀ X W W'.drew := ⟨h.os, h.tape, h.output, h.size, h.block⟩
theorem kf_below {B : Nat} {W W' : World} (h : Below W.heap.size W W') : KeepsFrom B W W' := ⟨h.size, fun k _ _ hk _ => (h.block k (Array.getElem?_eq_some_iff.1 hk).1).trans hk⟩
/-- A variable that holds a slice of the call's own; neither is the iterator's. -/
def MineRow (n₀ : Nat) (X : Blocks) (W : World) (b : Nat) (t e : TypeId) (xs : List Value) : Prop :=
  ∃ v, Mine X W b t v ∧ W.ownsRow n₀ e 1 v xs.length xs ∧ ∀ j, v.ownBlock = some j → ¬ X j
theorem ownsRow_same {W W' : World} {base : Nat} {e : TypeId} {size : Nat} {v : Value} {n : Nat} {xs : List Value} (h : W.ownsRow base e size v n xs) (hs : ∀ g, v.ownBlock = some g → W'.heap[g]? = W.heap[g]?) : W'.ownsRow base e size v n xs := by
  refine ⟨h.1, ?_⟩
  rcases h.2 with hn | ⟨g, cap, cur, rfl, hb, hgg, rest⟩
  · exact .inl hn
  · exact .inr ⟨g, cap, cur, rfl, hb, (hs g rfl).trans hgg, rest⟩
theorem stable_row (B n₀ b : Nat) (t e : TypeId) {β : Type} (f : β → List Value) : Stable B (fun X s W => MineRow n₀ X W b t e (f s)) := by
  rintro X X' s W W' ⟨v, hm, ho, hx⟩ a1 a2 a3 a4 he hX'
  refine ⟨v, stable_box B b t (fun _ : Unit => v) X X' () W W' hm a1 a2 a3 a4 he hX', ownsRow_same ho fun g hg => ?_, fun j hj h => ?_⟩
  · rcases ho.2 with ⟨rfl, _⟩ | ⟨g', cap, cur, rfl, hb, hgg, rest⟩
    · simp [Value.ownBlock] at hg
    · obtain rfl : g' = g := by simpa [Value.ownBlock] using hg
      rw [he _ _ hgg (hx _ rfl) (.inr rfl), hgg]
  · have hlt := (ho.lt j hj).2
    rcases hX' j h with h1 | h1
    · exact hx j hj h1
    · omega
/-- Behind an append to such a variable: all that a round owes. -/
theorem MineRow.appended {n₀ : Nat} {X : Blocks} {W w1 : World} {b : Nat} {t e : TypeId} {v v' : Value} {xs ys : List Value} {tmp : Obj}
    (hm : Mine X W b t v) (ho : W.ownsRow n₀ e 1 v xs.length xs) (hx : ∀ j, v.ownBlock = some j → ¬ X j) (hte : t ≠ e) (hn₀ : n₀ ≤ W.heap.size) (hb : n₀ ≤ b) (hXs : ∀ k, X k → k < W.heap.size)
    (ho' : w1.ownsRow n₀ e 1 v' ys.length ys) (hgrow : (W.alloc tmp).grownBy w1 v.ownBlock) (hat : v'.ownBlock = v.ownBlock ∨ v'.ownBlock = some (W.alloc tmp).heap.size) :
    Boxed w1 b t v ∧ MineRow n₀ X (w1.setCell ⟨b, 0, none⟩ v') b t e ys ∧ KeepsOthers W (w1.setCell ⟨b, 0, none⟩ v') ∧ Below n₀ W (w1.setCell ⟨b, 0, none⟩ v') ∧ Keep n₀ X W (w1.setCell ⟨b, 0, none⟩ v') ∧
      ∀ b' t' u, b' ≠ b → t' ≠ e → Mine X W b' t' u → Mine X (w1.setCell ⟨b, 0, none⟩ v') b' t' u := by
  obtain ⟨q1, q2, q3, q4, q5⟩ := Boxed.appended (tmp := tmp) hm.1 hte ho hn₀ hb ho' hgrow
  refine ⟨q1, ⟨v', ⟨q2, hm.2⟩, q3, fun j hj hX => ?_⟩, q4, q5, ?_, fun b' t' u hne hte' hu => ?_⟩
  · rcases hat with h | h
    · exact hx j (h ▸ hj) hX
    · have h1 := hXs j hX
      rw [h] at hj
      simp at hj
      omega
  · have k1 : Keep n₀ X W (W.alloc tmp) := Keep.of_below ((Below.refl _ W).alloc (Nat.le_refl _) _)
    have k2 : Keep n₀ X (W.alloc tmp) w1 := Keep.of_grownBy hgrow (fun k hk => ⟨(ho.lt k hk).1, hx k hk⟩)
    exact (k1.trans k2).trans (keep_set _ _ _ hb hm.2)
  · have u1 : Boxed w1 b' t' u := (hu.1.alloc tmp).kept hgrow (hu.1.not_row hte' ho)
    exact ⟨u1.other hne _, hu.2⟩
/-- Such a row reads as a list. -/
theorem Ints.of_own {W : World} {n₀ : Nat} {e : TypeId} {v : Value} {l : List Int} (h : W.ownsRow n₀ e 1 v l.length (l.map fun x => .int .i64 x)) (hl : l.length ≤ big) : Ints W v l := by
  rcases h.2 with ⟨rfl, h0⟩ | ⟨g, cap, cur, rfl, hb, hg, hn, hc, hs, ht⟩
  · exact ⟨none, 0, by rw [h0], hl, fun i hi => by omega⟩
  · refine ⟨some ⟨g, 0, none⟩, cap, rfl, hl, fun i hi => ⟨g, 0, rfl, ?_⟩⟩
    have h1 : (l.map fun x => Value.int .i64 x)[i]? = some (.int .i64 (l.getD i 0)) := by
      simp [List.getElem?_map, List.getElem?_eq_getElem hi, List.getD_eq_getElem?_getD]
    rw [← ht, List.getElem?_take, if_pos (by omega)] at h1
    simp only [World.cell?, hg]
    simpa using h1
end Go.Proofs.YtphpablchlpagaaDoor
namespace Go.Proofs.YtphpablchlpagaaDoor
open Go.RowKit Go.Shelf
attribute [local go_sem] Oper.semAt_some
/-- A call by a number of arguments, as a run in a round of the wide fence. -/
theorem inr {f : FuncId} {args : Array Value} {w : World} {R : Ending → World → Prop} (l n : Nat) (h : Calls Tryd.prog f args w R) : CallsIn (Fence.wide.inRound l) n Tryd.prog f args w R :=
  CallsIn.inRound l (callsIn_wide.2 h)
set_option maxRecDepth 100000 in
set_option maxHeartbeats 1000000 in
theorem All_seq (S : Nat) (hS : S < 2 ^ 64) (n₀ : Nat) (hn₀ : 0 < n₀) (w : World) (hn : n₀ ≤ w.heap.size) (hT : Tab w) :
    SeqX 69 #[.int .u64 S] #[] (fun x : Nat => #[.int .i64 x]) n₀ (fun _ _ _ => True) (fun xs => xs = elems S) (fun pre => pre <+: elems S) w := by
  intro l J Jx W hW hJ hJx hY h0
  have hTW := hT.on hW
  refine (callsIn_wide (n := 0)).1 ?_
  refine callsIn_of_wp Tryd.func69 rfl trivial ?_ rfl
  simp only [Tryd.ntmps69, List.size_toArray, List.length_cons, List.length_nil, Nat.reduceAdd, Nat.reduceSub, Array.replicate_succ, Array.replicate_zero, List.push_toArray, List.append_toArray, List.nil_append, List.cons_append]
  gi_wp2
  gi_loopw [4] (fun r wr => ∃ (T : Nat) (pre : List Nat), r = .int .u64 T ∧ T < 2 ^ 64 ∧ elems S = pre ++ elems T ∧ J (fun _ => False) pre wr ∧ Below n₀ W wr) (fun r _ => (intOf r).toNat)
  case atStart => exact ⟨S, [], rfl, hS, rfl, h0, Below.refl _ _⟩
  case round =>
    obtain ⟨T, pre, rfl, hT64, hel, hJs, hB⟩ := hrel
    by_cases hT0 : T = 0
    · subst hT0
      rw [elems_zero, List.append_nil] at hel
      gi_wp2
      refine bodyPost_end (results_none rfl _ _ _) rfl ?_
      exact ⟨⟨_, rfl⟩, .inl ⟨_, pre, hel.symm, hJs⟩⟩
    · have hctz : Lib.ctz 64 T = Lib.ctzFrom 64 T := by simp [Lib.ctz, hT0]
      obtain ⟨m, hm, hk⟩ := Lib.ctzFrom_spec 64 T (by omega) hT64
      rw [← hctz] at hm hk
      obtain ⟨hst, hlt⟩ := elems_step T _ m hm hk
      have hne : ((T : Int) != 0) = true := by simp; omega
      have htz := TrailingZeros64_any T hT64 hT0 wr (hTW.below hB hn₀)
      have hand : bits .and .u64 (T : Int) ((T : Int) - 1) = ((T &&& (T - 1) : Nat) : Int) := by
        rw [show (T : Int) - 1 = ((T - 1 : Nat) : Int) from by omega]
        exact bits_and_n T (T - 1) hT64 (by omega)
      have Hlt := hid hlt
      have Hst := hid hst
      have hT64' : T &&& (T - 1) < 2 ^ 64 := by omega
      clear hst hlt hm hctz
      generalize Lib.ctz 64 T = k at *
      generalize T &&& (T - 1) = T' at *
      obtain ⟨⟨fn, tmps, assign, body, hy, hR⟩⟩ : Nonempty _ := ⟨hY _ pre k wr (fun _ h => h.elim) hJs trivial (by rw [hel, Hst.out]; exact ⟨elems T', by simp⟩)⟩
      have Hel := hid hel
      clear hel
      gi_wp2_with (refine ⟨trivial, rfl, ?_⟩; gi_at_call 79; refine (callsIn_wide.2 htz).mono ?_; rintro e w' ⟨rfl, rfl⟩)
      refine ⟨rfl, hR.mono ?_⟩
      rintro e W3 ⟨⟨rfl, hJ3⟩ | ⟨rfl, hJ3⟩, hk3⟩
      · gi_wp2
        go_roundw
        case rel => exact ⟨T', pre ++ [k], rfl, hT64', by rw [Hel.out, Hst.out]; simp, hJ3, hB.trans (hk3.below (by have := hB.size; have := hW.size; omega))⟩
        case measure => simp [intOf]; exact Hlt.out
      · gi_wp2
        refine bodyPost_ret (results_none rfl _ _ _) rfl ?_
        exact ⟨⟨_, rfl⟩, .inr ⟨_, pre ++ [k], by rw [Hel.out, Hst.out]; exact ⟨elems T', by simp⟩, hJ3⟩⟩
end Go.Proofs.YtphpablchlpagaaDoor
namespace Go.Proofs.YtphpablchlpagaaDoor
open Go.RowKit Go.Shelf
attribute [local go_sem] Oper.semAt_some
/-- The set to which a letter leads from some states. -/
def imgTo (m : List (List Int)) (x : Int) (l : List Nat) : Nat := l.foldl (fun T s => T ||| 2 ^ nx m s x) 0
theorem imgTo_lt' (m : List (List Int)) (x : Int) (n : Nat) : ∀ (l : List Nat) (T : Nat), T < 2 ^ n → (∀ s ∈ l, nx m s x < n) → l.foldl (fun T s => T ||| 2 ^ nx m s x) T < 2 ^ n
  | [], T, hT, _ => hT
  | s :: l, T, hT, h => imgTo_lt' m x n l _ (with_lt T _ n hT (h s (by simp))) (fun y hy => h y (List.mem_cons_of_mem _ hy))
theorem imgTo_lt (m : List (List Int)) (x : Int) (n : Nat) (l : List Nat) (h : ∀ s ∈ l, nx m s x < n) : imgTo m x l < 2 ^ n := imgTo_lt' m x n l 0 (Nat.two_pow_pos n) h
theorem elems_lt {S n : Nat} (hS : S < 2 ^ n) {s : Nat} (h : s ∈ elems S) : s < n := by
  have h := (mem_elems S s).1 h
  rcases Nat.lt_or_ge s n with h1 | h1
  · exact h1
  · have := Nat.testBit_lt_two_pow (i := s) (Nat.lt_of_lt_of_le hS (Nat.pow_le_pow_right (by decide) h1))
    rw [this] at h; simp at h
theorem follows : Tryd.prog.follows .mixedOrders = true := by kernel_rfl
end Go.Proofs.YtphpablchlpagaaDoor
namespace Go.Proofs.YtphpablchlpagaaDoor
open Go.RowKit Go.Shelf
attribute [local go_sem] Oper.semAt_some
theorem infoInt : (Tryd.prog.info? 3).map (fun i => (i.zero, i.size, i.bytes)) = some (some (.int .i64 0), 1, 8) := by kernel_rfl
/-- The elements as ints. -/
def intsOf (l : List Nat) : List Int := l.map fun x : Nat => (x : Int)
theorem elems_length (S : Nat) : (elems S).length ≤ 64 := by
  have := List.length_filter_le S.testBit (List.range 64)
  simpa [elems] using this
set_option maxRecDepth 100000 in
set_option maxHeartbeats 1000000 in
theorem List_any (S : Nat) (w : World) (hT : Tab w) (hS : S < 2 ^ 64) :
    Calls Tryd.prog 72 #[.int .u64 S] w fun e w' => ∃ v, e = .returned v ∧ Ints w' v (intsOf (elems S)) ∧ Below w.heap.size w w' := by
  obtain ⟨i0, hi, hz0, hz1, hz2⟩ := info_parts infoInt
  have hlen := elems_length S
  refine (callsIn_wide (n := 0)).1 ?_
  refine callsIn_of_wp_marks Tryd.func72 rfl trivial ?_ rfl
  simp only [Tryd.ntmps72, List.size_toArray, List.length_cons, List.length_nil, Nat.reduceAdd, Nat.reduceSub, Array.replicate_succ, Array.replicate_zero, List.push_toArray, List.append_toArray, List.nil_append, List.cons_append]
  gi_wp2_with (first | (refine ⟨trivial, rfl, ?_⟩; gi_at_call 48; refine (callsIn_wide.2 (Size_any S _ hS)).mono ?_; rintro e w' ⟨rfl, rfl⟩) | (gi_at_make; refine wpListIn_make_own _ rfl _ _ 34 rfl w.heap.size 3 i0 (.int .i64 0) 1 Tryd.underlying34 hi hz0 hz1 .i64 .i64 _ (elems S).length rfl rfl rfl (by rw [hz2]; omega) (by unfold maxLen; omega) (Nat.le_refl _) ?_; intro w1 hown hgrow))
  have hb1 : Below w.heap.size w w1 := (Below.refl _ w).grown hgrow (Nat.le_refl _) (fun k e => by cases e)
  have q1 := Boxed.new w1 34 (.slice (some ⟨w.heap.size, 0, none⟩) 0 (elems S).length)
  have hb0 := bal hb1 (.cells #[.slice (some ⟨w.heap.size, 0, none⟩) 0 (elems S).length] 34)
  have hsz := hb1.size
  have hown0 := hown.alloc (.cells #[.slice (some ⟨w.heap.size, 0, none⟩) 0 (elems S).length] 34)
  refine range_law (gf := 69) (fb := #[.int .u64 S]) (lb := #[]) rfl (enters_of Tryd.func69 (by kernel_rfl) rfl)
    (All_seq S hS w.heap.size hT.lt _ hb0.size (hT.on hb0)) (fun _ _ _ _ _ _ => trivial) hb0.size (Below.refl _ _) (fun _ => rfl)
    (fun X pre W => MineRow w.heap.size X W w1.heap.size 34 3 (pre.map fun s : Nat => Value.int .i64 s) ∧ Base w.heap.size w X W)
    (fun _ _ _ _ => False)
    (Stable.and (stable_row _ _ _ _ _ (fun pre : List Nat => pre.map fun s : Nat => Value.int .i64 s)) (stable_base _ _ _ hb0.size (Nat.le_refl _)))
    (fun _ _ _ _ _ _ hs _ _ _ _ _ _ => hs)
    ⟨⟨_, ⟨q1, fun h => h⟩, by simpa using hown0, fun _ _ h => h⟩, Base.start hb0⟩
    (fun s a' _ => a' = { tmps := #[.int .u64 S, undef, .slice none 0 0, .pointer (some ⟨w1.heap.size, 0, none⟩), .int .i64 s, .int .u64 S, .int .i64 (elems S).length, .slice (some ⟨w.heap.size, 0, none⟩) 0 (elems S).length, .int .u64 S, .func (.func 69) #[.int .u64 S] #[], .int .i64 s, undef, undef, undef, undef, undef], defers := [] })
    (fun _ _ _ _ _ _ _ hs _ _ _ _ _ _ => hs) ?assign ?body ?done ?stop
  case assign =>
    intro l X pre s W K hi hK
    gi_wp2
    exact hK _ _ (KeepsFrom.refl _ _) (Keep.refl _ _ _) hi rfl
  case body =>
    rintro l X pre s a' W hl hrec hXl hXs ⟨⟨v, hm, ho, hx⟩, hB⟩ _ rfl hsp
    have hpl : pre.length < 64 := by have := hsp.length_le; simp at this; omega
    have hmc := hm.cell
    have hBs := hB.2.size
    simp only [List.length_map] at ho
    gi_wp2_with (gi_at_builtin; go_must (refine wpListIn_append_own_at _ rfl _ _ 34 rfl w.heap.size 3 i0 (.int .i64 0) 1 8 Tryd.underlying34 hi hz0 hz1 hz2 rfl (by decide) _ _ _ rfl (ho.alloc _) ⟨W.heap.size, 0, none⟩ 1 1 [.int .i64 s] rfl rfl (cell_one_new _ _ _) (by simp [Value.oneCell']) (by unfold maxLen; omega) (by omega) (by simp; omega) ?_); intro v' w2 hown' hgrow' _ hat; obtain ⟨g', cap', rfl⟩ := ownsRow_succ hown'; obtain ⟨r1, r2, r3, r4, r5, r6⟩ := MineRow.appended (e := 3) (xs := pre.map fun s : Nat => Value.int .i64 s) (ys := (pre ++ [s]).map fun s : Nat => Value.int .i64 s) hm (by simpa using ho) hx (by decide) hBs (by omega) hXs (by simpa using hown') hgrow' hat; have hc1 := r1.cell; have hf1 := r1.frozen)
    exact ⟨r3.from _, r5, r2, hB.step r4⟩
  case done =>
    rintro D X xs W hD rfl ⟨⟨v, hm, ho, hx⟩, hB⟩ hK
    have hmc := hm.cell
    gi_wp2
    refine ⟨by simp, .inl ⟨_, _, rfl, run_takeDeferred hK, ?_⟩⟩
    refine ⟨_, results_tmp rfl _ _ _, _, rfl, ?_, hB.2.trans (belowK_b (w := w) (Nat.le_refl _) _ D _ _ (by have := hb0.size; omega) hK rfl rfl)⟩
    refine Ints.of_own (n₀ := w.heap.size) (e := 3) (l := intsOf (elems S)) ?_ (by unfold big intsOf; simp; omega)
    have := ownsRow_putObj ho (.deferred none) hK rfl
    simpa [intsOf, Function.comp_def] using this
  case stop =>
    rintro D X c pre W _ _ h _
    exact h.elim
end Go.Proofs.YtphpablchlpagaaDoor
namespace Go.Proofs.YtphpablchlpagaaDoor
open Go.RowKit Go.Shelf
def imgSet (m : List (List Int)) (S : Nat) (x : Int) : Nat := imgTo m x (elems S)
def imgWord (m : List (List Int)) (S : Nat) (u : List Int) : Nat := u.foldl (imgSet m) S
def preSet (m : List (List Int)) (S : Nat) (x : Int) : Nat := preTo m S x m.length
def preWord (m : List (List Int)) (S : Nat) (u : List Int) : Nat := u.foldr (fun x T => preSet m T x) S
theorem imgSet_lt {m : List (List Int)} (hv : validM m = true) {S : Nat} (hS : S < 2 ^ m.length) {x : Int} (h0 : 0 ≤ x) (h1 : x < letters m) : imgSet m S x < 2 ^ m.length :=
  imgTo_lt m x m.length _ (fun _ hs => (nx_ok hv (elems_lt hS hs) h0 h1).1)
theorem imgWord_lt {m : List (List Int)} (hv : validM m = true) : ∀ (u : List Int) (S : Nat), S < 2 ^ m.length → u.all (inB 0 ((letters m : Int) - 1)) = true → imgWord m S u < 2 ^ m.length
  | [], S, hS, _ => hS
  | x :: u, S, hS, hu => by
    simp only [List.all_cons, Bool.and_eq_true, inB_iff] at hu
    exact imgWord_lt hv u _ (imgSet_lt hv hS hu.1.1 (by omega)) hu.2
theorem preSet_lt {m : List (List Int)} (hv : validM m = true) (S : Nat) (x : Int) : preSet m S x < 2 ^ m.length := by
  have := (valid_parts hv).2.1
  exact preTo_lt m S x m.length (by omega) m.length (Nat.le_refl _)
theorem preWord_lt {m : List (List Int)} (hv : validM m = true) {S : Nat} (hS : S < 2 ^ m.length) : ∀ u : List Int, preWord m S u < 2 ^ m.length
  | [] => hS
  | x :: u => preSet_lt hv _ _
def l0 (u : List Int) (k : Nat) : Int := u.getD k 0
theorem preWord_drop (m : List (List Int)) (S : Nat) (u : List Int) (k : Nat) (hk : k < u.length) : preWord m S (u.drop k) = preSet m (preWord m S (u.drop (k + 1))) (u.getD k 0) := by
  unfold preWord
  have e : l0 u k = u[k] := by simp [l0, List.getD_eq_getElem?_getD, List.getElem?_eq_getElem hk]
  rw [List.drop_eq_getElem_cons hk, List.foldr_cons]
  show _ = preSet m _ (l0 u k)
  rw [e]
set_option maxHeartbeats 400000 in
theorem Preimage1_any (bw ba : Nat) (vw va : Value) (m : List (List Int)) (S : Nat) (l : List Int) (w : World) (hcw : w.cell? ⟨bw, 0, none⟩ = some vw) (hca : w.cell? ⟨ba, 0, none⟩ = some va)
    (hu : Ints w vw l) (h : Rows w va m) (hv : validM m = true) (hS : S < 2 ^ m.length) (hl : l.all (inB 0 ((letters m : Int) - 1)) = true) :
    Calls Tryd.prog 53 #[.int .u64 S, .pointer (some ⟨bw, 0, none⟩), .pointer (some ⟨ba, 0, none⟩)] w fun e w' => e = .returned (.int .u64 (preWord m S l : Nat)) ∧ Below w.heap.size w w' := by
  obtain ⟨Au, capu, rfl, hlu, hcu⟩ := hu
  have hr := h
  obtain ⟨A, cap, rfl, hml, hc⟩ := h
  have hbw := World.block_lt_of_cell? _ _ hcw
  have hba := World.block_lt_of_cell? _ _ hca
  have hn60 := (valid_parts hv).2.1
  unfold big at hlu
  clear hc
  go_enter Tryd.func53, Tryd.ntmps53
  go_wp2
  go_loopw [0, 5] (fun S' i wr => ∃ k : Nat, k ≤ l.length ∧ i = .int .i64 ((k : Int) - 1) ∧ S' = .int .u64 (preWord m S (l.drop k) : Nat) ∧ Below w.heap.size w wr) (fun _ i _ => (intOf i + 1).toNat)
  case atStart => exact ⟨l.length, Nat.le_refl _, rfl, by rw [List.drop_length]; rfl, Below.refl _ _⟩
  case round =>
    obtain ⟨k, hk, rfl, rfl, hB⟩ := hrel
    by_cases hpos : 0 < k
    · obtain ⟨j, rfl⟩ : ∃ j, k = j + 1 := ⟨k - 1, by omega⟩
      have hq := preWord_lt hv hS (l.drop (j + 1))
      have hq64 : preWord m S (l.drop (j + 1)) < 2 ^ 64 := Nat.lt_of_lt_of_le hq (Nat.pow_le_pow_right (by decide) (by omega))
      have hx := all_getD _ l 0 hl j (by omega)
      rw [inB_iff] at hx
      have Hs := hid (preWord_drop m S l j (by omega))
      obtain ⟨bu, offu, hAu, hcell⟩ := hcu j (by omega)
      subst hAu
      have hcu' := (hB.cell (p := ⟨bu, offu + j, none⟩) (World.block_lt_of_cell? _ _ hcell)).trans hcell
      have hca' := (hB.cell (p := ⟨ba, 0, none⟩) hba).trans hca
      have hcw' := (hB.cell (p := ⟨bw, 0, none⟩) hbw).trans hcw
      have hrr := hr.below hB
      clear hcw hca hcu hcell hr
      generalize preWord m S (l.drop (j + 1)) = q at *
      generalize l.getD j 0 = x at *
      obtain ⟨xn, rfl⟩ := Int.eq_ofNat_of_zero_le hx.1
      have ej : ((j + 1 : Nat) : Int) - 1 = (j : Int) := by omega
      rw [ej]
      have hjl : (j : Int) < l.length := by omega
      have hxl : xn < letters m := by omega
      clear hx hl ej
      go_wp2_with fail
      go_quiet ((go_at_call 54; exact Calls.quiet_of_same ((SetPreimage_any _ m q xn _ (hrr.drewN _) hv hq64 hxl).mono fun _ _ ⟨h1, h2⟩ => ⟨h1, h2.symm⟩)))
      go_wp2
      go_roundw
      case rel => exact ⟨j, by omega, rfl, by rw [Hs.out]; rfl, bdr hB _⟩
      case measure => simp [intOf]
    · obtain rfl : k = 0 := by omega
      go_wp2
      go_ret
      exact ⟨rfl, hB⟩
/-- Strictly increasing, and of states. -/
def incr (l : List Int) (k : Nat) : Bool := (List.range k).all fun i => decide (l.getD i 0 < l.getD (i + 1) 0)
def isSetM (m : List (List Int)) (l : List Int) : Bool := incr l (l.length - 1) && l.all (inB 0 ((m.length : Int) - 1))
theorem incr_succ (l : List Int) (k : Nat) : incr l (k + 1) = (incr l k && decide (l.getD k 0 < l.getD (k + 1) 0)) := by
  simp [incr, List.range_succ, List.all_append]
theorem incr_false (l : List Int) {k n : Nat} (hk : k < n) (h : ¬ l.getD k 0 < l.getD (k + 1) 0) : incr l n = false := by
  unfold incr
  rw [List.all_eq_false]
  exact ⟨k, List.mem_range.2 hk, by rw [decide_eq_true_iff]; exact h⟩
set_option maxHeartbeats 400000 in
theorem isSet_any (v u : Value) (m : List (List Int)) (l : List Int) (w : World) (h : Rows w v m) (hu : Ints w u l) :
    Calls Tryd.prog 70 #[.agg #[v], u] w fun e w' => e = .returned (.bool (isSetM m l)) ∧ Below w.heap.size w w' := by
  have hr := h
  have hur := hu
  obtain ⟨A, cap, rfl, hml, hc⟩ := h
  obtain ⟨Au, capu, rfl, hlu, hcu⟩ := hu
  unfold big at hml hlu
  clear hc
  go_enter Tryd.func70, Tryd.ntmps70
  go_wp2
  go_loopw [5] (fun i wr => ∃ k : Nat, (k = 0 ∨ k + 1 ≤ l.length) ∧ i = .int .i64 ((k : Int) + 1) ∧ incr l k = true ∧ Below w.heap.size w wr ∧ wr.cell? ⟨w.heap.size, 0, none⟩ = some (.slice A m.length cap)) (fun i _ => l.length - (intOf i).toNat)
  case atStart => exact ⟨0, .inl rfl, rfl, rfl, bal (Below.refl _ _) _, by simp [go_sem]⟩
  case round =>
    obtain ⟨k, hk, rfl, hinc, hB, hbox⟩ := hrel
    have hsz : w.heap.size < wr.heap.size := World.block_lt_of_cell? _ _ hbox
    by_cases hlt : k + 1 < l.length
    · obtain ⟨bu, offu, hAu, hcell⟩ := hcu k (by omega)
      obtain ⟨bu', offu', hAu', hcell'⟩ := hcu (k + 1) hlt
      subst hAu
      cases hAu'
      have c1 := (hB.cell (p := ⟨bu, offu + k, none⟩) (World.block_lt_of_cell? _ _ hcell)).trans hcell
      have c2 := (hB.cell (p := ⟨bu, offu + (k + 1), none⟩) (World.block_lt_of_cell? _ _ hcell')).trans hcell'
      have Hs := hid (incr_succ l k)
      have Hf := hid (incr_false l (k := k) (n := l.length - 1) (by omega))
      have Hi := hid hinc
      clear hcell hcell' hcu hinc hr hur
      generalize l.getD k 0 = x at *
      generalize l.getD (k + 1) 0 = y at *
      have i1 : (k : Int) + 1 < l.length := by omega
      have i2 : (k : Int) < l.length := by omega
      have i3 : IntKind.i64.wrap ((k : Int) + 1 - 1) = (k : Int) := by rw [IntKind.wrap_i64]; omega
      have i4 : ((k : Int) + 1).toNat = k + 1 := by omega
      by_cases hxy : x < y
      · have hd : decide (y ≤ x) = false := by simp; omega
        go_wp2_with fail
        go_quiet (fail)
        go_wp2
        go_roundw
        case rel => exact ⟨k + 1, .inr (by omega), by simp, by rw [Hs.out, Hi.out]; simp [hxy], bdr hB _, hbox⟩
        case measure => simp [intOf]; omega
      · have hd : decide (y ≤ x) = true := by simp; omega
        go_wp2_with fail
        go_quiet (fail)
        go_wp2
        go_ret
        exact ⟨ret_bool (by rw [isSetM, Hf.out hxy]; rfl), bdr hB _⟩
    · have hur' := hur.below hB
      have hrr := hr.below hB
      have hil : ¬ ((k : Int) + 1 < l.length) := by omega
      go_wp2_with fail
      refine (areStates_any _ _ m l _ hrr hur').mono ?_
      rintro e w1 ⟨rfl, hb1⟩
      go_wp2
      go_ret
      refine ⟨ret_bool ?_, btr hB hb1⟩
      have : l.length - 1 = k := by omega
      simp [isSetM, this, hinc]
theorem isSetM_mem {m : List (List Int)} {l : List Int} (h : isSetM m l = true) : ∀ x ∈ l, 0 ≤ x ∧ x < (m.length : Int) := by
  simp only [isSetM, Bool.and_eq_true] at h
  intro x hx
  have := List.all_eq_true.1 h.2 x hx
  rw [inB_iff] at this
  omega
theorem isWordM_all {m : List (List Int)} {l : List Int} (h : isWordM m l = true) : l.all (inB 0 ((letters m : Int) - 1)) = true := by
  simp only [isWordM, Bool.and_eq_true] at h
  exact h.2
def preimageM (m : List (List Int)) (s u : List Int) : List Int := intsOf (elems (preWord m (ofList s) u))
theorem Valid_bool (v : Value) (m : List (List Int)) (b : Bool) (w : World) (h : Rows w v m) (hb : validM m = b) :
    Calls Tryd.prog 31 #[.agg #[v]] w fun e w' => e = .returned (.bool b) ∧ Below w.heap.size w w' := by
  subst hb; exact Valid_any v m w h
theorem isSet_bool (v u : Value) (m : List (List Int)) (l : List Int) (b : Bool) (w : World) (h : Rows w v m) (hu : Ints w u l) (hb : isSetM m l = b) :
    Calls Tryd.prog 70 #[.agg #[v], u] w fun e w' => e = .returned (.bool b) ∧ Below w.heap.size w w' := by
  subst hb; exact isSet_any v u m l w h hu
theorem isWord_bool (v u : Value) (m : List (List Int)) (l : List Int) (b : Bool) (w : World) (h : Rows w v m) (hv : validM m = true) (hu : Ints w u l) (hb : isWordM m l = b) :
    Calls Tryd.prog 71 #[.agg #[v], u] w fun e w' => e = .returned (.bool b) ∧ Below w.heap.size w w' := by
  subst hb; exact isWord_any v u m l w h hv hu
/-- A pair of results: a list, and an error that is none. -/
def ListOk (w : World) (l : List Int) (e : Ending) (w' : World) : Prop := ∃ v, e = .returned (.tuple #[v, .int .i64 0]) ∧ Ints w' v l ∧ Below w.heap.size w w'
/-- .. no list, and an error. -/
def ListErr (w : World) (n : Int) (e : Ending) (w' : World) : Prop := e = .returned (.tuple #[.slice none 0 0, .int .i64 n]) ∧ Below w.heap.size w w'
set_option maxHeartbeats 400000 in
theorem led_form (fv v s u : Value) (m : List (List Int)) (sl ul : List Int) (w : World) (h : Rows w v m) (hs : Ints w s sl) (hu : Ints w u ul) (hv : validM m = false) :
    Calls Tryd.prog 52 #[.agg #[v], s, u, fv] w (ListErr w 1) := by
  have hr := h.alloc (.cells #[v] 24)
  obtain ⟨A, cap, rfl, hml, hc⟩ := h
  obtain ⟨As, caps, rfl, hls, hcs⟩ := hs
  obtain ⟨Au, capu, rfl, hlu, hcu⟩ := hu
  clear hc hcs hcu
  go_enter Tryd.func52, Tryd.ntmps52
  go_wp2_with fail
  refine (Valid_bool _ m false _ hr hv).mono ?_
  rintro e w1 ⟨rfl, hb1⟩
  go_wp2
  go_ret2
  exact ⟨rfl, btr (bal (Below.refl _ _) _) hb1⟩
set_option maxHeartbeats 400000 in
theorem led_set (fv v s u : Value) (m : List (List Int)) (sl ul : List Int) (w : World) (h : Rows w v m) (hs : Ints w s sl) (hu : Ints w u ul) (hv : validM m = true) (hset : isSetM m sl = false) :
    Calls Tryd.prog 52 #[.agg #[v], s, u, fv] w (ListErr w 2) := by
  have hr := h.alloc (.cells #[v] 24)
  have hss := hs.alloc (.cells #[v] 24)
  obtain ⟨A, cap, rfl, hml, hc⟩ := h
  obtain ⟨As, caps, rfl, hls, hcs⟩ := hs
  obtain ⟨Au, capu, rfl, hlu, hcu⟩ := hu
  clear hc hcs hcu
  go_enter Tryd.func52, Tryd.ntmps52
  go_wp2_with fail
  refine (Valid_bool _ m true _ hr hv).mono ?_
  rintro e w1 ⟨rfl, hb1⟩
  have hbx : w1.cell? ⟨w.heap.size, 0, none⟩ = some (.slice A m.length cap) := (hb1.cell (p := ⟨w.heap.size, 0, none⟩) (by simp)).trans (by simp [go_sem])
  have hr1 := hr.below hb1
  have hs1 := hss.below hb1
  go_wp2_with fail
  refine (isSet_bool _ _ m sl false _ hr1 hs1 hset).mono ?_
  rintro e w2 ⟨rfl, hb2⟩
  go_wp2
  go_ret2
  exact ⟨rfl, btr (btr (bal (Below.refl _ _) _) hb1) hb2⟩
set_option maxHeartbeats 400000 in
theorem led_word (fv v s u : Value) (m : List (List Int)) (sl ul : List Int) (w : World) (h : Rows w v m) (hs : Ints w s sl) (hu : Ints w u ul) (hv : validM m = true) (hset : isSetM m sl = true) (hw : isWordM m ul = false) :
    Calls Tryd.prog 52 #[.agg #[v], s, u, fv] w (ListErr w 2) := by
  have hr := h.alloc (.cells #[v] 24)
  have hss := hs.alloc (.cells #[v] 24)
  have huu := hu.alloc (.cells #[v] 24)
  obtain ⟨A, cap, rfl, hml, hc⟩ := h
  obtain ⟨As, caps, rfl, hls, hcs⟩ := hs
  obtain ⟨Au, capu, rfl, hlu, hcu⟩ := hu
  clear hc hcs hcu
  go_enter Tryd.func52, Tryd.ntmps52
  go_wp2_with fail
  refine (Valid_bool _ m true _ hr hv).mono ?_
  rintro e w1 ⟨rfl, hb1⟩
  have hbx : w1.cell? ⟨w.heap.size, 0, none⟩ = some (.slice A m.length cap) := (hb1.cell (p := ⟨w.heap.size, 0, none⟩) (by simp)).trans (by simp [go_sem])
  have hr1 := hr.below hb1
  have hs1 := hss.below hb1
  go_wp2_with fail
  refine (isSet_bool _ _ m sl true _ hr1 hs1 hset).mono ?_
  rintro e w2 ⟨rfl, hb2⟩
  have hbx2 := (hb2.cell (p := ⟨w.heap.size, 0, none⟩) (World.block_lt_of_cell? _ _ hbx)).trans hbx
  have hr2 := hr1.below hb2
  have hu2 := (huu.below hb1).below hb2
  go_wp2_with fail
  refine (isWord_bool _ _ m ul false _ hr2 hv hu2 hw).mono ?_
  rintro e w3 ⟨rfl, hb3⟩
  go_wp2
  go_ret2
  exact ⟨rfl, btr (btr (btr (bal (Below.refl _ _) _) hb1) hb2) hb3⟩
set_option maxHeartbeats 400000 in
theorem led_Preimage (bw ba : Nat) (v s u : Value) (m : List (List Int)) (sl ul : List Int) (w : World) (hT : Tab w) (h : Rows w v m) (hs : Ints w s sl) (hu : Ints w u ul) (hv : validM m = true) (hset : isSetM m sl = true) (hw : isWordM m ul = true)
    (hcw : w.cell? ⟨bw, 0, none⟩ = some u) (hca : w.cell? ⟨ba, 0, none⟩ = some v) :
    Calls Tryd.prog 52 #[.agg #[v], s, u, .func (.func 53) #[] #[.pointer (some ⟨bw, 0, none⟩), .pointer (some ⟨ba, 0, none⟩)]] w (ListOk w (intsOf (elems (preWord m (ofList sl) ul)))) := by
  have hr := h.alloc (.cells #[v] 24)
  have hss := hs.alloc (.cells #[v] 24)
  have huu := hu.alloc (.cells #[v] 24)
  have hbw := World.block_lt_of_cell? _ _ hcw
  have hba := World.block_lt_of_cell? _ _ hca
  obtain ⟨p1, p2, _⟩ := valid_parts hv
  have hmem := isSetM_mem hset
  have hS := ofList_lt m.length (by omega) sl hmem
  have hlt := preWord_lt hv hS ul
  have hlt64 : preWord m (ofList sl) ul < 2 ^ 64 := Nat.lt_of_lt_of_le hlt (Nat.pow_le_pow_right (by decide) (by omega))
  have hsl := isWordM_all hw
  have hof : ∀ x ∈ sl, 0 ≤ x ∧ x < 64 := fun x hx => by have := hmem x hx; omega
  obtain ⟨A, cap, rfl, hml, hc⟩ := h
  obtain ⟨As, caps, rfl, hls, hcs⟩ := hs
  obtain ⟨Au, capu, rfl, hlu, hcu⟩ := hu
  clear hc hcs hcu
  go_enter Tryd.func52, Tryd.ntmps52
  go_wp2_with fail
  refine (Valid_bool _ m true _ hr hv).mono ?_
  rintro e w1 ⟨rfl, hb1⟩
  have hbx : w1.cell? ⟨w.heap.size, 0, none⟩ = some (.slice A m.length cap) := (hb1.cell (p := ⟨w.heap.size, 0, none⟩) (by simp)).trans (by simp [go_sem])
  have hr1 := hr.below hb1
  have hs1 := hss.below hb1
  go_wp2_with fail
  refine (isSet_bool _ _ m sl true _ hr1 hs1 hset).mono ?_
  rintro e w2 ⟨rfl, hb2⟩
  have hbx2 := (hb2.cell (p := ⟨w.heap.size, 0, none⟩) (World.block_lt_of_cell? _ _ hbx)).trans hbx
  have hr2 := hr1.below hb2
  have hu2 := (huu.below hb1).below hb2
  go_wp2_with fail
  refine (isWord_bool _ _ m ul true _ hr2 hv hu2 hw).mono ?_
  rintro e w3 ⟨rfl, hb3⟩
  have hB3 := btr (btr (btr (bal (Below.refl w.heap.size w) (.cells #[.slice A m.length cap] 24)) hb1) hb2) hb3
  have hs3 := (hs1.below hb2).below hb3
  have hr3 := hr2.below hb3
  have hu3 := hu2.below hb3
  have hcw3 := (hB3.cell (p := ⟨bw, 0, none⟩) hbw).trans hcw
  have hca3 := (hB3.cell (p := ⟨ba, 0, none⟩) hba).trans hca
  have hT3 := hT.on hB3
  go_wp2_with fail
  refine (Of_any _ sl _ hs3 hof).mono ?_
  rintro e w4 ⟨rfl, rfl⟩
  go_wp2_with fail
  refine (Preimage1_any bw ba _ _ m (ofList sl) ul _ hcw3 hca3 hu3 hr3 hv hS hsl).mono ?_
  rintro e w5 ⟨rfl, hb5⟩
  go_wp2_with fail
  refine (List_any _ _ (hT3.on hb5) hlt64).mono ?_
  rintro e w6 ⟨lv, rfl, hlv, hb6⟩
  go_wp2
  go_ret2
  exact ⟨_, rfl, hlv, btr (btr hB3 hb5) hb6⟩
end Go.Proofs.YtphpablchlpagaaDoor
namespace Go.Proofs.YtphpablchlpagaaDoor
open Go.RowKit Go.Shelf
set_option maxHeartbeats 400000 in
theorem Preimage_form (v s u : Value) (m : List (List Int)) (sl ul : List Int) (w : World) (hT : Tab w) (h : Rows w v m) (hs : Ints w s sl) (hu : Ints w u ul) (hv : validM m = false) :
    Calls Tryd.prog 22 #[.agg #[v], s, u] w (ListErr w 1) := by
  have hB := bal (bal (Below.refl w.heap.size w) (.cells #[v] 24)) (.cells #[u] 34)
  have hr := h.below hB
  have hss := hs.below hB
  have huu := hu.below hB
  have hTT := hT.on hB
  obtain ⟨A, cap, rfl, hml, hc⟩ := h
  obtain ⟨As, caps, rfl, hls, hcs⟩ := hs
  obtain ⟨Au, capu, rfl, hlu, hcu⟩ := hu
  clear hc hcs hcu
  go_enter Tryd.func22, Tryd.ntmps22
  go_wp2_with fail
  refine (led_form _ _ _ _ m sl ul _ hr hss huu hv).mono ?_
  rintro e w1 ⟨rfl, hb1⟩
  go_wp2
  go_ret2
  exact ⟨rfl, btr hB hb1⟩
set_option maxHeartbeats 400000 in
theorem Preimage_arg (v s u : Value) (m : List (List Int)) (sl ul : List Int) (w : World) (hT : Tab w) (h : Rows w v m) (hs : Ints w s sl) (hu : Ints w u ul) (hv : validM m = true) (ha : (isSetM m sl && isWordM m ul) = false) :
    Calls Tryd.prog 22 #[.agg #[v], s, u] w (ListErr w 2) := by
  have hB := bal (bal (Below.refl w.heap.size w) (.cells #[v] 24)) (.cells #[u] 34)
  have hr := h.below hB
  have hss := hs.below hB
  have huu := hu.below hB
  have hTT := hT.on hB
  obtain ⟨A, cap, rfl, hml, hc⟩ := h
  obtain ⟨As, caps, rfl, hls, hcs⟩ := hs
  obtain ⟨Au, capu, rfl, hlu, hcu⟩ := hu
  clear hc hcs hcu
  by_cases h1 : isSetM m sl = true
  · have h2 : isWordM m ul = false := by simpa [h1] using ha
    clear ha
    go_enter Tryd.func22, Tryd.ntmps22
    go_wp2_with fail
    refine (led_word _ _ _ _ m sl ul _ hr hss huu hv h1 h2).mono ?_
    rintro e w1 ⟨rfl, hb1⟩
    go_wp2
    go_ret2
    exact ⟨rfl, btr hB hb1⟩
  · have h2 : isSetM m sl = false := by simpa using h1
    clear ha h1
    go_enter Tryd.func22, Tryd.ntmps22
    go_wp2_with fail
    refine (led_set _ _ _ _ m sl ul _ hr hss huu hv h2).mono ?_
    rintro e w1 ⟨rfl, hb1⟩
    go_wp2
    go_ret2
    exact ⟨rfl, btr hB hb1⟩
set_option maxHeartbeats 400000 in
theorem Preimage_ok (v s u : Value) (m : List (List Int)) (sl ul : List Int) (w : World) (hT : Tab w) (h : Rows w v m) (hs : Ints w s sl) (hu : Ints w u ul) (hv : validM m = true) (h1 : isSetM m sl = true) (h2 : isWordM m ul = true) :
    Calls Tryd.prog 22 #[.agg #[v], s, u] w (ListOk w (preimageM m sl ul)) := by
  have hB := bal (bal (Below.refl w.heap.size w) (.cells #[v] 24)) (.cells #[u] 34)
  have hr := h.below hB
  have hss := hs.below hB
  have huu := hu.below hB
  have hTT := hT.on hB
  obtain ⟨A, cap, rfl, hml, hc⟩ := h
  obtain ⟨As, caps, rfl, hls, hcs⟩ := hs
  obtain ⟨Au, capu, rfl, hlu, hcu⟩ := hu
  clear hc hcs hcu
  go_enter Tryd.func22, Tryd.ntmps22
  go_wp2_with fail
  refine (led_Preimage (w.heap.size + 1) w.heap.size _ _ _ m sl ul _ hTT hr hss huu hv h1 h2 (by simp [go_sem]) (by simp [go_sem])).mono ?_
  rintro e w1 ⟨lv, rfl, hlv, hb1⟩
  go_wp2
  go_ret2
  exact ⟨_, rfl, hlv, btr hB hb1⟩
end Go.Proofs.YtphpablchlpagaaDoor
namespace Go.Proofs.YtphpablchlpagaaDoor
open Go.RowKit Go.Shelf
set_option maxHeartbeats 400000 in
theorem rBelow_any (v : Value) (l : List Int) (n : Int) (w : World) (h : Ints w v l) (hn : -9223372036854775808 < n ∧ n ≤ 9223372036854775807) :
    Calls Tryd.prog 36 #[v, .int .i64 n] w fun e w' => e = .returned (.bool (l.all (inB 0 (n - 1)))) ∧ w = w' := by
  obtain ⟨A, cap, rfl, hl, hc⟩ := h
  unfold big at hl
  go_enter Tryd.func36, Tryd.ntmps36
  go_wp2
  go_loop [5] (fun i => ∃ k : Nat, k ≤ l.length ∧ i = .int .i64 k ∧ (l.take k).all (inB 0 (n - 1)) = true) (fun i => l.length - (intOf i).toNat)
  case atStart => exact ⟨0, Nat.zero_le _, rfl, rfl⟩
  case round =>
    obtain ⟨k, hk, rfl, hall⟩ := hrel
    by_cases hlt : k < l.length
    · obtain ⟨b, off, hA, hcell⟩ := hc k hlt
      have hs := all_snoc_take (inB 0 (n - 1)) l 0 k hlt
      rw [hall, Bool.true_and] at hs
      have hf := all_false_of (inB 0 (n - 1)) l 0 k hlt
      have Hs := hid hs
      have Hf := hid hf
      clear hs hf hall hc
      generalize hx : l.getD k 0 = x at *
      clear hx
      subst hA
      by_cases h0 : x < 0
      · have d1 : decide (x < 0) = true := by simp [h0]
        go_wp2
        go_ret
        exact ⟨ret_bool (Hf.out (inB_false (.inl h0))).symm, rfl⟩
      · have d1 : decide (x < 0) = false := by simp; omega
        by_cases h1 : n ≤ x
        · have d2 : decide (n ≤ x) = true := by simp [h1]
          go_wp2
          go_ret
          exact ⟨ret_bool (Hf.out (inB_false (.inr (by omega)))).symm, rfl⟩
        · have d2 : decide (n ≤ x) = false := by simp; omega
          go_wp2
          go_round
          case rel => exact ⟨k + 1, by omega, by go_num, by rw [Hs.out]; exact inB_true (by omega)⟩
          case measure => simp [intOf]; omega
    · go_wp2
      go_ret
      exact ⟨ret_bool (by rw [← hall, List.take_of_length_le (by omega)]), rfl⟩
theorem rBelow_bool (v : Value) (l : List Int) (n : Int) (b : Bool) (w : World) (h : Ints w v l) (hn : -9223372036854775808 < n ∧ n ≤ 9223372036854775807) (hb : l.all (inB 0 (n - 1)) = b) :
    Calls Tryd.prog 36 #[v, .int .i64 n] w fun e w' => e = .returned (.bool b) ∧ w = w' := by
  subst hb; exact rBelow_any v l n w h hn
set_option maxHeartbeats 400000 in
theorem rLetters_any (v : Value) (m : List (List Int)) (w : World) (h : Rows w v m) (hv : validM m = true) :
    Calls Tryd.prog 26 #[.agg #[v]] w fun e w' => e = .returned (.int .i64 (letters m : Nat)) ∧ Below w.heap.size w w' := by
  obtain ⟨p1, p2, p3, p4, p5⟩ := valid_parts hv
  obtain ⟨A, cap, rfl, hl, hc⟩ := h
  obtain ⟨b, off, r0, hA, hcell0, hr0⟩ := hc 0 (by omega)
  subst hA
  obtain ⟨A0, cap0, rfl, hl0, hc0⟩ := hr0
  rw [Nat.add_zero] at hcell0
  have hlet : (m.getD 0 []).length = letters m := rfl
  rw [hlet] at hcell0
  have hbl : b < w.heap.size := World.block_lt_of_cell? _ _ hcell0
  have hin : (0 : Int) < m.length := by omega
  clear hc hc0 hlet p5
  go_enter Tryd.func26, Tryd.ntmps26
  go_wp2
  go_ret
  exact ⟨rfl, bal (Below.refl _ _) _⟩
/-- Whether a list has a number. -/
def hasB (l : List Int) (n : Int) : Bool := l.any fun x => x == n
theorem any_snoc_take (p : Int → Bool) (l : List Int) (k : Nat) (hk : k < l.length) : (l.take (k + 1)).any p = ((l.take k).any p || p (l.getD k 0)) := by
  rw [List.take_succ_eq_append_getElem hk, List.any_append]
  simp [List.getD_eq_getElem?_getD, List.getElem?_eq_getElem hk]
theorem any_true_of (p : Int → Bool) (l : List Int) (k : Nat) (hk : k < l.length) (h : p (l.getD k 0) = true) : l.any p = true := by
  rw [List.any_eq_true]
  exact ⟨_, mem_getD hk, h⟩
set_option maxHeartbeats 400000 in
theorem rHas_any (v : Value) (l : List Int) (n : Int) (w : World) (h : Ints w v l) :
    Calls Tryd.prog 38 #[v, .int .i64 n] w fun e w' => e = .returned (.bool (hasB l n)) ∧ w = w' := by
  obtain ⟨A, cap, rfl, hl, hc⟩ := h
  unfold big at hl
  go_enter Tryd.func38, Tryd.ntmps38
  go_wp2
  go_loop [5] (fun i => ∃ k : Nat, k ≤ l.length ∧ i = .int .i64 k ∧ hasB (l.take k) n = false) (fun i => l.length - (intOf i).toNat)
  case atStart => exact ⟨0, Nat.zero_le _, rfl, rfl⟩
  case round =>
    obtain ⟨k, hk, rfl, hall⟩ := hrel
    by_cases hlt : k < l.length
    · obtain ⟨b, off, hA, hcell⟩ := hc k hlt
      have hs := any_snoc_take (fun x => x == n) l k hlt
      have hf := any_true_of (fun x => x == n) l k hlt
      have Ha := hid hall
      have Hs := hid hs
      have Hf := hid hf
      clear hs hf hall hc
      generalize hx : l.getD k 0 = x at *
      clear hx
      subst hA
      by_cases h0 : x = n
      · subst h0
        go_wp2
        go_ret
        exact ⟨ret_bool (Hf.out (by simp)).symm, rfl⟩
      · have d1 : (x == n) = false := by simp [h0]
        have H0 := hid h0
        clear h0
        go_wp2
        go_round
        case rel => exact ⟨k + 1, by omega, by go_num, by have h1 := Ha.out; unfold hasB at h1 ⊢; rw [Hs.out, h1]; simpa using H0.out⟩
        case measure => simp [intOf]; omega
    · go_wp2
      go_ret
      exact ⟨ret_bool (by rw [← hall, List.take_of_length_le (by omega)]), rfl⟩
theorem take_eq_succ {l m : List Int} {k : Nat} (hk : k < l.length) (hl : l.length = m.length) (h : l.take k = m.take k) (hx : l.getD k 0 = m.getD k 0) : l.take (k + 1) = m.take (k + 1) := by
  have h1 : k < m.length := by omega
  rw [List.take_succ_eq_append_getElem hk, List.take_succ_eq_append_getElem h1, h]
  have e1 : l.getD k 0 = l[k] := by simp [List.getD_eq_getElem?_getD, List.getElem?_eq_getElem hk]
  have e2 : m.getD k 0 = m[k] := by simp [List.getD_eq_getElem?_getD, List.getElem?_eq_getElem h1]
  rw [← e1, ← e2, hx]
theorem ne_of_getD {l m : List Int} {k : Nat} (hx : ¬ l.getD k 0 = m.getD k 0) : decide (l = m) = false := by
  rw [decide_eq_false_iff_not]
  intro h
  rw [h] at hx
  exact hx rfl
set_option maxHeartbeats 400000 in
theorem rSame_any (v u : Value) (l m : List Int) (w : World) (h : Ints w v l) (hu : Ints w u m) :
    Calls Tryd.prog 20 #[v, u] w fun e w' => e = .returned (.bool (decide (l = m))) ∧ Below w.heap.size w w' := by
  obtain ⟨A, cap, rfl, hl, hc⟩ := h
  obtain ⟨Au, capu, rfl, hlu, hcu⟩ := hu
  unfold big at hl hlu
  by_cases hlen : l.length = m.length
  · have hne : ((l.length : Int) != (m.length : Int)) = false := by simp; omega
    have Hlen := hid hlen
    clear hlen
    go_enter Tryd.func20, Tryd.ntmps20
    go_wp2
    go_loopw [5] (fun i wr => ∃ k : Nat, k ≤ l.length ∧ i = .int .i64 k ∧ l.take k = m.take k ∧ Below w.heap.size w wr) (fun i _ => l.length - (intOf i).toNat)
    case atStart => exact ⟨0, Nat.zero_le _, rfl, rfl, Below.refl _ _⟩
    case round =>
      obtain ⟨k, hk, rfl, htk, hB⟩ := hrel
      have Htk := hid htk
      clear htk
      by_cases hlt : k < l.length
      · have hle := Hlen.out
        obtain ⟨b, off, hA, hcell⟩ := hc k hlt
        obtain ⟨b', off', hA', hcell'⟩ := hcu k (by omega)
        subst hA
        subst hA'
        have c1 := (hB.cell (p := ⟨b, off + k, none⟩) (World.block_lt_of_cell? _ _ hcell)).trans hcell
        have c2 := (hB.cell (p := ⟨b', off' + k, none⟩) (World.block_lt_of_cell? _ _ hcell')).trans hcell'
        have Hs := hid (fun hx => take_eq_succ hlt Hlen.out Htk.out hx)
        have Hf := hid (fun hx => ne_of_getD (l := l) (m := m) (k := k) hx)
        have i1 : (k : Int) < l.length := by omega
        have i2 : (k : Int) < m.length := by omega
        clear hc hcu hcell hcell' hle
        generalize l.getD k 0 = x at *
        generalize m.getD k 0 = y at *
        by_cases hxy : x = y
        · have hd : (x != y) = false := by simp [hxy]
          have Hxy := hid hxy
          clear hxy
          go_wp2_with fail
          go_quiet (fail)
          go_wp2
          go_roundw
          case rel => exact ⟨k + 1, by omega, by go_num, Hs.out Hxy.out, bdr hB _⟩
          case measure => simp [intOf]; omega
        · have hd : (x != y) = true := by simp [hxy]
          have Hxy := hid hxy
          clear hxy
          go_wp2_with fail
          go_quiet (fail)
          go_wp2
          go_ret
          exact ⟨ret_bool (Hf.out Hxy.out).symm, bdr hB _⟩
      · go_wp2
        go_ret
        have h1 := Htk.out
        have h2 := Hlen.out
        rw [List.take_of_length_le (by omega), List.take_of_length_le (by omega)] at h1
        exact ⟨ret_bool (by simp [h1]), hB⟩
  · have hne : ((l.length : Int) != (m.length : Int)) = true := by simp; omega
    have Hlen := hid hlen
    clear hlen
    go_enter Tryd.func20, Tryd.ntmps20
    go_wp2
    go_ret
    exact ⟨ret_bool (by
      symm
      rw [decide_eq_false_iff_not]
      intro h
      exact Hlen.out (by rw [h])), Below.refl _ _⟩
end Go.Proofs.YtphpablchlpagaaDoor
namespace Go.Proofs.YtphpablchlpagaaDoor
open Go.RowKit Go.Shelf
theorem getD_elem (l : List Int) (j : Nat) (hj : j < l.length) : l.getD j 0 = l[j] := by simp [List.getD_eq_getElem?_getD, List.getElem?_eq_getElem hj]
end Go.Proofs.YtphpablchlpagaaDoor
namespace Go.Proofs.YtphpablchlpagaaDoor
open Go.RowKit Go.Shelf
theorem owns_kept {B n : Nat} {e : TypeId} {s : Nat} {v : Value} {xs : List Value} {w w' : World} (h : w.ownsRow B e s v n xs) (hk : ∀ k, B ≤ k → k < w.heap.size → w'.heap[k]? = w.heap[k]?) : w'.ownsRow B e s v n xs := by
  obtain ⟨h1, h2⟩ := h
  refine ⟨h1, ?_⟩
  rcases h2 with h2 | ⟨g, cap, cur, hv, hB, hh, r⟩
  · exact .inl h2
  · exact .inr ⟨g, cap, cur, hv, hB, by rw [hk g hB (lt_of_block hh)]; exact hh, r⟩
/-- A slice of ints that lies beside a row. -/
def IntsOff (W : World) (base : Nat) (g : Option Nat) (v : Value) (l : List Int) : Prop :=
  ∃ A cap, v = .slice A l.length cap ∧ l.length ≤ big ∧ (∀ i, i < l.length → ∃ b off, A = some ⟨b, off, none⟩ ∧ base ≤ b ∧ some b ≠ g ∧ W.cell? ⟨b, off + i, none⟩ = some (.int .i64 (l.getD i 0)))
theorem IntsOff.ints {W : World} {base : Nat} {g : Option Nat} {v : Value} {l : List Int} (h : IntsOff W base g v l) : Ints W v l := by
  obtain ⟨A, cap, rfl, hl, hc⟩ := h
  exact ⟨A, cap, rfl, hl, fun i hi => by obtain ⟨b, off, hA, _, _, hcell⟩ := hc i hi; exact ⟨b, off, hA, hcell⟩⟩
/-- A row of the call's own from base on, whose elements are slices of ints beside it. -/
def MRows (W : World) (base : Nat) (v : Value) (m : List (List Int)) : Prop :=
  ∃ xs : List Value, W.ownsRow base 34 1 v m.length xs ∧ ∀ i, i < m.length → IntsOff W base v.ownBlock (xs.getD i .nilIface) (m.getD i [])
theorem MRows.nil (W : World) (base : Nat) : MRows W base (.slice none 0 0) [] := ⟨[], ⟨rfl, .inl ⟨rfl, rfl⟩⟩, fun i hi => by simp at hi⟩
theorem MRows.rows {W : World} {base : Nat} {v : Value} {m : List (List Int)} (h : MRows W base v m) (hl : m.length ≤ big) : Rows W v m := by
  obtain ⟨xs, ho, hx⟩ := h
  have hxl : xs.length = m.length := by have := ho.1; omega
  rcases ho.2 with ⟨rfl, h0⟩ | ⟨g, cap, cur, rfl, hb, hg, hn, hc, hs, ht⟩
  · exact ⟨none, 0, by rw [h0], hl, fun i hi => by omega⟩
  · refine ⟨some ⟨g, 0, none⟩, cap, rfl, hl, fun i hi => ⟨g, 0, xs.getD i .nilIface, rfl, ?_, (hx i hi).ints⟩⟩
    have h1 : xs[i]? = some (xs.getD i .nilIface) := by
      simp [List.getElem?_eq_getElem (show i < xs.length by omega), List.getD_eq_getElem?_getD]
    rw [← ht, List.getElem?_take, if_pos (by omega)] at h1
    simp only [World.cell?, hg]
    rw [← ht]
    simpa using h1
/-- Kept by a world that leaves the blocks from base on, but the row's own, as they lay. -/
theorem IntsOff.kept {W W' : World} {base : Nat} {g : Option Nat} {v : Value} {l : List Int} (h : IntsOff W base g v l) (hk : ∀ k, base ≤ k → k < W.heap.size → some k ≠ g → W'.heap[k]? = W.heap[k]?) {g' : Option Nat} (hg : ∀ k, k < W.heap.size → some k ≠ g → some k ≠ g') : IntsOff W' base g' v l := by
  obtain ⟨A, cap, rfl, hl, hc⟩ := h
  refine ⟨A, cap, rfl, hl, fun i hi => ?_⟩
  obtain ⟨b, off, hA, hB, hne, hcell⟩ := hc i hi
  have hb := World.block_lt_of_cell? _ _ hcell
  refine ⟨b, off, hA, hB, hg _ hb hne, ?_⟩
  rw [← hcell]
  exact World.cell?_of_block (w := W) (hk _ hB hb hne)
theorem MRows.kept {W W' : World} {base : Nat} {v : Value} {m : List (List Int)} (h : MRows W base v m) (hk : ∀ k, base ≤ k → k < W.heap.size → W'.heap[k]? = W.heap[k]?) : MRows W' base v m := by
  obtain ⟨xs, ho, hx⟩ := h
  exact ⟨xs, owns_kept ho hk, fun i hi => (hx i hi).kept (fun k hb hs _ => hk k hb hs) (fun _ _ h => h)⟩
theorem MRows.below {W W' : World} {base : Nat} {v : Value} {m : List (List Int)} (h : MRows W base v m) (hb : Below W.heap.size W W') : MRows W' base v m := h.kept fun k _ hk => hb.block k hk
/-- Behind an append of a slice that lies beside. -/
theorem MRows.appended {W W' : World} {base : Nat} {v v' u : Value} {m : List (List Int)} {l : List Int} {xs : List Value} (hx : ∀ i, i < m.length → IntsOff W base v.ownBlock (xs.getD i .nilIface) (m.getD i [])) (hxl : xs.length = m.length)
    (hu : IntsOff W base v.ownBlock u l) (ho : W'.ownsRow base 34 1 v' (m.length + 1) (xs ++ [u])) (hg : W.grownBy W' v.ownBlock) (hat : v'.ownBlock = v.ownBlock ∨ v'.ownBlock = some W.heap.size) : MRows W' base v' (m ++ [l]) := by
  refine ⟨xs ++ [u], by simpa using ho, fun i hi => ?_⟩
  have key : ∀ {x : Value} {r : List Int}, IntsOff W base v.ownBlock x r → IntsOff W' base v'.ownBlock x r := by
    intro x r h
    refine h.kept (fun k _ hk hne => hg.block k hk (fun e => hne e)) (fun k hk hne e => ?_)
    rcases hat with h1 | h1
    · exact hne (e.trans h1)
    · rw [h1] at e
      have : k = W.heap.size := by simpa using e
      omega
  simp only [List.length_append, List.length_cons, List.length_nil] at hi
  by_cases hil : i < m.length
  · have e1 : (xs ++ [u]).getD i .nilIface = xs.getD i .nilIface := by simp [List.getD_eq_getElem?_getD, List.getElem?_append_left (show i < xs.length by omega)]
    have e2 : (m ++ [l]).getD i [] = m.getD i [] := by simp [List.getD_eq_getElem?_getD, List.getElem?_append_left hil]
    rw [e1, e2]
    exact key (hx i hil)
  · obtain rfl : i = m.length := by omega
    have e1 : (xs ++ [u]).getD m.length .nilIface = u := by rw [← hxl]; simp [List.getD_eq_getElem?_getD]
    have e2 : (m ++ [l]).getD m.length [] = l := by simp [List.getD_eq_getElem?_getD]
    rw [e1, e2]
    exact key hu
end Go.Proofs.YtphpablchlpagaaDoor
namespace Go.Proofs.YtphpablchlpagaaDoor
open Go.RowKit Go.Shelf
theorem Ints.two' (w : World) (x y : Int) (t : TypeId) (k : Nat) (hk : k = w.heap.size) : Ints (w.alloc (.cells #[.int .i64 x, .int .i64 y] t)) (.slice (some ⟨k, 0, none⟩) 2 2) [x, y] := by
  subst hk
  refine ⟨_, 2, rfl, by unfold big; simp, fun i hi => ⟨w.heap.size, 0, rfl, ?_⟩⟩
  have h2 : i = 0 ∨ i = 1 := by simp at hi; omega
  rcases h2 with rfl | rfl <;> simp
theorem rSame_eq (v u : Value) (l : List Int) (w : World) (h : Ints w v l) (hu : Ints w u l) : Calls Tryd.prog 20 #[v, u] w fun e w' => e = .returned (.bool true) ∧ Below w.heap.size w w' := by
  have hs := rSame_any v u l l w h hu
  rw [decide_eq_true rfl] at hs
  exact hs
end Go.Proofs.YtphpablchlpagaaDoor
namespace Go.Proofs.YtphpablchlpagaaDoor
open Go.RowKit Go.Shelf
set_option maxHeartbeats 1000000 in
theorem rValid_any (v : Value) (m : List (List Int)) (w : World) (h : Rows w v m) :
    Calls Tryd.prog 12 #[.agg #[v]] w fun e w' => e = .returned (.bool (validM m)) ∧ Below w.heap.size w w' := by
  have hr := h
  obtain ⟨A, cap, rfl, hl, hc⟩ := h
  unfold big at hl
  by_cases h0 : m.length = 0
  · have d0 : ((m.length : Int) == 0) = true := by simp [h0]
    clear hc
    go_enter Tryd.func12, Tryd.ntmps12
    go_wp2
    go_ret
    exact ⟨ret_bool (by simp [validM, inB, h0]), bal (Below.refl _ _) _⟩
  have d0 : ((m.length : Int) == 0) = false := by rw [beq_eq_false_iff_ne]; omega
  by_cases h1 : 60 < m.length
  · have d1 : decide ((60 : Int) < m.length) = true := by simp; omega
    clear hc
    go_enter Tryd.func12, Tryd.ntmps12
    go_wp2
    go_ret
    have e1 : inB 1 60 m.length = false := inB_false (.inr (by omega))
    exact ⟨ret_bool (by simp [validM, e1]), bal (Below.refl _ _) _⟩
  have d1 : decide ((60 : Int) < m.length) = false := by simp; omega
  obtain ⟨b, off, r0, hA, hcell0, hr0⟩ := hc 0 (by omega)
  subst hA
  obtain ⟨A0, cap0, rfl, hl0, hc0⟩ := hr0
  unfold big at hl0
  rw [Nat.add_zero] at hcell0
  have hbl : b < w.heap.size := World.block_lt_of_cell? _ _ hcell0
  have hlet : (m.getD 0 []).length = letters m := rfl
  rw [hlet] at hcell0 hl0
  have hin : (0 : Int) < m.length := by omega
  clear hc0 hlet
  have Hc := hid hc
  clear hc
  by_cases h2 : letters m = 0
  · have d2 : ((letters m : Int) == 0) = true := by simp [h2]
    go_enter Tryd.func12, Tryd.ntmps12
    go_wp2
    go_ret
    exact ⟨ret_bool (by simp [validM, inB, h2]), bal (Below.refl _ _) _⟩
  have d2 : ((letters m : Int) == 0) = false := by simp; omega
  by_cases h3 : 6 < letters m
  · have d3 : decide ((6 : Int) < letters m) = true := by simp; omega
    go_enter Tryd.func12, Tryd.ntmps12
    go_wp2
    go_ret
    have e1 : inB 1 6 (letters m) = false := inB_false (.inr (by omega))
    exact ⟨ret_bool (by simp [validM, e1]), bal (Below.refl _ _) _⟩
  have d3 : decide ((6 : Int) < letters m) = false := by simp; omega
  have hv1 : validM m = m.all (rowOk m) := by
    have e1 : inB 1 60 m.length = true := inB_true (by omega)
    have e2 : inB 1 6 (letters m) = true := inB_true (by omega)
    simp [validM, e1, e2]
  have Hv := hid hv1
  clear hv1
  go_enter Tryd.func12, Tryd.ntmps12
  go_wp2
  go_loopw [4] (fun i wr => ∃ k : Nat, k ≤ m.length ∧ i = .int .i64 k ∧ (m.take k).all (rowOk m) = true ∧ Below w.heap.size w wr ∧ wr.cell? ⟨w.heap.size, 0, none⟩ = some (.slice (some ⟨b, off, none⟩) m.length cap)) (fun i _ => m.length - (intOf i).toNat)
  case atStart => exact ⟨0, Nat.zero_le _, rfl, rfl, bal (Below.refl _ _) _, by simp [go_sem]⟩
  case round =>
    obtain ⟨k, hk, rfl, hall, hB, hbox⟩ := hrel
    have hsz : w.heap.size < wr.heap.size := World.block_lt_of_cell? _ _ hbox
    by_cases hlt : k < m.length
    · obtain ⟨b', off', r, hA', hcell, hrow⟩ := Hc.out k hlt
      cases hA'
      have hrowc : wr.cell? ⟨b, off + k, none⟩ = some r := (hB.cell (p := ⟨b, off + k, none⟩) hbl).trans hcell
      have hrow0 : wr.cell? ⟨b, off, none⟩ = some (.slice A0 (letters m) cap0) := (hB.cell (p := ⟨b, off, none⟩) hbl).trans hcell0
      have hroww := hrow.below hB
      have Hs := hid (all_snoc_take (rowOk m) m [] k hlt)
      have Hf := hid (all_false_of (rowOk m) m [] k hlt)
      clear hrow hcell
      generalize m.getD k [] = row at *
      have hroww' := hroww
      obtain ⟨Ar, capr, rfl, hlr, hcr⟩ := hroww
      unfold big at hlr
      clear hcr
      have Ha := hid hall
      clear hall
      by_cases hle : row.length = letters m
      · have hne : ((row.length : Int) != (letters m : Int)) = false := by simp; omega
        have Hle := hid hle
        clear hle
        by_cases hst : row.all (inB 0 ((m.length : Int) - 1)) = true
        · go_wp2_with fail
          go_quiet ((go_at_call 36; exact Calls.quiet_of_same ((rBelow_bool _ row _ true _ (hroww'.drewN _) (by omega) hst).mono fun _ _ ⟨h1, h2⟩ => ⟨h1, h2.symm⟩)))
          go_wp2
          go_roundw
          case rel => exact ⟨k + 1, by omega, by go_num, by rw [Hs.out, Ha.out]; simp [rowOk, Hle.out, hst], bdr hB _, hbox⟩
          case measure => simp [intOf]; omega
        · have hst' : row.all (inB 0 ((m.length : Int) - 1)) = false := by simpa using hst
          clear hst
          go_wp2_with fail
          go_quiet ((go_at_call 36; exact Calls.quiet_of_same ((rBelow_bool _ row _ false _ (hroww'.drewN _) (by omega) hst').mono fun _ _ ⟨h1, h2⟩ => ⟨h1, h2.symm⟩)))
          go_wp2
          go_ret
          exact ⟨ret_bool (by rw [Hv.out, Hf.out]; simp [rowOk, hst']), bdr hB _⟩
      · have hne : ((row.length : Int) != (letters m : Int)) = true := by simp; omega
        have Hle := hid hle
        clear hle
        go_wp2_with fail
        go_quiet (fail)
        go_wp2
        go_ret
        exact ⟨ret_bool (by rw [Hv.out, Hf.out]; simp [rowOk, Hle.out]), bdr hB _⟩
    · go_wp2
      go_ret
      exact ⟨ret_bool (by rw [Hv.out, ← hall, List.take_of_length_le (by omega)]), hB⟩
set_option maxHeartbeats 1000000 in
theorem rRun_any (v u : Value) (m : List (List Int)) (s : Nat) (l : List Int) (w : World) (h : Rows w v m) (hu : Ints w u l) (hv : validM m = true) (hs : s < m.length) (hw : isWordM m l = true) :
    Calls Tryd.prog 77 #[.agg #[v], .int .i64 s, u] w fun e w' => e = .returned (.int .i64 (runM m s l : Nat)) ∧ Below w.heap.size w w' := by
  have hr := h
  have hur := hu
  obtain ⟨A, cap, rfl, hml, hc⟩ := h
  obtain ⟨Au, capu, rfl, hlu, hcu⟩ := hu
  unfold big at hlu hml
  have Hc := hid hc
  have Hcu := hid hcu
  clear hc hcu
  go_enter Tryd.func77, Tryd.ntmps77
  go_wp2
  go_loopw [1, 7] (fun s' i wr => ∃ k : Nat, k ≤ l.length ∧ i = .int .i64 k ∧ s' = .int .i64 (runM m s (l.take k)) ∧ Below w.heap.size w wr ∧ wr.cell? ⟨w.heap.size, 0, none⟩ = some (.slice A m.length cap)) (fun _ i _ => l.length - (intOf i).toNat)
  case atStart => exact ⟨0, Nat.zero_le _, rfl, rfl, bal (Below.refl _ _) _, by simp [go_sem]⟩
  case round =>
    obtain ⟨k, hk, rfl, rfl, hB, hbox⟩ := hrel
    by_cases hlt : k < l.length
    · have hl : l.all (inB 0 ((letters m : Int) - 1)) = true := by simp only [isWordM, Bool.and_eq_true] at hw; exact hw.2
      have hq := runM_lt hv (l.take k) s hs (all_take _ _ hl k)
      have hx := all_getD _ l 0 hl k hlt
      rw [inB_iff] at hx
      have Hs := hid (runM_snoc m s l k hlt)
      obtain ⟨bu, offu, hAu, hcell⟩ := Hcu.out k hlt
      subst hAu
      have hcu' := (hB.cell (p := ⟨bu, offu + k, none⟩) (World.block_lt_of_cell? _ _ hcell)).trans hcell
      generalize hqe : runM m s (l.take k) = q at *
      generalize l.getD k 0 = x at *
      obtain ⟨xn, rfl⟩ := Int.eq_ofNat_of_zero_le hx.1
      obtain ⟨b, off, r, hA, hrc, hrr⟩ := Hc.out q hq
      subst hA
      obtain ⟨Ar, capr, rfl, hlr, hcr⟩ := hrr
      have hn := nx_ok hv hq hx.1 (by omega)
      have hrl := ((valid_parts hv).2.2.2.2 q hq).1
      obtain ⟨br, offr, hAr, hrcell⟩ := hcr xn (by omega)
      subst hAr
      rw [Int.toNat_natCast] at hn
      rw [hn.2] at hrcell
      have hrc' := (hB.cell (p := ⟨b, off + q, none⟩) (World.block_lt_of_cell? _ _ hrc)).trans hrc
      have hrcell' := (hB.cell (p := ⟨br, offr + xn, none⟩) (World.block_lt_of_cell? _ _ hrcell)).trans hrcell
      rw [hrl] at hrc'
      have hin1 : (q : Int) < m.length := by omega
      have hin2 : (xn : Int) < letters m := by omega
      clear hcr hcell hrc hrcell hqe hl hr hur
      generalize nx m q (xn : Int) = y at *
      have Hn := hid hn.2
      clear hn hrl
      go_wp2_with fail
      go_quiet (fail)
      go_wp2
      go_roundw
      case rel => exact ⟨k + 1, by omega, by go_num, by rw [Hs.out], bdr hB _, hbox⟩
      case measure => simp [intOf]; omega
    · go_wp2
      go_ret
      exact ⟨ret_int (by rw [List.take_of_length_le (by omega)]), hB⟩
end Go.Proofs.YtphpablchlpagaaDoor
namespace Go.Proofs.YtphpablchlpagaaDoor
open Go.RowKit Go.Shelf
theorem rValid_bool (v : Value) (m : List (List Int)) (b : Bool) (w : World) (h : Rows w v m) (hb : validM m = b) :
    Calls Tryd.prog 12 #[.agg #[v]] w fun e w' => e = .returned (.bool b) ∧ Below w.heap.size w w' := by
  subst hb; exact rValid_any v m w h
end Go.Proofs.YtphpablchlpagaaDoor
namespace Go.Proofs.YtphpablchlpagaaDoor
open Go.RowKit Go.Shelf
/-- Some letters lead there. -/
def reachP (m : List (List Int)) (s t : Nat) : Prop := ∃ u : List Int, u.all (inB 0 ((letters m : Int) - 1)) = true ∧ runM m s u = t
theorem reachP.refl (m : List (List Int)) (s : Nat) : reachP m s s := ⟨[], rfl, rfl⟩
theorem reachP.step {m : List (List Int)} {s t : Nat} {x : Nat} (hx : x < letters m) (h : reachP m (nx m s x) t) : reachP m s t := by
  obtain ⟨u, hu, rfl⟩ := h
  refine ⟨(x : Int) :: u, ?_, rfl⟩
  rw [List.all_cons, hu, inB_true (by omega)]; rfl
theorem reachP.trans {m : List (List Int)} {s t r : Nat} (h : reachP m s t) (k : reachP m t r) : reachP m s r := by
  obtain ⟨u, hu, rfl⟩ := h
  obtain ⟨v, hv, rfl⟩ := k
  exact ⟨u ++ v, by rw [List.all_append, hu, hv]; rfl, by rw [runM, List.foldl_append]; rfl⟩
/-- What a search in depth has done. -/
structure DfsPost (m : List (List Int)) (S s S' : Nat) : Prop where
  lt : S' < 2 ^ m.length
  sub : ∀ t, S.testBit t = true → S'.testBit t = true
  here : S'.testBit s = true
  shut : ∀ t, S'.testBit t = true → S.testBit t = false → ∀ x, x < letters m → S'.testBit (nx m t x) = true
  from_ : ∀ t, S'.testBit t = true → S.testBit t = true ∨ reachP m s t
/-- The search goes on from the next state. -/
structure DfsInv (m : List (List Int)) (S s j Sj : Nat) : Prop where
  lt : Sj < 2 ^ m.length
  sub : ∀ t, S.testBit t = true → Sj.testBit t = true
  here : Sj.testBit s = true
  shut : ∀ t, Sj.testBit t = true → S.testBit t = false → t ≠ s → ∀ x, x < letters m → Sj.testBit (nx m t x) = true
  done : ∀ x, x < j → Sj.testBit (nx m s x) = true
  from_ : ∀ t, Sj.testBit t = true → S.testBit t = true ∨ reachP m s t
theorem DfsInv.start {m : List (List Int)} {S s : Nat} (hS : S < 2 ^ m.length) (hs : s < m.length) : DfsInv m S s 0 (S ||| 2 ^ s) := by
  refine ⟨with_lt S s _ hS hs, fun t ht => ?_, ?_, fun t ht h0 hne => ?_, fun x hx => by omega, fun t ht => ?_⟩
  · rw [testBit_with, ht]; rfl
  · rw [testBit_with]; simp
  · rw [testBit_with, h0] at ht; simp at ht; omega
  · rw [testBit_with, Bool.or_eq_true, decide_eq_true_eq] at ht
    rcases ht with h | rfl
    · exact .inl h
    · exact .inr (reachP.refl m _)
theorem DfsInv.next {m : List (List Int)} {S s j Sj S' : Nat} (h : DfsInv m S s j Sj) (hj : j < letters m) (k : DfsPost m Sj (nx m s j) S') : DfsInv m S s (j + 1) S' := by
  refine ⟨k.lt, fun t ht => k.sub t (h.sub t ht), k.sub s h.here, fun t ht h0 hne x hx => ?_, fun x hx => ?_, fun t ht => ?_⟩
  · cases hb : Sj.testBit t with
    | true => exact k.sub _ (h.shut t hb h0 hne x hx)
    | false => exact k.shut t ht hb x hx
  · by_cases e : x = j
    · subst e; exact k.here
    · exact k.sub _ (h.done x (by omega))
  · rcases k.from_ t ht with h1 | h1
    · exact h.from_ t h1
    · exact .inr (reachP.step hj h1)
theorem DfsInv.post {m : List (List Int)} {S s S' : Nat} (h : DfsInv m S s (letters m) S') : DfsPost m S s S' :=
  ⟨h.lt, h.sub, h.here, fun t ht h0 x hx => by
    by_cases e : t = s
    · subst e; exact h.done x hx
    · exact h.shut t ht h0 e x hx, h.from_⟩
end Go.Proofs.YtphpablchlpagaaDoor
namespace Go.Proofs.YtphpablchlpagaaDoor
open Go.RowKit Go.Shelf
theorem imgWord_append (m : List (List Int)) (S : Nat) (u v : List Int) : imgWord m S (u ++ v) = imgWord m (imgWord m S u) v := by simp [imgWord, List.foldl_append]
theorem foldl_or_testBit : ∀ (l : List Int) (T i : Nat), (l.foldl (fun S x => S ||| 2 ^ x.toNat) T).testBit i = (T.testBit i || l.any fun x => decide (x.toNat = i))
  | [], T, i => by simp
  | x :: l, T, i => by
    rw [List.foldl_cons, foldl_or_testBit l, testBit_with, List.any_cons, Bool.or_assoc]
theorem ofList_testBit (l : List Int) (i : Nat) : (ofList l).testBit i = l.any fun x => decide (x.toNat = i) := by
  rw [ofList, foldl_or_testBit]; simp
theorem testBit_big {S n i : Nat} (hS : S < 2 ^ n) (hi : n ≤ i) : S.testBit i = false := Nat.testBit_lt_two_pow (Nat.lt_of_lt_of_le hS (Nat.pow_le_pow_right (by decide) hi))
theorem ofList_elems {S : Nat} (hS : S < 2 ^ 64) : ofList (intsOf (elems S)) = S := by
  apply Nat.eq_of_testBit_eq
  intro i
  rw [ofList_testBit]
  by_cases hi : i < 64
  · cases hb : S.testBit i with
    | true =>
      rw [List.any_eq_true]
      exact ⟨(i : Int), List.mem_map.2 ⟨i, (mem_elems S i).2 ⟨hi, hb⟩, rfl⟩, by simp⟩
    | false =>
      rw [List.any_eq_false]
      intro x hx
      obtain ⟨y, hy, rfl⟩ := List.mem_map.1 hx
      have := (mem_elems S y).1 hy
      simp
      rintro rfl
      rw [hb] at this
      simp at this
  · rw [testBit_big hS (by omega), List.any_eq_false]
    intro x hx
    obtain ⟨y, hy, rfl⟩ := List.mem_map.1 hx
    have := (mem_elems S y).1 hy
    simp
    omega
theorem elems_sorted (S : Nat) : (elems S).Pairwise (· < ·) := List.Pairwise.filter _ List.pairwise_lt_range
theorem isSetM_of_sorted {m : List (List Int)} {l : List Int} (hs : l.Pairwise (· < ·)) (hb : ∀ x ∈ l, 0 ≤ x ∧ x < (m.length : Int)) : isSetM m l = true := by
  rw [isSetM, Bool.and_eq_true]
  constructor
  · rw [incr, List.all_eq_true]
    intro i hi
    have hi' : i < l.length - 1 := by simpa using hi
    have h := List.pairwise_iff_getElem.1 hs i (i + 1) (by omega) (by omega) (by omega)
    simp only [decide_eq_true_eq]
    simp only [List.getD_eq_getElem?_getD, List.getElem?_eq_getElem (show i < l.length by omega), List.getElem?_eq_getElem (show i + 1 < l.length by omega), Option.getD_some]
    exact h
  · rw [List.all_eq_true]
    intro x hx
    have := hb x hx
    exact inB_true (by omega)
theorem intsOf_sorted {l : List Nat} (h : l.Pairwise (· < ·)) : (intsOf l).Pairwise (· < ·) := by
  rw [intsOf, List.pairwise_map]
  exact h.imp (fun hab => by omega)
theorem isSetM_elems {m : List (List Int)} {S : Nat} (hS : S < 2 ^ m.length) : isSetM m (intsOf (elems S)) = true := by
  refine isSetM_of_sorted (intsOf_sorted (elems_sorted S)) (fun x hx => ?_)
  obtain ⟨y, hy, rfl⟩ := List.mem_map.1 hx
  have := elems_lt hS hy
  omega
/-- A sorted list is as long as the numbers that there are, at most. -/
theorem sorted_len {l : List Int} {n : Nat} (hs : l.Pairwise (· < ·)) (hb : ∀ x ∈ l, 0 ≤ x ∧ x < (n : Int)) : l.length ≤ n := by
  have key : ∀ i (hi : i < l.length), (i : Int) ≤ l[i] := by
    intro i
    induction i with
    | zero => intro hi; exact (hb _ (List.getElem_mem hi)).1
    | succ i ih =>
      intro hi
      have h1 := ih (by omega)
      have h2 := List.pairwise_iff_getElem.1 hs i (i + 1) (by omega) hi (by omega)
      omega
  by_cases h0 : l.length = 0
  · omega
  · have h1 := key (l.length - 1) (by omega)
    have h2 := (hb _ (List.getElem_mem (show l.length - 1 < l.length by omega))).2
    omega
theorem sorted_of_incr {l : List Int} (h : incr l (l.length - 1) = true) : l.Pairwise (· < ·) := by
  rw [incr, List.all_eq_true] at h
  have step : ∀ i (h1 : i + 1 < l.length), l[i] < l[i + 1] := by
    intro i h1
    have := h i (by simp; omega)
    simp only [decide_eq_true_eq] at this
    simpa only [List.getD_eq_getElem?_getD, List.getElem?_eq_getElem (show i < l.length by omega), List.getElem?_eq_getElem h1, Option.getD_some] using this
  rw [List.pairwise_iff_getElem]
  intro i j hi hj hij
  induction j with
  | zero => omega
  | succ j ih =>
    by_cases e : i = j
    · subst e; exact step i hj
    · exact Int.lt_trans (ih (by omega) (by omega)) (step j hj)
theorem isSetM_len {m : List (List Int)} {l : List Int} (h : isSetM m l = true) : l.length ≤ m.length := by
  have h' := h
  rw [isSetM, Bool.and_eq_true] at h'
  exact sorted_len (sorted_of_incr h'.1) (isSetM_mem h)
theorem all_cons_parts {m : List (List Int)} {x : Int} {u : List Int} (h : (x :: u).all (inB 0 ((letters m : Int) - 1)) = true) : (0 ≤ x ∧ x < letters m) ∧ u.all (inB 0 ((letters m : Int) - 1)) = true := by
  rw [List.all_cons, Bool.and_eq_true, inB_iff] at h
  exact ⟨⟨h.1.1, by omega⟩, h.2⟩
theorem preTo_testBit (m : List (List Int)) (S : Nat) (x : Int) (s : Nat) : ∀ k, (preTo m S x k).testBit s = (decide (s < k) && S.testBit (nx m s x))
  | 0 => by simp [preTo]
  | k + 1 => by
    rw [preTo]
    by_cases hb : S.testBit (nx m k x) = true
    · rw [if_pos hb, testBit_with, preTo_testBit m S x s k]
      by_cases e : k = s
      · subst e; simp [hb]
      · have e1 : decide (k = s) = false := by simp [e]
        have e2 : decide (s < k + 1) = decide (s < k) := by
          by_cases h : s < k
          · simp [h]; omega
          · have : ¬ s < k + 1 := by omega
            simp [h, this]
        rw [e1, e2, Bool.or_false]
    · rw [if_neg hb, preTo_testBit m S x s k]
      by_cases e : k = s
      · subst e; simp at hb; simp [hb]
      · have e2 : decide (s < k + 1) = decide (s < k) := by
          by_cases h : s < k
          · simp [h]; omega
          · have : ¬ s < k + 1 := by omega
            simp [h, this]
        rw [e2]
theorem preWord_testBit {m : List (List Int)} (hv : validM m = true) (S : Nat) : ∀ (u : List Int) (s : Nat), s < m.length → u.all (inB 0 ((letters m : Int) - 1)) = true → (preWord m S u).testBit s = S.testBit (runM m s u)
  | [], s, _, _ => rfl
  | x :: u, s, hs, hu => by
    obtain ⟨hx, hu'⟩ := all_cons_parts hu
    show (preSet m (preWord m S u) x).testBit s = S.testBit (runM m (nx m s x) u)
    rw [preSet, preTo_testBit, preWord_testBit hv S u _ (nx_ok hv hs hx.1 hx.2).1 hu']
    simp [hs]
theorem preimageM_set {m : List (List Int)} (hv : validM m = true) {s u : List Int} (hs : isSetM m s = true) : isSetM m (preimageM m s u) = true := by
  have hm : m.length ≤ 64 := by have := (valid_parts hv).2.1; omega
  exact isSetM_elems (preWord_lt hv (ofList_lt m.length hm s (isSetM_mem hs)) u)
end Go.Proofs.YtphpablchlpagaaDoor
namespace Go.Proofs.YtphpablchlpagaaDoor
open Go.RowKit Go.Shelf
theorem isSetM_long {m : List (List Int)} {l : List Int} (h : m.length < l.length) : isSetM m l = false := by
  cases hb : isSetM m l with
  | false => rfl
  | true => have := isSetM_len hb; omega
set_option maxHeartbeats 1000000 in
theorem rSet_any (v u : Value) (m : List (List Int)) (l : List Int) (w : World) (h : Rows w v m) (hu : Ints w u l) :
    Calls Tryd.prog 18 #[.agg #[v], u] w fun e w' => e = .returned (.bool (isSetM m l)) ∧ Below w.heap.size w w' := by
  have hu1 := hu.alloc (.cells #[v] 24)
  obtain ⟨A, cap, rfl, hml, hc⟩ := h
  obtain ⟨Au, capu, rfl, hlu, hcu⟩ := hu
  unfold big at hml hlu
  have Hcu := hid hcu
  clear hc hcu
  by_cases hlen : m.length < l.length
  · have d1 : decide (m.length < l.length) = true := by simp; omega
    have Hl := hid hlen
    clear hlen
    go_enter Tryd.func18, Tryd.ntmps18
    go_wp2
    go_ret
    exact ⟨ret_bool (isSetM_long Hl.out).symm, bal (Below.refl _ _) _⟩
  have d1 : decide (m.length < l.length) = false := by simp; omega
  by_cases hb : l.all (inB 0 ((m.length : Int) - 1)) = true
  · have Hb := hid hb
    go_enter Tryd.func18, Tryd.ntmps18
    go_wp2_with fail
    refine (rBelow_bool _ l _ true _ hu1 (by omega) hb).mono ?_
    rintro e w1 ⟨rfl, rfl⟩
    clear hb hu1
    go_wp2
    go_loopw [5] (fun i wr => ∃ k : Nat, (k = 0 ∨ k + 1 ≤ l.length) ∧ i = .int .i64 ((k : Int) + 1) ∧ incr l k = true ∧ Below w.heap.size w wr) (fun i _ => l.length - (intOf i).toNat)
    case atStart => exact ⟨0, .inl rfl, rfl, rfl, bal (Below.refl _ _) _⟩
    case round =>
      obtain ⟨k, hk, rfl, hinc, hB⟩ := hrel
      by_cases hlt : k + 1 < l.length
      · obtain ⟨bu, offu, hAu, hcell⟩ := Hcu.out k (by omega)
        obtain ⟨bu', offu', hAu', hcell'⟩ := Hcu.out (k + 1) hlt
        subst hAu
        cases hAu'
        have c1 := (hB.cell (p := ⟨bu, offu + k, none⟩) (World.block_lt_of_cell? _ _ hcell)).trans hcell
        have c2 := (hB.cell (p := ⟨bu, offu + (k + 1), none⟩) (World.block_lt_of_cell? _ _ hcell')).trans hcell'
        have Hs := hid (incr_succ l k)
        have Hf := hid (incr_false l (k := k) (n := l.length - 1) (by omega))
        have Hi := hid hinc
        clear hcell hcell' hinc
        generalize l.getD k 0 = x at *
        generalize l.getD (k + 1) 0 = y at *
        have i1 : (k : Int) + 1 < l.length := by omega
        have i2 : (k : Int) < l.length := by omega
        have i3 : IntKind.i64.wrap ((k : Int) + 1 - 1) = (k : Int) := by rw [IntKind.wrap_i64]; omega
        have i4 : ((k : Int) + 1).toNat = k + 1 := by omega
        by_cases hxy : x < y
        · have hd : decide (y ≤ x) = false := by simp; omega
          go_wp2_with fail
          go_quiet (fail)
          go_wp2
          go_roundw
          case rel => exact ⟨k + 1, .inr (by omega), by simp, by rw [Hs.out, Hi.out]; simp [hxy], bdr hB _⟩
          case measure => simp [intOf]; omega
        · have hd : decide (y ≤ x) = true := by simp; omega
          go_wp2_with fail
          go_quiet (fail)
          go_wp2
          go_ret
          exact ⟨ret_bool (by rw [isSetM, Hf.out hxy]; rfl), bdr hB _⟩
      · have hil : ¬ ((k : Int) + 1 < l.length) := by omega
        go_wp2
        go_ret
        refine ⟨ret_bool ?_, hB⟩
        have : l.length - 1 = k := by omega
        rw [isSetM, this, hinc, Hb.out]
        rfl
  · have hb' : l.all (inB 0 ((m.length : Int) - 1)) = false := by simpa using hb
    clear hb
    go_enter Tryd.func18, Tryd.ntmps18
    go_wp2_with fail
    refine (rBelow_bool _ l _ false _ hu1 (by omega) hb').mono ?_
    rintro e w1 ⟨rfl, rfl⟩
    go_wp2
    go_ret
    exact ⟨ret_bool (by rw [isSetM, hb', Bool.and_false]), bal (Below.refl _ _) _⟩
theorem rSet_bool (v u : Value) (m : List (List Int)) (l : List Int) (b : Bool) (w : World) (h : Rows w v m) (hu : Ints w u l) (hb : isSetM m l = b) :
    Calls Tryd.prog 18 #[.agg #[v], u] w fun e w' => e = .returned (.bool b) ∧ Below w.heap.size w w' := by
  subst hb; exact rSet_any v u m l w h hu
end Go.Proofs.YtphpablchlpagaaDoor
namespace Go.Proofs.YtphpablchlpagaaDoor
open Go.RowKit Go.Shelf
/-- Where a word leads from each of the first states. -/
def endsTo (m : List (List Int)) (u : List Int) (k : Nat) : List Int := (List.range k).map fun s => ((runM m s u : Nat) : Int)
theorem endsTo_succ (m : List (List Int)) (u : List Int) (k : Nat) : (endsTo m u (k + 1)).map (fun x => Value.int .i64 x) = (endsTo m u k).map (fun x => Value.int .i64 x) ++ [.int .i64 (runM m k u : Nat)] := by
  simp [endsTo, List.range_succ]
theorem endsTo_length (m : List (List Int)) (u : List Int) (k : Nat) : (endsTo m u k).length = k := by simp [endsTo]
theorem endsTo_get (m : List (List Int)) (u : List Int) (k s : Nat) (h : s < k) : (endsTo m u k).getD s 0 = ((runM m s u : Nat) : Int) := by simp [endsTo, List.getD_eq_getElem?_getD, h]
set_option maxRecDepth 100000 in
set_option maxHeartbeats 2000000 in
theorem rEnds_any (v u : Value) (m : List (List Int)) (l : List Int) (w : World) (h : Rows w v m) (hu : Ints w u l) (hv : validM m = true) (hw : isWordM m l = true) :
    Calls Tryd.prog 66 #[.agg #[v], u] w fun e w' => ∃ r, e = .returned r ∧ Ints w' r (endsTo m l m.length) ∧ Below w.heap.size w w' := by
  obtain ⟨j0, hj, hy0, hy1, hy2⟩ := info_parts infoInt
  have hn : m.length ≤ 60 := (valid_parts hv).2.1
  have hb0 := bal (Below.refl _ w) (.cells #[v] 24)
  obtain ⟨A, cap, rfl, _⟩ := id h
  obtain ⟨Au, capu, rfl, _⟩ := id hu
  have hbx : (w.alloc (.cells #[.slice A m.length cap] 24)).cell? ⟨w.heap.size, 0, none⟩ = some (.slice A m.length cap) := by simp
  have hs0 : (w.alloc (.cells #[.slice A m.length cap] 24)).heap.size = w.heap.size + 1 := by simp
  go_enter Tryd.func66, Tryd.ntmps66
  go_wp2
  generalize hX : w.alloc (.cells #[.slice A m.length cap] 24) = X at *
  clear hX
  go_loopw [5, 6] (fun r i wr => ∃ k : Nat, k ≤ m.length ∧ i = .int .i64 k ∧ Below (w.heap.size + 1) X wr ∧ wr.ownsRow (w.heap.size + 1) 3 1 r k ((endsTo m l k).map fun x => .int .i64 x)) (fun _ i _ => m.length - (intOf i).toNat)
  case atStart => exact ⟨0, Nat.zero_le _, rfl, Below.refl _ _, ⟨rfl, .inl ⟨rfl, rfl⟩⟩⟩
  case round =>
    obtain ⟨k, hk, rfl, hB, ho⟩ := hrel
    have hbr : wr.cell? ⟨w.heap.size, 0, none⟩ = some (.slice A m.length cap) := (hB.cell (p := ⟨w.heap.size, 0, none⟩) (Nat.lt_succ_self _)).trans hbx
    have hsz : w.heap.size + 1 ≤ wr.heap.size := by have := hB.size; omega
    have hBw : Below w.heap.size w wr := hb0.trans (hB.mono (Nat.le_succ _))
    by_cases hlt : k < m.length
    · have hkm : (k : Int) < m.length := by omega
      go_wp2_with fail
      refine (rRun_any _ _ m k l _ (h.below hBw) (hu.below hBw) hv hlt hw).mono ?_
      rintro e w2 ⟨rfl, hb2⟩
      have hs2 := hb2.size
      have hB2 := hB.trans (hb2.mono hsz)
      have ho2 := owns_kept ho (fun q _ hq => hb2.block q hq)
      have Hs := hid (endsTo_succ m l k)
      generalize runM m k l = y at *
      go_wp2_with (at_builtin; refine wpList_append_own_at _ rfl _ _ 34 rfl (w.heap.size + 1) 3 j0 (.int .i64 0) 1 8 Tryd.underlying34 hj hy0 hy1 hy2 rfl (by decide) _ _ _ rfl (ho2.alloc _) ⟨w2.heap.size, 0, none⟩ 1 1 [.int .i64 (y : Int)] rfl rfl (cell_one_new _ _ _) (by simp [Value.oneCell']) (by unfold maxLen; omega) (by omega) (by simp; omega) ?_; intro v' w5 hown' hgrow' _ hat)
      go_roundw
      case rel =>
        refine ⟨k + 1, by omega, by go_num, ?_, by rw [Hs.out]; exact hown'⟩
        refine (hB2.alloc (by omega) _).grown hgrow' (by simp; omega) (fun q hq => ?_)
        rcases ho2.2 with ⟨hr, _⟩ | ⟨g, c, cur, hr, hg, _⟩
        · rw [hr] at hq; cases hq
        · rw [hr] at hq; cases hq; exact hg
      case measure => simp [intOf]; omega
    · obtain rfl : k = m.length := by omega
      go_wp2
      go_ret
      exact ⟨_, rfl, Ints.of_own (n₀ := w.heap.size + 1) (e := 3) (by rw [endsTo_length]; exact ho) (by rw [endsTo_length]; unfold big; omega), hBw⟩
theorem elems_range {S n : Nat} (hS : S < 2 ^ n) (hn : n ≤ 64) : elems S = (List.range n).filter S.testBit := by
  have e : List.range 64 = List.range n ++ List.range' n (64 - n) := by
    rw [List.range_eq_range', List.range_eq_range', show (64 : Nat) = n + (64 - n) by omega, ← List.range'_append_1]
    simp
  rw [elems, e, List.filter_append]
  have : (List.range' n (64 - n)).filter S.testBit = [] := by
    rw [List.filter_eq_nil_iff]
    intro x hx
    have := (List.mem_range'_1.1 hx).1
    rw [testBit_big hS this]
    simp
  rw [this, List.append_nil]
/-- The states that are in a list, out of the first ones. -/
def pick (p : Nat → Bool) (k : Nat) : List Int := ((List.range k).filter p).map fun t : Nat => (t : Int)
theorem pick_succ (p : Nat → Bool) (k : Nat) : (pick p (k + 1)).map (fun x => Value.int .i64 x) = (pick p k).map (fun x => Value.int .i64 x) ++ (if p k then [.int .i64 (k : Int)] else []) := by
  unfold pick
  rw [List.range_succ, List.filter_append]
  by_cases h : p k = true <;> simp [h]
theorem pick_length (p : Nat → Bool) (k : Nat) : (pick p k).length ≤ k := by
  unfold pick
  have := List.length_filter_le p (List.range k)
  simpa using this
theorem preimage_pick {m : List (List Int)} (hv : validM m = true) {s u : List Int} (hs : isSetM m s = true) (hu : isWordM m u = true) : pick (fun t => hasB s ((runM m t u : Nat) : Int)) m.length = preimageM m s u := by
  have hm : m.length ≤ 64 := by have := (valid_parts hv).2.1; omega
  have hS : ofList s < 2 ^ m.length := ofList_lt m.length hm s (isSetM_mem hs)
  simp only [isWordM, Bool.and_eq_true] at hu
  rw [preimageM, elems_range (preWord_lt hv hS u) hm, pick, intsOf]
  congr 1
  apply List.filter_congr
  intro t ht
  rw [preWord_testBit hv _ u t (List.mem_range.1 ht) hu.2, ofList_testBit, hasB, Bool.eq_iff_iff, List.any_eq_true, List.any_eq_true]
  constructor
  · rintro ⟨x, hx, e⟩
    exact ⟨x, hx, by have := beq_iff_eq.1 e; simp [this]⟩
  · rintro ⟨x, hx, e⟩
    have h0 := (isSetM_mem hs x hx).1
    have := of_decide_eq_true e
    exact ⟨x, hx, by rw [beq_iff_eq]; omega⟩
end Go.Proofs.YtphpablchlpagaaDoor
namespace Go.Proofs.YtphpablchlpagaaDoor
open Go.RowKit Go.Shelf
theorem hasB_bool (v : Value) (l : List Int) (n : Int) (b : Bool) (w : World) (h : Ints w v l) (hb : hasB l n = b) :
    Calls Tryd.prog 38 #[v, .int .i64 n] w fun e w' => e = .returned (.bool b) ∧ w = w' := by
  subst hb; exact rHas_any v l n w h
theorem appended_below {B : Nat} {X w2 w5 : World} {r : Value} {k : Nat} {xs : List Value} {e : TypeId} {s : Nat} {o : Obj} (hB : Below B X w2) (ho : w2.ownsRow B e s r k xs) (hb : B ≤ w2.heap.size) (hg : (w2.alloc o).grownBy w5 r.ownBlock) : Below B X w5 := by
  refine (hB.alloc hb o).grown hg (by simp; omega) (fun q hq => ?_)
  rcases ho.2 with ⟨hr, _⟩ | ⟨g, c, cur, hr, hg, _⟩
  · rw [hr] at hq; cases hq
  · rw [hr] at hq; cases hq; exact hg
end Go.Proofs.YtphpablchlpagaaDoor
namespace Go.Proofs.YtphpablchlpagaaDoor
open Go.RowKit Go.Shelf
open Classical in
/-- The states to which letters lead, as a set. -/
noncomputable def reachM (m : List (List Int)) (s : Nat) : Nat := ofList (((List.range m.length).filter fun t => decide (reachP m s t)).map fun t : Nat => (t : Int))
/-- Strongly connected. -/
noncomputable def connM (m : List (List Int)) : Bool := (List.range m.length).all fun s => decide (reachM m s = 2 ^ m.length - 1)
end Go.Proofs.YtphpablchlpagaaDoor
namespace Go.Proofs.YtphpablchlpagaaDoor
open Go.RowKit Go.Shelf
theorem owns_block {B g n c k : Nat} {e : TypeId} {s : Nat} {xs : List Value} {w w' : World} (h : w.ownsRow B e s (.slice (some ⟨g, 0, none⟩) n c) k xs) (hg : w'.heap[g]? = w.heap[g]?) : w'.ownsRow B e s (.slice (some ⟨g, 0, none⟩) n c) k xs := by
  obtain ⟨h1, h2⟩ := h
  refine ⟨h1, ?_⟩
  rcases h2 with ⟨h', _⟩ | ⟨g', cap', cur, h', hB, hh, r⟩
  · simp at h'
  · simp only [Value.slice.injEq, Option.some.injEq, Addr.mk.injEq, and_true, true_and] at h'
    obtain ⟨rfl, rfl, rfl⟩ := h'
    exact .inr ⟨g, c, cur, rfl, hB, by rw [hg]; exact hh, r⟩
end Go.Proofs.YtphpablchlpagaaDoor
namespace Go.Proofs.YtphpablchlpagaaDoor
open Go.RowKit Go.Shelf
/-- A step: the place, the step that it was reached from, the letter. -/
abbrev Steps := List (Int × Int × Int)
def plB (B : Steps) (i : Nat) : Int := (B.getD i (0, 0, 0)).1
def frB (B : Steps) (i : Nat) : Int := (B.getD i (0, 0, 0)).2.1
def leB (B : Steps) (i : Nat) : Int := (B.getD i (0, 0, 0)).2.2
/-- Each step but the first one comes from an earlier one. -/
def TreeB (B : Steps) : Prop := 0 < B.length ∧ frB B 0 = -1 ∧ ∀ i, 0 < i → i < B.length → 0 ≤ frB B i ∧ frB B i < i
def wordF (B : Steps) : Nat → Nat → List Int
  | 0, _ => []
  | f + 1, i => if frB B i < 0 then [] else wordF B f (frB B i).toNat ++ [leB B i]
def wordB (B : Steps) (i : Nat) : List Int := wordF B (i + 1) i
end Go.Proofs.YtphpablchlpagaaDoor
namespace Go.Proofs.YtphpablchlpagaaDoor
open Go.RowKit Go.Shelf Go.Maps Go.WideAt
theorem zeroB (w : World) : (zeroValue 4).run Tryd.prog w = .ok (.bool false) w := by kernel_rfl
theorem plainB (x : Bool) : (plainElem Tryd.prog 4 (.bool x) : Option (DataW Unit × List MemPlace)) = some (.lit (.bool x), []) := by
  unfold plainElem; rw [Tryd.underlying4]
theorem plainB_inv {v : Value} {x : DataW Unit} {ps : List MemPlace} (h : plainElem Tryd.prog 4 v = some (x, ps)) : ∃ b, v = .bool b ∧ x = .lit (.bool b) := by
  have e := Tryd.underlying4
  generalize Tryd.prog = P at *
  unfold plainElem at h
  cases v with
  | bool b =>
    simp only [e, Option.some.injEq, Prod.mk.injEq] at h
    exact ⟨b, rfl, h.1.symm⟩
  | _ => simp [e] at h
/-- A map from numbers to bools that reads as a set. -/
def SeenMap (w : World) (bm n : Nat) (S : Nat → Bool) : Prop :=
  ∃ D : DataW Unit, w.ownsMap Tryd.prog 3 (plainElem Tryd.prog 4) bm n D ∧ IsMap D ∧ ∀ p : Nat, D.atKey (.int .i64 p) (.lit (.bool false)) = .lit (.bool (S p))
theorem SeenMap.made (w : World) : SeenMap (w.alloc (.map #[] 0)) w.heap.size 0 (fun _ => false) :=
  ⟨.map [], World.ownsMap_made w _ _ _, ⟨[], rfl⟩, fun p => rfl⟩
theorem SeenMap.kept {w w' : World} {bm n : Nat} {S : Nat → Bool} (h : SeenMap w bm n S) (hk : w'.heap[bm]? = w.heap[bm]?) : SeenMap w' bm n S := by
  obtain ⟨D, ⟨es, clock, hb, F, hs, hD⟩, hM, hS⟩ := h
  exact ⟨D, ⟨es, clock, hk.trans hb, F, hs, hD⟩, hM, hS⟩
theorem SeenMap.lt {w : World} {bm n : Nat} {S : Nat → Bool} (h : SeenMap w bm n S) : bm < w.heap.size := by
  obtain ⟨D, hD, _⟩ := h; exact hD.lt
end Go.Proofs.YtphpablchlpagaaDoor
namespace Go.Proofs.YtphpablchlpagaaDoor
open Go.RowKit Go.Shelf
def hasP (B : Steps) (p : Nat) : Bool := B.any fun t => t.1 == (p : Int)
/-- One letter from the place of a step. -/
def addB (ld : Nat → Nat → Nat) (B : Steps) (p i x : Nat) : Steps := if hasP B (ld p x) then B else B ++ [(((ld p x : Nat) : Int), (i : Int), (x : Int))]
def rowB (ld : Nat → Nat → Nat) (B : Steps) (p i : Nat) : Nat → Steps
  | 0 => B
  | x + 1 => addB ld (rowB ld B p i x) p i x
def bfsTo (ld : Nat → Nat → Nat) (K s : Nat) : Nat → Steps
  | 0 => [((s : Int), -1, 0)]
  | i + 1 => if i < (bfsTo ld K s i).length then rowB ld (bfsTo ld K s i) (plB (bfsTo ld K s i) i).toNat i K else bfsTo ld K s i
theorem hasP_snoc (B : Steps) (t : Int × Int × Int) (p : Nat) : hasP (B ++ [t]) p = (hasP B p || t.1 == (p : Int)) := by simp [hasP]
theorem getD_pre {B C : Steps} (h : B <+: C) (i : Nat) (hi : i < B.length) : C.getD i (0, 0, 0) = B.getD i (0, 0, 0) := by
  obtain ⟨t, rfl⟩ := h
  simp only [List.getD_eq_getElem?_getD, List.getElem?_append_left hi]
theorem addB_pre (ld : Nat → Nat → Nat) (B : Steps) (p i x : Nat) : B <+: addB ld B p i x := by
  unfold addB; split
  · exact List.prefix_refl _
  · exact List.prefix_append _ _
theorem rowB_pre (ld : Nat → Nat → Nat) (B : Steps) (p i : Nat) : ∀ x, B <+: rowB ld B p i x
  | 0 => List.prefix_refl _
  | x + 1 => (rowB_pre ld B p i x).trans (addB_pre _ _ _ _ _)
/-- What holds of steps: a tree; each place once, and below n. -/
structure GoodB (n : Nat) (B : Steps) : Prop where
  tree : TreeB B
  below : ∀ i, i < B.length → ∃ p : Nat, plB B i = p ∧ p < n
  nodup : (B.map (·.1)).Nodup
  let_ : ∀ i, i < B.length → ∃ x : Nat, leB B i = x ∧ x < 1000
theorem pre_pl {B C : Steps} (h : B <+: C) (i : Nat) (hi : i < B.length) : plB C i = plB B i ∧ frB C i = frB B i ∧ leB C i = leB B i := by
  unfold plB frB leB; rw [getD_pre h i hi]; exact ⟨rfl, rfl, rfl⟩
theorem snoc_pl (B : Steps) (p : Nat) (i x : Int) : plB (B ++ [((p : Int), i, x)]) B.length = p ∧ frB (B ++ [((p : Int), i, x)]) B.length = i ∧ leB (B ++ [((p : Int), i, x)]) B.length = x := by
  unfold plB frB leB; simp [List.getD_eq_getElem?_getD]
theorem GoodB.start {n s : Nat} (hs : s < n) : GoodB n [((s : Int), -1, 0)] := by
  refine ⟨⟨by simp, rfl, fun i h0 hi => by simp at hi; omega⟩, fun i hi => ?_, by simp, fun i hi => ?_⟩
  · obtain rfl : i = 0 := by simpa using hi
    exact ⟨s, rfl, hs⟩
  · obtain rfl : i = 0 := by simpa using hi
    exact ⟨0, rfl, by omega⟩
theorem GoodB.add {n : Nat} {B : Steps} (h : GoodB n B) {ld : Nat → Nat → Nat} {p i x : Nat} (hi : i < B.length) (hx : x < 1000) (hq : ld p x < n) : GoodB n (addB ld B p i x) := by
  unfold addB
  split
  · exact h
  · rename_i hn
    obtain ⟨s1, s2, s3⟩ := snoc_pl B (ld p x) (i : Int) (x : Int)
    have hp : B <+: B ++ [(((ld p x : Nat) : Int), (i : Int), (x : Int))] := List.prefix_append _ _
    obtain ⟨t1, t2, t3⟩ := h.tree
    refine ⟨⟨by simp, by rw [(pre_pl hp 0 t1).2.1]; exact t2, fun j h0 hj => ?_⟩, fun j hj => ?_, ?_, fun j hj => ?_⟩
    · by_cases e : j < B.length
      · rw [(pre_pl hp j e).2.1]; exact t3 j h0 e
      · obtain rfl : j = B.length := by simp at hj; omega
        rw [s2]; omega
    · by_cases e : j < B.length
      · rw [(pre_pl hp j e).1]; exact h.below j e
      · obtain rfl : j = B.length := by simp at hj; omega
        exact ⟨_, s1, hq⟩
    · rw [List.map_append, List.nodup_append]
      refine ⟨h.nodup, by simp, fun a ha b hb => ?_⟩
      simp only [List.map_cons, List.map_nil, List.mem_cons, List.mem_nil_iff, or_false] at hb
      subst hb
      intro e
      subst e
      obtain ⟨t, ht, he⟩ := List.mem_map.1 ha
      refine hn ?_
      rw [hasP, List.any_eq_true]
      exact ⟨t, ht, by rw [he]; simp⟩
    · by_cases e : j < B.length
      · rw [(pre_pl hp j e).2.2]; exact h.let_ j e
      · obtain rfl : j = B.length := by simp at hj; omega
        exact ⟨x, s3, hx⟩
theorem GoodB.row {n : Nat} {B : Steps} (h : GoodB n B) {ld : Nat → Nat → Nat} {p i : Nat} (hi : i < B.length) : ∀ K, K ≤ 1000 → (∀ x, x < K → ld p x < n) → GoodB n (rowB ld B p i K)
  | 0, _, _ => h
  | K + 1, hK, hq => (h.row hi K (by omega) (fun x hx => hq x (by omega))).add (Nat.lt_of_lt_of_le hi (rowB_pre ld B p i K).length_le) (by omega) (hq K (by omega))
theorem nodup_len : ∀ (n : Nat) (l : List Int), l.Nodup → (∀ x ∈ l, 0 ≤ x ∧ x < (n : Int)) → l.length ≤ n
  | 0, l, _, hb => by
    cases l with
    | nil => simp
    | cons a l => have := hb a (by simp); omega
  | n + 1, l, hn, hb => by
    by_cases hm : (n : Int) ∈ l
    · have h1 := nodup_len n (l.erase n) (hn.erase _) (fun x hx => by
        have h2 := hb x (List.mem_of_mem_erase hx)
        have h3 : x ≠ n := fun e => by subst e; exact (List.Nodup.not_mem_erase hn) hx
        omega)
      rw [List.length_erase_of_mem hm] at h1
      omega
    · have := nodup_len n l hn (fun x hx => by
        have h2 := hb x hx
        have h3 : x ≠ n := fun e => by subst e; exact hm hx
        omega)
      omega
theorem GoodB.len {n : Nat} {B : Steps} (h : GoodB n B) : B.length ≤ n := by
  have := nodup_len n (B.map (·.1)) h.nodup (fun x hx => by
    obtain ⟨t, ht, rfl⟩ := List.mem_map.1 hx
    obtain ⟨i, hi, rfl⟩ := List.mem_iff_getElem.1 ht
    obtain ⟨p, hp, hpn⟩ := h.below i hi
    unfold plB at hp
    rw [List.getD_eq_getElem?_getD, List.getElem?_eq_getElem hi, Option.getD_some] at hp
    omega)
  simpa using this
end Go.Proofs.YtphpablchlpagaaDoor
namespace Go.Proofs.YtphpablchlpagaaDoor
open Go.RowKit Go.Shelf
/-- The steps come in the order of those that they come from, up to a bound. -/
def RiseB (B : Steps) (b : Int) : Prop := (∀ k, k < B.length → frB B k ≤ b) ∧ ∀ j k, j ≤ k → k < B.length → frB B j ≤ frB B k
theorem RiseB.mono {B : Steps} {b c : Int} (h : RiseB B b) (hbc : b ≤ c) : RiseB B c := ⟨fun k hk => by have := h.1 k hk; omega, h.2⟩
theorem RiseB.add {B : Steps} {i : Nat} (h : RiseB B i) (ld : Nat → Nat → Nat) (p x : Nat) : RiseB (addB ld B p i x) i := by
  unfold addB
  split
  · exact h
  · obtain ⟨s1, s2, s3⟩ := snoc_pl B (ld p x) (i : Int) (x : Int)
    have hp : B <+: B ++ [(((ld p x : Nat) : Int), (i : Int), (x : Int))] := List.prefix_append _ _
    have key : ∀ k, k < (B ++ [(((ld p x : Nat) : Int), (i : Int), (x : Int))]).length → (k < B.length ∧ frB (B ++ [(((ld p x : Nat) : Int), (i : Int), (x : Int))]) k = frB B k) ∨ (k = B.length ∧ frB (B ++ [(((ld p x : Nat) : Int), (i : Int), (x : Int))]) k = i) := fun k hk => by
      by_cases e : k < B.length
      · exact .inl ⟨e, (pre_pl hp k e).2.1⟩
      · have e2 : k = B.length := by rw [List.length_append] at hk; simp at hk; omega
        subst e2
        exact .inr ⟨rfl, s2⟩
    refine ⟨fun k hk => ?_, fun j k hjk hk => ?_⟩
    · rcases key k hk with ⟨h1, h2⟩ | ⟨_, h2⟩ <;> rw [h2]
      · exact h.1 k h1
      · exact Int.le_refl _
    · rcases key k hk with ⟨h1, h2⟩ | ⟨h1, h2⟩
      · rcases key j (by omega) with ⟨h3, h4⟩ | ⟨h3, h4⟩
        · rw [h2, h4]; exact h.2 j k hjk h1
        · omega
      · rcases key j (by omega) with ⟨h3, h4⟩ | ⟨h3, h4⟩
        · rw [h2, h4]; exact h.1 j h3
        · rw [h2, h4]; exact Int.le_refl _
theorem RiseB.row {B : Steps} {i : Nat} (h : RiseB B i) (ld : Nat → Nat → Nat) (p : Nat) : ∀ K, RiseB (rowB ld B p i K) i
  | 0 => h
  | K + 1 => (h.row ld p K).add ld p K
end Go.Proofs.YtphpablchlpagaaDoor
namespace Go.Proofs.YtphpablchlpagaaDoor
open Go.RowKit Go.Shelf
/-- Each step's letter leads from the place that it comes from. -/
def EdgeB (ld : Nat → Nat → Nat) (B : Steps) : Prop := ∀ k, 0 < k → k < B.length → plB B k = ((ld (plB B (frB B k).toNat).toNat (leB B k).toNat : Nat) : Int)
theorem EdgeB.add {ld : Nat → Nat → Nat} {B : Steps} (hT : TreeB B) (h : EdgeB ld B) {p i x : Nat} (hi : i < B.length) (hp : plB B i = (p : Int)) : EdgeB ld (addB ld B p i x) := by
  unfold addB
  split
  · exact h
  · obtain ⟨s1, s2, s3⟩ := snoc_pl B (ld p x) (i : Int) (x : Int)
    have hpre : B <+: B ++ [(((ld p x : Nat) : Int), (i : Int), (x : Int))] := List.prefix_append _ _
    intro k h0 hk
    by_cases e : k < B.length
    · obtain ⟨t1, t2⟩ := hT.2.2 k h0 e
      rw [(pre_pl hpre k e).1, (pre_pl hpre k e).2.1, (pre_pl hpre k e).2.2, (pre_pl hpre (frB B k).toNat (by omega)).1]
      exact h k h0 e
    · have e2 : k = B.length := by rw [List.length_append] at hk; simp at hk; omega
      subst e2
      rw [s1, s2, s3, Int.toNat_natCast, Int.toNat_natCast, (pre_pl hpre i hi).1, hp, Int.toNat_natCast]
theorem EdgeB.row {n : Nat} {ld : Nat → Nat → Nat} {B : Steps} (hG : GoodB n B) (h : EdgeB ld B) {p i : Nat} (hi : i < B.length) (hp : plB B i = (p : Int)) : ∀ K, K ≤ 1000 → (∀ x, x < K → ld p x < n) → EdgeB ld (rowB ld B p i K)
  | 0, _, _ => h
  | K + 1, hK, hq => by
    have hg := GoodB.row hG hi K (by omega) (fun x hx => hq x (by omega))
    exact (EdgeB.row hG h hi hp K (by omega) (fun x hx => hq x (by omega))).add hg.tree (Nat.lt_of_lt_of_le hi (rowB_pre ld B p i K).length_le) ((pre_pl (rowB_pre ld B p i K) i hi).1.trans hp)
end Go.Proofs.YtphpablchlpagaaDoor
namespace Go.Proofs.YtphpablchlpagaaDoor
open Go.RowKit Go.Shelf
/-- The steps came in the order of (the step that they come from, the letter); all before a round and a letter. -/
def OrdB (B : Steps) (i x : Int) : Prop :=
  (∀ k, 0 < k → k < B.length → frB B k < i ∨ (frB B k = i ∧ leB B k < x)) ∧ ∀ j k, 0 < j → j < k → k < B.length → frB B j < frB B k ∨ (frB B j = frB B k ∧ leB B j < leB B k)
theorem OrdB.add {B : Steps} {i x : Nat} (h : OrdB B i x) (ld : Nat → Nat → Nat) (p : Nat) : OrdB (addB ld B p i x) i ((x : Int) + 1) := by
  unfold addB
  split
  · refine ⟨fun k h0 hk => ?_, h.2⟩
    rcases h.1 k h0 hk with h1 | ⟨h1, h2⟩
    · exact .inl h1
    · exact .inr ⟨h1, by omega⟩
  · obtain ⟨s1, s2, s3⟩ := snoc_pl B (ld p x) (i : Int) (x : Int)
    have hp : B <+: B ++ [(((ld p x : Nat) : Int), (i : Int), (x : Int))] := List.prefix_append _ _
    have key : ∀ k, k < (B ++ [(((ld p x : Nat) : Int), (i : Int), (x : Int))]).length → (k < B.length ∧ frB (B ++ [(((ld p x : Nat) : Int), (i : Int), (x : Int))]) k = frB B k ∧ leB (B ++ [(((ld p x : Nat) : Int), (i : Int), (x : Int))]) k = leB B k) ∨ (k = B.length ∧ frB (B ++ [(((ld p x : Nat) : Int), (i : Int), (x : Int))]) k = i ∧ leB (B ++ [(((ld p x : Nat) : Int), (i : Int), (x : Int))]) k = x) := fun k hk => by
      by_cases e : k < B.length
      · exact .inl ⟨e, (pre_pl hp k e).2.1, (pre_pl hp k e).2.2⟩
      · have e2 : k = B.length := by rw [List.length_append] at hk; simp at hk; omega
        subst e2
        exact .inr ⟨rfl, s2, s3⟩
    refine ⟨fun k h0 hk => ?_, fun j k h0 hjk hk => ?_⟩
    · rcases key k hk with ⟨h1, h2, h3⟩ | ⟨_, h2, h3⟩ <;> rw [h2, h3]
      · rcases h.1 k h0 h1 with h4 | ⟨h4, h5⟩
        · exact .inl h4
        · exact .inr ⟨h4, by omega⟩
      · exact .inr ⟨rfl, by omega⟩
    · rcases key k hk with ⟨h1, h2, h3⟩ | ⟨h1, h2, h3⟩
      · rcases key j (by omega) with ⟨h4, h5, h6⟩ | ⟨h4, h5, h6⟩
        · rw [h2, h3, h5, h6]; exact h.2 j k h0 hjk h1
        · omega
      · rcases key j (by omega) with ⟨h4, h5, h6⟩ | ⟨h4, h5, h6⟩
        · rw [h2, h3, h5, h6]; exact h.1 j h0 h4
        · omega
theorem OrdB.row {B : Steps} {i : Nat} (h : OrdB B i 0) (ld : Nat → Nat → Nat) (p : Nat) : ∀ K : Nat, OrdB (rowB ld B p i K) i K
  | 0 => h
  | K + 1 => by
    have := (OrdB.row h ld p K).add ld p
    rw [show ((K + 1 : Nat) : Int) = (K : Int) + 1 by omega]
    exact this
end Go.Proofs.YtphpablchlpagaaDoor
namespace Go.Proofs.YtphpablchlpagaaDoor
open Go.RowKit Go.Shelf
def lexLt : List Int → List Int → Prop
  | x :: a, y :: b => x < y ∨ (x = y ∧ lexLt a b)
  | _, _ => False
theorem lexLt.trans : ∀ {a b d : List Int}, lexLt a b → lexLt b d → lexLt a d
  | [], _, _, h, _ => h.elim
  | _ :: _, [], _, h, _ => h.elim
  | _ :: _, _ :: _, [], _, k => k.elim
  | x :: a, y :: b, z :: d, h, k => by
    rcases h with h | ⟨rfl, h⟩
    · rcases k with k | ⟨rfl, _⟩
      · exact .inl (by omega)
      · exact .inl h
    · rcases k with k | ⟨rfl, k⟩
      · exact .inl k
      · exact .inr ⟨rfl, lexLt.trans h k⟩
/-- Shorter, or of the same length and earlier in order. -/
def SL (a b : List Int) : Prop := a.length < b.length ∨ (a.length = b.length ∧ lexLt a b)
def SLe (a b : List Int) : Prop := a = b ∨ SL a b
theorem SL.trans {a b d : List Int} (h : SL a b) (k : SL b d) : SL a d := by
  rcases h with h | ⟨h, h'⟩ <;> rcases k with k | ⟨k, k'⟩
  · exact .inl (by omega)
  · exact .inl (by omega)
  · exact .inl (by omega)
  · exact .inr ⟨by omega, h'.trans k'⟩
theorem SL.le {a b d : List Int} (h : SL a b) (k : SLe b d) : SL a d := by
  rcases k with rfl | k
  · exact h
  · exact h.trans k
end Go.Proofs.YtphpablchlpagaaDoor
namespace Go.Proofs.YtphpablchlpagaaDoor
def szS (S : Nat) : Nat := (elems S).length
/-- A list of letters. -/
def WDm (m : List (List Int)) (u : List Int) : Prop := ∀ x ∈ u, 0 ≤ x ∧ x < (letters m : Int)
theorem WDm.cons {m : List (List Int)} {u : List Int} {x : Nat} (h : WDm m u) (hx : x < letters m) : WDm m ((x : Int) :: u) := fun y hy => by
  rcases List.mem_cons.1 hy with e | e
  · subst e; omega
  · exact h y e
abbrev Tr := Nat × List Int
def rowX (m : List (List Int)) (c x : Nat) : List Tr → List Nat → List Tr → Option (List Int) × List Nat × List Tr
  | [], seen, lg => (none, seen, lg)
  | (T, u) :: ts, seen, lg => if c < szS (preSet m T x) then (some ((x : Int) :: u), seen, lg) else
      if preSet m T x ∈ seen then rowX m c x ts seen lg else rowX m c x ts (preSet m T x :: seen) (lg ++ [(preSet m T x, (x : Int) :: u)])
/-- u is the first shortest word with a larger preimage. -/
def FirstBig (m : List (List Int)) (S : Nat) (u : List Int) : Prop :=
  WDm m u ∧ szS S < szS (preWord m S u) ∧ ∀ w, WDm m w → szS S < szS (preWord m S w) → SLe u w
/-- Where the search stands behind all words of at most L letters. -/
structure LevI (m : List (List Int)) (S L : Nat) (seen : List Nat) (tr : List Tr) : Prop where
  ok : ∀ t ∈ tr, WDm m t.2 ∧ t.2.length = L ∧ t.1 = preWord m S t.2
  rise : tr.Pairwise fun a b => lexLt a.2 b.2
  seen : ∀ T, T ∈ seen ↔ ∃ w, WDm m w ∧ w.length ≤ L ∧ preWord m S w = T
  all : ∀ w, WDm m w → w.length = L → (∃ v, WDm m v ∧ v.length < L ∧ preWord m S v = preWord m S w) ∨ ∃ t ∈ tr, t.1 = preWord m S w ∧ SLe t.2 w
  small : ∀ w, WDm m w → w.length ≤ L → ¬ szS S < szS (preWord m S w)
/-- .. and within a level: the letters below x are done, and of x those trails that are in pre. -/
structure MidI (m : List (List Int)) (S L : Nat) (tr : List Tr) (x : Nat) (pre : List Tr) (seen0 seen : List Nat) (lg : List Tr) : Prop where
  ok : ∀ t ∈ lg, WDm m t.2 ∧ t.2.length = L + 1 ∧ t.1 = preWord m S t.2
  rise : lg.Pairwise fun a b => lexLt a.2 b.2
  below : ∀ t ∈ lg, ∃ (y : Nat) (p : Tr), t.2 = (y : Int) :: p.2 ∧ (y < x ∧ p ∈ tr ∨ y = x ∧ p ∈ pre)
  seen : ∀ T, T ∈ seen ↔ T ∈ seen0 ∨ ∃ t ∈ lg, t.1 = T
  done : ∀ (y : Nat) (p : Tr), (y < x ∧ p ∈ tr ∨ y = x ∧ p ∈ pre) → ¬ szS S < szS (preSet m p.1 y) ∧ (preSet m p.1 y ∈ seen0 ∨ ∃ t ∈ lg, t.1 = preSet m p.1 y ∧ SLe t.2 ((y : Int) :: p.2))
theorem SLe.cons {a b : List Int} (h : SLe a b) (x : Int) : SLe (x :: a) (x :: b) := by
  rcases h with rfl | h | ⟨h, k⟩
  · exact .inl rfl
  · exact .inr (.inl (by simp; omega))
  · exact .inr (.inr ⟨by simp [h], .inr ⟨rfl, k⟩⟩)
theorem SLe.trans {a b c : List Int} (h : SLe a b) (k : SLe b c) : SLe a c := by
  rcases h with rfl | h
  · exact k
  · exact .inr (h.le k)
theorem preWord_cons (m : List (List Int)) (S : Nat) (x : Int) (u : List Int) : preWord m S (x :: u) = preSet m (preWord m S u) x := rfl
/-- One row of a level. -/
theorem rowX_spec {m : List (List Int)} {S L x : Nat} {tr : List Tr} {seen0 : List Nat} (hL : LevI m S L seen0 tr) (hx : x < letters m) : ∀ (ts pre : List Tr) (seen : List Nat) (lg : List Tr), pre ++ ts = tr → MidI m S L tr x pre seen0 seen lg →
    (∃ u s l, rowX m (szS S) x ts seen lg = (some u, s, l) ∧ FirstBig m S u) ∨ (∃ s l, rowX m (szS S) x ts seen lg = (none, s, l) ∧ MidI m S L tr x tr seen0 s l)
  | [], pre, seen, lg, hp, h => by
    rw [List.append_nil] at hp
    subst hp
    exact .inr ⟨seen, lg, rfl, h⟩
  | (T, u) :: ts, pre, seen, lg, hp, h => by
    have hmem : (T, u) ∈ tr := by rw [← hp]; simp
    obtain ⟨o1, o2, o3⟩ := hL.ok _ hmem
    simp only at o1 o2 o3
    have hpw : preWord m S ((x : Int) :: u) = preSet m T x := by rw [preWord_cons, ← o3]
    -- the trails before u come earlier
    have hrise := hL.rise
    rw [← hp, List.pairwise_append] at hrise
    obtain ⟨_, hr2, hr3⟩ := hrise
    unfold rowX
    by_cases hb : szS S < szS (preSet m T x)
    · left
      rw [if_pos hb]
      refine ⟨_, _, _, rfl, o1.cons hx, by rw [hpw]; exact hb, fun w hw hwb => ?_⟩
      rcases Nat.lt_trichotomy w.length (L + 1) with hl | hl | hl
      · exact absurd hwb (hL.small w hw (by omega))
      · cases w with
        | nil => simp at hl
        | cons yi v =>
          have hyi := hw yi (by simp)
          obtain ⟨y, rfl⟩ := Int.eq_ofNat_of_zero_le hyi.1
          have hvw : WDm m v := fun z hz => hw z (by simp [hz])
          have hvl : v.length = L := by simpa using hl
          rw [preWord_cons] at hwb
          rcases hL.all v hvw hvl with ⟨v', a1, a2, a3⟩ | ⟨t, a1, a2, a3⟩
          · exfalso
            have hyl : y < letters m := by omega
            refine hL.small ((y : Int) :: v') (a1.cons hyl) (by simp; omega) ?_
            rw [preWord_cons, a3]; exact hwb
          · have hnd : ¬ (y < x ∧ t ∈ tr ∨ y = x ∧ t ∈ pre) := fun hd => (h.done y t hd).1 (by rw [a2]; exact hwb)
            have h1 : SLe ((x : Int) :: u) ((y : Int) :: t.2) := by
              rcases Nat.lt_trichotomy y x with hyx | hyx | hyx
              · exact absurd (.inl ⟨hyx, a1⟩) hnd
              · subst hyx
                have htp : t ∉ pre := fun hc => hnd (.inr ⟨rfl, hc⟩)
                rw [← hp] at a1
                rcases List.mem_append.1 a1 with hc | hc
                · exact absurd hc htp
                · rcases List.mem_cons.1 hc with hc | hc
                  · rw [hc]; exact .inl rfl
                  · have := (List.pairwise_cons.1 hr2).1 t hc
                    have htl := (hL.ok t (by rw [← hp]; simp [hc])).2.1
                    exact SLe.cons (.inr (.inr ⟨by rw [htl]; exact o2, this⟩)) _
              · have htl := (hL.ok t a1).2.1
                exact .inr (.inr ⟨by simp; omega, .inl (by omega)⟩)
            exact h1.trans (a3.cons _)
      · exact .inr (.inl (by simp; omega))
    · rw [if_neg hb]
      by_cases hs : preSet m T x ∈ seen
      · rw [if_pos hs]
        refine rowX_spec hL hx ts (pre ++ [(T, u)]) seen lg (by rw [← hp]; simp) ⟨h.ok, h.rise, fun t ht => ?_, h.seen, fun y p hd => ?_⟩
        · obtain ⟨y, p, e1, e2⟩ := h.below t ht
          exact ⟨y, p, e1, e2.imp id fun ⟨a, b⟩ => ⟨a, by simp [b]⟩⟩
        · rcases hd with hd | ⟨rfl, hd⟩
          · exact h.done y p (.inl hd)
          · rcases List.mem_append.1 hd with hd | hd
            · exact h.done y p (.inr ⟨rfl, hd⟩)
            · obtain rfl : p = (T, u) := by simpa using hd
              refine ⟨hb, ?_⟩
              rcases (h.seen _).1 hs with h1 | ⟨t, h1, h2⟩
              · exact .inl h1
              · refine .inr ⟨t, h1, h2, ?_⟩
                obtain ⟨z, p, e1, e2⟩ := h.below t h1
                have tl := (h.ok t h1).2.1
                rcases e2 with ⟨hz, _⟩ | ⟨rfl, hpp⟩
                · rw [e1]; rw [e1] at tl
                  exact .inr (.inr ⟨by simp at tl ⊢; omega, .inl (by omega)⟩)
                · rw [e1]; rw [e1] at tl
                  exact .inr (.inr ⟨by simp at tl ⊢; omega, .inr ⟨rfl, hr3 p hpp (T, u) (by simp)⟩⟩)
      · rw [if_neg hs]
        have hlt : ∀ t ∈ lg, lexLt t.2 ((x : Int) :: u) := fun t ht => by
          obtain ⟨z, p, e1, e2⟩ := h.below t ht
          rw [e1]
          rcases e2 with ⟨hz, _⟩ | ⟨rfl, hpp⟩
          · exact .inl (by omega)
          · exact .inr ⟨rfl, hr3 p hpp (T, u) (by simp)⟩
        refine rowX_spec hL hx ts (pre ++ [(T, u)]) _ _ (by rw [← hp]; simp) ⟨fun t ht => ?_, ?_, fun t ht => ?_, fun A => ?_, fun y p hd => ?_⟩
        · rcases List.mem_append.1 ht with ht | ht
          · exact h.ok t ht
          · obtain rfl : t = (preSet m T x, (x : Int) :: u) := by simpa using ht
            exact ⟨o1.cons hx, by simp [o2], hpw.symm⟩
        · rw [List.pairwise_append]
          refine ⟨h.rise, List.pairwise_singleton _ _, fun a ha b hb => ?_⟩
          obtain rfl : b = (preSet m T x, (x : Int) :: u) := by simpa using hb
          exact hlt a ha
        · rcases List.mem_append.1 ht with ht | ht
          · obtain ⟨y, p, e1, e2⟩ := h.below t ht
            exact ⟨y, p, e1, e2.imp id fun ⟨a, b⟩ => ⟨a, by simp [b]⟩⟩
          · obtain rfl : t = (preSet m T x, (x : Int) :: u) := by simpa using ht
            exact ⟨x, (T, u), rfl, .inr ⟨rfl, by simp⟩⟩
        · rw [List.mem_cons, h.seen]
          constructor
          · rintro (e | e | ⟨t, e1, e2⟩)
            · exact .inr ⟨(preSet m T x, (x : Int) :: u), by simp, e.symm⟩
            · exact .inl e
            · exact .inr ⟨t, by simp [e1], e2⟩
          · rintro (e | ⟨t, e1, e2⟩)
            · exact .inr (.inl e)
            · rcases List.mem_append.1 e1 with e1 | e1
              · exact .inr (.inr ⟨t, e1, e2⟩)
              · obtain rfl : t = (preSet m T x, (x : Int) :: u) := by simpa using e1
                exact .inl e2.symm
        · have old : ∀ (y : Nat) (p : Tr), (y < x ∧ p ∈ tr ∨ y = x ∧ p ∈ pre) → ¬ szS S < szS (preSet m p.1 y) ∧ (preSet m p.1 y ∈ seen0 ∨ ∃ t ∈ lg ++ [(preSet m T x, (x : Int) :: u)], t.1 = preSet m p.1 y ∧ SLe t.2 ((y : Int) :: p.2)) := fun y p hd => by
            obtain ⟨k1, k2⟩ := h.done y p hd
            exact ⟨k1, k2.imp id fun ⟨t, a, b⟩ => ⟨t, by simp [a], b⟩⟩
          rcases hd with hd | ⟨rfl, hd⟩
          · exact old y p (.inl hd)
          · rcases List.mem_append.1 hd with hd | hd
            · exact old y p (.inr ⟨rfl, hd⟩)
            · obtain rfl : p = (T, u) := by simpa using hd
              exact ⟨hb, .inr ⟨(preSet m T y, (y : Int) :: u), by simp, rfl, .inl rfl⟩⟩
theorem MidI.next {m : List (List Int)} {S L x : Nat} {tr : List Tr} {seen0 s : List Nat} {l : List Tr} (h : MidI m S L tr x tr seen0 s l) : MidI m S L tr (x + 1) [] seen0 s l := by
  refine ⟨h.ok, h.rise, fun t ht => ?_, h.seen, fun y p hd => ?_⟩
  · obtain ⟨y, p, e1, e2⟩ := h.below t ht
    refine ⟨y, p, e1, .inl ?_⟩
    rcases e2 with ⟨a, b⟩ | ⟨a, b⟩
    · exact ⟨by omega, b⟩
    · exact ⟨by omega, b⟩
  · rcases hd with ⟨a, b⟩ | ⟨_, b⟩
    · refine h.done y p ?_
      by_cases e : y = x
      · exact .inr ⟨e, b⟩
      · exact .inl ⟨by omega, b⟩
    · simp at b
/-- The next level. -/
theorem MidI.lev {m : List (List Int)} {S L : Nat} {tr : List Tr} {seen0 s : List Nat} {l : List Tr} (hL : LevI m S L seen0 tr) (h : MidI m S L tr (letters m) [] seen0 s l) : LevI m S (L + 1) s l := by
  have hsplit : ∀ w, WDm m w → w.length = L + 1 → ∃ (y : Nat) (v : List Int), w = (y : Int) :: v ∧ y < letters m ∧ WDm m v ∧ v.length = L := fun w hw hl => by
    cases w with
    | nil => simp at hl
    | cons yi v =>
      have hyi := hw yi (by simp)
      obtain ⟨y, rfl⟩ := Int.eq_ofNat_of_zero_le hyi.1
      exact ⟨y, v, rfl, by omega, fun z hz => hw z (by simp [hz]), by simpa using hl⟩
  have hkey : ∀ w, WDm m w → w.length = L + 1 → ¬ szS S < szS (preWord m S w) ∧ ((∃ v, WDm m v ∧ v.length < L + 1 ∧ preWord m S v = preWord m S w) ∨ ∃ t ∈ l, t.1 = preWord m S w ∧ SLe t.2 w) := fun w hw hl => by
    obtain ⟨y, v, rfl, hy, hv, hvl⟩ := hsplit w hw hl
    rcases hL.all v hv hvl with ⟨v', a1, a2, a3⟩ | ⟨t, a1, a2, a3⟩
    · refine ⟨fun hb => hL.small ((y : Int) :: v') (a1.cons hy) (by simp; omega) (by rw [preWord_cons, a3]; exact hb), .inl ⟨(y : Int) :: v', a1.cons hy, by simp; omega, by rw [preWord_cons, preWord_cons, a3]⟩⟩
    · obtain ⟨k1, k2⟩ := h.done y t (.inl ⟨hy, a1⟩)
      rw [a2] at k1 k2
      refine ⟨k1, ?_⟩
      rcases k2 with k2 | ⟨t', b1, b2, b3⟩
      · obtain ⟨w', c1, c2, c3⟩ := (hL.seen _).1 k2
        exact .inl ⟨w', c1, by omega, c3⟩
      · exact .inr ⟨t', b1, b2, b3.trans (a3.cons _)⟩
  refine ⟨h.ok, h.rise, fun T => ?_, fun w hw hl => (hkey w hw hl).2, fun w hw hl => ?_⟩
  · rw [h.seen, hL.seen]
    constructor
    · rintro (⟨w, a, b, c⟩ | ⟨t, a, b⟩)
      · exact ⟨w, a, by omega, c⟩
      · obtain ⟨k1, k2, k3⟩ := h.ok t a
        exact ⟨t.2, k1, by omega, by rw [← k3]; exact b⟩
    · rintro ⟨w, a, b, c⟩
      by_cases e : w.length = L + 1
      · rcases (hkey w a e).2 with ⟨v, d1, d2, d3⟩ | ⟨t, d1, d2, _⟩
        · exact .inl ⟨v, d1, by omega, by rw [d3]; exact c⟩
        · exact .inr ⟨t, d1, by rw [d2]; exact c⟩
      · exact .inl ⟨w, a, by omega, c⟩
  · by_cases e : w.length = L + 1
    · exact (hkey w hw e).1
    · exact hL.small w hw (by omega)
/-- Where no trail is left, no word does. -/
theorem LevI.none {m : List (List Int)} {S L : Nat} {seen : List Nat} (h : LevI m S L seen []) : ∀ w, WDm m w → ¬ szS S < szS (preWord m S w) := by
  have hall : ∀ (n : Nat) (w : List Int), w.length = n → WDm m w → ∃ v, WDm m v ∧ v.length < L ∧ preWord m S v = preWord m S w := by
    intro n
    induction n using Nat.strongRecOn with
    | _ n ih =>
      intro w hl hw
      by_cases h1 : w.length < L
      · exact ⟨w, hw, h1, rfl⟩
      · obtain ⟨d, hd⟩ : ∃ d, w.length = d + L := ⟨w.length - L, by omega⟩
        -- the last L letters come first
        have hv : WDm m (w.drop d) := fun z hz => hw z (List.mem_of_mem_drop hz)
        have hvl : (w.drop d).length = L := by rw [List.length_drop]; omega
        rcases h.all _ hv hvl with ⟨v', a1, a2, a3⟩ | ⟨t, a1, _⟩
        · have hw2 : WDm m (w.take d ++ v') := fun z hz => by
            rcases List.mem_append.1 hz with hz | hz
            · exact hw z (List.mem_of_mem_take hz)
            · exact a1 z hz
          have hlen : (w.take d ++ v').length < n := by
            rw [List.length_append, List.length_take]; omega
          obtain ⟨v, b1, b2, b3⟩ := ih _ hlen _ rfl hw2
          refine ⟨v, b1, b2, b3.trans ?_⟩
          have e : preWord m S w = preWord m S (w.take d ++ w.drop d) := by rw [List.take_append_drop]
          rw [e]
          unfold preWord at a3 ⊢
          rw [List.foldr_append, List.foldr_append, a3]
        · simp at a1
  intro w hw hb
  obtain ⟨v, a1, a2, a3⟩ := hall _ w rfl hw
  exact h.small v a1 (by omega) (by rw [a3]; exact hb)
theorem LevI.start (m : List (List Int)) (S : Nat) : LevI m S 0 [S] [(S, [])] := by
  refine ⟨fun t ht => ?_, List.pairwise_singleton _ _, fun T => ?_, fun w hw hl => ?_, fun w hw hl => ?_⟩
  · obtain rfl : t = (S, []) := by simpa using ht
    exact ⟨fun x hx => by simp at hx, rfl, rfl⟩
  · rw [List.mem_singleton]
    constructor
    · rintro rfl
      exact ⟨[], fun x hx => by simp at hx, Nat.le_refl _, rfl⟩
    · rintro ⟨w, _, hl, he⟩
      obtain rfl : w = [] := List.eq_nil_of_length_eq_zero (by omega)
      exact he.symm
  · obtain rfl : w = [] := List.eq_nil_of_length_eq_zero hl
    exact .inr ⟨(S, []), by simp, rfl, .inl rfl⟩
  · obtain rfl : w = [] := List.eq_nil_of_length_eq_zero (by omega)
    show ¬ szS S < szS S
    omega
end Go.Proofs.YtphpablchlpagaaDoor
namespace Go.Proofs.YtphpablchlpagaaDoor
open Go.RowKit Go.Shelf
/-- A slice of bools that reads as a list. -/
def Bools (w : World) (v : Value) (l : List Bool) : Prop :=
  ∃ A cap, v = .slice A l.length cap ∧ l.length ≤ big ∧ ∀ i, i < l.length → ∃ b off, A = some ⟨b, off, none⟩ ∧ w.cell? ⟨b, off + i, none⟩ = some (.bool (l.getD i false))
theorem Bools.below {w w' : World} {v : Value} {l : List Bool} (h : Bools w v l) (hb : Below w.heap.size w w') : Bools w' v l := by
  obtain ⟨A, cap, hv, hl, hc⟩ := h
  refine ⟨A, cap, hv, hl, fun i hi => ?_⟩
  obtain ⟨b, off, hA, hcell⟩ := hc i hi
  exact ⟨b, off, hA, (hb.cell (p := ⟨b, off + i, none⟩) (World.block_lt_of_cell? _ _ hcell)).trans hcell⟩
theorem Bools.of_own {W : World} {n₀ : Nat} {e : TypeId} {v : Value} {l : List Bool} (h : W.ownsRow n₀ e 1 v l.length (l.map fun x => .bool x)) (hl : l.length ≤ big) : Bools W v l := by
  rcases h.2 with ⟨rfl, h0⟩ | ⟨g, cap, cur, rfl, hb, hg, hn, hc, hs, ht⟩
  · exact ⟨none, 0, by rw [h0], hl, fun i hi => by omega⟩
  · refine ⟨some ⟨g, 0, none⟩, cap, rfl, hl, fun i hi => ⟨g, 0, rfl, ?_⟩⟩
    have h1 : (l.map fun x => Value.bool x)[i]? = some (.bool (l.getD i false)) := by
      simp [List.getElem?_map, List.getElem?_eq_getElem hi, List.getD_eq_getElem?_getD]
    rw [← ht, List.getElem?_take, if_pos (by omega)] at h1
    simp only [World.cell?, hg]
    simpa using h1
end Go.Proofs.YtphpablchlpagaaDoor
namespace Go.Proofs.YtphpablchlpagaaDoor
open Go.RowKit Go.Shelf
theorem ownq_lt {W : World} {base : Nat} {e : TypeId} {s : Nat} {g n c k : Nat} {xs : List Value} (h : W.ownsRow base e s (.slice (some ⟨g, 0, none⟩) n c) k xs) : base ≤ g ∧ g < W.heap.size := by
  rcases h.2 with ⟨h', _⟩ | ⟨g', cap, cur, h', hb, hh, _⟩
  · cases h'
  · cases h'; exact ⟨hb, (Array.getElem?_eq_some_iff.1 hh).1⟩
theorem List.map_set_bool (l : List Bool) (i : Nat) (b : Bool) : (l.set i b).map (fun x => Value.bool x) = (l.map fun x => Value.bool x).set i (.bool b) := by rw [List.map_set]
end Go.Proofs.YtphpablchlpagaaDoor
namespace Go.Proofs.YtphpablchlpagaaDoor
open Go.RowKit Go.Shelf
theorem own_lt {W : World} {base : Nat} {e : TypeId} {s : Nat} {g n c k : Nat} {xs : List Value} (h : W.ownsRow base e s (.slice (some ⟨g, 0, none⟩) n c) k xs) : base ≤ g ∧ g < W.heap.size := by
  rcases h.2 with ⟨h', _⟩ | ⟨g', cap, cur, h', hb, hh, _⟩
  · cases h'
  · cases h'; exact ⟨hb, lt_of_block hh⟩
theorem SeenMap.isMap {w : World} {bm n : Nat} {S : Nat → Bool} (h : SeenMap w bm n S) : ∃ es c, w.heap[bm]? = some (.map es c) := by
  obtain ⟨D, ⟨es, clock, hb, _⟩, _⟩ := h
  exact ⟨es, clock, hb⟩
theorem Turn.mono {X Y : Blocks} {W W' : World} (h : Turn X W W') (hXY : ∀ k, X k → Y k) : Turn Y W W' := ⟨h.os, h.tape, h.output, h.size, fun k hk hY => h.block k hk (fun hX => hY (hXY k hX))⟩
theorem Keep.mono {n₀ : Nat} {X Y : Blocks} {W W' : World} (h : Keep n₀ Y W W') (hXY : ∀ k, X k → Y k) : Keep n₀ X W W' := ⟨h.os, h.tape, h.output, h.size, fun k hk hc => h.block k hk (hc.imp id (hXY k))⟩
/-- What lay there when the search began stays. -/
theorem Keep.of_turn {n₀ base : Nat} {X0 X : Blocks} {W W' : World} (h : Turn (fun k => X k ∧ base ≤ k) W W') (hn : n₀ ≤ base) (h0 : ∀ k, X0 k → k < base) : Keep n₀ X0 W W' :=
  ⟨h.os, h.tape, h.output, h.size, fun k hk hc => h.block k hk (fun hX => by
    obtain ⟨_, h2⟩ := hX
    rcases hc with h1 | h1
    · omega
    · have := h0 k h1; omega)⟩
section
variable {J : Blocks → List (Nat × Value) → World → Prop} {n₀ : Nat} {X0 : Blocks} {W : World} {bm b6 b7 i : Nat} {B : Steps} {pre : List (Nat × Value)} {X : Blocks} {g cap : Nat} {wr : World}
end
end Go.Proofs.YtphpablchlpagaaDoor
namespace Go.Proofs.YtphpablchlpagaaDoor
open Go.RowKit Go.Shelf
attribute [local go_sem] Oper.semAt_some
theorem row_mono {w : World} {base base' : Nat} {e : TypeId} {s : Nat} {v : Value} {n : Nat} {xs : List Value} (h : w.ownsRow base e s v n xs) (hb : base' ≤ base) : w.ownsRow base' e s v n xs := by
  refine ⟨h.1, ?_⟩
  rcases h.2 with h' | ⟨g, cap, cur, hv, hg, r⟩
  · exact .inl h'
  · exact .inr ⟨g, cap, cur, hv, Nat.le_trans hb hg, r⟩
end Go.Proofs.YtphpablchlpagaaDoor
namespace Go.Proofs.YtphpablchlpagaaDoor
open Go.RowKit Go.Shelf
attribute [local go_sem] Oper.semAt_some
theorem held_pair {w1 w' : World} {p q : Addr} {u v : Value} (h1 : w1.cell? p = some u) (h2 : w1.cell? q = some v) (hb : Below w1.heap.size w1 w') : Below w1.heap.size w1 w' ∧ w'.cell? p = some u ∧ w'.cell? q = some v :=
  ⟨hb, (hb.cell (p := p) (World.block_lt_of_cell? _ _ h1)).trans h1, (hb.cell (p := q) (World.block_lt_of_cell? _ _ h2)).trans h2⟩
/-- The search from a state of an automaton. -/
def bfsM (m : List (List Int)) (s : Nat) : Steps := bfsTo (fun p x => nx m p (x : Int)) (letters m) s m.length
end Go.Proofs.YtphpablchlpagaaDoor
namespace Go.Proofs.YtphpablchlpagaaDoor
open Go.RowKit Go.Shelf
theorem ldM_ok {m : List (List Int)} (hv : validM m = true) : ∀ p x, p < m.length → x < letters m → nx m p (x : Int) < m.length := fun p x hp hx => by
  obtain ⟨p1, p2, p3, p4, p5⟩ := valid_parts hv
  exact (nx_ok hv hp (x := (x : Int)) (by omega) (by omega)).1
end Go.Proofs.YtphpablchlpagaaDoor
namespace Go.Proofs.YtphpablchlpagaaDoor
open Go.RowKit Go.Shelf
/-- The letters of the steps but the first one are letters. -/
def LetB (K : Nat) (B : Steps) : Prop := ∀ k, 0 < k → k < B.length → 0 ≤ leB B k ∧ leB B k < K
theorem LetB.add {K : Nat} {B : Steps} (h : LetB K B) (ld : Nat → Nat → Nat) (p i : Nat) {x : Nat} (hx : x < K) : LetB K (addB ld B p i x) := by
  unfold addB
  split
  · exact h
  · obtain ⟨s1, s2, s3⟩ := snoc_pl B (ld p x) (i : Int) (x : Int)
    have hpre : B <+: B ++ [(((ld p x : Nat) : Int), (i : Int), (x : Int))] := List.prefix_append _ _
    intro k h0 hk
    by_cases e : k < B.length
    · rw [(pre_pl hpre k e).2.2]; exact h k h0 e
    · have e2 : k = B.length := by rw [List.length_append] at hk; simp at hk; omega
      subst e2
      rw [s3]; omega
theorem LetB.row {K : Nat} {B : Steps} (h : LetB K B) (ld : Nat → Nat → Nat) (p i : Nat) : ∀ x, x ≤ K → LetB K (rowB ld B p i x)
  | 0, _ => h
  | x + 1, hx => (LetB.row h ld p i x (by omega)).add ld p i (by omega)
end Go.Proofs.YtphpablchlpagaaDoor
namespace Go.Proofs.YtphpablchlpagaaDoor
open Go.RowKit Go.Shelf
/-- The row of the lengths behind k steps. -/
def lensTo (F : Steps) (n : Nat) : Nat → List Int
  | 0 => List.replicate n 0
  | k + 1 => (lensTo F n k).set (plB F k).toNat ((wordB F k).length : Int)
theorem SLe.len {a b : List Int} (h : SLe a b) : a.length ≤ b.length := by
  rcases h with rfl | h | ⟨h, _⟩ <;> omega
/-- The lengths of the shortest words from state 0. -/
def lensM (m : List (List Int)) : List Int := lensTo (bfsM m 0) m.length (bfsM m 0).length
/-- How much longer the way by a letter is. -/
def excM (L : List Int) (m : List (List Int)) (s x : Nat) : Nat := (L.getD s 0 + 1 - L.getD (nx m s (x : Int)) 0).toNat
def gRow (L : List Int) (m : List (List Int)) (s d : Nat) : Nat → Nat
  | 0 => d
  | x + 1 => Nat.gcd (excM L m s x) (gRow L m s d x)
def gAll (L : List Int) (m : List (List Int)) : Nat → Nat
  | 0 => 0
  | s + 1 => gRow L m s (gAll L m s) (letters m)
/-- The period. -/
def perM (m : List (List Int)) : Nat := gAll (lensM m) m m.length
section
variable {m : List (List Int)} (hv : validM m = true) (hc : connM m = true)
include hv hc
end
end Go.Proofs.YtphpablchlpagaaDoor
namespace Go.Proofs.YtphpablchlpagaaDoor
open Go.RowKit Go.Shelf
theorem lexLt_irrefl : ∀ a : List Int, ¬ lexLt a a
  | [], h => h
  | x :: a, h => by
    rcases h with h | ⟨_, h⟩
    · omega
    · exact lexLt_irrefl a h
end Go.Proofs.YtphpablchlpagaaDoor
namespace Go.Proofs.YtphpablchlpagaaDoor
open Go.RowKit Go.Shelf
theorem least_nat {p : Nat → Prop} : ∀ n, p n → ∃ k, p k ∧ k ≤ n ∧ ∀ j, p j → ¬ j < k := by
  intro n
  induction n using Nat.strongRecOn with
  | _ n ih =>
    intro hn
    by_cases h : ∃ j, p j ∧ j < n
    · obtain ⟨j, hj, hlt⟩ := h
      obtain ⟨k, h1, h2, h3⟩ := ih j hlt hj
      exact ⟨k, h1, by omega, h3⟩
    · exact ⟨n, hn, Nat.le_refl _, fun j hj hlt => h ⟨j, hj, hlt⟩⟩
theorem pigeon {n k : Nat} (f : Nat → Nat) (hf : ∀ i, i ≤ k → f i < n) (hk : n ≤ k) : ∃ i j, i < j ∧ j ≤ k ∧ f i = f j := by
  apply Classical.byContradiction
  intro hno
  have hnd : ((List.range (k + 1)).map fun i => ((f i : Nat) : Int)).Nodup := by
    unfold List.Nodup
    rw [List.pairwise_map]
    refine List.Pairwise.imp_of_mem (fun {i j} _ hj hlt e => hno ⟨i, j, hlt, ?_, by omega⟩) List.pairwise_lt_range
    have := List.mem_range.1 hj
    omega
  have := nodup_len n _ hnd (fun x hx => by
    obtain ⟨i, hi, rfl⟩ := List.mem_map.1 hx
    have h1 := List.mem_range.1 hi
    have h2 := hf i (by omega)
    omega)
  simp at this
  omega
section
variable {m : List (List Int)} (hv : validM m = true) (hc : connM m = true) (hp : perM m = 1)
include hv hc hp
end
end Go.Proofs.YtphpablchlpagaaDoor
namespace Go.Proofs.YtphpablchlpagaaDoor
open Go.RowKit Go.Shelf
/-- A word of k letters merges the two states. -/
def mergeP (m : List (List Int)) (p q k : Nat) : Prop := ∃ u : List Int, u.all (inB 0 ((letters m : Int) - 1)) = true ∧ u.length = k ∧ runM m p u = runM m q u
theorem mergeP_zero {m : List (List Int)} {p q : Nat} : mergeP m p q 0 ↔ p = q := by
  constructor
  · rintro ⟨u, _, h2, h3⟩
    obtain rfl : u = [] := List.length_eq_zero_iff.1 h2
    exact h3
  · rintro rfl; exact ⟨[], rfl, rfl, rfl⟩
theorem mergeP_cons {m : List (List Int)} {p q x k : Nat} (hx : x < letters m) (h : mergeP m (nx m p (x : Int)) (nx m q (x : Int)) k) : mergeP m p q (k + 1) := by
  obtain ⟨u, h1, h2, h3⟩ := h
  refine ⟨(x : Int) :: u, ?_, by simp [h2], h3⟩
  rw [List.all_cons, h1, Bool.and_true]
  exact inB_true ⟨by omega, by omega⟩
theorem mergeP_head {m : List (List Int)} {p q k : Nat} (h : mergeP m p q (k + 1)) : ∃ x, x < letters m ∧ mergeP m (nx m p (x : Int)) (nx m q (x : Int)) k := by
  obtain ⟨u, h1, h2, h3⟩ := h
  cases u with
  | nil => simp at h2
  | cons y u =>
    obtain ⟨hy, hu⟩ := all_cons_parts h1
    obtain ⟨x, rfl⟩ := Int.eq_ofNat_of_zero_le hy.1
    exact ⟨x, by omega, u, hu, by simpa using h2, h3⟩
theorem mergeP_symm {m : List (List Int)} {p q k : Nat} (h : mergeP m p q k) : mergeP m q p k := by
  obtain ⟨u, h1, h2, h3⟩ := h
  exact ⟨u, h1, h2, h3.symm⟩
/-- A shortest word that merges the two states has k letters. -/
def mdist (m : List (List Int)) (p q k : Nat) : Prop := mergeP m p q k ∧ ∀ i, i < k → ¬ mergeP m p q i
theorem mdist_symm {m : List (List Int)} {p q k : Nat} (h : mdist m p q k) : mdist m q p k := ⟨mergeP_symm h.1, fun i hi k => h.2 i hi (mergeP_symm k)⟩
theorem mdist_zero {m : List (List Int)} {p q : Nat} : mdist m p q 0 ↔ p = q := by
  constructor
  · exact fun h => mergeP_zero.1 h.1
  · exact fun h => ⟨mergeP_zero.2 h, fun i hi => by omega⟩
theorem mdist_unique {m : List (List Int)} {p q i j : Nat} (h : mdist m p q i) (k : mdist m p q j) : i = j := by
  rcases Nat.lt_trichotomy i j with e | e | e
  · exact absurd h.1 (k.2 i e)
  · exact e
  · exact absurd k.1 (h.2 j e)
theorem mdist_some {m : List (List Int)} {p q k : Nat} (h : mergeP m p q k) : ∃ j, j ≤ k ∧ mdist m p q j := by
  obtain ⟨j, h1, h2, h3⟩ := least_nat (p := mergeP m p q) k h
  exact ⟨j, h2, h1, fun i hi hp => h3 i hp hi⟩
theorem mdist_step {m : List (List Int)} {p q k : Nat} (h : mdist m p q (k + 1)) : ∃ x, x < letters m ∧ mdist m (nx m p (x : Int)) (nx m q (x : Int)) k := by
  obtain ⟨x, hx, he⟩ := mergeP_head h.1
  exact ⟨x, hx, he, fun i hi h2 => h.2 (i + 1) (by omega) (mergeP_cons hx h2)⟩
theorem mdist_up {m : List (List Int)} {p q x k : Nat} (hx : x < letters m) (h : mdist m (nx m p (x : Int)) (nx m q (x : Int)) k) (hn : ∀ i, i ≤ k → ¬ mergeP m p q i) : mdist m p q (k + 1) := ⟨mergeP_cons hx h.1, fun i hi => hn i (by omega)⟩
/-- Where there is a length, there are all the shorter ones. -/
theorem mdist_down {m : List (List Int)} (hv : validM m = true) : ∀ k p q, p < m.length → q < m.length → mdist m p q k → ∀ j, j ≤ k → ∃ p' q', p' < m.length ∧ q' < m.length ∧ mdist m p' q' j
  | 0, p, q, hp, hq, h, j, hj => ⟨p, q, hp, hq, by rw [show j = 0 by omega]; exact h⟩
  | k + 1, p, q, hp, hq, h, j, hj => by
    by_cases e : j = k + 1
    · subst e; exact ⟨p, q, hp, hq, h⟩
    · obtain ⟨x, hx, h2⟩ := mdist_step h
      exact mdist_down hv k _ _ (ldM_ok hv p x hp hx) (ldM_ok hv q x hq hx) h2 j (by omega)
theorem mdist_lt {m : List (List Int)} (hv : validM m = true) {p q k : Nat} (hp : p < m.length) (hq : q < m.length) (h : mdist m p q k) : k < m.length * m.length := by
  apply Classical.byContradiction
  intro hk
  have hf : ∀ j, ∃ c, j ≤ k → ∃ p' q', p' < m.length ∧ q' < m.length ∧ mdist m p' q' j ∧ c = p' * m.length + q' := fun j => by
    by_cases hj : j ≤ k
    · obtain ⟨p', q', h1, h2, h3⟩ := mdist_down hv k p q hp hq h j hj
      exact ⟨_, fun _ => ⟨p', q', h1, h2, h3, rfl⟩⟩
    · exact ⟨0, fun h => absurd h hj⟩
  obtain ⟨f, hf⟩ := Classical.axiomOfChoice hf
  obtain ⟨i, j, h1, h2, h3⟩ := pigeon (n := m.length * m.length) (k := k) f (fun i hi => by
    obtain ⟨p', q', a1, a2, _, a4⟩ := hf i hi
    rw [a4]
    have := Nat.mul_le_mul_right m.length (show p' + 1 ≤ m.length by omega)
    rw [Nat.succ_mul] at this
    omega) (by omega)
  obtain ⟨p1, q1, a1, a2, a3, a4⟩ := hf i (by omega)
  obtain ⟨p2, q2, b1, b2, b3, b4⟩ := hf j h2
  rw [a4, b4] at h3
  have e1 : p1 = p2 := by
    have := congrArg (· / m.length) h3
    simp only [Nat.add_comm (_ * _), Nat.add_mul_div_right _ _ (show 0 < m.length by omega), Nat.div_eq_of_lt a2, Nat.div_eq_of_lt b2] at this
    omega
  subst e1
  have e2 : q1 = q2 := by omega
  subst e2
  have := mdist_unique a3 b3
  omega
/-- Behind k rounds: the length of a shortest word, or -1. -/
def mlenAt (m : List (List Int)) : Nat → Nat → Nat → Int
  | 0, p, q => if p = q then 0 else -1
  | k + 1, p, q => if 0 ≤ mlenAt m k p q then mlenAt m k p q else if (List.range (letters m)).any (fun x : Nat => mlenAt m k (nx m p (x : Int)) (nx m q (x : Int)) == (k : Int)) then (k : Int) + 1 else -1
theorem mlenAt_spec (m : List (List Int)) : ∀ k p q, (mlenAt m k p q = -1 ∧ ∀ i, i ≤ k → ¬ mergeP m p q i) ∨ ∃ j : Nat, j ≤ k ∧ mlenAt m k p q = j ∧ mdist m p q j
  | 0, p, q => by
    by_cases e : p = q
    · exact .inr ⟨0, Nat.le_refl _, by simp [mlenAt, e], mdist_zero.2 e⟩
    · refine .inl ⟨by simp [mlenAt, e], fun i hi h => ?_⟩
      obtain rfl : i = 0 := by omega
      exact e (mergeP_zero.1 h)
  | k + 1, p, q => by
    have ih := mlenAt_spec m k
    rcases ih p q with ⟨h1, h2⟩ | ⟨j, h1, h2, h3⟩
    · have hneg : ¬ (0 : Int) ≤ mlenAt m k p q := by rw [h1]; omega
      cases hany : (List.range (letters m)).any (fun x : Nat => mlenAt m k (nx m p (x : Int)) (nx m q (x : Int)) == (k : Int)) with
      | true =>
        obtain ⟨x, hx, he⟩ := List.any_eq_true.1 hany
        have hx' := List.mem_range.1 hx
        have he' : mlenAt m k (nx m p (x : Int)) (nx m q (x : Int)) = (k : Int) := beq_iff_eq.1 he
        rcases ih (nx m p (x : Int)) (nx m q (x : Int)) with ⟨a1, _⟩ | ⟨j, a1, a2, a3⟩
        · omega
        · obtain rfl : j = k := by omega
          refine .inr ⟨j + 1, Nat.le_refl _, ?_, mdist_up hx' a3 h2⟩
          simp only [mlenAt]
          rw [if_neg hneg, if_pos hany]; rfl
      | false =>
        refine .inl ⟨?_, fun i hi h => ?_⟩
        · simp only [mlenAt]
          rw [if_neg hneg, hany]; rfl
        · by_cases e : i ≤ k
          · exact h2 i e h
          · obtain rfl : i = k + 1 := by omega
            obtain ⟨x, hx, hxe⟩ := mergeP_head h
            have hne := List.any_eq_false.1 hany x (List.mem_range.2 hx)
            rcases ih (nx m p (x : Int)) (nx m q (x : Int)) with ⟨a1, a2⟩ | ⟨j, a1, a2, a3⟩
            · exact a2 k (Nat.le_refl _) hxe
            · by_cases e2 : j = k
              · subst e2
                rw [a2] at hne
                simp at hne
              · exact h2 (j + 1) (by omega) (mergeP_cons hx a3.1)
    · refine .inr ⟨j, by omega, ?_, h3⟩
      simp only [mlenAt]
      rw [if_pos (by omega)]
      exact h2
/-- The length of a shortest word that merges, or -1. -/
def mlen (m : List (List Int)) (p q : Nat) : Int := mlenAt m (m.length * m.length) p q
theorem mlen_spec {m : List (List Int)} (hv : validM m = true) {p q : Nat} (hp : p < m.length) (hq : q < m.length) : (mlen m p q = -1 ∧ ∀ k, ¬ mergeP m p q k) ∨ ∃ j : Nat, j < m.length * m.length ∧ mlen m p q = j ∧ mdist m p q j := by
  rcases mlenAt_spec m (m.length * m.length) p q with ⟨h1, h2⟩ | ⟨j, h1, h2, h3⟩
  · refine .inl ⟨h1, fun k h => ?_⟩
    obtain ⟨j, hj, hd⟩ := mdist_some h
    exact h2 j (by have := mdist_lt hv hp hq hd; omega) hd.1
  · exact .inr ⟨j, mdist_lt hv hp hq h3, h2, h3⟩
theorem mlen_of {m : List (List Int)} (hv : validM m = true) {p q j : Nat} (hp : p < m.length) (hq : q < m.length) (h : mdist m p q j) : mlen m p q = j := by
  rcases mlen_spec hv hp hq with ⟨_, h2⟩ | ⟨i, h1, h2, h3⟩
  · exact absurd h.1 (h2 j)
  · rw [h2, mdist_unique h3 h]
theorem mlen_symm {m : List (List Int)} (hv : validM m = true) {p q : Nat} (hp : p < m.length) (hq : q < m.length) : mlen m p q = mlen m q p := by
  rcases mlen_spec hv hp hq with ⟨h1, h2⟩ | ⟨i, h1, h2, h3⟩
  · rcases mlen_spec hv hq hp with ⟨k1, k2⟩ | ⟨j, k1, k2, k3⟩
    · rw [h1, k1]
    · exact absurd (mergeP_symm k3.1) (h2 j)
  · rw [h2, mlen_of hv hq hp (mdist_symm h3)]
end Go.Proofs.YtphpablchlpagaaDoor
