/-
  Texts that the proof of the law stands on: Rep, T1, T2, Bits, Pop, T4, O1, A1, A2, Range, T5, T6, T7, T8, T9, R1, P1, P2, P3, N1, M1, N2, P6, N6, N7, N8, N15, N16, N17, N18, N9, N10, N11, N12, N13, N22, N23, A5, A3, M3, A4, R10, R11, Inv, Vals.
-/
import Derived.WalkKit
import Derived.WalkSpells
import Derived.WalkLawsBesides
import Derived.Test.YtbhhemidnmaodaaDoorProg
import Derived.Lib.TrailingZeros
import Derived.Laws.Bits64b
import Derived.Deep.Matrix
import Derived.Lib.LaidU8
import Derived.SizedLaws
import Derived.Carry
import Derived.RangeFuncNested
import Derived.RangeFuncBound
import Derived.RangeFuncCalls
import Derived.RangeFuncLeaves
import Derived.Shelf.Abstract
import Derived.OwnWalkIn
import Derived.TacticsInMore
import Derived.LoopNIn
import Derived.LoopIn
import Derived.Shelf.RegionOpen
import Derived.Maps.OwnIn
import Derived.BigQuiet
import Derived.Deep.QuietTactic
import Derived.Test.YtbhhemidnmaodaaDoorShelf
import Derived.Maps.AppendAt
import Derived.Lib.SplitLaws
import Derived.Lib.UnsafeStr
import Derived.Laws.EntriesVeiled
import Derived.Deep.AppendLies
import Derived.Deep.RegionLaw
import Derived.Maps.Own
import Derived.Maps.OwnOps
import Derived.Maps.Views
import Derived.Lib.Slices
import Derived.Lib.AtoiTie
import Derived.Lib.ItoaNum
import Derived.Laws.IdiomStrings
import Derived.Laws.Strings3
import Derived.IntWalk
import Derived.RegionTactic
import Derived.ProofKit
import Derived.OpenShut
import Derived.Deep.DeepHandedRow
import Derived.Deep.DeepWitnessRowRef
import Derived.Lib.LaidTab
import Derived.Lib.LaidIn
import Derived.WideKeyArgs
import Derived.Handy
import Derived.Deep.RegionHeld
import Derived.Deep.RegionHeld3
import Derived.Maps.OwnSet
import Derived.WideKeyPair
import Derived.WideKeyEntry
import Derived.WideKeyElems3
import Derived.Maps.Keyed
import Derived.ChangeAlike
import Derived.WalkMore
import Derived.Scope
import Derived.Deep.RegionWith
import Derived.Deep.CutRange
import Derived.Deep.DeepMust
import Derived.OrdersIn
import Derived.Deep.Quiet
import Derived.ChangeKeysEq
import Derived.Laws.StructEq
import Derived.Laws.AppendOwnNone
import Derived.Deep.WholeRow
import Derived.Shelf.Strconv.AtoiAll
set_option linter.unusedVariables false
set_option linter.unusedSimpArgs false
namespace Go.Proofs.YtbhhemidnmaodaaDoor
open Go.RowKit
/-- The greatest number of elements that is spoken of. -/
def big : Nat := 17592186044416
/-- A slice of ints that reads as a list. -/
def Ints (w : World) (v : Value) (l : List Int) : Prop :=
  ∃ A cap, v = .slice A l.length cap ∧ l.length ≤ big ∧ ∀ i, i < l.length → ∃ b off, A = some ⟨b, off, none⟩ ∧ w.cell? ⟨b, off + i, none⟩ = some (.int .i64 (l.getD i 0))
theorem Ints.below {w w' : World} {v : Value} {l : List Int} (h : Ints w v l) (hb : Below w.heap.size w w') : Ints w' v l := by
  obtain ⟨A, cap, hv, hl, hc⟩ := h
  refine ⟨A, cap, hv, hl, fun i hi => ?_⟩
  obtain ⟨b, off, hA, hcell⟩ := hc i hi
  exact ⟨b, off, hA, (hb.cell (p := ⟨b, off + i, none⟩) (World.block_lt_of_cell? _ _ hcell)).trans hcell⟩
theorem all_snoc_take {α : Type} [Inhabited α] (p : α → Bool) (l : List α) (d : α) (k : Nat) (hk : k < l.length) : (l.take (k + 1)).all p = ((l.take k).all p && p (l.getD k d)) := by
  rw [List.take_succ_eq_append_getElem hk, List.all_append]
  simp [List.getD_eq_getElem?_getD, List.getElem?_eq_getElem hk]
theorem all_false_of {α : Type} (p : α → Bool) (l : List α) (d : α) (k : Nat) (hk : k < l.length) (h : p (l.getD k d) = false) : l.all p = false := by
  rw [List.all_eq_false]
  refine ⟨l[k], List.getElem_mem _, ?_⟩
  have : l.getD k d = l[k] := by simp [List.getD_eq_getElem?_getD, List.getElem?_eq_getElem hk]
  rw [this] at h
  simp [h]
theorem hid {p : Prop} (h : p) : Hid p := h
theorem ret_bool {a b : Bool} (h : a = b) : Ending.returned (.bool a) = .returned (.bool b) := by rw [h]
theorem ret_int {k : IntKind} {a b : Int} (h : a = b) : Ending.returned (.int k a) = .returned (.int k b) := by rw [h]
/-- A slice of slices of ints. -/
def Rows (w : World) (v : Value) (m : List (List Int)) : Prop :=
  ∃ A cap, v = .slice A m.length cap ∧ m.length ≤ big ∧ ∀ i, i < m.length → ∃ b off r, A = some ⟨b, off, none⟩ ∧ w.cell? ⟨b, off + i, none⟩ = some r ∧ Ints w r (m.getD i [])
theorem Rows.below {w w' : World} {v : Value} {m : List (List Int)} (h : Rows w v m) (hb : Below w.heap.size w w') : Rows w' v m := by
  obtain ⟨A, cap, hv, hl, hc⟩ := h
  refine ⟨A, cap, hv, hl, fun i hi => ?_⟩
  obtain ⟨b, off, r, hA, hcell, hr⟩ := hc i hi
  exact ⟨b, off, r, hA, (hb.cell (p := ⟨b, off + i, none⟩) (World.block_lt_of_cell? _ _ hcell)).trans hcell, hr.below hb⟩
theorem Ints.alloc {w : World} {v : Value} {l : List Int} (h : Ints w v l) (o : Obj) : Ints (w.alloc o) v l := h.below ((Below.refl _ w).alloc (Nat.le_refl _) o)
theorem Rows.alloc {w : World} {v : Value} {l : List (List Int)} (h : Rows w v l) (o : Obj) : Rows (w.alloc o) v l := h.below ((Below.refl _ w).alloc (Nat.le_refl _) o)
/-- A list of one number, just made. -/
theorem Ints.one (w : World) (n : Int) (t : TypeId) : Ints (w.alloc (.cells #[.int .i64 n] t)) (.slice (some ⟨w.heap.size, 0, none⟩) 1 1) [n] :=
  ⟨_, 1, rfl, by unfold big; simp, fun i hi => ⟨w.heap.size, 0, rfl, by
    obtain rfl : i = 0 := by simp at hi; omega
    simp⟩⟩
theorem Ints.one' (w : World) (n : Int) (t : TypeId) (k : Nat) (hk : k = w.heap.size) : Ints (w.alloc (.cells #[.int .i64 n] t)) (.slice (some ⟨k, 0, none⟩) 1 1) [n] := by
  subst hk; exact Ints.one w n t
/-- Below the whole of the first world: new blocks, and all that a call leaves as it lay. -/
theorem bal {w w' : World} (h : Below w.heap.size w w') (o : Obj) : Below w.heap.size w (w'.alloc o) := h.alloc h.size o
theorem btr {w w' w'' : World} (h : Below w.heap.size w w') (k : Below w'.heap.size w' w'') : Below w.heap.size w w'' := h.trans (k.mono h.size)
theorem below_dr (w : World) (n : Nat) : Below w.heap.size w (w.drewN n) := ⟨rfl, rfl, rfl, Nat.le_refl _, fun _ _ => rfl⟩
theorem Ints.drewN {w : World} {v : Value} {l : List Int} (h : Ints w v l) (n : Nat) : Ints (w.drewN n) v l := h.below (below_dr w n)
theorem Rows.drewN {w : World} {v : Value} {m : List (List Int)} (h : Rows w v m) (n : Nat) : Rows (w.drewN n) v m := h.below (below_dr w n)
theorem bdr {w w' : World} (h : Below w.heap.size w w') (n : Nat) : Below w.heap.size w (w'.drewN n) := btr h (below_dr w' n)
end Go.Proofs.YtbhhemidnmaodaaDoor
namespace Go.Proofs.YtbhhemidnmaodaaDoor
open Go.RowKit
def inB (lo hi : Int) (n : Int) : Bool := decide (lo ≤ n) && decide (n ≤ hi)
theorem inB_true {lo hi n : Int} (h : lo ≤ n ∧ n ≤ hi) : inB lo hi n = true := by simp [inB, h]
theorem inB_false {lo hi n : Int} (h : n < lo ∨ hi < n) : inB lo hi n = false := by
  unfold inB; rcases h with h | h <;> simp <;> omega
set_option maxHeartbeats 400000 in
theorem between_any (lo hi : Int) (v : Value) (l : List Int) (w : World) (h : Ints w v l) :
    Calls Tryd.prog 66 #[.int .i64 lo, .int .i64 hi, v] w fun e w' => e = .returned (.bool (l.all (inB lo hi))) ∧ w = w' := by
  obtain ⟨A, cap, rfl, hl, hc⟩ := h
  unfold big at hl
  go_enter Tryd.func66, Tryd.ntmps66
  go_wp2
  go_loop [11] (fun i => ∃ k : Nat, k ≤ l.length ∧ i = .int .i64 k ∧ (l.take k).all (inB lo hi) = true) (fun i => l.length - (intOf i).toNat)
  case atStart => exact ⟨0, Nat.zero_le _, rfl, rfl⟩
  case round =>
    obtain ⟨k, hk, rfl, hall⟩ := hrel
    by_cases hlt : k < l.length
    · obtain ⟨b, off, hA, hcell⟩ := hc k hlt
      have hs := all_snoc_take (inB lo hi) l 0 k hlt
      rw [hall, Bool.true_and] at hs
      have hf := all_false_of (inB lo hi) l 0 k hlt
      have Hs := hid hs
      have Hf := hid hf
      clear hs hf hall hc
      generalize hn : l.getD k 0 = n at *
      clear hn
      subst hA
      go_wp2
      · go_ret
        exact ⟨ret_bool (Hf.out (inB_false ‹_›)).symm, rfl⟩
      · go_round
        case rel => exact ⟨k + 1, by omega, by go_num, by rw [Hs.out]; exact inB_true ‹_›⟩
        case measure => simp [intOf]; omega
      · go_ret
        exact ⟨ret_bool (Hf.out (inB_false (.inl ‹_›))).symm, rfl⟩
    · go_wp2
      go_ret
      exact ⟨ret_bool (by rw [← hall, List.take_of_length_le (by omega)]), rfl⟩
/-- How many letters. -/
def letters (m : List (List Int)) : Nat := (m.getD 0 []).length
def rowOk (m : List (List Int)) (r : List Int) : Bool := decide (r.length = letters m) && r.all (inB 0 ((m.length : Int) - 1))
def validM (m : List (List Int)) : Bool :=
  inB 1 60 m.length && (inB 1 6 (letters m) && m.all (rowOk m))
theorem between_one (lo hi n : Int) (b : Bool) (v : Value) (w : World) (h : Ints w v [n]) (hb : inB lo hi n = b) :
    Calls Tryd.prog 66 #[.int .i64 lo, .int .i64 hi, v] w fun e w' => e = .returned (.bool b) ∧ w = w' := by
  have := between_any lo hi v [n] w h
  simpa [hb] using this
set_option maxHeartbeats 400000 in
theorem areStates_any (v u : Value) (m : List (List Int)) (l : List Int) (w : World) (h : Rows w v m) (hu : Ints w u l) :
    Calls Tryd.prog 67 #[.agg #[v], u] w fun e w' => e = .returned (.bool (l.all (inB 0 ((m.length : Int) - 1)))) ∧ Below w.heap.size w w' := by
  have hu1 := hu.alloc (.cells #[v] 67)
  obtain ⟨A, cap, rfl, hl, hc⟩ := h
  unfold big at hl
  clear hc
  go_enter Tryd.func67, Tryd.ntmps67
  go_wp2_with (go_at_call 66; refine (between_any _ _ _ l _ hu1).mono ?_; rintro e w' ⟨rfl, rfl⟩)
  go_ret
  exact ⟨rfl, (Below.refl _ _).alloc (Nat.le_refl _) _⟩
theorem areStates_bool (v u : Value) (m : List (List Int)) (l : List Int) (b : Bool) (w : World) (h : Rows w v m) (hu : Ints w u l) (hb : l.all (inB 0 ((m.length : Int) - 1)) = b) :
    Calls Tryd.prog 67 #[.agg #[v], u] w fun e w' => e = .returned (.bool b) ∧ Below w.heap.size w w' := by
  subst hb; exact areStates_any v u m l w h hu
set_option maxHeartbeats 400000 in
theorem Valid_any (v : Value) (m : List (List Int)) (w : World) (h : Rows w v m) :
    Calls Tryd.prog 52 #[.agg #[v]] w fun e w' => e = .returned (.bool (validM m)) ∧ Below w.heap.size w w' := by
  have hr := h
  obtain ⟨A, cap, rfl, hl, hc⟩ := h
  unfold big at hl
  by_cases h1 : inB 1 60 m.length = true
  · have hpos : 0 < m.length := by simp [inB] at h1; omega
    obtain ⟨b, off, r0, hA, hcell0, hr0⟩ := hc 0 hpos
    subst hA
    obtain ⟨A0, cap0, rfl, hl0, hc0⟩ := hr0
    unfold big at hl0
    rw [Nat.add_zero] at hcell0
    have hbl : b < w.heap.size := World.block_lt_of_cell? _ _ hcell0
    have hlet : (m.getD 0 []).length = letters m := rfl
    rw [hlet] at hcell0 hl0
    clear hc0
    by_cases h2 : inB 1 6 (letters m) = true
    · have Hc := hid hc
      clear hc
      have hin : (0 : Int) < m.length := by omega
      go_enter Tryd.func52, Tryd.ntmps52
      go_wp2_with fail
      refine (between_one 1 60 m.length true _ _ (Ints.one' _ _ _ _ (by simp)) h1).mono ?_
      rintro e w1 ⟨rfl, rfl⟩
      go_wp2_with fail
      refine (between_one 1 6 (letters m) true _ _ (Ints.one' _ _ _ _ (by simp)) h2).mono ?_
      rintro e w1 ⟨rfl, rfl⟩
      go_wp2_with fail
      go_loopw [24] (fun i wr => ∃ k : Nat, k ≤ m.length ∧ i = .int .i64 k ∧ (m.take k).all (rowOk m) = true ∧ Below w.heap.size w wr ∧ wr.cell? ⟨w.heap.size, 0, none⟩ = some (.slice (some ⟨b, off, none⟩) m.length cap))
        (fun i _ => m.length - (intOf i).toNat)
      case atStart => exact ⟨0, Nat.zero_le _, rfl, rfl, bal (bal (bal (Below.refl _ _) _) _) _, by simp [go_sem]⟩
      case round =>
        obtain ⟨k, hk, rfl, hall, hB, hbox⟩ := hrel
        have hsz : w.heap.size < wr.heap.size := World.block_lt_of_cell? _ _ hbox
        by_cases hlt : k < m.length
        · obtain ⟨b', off', r, hA', hcell, hrow⟩ := Hc.out k hlt
          cases hA'
          have hrowc : wr.cell? ⟨b, off + k, none⟩ = some r := (hB.cell (p := ⟨b, off + k, none⟩) hbl).trans hcell
          have hroww := hrow.below hB
          have hrw := hr.below hB
          have Hs := hid (all_snoc_take (rowOk m) m [] k hlt)
          have Hf := hid (all_false_of (rowOk m) m [] k hlt)
          clear hrow hcell hcell0
          generalize m.getD k [] = row at *
          have hroww' := hroww
          obtain ⟨Ar, capr, rfl, hlr, hcr⟩ := hroww
          unfold big at hlr
          clear hcr
          have hv1 : validM m = m.all (rowOk m) := by simp [validM, h1, h2]
          have Hv := hid hv1
          have Ha := hid hall
          clear hv1 hall
          by_cases hle : row.length = letters m
          · have hne : ((row.length : Int) != (letters m : Int)) = false := by simp; omega
            by_cases hst : row.all (inB 0 ((m.length : Int) - 1)) = true
            · have Hle := hid hle
              clear hle
              go_wp2_with fail
              refine (areStates_bool _ _ m row true _ hrw hroww' hst).mono ?_
              rintro e w1 ⟨rfl, hb1⟩
              have hbx : w1.cell? ⟨w.heap.size, 0, none⟩ = some (.slice (some ⟨b, off, none⟩) m.length cap) := (hb1.cell (p := ⟨w.heap.size, 0, none⟩) hsz).trans hbox
              go_wp2
              go_roundw
              case rel => exact ⟨k + 1, by omega, by go_num, by rw [Hs.out, Ha.out]; simp [rowOk, Hle.out, hst], btr hB hb1, hbx⟩
              case measure => simp [intOf]; omega
            · have hst' : row.all (inB 0 ((m.length : Int) - 1)) = false := by simpa using hst
              have Hle := hid hle
              clear hle hst
              go_wp2_with fail
              refine (areStates_bool _ _ m row false _ hrw hroww' hst').mono ?_
              rintro e w1 ⟨rfl, hb1⟩
              go_wp2
              go_ret
              exact ⟨ret_bool (by rw [Hv.out, Hf.out]; simp [rowOk, hst']), btr hB hb1⟩
          · have hne : ((row.length : Int) != (letters m : Int)) = true := by simp; omega
            have Hle := hid hle
            clear hle
            go_wp2
            go_ret
            exact ⟨ret_bool (by rw [Hv.out, Hf.out]; simp [rowOk, Hle.out]), hB⟩
        · go_wp2
          go_ret
          exact ⟨ret_bool (by rw [← hall, List.take_of_length_le (by omega)]; simp [validM, h1, h2]), hB⟩
    · have h2' : inB 1 6 (letters m) = false := by simpa using h2
      have Hc := hid hc
      clear hc
      have hin : (0 : Int) < m.length := by omega
      go_enter Tryd.func52, Tryd.ntmps52
      go_wp2_with fail
      refine (between_one 1 60 m.length true _ _ (Ints.one' _ _ _ _ (by simp)) h1).mono ?_
      rintro e w1 ⟨rfl, rfl⟩
      go_wp2_with fail
      refine (between_one 1 6 (letters m) false _ _ (Ints.one' _ _ _ _ (by simp)) h2').mono ?_
      rintro e w1 ⟨rfl, rfl⟩
      go_wp2
      go_ret
      exact ⟨ret_bool (by simp [validM, h2']), bal (bal (bal (Below.refl _ _) _) _) _⟩
  · have h1' : inB 1 60 m.length = false := by simpa using h1
    clear hc
    go_enter Tryd.func52, Tryd.ntmps52
    go_wp2_with fail
    refine (between_one 1 60 m.length false _ _ (Ints.one' _ _ _ _ (by simp)) h1').mono ?_
    rintro e w1 ⟨rfl, rfl⟩
    go_wp2
    go_ret
    exact ⟨ret_bool (by simp [validM, h1']), bal (bal (Below.refl _ _) _) _⟩
end Go.Proofs.YtbhhemidnmaodaaDoor
namespace Go.Proofs.YtbhhemidnmaodaaDoor
open Go.RowKit
def isWordM (m : List (List Int)) (u : List Int) : Bool := decide (u.length ≤ 40000) && u.all (inB 0 ((letters m : Int) - 1))
/-- Where a letter leads, and a word. -/
def nx (m : List (List Int)) (s : Nat) (x : Int) : Nat := ((m.getD s []).getD x.toNat 0).toNat
def runM (m : List (List Int)) (s : Nat) (u : List Int) : Nat := u.foldl (nx m) s
theorem all_getD {α : Type} (p : α → Bool) (l : List α) (d : α) (h : l.all p = true) (i : Nat) (hi : i < l.length) : p (l.getD i d) = true := by
  rw [List.all_eq_true] at h
  have e : l.getD i d = l[i] := by simp [List.getD_eq_getElem?_getD, List.getElem?_eq_getElem hi]
  rw [e]; exact h _ (List.getElem_mem _)
theorem inB_iff {lo hi n : Int} : inB lo hi n = true ↔ lo ≤ n ∧ n ≤ hi := by simp [inB]
theorem valid_parts {m : List (List Int)} (h : validM m = true) : 1 ≤ m.length ∧ m.length ≤ 60 ∧ 1 ≤ letters m ∧ letters m ≤ 6 ∧
    ∀ i, i < m.length → (m.getD i []).length = letters m ∧ ∀ j, j < letters m → 0 ≤ (m.getD i []).getD j 0 ∧ (m.getD i []).getD j 0 < m.length := by
  simp only [validM, Bool.and_eq_true, inB_iff] at h
  obtain ⟨⟨a, b⟩, ⟨c, d⟩, e⟩ := h
  refine ⟨by omega, by omega, by omega, by omega, fun i hi => ?_⟩
  have hr := all_getD _ m [] e i hi
  simp only [rowOk, Bool.and_eq_true, decide_eq_true_eq] at hr
  refine ⟨hr.1, fun j hj => ?_⟩
  have := all_getD _ _ 0 hr.2 j (by omega)
  rw [inB_iff] at this
  omega
theorem nx_ok {m : List (List Int)} (h : validM m = true) {s : Nat} (hs : s < m.length) {x : Int} (h0 : 0 ≤ x) (h1 : x < letters m) :
    nx m s x < m.length ∧ (m.getD s []).getD x.toNat 0 = (nx m s x : Int) := by
  have := ((valid_parts h).2.2.2.2 s hs).2 x.toNat (by omega)
  unfold nx
  omega
theorem runM_lt {m : List (List Int)} (h : validM m = true) : ∀ (u : List Int) (s : Nat), s < m.length → u.all (inB 0 ((letters m : Int) - 1)) = true → runM m s u < m.length
  | [], s, hs, _ => hs
  | x :: u, s, hs, hu => by
    simp only [List.all_cons, Bool.and_eq_true, inB_iff] at hu
    exact runM_lt h u _ (nx_ok h hs hu.1.1 (by omega)).1 hu.2
theorem runM_snoc (m : List (List Int)) (s : Nat) (u : List Int) (k : Nat) (hk : k < u.length) : runM m s (u.take (k + 1)) = nx m (runM m s (u.take k)) (u.getD k 0) := by
  unfold runM
  rw [List.take_succ_eq_append_getElem hk, List.foldl_append]
  simp [List.getD_eq_getElem?_getD, List.getElem?_eq_getElem hk]
theorem all_take {α : Type} (p : α → Bool) (l : List α) (h : l.all p = true) (k : Nat) : (l.take k).all p = true := by
  rw [List.all_eq_true] at h ⊢
  exact fun x hx => h x (List.mem_of_mem_take hx)
set_option maxHeartbeats 400000 in
theorem isWord_any (v u : Value) (m : List (List Int)) (l : List Int) (w : World) (h : Rows w v m) (hv : validM m = true) (hu : Ints w u l) :
    Calls Tryd.prog 68 #[.agg #[v], u] w fun e w' => e = .returned (.bool (isWordM m l)) ∧ Below w.heap.size w w' := by
  have hu1 := hu.alloc (.cells #[v] 67)
  obtain ⟨p1, p2, p3, p4, p5⟩ := valid_parts hv
  obtain ⟨A, cap, rfl, hl, hc⟩ := h
  obtain ⟨b, off, r0, hA, hcell0, hr0⟩ := hc 0 (by omega)
  subst hA
  obtain ⟨A0, cap0, rfl, hl0, hc0⟩ := hr0
  obtain ⟨Au, capu, rfl, hlu, hcu⟩ := hu
  rw [Nat.add_zero] at hcell0
  have hlet : (m.getD 0 []).length = letters m := rfl
  rw [hlet] at hcell0
  have hbl : b < w.heap.size := World.block_lt_of_cell? _ _ hcell0
  have hin : (0 : Int) < m.length := by omega
  unfold big at hlu
  clear hc hc0 hcu hl hl0 hlet p5
  by_cases hlen : l.length ≤ 40000
  · have hle : decide ((l.length : Int) ≤ 40000) = true := by simp; omega
    go_enter Tryd.func68, Tryd.ntmps68
    go_wp2_with (go_at_call 66; refine (between_any _ _ _ l _ hu1).mono ?_; rintro e w' ⟨rfl, rfl⟩)
    go_ret
    exact ⟨ret_bool (by simp [isWordM, hlen]), bal (Below.refl _ _) _⟩
  · have hle : decide ((l.length : Int) ≤ 40000) = false := by simp; omega
    go_enter Tryd.func68, Tryd.ntmps68
    go_wp2
    go_ret
    exact ⟨ret_bool (by simp [isWordM, hlen]), bal (Below.refl _ _) _⟩
set_option maxHeartbeats 400000 in
theorem run_any (v u : Value) (m : List (List Int)) (s : Nat) (l : List Int) (w : World) (h : Rows w v m) (hv : validM m = true) (hs : s < m.length) (hu : Ints w u l) (hl : l.all (inB 0 ((letters m : Int) - 1)) = true) :
    Calls Tryd.prog 69 #[.agg #[v], .int .i64 s, u] w fun e w' => e = .returned (.int .i64 (runM m s l)) ∧ Below w.heap.size w w' := by
  obtain ⟨A, cap, rfl, hml, hc⟩ := h
  obtain ⟨Au, capu, rfl, hlu, hcu⟩ := hu
  unfold big at hml hlu
  go_enter Tryd.func69, Tryd.ntmps69
  go_wp2
  go_loopw [1, 11] (fun s' i wr => ∃ k : Nat, k ≤ l.length ∧ i = .int .i64 k ∧ s' = .int .i64 (runM m s (l.take k)) ∧ Below w.heap.size w wr ∧ wr.cell? ⟨w.heap.size, 0, none⟩ = some (.slice A m.length cap)) (fun _ i _ => l.length - (intOf i).toNat)
  case atStart => exact ⟨0, Nat.zero_le _, rfl, rfl, bal (Below.refl _ _) _, by simp [go_sem]⟩
  case round =>
    obtain ⟨k, hk, rfl, rfl, hB, hbox⟩ := hrel
    by_cases hlt : k < l.length
    · have hq := runM_lt hv (l.take k) s hs (all_take _ _ hl k)
      have hx := all_getD _ l 0 hl k hlt
      rw [inB_iff] at hx
      have Hs := hid (runM_snoc m s l k hlt)
      obtain ⟨bu, offu, hAu, hcell⟩ := hcu k hlt
      subst hAu
      have hcu' := (hB.cell (p := ⟨bu, offu + k, none⟩) (World.block_lt_of_cell? _ _ hcell)).trans hcell
      generalize hqe : runM m s (l.take k) = q at *
      generalize l.getD k 0 = x at *
      obtain ⟨xn, rfl⟩ := Int.eq_ofNat_of_zero_le hx.1
      obtain ⟨b, off, r, hA, hrc, hr⟩ := hc q hq
      subst hA
      obtain ⟨Ar, capr, rfl, hlr, hcr⟩ := hr
      have hn := nx_ok hv hq hx.1 (by omega)
      have hrl := ((valid_parts hv).2.2.2.2 q hq).1
      obtain ⟨br, offr, hAr, hrcell⟩ := hcr xn (by omega)
      subst hAr
      rw [Int.toNat_natCast] at hn
      rw [hn.2] at hrcell
      have hrc' := (hB.cell (p := ⟨b, off + q, none⟩) (World.block_lt_of_cell? _ _ hrc)).trans hrc
      have hrcell' := (hB.cell (p := ⟨br, offr + xn, none⟩) (World.block_lt_of_cell? _ _ hrcell)).trans hrcell
      rw [hrl] at hrc'
      have hin1 : (q : Int) < m.length := by omega
      have hin2 : (xn : Int) < letters m := by omega
      clear hc hcu hcr hcell hrc hrcell hqe hl
      generalize nx m q (xn : Int) = y at *
      have Hn := hid hn.2
      clear hn hrl
      go_wp2
      go_roundw
      case rel => exact ⟨k + 1, by omega, by go_num, by rw [Hs.out], hB, hbox⟩
      case measure => simp [intOf]; omega
    · go_wp2
      go_ret
      exact ⟨ret_int (by rw [List.take_of_length_le (by omega)]), hB⟩
end Go.Proofs.YtbhhemidnmaodaaDoor
namespace Go.Proofs.YtbhhemidnmaodaaDoor
/-- The bit of an element, set. -/
theorem testBit_with (S x i : Nat) : (S ||| 2 ^ x).testBit i = (S.testBit i || decide (x = i)) := by
  rw [Nat.testBit_or, Nat.testBit_two_pow]
theorem with_lt (S x n : Nat) (hS : S < 2 ^ n) (hx : x < n) : S ||| 2 ^ x < 2 ^ n :=
  Nat.or_lt_two_pow hS (Nat.pow_lt_pow_right (by decide) hx)
end Go.Proofs.YtbhhemidnmaodaaDoor
namespace Go.Proofs.YtbhhemidnmaodaaDoor
def m0 : Nat := 0x5555555555555555
def m1 : Nat := 0x3333333333333333
def m2 : Nat := 0x0f0f0f0f0f0f0f0f
def s1 (x : Nat) : Nat := ((x >>> 1) &&& m0) + (x &&& m0)
def s2 (x : Nat) : Nat := ((x >>> 2) &&& m1) + (x &&& m1)
def s3 (x : Nat) : Nat := ((x >>> 4) + x) &&& m2
def s5 (x : Nat) : Nat := (x + x >>> 16) % 18446744073709551616
/-- The masks of n bytes, all of one make. -/
def mask (c : Nat) : Nat → Nat
  | 0 => 0
  | n + 1 => 256 * mask c n + c
def t1 (n x : Nat) : Nat := ((x / 2) &&& mask 0x55 n) + (x &&& mask 0x55 n)
def t2 (n x : Nat) : Nat := ((x / 4) &&& mask 0x33 n) + (x &&& mask 0x33 n)
def t3 (n x : Nat) : Nat := ((x / 16) + x) &&& mask 0x0f n
theorem b1 : ∀ b, b < 256 → ∀ t, t < 2 → ((b / 2 + 128 * t) &&& 0x55) = ((b / 2) &&& 0x55) := by decide +kernel
theorem b2 : ∀ b, b < 256 → ∀ t, t < 4 → ((b / 4 + 64 * t) &&& 0x33) = ((b / 4) &&& 0x33) := by decide +kernel
theorem b3 : ∀ b, b < 256 → ∀ t, t < 16 → b / 16 + b + 16 * t < 256 → ((b / 16 + b + 16 * t) &&& 0x0f) = ((b / 16 + b) &&& 0x0f) := by decide +kernel
def c1 (b : Nat) : Nat := ((b / 2) &&& 0x55) + (b &&& 0x55)
def c2 (b : Nat) : Nat := ((b / 4) &&& 0x33) + (b &&& 0x33)
def c3 (b : Nat) : Nat := (b / 16 + b) &&& 0x0f
end Go.Proofs.YtbhhemidnmaodaaDoor
namespace Go.Proofs.YtbhhemidnmaodaaDoor
open Go.RowKit
/-- The table of the library's, in its variable. -/
def Tab (w : World) : Prop := ∀ j, j < 64 → w.cell? ⟨7, j, none⟩ = some (.int .u8 (Lib.deBruijn64tab.getD j 0))
theorem Tab.below {w w' : World} {B : Nat} (h : Tab w) (hb : Below B w w') (hB : 7 < B) : Tab w' :=
  fun j hj => (hb.cell (p := ⟨7, j, none⟩) hB).trans (h j hj)
theorem Tab.lt {w : World} (h : Tab w) : 7 < w.heap.size := World.block_lt_of_cell? _ _ (h 0 (by decide))
theorem Tab.on {w w' : World} (h : Tab w) (hb : Below w.heap.size w w') : Tab w' := h.below hb h.lt
/-- The set of a list. -/
def ofList (l : List Int) : Nat := l.foldl (fun S x => S ||| 2 ^ x.toNat) 0
end Go.Proofs.YtbhhemidnmaodaaDoor
namespace Go.Proofs.YtbhhemidnmaodaaDoor
open Go.RowKit Go.Deep Go.ChangeShapes Go.WideShapes
section
variable {H : Type} {enc : TypeId × Value → H} {W : World} {base : Nat}
theorem weightsAll_mem {P : Program} {e : TypeId} : ∀ {l : List (DataW H)} {d : DataW H}, d ∈ l → ∀ n ∈ d.weights P e, n ∈ DataW.weightsAll P e l
  | [], _, h => by cases h
  | x :: r, d, h => by
    intro n hn
    rw [DataW.weightsAll, List.mem_append]
    rcases List.mem_cons.1 h with rfl | h'
    · exact .inl hn
    · exact .inr (weightsAll_mem h' n hn)
theorem bytes_int : Tryd.prog.bytesOf 3 = 8 := by kernel_rfl
theorem bytes_row : Tryd.prog.bytesOf 27 = 24 := by kernel_rfl
theorem cells_int : Tryd.prog.cellsOf 3 = 1 := by kernel_rfl
theorem cells_row : Tryd.prog.cellsOf 27 = 1 := by kernel_rfl
theorem reach_big {n : Nat} (h : n * 8 ≤ reachBytes) : n ≤ big := by unfold reachBytes at h; unfold big; omega
theorem add_spot {a : Addr} {i : Nat} {v : Value} (h : W.cell? (a.add i) = some v) : a.add i = ⟨a.block, a.off + i, none⟩ := by
  by_cases h0 : i = 0
  · subst h0
    simp only [Addr.add, if_true] at h ⊢
    obtain ⟨b, o, sp⟩ := a
    obtain rfl := cell_spot h
    rfl
  · simp [Addr.add, h0]
theorem row_ints {A : Option Addr} {L C : Nat} {zs : List Int} (hl : L ≤ C) (hz : zs.length = C) (hn : A = none → C = 0) (hc : ∀ a, A = some a → ∀ c, c < C → W.cell? (a.add c) = some (.int .i64 (zs.getD c 0))) (hb : C ≤ big) : Ints W (.slice A L C) (zs.take L) := by
  have hll : (zs.take L).length = L := by simp; omega
  refine ⟨A, C, by rw [hll], by omega, fun i hi => ?_⟩
  rw [hll] at hi
  cases A with
  | none => have := hn rfl; omega
  | some a =>
    have h1 := hc a rfl i (by omega)
    have h2 := add_spot h1
    refine ⟨a.block, a.off, ?_, ?_⟩
    · have h0 := add_spot (hc a rfl 0 (by omega))
      simp only [Addr.add, if_true, Nat.add_zero] at h0
      rw [h0]
    · rw [h2] at h1
      rw [h1]
      congr 2
      simp [List.getD_eq_getElem?_getD, List.getElem?_take, hi]
theorem ints_of_trod {fuel : Nat} {c : Value} {x : DataW H × List MemPlace} (h : DataW.trod enc Tryd.prog W base (fun _ => true) true fuel 27 [c] = some x) (hw : ∀ n ∈ x.1.weights Tryd.prog 27, n ≤ reachBytes) : ∃ l, Ints W c l := by
  rcases open_ints Tryd.underlying27 Tryd.underlying3 cells_int h with ⟨hc, _⟩ | ⟨a, len, cap, zs, hc, _, hl, _, hz, rfl, hcell, _⟩
  · obtain rfl : c = .slice none 0 0 := by simpa using hc
    exact ⟨[], none, 0, rfl, by simp, fun i hi => by simp at hi⟩
  · obtain rfl : c = .slice (some a) len cap := by simpa using hc
    simp only [if_true] at hz
    have hb := hw ((List.length (lits .i64 (zs.take len) : List (DataW H)) + List.length (lits .i64 (zs.drop len) : List (DataW H))) * Tryd.prog.bytesOf 3) (by simp [DataW.weights, Tryd.underlying27])
    rw [bytes_int] at hb
    simp only [lits, List.length_map, List.length_take, List.length_drop] at hb
    refine ⟨zs.take len, row_ints hl hz (fun h => by cases h) (fun a' ha c hc' => ?_) (reach_big (by omega))⟩
    cases ha
    exact hcell c (by omega)
theorem rows_of_trod {fuel : Nat} {c : Value} {x : DataW H × List MemPlace} (h : DataW.trod enc Tryd.prog W base (fun _ => true) true fuel 22 [c] = some x) (hw : ∀ n ∈ x.1.weights Tryd.prog 22, n ≤ reachBytes) : ∃ m, Rows W c m := by
  rcases open_int_rows Tryd.underlying22 Tryd.underlying27 Tryd.underlying3 cells_row cells_int h with ⟨hc, _⟩ | ⟨a, len, cap, A, L, C, Z, hc, _, hl, _, rfl, hr⟩
  · obtain rfl : c = .slice none 0 0 := by simpa using hc
    exact ⟨[], none, 0, rfl, by simp, fun i hi => by simp at hi⟩
  · obtain rfl : c = .slice (some a) len cap := by simpa using hc
    have hlen : ((List.range len).map fun r => (Z r).take (L r)).length = len := by simp
    have hout := hw ((len + (cap - len)) * Tryd.prog.bytesOf 27) (by simp [DataW.weights, Tryd.underlying22])
    rw [bytes_row] at hout
    have hrow : ∀ r, r < len → C r ≤ big := by
      intro r hr'
      obtain ⟨_, hLC, _, hz, _, hn, _⟩ := hr r (by omega)
      cases hA : A r with
      | none => rw [hn hA]; exact Nat.zero_le _
      | some a' =>
        have hm : (intRow .i64 (A r) (L r) (Z r) : DataW H) ∈ (List.range len).map fun r => (intRow .i64 (A r) (L r) (Z r) : DataW H) := List.mem_map.2 ⟨r, by simpa using hr', rfl⟩
        have hb := hw ((List.length (lits .i64 ((Z r).take (L r)) : List (DataW H)) + List.length (lits .i64 ((Z r).drop (L r)) : List (DataW H))) * Tryd.prog.bytesOf 3) (by
          rw [DataW.weights, Tryd.underlying22]
          refine List.mem_cons_of_mem _ (List.mem_append_left _ (weightsAll_mem hm _ ?_))
          simp [intRow, hA, DataW.weights, Tryd.underlying27])
        rw [bytes_int] at hb
        simp only [lits, List.length_map, List.length_take, List.length_drop] at hb
        exact reach_big (by omega)
    refine ⟨(List.range len).map fun r => (Z r).take (L r), some a, cap, by rw [hlen], by rw [hlen]; unfold reachBytes at hout; unfold big; omega, fun i hi => ?_⟩
    rw [hlen] at hi
    obtain ⟨hcell, hLC, _, hz, _, hn, hcc⟩ := hr i (by omega)
    have h2 := add_spot hcell
    have h00 := add_spot (hr 0 (by omega)).1
    simp only [Addr.add, if_true, Nat.add_zero] at h00
    refine ⟨a.block, a.off, .slice (A i) (L i) (C i), by rw [h00], by rw [h2] at hcell; exact hcell, ?_⟩
    have e1 : ((List.range len).map fun r => (Z r).take (L r)).getD i [] = (Z i).take (L i) := by simp [List.getD_eq_getElem?_getD, hi]
    rw [e1]
    exact row_ints hLC hz hn (fun a' ha c hc' => (hcc a' ha).2 c hc') (hrow i hi)
end
end Go.Proofs.YtbhhemidnmaodaaDoor
namespace Go.Proofs.YtbhhemidnmaodaaDoor
open Go.RowKit
/-- The row of outputs of a state. -/
def outOk (m : List (List Int)) (r : List Int) : Bool := decide (r.length = letters m) && r.all (inB 0 15)
def validY (m o : List (List Int)) : Bool := validM m && (decide (o.length = m.length) && o.all (outOk m))
/-- The output of a letter. -/
def ox (o : List (List Int)) (s : Nat) (x : Int) : Int := (o.getD s []).getD x.toNat 0
def outsM (m o : List (List Int)) : Nat → List Int → List Int
  | _, [] => []
  | s, x :: u => ox o s x :: outsM m o (nx m s x) u
theorem validY_parts {m o : List (List Int)} (h : validY m o = true) : validM m = true ∧ o.length = m.length ∧
    ∀ i, i < m.length → (o.getD i []).length = letters m ∧ ∀ j, j < letters m → 0 ≤ (o.getD i []).getD j 0 ∧ (o.getD i []).getD j 0 < 16 := by
  simp only [validY, Bool.and_eq_true, decide_eq_true_eq] at h
  obtain ⟨a, b, e⟩ := h
  refine ⟨a, b, fun i hi => ?_⟩
  have hr := all_getD _ o [] e i (by omega)
  simp only [outOk, Bool.and_eq_true, decide_eq_true_eq] at hr
  refine ⟨hr.1, fun j hj => ?_⟩
  have := all_getD _ _ 0 hr.2 j (by omega)
  rw [inB_iff] at this
  omega
theorem validY_m {m o : List (List Int)} (h : validY m o = true) : validM m = true := (validY_parts h).1
theorem ox_ok {m o : List (List Int)} (h : validY m o = true) {s : Nat} (hs : s < m.length) {x : Int} (h0 : 0 ≤ x) (h1 : x < letters m) : 0 ≤ ox o s x ∧ ox o s x < 16 :=
  ((validY_parts h).2.2 s hs).2 x.toNat (by omega)
theorem outsM_length (m o : List (List Int)) : ∀ (u : List Int) (s : Nat), (outsM m o s u).length = u.length
  | [], _ => rfl
  | x :: u, s => by simp [outsM, outsM_length m o u]
theorem runM_appendY (m : List (List Int)) (s : Nat) (u v : List Int) : runM m s (u ++ v) = runM m (runM m s u) v := by simp [runM, List.foldl_append]
theorem outsM_append (m o : List (List Int)) : ∀ (u v : List Int) (s : Nat), outsM m o s (u ++ v) = outsM m o s u ++ outsM m o (runM m s u) v
  | [], _, _ => rfl
  | x :: u, v, s => by
    show ox o s x :: outsM m o (nx m s x) (u ++ v) = _
    rw [outsM_append m o u v]; rfl
theorem outsM_snoc (m o : List (List Int)) (s : Nat) (u : List Int) (k : Nat) (hk : k < u.length) : outsM m o s (u.take (k + 1)) = outsM m o s (u.take k) ++ [ox o (runM m s (u.take k)) (u.getD k 0)] := by
  rw [List.take_succ_eq_append_getElem hk, outsM_append]
  simp [List.getD_eq_getElem?_getD, List.getElem?_eq_getElem hk, outsM]
end Go.Proofs.YtbhhemidnmaodaaDoor
namespace Go.Proofs.YtbhhemidnmaodaaDoor
open Go.RowKit
/-- A relation that is an equivalence. -/
structure EqvR (E : Nat → Nat → Bool) : Prop where
  rfl' : ∀ s, E s s = true
  symm : ∀ s t, E s t = true → E t s = true
  trans : ∀ s t u, E s t = true → E t u = true → E s u = true
/-- The first one that is like s. -/
def firstE (E : Nat → Nat → Bool) (s : Nat) : Nat := ((List.range s).find? (E s)).getD s
def newE (E : Nat → Nat → Bool) (i : Nat) : Bool := (List.range i).all fun j => !E i j
def cntE (E : Nat → Nat → Bool) : Nat → Nat
  | 0 => 0
  | s + 1 => cntE E s + (if newE E s then 1 else 0)
/-- The number of the class of s: the classes are numbered as they come. -/
def numE (E : Nat → Nat → Bool) (s : Nat) : Nat := cntE E (firstE E s)
variable {E : Nat → Nat → Bool}
theorem newE_iff (i : Nat) : newE E i = true ↔ ∀ j, j < i → E i j = false := by simp [newE]
theorem firstE_le (s : Nat) : firstE E s ≤ s := by
  unfold firstE
  cases h : (List.range s).find? (E s) with
  | none => exact Nat.le_refl _
  | some j => have := List.mem_of_find?_eq_some h; simp at this; simp; omega
theorem firstE_like (h : EqvR E) (s : Nat) : E s (firstE E s) = true := by
  unfold firstE
  cases hf : (List.range s).find? (E s) with
  | none => exact h.rfl' s
  | some j => exact List.find?_some hf
theorem firstE_least (s j : Nat) (hj : j < firstE E s) : E s j = false := by
  unfold firstE at hj
  cases hf : (List.range s).find? (E s) with
  | none =>
    rw [hf] at hj
    have := (List.find?_eq_none.1 hf) j (by simpa using hj)
    simpa using this
  | some k =>
    rw [hf] at hj
    simp only [Option.getD_some] at hj
    have hk := List.mem_of_find?_eq_some hf
    rw [List.find?_eq_some_iff_append] at hf
    obtain ⟨_, ax, bs, he, ha⟩ := hf
    have hal : ax.length = k := by
      have h1 : (List.range s)[ax.length]? = some k := by rw [he]; simp
      have h2 := (List.getElem?_eq_some_iff.1 h1)
      obtain ⟨h3, h4⟩ := h2
      simpa using h4
    have hm : j ∈ ax := by
      have h1 : (List.range s)[j]? = some j := by
        have hk' := List.mem_range.1 hk
        rw [List.getElem?_range (by omega)]
      rw [he, List.getElem?_append_left (by omega)] at h1
      exact List.mem_of_getElem? h1
    have := ha j hm
    simpa using this
theorem firstE_new (h : EqvR E) (s : Nat) : newE E (firstE E s) = true := by
  rw [newE_iff]
  intro j hj
  have := firstE_least s j hj
  cases hc : E (firstE E s) j with
  | false => rfl
  | true => rw [h.trans _ _ _ (firstE_like h s) hc] at this; cases this
theorem firstE_self {s : Nat} (hn : newE E s = true) : firstE E s = s := by
  unfold firstE
  rw [List.find?_eq_none.2 (fun j hj => by rw [(newE_iff s).1 hn j (by simpa using hj)]; simp)]
  rfl
theorem firstE_eq (h : EqvR E) {s t : Nat} (he : E s t = true) : firstE E s = firstE E t := by
  rcases Nat.lt_trichotomy (firstE E s) (firstE E t) with h1 | h1 | h1
  · have := firstE_least t _ h1
    rw [h.trans _ _ _ (h.symm _ _ he) (firstE_like h s)] at this; cases this
  · exact h1
  · have := firstE_least s _ h1
    rw [h.trans _ _ _ he (firstE_like h t)] at this; cases this
theorem cntE_mono {a b : Nat} (h : a ≤ b) : cntE E a ≤ cntE E b := by
  induction b with
  | zero => obtain rfl : a = 0 := by omega
            exact Nat.le_refl _
  | succ b ih =>
    by_cases e : a = b + 1
    · subst e; exact Nat.le_refl _
    · have := ih (by omega); show _ ≤ cntE E b + _; omega
theorem cntE_new {a b : Nat} (ha : newE E a = true) (h : a < b) : cntE E a < cntE E b := by
  have h1 : cntE E (a + 1) = cntE E a + 1 := by show cntE E a + _ = _; rw [if_pos ha]
  have := cntE_mono (E := E) (show a + 1 ≤ b from h)
  omega
theorem cntE_le (s : Nat) : cntE E s ≤ s := by
  induction s with
  | zero => exact Nat.le_refl _
  | succ s ih => show cntE E s + _ ≤ _; split <;> omega
theorem numE_lt (h : EqvR E) {s n : Nat} (hs : s < n) : numE E s < cntE E n :=
  cntE_new (firstE_new h s) (by have := firstE_le (E := E) s; omega)
theorem numE_iff (h : EqvR E) (s t : Nat) : numE E s = numE E t ↔ E s t = true := by
  constructor
  · intro he
    have hf : firstE E s = firstE E t := by
      rcases Nat.lt_trichotomy (firstE E s) (firstE E t) with h1 | h1 | h1
      · have := cntE_new (firstE_new h s) h1; unfold numE at he; omega
      · exact h1
      · have := cntE_new (firstE_new h t) h1; unfold numE at he; omega
    have h1 := firstE_like h s
    rw [hf] at h1
    exact h.trans _ _ _ h1 (h.symm _ _ (firstE_like h t))
  · intro he; unfold numE; rw [firstE_eq h he]
theorem numE_new {s : Nat} (hn : newE E s = true) : numE E s = cntE E s := by unfold numE; rw [firstE_self hn]
/-- Only what holds below n tells the numbers below n. -/
theorem cntE_congr {E F : Nat → Nat → Bool} {n : Nat} (h : ∀ s t, s < n → t < n → E s t = F s t) : ∀ s, s ≤ n → cntE E s = cntE F s := by
  intro s
  induction s with
  | zero => intro _; rfl
  | succ s ih =>
    intro hs
    have hn : newE E s = newE F s := by
      rw [Bool.eq_iff_iff, newE_iff, newE_iff]
      exact ⟨fun k j hj => by rw [← h s j (by omega) (by omega)]; exact k j hj, fun k j hj => by rw [h s j (by omega) (by omega)]; exact k j hj⟩
    show cntE E s + _ = cntE F s + _
    rw [ih (by omega), hn]
theorem firstE_congr {E F : Nat → Nat → Bool} {n : Nat} (h : ∀ s t, s < n → t < n → E s t = F s t) {s : Nat} (hs : s < n) : firstE E s = firstE F s := by
  unfold firstE
  have : ∀ l : List Nat, (∀ x ∈ l, x < n) → l.find? (E s) = l.find? (F s) := by
    intro l
    induction l with
    | nil => intro _; rfl
    | cons x l ih =>
      intro hl
      rw [List.find?_cons, List.find?_cons, h s x hs (hl x (by simp)), ih (fun y hy => hl y (by simp [hy]))]
  rw [this _ (fun x hx => by simp at hx; omega)]
theorem numE_congr {E F : Nat → Nat → Bool} {n : Nat} (h : ∀ s t, s < n → t < n → E s t = F s t) {s : Nat} (hs : s < n) : numE E s = numE F s := by
  unfold numE
  rw [firstE_congr h hs, cntE_congr h _ (by have := firstE_le (E := F) s; omega)]
/-- A finer relation with no more classes is the same. -/
theorem cntE_finer {E F : Nat → Nat → Bool} {n : Nat} (h : ∀ s t, s < n → t < n → F s t = true → E s t = true) : ∀ s, s ≤ n → (∀ i, i < s → newE E i = true → newE F i = true) ∧ cntE E s ≤ cntE F s := by
  intro s
  induction s with
  | zero => intro _; exact ⟨fun i hi => by omega, Nat.le_refl _⟩
  | succ s ih =>
    intro hs
    obtain ⟨i1, i2⟩ := ih (by omega)
    have key : newE E s = true → newE F s = true := by
      rw [newE_iff, newE_iff]
      intro k j hj
      cases hF : F s j with
      | false => rfl
      | true => have := k j hj; rw [h s j (by omega) (by omega) hF] at this; cases this
    refine ⟨fun i hi => ?_, ?_⟩
    · by_cases e : i = s
      · subst e; exact key
      · exact i1 i (by omega)
    · show cntE E s + _ ≤ cntE F s + _
      cases h1 : newE E s with
      | false => simp; omega
      | true => rw [key h1]; simp; omega
theorem finer_news {E F : Nat → Nat → Bool} {n : Nat} (h : ∀ s t, s < n → t < n → F s t = true → E s t = true) : ∀ s, s ≤ n → cntE F s ≤ cntE E s → ∀ i, i < s → newE F i = true → newE E i = true := by
  intro s
  induction s with
  | zero => intro _ _ i hi; omega
  | succ s ih =>
    intro hs hc i hi hF
    have h1 := (cntE_finer h s (by omega)).2
    have h2 := (cntE_finer h (s + 1) hs).1 s (by omega)
    have hc' : cntE F s + (if newE F s then 1 else 0) ≤ cntE E s + (if newE E s then 1 else 0) := hc
    have h3 : newE F s = true → newE E s = true := by
      intro hk
      cases h4 : newE E s with
      | true => rfl
      | false => rw [hk, h4] at hc'; simp at hc'; omega
    have h5 : cntE F s ≤ cntE E s := by
      cases h4 : newE E s with
      | true => rw [h2 h4, h4] at hc'; simpa using hc'
      | false =>
        have h6 : newE F s = false := by cases h7 : newE F s with
          | false => rfl
          | true => rw [h3 h7] at h4; cases h4
        rw [h4, h6] at hc'; simpa using hc'
    by_cases e : i = s
    · subst e; exact h3 hF
    · exact ih (by omega) h5 i (by omega) hF
theorem finer_same {E F : Nat → Nat → Bool} (hE : EqvR E) (hF : EqvR F) {n : Nat} (h : ∀ s t, s < n → t < n → F s t = true → E s t = true) (hc : cntE F n ≤ cntE E n) : ∀ s t, s < n → t < n → E s t = F s t := by
  intro s t hs ht
  rw [Bool.eq_iff_iff]
  refine ⟨fun he => ?_, h s t hs ht⟩
  have ha := firstE_le (E := F) s
  have hb := firstE_le (E := F) t
  have na := finer_news h n (Nat.le_refl _) hc _ (by omega) (firstE_new hF s)
  have nb := finer_news h n (Nat.le_refl _) hc _ (by omega) (firstE_new hF t)
  have la := firstE_like hF s
  have lb := firstE_like hF t
  have hab : E (firstE F s) (firstE F t) = true := hE.trans _ _ _ (hE.trans _ _ _ (hE.symm _ _ (h _ _ hs (by omega) la)) he) (h _ _ ht (by omega) lb)
  have e : firstE F s = firstE F t := by
    rcases Nat.lt_trichotomy (firstE F s) (firstE F t) with h1 | h1 | h1
    · have := (newE_iff _).1 nb _ h1
      rw [hE.symm _ _ hab] at this; cases this
    · exact h1
    · have := (newE_iff _).1 na _ h1
      rw [hab] at this; cases this
  rw [e] at la
  exact hF.trans _ _ _ la (hF.symm _ _ lb)
/-- A machine as functions: n states, K letters, outputs g, next states f. -/
def eqG (K : Nat) (g : Nat → Nat → Int) (f : Nat → Nat → Nat) : Nat → Nat → Nat → Bool
  | 0, _, _ => true
  | k + 1, s, t => (List.range K).all fun x => (g s x == g t x) && eqG K g f k (f s x) (f t x)
def outsG (g : Nat → Nat → Int) (f : Nat → Nat → Nat) : Nat → List Nat → List Int
  | _, [] => []
  | s, x :: u => g s x :: outsG g f (f s x) u
section
variable (n K : Nat) (g : Nat → Nat → Int) (f : Nat → Nat → Nat)
theorem eqG_succ (k s t : Nat) : eqG K g f (k + 1) s t = true ↔ ∀ x : Nat, x < K → g s x = g t x ∧ eqG K g f k (f s x) (f t x) = true := by
  simp [eqG]
theorem eqG_eqv : ∀ k, EqvR (eqG K g f k)
  | 0 => ⟨fun _ => rfl, fun _ _ _ => rfl, fun _ _ _ _ _ => rfl⟩
  | k + 1 => by
    have ih := eqG_eqv k
    refine ⟨fun s => ?_, fun s t => ?_, fun s t u => ?_⟩
    · rw [eqG_succ]; exact fun x _ => ⟨rfl, ih.rfl' _⟩
    · rw [eqG_succ, eqG_succ]; exact fun h x hx => ⟨(h x hx).1.symm, ih.symm _ _ (h x hx).2⟩
    · rw [eqG_succ, eqG_succ, eqG_succ]; exact fun h k x hx => ⟨(h x hx).1.trans (k x hx).1, ih.trans _ _ _ (h x hx).2 (k x hx).2⟩
theorem eqG_mono : ∀ (k s t : Nat), eqG K g f (k + 1) s t = true → eqG K g f k s t = true
  | 0, _, _, _ => rfl
  | k + 1, s, t, h => by
    rw [eqG_succ] at h ⊢
    exact fun x hx => ⟨(h x hx).1, eqG_mono k _ _ (h x hx).2⟩
def clsG (k s : Nat) : Nat := numE (eqG K g f k) s
def cntG (k : Nat) : Nat := cntE (eqG K g f k) n
theorem clsG_zero (s : Nat) : clsG K g f 0 s = 0 := by
  have h : firstE (eqG K g f 0) s = 0 := by
    cases s with
    | zero => exact Nat.le_zero.1 (firstE_le 0)
    | succ s =>
      rcases Nat.eq_zero_or_pos (firstE (eqG K g f 0) (s + 1)) with h | h
      · exact h
      · have := firstE_least (E := eqG K g f 0) (s + 1) 0 h; cases this
  unfold clsG numE; rw [h]; rfl
theorem cntG_zero (h : 0 < n) : cntG n K g f 0 = 1 := by
  have : ∀ n, cntE (eqG K g f 0) (n + 1) = 1 := by
    intro n
    induction n with
    | zero => rfl
    | succ n ih =>
      show cntE (eqG K g f 0) (n + 1) + _ = 1
      have hn : newE (eqG K g f 0) (n + 1) = false := by
        cases hn : newE (eqG K g f 0) (n + 1) with
        | false => rfl
        | true => have := (newE_iff _).1 hn 0 (by omega); cases this
      rw [ih, hn]; rfl
  unfold cntG
  obtain ⟨j, hn⟩ : ∃ j, n = j + 1 := ⟨n - 1, by omega⟩
  rw [hn]; exact this j
theorem cntG_le (k : Nat) : cntG n K g f k ≤ n := cntE_le _
theorem cntG_mono (k : Nat) : cntG n K g f k ≤ cntG n K g f (k + 1) := (cntE_finer (fun s t _ _ h => eqG_mono K g f k s t h) _ (Nat.le_refl _)).2
/-- A round that makes no more classes changes nothing, and no later one does. -/
theorem cntG_stop (k : Nat) (h : cntG n K g f (k + 1) = cntG n K g f k) : ∀ s t, s < n → t < n → eqG K g f k s t = eqG K g f (k + 1) s t :=
  finer_same (eqG_eqv K g f k) (eqG_eqv K g f (k + 1)) (fun s t _ _ h => eqG_mono K g f k s t h) (Nat.le_of_eq h)
theorem eqG_stop (hf : ∀ s x, s < n → x < K → f s x < n) (k : Nat) (h : ∀ s t, s < n → t < n → eqG K g f k s t = eqG K g f (k + 1) s t) : ∀ d s t, s < n → t < n → eqG K g f k s t = eqG K g f (k + d) s t := by
  intro d
  induction d with
  | zero => intro s t _ _; rfl
  | succ d ih =>
    intro s t hs ht
    rw [h s t hs ht, Bool.eq_iff_iff]
    show _ ↔ eqG K g f (k + d + 1) s t = true
    rw [eqG_succ, eqG_succ]
    constructor
    · intro w x hx
      obtain ⟨g1, g2⟩ := w x hx
      exact ⟨g1, by rw [← ih _ _ (hf _ _ hs hx) (hf _ _ ht hx)]; exact g2⟩
    · intro w x hx
      obtain ⟨g1, g2⟩ := w x hx
      exact ⟨g1, by rw [ih _ _ (hf _ _ hs hx) (hf _ _ ht hx)]; exact g2⟩
/-- The first round that changes nothing comes before there are more rounds than classes. -/
theorem cntG_grow (h0 : 0 < n) : ∀ k, (∀ j, j < k → cntG n K g f (j + 1) ≠ cntG n K g f j) → k + 1 ≤ cntG n K g f k
  | 0, _ => by rw [cntG_zero n K g f h0]; exact Nat.le_refl _
  | k + 1, h => by
    have := cntG_grow h0 k (fun j hj => h j (by omega))
    have h1 := h k (by omega)
    have h2 := cntG_mono n K g f k
    omega
theorem cntG_stops (h0 : 0 < n) : ∃ k, k < n ∧ cntG n K g f (k + 1) = cntG n K g f k ∧ ∀ j, j < k → cntG n K g f (j + 1) ≠ cntG n K g f j := by
  have key : ∀ N, (∃ k, k < N ∧ cntG n K g f (k + 1) = cntG n K g f k ∧ ∀ j, j < k → cntG n K g f (j + 1) ≠ cntG n K g f j) ∨ ∀ j, j < N → cntG n K g f (j + 1) ≠ cntG n K g f j := by
    intro N
    induction N with
    | zero => right; intro j hj; omega
    | succ N ih =>
      rcases ih with ⟨k, hk, h1, h2⟩ | h
      · exact .inl ⟨k, by omega, h1, h2⟩
      · by_cases e : cntG n K g f (N + 1) = cntG n K g f N
        · exact .inl ⟨N, by omega, e, h⟩
        · refine .inr fun j hj => ?_
          by_cases ej : j = N
          · subst ej; exact e
          · exact h j (by omega)
  rcases key n with h | h
  · exact h
  · have h1 := cntG_grow n K g f h0 n h
    have h2 := cntG_le n K g f n
    omega
/-- Where the rounds stand still they have found the classes. -/
theorem stop_eqG (hf : ∀ s x, s < n → x < K → f s x < n) {k : Nat} (h : cntG n K g f (k + 1) = cntG n K g f k) : ∀ s t, s < n → t < n → eqG K g f k s t = eqG K g f n s t := by
  intro s t hs ht
  have h1 := eqG_stop n K g f hf k (cntG_stop n K g f k h)
  obtain ⟨j, hj, hj1, _⟩ := cntG_stops n K g f (by omega)
  have h2 := eqG_stop n K g f hf j (cntG_stop n K g f j hj1)
  have e1 := h1 n s t hs ht
  have e2 := h2 (n - j) s t hs ht
  have e3 := h2 (k + n - j) s t hs ht
  rw [show j + (n - j) = n by omega] at e2
  rw [show j + (k + n - j) = k + n by omega] at e3
  rw [e1, ← e3, e2]
end
/-- A machine in memory, as functions. -/
def gY (o : List (List Int)) (s x : Nat) : Int := ox o s (x : Int)
def fY (m : List (List Int)) (s x : Nat) : Nat := nx m s (x : Int)
theorem fY_ok {m : List (List Int)} (hv : validM m = true) : ∀ s x, s < m.length → x < letters m → fY m s x < m.length := fun s x hs hx => (nx_ok hv hs (x := (x : Int)) (by omega) (by omega)).1
theorem outsY_nat (m o : List (List Int)) : ∀ (u : List Nat) (s : Nat), outsM m o s (u.map fun x : Nat => (x : Int)) = outsG (gY o) (fY m) s u
  | [], _ => rfl
  | x :: u, s => by
    show ox o s x :: outsM m o (nx m s x) (u.map _) = _
    rw [outsY_nat m o u]; rfl
theorem word_nats {K : Nat} {u : List Int} (h : u.all (inB 0 ((K : Int) - 1)) = true) : ∃ v : List Nat, u = v.map (fun x : Nat => (x : Int)) ∧ ∀ x ∈ v, x < K := by
  refine ⟨u.map Int.toNat, ?_, ?_⟩
  · rw [List.map_map]
    conv => lhs; rw [← List.map_id u]
    refine List.map_congr_left fun x hx => ?_
    have := List.all_eq_true.1 h x hx
    rw [inB_iff] at this
    simp; omega
  · intro y hy
    obtain ⟨x, hx, rfl⟩ := List.mem_map.1 hy
    have := List.all_eq_true.1 h x hx
    rw [inB_iff] at this
    omega
/-- The class of a state after k rounds, the equivalence, the classes. -/
def eqR (m o : List (List Int)) (k s t : Nat) : Bool := eqG (letters m) (gY o) (fY m) k s t
def clsK (m o : List (List Int)) (k s : Nat) : Nat := numE (eqR m o k) s
def cntK (m o : List (List Int)) (k : Nat) : Nat := cntE (eqR m o k) m.length
def eqM (m o : List (List Int)) (s t : Nat) : Bool := eqR m o m.length s t
def clsS (m o : List (List Int)) (s : Nat) : Nat := clsK m o m.length s
theorem eqR_eqv (m o : List (List Int)) (k : Nat) : EqvR (eqR m o k) := eqG_eqv (letters m) (gY o) (fY m) k
theorem eqR_succ (m o : List (List Int)) (k s t : Nat) : eqR m o (k + 1) s t = true ↔ ∀ x : Nat, x < letters m → ox o s x = ox o t x ∧ eqR m o k (nx m s x) (nx m t x) = true := eqG_succ (letters m) (gY o) (fY m) k s t
theorem eqR_mono (m o : List (List Int)) (k s t : Nat) (h : eqR m o (k + 1) s t = true) : eqR m o k s t = true := eqG_mono (letters m) (gY o) (fY m) k s t h
theorem clsK_zero (m o : List (List Int)) (s : Nat) : clsK m o 0 s = 0 := clsG_zero (letters m) (gY o) (fY m) s
theorem cntK_zero {m : List (List Int)} (o : List (List Int)) (h : 0 < m.length) : cntK m o 0 = 1 := cntG_zero m.length (letters m) (gY o) (fY m) h
theorem cntK_le (m o : List (List Int)) (k : Nat) : cntK m o k ≤ m.length := cntE_le _
theorem cntK_mono (m o : List (List Int)) (k : Nat) : cntK m o k ≤ cntK m o (k + 1) := cntG_mono m.length (letters m) (gY o) (fY m) k
theorem stop_eqM {m : List (List Int)} (o : List (List Int)) (hv : validM m = true) {k : Nat} (h : cntK m o (k + 1) = cntK m o k) : ∀ s t, s < m.length → t < m.length → eqR m o k s t = eqM m o s t :=
  stop_eqG m.length (letters m) (gY o) (fY m) (fY_ok hv) h
theorem stop_cls {m : List (List Int)} (o : List (List Int)) (hv : validM m = true) {k : Nat} (h : cntK m o (k + 1) = cntK m o k) {s : Nat} (hs : s < m.length) : clsK m o k s = clsS m o s := numE_congr (stop_eqM o hv h) hs
end Go.Proofs.YtbhhemidnmaodaaDoor
namespace Go.Proofs.YtbhhemidnmaodaaDoor
open Go.RowKit Go.Shelf
/-- A set of blocks. -/
abbrev Blocks := Nat → Prop
/-- Only the blocks of X may have been turned; new ones may have come. -/
structure Turn (X : Blocks) (W W' : World) : Prop where
  os : W'.os = W.os
  tape : W'.tape = W.tape
  output : W'.output = W.output
  size : W.heap.size ≤ W'.heap.size
  block : ∀ k, k < W.heap.size → ¬ X k → W'.heap[k]? = W.heap[k]?
theorem Turn.refl (X : Blocks) (W : World) : Turn X W W := ⟨rfl, rfl, rfl, Nat.le_refl _, fun _ _ _ => rfl⟩
theorem Turn.trans {X Y : Blocks} {A B C : World} (h : Turn X A B) (k : Turn Y B C) (hXY : ∀ i, Y i → X i ∨ A.heap.size ≤ i) : Turn X A C :=
  ⟨k.os.trans h.os, k.tape.trans h.tape, k.output.trans h.output, Nat.le_trans h.size k.size, fun i hi hX => (k.block i (Nat.lt_of_lt_of_le hi h.size) (fun hY => by
    rcases hXY i hY with h1 | h1
    · exact hX h1
    · omega)).trans (h.block i hi hX)⟩
theorem Turn.of_below {X : Blocks} {W W' : World} (h : Below W.heap.size W W') : Turn X W W' := ⟨h.os, h.tape, h.output, h.size, fun k hk _ => h.block k hk⟩
/-- What a round keeps: whatever lies below n₀, and the iterator's own blocks. -/
structure Keep (n₀ : Nat) (X : Blocks) (W W' : World) : Prop where
  os : W'.os = W.os
  tape : W'.tape = W.tape
  output : W'.output = W.output
  size : W.heap.size ≤ W'.heap.size
  block : ∀ k, k < W.heap.size → (k < n₀ ∨ X k) → W'.heap[k]? = W.heap[k]?
theorem Keep.refl (n₀ : Nat) (X : Blocks) (W : World) : Keep n₀ X W W := ⟨rfl, rfl, rfl, Nat.le_refl _, fun _ _ _ => rfl⟩
theorem Keep.trans {n₀ : Nat} {X : Blocks} {A B C : World} (h : Keep n₀ X A B) (k : Keep n₀ X B C) : Keep n₀ X A C :=
  ⟨k.os.trans h.os, k.tape.trans h.tape, k.output.trans h.output, Nat.le_trans h.size k.size, fun i hi hX => (k.block i (Nat.lt_of_lt_of_le hi h.size) hX).trans (h.block i hi hX)⟩
theorem Keep.of_below {n₀ : Nat} {X : Blocks} {W W' : World} (h : Below W.heap.size W W') : Keep n₀ X W W' := ⟨h.os, h.tape, h.output, h.size, fun k hk _ => h.block k hk⟩
theorem Keep.below {n₀ : Nat} {X : Blocks} {W W' : World} (h : Keep n₀ X W W') (hn : n₀ ≤ W.heap.size) : Below n₀ W W' := ⟨h.os, h.tape, h.output, h.size, fun k hk => h.block k (Nat.lt_of_lt_of_le hk hn) (.inl hk)⟩
/-- A step that turns one block at most, which is neither. -/
theorem Keep.of_grownBy {n₀ : Nat} {X : Blocks} {W W' : World} {row : Option Nat} (hg : W.grownBy W' row) (hr : ∀ k, row = some k → n₀ ≤ k ∧ ¬ X k) : Keep n₀ X W W' :=
  ⟨hg.os, hg.tape, hg.output, hg.size, fun k hk hX => hg.block k hk (fun e => by
    obtain ⟨h1, h2⟩ := hr k e.symm
    rcases hX with h | h
    · omega
    · exact h2 h)⟩
/-- The caller's invariant minds neither a turn of the iterator's blocks, nor new ones, nor a turn of a block of book-keeping. -/
def Stable (B : Nat) {β : Type} (I : Blocks → β → World → Prop) : Prop :=
  ∀ X X' s W W', I X s W → W'.os = W.os → W'.tape = W.tape → W'.output = W.output → W.heap.size ≤ W'.heap.size →
    (∀ k o, W.heap[k]? = some o → ¬ X k → (k < B ∨ o.isCells = true) → W'.heap[k]? = some o) → (∀ k, X' k → X k ∨ W.heap.size ≤ k) → I X' s W'
/-- .. as the iterator is told of it. -/
def Minds {β : Type} (J : Blocks → β → World → Prop) : Prop :=
  ∀ X X' s W W', J X s W → Turn X W W' → (∀ k, X' k → X k ∨ W.heap.size ≤ k) → J X' s W'
/-- How a round may be left. -/
def postX {α : Type} (B n₀ : Nat) (I : Blocks → List α → World → Prop) (Ix : Code → Blocks → List α → World → Prop) (X : Blocks) (xs : List α) (W : World) : Exit → Act → World → Prop
  | .normal, _, W' => KeepsFrom B W W' ∧ Keep n₀ X W W' ∧ I X xs W'
  | .ret, _, W' => KeepsFrom B W W' ∧ Keep n₀ X W W' ∧ Ix .ret X xs W'
  | .exit id, _, W' => KeepsFrom B W W' ∧ Keep n₀ X W W' ∧ Ix (.exit id) X xs W'
  | .goto t, _, W' => KeepsFrom B W W' ∧ Keep n₀ X W W' ∧ Ix (.goto t) X xs W'
  | .panic _, _, _ => False
  | .outgrown, _, _ => False
theorem putObj_book (W : World) (l : Nat) (o' : Obj) : (W.putObj l o').os = W.os ∧ (W.putObj l o').tape = W.tape ∧ (W.putObj l o').output = W.output ∧ W.heap.size ≤ (W.putObj l o').heap.size :=
  ⟨rfl, rfl, rfl, by simp⟩
theorem Stable.put {B : Nat} {β : Type} {I : Blocks → β → World → Prop} (h : Stable B I) {X : Blocks} {s : β} {W : World} {l : Nat} {o : Obj} (o' : Obj) (hs : I X s W) (hB : B ≤ l) (hl : W.heap[l]? = some o) (ho : o.isCells = false) : I X s (W.putObj l o') := by
  obtain ⟨a, b, c, d⟩ := putObj_book W l o'
  refine h X X s W _ hs a b c d (fun k ok hk _ hc => ?_) (fun k hk => .inl hk)
  by_cases e : k = l
  · subst e
    rw [hl] at hk; cases hk
    rcases hc with h1 | h1
    · omega
    · rw [ho] at h1; cases h1
  · exact (World.putObj_heap_other e).trans hk
theorem Stable.new {B : Nat} {β : Type} {I : Blocks → β → World → Prop} (h : Stable B I) {X : Blocks} {s : β} {W : World} (o : Obj) (hs : I X s W) : I X s (W.alloc o) :=
  h X X s W _ hs rfl rfl rfl (by simp) (fun k ok hk _ _ => (Below.heap_alloc W o k (Array.getElem?_eq_some_iff.1 hk).1).trans hk) (fun k hk => .inl hk)
theorem keep_put {n₀ : Nat} {X : Blocks} {W : World} {l : Nat} (o' : Obj) (hn : n₀ ≤ l) (hX : ¬ X l) : Keep n₀ X W (W.putObj l o') := by
  obtain ⟨a, b, c, d⟩ := putObj_book W l o'
  refine ⟨a, b, c, d, fun k hk hc => World.putObj_heap_other (fun e => ?_)⟩
  subst e
  rcases hc with h | h
  · omega
  · exact hX h
theorem Stable.and {B : Nat} {β : Type} {I J : Blocks → β → World → Prop} (h : Stable B I) (k : Stable B J) : Stable B (fun X s W => I X s W ∧ J X s W) :=
  fun X X' s W W' hs a b c d e f => ⟨h X X' s W W' hs.1 a b c d e f, k X X' s W W' hs.2 a b c d e f⟩
theorem stable_pure (B : Nat) {β : Type} (p : β → Prop) : Stable B (fun _ s _ => p s) := fun _ _ _ _ _ hs _ _ _ _ _ _ => hs
/-- A box that is none of the iterator's. -/
def Mine (X : Blocks) (W : World) (b : Nat) (t : TypeId) (v : Value) : Prop := Boxed W b t v ∧ ¬ X b
theorem stable_box (B b : Nat) (t : TypeId) {β : Type} (f : β → Value) : Stable B (fun X s W => Mine X W b t (f s)) := by
  rintro X X' s W W' ⟨h, hX⟩ _ _ _ _ e hX'
  refine ⟨e b _ h hX (.inr rfl), fun hb => ?_⟩
  rcases hX' b hb with h1 | h1
  · exact hX h1
  · have := h.lt; omega
/-- What lay below n₀ lies as it lay; the iterator's blocks lie beyond. -/
def Base (n₀ : Nat) (w : World) (X : Blocks) (W : World) : Prop := (∀ k, X k → n₀ ≤ k) ∧ Below n₀ w W
theorem stable_base (B n₀ : Nat) (w : World) (hB : n₀ ≤ B) (hw : n₀ ≤ w.heap.size) {β : Type} : Stable B (fun X (_ : β) W => Base n₀ w X W) := by
  rintro X X' s W W' ⟨h1, h2⟩ a b c d e hX'
  have hs := h2.size
  refine ⟨fun k hk => ?_, ⟨a.trans h2.os, b.trans h2.tape, c.trans h2.output, Nat.le_trans h2.size d, fun k hk => ?_⟩⟩
  · rcases hX' k hk with h | h
    · exact h1 k h
    · omega
  · have hlt : k < W.heap.size := by omega
    have hx : W.heap[k]? = some W.heap[k] := Array.getElem?_eq_getElem hlt
    rw [e k _ hx (fun h => by have := h1 k h; omega) (.inl (by omega)), ← hx]
    exact h2.block k hk
theorem Base.start {n₀ : Nat} {w W : World} (h : Below n₀ w W) : Base n₀ w (fun _ => False) W := ⟨fun _ h => h.elim, h⟩
theorem Base.step {n₀ : Nat} {w W W' : World} {X : Blocks} (h : Base n₀ w X W) (k : Below n₀ W W') : Base n₀ w X W' := ⟨h.1, h.2.trans k⟩
theorem Mine.cell {X : Blocks} {W : World} {b : Nat} {t : TypeId} {v : Value} (h : Mine X W b t v) : W.cell? ⟨b, 0, none⟩ = some v := h.1.cell
theorem Mine.frozen {X : Blocks} {W : World} {b : Nat} {t : TypeId} {v : Value} (h : Mine X W b t v) : W.frozen? ⟨b, 0, none⟩ = false := h.1.frozen
theorem Mine.lt {X : Blocks} {W : World} {b : Nat} {t : TypeId} {v : Value} (h : Mine X W b t v) : b < W.heap.size := h.1.lt
theorem Mine.drew {X : Blocks} {W : World} {b : Nat} {t : TypeId} {v : Value} (h : Mine X W b t v) : Mine X W.drew b t v := h
theorem Mine.below {X : Blocks} {W W' : World} {b : Nat} {t : TypeId} {v : Value} (h : Mine X W b t v) (k : Below W.heap.size W W') : Mine X W' b t v := ⟨(k.block b h.lt).trans h.1, h.2⟩
theorem Mine.set {X : Blocks} {W : World} {b : Nat} {t : TypeId} {v : Value} (v' : Value) (h : Mine X W b t v) : Mine X (W.setCell ⟨b, 0, none⟩ v') b t v' := ⟨h.1.set v', h.2⟩
theorem Mine.other {X : Blocks} {W : World} {b b' : Nat} {t : TypeId} {v : Value} (h : Mine X W b t v) (hne : b ≠ b') (u : Value) : Mine X (W.setCell ⟨b', 0, none⟩ u) b t v := ⟨h.1.other hne u, h.2⟩
theorem keep_set {n₀ : Nat} {X : Blocks} (W : World) (b : Nat) (u : Value) (hn : n₀ ≤ b) (hX : ¬ X b) : Keep n₀ X W (W.setCell ⟨b, 0, none⟩ u) :=
  Keep.of_grownBy (grownBy_setCell' W b u) (fun k e => by cases e; exact ⟨hn, hX⟩)
theorem Keep.drew {n₀ : Nat} {X : Blocks} {W W' : World} (h : Keep n₀ X W W') : Keep n₀ X W W'.drew := ⟨h.os, h.tape, h.output, h.size, h.block⟩
theorem kf_set (B : Nat) (W : World) (a : Addr) (v : Value) : KeepsFrom B W (W.setCell a v) := (KeepsOthers.setCell W a v).from B
theorem kf_below {B : Nat} {W W' : World} (h : Below W.heap.size W W') : KeepsFrom B W W' := ⟨h.size, fun k _ _ hk _ => (h.block k (Array.getElem?_eq_some_iff.1 hk).1).trans hk⟩
/-- A variable that holds a slice of the call's own; neither is the iterator's. -/
def MineRow (n₀ : Nat) (X : Blocks) (W : World) (b : Nat) (t e : TypeId) (xs : List Value) : Prop :=
  ∃ v, Mine X W b t v ∧ W.ownsRow n₀ e 1 v xs.length xs ∧ ∀ j, v.ownBlock = some j → ¬ X j
theorem ownsRow_same {W W' : World} {base : Nat} {e : TypeId} {size : Nat} {v : Value} {n : Nat} {xs : List Value} (h : W.ownsRow base e size v n xs) (hs : ∀ g, v.ownBlock = some g → W'.heap[g]? = W.heap[g]?) : W'.ownsRow base e size v n xs := by
  refine ⟨h.1, ?_⟩
  rcases h.2 with hn | ⟨g, cap, cur, rfl, hb, hgg, rest⟩
  · exact .inl hn
  · exact .inr ⟨g, cap, cur, rfl, hb, (hs g rfl).trans hgg, rest⟩
theorem stable_row (B n₀ b : Nat) (t e : TypeId) {β : Type} (f : β → List Value) : Stable B (fun X s W => MineRow n₀ X W b t e (f s)) := by
  rintro X X' s W W' ⟨v, hm, ho, hx⟩ a1 a2 a3 a4 he hX'
  refine ⟨v, stable_box B b t (fun _ : Unit => v) X X' () W W' hm a1 a2 a3 a4 he hX', ownsRow_same ho fun g hg => ?_, fun j hj h => ?_⟩
  · rcases ho.2 with ⟨rfl, _⟩ | ⟨g', cap, cur, rfl, hb, hgg, rest⟩
    · simp [Value.ownBlock] at hg
    · obtain rfl : g' = g := by simpa [Value.ownBlock] using hg
      rw [he _ _ hgg (hx _ rfl) (.inr rfl), hgg]
  · have hlt := (ho.lt j hj).2
    rcases hX' j h with h1 | h1
    · exact hx j hj h1
    · omega
/-- Behind an append to such a variable: all that a round owes. -/
theorem MineRow.appended {n₀ : Nat} {X : Blocks} {W w1 : World} {b : Nat} {t e : TypeId} {v v' : Value} {xs ys : List Value} {tmp : Obj}
    (hm : Mine X W b t v) (ho : W.ownsRow n₀ e 1 v xs.length xs) (hx : ∀ j, v.ownBlock = some j → ¬ X j) (hte : t ≠ e) (hn₀ : n₀ ≤ W.heap.size) (hb : n₀ ≤ b) (hXs : ∀ k, X k → k < W.heap.size)
    (ho' : w1.ownsRow n₀ e 1 v' ys.length ys) (hgrow : (W.alloc tmp).grownBy w1 v.ownBlock) (hat : v'.ownBlock = v.ownBlock ∨ v'.ownBlock = some (W.alloc tmp).heap.size) :
    Boxed w1 b t v ∧ MineRow n₀ X (w1.setCell ⟨b, 0, none⟩ v') b t e ys ∧ KeepsOthers W (w1.setCell ⟨b, 0, none⟩ v') ∧ Below n₀ W (w1.setCell ⟨b, 0, none⟩ v') ∧ Keep n₀ X W (w1.setCell ⟨b, 0, none⟩ v') ∧
      ∀ b' t' u, b' ≠ b → t' ≠ e → Mine X W b' t' u → Mine X (w1.setCell ⟨b, 0, none⟩ v') b' t' u := by
  obtain ⟨q1, q2, q3, q4, q5⟩ := Boxed.appended (tmp := tmp) hm.1 hte ho hn₀ hb ho' hgrow
  refine ⟨q1, ⟨v', ⟨q2, hm.2⟩, q3, fun j hj hX => ?_⟩, q4, q5, ?_, fun b' t' u hne hte' hu => ?_⟩
  · rcases hat with h | h
    · exact hx j (h ▸ hj) hX
    · have h1 := hXs j hX
      rw [h] at hj
      simp at hj
      omega
  · have k1 : Keep n₀ X W (W.alloc tmp) := Keep.of_below ((Below.refl _ W).alloc (Nat.le_refl _) _)
    have k2 : Keep n₀ X (W.alloc tmp) w1 := Keep.of_grownBy hgrow (fun k hk => ⟨(ho.lt k hk).1, hx k hk⟩)
    exact (k1.trans k2).trans (keep_set _ _ _ hb hm.2)
  · have u1 : Boxed w1 b' t' u := (hu.1.alloc tmp).kept hgrow (hu.1.not_row hte' ho)
    exact ⟨u1.other hne _, hu.2⟩
/-- Such a row reads as a list. -/
theorem Ints.of_own {W : World} {n₀ : Nat} {e : TypeId} {v : Value} {l : List Int} (h : W.ownsRow n₀ e 1 v l.length (l.map fun x => .int .i64 x)) (hl : l.length ≤ big) : Ints W v l := by
  rcases h.2 with ⟨rfl, h0⟩ | ⟨g, cap, cur, rfl, hb, hg, hn, hc, hs, ht⟩
  · exact ⟨none, 0, by rw [h0], hl, fun i hi => by omega⟩
  · refine ⟨some ⟨g, 0, none⟩, cap, rfl, hl, fun i hi => ⟨g, 0, rfl, ?_⟩⟩
    have h1 : (l.map fun x => Value.int .i64 x)[i]? = some (.int .i64 (l.getD i 0)) := by
      simp [List.getElem?_map, List.getElem?_eq_getElem hi, List.getD_eq_getElem?_getD]
    rw [← ht, List.getElem?_take, if_pos (by omega)] at h1
    simp only [World.cell?, hg]
    simpa using h1
end Go.Proofs.YtbhhemidnmaodaaDoor
namespace Go.Proofs.YtbhhemidnmaodaaDoor
open Go.RowKit Go.Shelf
attribute [local go_sem] Oper.semAt_some
/-- A call by a number of arguments, as a run in a round of the wide fence. -/
theorem inr {f : FuncId} {args : Array Value} {w : World} {R : Ending → World → Prop} (l n : Nat) (h : Calls Tryd.prog f args w R) : CallsIn (Fence.wide.inRound l) n Tryd.prog f args w R :=
  CallsIn.inRound l (callsIn_wide.2 h)
end Go.Proofs.YtbhhemidnmaodaaDoor
namespace Go.Proofs.YtbhhemidnmaodaaDoor
open Go.RowKit Go.Shelf
attribute [local go_sem] Oper.semAt_some
theorem follows : Tryd.prog.follows .mixedOrders = true := by kernel_rfl
end Go.Proofs.YtbhhemidnmaodaaDoor
namespace Go.Proofs.YtbhhemidnmaodaaDoor
open Go.RowKit Go.Shelf
attribute [local go_sem] Oper.semAt_some
theorem infoInt : (Tryd.prog.info? 3).map (fun i => (i.zero, i.size, i.bytes)) = some (some (.int .i64 0), 1, 8) := by kernel_rfl
end Go.Proofs.YtbhhemidnmaodaaDoor
namespace Go.Proofs.YtbhhemidnmaodaaDoor
open Go.RowKit Go.Shelf
theorem isWordM_all {m : List (List Int)} {l : List Int} (h : isWordM m l = true) : l.all (inB 0 ((letters m : Int) - 1)) = true := by
  simp only [isWordM, Bool.and_eq_true] at h
  exact h.2
theorem Valid_bool (v : Value) (m : List (List Int)) (b : Bool) (w : World) (h : Rows w v m) (hb : validM m = b) :
    Calls Tryd.prog 52 #[.agg #[v]] w fun e w' => e = .returned (.bool b) ∧ Below w.heap.size w w' := by
  subst hb; exact Valid_any v m w h
theorem isWord_bool (v u : Value) (m : List (List Int)) (l : List Int) (b : Bool) (w : World) (h : Rows w v m) (hv : validM m = true) (hu : Ints w u l) (hb : isWordM m l = b) :
    Calls Tryd.prog 68 #[.agg #[v], u] w fun e w' => e = .returned (.bool b) ∧ Below w.heap.size w w' := by
  subst hb; exact isWord_any v u m l w h hv hu
end Go.Proofs.YtbhhemidnmaodaaDoor
namespace Go.Proofs.YtbhhemidnmaodaaDoor
open Go.RowKit Go.Shelf
def stateM (m : List (List Int)) (s : Int) : Bool := inB 0 ((m.length : Int) - 1) s
/-- A number and an error. -/
def NumIs (w : World) (s n : Int) (e : Ending) (w' : World) : Prop := e = .returned (.tuple #[.int .i64 s, .int .i64 n]) ∧ Below w.heap.size w w'
set_option maxHeartbeats 400000 in
theorem Run_state (v u : Value) (m : List (List Int)) (s : Int) (ul : List Int) (w : World) (h : Rows w v m) (hu : Ints w u ul) (hv : validM m = true) (hs : stateM m s = false) :
    Calls Tryd.prog 56 #[.agg #[v], .int .i64 s, u] w (NumIs w 0 2) := by
  have hr := h.alloc (.cells #[v] 67)
  obtain ⟨A, cap, rfl, hml, hc⟩ := h
  obtain ⟨Au, capu, rfl, hlu, hcu⟩ := hu
  clear hc hcu
  go_enter Tryd.func56, Tryd.ntmps56
  go_wp2_with fail
  refine (Valid_bool _ m true _ hr hv).mono ?_
  rintro e w1 ⟨rfl, hb1⟩
  have hbx : w1.cell? ⟨w.heap.size, 0, none⟩ = some (.slice A m.length cap) := (hb1.cell (p := ⟨w.heap.size, 0, none⟩) (by simp)).trans (by simp [go_sem])
  have hr1 := hr.below hb1
  go_wp2_with fail
  refine (areStates_bool _ _ m [s] false _ (hr1.alloc _) (Ints.one w1 s 3) (by simpa [stateM] using hs)).mono ?_
  rintro e w2 ⟨rfl, hb2⟩
  go_wp2
  go_ret2
  exact ⟨rfl, btr (bal (btr (bal (Below.refl _ _) _) hb1) _) hb2⟩
set_option maxHeartbeats 400000 in
theorem Run_word (v u : Value) (m : List (List Int)) (s : Int) (ul : List Int) (w : World) (h : Rows w v m) (hu : Ints w u ul) (hv : validM m = true) (hs : stateM m s = true) (hw : isWordM m ul = false) :
    Calls Tryd.prog 56 #[.agg #[v], .int .i64 s, u] w (NumIs w 0 2) := by
  have hr := h.alloc (.cells #[v] 67)
  have huu := hu.alloc (.cells #[v] 67)
  obtain ⟨A, cap, rfl, hml, hc⟩ := h
  obtain ⟨Au, capu, rfl, hlu, hcu⟩ := hu
  clear hc hcu
  go_enter Tryd.func56, Tryd.ntmps56
  go_wp2_with fail
  refine (Valid_bool _ m true _ hr hv).mono ?_
  rintro e w1 ⟨rfl, hb1⟩
  have hbx : w1.cell? ⟨w.heap.size, 0, none⟩ = some (.slice A m.length cap) := (hb1.cell (p := ⟨w.heap.size, 0, none⟩) (by simp)).trans (by simp [go_sem])
  have hr1 := hr.below hb1
  have hu1 := huu.below hb1
  go_wp2_with fail
  refine (areStates_bool _ _ m [s] true _ (hr1.alloc _) (Ints.one w1 s 3) (by simpa [stateM] using hs)).mono ?_
  rintro e w2 ⟨rfl, hb2⟩
  have hb2' := btr (bal (Below.refl w1.heap.size w1) (.cells #[.int .i64 s] 3)) hb2
  have hbx2 := (hb2'.cell (p := ⟨w.heap.size, 0, none⟩) (World.block_lt_of_cell? _ _ hbx)).trans hbx
  have hr2 := hr1.below hb2'
  have hu2 := hu1.below hb2'
  go_wp2_with fail
  refine (isWord_bool _ _ m ul false _ hr2 hv hu2 hw).mono ?_
  rintro e w3 ⟨rfl, hb3⟩
  go_wp2
  go_ret2
  exact ⟨rfl, btr (btr (btr (bal (Below.refl _ _) _) hb1) hb2') hb3⟩
set_option maxHeartbeats 400000 in
theorem Run_ok (v u : Value) (m : List (List Int)) (s : Nat) (ul : List Int) (w : World) (h : Rows w v m) (hu : Ints w u ul) (hv : validM m = true) (hs : s < m.length) (hw : isWordM m ul = true) :
    Calls Tryd.prog 56 #[.agg #[v], .int .i64 s, u] w (NumIs w (runM m s ul : Nat) 0) := by
  have hr := h.alloc (.cells #[v] 67)
  have huu := hu.alloc (.cells #[v] 67)
  have hst : [(s : Int)].all (inB 0 ((m.length : Int) - 1)) = true := by simp [inB]; omega
  have hsl := isWordM_all hw
  obtain ⟨A, cap, rfl, hml, hc⟩ := h
  obtain ⟨Au, capu, rfl, hlu, hcu⟩ := hu
  clear hc hcu
  go_enter Tryd.func56, Tryd.ntmps56
  go_wp2_with fail
  refine (Valid_bool _ m true _ hr hv).mono ?_
  rintro e w1 ⟨rfl, hb1⟩
  have hbx : w1.cell? ⟨w.heap.size, 0, none⟩ = some (.slice A m.length cap) := (hb1.cell (p := ⟨w.heap.size, 0, none⟩) (by simp)).trans (by simp [go_sem])
  have hr1 := hr.below hb1
  have hu1 := huu.below hb1
  go_wp2_with fail
  refine (areStates_bool _ _ m [(s : Int)] true _ (hr1.alloc _) (Ints.one w1 s 3) hst).mono ?_
  rintro e w2 ⟨rfl, hb2⟩
  have hb2' := btr (bal (Below.refl w1.heap.size w1) (.cells #[.int .i64 s] 3)) hb2
  have hbx2 := (hb2'.cell (p := ⟨w.heap.size, 0, none⟩) (World.block_lt_of_cell? _ _ hbx)).trans hbx
  have hr2 := hr1.below hb2'
  have hu2 := hu1.below hb2'
  go_wp2_with fail
  refine (isWord_bool _ _ m ul true _ hr2 hv hu2 hw).mono ?_
  rintro e w3 ⟨rfl, hb3⟩
  have hbx3 := (hb3.cell (p := ⟨w.heap.size, 0, none⟩) (World.block_lt_of_cell? _ _ hbx2)).trans hbx2
  have hr3 := hr2.below hb3
  have hu3 := hu2.below hb3
  go_wp2_with fail
  refine (run_any _ _ m s ul _ hr3 hv hs hu3 hsl).mono ?_
  rintro e w4 ⟨rfl, hb4⟩
  go_wp2
  go_ret2
  exact ⟨rfl, btr (btr (btr (btr (bal (Below.refl _ _) _) hb1) hb2') hb3) hb4⟩
end Go.Proofs.YtbhhemidnmaodaaDoor
namespace Go.Proofs.YtbhhemidnmaodaaDoor
open Go.RowKit Go.Shelf
theorem take_eq_succ {l m : List Int} {k : Nat} (hk : k < l.length) (hl : l.length = m.length) (h : l.take k = m.take k) (hx : l.getD k 0 = m.getD k 0) : l.take (k + 1) = m.take (k + 1) := by
  have h1 : k < m.length := by omega
  rw [List.take_succ_eq_append_getElem hk, List.take_succ_eq_append_getElem h1, h]
  have e1 : l.getD k 0 = l[k] := by simp [List.getD_eq_getElem?_getD, List.getElem?_eq_getElem hk]
  have e2 : m.getD k 0 = m[k] := by simp [List.getD_eq_getElem?_getD, List.getElem?_eq_getElem h1]
  rw [← e1, ← e2, hx]
theorem ne_of_getD {l m : List Int} {k : Nat} (hx : ¬ l.getD k 0 = m.getD k 0) : decide (l = m) = false := by
  rw [decide_eq_false_iff_not]
  intro h
  rw [h] at hx
  exact hx rfl
end Go.Proofs.YtbhhemidnmaodaaDoor
namespace Go.Proofs.YtbhhemidnmaodaaDoor
open Go.RowKit Go.Shelf
def strB (l : List UInt8) : ByteArray := ⟨l.toArray⟩
/-- A row of strings of which the first k are written. -/
def someStr (n k : Nat) (f : Nat → List UInt8) : List Value := (List.range n).map fun i => .string (if i < k then strB (f i) else ⟨#[]⟩)
theorem someStr_set (n k : Nat) (f : Nat → List UInt8) (hk : k < n) : (someStr n k f).set k (.string (strB (f k))) = someStr n (k + 1) f := by
  apply List.ext_getElem
  · simp [someStr]
  · intro i h1 h2
    have hi : i < n := by simpa [someStr] using h2
    rw [List.getElem_set]
    by_cases e : k = i
    · subst e; simp [someStr]
    · rw [if_neg e]
      simp only [someStr, List.getElem_map, List.getElem_range]
      by_cases h : i < k
      · rw [if_pos h, if_pos (by omega)]
      · rw [if_neg h, if_neg (by omega)]
theorem someStr_get (n k : Nat) (f : Nat → List UInt8) (j : Nat) (hj : j < n) (hk : j < k) : (someStr n k f)[j]? = some (.string (strB (f j))) := by
  simp [someStr, List.getElem?_map, hj, hk]
theorem someStr_made (n : Nat) (f : Nat → List UInt8) : (madeCells #[.string ⟨#[]⟩] (n * 1)).toList = someStr n 0 f := by
  apply List.ext_getElem
  · simp [someStr, madeCells]
  · intro i h1 h2
    simp [someStr, madeCells, Nat.mod_one]
theorem infoStr : (Tryd.prog.info? 9).map (fun i => (i.zero, i.size, i.bytes)) = some (some (.string ⟨#[]⟩), 1, 16) := by kernel_rfl
theorem dec_len (u : Nat) (h : u < 100) : (Lib.decDigits u).length ≤ 2 := by
  rw [Lib.decDigits]
  split
  · simp
  · rw [Lib.decDigits, dif_pos (by omega)]; simp
theorem lens_le (xs : List (List UInt8)) (c : Nat) (h : ∀ x ∈ xs, x.length ≤ c) : Lib.lens xs ≤ xs.length * c := by
  induction xs with
  | nil => simp [Lib.lens]
  | cons x xs ih =>
    have h1 := h x (by simp)
    have h2 := ih (fun y hy => h y (by simp [hy]))
    simp [Lib.lens, Nat.add_mul] at *
    omega
theorem join_le (xs : List (List UInt8)) (sep : List UInt8) (c : Nat) (h : ∀ x ∈ xs, x.length ≤ c) : (Lib.join xs sep).length ≤ xs.length * (c + sep.length) := by
  cases xs with
  | nil => simp [Lib.join_nil]
  | cons x r =>
    rw [Lib.join_length]
    have := lens_le (x :: r) c h
    simp only [List.length_cons] at *
    rw [Nat.mul_add, Nat.add_mul r.length 1 sep.length, Nat.mul_comm sep.length r.length]
    omega
theorem strs_map (n : Nat) (f : Nat → List UInt8) : ((List.range n).map fun j => strB (f j)).map (·.data.toList) = (List.range n).map f := by
  simp [strB, Function.comp_def]
/-- Join over a row of strings that is written whole. -/
theorem join_row (w : World) (B g n : Nat) (f : Nat → List UInt8) (sep : ByteArray) (h : w.ownsRow B 9 1 (.slice (some ⟨g, 0, none⟩) n n) n (someStr n n f)) (hn : n ≤ 1000) (hs : sep.data.toList.length = 1) (hf : ∀ i, i < n → (f i).length ≤ 1000) (hg : g < w.heap.size) :
    Calls Tryd.prog 59 #[.slice (some ⟨g, 0, none⟩) n n, .string sep] w fun e w' => e = .returned (.string (strB (Lib.join ((List.range n).map f) sep.data.toList))) ∧ Below w.heap.size w w' := by
  have hl : ((List.range n).map f).length = n := by simp
  have hj := Tryd.strings_Join g 0 n ((List.range n).map fun j => strB (f j)) sep w (by
    intro j x hx
    have hjn : j < n := by
      have := (List.getElem?_eq_some_iff.1 hx).1
      simpa using this
    rw [Nat.zero_add, h.cellAt j (by omega)]
    simp [hjn] at hx
    subst hx
    exact someStr_get n n f j hjn hjn) hg (by simp; omega) (by simp) (by
      rw [strs_map]
      have := join_le ((List.range n).map f) sep.data.toList 1000 (by
        intro x hx
        obtain ⟨i, hi, rfl⟩ := List.mem_map.1 hx
        exact hf i (by simpa using hi))
      rw [hl, hs] at this
      have : n * 1001 ≤ 1000 * 1001 := Nat.mul_le_mul_right _ hn
      omega)
  rw [strs_map] at hj
  simpa [strB] using hj
theorem owns_lt {w : World} {B g n c k : Nat} {e : TypeId} {s : Nat} {xs : List Value} (h : w.ownsRow B e s (.slice (some ⟨g, 0, none⟩) n c) k xs) : g < w.heap.size := by
  rcases h.2 with ⟨h', _⟩ | ⟨g', cap', cur, h', _, hg, _⟩
  · simp at h'
  · simp only [Value.slice.injEq, Option.some.injEq, Addr.mk.injEq, and_true, true_and] at h'
    obtain ⟨rfl, _⟩ := h'
    exact lt_of_block hg
theorem owns_below {B g n c k : Nat} {e : TypeId} {s : Nat} {xs : List Value} {w w' : World} (h : w.ownsRow B e s (.slice (some ⟨g, 0, none⟩) n c) k xs) {C : Nat} (hb : Below C w w') (hg : g < C) : w'.ownsRow B e s (.slice (some ⟨g, 0, none⟩) n c) k xs := by
  obtain ⟨h1, h2⟩ := h
  refine ⟨h1, ?_⟩
  rcases h2 with ⟨h', _⟩ | ⟨g', cap', cur, h', hB, hh, r⟩
  · simp at h'
  · simp only [Value.slice.injEq, Option.some.injEq, Addr.mk.injEq, and_true, true_and] at h'
    obtain ⟨rfl, rfl, rfl⟩ := h'
    exact .inr ⟨g, c, cur, rfl, hB, by rw [hb.block g hg]; exact hh, r⟩
theorem getD_elem (l : List Int) (j : Nat) (hj : j < l.length) : l.getD j 0 = l[j] := by simp [List.getD_eq_getElem?_getD, List.getElem?_eq_getElem hj]
end Go.Proofs.YtbhhemidnmaodaaDoor
namespace Go.Proofs.YtbhhemidnmaodaaDoor
open Go.RowKit Go.Shelf
theorem infoRow : (Tryd.prog.info? 27).map (fun i => (i.zero, i.size, i.bytes)) = some (some (.slice none 0 0), 1, 24) := by kernel_rfl
theorem owns_kept {B n : Nat} {e : TypeId} {s : Nat} {v : Value} {xs : List Value} {w w' : World} (h : w.ownsRow B e s v n xs) (hk : ∀ k, B ≤ k → k < w.heap.size → w'.heap[k]? = w.heap[k]?) : w'.ownsRow B e s v n xs := by
  obtain ⟨h1, h2⟩ := h
  refine ⟨h1, ?_⟩
  rcases h2 with h2 | ⟨g, cap, cur, hv, hB, hh, r⟩
  · exact .inl h2
  · exact .inr ⟨g, cap, cur, hv, hB, by rw [hk g hB (lt_of_block hh)]; exact hh, r⟩
/-- A slice of ints that lies beside a row. -/
def IntsOff (W : World) (base : Nat) (g : Option Nat) (v : Value) (l : List Int) : Prop :=
  ∃ A cap, v = .slice A l.length cap ∧ l.length ≤ big ∧ (∀ i, i < l.length → ∃ b off, A = some ⟨b, off, none⟩ ∧ base ≤ b ∧ some b ≠ g ∧ W.cell? ⟨b, off + i, none⟩ = some (.int .i64 (l.getD i 0)))
theorem IntsOff.ints {W : World} {base : Nat} {g : Option Nat} {v : Value} {l : List Int} (h : IntsOff W base g v l) : Ints W v l := by
  obtain ⟨A, cap, rfl, hl, hc⟩ := h
  exact ⟨A, cap, rfl, hl, fun i hi => by obtain ⟨b, off, hA, _, _, hcell⟩ := hc i hi; exact ⟨b, off, hA, hcell⟩⟩
/-- A row of the call's own from base on, whose elements are slices of ints beside it. -/
def MRows (W : World) (base : Nat) (v : Value) (m : List (List Int)) : Prop :=
  ∃ xs : List Value, W.ownsRow base 27 1 v m.length xs ∧ ∀ i, i < m.length → IntsOff W base v.ownBlock (xs.getD i .nilIface) (m.getD i [])
theorem MRows.nil (W : World) (base : Nat) : MRows W base (.slice none 0 0) [] := ⟨[], ⟨rfl, .inl ⟨rfl, rfl⟩⟩, fun i hi => by simp at hi⟩
theorem MRows.rows {W : World} {base : Nat} {v : Value} {m : List (List Int)} (h : MRows W base v m) (hl : m.length ≤ big) : Rows W v m := by
  obtain ⟨xs, ho, hx⟩ := h
  have hxl : xs.length = m.length := by have := ho.1; omega
  rcases ho.2 with ⟨rfl, h0⟩ | ⟨g, cap, cur, rfl, hb, hg, hn, hc, hs, ht⟩
  · exact ⟨none, 0, by rw [h0], hl, fun i hi => by omega⟩
  · refine ⟨some ⟨g, 0, none⟩, cap, rfl, hl, fun i hi => ⟨g, 0, xs.getD i .nilIface, rfl, ?_, (hx i hi).ints⟩⟩
    have h1 : xs[i]? = some (xs.getD i .nilIface) := by
      simp [List.getElem?_eq_getElem (show i < xs.length by omega), List.getD_eq_getElem?_getD]
    rw [← ht, List.getElem?_take, if_pos (by omega)] at h1
    simp only [World.cell?, hg]
    rw [← ht]
    simpa using h1
/-- Kept by a world that leaves the blocks from base on, but the row's own, as they lay. -/
theorem IntsOff.kept {W W' : World} {base : Nat} {g : Option Nat} {v : Value} {l : List Int} (h : IntsOff W base g v l) (hk : ∀ k, base ≤ k → k < W.heap.size → some k ≠ g → W'.heap[k]? = W.heap[k]?) {g' : Option Nat} (hg : ∀ k, k < W.heap.size → some k ≠ g → some k ≠ g') : IntsOff W' base g' v l := by
  obtain ⟨A, cap, rfl, hl, hc⟩ := h
  refine ⟨A, cap, rfl, hl, fun i hi => ?_⟩
  obtain ⟨b, off, hA, hB, hne, hcell⟩ := hc i hi
  have hb := World.block_lt_of_cell? _ _ hcell
  refine ⟨b, off, hA, hB, hg _ hb hne, ?_⟩
  rw [← hcell]
  exact World.cell?_of_block (w := W) (hk _ hB hb hne)
theorem MRows.kept {W W' : World} {base : Nat} {v : Value} {m : List (List Int)} (h : MRows W base v m) (hk : ∀ k, base ≤ k → k < W.heap.size → W'.heap[k]? = W.heap[k]?) : MRows W' base v m := by
  obtain ⟨xs, ho, hx⟩ := h
  exact ⟨xs, owns_kept ho hk, fun i hi => (hx i hi).kept (fun k hb hs _ => hk k hb hs) (fun _ _ h => h)⟩
theorem MRows.below {W W' : World} {base : Nat} {v : Value} {m : List (List Int)} (h : MRows W base v m) (hb : Below W.heap.size W W') : MRows W' base v m := h.kept fun k _ hk => hb.block k hk
/-- Behind an append of a slice that lies beside. -/
theorem MRows.appended {W W' : World} {base : Nat} {v v' u : Value} {m : List (List Int)} {l : List Int} {xs : List Value} (hx : ∀ i, i < m.length → IntsOff W base v.ownBlock (xs.getD i .nilIface) (m.getD i [])) (hxl : xs.length = m.length)
    (hu : IntsOff W base v.ownBlock u l) (ho : W'.ownsRow base 27 1 v' (m.length + 1) (xs ++ [u])) (hg : W.grownBy W' v.ownBlock) (hat : v'.ownBlock = v.ownBlock ∨ v'.ownBlock = some W.heap.size) : MRows W' base v' (m ++ [l]) := by
  refine ⟨xs ++ [u], by simpa using ho, fun i hi => ?_⟩
  have key : ∀ {x : Value} {r : List Int}, IntsOff W base v.ownBlock x r → IntsOff W' base v'.ownBlock x r := by
    intro x r h
    refine h.kept (fun k _ hk hne => hg.block k hk (fun e => hne e)) (fun k hk hne e => ?_)
    rcases hat with h1 | h1
    · exact hne (e.trans h1)
    · rw [h1] at e
      have : k = W.heap.size := by simpa using e
      omega
  simp only [List.length_append, List.length_cons, List.length_nil] at hi
  by_cases hil : i < m.length
  · have e1 : (xs ++ [u]).getD i .nilIface = xs.getD i .nilIface := by simp [List.getD_eq_getElem?_getD, List.getElem?_append_left (show i < xs.length by omega)]
    have e2 : (m ++ [l]).getD i [] = m.getD i [] := by simp [List.getD_eq_getElem?_getD, List.getElem?_append_left hil]
    rw [e1, e2]
    exact key (hx i hil)
  · obtain rfl : i = m.length := by omega
    have e1 : (xs ++ [u]).getD m.length .nilIface = u := by rw [← hxl]; simp [List.getD_eq_getElem?_getD]
    have e2 : (m ++ [l]).getD m.length [] = l := by simp [List.getD_eq_getElem?_getD]
    rw [e1, e2]
    exact key hu
def parts (sep : UInt8) (s : ByteArray) : List ByteArray := Lib.splitB ⟨#[sep]⟩ 0 (Lib.countB s ⟨#[sep]⟩) s
theorem parts_length (sep : UInt8) (s : ByteArray) : (parts sep s).length = Lib.countB s ⟨#[sep]⟩ + 1 := Lib.splitB_all _ (by show 1 ≤ 1; omega) _ _ _ rfl
end Go.Proofs.YtbhhemidnmaodaaDoor
namespace Go.Proofs.YtbhhemidnmaodaaDoor
open Go.RowKit Go.Shelf
theorem shaped_below {w w' : World} (h : w.ShapedOpen Tryd.prog) (hb : Below w.heap.size w w') : w'.ShapedOpen Tryd.prog := World.ShapedOpen.keptBut h (hb.frame (fun _ => False)) (fun _ h => h.elim)
theorem bytes_below (w : World) (t : TypeId) (s : ByteArray) : Below w.heap.size w (Lib.bytesWorld w t s) := by
  refine ⟨rfl, rfl, rfl, ?_, fun k hk => ?_⟩
  · exact (Lib.below_freeze (bal (Below.refl _ w).drew _) (Nat.le_refl _) _).size
  · exact (Lib.below_freeze (bal (Below.refl _ w).drew _) (Nat.le_refl _) _).block k hk
theorem cells_get {w : World} {b : Nat} {l : List ByteArray} {t : TypeId} (h : w.heap[b]? = some (.cells (l.map Value.string).toArray t (0, 0))) (i : Nat) (hi : i < l.length) : w.cell? ⟨b, i, none⟩ = some (.string (l.getD i ⟨#[]⟩)) := by
  simp [World.cell?, h, List.getElem?_eq_getElem hi, List.getD_eq_getElem?_getD]
theorem three_alloc (w : World) (a b c : Obj) : (((w.alloc a).alloc b).alloc c).heap[w.heap.size]? = some a ∧ (((w.alloc a).alloc b).alloc c).heap[w.heap.size + 1]? = some b ∧ (((w.alloc a).alloc b).alloc c).heap[w.heap.size + 2]? = some c := by
  have e1 : (w.alloc a).heap.size = w.heap.size + 1 := by simp
  have e2 : ((w.alloc a).alloc b).heap.size = w.heap.size + 2 := by simp
  refine ⟨?_, ?_, ?_⟩
  · rw [Below.heap_alloc _ _ _ (by omega), Below.heap_alloc _ _ _ (by omega)]; exact heap_alloc_new _ _
  · rw [Below.heap_alloc _ _ _ (by omega), ← e1]; exact heap_alloc_new _ _
  · rw [← e2]; exact heap_alloc_new _ _
theorem map_take_succ (r : List Int) (j : Nat) (hj : j < r.length) : (r.take (j + 1)).map (fun x => Value.int .i64 x) = (r.take j).map (fun x => Value.int .i64 x) ++ [.int .i64 (r.getD j 0)] := by
  rw [List.take_succ_eq_append_getElem hj, List.map_append, getD_elem r j hj]; rfl
end Go.Proofs.YtbhhemidnmaodaaDoor
namespace Go.Proofs.YtbhhemidnmaodaaDoor
open Go.RowKit Go.Shelf
/-- Some letters lead there. -/
def reachP (m : List (List Int)) (s t : Nat) : Prop := ∃ u : List Int, u.all (inB 0 ((letters m : Int) - 1)) = true ∧ runM m s u = t
theorem reachP.refl (m : List (List Int)) (s : Nat) : reachP m s s := ⟨[], rfl, rfl⟩
theorem reachP.step {m : List (List Int)} {s t : Nat} {x : Nat} (hx : x < letters m) (h : reachP m (nx m s x) t) : reachP m s t := by
  obtain ⟨u, hu, rfl⟩ := h
  refine ⟨(x : Int) :: u, ?_, rfl⟩
  rw [List.all_cons, hu, inB_true (by omega)]; rfl
theorem reachP.trans {m : List (List Int)} {s t r : Nat} (h : reachP m s t) (k : reachP m t r) : reachP m s r := by
  obtain ⟨u, hu, rfl⟩ := h
  obtain ⟨v, hv, rfl⟩ := k
  exact ⟨u ++ v, by rw [List.all_append, hu, hv]; rfl, by rw [runM, List.foldl_append]; rfl⟩
/-- What a search in depth has done. -/
structure DfsPost (m : List (List Int)) (S s S' : Nat) : Prop where
  lt : S' < 2 ^ m.length
  sub : ∀ t, S.testBit t = true → S'.testBit t = true
  here : S'.testBit s = true
  shut : ∀ t, S'.testBit t = true → S.testBit t = false → ∀ x, x < letters m → S'.testBit (nx m t x) = true
  from_ : ∀ t, S'.testBit t = true → S.testBit t = true ∨ reachP m s t
/-- The search goes on from the next state. -/
structure DfsInv (m : List (List Int)) (S s j Sj : Nat) : Prop where
  lt : Sj < 2 ^ m.length
  sub : ∀ t, S.testBit t = true → Sj.testBit t = true
  here : Sj.testBit s = true
  shut : ∀ t, Sj.testBit t = true → S.testBit t = false → t ≠ s → ∀ x, x < letters m → Sj.testBit (nx m t x) = true
  done : ∀ x, x < j → Sj.testBit (nx m s x) = true
  from_ : ∀ t, Sj.testBit t = true → S.testBit t = true ∨ reachP m s t
theorem DfsInv.start {m : List (List Int)} {S s : Nat} (hS : S < 2 ^ m.length) (hs : s < m.length) : DfsInv m S s 0 (S ||| 2 ^ s) := by
  refine ⟨with_lt S s _ hS hs, fun t ht => ?_, ?_, fun t ht h0 hne => ?_, fun x hx => by omega, fun t ht => ?_⟩
  · rw [testBit_with, ht]; rfl
  · rw [testBit_with]; simp
  · rw [testBit_with, h0] at ht; simp at ht; omega
  · rw [testBit_with, Bool.or_eq_true, decide_eq_true_eq] at ht
    rcases ht with h | rfl
    · exact .inl h
    · exact .inr (reachP.refl m _)
theorem DfsInv.next {m : List (List Int)} {S s j Sj S' : Nat} (h : DfsInv m S s j Sj) (hj : j < letters m) (k : DfsPost m Sj (nx m s j) S') : DfsInv m S s (j + 1) S' := by
  refine ⟨k.lt, fun t ht => k.sub t (h.sub t ht), k.sub s h.here, fun t ht h0 hne x hx => ?_, fun x hx => ?_, fun t ht => ?_⟩
  · cases hb : Sj.testBit t with
    | true => exact k.sub _ (h.shut t hb h0 hne x hx)
    | false => exact k.shut t ht hb x hx
  · by_cases e : x = j
    · subst e; exact k.here
    · exact k.sub _ (h.done x (by omega))
  · rcases k.from_ t ht with h1 | h1
    · exact h.from_ t h1
    · exact .inr (reachP.step hj h1)
theorem DfsInv.post {m : List (List Int)} {S s S' : Nat} (h : DfsInv m S s (letters m) S') : DfsPost m S s S' :=
  ⟨h.lt, h.sub, h.here, fun t ht h0 x hx => by
    by_cases e : t = s
    · subst e; exact h.done x hx
    · exact h.shut t ht h0 e x hx, h.from_⟩
end Go.Proofs.YtbhhemidnmaodaaDoor
namespace Go.Proofs.YtbhhemidnmaodaaDoor
open Go.RowKit Go.Shelf
theorem all_cons_parts {m : List (List Int)} {x : Int} {u : List Int} (h : (x :: u).all (inB 0 ((letters m : Int) - 1)) = true) : (0 ≤ x ∧ x < letters m) ∧ u.all (inB 0 ((letters m : Int) - 1)) = true := by
  rw [List.all_cons, Bool.and_eq_true, inB_iff] at h
  exact ⟨⟨h.1.1, by omega⟩, h.2⟩
end Go.Proofs.YtbhhemidnmaodaaDoor
namespace Go.Proofs.YtbhhemidnmaodaaDoor
open Go.RowKit Go.Shelf
open Classical in
/-- The states to which letters lead, as a set. -/
noncomputable def reachM (m : List (List Int)) (s : Nat) : Nat := ofList (((List.range m.length).filter fun t => decide (reachP m s t)).map fun t : Nat => (t : Int))
/-- Strongly connected. -/
noncomputable def connM (m : List (List Int)) : Bool := (List.range m.length).all fun s => decide (reachM m s = 2 ^ m.length - 1)
end Go.Proofs.YtbhhemidnmaodaaDoor
namespace Go.Proofs.YtbhhemidnmaodaaDoor
open Go.RowKit Go.Shelf
theorem owns_block {B g n c k : Nat} {e : TypeId} {s : Nat} {xs : List Value} {w w' : World} (h : w.ownsRow B e s (.slice (some ⟨g, 0, none⟩) n c) k xs) (hg : w'.heap[g]? = w.heap[g]?) : w'.ownsRow B e s (.slice (some ⟨g, 0, none⟩) n c) k xs := by
  obtain ⟨h1, h2⟩ := h
  refine ⟨h1, ?_⟩
  rcases h2 with ⟨h', _⟩ | ⟨g', cap', cur, h', hB, hh, r⟩
  · simp at h'
  · simp only [Value.slice.injEq, Option.some.injEq, Addr.mk.injEq, and_true, true_and] at h'
    obtain ⟨rfl, rfl, rfl⟩ := h'
    exact .inr ⟨g, c, cur, rfl, hB, by rw [hg]; exact hh, r⟩
end Go.Proofs.YtbhhemidnmaodaaDoor
namespace Go.Proofs.YtbhhemidnmaodaaDoor
open Go.RowKit Go.Shelf
/-- A step: the place, the step that it was reached from, the letter. -/
abbrev Steps := List (Int × Int × Int)
def plB (B : Steps) (i : Nat) : Int := (B.getD i (0, 0, 0)).1
def frB (B : Steps) (i : Nat) : Int := (B.getD i (0, 0, 0)).2.1
def leB (B : Steps) (i : Nat) : Int := (B.getD i (0, 0, 0)).2.2
/-- Each step but the first one comes from an earlier one. -/
def TreeB (B : Steps) : Prop := 0 < B.length ∧ frB B 0 = -1 ∧ ∀ i, 0 < i → i < B.length → 0 ≤ frB B i ∧ frB B i < i
def wordF (B : Steps) : Nat → Nat → List Int
  | 0, _ => []
  | f + 1, i => if frB B i < 0 then [] else wordF B f (frB B i).toNat ++ [leB B i]
def wordB (B : Steps) (i : Nat) : List Int := wordF B (i + 1) i
theorem wordF_fuel {B : Steps} (hB : TreeB B) : ∀ (i f : Nat), i < B.length → i < f → wordF B f i = wordB B i := by
  intro i
  induction i using Nat.strongRecOn with
  | _ i ih =>
    intro f hi hf
    cases f with
    | zero => omega
    | succ f =>
      rw [wordB, wordF, wordF]
      by_cases h0 : frB B i < 0
      · rw [if_pos h0, if_pos h0]
      · rw [if_neg h0, if_neg h0]
        have hp : 0 < i := by
          rcases Nat.eq_zero_or_pos i with e | e
          · subst e; rw [hB.2.1] at h0; omega
          · exact e
        obtain ⟨h1, h2⟩ := hB.2.2 i hp hi
        rw [ih (frB B i).toNat (by omega) f (by omega) (by omega), ih (frB B i).toNat (by omega) i (by omega) (by omega)]
theorem wordB_root {B : Steps} (hB : TreeB B) : wordB B 0 = [] := by
  rw [wordB, wordF, hB.2.1]; rfl
theorem wordB_step {B : Steps} (hB : TreeB B) {i : Nat} (h0 : 0 < i) (hi : i < B.length) : wordB B i = wordB B (frB B i).toNat ++ [leB B i] := by
  obtain ⟨h1, h2⟩ := hB.2.2 i h0 hi
  rw [wordB, wordF, if_neg (by omega), wordF_fuel hB _ i (by omega) (by omega)]
theorem wordB_len {B : Steps} (hB : TreeB B) : ∀ i, i < B.length → (wordB B i).length ≤ i := by
  intro i
  induction i using Nat.strongRecOn with
  | _ i ih =>
    intro hi
    rcases Nat.eq_zero_or_pos i with e | e
    · subst e; rw [wordB_root hB]; simp
    · obtain ⟨h1, h2⟩ := hB.2.2 i e hi
      have := ih (frB B i).toNat (by omega) (by omega)
      rw [wordB_step hB e hi, List.length_append]
      simp; omega
/-- The word behind, zeros ahead. -/
def halfRow (W : List Int) (k : Nat) : List Value := List.replicate k (.int .i64 0) ++ (W.drop k).map fun x => .int .i64 x
theorem halfRow_set (W : List Int) (k : Nat) (x : Int) (hk : k < W.length) (hx : W.getD k 0 = x) : (halfRow W (k + 1)).set k (.int .i64 x) = halfRow W k := by
  unfold halfRow
  apply List.ext_getElem
  · simp; omega
  · intro i h1 h2
    rw [List.getElem_set]
    by_cases e : k = i
    · subst e
      rw [if_pos rfl, List.getElem_append_right (by simp)]
      simp only [List.length_replicate, Nat.sub_self, List.getElem_map, List.getElem_drop, Nat.add_zero]
      rw [← hx, getD_elem W k hk]
    · rw [if_neg e]
      by_cases h3 : i < k
      · rw [List.getElem_append_left (by simp; omega), List.getElem_append_left (by simp; omega)]
        simp
      · rw [List.getElem_append_right (by simp; omega), List.getElem_append_right (by simp; omega)]
        simp only [List.length_replicate, List.getElem_map, List.getElem_drop]
        congr 2
        omega
end Go.Proofs.YtbhhemidnmaodaaDoor
namespace Go.Proofs.YtbhhemidnmaodaaDoor
open Go.RowKit Go.Shelf Go.Maps Go.WideAt
/-- A map from numbers to bools that reads as a set. -/
def SeenMap (w : World) (bm n : Nat) (S : Nat → Bool) : Prop :=
  ∃ D : DataW Unit, w.ownsMap Tryd.prog 3 (plainElem Tryd.prog 4) bm n D ∧ IsMap D ∧ ∀ p : Nat, D.atKey (.int .i64 p) (.lit (.bool false)) = .lit (.bool (S p))
theorem SeenMap.made (w : World) : SeenMap (w.alloc (.map #[] 0)) w.heap.size 0 (fun _ => false) :=
  ⟨.map [], World.ownsMap_made w _ _ _, ⟨[], rfl⟩, fun p => rfl⟩
theorem SeenMap.kept {w w' : World} {bm n : Nat} {S : Nat → Bool} (h : SeenMap w bm n S) (hk : w'.heap[bm]? = w.heap[bm]?) : SeenMap w' bm n S := by
  obtain ⟨D, ⟨es, clock, hb, F, hs, hD⟩, hM, hS⟩ := h
  exact ⟨D, ⟨es, clock, hk.trans hb, F, hs, hD⟩, hM, hS⟩
theorem SeenMap.lt {w : World} {bm n : Nat} {S : Nat → Bool} (h : SeenMap w bm n S) : bm < w.heap.size := by
  obtain ⟨D, hD, _⟩ := h; exact hD.lt
end Go.Proofs.YtbhhemidnmaodaaDoor
namespace Go.Proofs.YtbhhemidnmaodaaDoor
open Go.RowKit Go.Shelf
def hasP (B : Steps) (p : Nat) : Bool := B.any fun t => t.1 == (p : Int)
/-- One letter from the place of a step. -/
def addB (ld : Nat → Nat → Nat) (B : Steps) (p i x : Nat) : Steps := if hasP B (ld p x) then B else B ++ [(((ld p x : Nat) : Int), (i : Int), (x : Int))]
def rowB (ld : Nat → Nat → Nat) (B : Steps) (p i : Nat) : Nat → Steps
  | 0 => B
  | x + 1 => addB ld (rowB ld B p i x) p i x
def bfsTo (ld : Nat → Nat → Nat) (K s : Nat) : Nat → Steps
  | 0 => [((s : Int), -1, 0)]
  | i + 1 => if i < (bfsTo ld K s i).length then rowB ld (bfsTo ld K s i) (plB (bfsTo ld K s i) i).toNat i K else bfsTo ld K s i
theorem hasP_snoc (B : Steps) (t : Int × Int × Int) (p : Nat) : hasP (B ++ [t]) p = (hasP B p || t.1 == (p : Int)) := by simp [hasP]
theorem getD_pre {B C : Steps} (h : B <+: C) (i : Nat) (hi : i < B.length) : C.getD i (0, 0, 0) = B.getD i (0, 0, 0) := by
  obtain ⟨t, rfl⟩ := h
  simp only [List.getD_eq_getElem?_getD, List.getElem?_append_left hi]
theorem addB_pre (ld : Nat → Nat → Nat) (B : Steps) (p i x : Nat) : B <+: addB ld B p i x := by
  unfold addB; split
  · exact List.prefix_refl _
  · exact List.prefix_append _ _
theorem rowB_pre (ld : Nat → Nat → Nat) (B : Steps) (p i : Nat) : ∀ x, B <+: rowB ld B p i x
  | 0 => List.prefix_refl _
  | x + 1 => (rowB_pre ld B p i x).trans (addB_pre _ _ _ _ _)
theorem bfs_pre (ld : Nat → Nat → Nat) (K s i : Nat) : bfsTo ld K s i <+: bfsTo ld K s (i + 1) := by
  show _ <+: (if i < (bfsTo ld K s i).length then _ else _)
  split
  · exact rowB_pre _ _ _ _ _
  · exact List.prefix_refl _
theorem bfs_pre_le (ld : Nat → Nat → Nat) (K s i : Nat) : ∀ d, bfsTo ld K s i <+: bfsTo ld K s (i + d)
  | 0 => List.prefix_refl _
  | d + 1 => (bfs_pre_le ld K s i d).trans (bfs_pre ld K s (i + d))
theorem bfs_stop (ld : Nat → Nat → Nat) (K s i : Nat) (h : (bfsTo ld K s i).length ≤ i) : ∀ d, bfsTo ld K s (i + d) = bfsTo ld K s i
  | 0 => rfl
  | d + 1 => by
    have ih := bfs_stop ld K s i h d
    have e : bfsTo ld K s (i + (d + 1)) = (if i + d < (bfsTo ld K s (i + d)).length then rowB ld (bfsTo ld K s (i + d)) (plB (bfsTo ld K s (i + d)) (i + d)).toNat (i + d) K else bfsTo ld K s (i + d)) := rfl
    rw [e, ih, if_neg (by omega)]
/-- What holds of steps: a tree; each place once, and below n. -/
structure GoodB (n : Nat) (B : Steps) : Prop where
  tree : TreeB B
  below : ∀ i, i < B.length → ∃ p : Nat, plB B i = p ∧ p < n
  nodup : (B.map (·.1)).Nodup
  let_ : ∀ i, i < B.length → ∃ x : Nat, leB B i = x ∧ x < 1000
theorem pre_pl {B C : Steps} (h : B <+: C) (i : Nat) (hi : i < B.length) : plB C i = plB B i ∧ frB C i = frB B i ∧ leB C i = leB B i := by
  unfold plB frB leB; rw [getD_pre h i hi]; exact ⟨rfl, rfl, rfl⟩
theorem snoc_pl (B : Steps) (p : Nat) (i x : Int) : plB (B ++ [((p : Int), i, x)]) B.length = p ∧ frB (B ++ [((p : Int), i, x)]) B.length = i ∧ leB (B ++ [((p : Int), i, x)]) B.length = x := by
  unfold plB frB leB; simp [List.getD_eq_getElem?_getD]
theorem GoodB.start {n s : Nat} (hs : s < n) : GoodB n [((s : Int), -1, 0)] := by
  refine ⟨⟨by simp, rfl, fun i h0 hi => by simp at hi; omega⟩, fun i hi => ?_, by simp, fun i hi => ?_⟩
  · obtain rfl : i = 0 := by simpa using hi
    exact ⟨s, rfl, hs⟩
  · obtain rfl : i = 0 := by simpa using hi
    exact ⟨0, rfl, by omega⟩
theorem GoodB.add {n : Nat} {B : Steps} (h : GoodB n B) {ld : Nat → Nat → Nat} {p i x : Nat} (hi : i < B.length) (hx : x < 1000) (hq : ld p x < n) : GoodB n (addB ld B p i x) := by
  unfold addB
  split
  · exact h
  · rename_i hn
    obtain ⟨s1, s2, s3⟩ := snoc_pl B (ld p x) (i : Int) (x : Int)
    have hp : B <+: B ++ [(((ld p x : Nat) : Int), (i : Int), (x : Int))] := List.prefix_append _ _
    obtain ⟨t1, t2, t3⟩ := h.tree
    refine ⟨⟨by simp, by rw [(pre_pl hp 0 t1).2.1]; exact t2, fun j h0 hj => ?_⟩, fun j hj => ?_, ?_, fun j hj => ?_⟩
    · by_cases e : j < B.length
      · rw [(pre_pl hp j e).2.1]; exact t3 j h0 e
      · obtain rfl : j = B.length := by simp at hj; omega
        rw [s2]; omega
    · by_cases e : j < B.length
      · rw [(pre_pl hp j e).1]; exact h.below j e
      · obtain rfl : j = B.length := by simp at hj; omega
        exact ⟨_, s1, hq⟩
    · rw [List.map_append, List.nodup_append]
      refine ⟨h.nodup, by simp, fun a ha b hb => ?_⟩
      simp only [List.map_cons, List.map_nil, List.mem_cons, List.mem_nil_iff, or_false] at hb
      subst hb
      intro e
      subst e
      obtain ⟨t, ht, he⟩ := List.mem_map.1 ha
      refine hn ?_
      rw [hasP, List.any_eq_true]
      exact ⟨t, ht, by rw [he]; simp⟩
    · by_cases e : j < B.length
      · rw [(pre_pl hp j e).2.2]; exact h.let_ j e
      · obtain rfl : j = B.length := by simp at hj; omega
        exact ⟨x, s3, hx⟩
theorem GoodB.row {n : Nat} {B : Steps} (h : GoodB n B) {ld : Nat → Nat → Nat} {p i : Nat} (hi : i < B.length) : ∀ K, K ≤ 1000 → (∀ x, x < K → ld p x < n) → GoodB n (rowB ld B p i K)
  | 0, _, _ => h
  | K + 1, hK, hq => (h.row hi K (by omega) (fun x hx => hq x (by omega))).add (Nat.lt_of_lt_of_le hi (rowB_pre ld B p i K).length_le) (by omega) (hq K (by omega))
theorem GoodB.bfs {n K s : Nat} {ld : Nat → Nat → Nat} (hs : s < n) (hK : K ≤ 1000) (hld : ∀ p x, p < n → x < K → ld p x < n) : ∀ i, GoodB n (bfsTo ld K s i)
  | 0 => GoodB.start hs
  | i + 1 => by
    have ih := GoodB.bfs (n := n) hs hK hld i
    show GoodB n (if i < (bfsTo ld K s i).length then _ else _)
    split
    · rename_i hlt
      obtain ⟨p, hp, hpn⟩ := ih.below i hlt
      rw [hp, Int.toNat_natCast]
      exact ih.row hlt K hK (fun x hx => hld p x hpn hx)
    · exact ih
theorem nodup_len : ∀ (n : Nat) (l : List Int), l.Nodup → (∀ x ∈ l, 0 ≤ x ∧ x < (n : Int)) → l.length ≤ n
  | 0, l, _, hb => by
    cases l with
    | nil => simp
    | cons a l => have := hb a (by simp); omega
  | n + 1, l, hn, hb => by
    by_cases hm : (n : Int) ∈ l
    · have h1 := nodup_len n (l.erase n) (hn.erase _) (fun x hx => by
        have h2 := hb x (List.mem_of_mem_erase hx)
        have h3 : x ≠ n := fun e => by subst e; exact (List.Nodup.not_mem_erase hn) hx
        omega)
      rw [List.length_erase_of_mem hm] at h1
      omega
    · have := nodup_len n l hn (fun x hx => by
        have h2 := hb x hx
        have h3 : x ≠ n := fun e => by subst e; exact hm hx
        omega)
      omega
theorem GoodB.len {n : Nat} {B : Steps} (h : GoodB n B) : B.length ≤ n := by
  have := nodup_len n (B.map (·.1)) h.nodup (fun x hx => by
    obtain ⟨t, ht, rfl⟩ := List.mem_map.1 hx
    obtain ⟨i, hi, rfl⟩ := List.mem_iff_getElem.1 ht
    obtain ⟨p, hp, hpn⟩ := h.below i hi
    unfold plB at hp
    rw [List.getD_eq_getElem?_getD, List.getElem?_eq_getElem hi, Option.getD_some] at hp
    omega)
  simpa using this
/-- The word of a step does not change. -/
theorem wordB_pre {n : Nat} {B C : Steps} (h : B <+: C) (hB : GoodB n B) (hC : GoodB n C) : ∀ i, i < B.length → wordB C i = wordB B i := by
  intro i
  induction i using Nat.strongRecOn with
  | _ i ih =>
    intro hi
    have hi' : i < C.length := Nat.lt_of_lt_of_le hi h.length_le
    rcases Nat.eq_zero_or_pos i with e | e
    · subst e; rw [wordB_root hB.tree, wordB_root hC.tree]
    · obtain ⟨_, h2, h3⟩ := pre_pl h i hi
      obtain ⟨k1, k2⟩ := hB.tree.2.2 i e hi
      rw [wordB_step hC.tree e hi', wordB_step hB.tree e hi, h2, h3, ih (frB B i).toNat (by omega) (by omega)]
end Go.Proofs.YtbhhemidnmaodaaDoor
namespace Go.Proofs.YtbhhemidnmaodaaDoor
open Go.RowKit Go.Shelf
/-- The steps come in the order of those that they come from, up to a bound. -/
def RiseB (B : Steps) (b : Int) : Prop := (∀ k, k < B.length → frB B k ≤ b) ∧ ∀ j k, j ≤ k → k < B.length → frB B j ≤ frB B k
theorem RiseB.mono {B : Steps} {b c : Int} (h : RiseB B b) (hbc : b ≤ c) : RiseB B c := ⟨fun k hk => by have := h.1 k hk; omega, h.2⟩
theorem RiseB.add {B : Steps} {i : Nat} (h : RiseB B i) (ld : Nat → Nat → Nat) (p x : Nat) : RiseB (addB ld B p i x) i := by
  unfold addB
  split
  · exact h
  · obtain ⟨s1, s2, s3⟩ := snoc_pl B (ld p x) (i : Int) (x : Int)
    have hp : B <+: B ++ [(((ld p x : Nat) : Int), (i : Int), (x : Int))] := List.prefix_append _ _
    have key : ∀ k, k < (B ++ [(((ld p x : Nat) : Int), (i : Int), (x : Int))]).length → (k < B.length ∧ frB (B ++ [(((ld p x : Nat) : Int), (i : Int), (x : Int))]) k = frB B k) ∨ (k = B.length ∧ frB (B ++ [(((ld p x : Nat) : Int), (i : Int), (x : Int))]) k = i) := fun k hk => by
      by_cases e : k < B.length
      · exact .inl ⟨e, (pre_pl hp k e).2.1⟩
      · have e2 : k = B.length := by rw [List.length_append] at hk; simp at hk; omega
        subst e2
        exact .inr ⟨rfl, s2⟩
    refine ⟨fun k hk => ?_, fun j k hjk hk => ?_⟩
    · rcases key k hk with ⟨h1, h2⟩ | ⟨_, h2⟩ <;> rw [h2]
      · exact h.1 k h1
      · exact Int.le_refl _
    · rcases key k hk with ⟨h1, h2⟩ | ⟨h1, h2⟩
      · rcases key j (by omega) with ⟨h3, h4⟩ | ⟨h3, h4⟩
        · rw [h2, h4]; exact h.2 j k hjk h1
        · omega
      · rcases key j (by omega) with ⟨h3, h4⟩ | ⟨h3, h4⟩
        · rw [h2, h4]; exact h.1 j h3
        · rw [h2, h4]; exact Int.le_refl _
theorem RiseB.row {B : Steps} {i : Nat} (h : RiseB B i) (ld : Nat → Nat → Nat) (p : Nat) : ∀ K, RiseB (rowB ld B p i K) i
  | 0 => h
  | K + 1 => (h.row ld p K).add ld p K
theorem RiseB.bfs (ld : Nat → Nat → Nat) (K s : Nat) : ∀ i : Nat, RiseB (bfsTo ld K s i) ((i : Int) - 1)
  | 0 => by
    refine ⟨fun k hk => ?_, fun j k hjk hk => ?_⟩
    · obtain rfl : k = 0 := by simpa [bfsTo] using hk
      exact Int.le_of_eq rfl
    · obtain rfl : k = 0 := by simpa [bfsTo] using hk
      obtain rfl : j = 0 := by omega
      exact Int.le_refl _
  | i + 1 => by
    have ih := RiseB.bfs ld K s i
    have e : bfsTo ld K s (i + 1) = (if i < (bfsTo ld K s i).length then rowB ld (bfsTo ld K s i) (plB (bfsTo ld K s i) i).toNat i K else bfsTo ld K s i) := rfl
    rw [e]
    split
    · exact ((ih.mono (by omega)).row ld _ K).mono (by omega)
    · exact ih.mono (by omega)
theorem hasP_iff {B : Steps} {q : Nat} (h : hasP B q = true) : ∃ j, j < B.length ∧ plB B j = (q : Int) := by
  rw [hasP, List.any_eq_true] at h
  obtain ⟨t, ht, he⟩ := h
  obtain ⟨j, hj, rfl⟩ := List.mem_iff_getElem.1 ht
  refine ⟨j, hj, ?_⟩
  unfold plB
  rw [List.getD_eq_getElem?_getD, List.getElem?_eq_getElem hj, Option.getD_some]
  exact eq_of_beq he
theorem addB_has (ld : Nat → Nat → Nat) (B : Steps) (p i x : Nat) : hasP (addB ld B p i x) (ld p x) = true := by
  unfold addB
  split
  · assumption
  · rw [hasP_snoc]; simp
end Go.Proofs.YtbhhemidnmaodaaDoor
namespace Go.Proofs.YtbhhemidnmaodaaDoor
open Go.RowKit Go.Shelf
/-- Each step's letter leads from the place that it comes from. -/
def EdgeB (ld : Nat → Nat → Nat) (B : Steps) : Prop := ∀ k, 0 < k → k < B.length → plB B k = ((ld (plB B (frB B k).toNat).toNat (leB B k).toNat : Nat) : Int)
theorem EdgeB.add {ld : Nat → Nat → Nat} {B : Steps} (hT : TreeB B) (h : EdgeB ld B) {p i x : Nat} (hi : i < B.length) (hp : plB B i = (p : Int)) : EdgeB ld (addB ld B p i x) := by
  unfold addB
  split
  · exact h
  · obtain ⟨s1, s2, s3⟩ := snoc_pl B (ld p x) (i : Int) (x : Int)
    have hpre : B <+: B ++ [(((ld p x : Nat) : Int), (i : Int), (x : Int))] := List.prefix_append _ _
    intro k h0 hk
    by_cases e : k < B.length
    · obtain ⟨t1, t2⟩ := hT.2.2 k h0 e
      rw [(pre_pl hpre k e).1, (pre_pl hpre k e).2.1, (pre_pl hpre k e).2.2, (pre_pl hpre (frB B k).toNat (by omega)).1]
      exact h k h0 e
    · have e2 : k = B.length := by rw [List.length_append] at hk; simp at hk; omega
      subst e2
      rw [s1, s2, s3, Int.toNat_natCast, Int.toNat_natCast, (pre_pl hpre i hi).1, hp, Int.toNat_natCast]
theorem EdgeB.row {n : Nat} {ld : Nat → Nat → Nat} {B : Steps} (hG : GoodB n B) (h : EdgeB ld B) {p i : Nat} (hi : i < B.length) (hp : plB B i = (p : Int)) : ∀ K, K ≤ 1000 → (∀ x, x < K → ld p x < n) → EdgeB ld (rowB ld B p i K)
  | 0, _, _ => h
  | K + 1, hK, hq => by
    have hg := GoodB.row hG hi K (by omega) (fun x hx => hq x (by omega))
    exact (EdgeB.row hG h hi hp K (by omega) (fun x hx => hq x (by omega))).add hg.tree (Nat.lt_of_lt_of_le hi (rowB_pre ld B p i K).length_le) ((pre_pl (rowB_pre ld B p i K) i hi).1.trans hp)
theorem EdgeB.bfs {n K s : Nat} {ld : Nat → Nat → Nat} (hs : s < n) (hK : K ≤ 1000) (hld : ∀ p x, p < n → x < K → ld p x < n) : ∀ i, EdgeB ld (bfsTo ld K s i)
  | 0 => fun k h0 hk => by simp [bfsTo] at hk; omega
  | i + 1 => by
    have ih := EdgeB.bfs (n := n) hs hK hld i
    have e : bfsTo ld K s (i + 1) = (if i < (bfsTo ld K s i).length then rowB ld (bfsTo ld K s i) (plB (bfsTo ld K s i) i).toNat i K else bfsTo ld K s i) := rfl
    rw [e]
    split
    · rename_i hlt
      have hg := GoodB.bfs (n := n) (K := K) (s := s) (ld := ld) hs hK hld i
      obtain ⟨p, hp, hpn⟩ := hg.below i hlt
      rw [hp, Int.toNat_natCast]
      exact EdgeB.row hg ih hlt hp K hK (fun x hx => hld p x hpn hx)
    · exact ih
theorem bfs_zero (ld : Nat → Nat → Nat) (K s n : Nat) : 0 < (bfsTo ld K s n).length ∧ plB (bfsTo ld K s n) 0 = (s : Int) := by
  have hpre : bfsTo ld K s 0 <+: bfsTo ld K s n := by
    have := bfs_pre_le ld K s 0 n
    rwa [Nat.zero_add] at this
  have h0 : 0 < (bfsTo ld K s 0).length := Nat.zero_lt_one
  exact ⟨Nat.lt_of_lt_of_le h0 hpre.length_le, (pre_pl hpre 0 h0).1⟩
/-- The word of a step leads to its place. -/
theorem word_leads {n K s : Nat} {ld : Nat → Nat → Nat} (hs : s < n) (hK : K ≤ 1000) (hld : ∀ p x, p < n → x < K → ld p x < n) : ∀ j, j < (bfsTo ld K s n).length → plB (bfsTo ld K s n) j = ((((wordB (bfsTo ld K s n) j).map Int.toNat).foldl ld s : Nat) : Int) := by
  have hg := GoodB.bfs (n := n) (K := K) (s := s) (ld := ld) hs hK hld n
  have hE := EdgeB.bfs (n := n) (K := K) (s := s) (ld := ld) hs hK hld n
  have hz := (bfs_zero ld K s n).2
  intro j
  induction j using Nat.strongRecOn with
  | _ j ih =>
    intro hj
    rcases Nat.eq_zero_or_pos j with e | e
    · subst e; rw [wordB_root hg.tree, hz]; rfl
    · obtain ⟨b1, b2⟩ := hg.tree.2.2 j e hj
      rw [hE j e hj, wordB_step hg.tree e hj, List.map_append, List.foldl_append]
      have h := ih (frB (bfsTo ld K s n) j).toNat (by omega) (by omega)
      rw [h, Int.toNat_natCast]
      rfl
/-- A place stands once. -/
theorem place_once {n : Nat} {B : Steps} (h : GoodB n B) {i j : Nat} (hi : i < B.length) (hj : j < B.length) (e : plB B i = plB B j) : i = j := by
  have hn := h.nodup
  have e1 : (B.map (·.1))[i]'(by simpa using hi) = (B.map (·.1))[j]'(by simpa using hj) := by
    unfold plB at e
    rw [List.getD_eq_getElem?_getD, List.getElem?_eq_getElem hi, List.getD_eq_getElem?_getD, List.getElem?_eq_getElem hj] at e
    simpa using e
  exact (List.getElem_inj hn).1 e1
end Go.Proofs.YtbhhemidnmaodaaDoor
namespace Go.Proofs.YtbhhemidnmaodaaDoor
open Go.RowKit Go.Shelf
/-- The steps came in the order of (the step that they come from, the letter); all before a round and a letter. -/
def OrdB (B : Steps) (i x : Int) : Prop :=
  (∀ k, 0 < k → k < B.length → frB B k < i ∨ (frB B k = i ∧ leB B k < x)) ∧ ∀ j k, 0 < j → j < k → k < B.length → frB B j < frB B k ∨ (frB B j = frB B k ∧ leB B j < leB B k)
theorem OrdB.add {B : Steps} {i x : Nat} (h : OrdB B i x) (ld : Nat → Nat → Nat) (p : Nat) : OrdB (addB ld B p i x) i ((x : Int) + 1) := by
  unfold addB
  split
  · refine ⟨fun k h0 hk => ?_, h.2⟩
    rcases h.1 k h0 hk with h1 | ⟨h1, h2⟩
    · exact .inl h1
    · exact .inr ⟨h1, by omega⟩
  · obtain ⟨s1, s2, s3⟩ := snoc_pl B (ld p x) (i : Int) (x : Int)
    have hp : B <+: B ++ [(((ld p x : Nat) : Int), (i : Int), (x : Int))] := List.prefix_append _ _
    have key : ∀ k, k < (B ++ [(((ld p x : Nat) : Int), (i : Int), (x : Int))]).length → (k < B.length ∧ frB (B ++ [(((ld p x : Nat) : Int), (i : Int), (x : Int))]) k = frB B k ∧ leB (B ++ [(((ld p x : Nat) : Int), (i : Int), (x : Int))]) k = leB B k) ∨ (k = B.length ∧ frB (B ++ [(((ld p x : Nat) : Int), (i : Int), (x : Int))]) k = i ∧ leB (B ++ [(((ld p x : Nat) : Int), (i : Int), (x : Int))]) k = x) := fun k hk => by
      by_cases e : k < B.length
      · exact .inl ⟨e, (pre_pl hp k e).2.1, (pre_pl hp k e).2.2⟩
      · have e2 : k = B.length := by rw [List.length_append] at hk; simp at hk; omega
        subst e2
        exact .inr ⟨rfl, s2, s3⟩
    refine ⟨fun k h0 hk => ?_, fun j k h0 hjk hk => ?_⟩
    · rcases key k hk with ⟨h1, h2, h3⟩ | ⟨_, h2, h3⟩ <;> rw [h2, h3]
      · rcases h.1 k h0 h1 with h4 | ⟨h4, h5⟩
        · exact .inl h4
        · exact .inr ⟨h4, by omega⟩
      · exact .inr ⟨rfl, by omega⟩
    · rcases key k hk with ⟨h1, h2, h3⟩ | ⟨h1, h2, h3⟩
      · rcases key j (by omega) with ⟨h4, h5, h6⟩ | ⟨h4, h5, h6⟩
        · rw [h2, h3, h5, h6]; exact h.2 j k h0 hjk h1
        · omega
      · rcases key j (by omega) with ⟨h4, h5, h6⟩ | ⟨h4, h5, h6⟩
        · rw [h2, h3, h5, h6]; exact h.1 j h0 h4
        · omega
theorem OrdB.row {B : Steps} {i : Nat} (h : OrdB B i 0) (ld : Nat → Nat → Nat) (p : Nat) : ∀ K : Nat, OrdB (rowB ld B p i K) i K
  | 0 => h
  | K + 1 => by
    have := (OrdB.row h ld p K).add ld p
    rw [show ((K + 1 : Nat) : Int) = (K : Int) + 1 by omega]
    exact this
theorem OrdB.bfs (ld : Nat → Nat → Nat) (K s : Nat) : ∀ i : Nat, OrdB (bfsTo ld K s i) i 0
  | 0 => ⟨fun k h0 hk => by simp [bfsTo] at hk; omega, fun j k h0 hjk hk => by simp [bfsTo] at hk; omega⟩
  | i + 1 => by
    have ih := OrdB.bfs ld K s i
    have e : bfsTo ld K s (i + 1) = (if i < (bfsTo ld K s i).length then rowB ld (bfsTo ld K s i) (plB (bfsTo ld K s i) i).toNat i K else bfsTo ld K s i) := rfl
    have next : ∀ {B : Steps} {x : Int}, OrdB B i x → OrdB B ((i + 1 : Nat) : Int) 0 := fun h => ⟨fun k h0 hk => by rcases h.1 k h0 hk with h1 | ⟨h1, _⟩ <;> exact .inl (by omega), h.2⟩
    rw [e]
    split
    · exact next (ih.row ld _ K)
    · exact next ih
theorem rowB_le (ld : Nat → Nat → Nat) (B : Steps) (p i : Nat) : ∀ d x : Nat, rowB ld B p i x <+: rowB ld B p i (x + d)
  | 0, _ => List.prefix_refl _
  | d + 1, x => (rowB_le ld B p i d x).trans (addB_pre ld _ p i (x + d))
/-- The place to which a letter leads was reached at that letter of that step, or before. -/
theorem bfs_first {n K s : Nat} {ld : Nat → Nat → Nat} (hs : s < n) (hK : K ≤ 1000) (hld : ∀ p x, p < n → x < K → ld p x < n) (i p x : Nat) (hi : i < (bfsTo ld K s n).length) (hp : plB (bfsTo ld K s n) i = (p : Int)) (hx : x < K) :
    ∃ j, j < (bfsTo ld K s n).length ∧ plB (bfsTo ld K s n) j = ((ld p x : Nat) : Int) ∧ (j = 0 ∨ frB (bfsTo ld K s n) j < i ∨ (frB (bfsTo ld K s n) j = i ∧ leB (bfsTo ld K s n) j ≤ x)) := by
  have hg := GoodB.bfs (n := n) (K := K) (s := s) (ld := ld) hs hK hld
  have hn := (hg n).len
  have hlt : i < (bfsTo ld K s i).length := by
    rcases Nat.lt_or_ge i (bfsTo ld K s i).length with h | h
    · exact h
    · exfalso
      have e := bfs_stop ld K s i h (n - i)
      rw [show i + (n - i) = n by omega] at e
      rw [e] at hi; omega
  have hpre1 : bfsTo ld K s i <+: bfsTo ld K s n := by
    have := bfs_pre_le ld K s i (n - i)
    rwa [show i + (n - i) = n by omega] at this
  have hpre2 : bfsTo ld K s (i + 1) <+: bfsTo ld K s n := by
    have := bfs_pre_le ld K s (i + 1) (n - (i + 1))
    rwa [show i + 1 + (n - (i + 1)) = n by omega] at this
  have hpi : plB (bfsTo ld K s i) i = (p : Int) := (pre_pl hpre1 i hlt).1.symm.trans hp
  have e : bfsTo ld K s (i + 1) = rowB ld (bfsTo ld K s i) p i K := by
    have e0 : bfsTo ld K s (i + 1) = (if i < (bfsTo ld K s i).length then rowB ld (bfsTo ld K s i) (plB (bfsTo ld K s i) i).toNat i K else bfsTo ld K s i) := rfl
    rw [e0, if_pos hlt, hpi, Int.toNat_natCast]
  have hpre3 : rowB ld (bfsTo ld K s i) p i (x + 1) <+: bfsTo ld K s n := by
    have := rowB_le ld (bfsTo ld K s i) p i (K - (x + 1)) (x + 1)
    rw [show x + 1 + (K - (x + 1)) = K by omega, ← e] at this
    exact this.trans hpre2
  obtain ⟨j, hj, hpj⟩ := hasP_iff (addB_has ld (rowB ld (bfsTo ld K s i) p i x) p i x)
  have hj : j < (rowB ld (bfsTo ld K s i) p i (x + 1)).length := hj
  obtain ⟨r1, r2, r3⟩ := pre_pl hpre3 j hj
  refine ⟨j, Nat.lt_of_lt_of_le hj hpre3.length_le, r1.trans hpj, ?_⟩
  rcases Nat.eq_zero_or_pos j with e1 | e1
  · exact .inl e1
  · rw [r2, r3]
    rcases ((OrdB.bfs ld K s i).row ld p (x + 1)).1 j e1 hj with h1 | ⟨h1, h2⟩
    · exact .inr (.inl h1)
    · exact .inr (.inr ⟨h1, by omega⟩)
end Go.Proofs.YtbhhemidnmaodaaDoor
namespace Go.Proofs.YtbhhemidnmaodaaDoor
open Go.RowKit Go.Shelf
def lexLt : List Int → List Int → Prop
  | x :: a, y :: b => x < y ∨ (x = y ∧ lexLt a b)
  | _, _ => False
theorem lexLt.trans : ∀ {a b d : List Int}, lexLt a b → lexLt b d → lexLt a d
  | [], _, _, h, _ => h.elim
  | _ :: _, [], _, h, _ => h.elim
  | _ :: _, _ :: _, [], _, k => k.elim
  | x :: a, y :: b, z :: d, h, k => by
    rcases h with h | ⟨rfl, h⟩
    · rcases k with k | ⟨rfl, _⟩
      · exact .inl (by omega)
      · exact .inl h
    · rcases k with k | ⟨rfl, k⟩
      · exact .inl k
      · exact .inr ⟨rfl, lexLt.trans h k⟩
theorem lexLt.snoc : ∀ {a b : List Int}, lexLt a b → ∀ x y : Int, lexLt (a ++ [x]) (b ++ [y])
  | [], _, h, _, _ => h.elim
  | _ :: _, [], h, _, _ => h.elim
  | p :: a, q :: b, h, x, y => by
    rcases h with h | ⟨rfl, h⟩
    · exact .inl h
    · exact .inr ⟨rfl, h.snoc x y⟩
theorem lexLt.last : ∀ (a : List Int) {x y : Int}, x < y → lexLt (a ++ [x]) (a ++ [y])
  | [], _, _, h => .inl h
  | _ :: a, _, _, h => .inr ⟨rfl, lexLt.last a h⟩
/-- Shorter, or of the same length and earlier in order. -/
def SL (a b : List Int) : Prop := a.length < b.length ∨ (a.length = b.length ∧ lexLt a b)
def SLe (a b : List Int) : Prop := a = b ∨ SL a b
theorem SL.snoc {a b : List Int} (h : SL a b) (x y : Int) : SL (a ++ [x]) (b ++ [y]) := by
  rcases h with h | ⟨h, k⟩
  · exact .inl (by simp; omega)
  · exact .inr ⟨by simp; omega, k.snoc x y⟩
theorem SL.last (a : List Int) {x y : Int} (h : x < y) : SL (a ++ [x]) (a ++ [y]) := .inr ⟨by simp, lexLt.last a h⟩
theorem SL.trans {a b d : List Int} (h : SL a b) (k : SL b d) : SL a d := by
  rcases h with h | ⟨h, h'⟩ <;> rcases k with k | ⟨k, k'⟩
  · exact .inl (by omega)
  · exact .inl (by omega)
  · exact .inl (by omega)
  · exact .inr ⟨by omega, h'.trans k'⟩
theorem SLe.snoc {a b : List Int} (h : SLe a b) (x : Int) : SLe (a ++ [x]) (b ++ [x]) := by
  rcases h with rfl | h
  · exact .inl rfl
  · exact .inr (h.snoc x x)
theorem SL.le {a b d : List Int} (h : SL a b) (k : SLe b d) : SL a d := by
  rcases k with rfl | k
  · exact h
  · exact h.trans k
/-- The steps come in the order of their words. -/
theorem words_rise {B : Steps} {i x : Int} (hT : TreeB B) (hO : OrdB B i x) : ∀ k j, j < k → k < B.length → SL (wordB B j) (wordB B k) := by
  intro k
  induction k using Nat.strongRecOn with
  | _ k ih =>
    intro j hjk hk
    obtain ⟨b1, b2⟩ := hT.2.2 k (by omega) hk
    rw [wordB_step hT (by omega) hk]
    rcases Nat.eq_zero_or_pos j with e | e
    · subst e
      rw [wordB_root hT]
      exact .inl (by simp)
    · obtain ⟨a1, a2⟩ := hT.2.2 j e (by omega)
      rw [wordB_step hT e (by omega)]
      rcases hO.2 j k e hjk hk with h | ⟨h, h'⟩
      · exact (ih (frB B k).toNat (by omega) (frB B j).toNat (by omega) (by omega)).snoc _ _
      · rw [h]
        exact SL.last _ h'
/-- Of all words that lead to a place that of its step comes first. -/
theorem word_least {n K s : Nat} {ld : Nat → Nat → Nat} (hs : s < n) (hK : K ≤ 1000) (hld : ∀ p x, p < n → x < K → ld p x < n) : ∀ (m : Nat) (u : List Nat), u.length = m → (∀ x ∈ u, x < K) →
    ∃ j, j < (bfsTo ld K s n).length ∧ plB (bfsTo ld K s n) j = ((u.foldl ld s : Nat) : Int) ∧ SLe (wordB (bfsTo ld K s n) j) (u.map fun x : Nat => (x : Int)) := by
  have hg := GoodB.bfs (n := n) (K := K) (s := s) (ld := ld) hs hK hld n
  have hT := hg.tree
  have hO := OrdB.bfs ld K s n
  intro m
  induction m with
  | zero =>
    intro u hl _
    obtain rfl : u = [] := List.eq_nil_of_length_eq_zero hl
    obtain ⟨z1, z2⟩ := bfs_zero ld K s n
    exact ⟨0, z1, z2, .inl (by rw [wordB_root hT]; rfl)⟩
  | succ m ih =>
    intro u hl hu
    obtain ⟨u', x, rfl⟩ : ∃ u' x, u = u' ++ [x] := by
      have hne : u ≠ [] := fun e => by subst e; simp at hl
      exact ⟨u.dropLast, u.getLast hne, (List.dropLast_concat_getLast hne).symm⟩
    obtain ⟨i, hi, hp, hw⟩ := ih u' (by simp at hl; omega) (fun y hy => hu y (by simp [hy]))
    have hx := hu x (by simp)
    obtain ⟨j, hj, hpj, hord⟩ := bfs_first hs hK hld i _ x hi hp hx
    refine ⟨j, hj, by rw [hpj, List.foldl_append]; rfl, ?_⟩
    rw [List.map_append]
    show SLe _ ((u'.map fun x : Nat => (x : Int)) ++ [(x : Int)])
    rcases Nat.eq_zero_or_pos j with e | e
    · subst e
      rw [wordB_root hT]
      exact .inr (.inl (by simp))
    · obtain ⟨b1, b2⟩ := hT.2.2 j e hj
      rw [wordB_step hT e hj]
      rcases hord with h | h | ⟨h, h'⟩
      · omega
      · have h1 := words_rise hT hO i (frB (bfsTo ld K s n) j).toNat (by omega) hi
        exact .inr ((h1.snoc _ (x : Int)).le (hw.snoc _))
      · rw [h, Int.toNat_natCast]
        rcases Int.lt_or_eq_of_le h' with h2 | h2
        · exact .inr ((SL.last _ h2).le (hw.snoc _))
        · rw [h2]; exact hw.snoc _
end Go.Proofs.YtbhhemidnmaodaaDoor
namespace Go.Proofs.YtbhhemidnmaodaaDoor
open Go.RowKit Go.Shelf
/-- WHAT AN ITERATOR PROMISES: gf with what comes before and behind yield among its arguments; encs: yield's arguments; n₀: what it reads lies below; G: what holds of an element while its round begins. -/
def SeqO {α : Type} (gf : Nat) (fb lb : Array Value) (encs : α → Array Value) (n₀ : Nat) (G : Blocks → α → World → Prop) (S Sp : List α → Prop) (w0 : World) (X0 : Blocks) : Prop :=
  ∀ (l : Nat) (J Jx : Blocks → List α → World → Prop) (W : World), Below w0.heap.size w0 W → Minds J → Minds Jx →
    (∀ X pre x W1, (∀ k, X k → k < W1.heap.size) → J X pre W1 → G X x W1 → Sp (pre ++ [x]) → YieldAt Fence.wide 0 Tryd.prog l (encs x) W1 fun e W' =>
      ((e = .returned (.bool true) ∧ J X (pre ++ [x]) W') ∨ (e = .returned (.bool false) ∧ Jx X (pre ++ [x]) W')) ∧ Keep n₀ X W1 W') →
    J X0 [] W →
    Calls Tryd.prog gf ((fb ++ #[.func (.yield l) #[] #[]]) ++ lb) W fun e W' => (∃ v, e = .returned v) ∧ ((∃ X xs, S xs ∧ J X xs W') ∨ (∃ X pre, Sp pre ∧ Jx X pre W'))
/-- THE STATEMENT 'for .. := range f { .. }' over an iterator that keeps its promise. -/
theorem range_lawO {α : Type} {g : Operand} {ps : Array Tmp} {assign body : Code} {Q : Exit → Act → World → Prop} {a : Act} {w : World} {gf : Nat} {fb lb : Array Value}
    (hg : a.eval g = .func (.func gf) fb lb) (eg : ∀ args w, (callFunc gf args).run Tryd.prog w = .ok (.enter gf args) w)
    {encs : α → Array Value} {n₀ : Nat} {G : Blocks → α → World → Prop} {S Sp : List α → Prop} {w0 : World} {X0 : Blocks} (hseq : SeqO gf fb lb encs n₀ G S Sp w0 X0) (hX0 : ∀ k, X0 k → k < w.heap.size)
    (hG : ∀ X x W W', G X x W → Keep n₀ X W W' → G X x W') (hn : n₀ ≤ w.heap.size) (hb0 : Below w0.heap.size w0 w) (hps : ∀ x, (encs x).size = ps.size)
    (I : Blocks → List α → World → Prop) (Ix : Code → Blocks → List α → World → Prop) (hI : Stable w.heap.size I) (hIx : ∀ c, Stable w.heap.size (Ix c)) (h0 : I X0 [] w)
    (Ax : α → Act → World → Prop) (hAx : ∀ x a', Stable w.heap.size (fun _ (_ : Unit) W => Ax x a' W))
    (hassign : ∀ (l : Nat) (X : Blocks) (pre : List α) (x : α) (W : World) (K : Act → World → Prop), I X pre W → (∀ a' W', KeepsFrom w.heap.size W W' → Keep n₀ X W W' → I X pre W' → Ax x a' W' → K a' W') →
      assign.wpIn (Fence.wide.inRound l) 0 Tryd.prog (Exit.then K (fun _ _ _ => False)) { tmps := (ps.zip (encs x)).foldl (fun t (p, v) => t.setIfInBounds p v) a.tmps, defers := [] } W)
    (hbody : ∀ (l : Nat) (X : Blocks) (pre : List α) (x : α) (a' : Act) (W : World), w.heap.size ≤ l → (∃ r, W.heap[l]? = some (.loop r)) → ¬ X l → (∀ k, X k → k < W.heap.size) → I X pre W → G X x W → Ax x a' W → Sp (pre ++ [x]) →
      body.wpIn (Fence.wide.inRound l) 0 Tryd.prog (postX w.heap.size n₀ I Ix X (pre ++ [x]) W) a' W)
    (hdone : ∀ (D : Nat) (X : Blocks) (xs : List α) (W : World), w.heap.size ≤ D → S xs → I X xs W → W.heap[D]? = some (.deferred (some [])) → Q .normal { a with defers := { target := .collected D, args := #[] } :: a.defers } W)
    (hstop : ∀ (D : Nat) (X : Blocks) (c : Code) (pre : List α) (W : World), w.heap.size ≤ D → Sp pre → Ix c X pre W → W.heap[D]? = some (.deferred (some [])) → c.wpIn Fence.wide 0 Tryd.prog Q { a with defers := { target := .collected D, args := #[] } :: a.defers } W) :
    (Code.rangeFunc g ps assign body).wpIn Fence.wide 0 Tryd.prog Q a w := by
  refine wpIn_rangeFunc ?_
  intro fn hfn
  obtain ⟨rec, hrec⟩ : ∃ rec : LoopState → Option Code → Loop, rec = fun st pe => { state := st, pending := pe, fn, tmps := a.tmps, params := ps, assign, body, defers := w.heap.size } := ⟨_, rfl⟩
  obtain ⟨W1, hW1⟩ : ∃ W1, (w.alloc (.deferred (some []))).alloc (.loop (rec .ready none)) = W1 := ⟨_, rfl⟩
  have hL1 : W1.heap[w.heap.size + 1]? = some (.loop (rec .ready none)) := by
    rw [← hW1]; have := World.alloc_heap_new (w.alloc (.deferred (some []))) (.loop (rec .ready none)); rwa [World.size_alloc] at this
  have hK1 : W1.heap[w.heap.size]? = some (.deferred (some [])) := by
    rw [← hW1]; exact (Below.heap_alloc _ _ _ (by simp)).trans (World.alloc_heap_new w _)
  have hI1 : I X0 [] W1 := by rw [← hW1]; exact hI.new _ (hI.new _ h0)
  have hb1 : Below w0.heap.size w0 W1 := by
    rw [← hW1]; exact hb0.trans ((((Below.refl _ w).alloc (Nat.le_refl _) _).alloc (by simp) _).mono hb0.size)
  refine ⟨w.heap.size + 1, [{ target := .collected w.heap.size, args := #[] }], W1, { target := .fn (.func gf) lb, args := fb ++ #[.func (.yield (w.heap.size + 1)) #[] #[]] }, W1, gf,
    (fb ++ #[.func (.yield (w.heap.size + 1)) #[] #[]]) ++ lb, W1, ?_, ?_, fun f' _ => trivial, ?_, fun h => by simp [Fence.wide] at h, ?_⟩
  · rw [← hW1, hrec]; exact run_enterLoop_outer _ _ _ _ _
  · simp only [resolve, hg]
    simp [go_sem, Deferred.ofValue]
  · simp [invoke, go_sem, eg]
  · refine callsIn_wide.2 ?_
    refine (hseq (w.heap.size + 1)
      (fun X pre W => I X pre W ∧ ¬ X (w.heap.size + 1) ∧ ¬ X w.heap.size ∧ W.heap[w.heap.size + 1]? = some (.loop (rec .ready none)) ∧ W.heap[w.heap.size]? = some (.deferred (some [])))
      (fun X pre W => ∃ c, Ix c X pre W ∧ ¬ X (w.heap.size + 1) ∧ ¬ X w.heap.size ∧ W.heap[w.heap.size + 1]? = some (.loop (rec .done (some c))) ∧ W.heap[w.heap.size]? = some (.deferred (some [])))
      W1 hb1 ?_ ?_ ?_ ⟨hI1, fun h => by have := hX0 _ h; omega, fun h => by have := hX0 _ h; omega, hL1, hK1⟩).mono ?_
    · rintro X X' s A B ⟨h1, h2, h3, h4, h5⟩ ht hX
      have l4 := (Array.getElem?_eq_some_iff.1 h4).1
      refine ⟨hI X X' s A B h1 ht.os ht.tape ht.output ht.size (fun k o hk hx _ => (ht.block k (Array.getElem?_eq_some_iff.1 hk).1 hx).trans hk) hX, fun h => ?_, fun h => ?_, (ht.block _ l4 h2).trans h4, (ht.block _ (by omega) h3).trans h5⟩
      · rcases hX _ h with h | h
        · exact h2 h
        · omega
      · rcases hX _ h with h | h
        · exact h3 h
        · omega
    · rintro X X' s A B ⟨c, h1, h2, h3, h4, h5⟩ ht hX
      have l4 := (Array.getElem?_eq_some_iff.1 h4).1
      refine ⟨c, hIx c X X' s A B h1 ht.os ht.tape ht.output ht.size (fun k o hk hx _ => (ht.block k (Array.getElem?_eq_some_iff.1 hk).1 hx).trans hk) hX, fun h => ?_, fun h => ?_, (ht.block _ l4 h2).trans h4, (ht.block _ (by omega) h3).trans h5⟩
      · rcases hX _ h with h | h
        · exact h2 h
        · omega
      · rcases hX _ h with h | h
        · exact h3 h
        · omega
    · -- one round
      rintro X pre x W hXs ⟨hi, hXl, hXd, hl, hk⟩ hgx hsp
      have hy := run_yield (P := Tryd.prog) (args := encs x) hl (by rw [hrec]; exact hps x)
      rw [hrec] at hy
      refine ⟨fn, _, assign, body, hy, roundIn_of_wpIn trivial (hassign _ X pre x W _ hi ?_)⟩
      clear hy
      intro a' Wa hkfa hkpa hia hax
      have hl' := hkfa.same _ _ (by omega) hl rfl
      have hk' := hkfa.same _ _ (Nat.le_refl _) hk rfl
      have hlt := (Array.getElem?_eq_some_iff.1 hl').1
      refine ⟨_, run_beginRound hl' (by rw [hrec]), ?_⟩
      have hl2 : (Wa.putObj (w.heap.size + 1) (.loop { rec .ready none with state := .busy })).heap[w.heap.size + 1]? = some (.loop { rec .ready none with state := .busy }) := World.putObj_heap_same hlt
      have hk2 : (Wa.putObj (w.heap.size + 1) (.loop { rec .ready none with state := .busy })).heap[w.heap.size]? = some (.deferred (some [])) := (World.putObj_heap_other (by omega)).trans hk'
      have hkp2 : Keep n₀ X Wa (Wa.putObj (w.heap.size + 1) (.loop { rec .ready none with state := .busy })) := keep_put _ (by omega) hXl
      refine wpIn_mono (hbody _ X pre x a' _ (by omega) ⟨_, hl2⟩ hXl (fun k hk => by have h1 := hXs k hk; have h2 := hkpa.size; simp; omega) (hI.put _ hia (by omega) hl' rfl) (hG _ _ _ _ hgx (hkpa.trans hkp2)) ((hAx x a').put (X := X) (s := ()) _ hax (by omega) hl' rfl) hsp) ?_
      have fin : ∀ (jump : Option Code) (W3 : World), KeepsFrom w.heap.size (Wa.putObj (w.heap.size + 1) (.loop { rec .ready none with state := .busy })) W3 →
          (Instr.endRound (w.heap.size + 1) jump).run Tryd.prog W3 = .ok (.bool jump.isNone) (W3.putObj (w.heap.size + 1) (.loop (rec (if jump.isNone then .ready else .done) jump))) ∧
          W3.heap[w.heap.size + 1]? = some (.loop { rec .ready none with state := .busy }) ∧
          (W3.putObj (w.heap.size + 1) (.loop (rec (if jump.isNone then .ready else .done) jump))).heap[w.heap.size + 1]? = some (.loop (rec (if jump.isNone then .ready else .done) jump)) ∧
          (W3.putObj (w.heap.size + 1) (.loop (rec (if jump.isNone then .ready else .done) jump))).heap[w.heap.size]? = some (.deferred (some [])) := fun jump W3 hk3 => by
        have hl3 := hk3.same _ _ (by omega) hl2 rfl
        have := run_endRound (P := Tryd.prog) jump hl3
        rw [hrec] at this ⊢
        exact ⟨this, by rw [hrec] at hl3; exact hl3, World.putObj_heap_same (Array.getElem?_eq_some_iff.1 hl3).1, (World.putObj_heap_other (by omega)).trans (hk3.same _ _ (Nat.le_refl _) hk2 rfl)⟩
      have kp : ∀ (W3 : World) (o : Obj), Keep n₀ X (Wa.putObj (w.heap.size + 1) (.loop { rec .ready none with state := .busy })) W3 → Keep n₀ X W (W3.putObj (w.heap.size + 1) o) := fun W3 o h3 =>
        ((hkpa.trans hkp2).trans h3).trans (keep_put _ (by omega) hXl)
      rintro e a3 W3 hp
      cases e with
      | normal =>
        obtain ⟨hk3, hkp3, hi3⟩ := hp
        obtain ⟨hr, hl3, hl4, hk4⟩ := fin none W3 hk3
        exact ⟨_, _, hr, .inl ⟨rfl, hI.put _ hi3 (by omega) hl3 rfl, hXl, hXd, hl4, hk4⟩, kp _ _ hkp3⟩
      | ret =>
        obtain ⟨hk3, hkp3, hi3⟩ := hp
        obtain ⟨hr, hl3, hl4, hk4⟩ := fin (some .ret) W3 hk3
        exact ⟨_, _, hr, .inr ⟨rfl, .ret, (hIx _).put _ hi3 (by omega) hl3 rfl, hXl, hXd, hl4, hk4⟩, kp _ _ hkp3⟩
      | exit id =>
        obtain ⟨hk3, hkp3, hi3⟩ := hp
        obtain ⟨hr, hl3, hl4, hk4⟩ := fin (some (.exit id)) W3 hk3
        exact ⟨_, _, hr, .inr ⟨rfl, .exit id, (hIx _).put _ hi3 (by omega) hl3 rfl, hXl, hXd, hl4, hk4⟩, kp _ _ hkp3⟩
      | goto t =>
        obtain ⟨hk3, hkp3, hi3⟩ := hp
        obtain ⟨hr, hl3, hl4, hk4⟩ := fin (some (.goto t)) W3 hk3
        exact ⟨_, _, hr, .inr ⟨rfl, .goto t, (hIx _).put _ hi3 (by omega) hl3 rfl, hXl, hXd, hl4, hk4⟩, kp _ _ hkp3⟩
      | panic ch => exact hp.elim
      | outgrown => exact hp.elim
    · -- behind the iterator
      rintro e W2 ⟨⟨v, rfl⟩, (⟨X, xs, hS, hi, _, _, hl, hk⟩ | ⟨X, pre, hSp, c, hi, _, _, hl, hk⟩)⟩
      · exact ⟨none, _, by have := run_endLoop (P := Tryd.prog) hl (by rw [hrec]; simp); rw [hrec] at this; exact this, hdone _ X xs _ (Nat.le_refl _) hS (hI.put _ hi (by omega) hl rfl) ((World.putObj_heap_other (by omega)).trans hk)⟩
      · exact ⟨some c, _, by have := run_endLoop (P := Tryd.prog) hl (by rw [hrec]; simp); rw [hrec] at this; exact this, hstop _ X c pre _ (Nat.le_refl _) hSp ((hIx c).put _ hi (by omega) hl rfl) ((World.putObj_heap_other (by omega)).trans hk)⟩
end Go.Proofs.YtbhhemidnmaodaaDoor
namespace Go.Proofs.YtbhhemidnmaodaaDoor
open Go.RowKit Go.Shelf
theorem own_lt {W : World} {base : Nat} {e : TypeId} {s : Nat} {g n c k : Nat} {xs : List Value} (h : W.ownsRow base e s (.slice (some ⟨g, 0, none⟩) n c) k xs) : base ≤ g ∧ g < W.heap.size := by
  rcases h.2 with ⟨h', _⟩ | ⟨g', cap, cur, h', hb, hh, _⟩
  · cases h'
  · cases h'; exact ⟨hb, lt_of_block hh⟩
theorem SeenMap.isMap {w : World} {bm n : Nat} {S : Nat → Bool} (h : SeenMap w bm n S) : ∃ es c, w.heap[bm]? = some (.map es c) := by
  obtain ⟨D, ⟨es, clock, hb, _⟩, _⟩ := h
  exact ⟨es, clock, hb⟩
theorem Turn.mono {X Y : Blocks} {W W' : World} (h : Turn X W W') (hXY : ∀ k, X k → Y k) : Turn Y W W' := ⟨h.os, h.tape, h.output, h.size, fun k hk hY => h.block k hk (fun hX => hY (hXY k hX))⟩
theorem Keep.mono {n₀ : Nat} {X Y : Blocks} {W W' : World} (h : Keep n₀ Y W W') (hXY : ∀ k, X k → Y k) : Keep n₀ X W W' := ⟨h.os, h.tape, h.output, h.size, fun k hk hc => h.block k hk (hc.imp id (hXY k))⟩
/-- What lay there when the search began stays. -/
theorem Keep.of_turn {n₀ base : Nat} {X0 X : Blocks} {W W' : World} (h : Turn (fun k => X k ∧ base ≤ k) W W') (hn : n₀ ≤ base) (h0 : ∀ k, X0 k → k < base) : Keep n₀ X0 W W' :=
  ⟨h.os, h.tape, h.output, h.size, fun k hk hc => h.block k hk (fun hX => by
    obtain ⟨_, h2⟩ := hX
    rcases hc with h1 | h1
    · omega
    · have := h0 k h1; omega)⟩
section
variable {J : Blocks → List (Nat × Value) → World → Prop} {n₀ : Nat} {X0 : Blocks} {W : World} {bm b6 b7 i : Nat} {B : Steps} {pre : List (Nat × Value)} {X : Blocks} {g cap : Nat} {wr : World}
end
end Go.Proofs.YtbhhemidnmaodaaDoor
namespace Go.Proofs.YtbhhemidnmaodaaDoor
open Go.RowKit Go.Shelf
attribute [local go_sem] Oper.semAt_some
/-- The number that a box holds. -/
def boxI (v : Value) (w : World) : Nat := match v with
  | .pointer (some a) => (match w.cell? a with | some (.int _ x) => x.toNat | _ => 0)
  | _ => 0
theorem keep_cell {n₀ b : Nat} {X : Blocks} {W W' : World} {v : Value} (h : Keep n₀ X W W') (hX : X b) (hc : W.cell? ⟨b, 0, none⟩ = some v) : W'.cell? ⟨b, 0, none⟩ = some v :=
  (World.cell?_of_block (w := W) (w' := W') (a := ⟨b, 0, none⟩) (h.block b (World.block_lt_of_cell? _ _ hc) (.inr hX))).trans hc
end Go.Proofs.YtbhhemidnmaodaaDoor
namespace Go.Proofs.YtbhhemidnmaodaaDoor
open Go.RowKit Go.Shelf
attribute [local go_sem] Oper.semAt_some
/-- What First returns. -/
def FirstIs (F : Steps) (fnd : Int → Bool) (w : World) (e : Ending) (w' : World) : Prop :=
  ((∃ i r, i < F.length ∧ fnd (plB F i) = true ∧ (∀ j, j < i → fnd (plB F j) = false) ∧ e = .returned (.tuple #[r, .bool true]) ∧ w'.ownsRow w.heap.size 3 1 r (wordB F i).length ((wordB F i).map fun x => .int .i64 x)) ∨
    ((∀ j, j < F.length → fnd (plB F j) = false) ∧ e = .returned (.tuple #[.slice none 0 0, .bool false]))) ∧ Below w.heap.size w w'
/-- None of the places so far was found. -/
def NoneYet (F : Steps) (fnd : Int → Bool) (k : Nat) : Prop := ∀ j, j < k → fnd (plB F j) = false
theorem row_blk2 {w : World} {base : Nat} {e : TypeId} {s : Nat} {v : Value} {n : Nat} {xs : List Value} (h : w.ownsRow base e s v n xs) : ∀ g, v.ownBlock = some g → base ≤ g ∧ g < w.heap.size := by
  intro g hg
  rcases h.2 with ⟨rfl, _⟩ | ⟨g', cap, cur, rfl, hb, hh, _⟩
  · cases hg
  · cases hg; exact ⟨hb, lt_of_block hh⟩
theorem row_mono {w : World} {base base' : Nat} {e : TypeId} {s : Nat} {v : Value} {n : Nat} {xs : List Value} (h : w.ownsRow base e s v n xs) (hb : base' ≤ base) : w.ownsRow base' e s v n xs := by
  refine ⟨h.1, ?_⟩
  rcases h.2 with h' | ⟨g, cap, cur, hv, hg, r⟩
  · exact .inl h'
  · exact .inr ⟨g, cap, cur, hv, Nat.le_trans hb hg, r⟩
theorem put_boxed {W : World} {b D : Nat} {t : TypeId} {v : Value} {x : Option (List Deferred)} (h : Boxed W b t v) (hD : W.heap[D]? = some (.deferred x)) : Boxed (W.putObj D (.deferred none)) b t v :=
  (World.putObj_heap_other (fun e => by
    unfold Boxed at h
    rw [e, hD] at h; cases h)).trans h
theorem sp_last {pre : List (Nat × Value)} {x : Nat × Value} {k : Nat} (h : (pre ++ [x]).map (·.1) = List.range k) : k = pre.length + 1 ∧ x.1 = pre.length := by
  have hl := congrArg List.length h
  simp at hl
  refine ⟨hl.symm, ?_⟩
  have h2 := congrArg (fun l => l[pre.length]?) h
  rw [← hl] at h2
  simpa using h2
end Go.Proofs.YtbhhemidnmaodaaDoor
namespace Go.Proofs.YtbhhemidnmaodaaDoor
open Go.RowKit Go.Shelf
attribute [local go_sem] Oper.semAt_some
/-- The search from a state of an automaton. -/
def bfsM (m : List (List Int)) (s : Nat) : Steps := bfsTo (fun p x => nx m p (x : Int)) (letters m) s m.length
end Go.Proofs.YtbhhemidnmaodaaDoor
namespace Go.Proofs.YtbhhemidnmaodaaDoor
open Go.RowKit Go.Shelf
theorem ldM_ok {m : List (List Int)} (hv : validM m = true) : ∀ p x, p < m.length → x < letters m → nx m p (x : Int) < m.length := fun p x hp hx => by
  obtain ⟨p1, p2, p3, p4, p5⟩ := valid_parts hv
  exact (nx_ok hv hp (x := (x : Int)) (by omega) (by omega)).1
end Go.Proofs.YtbhhemidnmaodaaDoor
namespace Go.Proofs.YtbhhemidnmaodaaDoor
open Go.RowKit Go.Shelf
/-- The letters of the steps but the first one are letters. -/
def LetB (K : Nat) (B : Steps) : Prop := ∀ k, 0 < k → k < B.length → 0 ≤ leB B k ∧ leB B k < K
theorem LetB.add {K : Nat} {B : Steps} (h : LetB K B) (ld : Nat → Nat → Nat) (p i : Nat) {x : Nat} (hx : x < K) : LetB K (addB ld B p i x) := by
  unfold addB
  split
  · exact h
  · obtain ⟨s1, s2, s3⟩ := snoc_pl B (ld p x) (i : Int) (x : Int)
    have hpre : B <+: B ++ [(((ld p x : Nat) : Int), (i : Int), (x : Int))] := List.prefix_append _ _
    intro k h0 hk
    by_cases e : k < B.length
    · rw [(pre_pl hpre k e).2.2]; exact h k h0 e
    · have e2 : k = B.length := by rw [List.length_append] at hk; simp at hk; omega
      subst e2
      rw [s3]; omega
theorem LetB.row {K : Nat} {B : Steps} (h : LetB K B) (ld : Nat → Nat → Nat) (p i : Nat) : ∀ x, x ≤ K → LetB K (rowB ld B p i x)
  | 0, _ => h
  | x + 1, hx => (LetB.row h ld p i x (by omega)).add ld p i (by omega)
theorem LetB.bfs (ld : Nat → Nat → Nat) (K s : Nat) : ∀ i, LetB K (bfsTo ld K s i)
  | 0 => fun k h0 hk => by simp [bfsTo] at hk; omega
  | i + 1 => by
    have ih := LetB.bfs ld K s i
    have e : bfsTo ld K s (i + 1) = (if i < (bfsTo ld K s i).length then rowB ld (bfsTo ld K s i) (plB (bfsTo ld K s i) i).toNat i K else bfsTo ld K s i) := rfl
    rw [e]
    split
    · exact ih.row ld _ i K (Nat.le_refl _)
    · exact ih
theorem word_letters {K : Nat} {B : Steps} (hT : TreeB B) (hL : LetB K B) : ∀ j, j < B.length → (wordB B j).all (inB 0 ((K : Int) - 1)) = true := by
  intro j
  induction j using Nat.strongRecOn with
  | _ j ih =>
    intro hj
    rcases Nat.eq_zero_or_pos j with e | e
    · subst e; rw [wordB_root hT]; rfl
    · obtain ⟨b1, b2⟩ := hT.2.2 j e hj
      obtain ⟨l1, l2⟩ := hL j e hj
      rw [wordB_step hT e hj, List.all_append, ih (frB B j).toNat (by omega) (by omega)]
      simp only [List.all_cons, List.all_nil, Bool.and_true, Bool.true_and]
      exact inB_true ⟨l1, by omega⟩
end Go.Proofs.YtbhhemidnmaodaaDoor
namespace Go.Proofs.YtbhhemidnmaodaaDoor
open Go.RowKit Go.Shelf
/-- The place where the outputs were different. -/
def offP (ma mb : List (List Int)) : Nat := ma.length * mb.length
def pairP (mb : List (List Int)) (p q : Nat) : Nat := p * mb.length + q
theorem pairP_lt {ma mb : List (List Int)} {p q : Nat} (hp : p < ma.length) (hq : q < mb.length) : pairP mb p q < offP ma mb := by
  unfold pairP offP
  have h1 : (p + 1) * mb.length ≤ ma.length * mb.length := Nat.mul_le_mul_right _ hp
  rw [Nat.add_mul] at h1
  omega
theorem pairP_div {mb : List (List Int)} {p q : Nat} (hq : q < mb.length) : pairP mb p q / mb.length = p ∧ pairP mb p q % mb.length = q := by
  unfold pairP
  have h0 : 0 < mb.length := by omega
  rw [Nat.mul_comm p]
  exact ⟨by rw [Nat.mul_add_div h0, Nat.div_eq_of_lt hq, Nat.add_zero], by rw [Nat.mul_add_mod, Nat.mod_eq_of_lt hq]⟩
theorem pair_of {ma mb : List (List Int)} {c : Nat} (h : c < offP ma mb) : c / mb.length < ma.length ∧ c % mb.length < mb.length ∧ c = pairP mb (c / mb.length) (c % mb.length) := by
  unfold offP at h
  have h0 : 0 < mb.length := by
    rcases Nat.eq_zero_or_pos mb.length with e | e
    · rw [e, Nat.mul_zero] at h; omega
    · exact e
  refine ⟨by rw [Nat.div_lt_iff_lt_mul h0]; exact h, Nat.mod_lt _ h0, ?_⟩
  unfold pairP
  rw [Nat.mul_comm]
  exact (Nat.div_add_mod c mb.length).symm
/-- Where a letter leads. -/
def ldY (ma oa mb ob : List (List Int)) (c x : Nat) : Nat :=
  if c < offP ma mb then (if ox oa (c / mb.length) (x : Int) = ox ob (c % mb.length) (x : Int) then pairP mb (nx ma (c / mb.length) (x : Int)) (nx mb (c % mb.length) (x : Int)) else offP ma mb) else offP ma mb
theorem ldY_pair {ma oa mb ob : List (List Int)} {p q x : Nat} (hp : p < ma.length) (hq : q < mb.length) : ldY ma oa mb ob (pairP mb p q) x = if ox oa p (x : Int) = ox ob q (x : Int) then pairP mb (nx ma p (x : Int)) (nx mb q (x : Int)) else offP ma mb := by
  unfold ldY
  rw [if_pos (pairP_lt hp hq), (pairP_div hq).1, (pairP_div hq).2]
theorem ldY_off (ma oa mb ob : List (List Int)) (x : Nat) : ldY ma oa mb ob (offP ma mb) x = offP ma mb := by
  unfold ldY; rw [if_neg (Nat.lt_irrefl _)]
theorem ldY_ok {ma mb : List (List Int)} (oa ob : List (List Int)) (hva : validM ma = true) (hvb : validM mb = true) (hL : letters ma = letters mb) : ∀ c x, c < offP ma mb + 1 → x < letters ma → ldY ma oa mb ob c x < offP ma mb + 1 := by
  intro c x hc hx
  by_cases h : c < offP ma mb
  · obtain ⟨h1, h2, h3⟩ := pair_of h
    rw [h3, ldY_pair h1 h2]
    split
    · have := pairP_lt (nx_ok hva h1 (x := (x : Int)) (by omega) (by omega)).1 (nx_ok hvb h2 (x := (x : Int)) (by omega) (by omega)).1
      omega
    · omega
  · obtain rfl : c = offP ma mb := by omega
    rw [ldY_off]; omega
theorem foldY_off (ma oa mb ob : List (List Int)) : ∀ u : List Nat, u.foldl (ldY ma oa mb ob) (offP ma mb) = offP ma mb
  | [] => rfl
  | x :: u => by rw [List.foldl_cons, ldY_off]; exact foldY_off ma oa mb ob u
/-- Where a word leads: it tells the states apart, or to the pair of the states that it reaches. -/
theorem foldY {ma mb : List (List Int)} (oa ob : List (List Int)) (hva : validM ma = true) (hvb : validM mb = true) (hL : letters ma = letters mb) : ∀ (u : List Nat) (p q : Nat), p < ma.length → q < mb.length → (∀ x ∈ u, x < letters ma) →
    (outsG (gY oa) (fY ma) p u = outsG (gY ob) (fY mb) q u → u.foldl (ldY ma oa mb ob) (pairP mb p q) = pairP mb (u.foldl (fY ma) p) (u.foldl (fY mb) q) ∧ u.foldl (fY ma) p < ma.length ∧ u.foldl (fY mb) q < mb.length) ∧
    (outsG (gY oa) (fY ma) p u ≠ outsG (gY ob) (fY mb) q u → u.foldl (ldY ma oa mb ob) (pairP mb p q) = offP ma mb)
  | [], p, q, hp, hq, _ => ⟨fun _ => ⟨rfl, hp, hq⟩, fun h => absurd rfl h⟩
  | x :: u, p, q, hp, hq, hu => by
    have hx := hu x (by simp)
    have n1 := fY_ok hva p x hp hx
    have n2 := fY_ok hvb q x hq (by omega)
    obtain ⟨i1, i2⟩ := foldY oa ob hva hvb hL u (fY ma p x) (fY mb q x) n1 n2 (fun y hy => hu y (by simp [hy]))
    have e : (x :: u).foldl (ldY ma oa mb ob) (pairP mb p q) = u.foldl (ldY ma oa mb ob) (ldY ma oa mb ob (pairP mb p q) x) := rfl
    rw [e, ldY_pair hp hq]
    show (gY oa p x :: outsG _ _ (fY ma p x) u = gY ob q x :: outsG _ _ (fY mb q x) u → _) ∧ (gY oa p x :: outsG _ _ (fY ma p x) u ≠ gY ob q x :: outsG _ _ (fY mb q x) u → _)
    by_cases h : ox oa p (x : Int) = ox ob q (x : Int)
    · rw [if_pos h]
      exact ⟨fun k => i1 (List.cons.inj k).2, fun k => i2 (fun k' => k (by rw [k']; show ox oa p _ :: _ = ox ob q _ :: _; rw [h]))⟩
    · rw [if_neg h, foldY_off]
      exact ⟨fun k => absurd (List.cons.inj k).1 h, fun _ => rfl⟩
/-- The first shortest word that tells x and y apart. -/
def ApartW (ma oa mb ob : List (List Int)) (x y : Nat) (u : List Int) : Prop :=
  u.all (inB 0 ((letters ma : Int) - 1)) = true ∧ outsM ma oa x u ≠ outsM mb ob y u ∧ ∀ v : List Int, v.all (inB 0 ((letters ma : Int) - 1)) = true → outsM ma oa x v ≠ outsM mb ob y v → SLe u v
def AlikeW (ma oa mb ob : List (List Int)) (x y : Nat) : Prop := ∀ v : List Int, v.all (inB 0 ((letters ma : Int) - 1)) = true → outsM ma oa x v = outsM mb ob y v
def bfsY (ma oa mb ob : List (List Int)) (x y : Nat) : Steps := bfsTo (ldY ma oa mb ob) (letters ma) (pairP mb x y) (offP ma mb + 1)
section
variable {ma mb : List (List Int)} (oa ob : List (List Int)) (hva : validM ma = true) (hvb : validM mb = true) (hL : letters ma = letters mb) {x y : Nat} (hx : x < ma.length) (hy : y < mb.length)
include hva hvb hL hx hy
theorem bfsY_good : GoodB (offP ma mb + 1) (bfsY ma oa mb ob x y) := by
  obtain ⟨p1, p2, p3, p4, p5⟩ := valid_parts hva
  have := pairP_lt hx hy
  exact GoodB.bfs (by omega) (by omega) (ldY_ok oa ob hva hvb hL) _
/-- Where the search finds the place of different outputs. -/
theorem bfsY_apart {j : Nat} (hj : j < (bfsY ma oa mb ob x y).length) (hp : plB (bfsY ma oa mb ob x y) j = ((offP ma mb : Nat) : Int)) : ApartW ma oa mb ob x y (wordB (bfsY ma oa mb ob x y) j) := by
  obtain ⟨p1, p2, p3, p4, p5⟩ := valid_parts hva
  have hs : pairP mb x y < offP ma mb + 1 := by have := pairP_lt hx hy; omega
  have hg := bfsY_good oa ob hva hvb hL hx hy
  have hw := word_letters hg.tree (LetB.bfs (ldY ma oa mb ob) (letters ma) (pairP mb x y) (offP ma mb + 1)) j hj
  have hl := word_leads hs (by omega : letters ma ≤ 1000) (ldY_ok oa ob hva hvb hL) j hj
  refine ⟨hw, ?_, ?_⟩
  · obtain ⟨v, hv, hv'⟩ := word_nats hw
    intro he
    change plB (bfsY ma oa mb ob x y) j = ((((wordB (bfsY ma oa mb ob x y) j).map Int.toNat).foldl (ldY ma oa mb ob) (pairP mb x y) : Nat) : Int) at hl
    rw [hv] at hl he
    rw [List.map_map, show (Int.toNat ∘ fun x : Nat => (x : Int)) = id from by funext z; simp, List.map_id] at hl
    rw [outsY_nat, outsY_nat] at he
    obtain ⟨k1, k2, k3⟩ := (foldY oa ob hva hvb hL v x y hx hy hv').1 he
    rw [hp, k1] at hl
    have := pairP_lt k2 k3
    omega
  · intro u hu hne
    obtain ⟨v, rfl, hv'⟩ := word_nats hu
    rw [outsY_nat, outsY_nat] at hne
    have hf := (foldY oa ob hva hvb hL v x y hx hy hv').2 hne
    obtain ⟨i, hi, hpi, hsl⟩ := word_least hs (by omega : letters ma ≤ 1000) (ldY_ok oa ob hva hvb hL) v.length v rfl hv'
    rw [hf] at hpi
    obtain rfl : i = j := place_once hg hi hj (hpi.trans hp.symm)
    exact hsl
/-- Where it does not, no word tells the states apart. -/
theorem bfsY_alike (h : ∀ j, j < (bfsY ma oa mb ob x y).length → plB (bfsY ma oa mb ob x y) j ≠ ((offP ma mb : Nat) : Int)) : AlikeW ma oa mb ob x y := by
  obtain ⟨p1, p2, p3, p4, p5⟩ := valid_parts hva
  have hs : pairP mb x y < offP ma mb + 1 := by have := pairP_lt hx hy; omega
  intro u hu
  obtain ⟨v, rfl, hv'⟩ := word_nats hu
  by_cases he : outsM ma oa x (v.map fun x : Nat => (x : Int)) = outsM mb ob y (v.map fun x : Nat => (x : Int))
  · exact he
  · exfalso
    rw [outsY_nat, outsY_nat] at he
    have hf := (foldY oa ob hva hvb hL v x y hx hy hv').2 he
    obtain ⟨i, hi, hpi, _⟩ := word_least hs (by omega : letters ma ≤ 1000) (ldY_ok oa ob hva hvb hL) v.length v rfl hv'
    rw [hf] at hpi
    exact h i hi hpi
end
theorem lexLt_irreflY : ∀ u : List Int, ¬ lexLt u u
  | [], h => by cases h
  | x :: u, h => by
    rcases h with h | ⟨_, h⟩
    · exact absurd h (Int.lt_irrefl _)
    · exact lexLt_irreflY u h
theorem SL_irreflY {u : List Int} (h : SL u u) : False := by
  rcases h with h | ⟨_, h⟩
  · omega
  · exact lexLt_irreflY u h
theorem SLe_antisymmY {u v : List Int} (h : SLe u v) (k : SLe v u) : u = v := by
  rcases h with h | h
  · exact h
  · rcases k with k | k
    · exact k.symm
    · exact absurd (h.trans k) (fun e => SL_irreflY e)
/-- There is but one. -/
theorem ApartW.one {ma oa mb ob : List (List Int)} {x y : Nat} {u v : List Int} (h : ApartW ma oa mb ob x y u) (k : ApartW ma oa mb ob x y v) : u = v :=
  SLe_antisymmY (h.2.2 v k.1 k.2.1) (k.2.2 u h.1 h.2.1)
theorem SLe.lenY {u v : List Int} (h : SLe u v) : u.length ≤ v.length := by
  rcases h with rfl | h | ⟨h, _⟩ <;> omega
/-- It is not empty, and the outputs differ at its last letter alone. -/
theorem ApartW.last {ma oa mb ob : List (List Int)} {x y : Nat} {u : List Int} (h : ApartW ma oa mb ob x y u) : ∃ v z, u = v ++ [z] ∧ outsM ma oa x v = outsM mb ob y v ∧ ox oa (runM ma x v) z ≠ ox ob (runM mb y v) z := by
  obtain ⟨h1, h2, h3⟩ := h
  rcases List.eq_nil_or_concat u with rfl | ⟨v, z, rfl⟩
  · exact absurd rfl h2
  · have h1' := h1
    simp only [List.concat_eq_append, List.all_append, Bool.and_eq_true] at h1'
    have he : outsM ma oa x v = outsM mb ob y v := by
      by_cases e : outsM ma oa x v = outsM mb ob y v
      · exact e
      · have := (h3 v h1'.1 e).lenY
        simp at this; omega
    refine ⟨v, z, by simp, he, fun hz => h2 ?_⟩
    rw [List.concat_eq_append, outsM_append, outsM_append, he]
    simp [outsM, hz]
end Go.Proofs.YtbhhemidnmaodaaDoor
namespace Go.Proofs.YtbhhemidnmaodaaDoor
open Go.RowKit
theorem foldl_min (c : Int) : ∀ (l : List Int) (a : Int), c ≤ l.foldl min a ↔ c ≤ a ∧ ∀ x ∈ l, c ≤ x
  | [], a => by simp
  | x :: l, a => by
    rw [List.foldl_cons, foldl_min c l, Int.le_min, and_assoc]
    simp only [List.mem_cons, forall_eq_or_imp]
theorem foldl_max (c : Int) : ∀ (l : List Int) (a : Int), l.foldl max a ≤ c ↔ a ≤ c ∧ ∀ x ∈ l, x ≤ c
  | [], a => by simp
  | x :: l, a => by
    rw [List.foldl_cons, foldl_max c l, Int.max_le, and_assoc]
    simp only [List.mem_cons, forall_eq_or_imp]
theorem minOf_ge {l : List Int} (h : 0 < l.length) (c : Int) : c ≤ Lib.minOf l ↔ ∀ x ∈ l, c ≤ x := by
  unfold Lib.minOf
  rw [foldl_min]
  match l, h with
  | x :: l, _ => simp
theorem maxOf_le {l : List Int} (h : 0 < l.length) (c : Int) : Lib.maxOf l ≤ c ↔ ∀ x ∈ l, x ≤ c := by
  unfold Lib.maxOf
  rw [foldl_max]
  match l, h with
  | x :: l, _ => simp
theorem outs_all {l : List Int} (h : 0 < l.length) : l.all (inB 0 15) = (!decide (Lib.minOf l < 0) && !decide (16 ≤ Lib.maxOf l)) := by
  rw [Bool.eq_iff_iff, List.all_eq_true]
  have h1 := minOf_ge h 0
  have h2 := maxOf_le h 15
  simp only [inB_iff, Bool.and_eq_true, Bool.not_eq_true', decide_eq_false_iff_not]
  constructor
  · intro k
    exact ⟨by have := h1.2 fun x hx => (k x hx).1; omega, by have := h2.2 fun x hx => (k x hx).2; omega⟩
  · intro k x hx
    exact ⟨h1.1 (by omega) x hx, h2.1 (by omega) x hx⟩
set_option maxRecDepth 100000 in
set_option maxHeartbeats 1000000 in
theorem Min_any (v : Value) (l : List Int) (w : World) (h : Ints w v l) (h0 : 0 < l.length) :
    Calls Tryd.prog 54 #[v] w fun e w' => e = .returned (.int .i64 (Lib.minOf l)) ∧ w = w' := by
  obtain ⟨A, cap, rfl, hl, hc⟩ := h
  unfold big at hl
  obtain ⟨b, off, hA, c0⟩ := hc 0 h0
  subst hA
  have Hc := hid hc
  clear hc
  rw [Nat.add_zero] at c0
  have hn1 : ¬ ((l.length : Int) < 1) := by omega
  go_enter Tryd.func54, Tryd.ntmps54
  go_wp2
  go_loop [3, 4] (fun m i => ∃ k : Nat, 0 < k ∧ k ≤ l.length ∧ i = .int .i64 k ∧ m = .int .i64 (Lib.minOf (l.take k))) (fun _ i => l.length - (intOf i).toNat)
  case atStart => exact ⟨1, Nat.one_pos, h0, rfl, by rw [Lib.minOf_one]; simp [List.getD_eq_getElem?_getD, List.getElem?_eq_getElem h0]⟩
  case round =>
    obtain ⟨k, hk0, hk, rfl, rfl⟩ := hrel
    by_cases hlt : k < l.length
    · obtain ⟨b', off', hA', ck⟩ := Hc.out k hlt
      cases hA'
      have Hs := hid (Lib.minOf_step l k hk0 hlt)
      generalize Lib.minOf (l.take k) = q at *
      generalize l.getD k 0 = z at *
      have hks : (k : Int) < l.length := by omega
      go_wp2
      go_round
      case rel => exact ⟨k + 1, by omega, by omega, by go_num, by rw [Hs.out]; try (first | (congr 1; done) | (congr 1; first | rfl | (split <;> omega)))⟩
      case measure => simp [intOf]; omega
    · have hks : ¬ ((k : Int) < l.length) := by omega
      go_wp2
      go_ret
      exact ⟨ret_int (by rw [List.take_of_length_le (by omega)]), rfl⟩
set_option maxRecDepth 100000 in
set_option maxHeartbeats 1000000 in
theorem Max_any (v : Value) (l : List Int) (w : World) (h : Ints w v l) (h0 : 0 < l.length) :
    Calls Tryd.prog 55 #[v] w fun e w' => e = .returned (.int .i64 (Lib.maxOf l)) ∧ w = w' := by
  obtain ⟨A, cap, rfl, hl, hc⟩ := h
  unfold big at hl
  obtain ⟨b, off, hA, c0⟩ := hc 0 h0
  subst hA
  have Hc := hid hc
  clear hc
  rw [Nat.add_zero] at c0
  have hn1 : ¬ ((l.length : Int) < 1) := by omega
  go_enter Tryd.func55, Tryd.ntmps55
  go_wp2
  go_loop [3, 4] (fun m i => ∃ k : Nat, 0 < k ∧ k ≤ l.length ∧ i = .int .i64 k ∧ m = .int .i64 (Lib.maxOf (l.take k))) (fun _ i => l.length - (intOf i).toNat)
  case atStart => exact ⟨1, Nat.one_pos, h0, rfl, by rw [Lib.maxOf_one]; simp [List.getD_eq_getElem?_getD, List.getElem?_eq_getElem h0]⟩
  case round =>
    obtain ⟨k, hk0, hk, rfl, rfl⟩ := hrel
    by_cases hlt : k < l.length
    · obtain ⟨b', off', hA', ck⟩ := Hc.out k hlt
      cases hA'
      have Hs := hid (Lib.maxOf_step l k hk0 hlt)
      generalize Lib.maxOf (l.take k) = q at *
      generalize l.getD k 0 = z at *
      have hks : (k : Int) < l.length := by omega
      go_wp2
      go_round
      case rel => exact ⟨k + 1, by omega, by omega, by go_num, by rw [Hs.out]; try (first | (congr 1; done) | (congr 1; first | rfl | (split <;> omega)))⟩
      case measure => simp [intOf]; omega
    · have hks : ¬ ((k : Int) < l.length) := by omega
      go_wp2
      go_ret
      exact ⟨ret_int (by rw [List.take_of_length_le (by omega)]), rfl⟩
set_option maxRecDepth 100000 in
set_option maxHeartbeats 1000000 in
theorem automaton_any (v u : Value) (m : List (List Int)) (w : World) (h : Rows w v m) :
    Calls Tryd.prog 53 #[.agg #[v, u]] w fun e w' => e = .returned (.agg #[v]) ∧ Below w.heap.size w w' := by
  obtain ⟨A, cap, rfl, _⟩ := h
  go_enter Tryd.func53, Tryd.ntmps53
  go_wp2
  (try simp only [Exit.inBlock, Exit.then])
  refine bodyPost_ret (v := .agg #[.slice A m.length cap]) ?_ rfl ⟨rfl, bal (bal (Below.refl _ _) _) _⟩
  simp only [results, Tryd.results53]
  go_simp
theorem Valid_bool' (v : Value) (m : List (List Int)) (b : Bool) (w : World) (h : Rows w v m) (hb : validM m = b) :
    Calls Tryd.prog 52 #[.agg #[v]] w fun e w' => e = .returned (.bool b) ∧ Below w.heap.size w w' := by
  subst hb; exact Valid_any v m w h
set_option maxRecDepth 100000 in
set_option maxHeartbeats 4000000 in
theorem ValidY_any (v u : Value) (m o : List (List Int)) (w : World) (h : Rows w v m) (k : Rows w u o) :
    Calls Tryd.prog 35 #[.agg #[v, u]] w fun e w' => e = .returned (.bool (validY m o)) ∧ Below w.heap.size w w' := by
  obtain ⟨A, cap, rfl, hml, hcm⟩ := id h
  obtain ⟨B, cbp, rfl, hol, hco⟩ := id k
  unfold big at hml hol
  have h1 := h.alloc (.cells #[.slice A m.length cap, .slice B o.length cbp] 24)
  have b1 := bal (Below.refl _ w) (.cells #[.slice A m.length cap, .slice B o.length cbp] 24)
  cases hv : validM m with
  | false =>
    clear hcm hco
    go_enter Tryd.func35, Tryd.ntmps35
    go_wp2_with fail
    refine (automaton_any _ _ m _ h1).mono ?_
    rintro e w1 ⟨rfl, hb1⟩
    go_wp2_with fail
    refine (Valid_bool' _ m false _ (h1.below hb1) hv).mono ?_
    rintro e w2 ⟨rfl, hb2⟩
    go_wp2
    go_ret
    exact ⟨ret_bool (by simp [validY, hv]), btr (btr b1 hb1) hb2⟩
  | true =>
    obtain ⟨p1, p2, p3, p4, p5⟩ := valid_parts hv
    have Hcm := hid hcm
    have Hco := hid hco
    clear hcm hco
    have z1 : (w.alloc (.cells #[.slice A m.length cap, .slice B o.length cbp] 24)).cell? ⟨w.heap.size, 0, none⟩ = some (.slice A m.length cap) := by simp [go_sem]
    have z2 : (w.alloc (.cells #[.slice A m.length cap, .slice B o.length cbp] 24)).cell? ⟨w.heap.size, 1, none⟩ = some (.slice B o.length cbp) := by simp [go_sem]
    have hsz : w.heap.size < (w.alloc (.cells #[.slice A m.length cap, .slice B o.length cbp] 24)).heap.size := by simp
    go_enter Tryd.func35, Tryd.ntmps35
    go_wp2_with fail
    refine (automaton_any _ _ m _ h1).mono ?_
    rintro e w1 ⟨rfl, hb1⟩
    go_wp2_with fail
    refine (Valid_bool' _ m true _ (h1.below hb1) hv).mono ?_
    rintro e w2 ⟨rfl, hb2⟩
    have hb12 := btr hb1 hb2
    have y1 := (hb12.cell (p := ⟨w.heap.size, 0, none⟩) hsz).trans z1
    have y2 := (hb12.cell (p := ⟨w.heap.size, 1, none⟩) hsz).trans z2
    have B2 := btr b1 hb12
    have hsz2 : w.heap.size < w2.heap.size := by have := hb12.size; omega
    clear z1 z2 hsz hb12 hb1 hb2 h1 b1
    by_cases hlen : o.length = m.length
    · have hne : ((o.length : Int) != (m.length : Int)) = false := by simp; omega
      have Hlen := hid hlen
      clear hlen
      go_wp2_with fail
      go_loopw [21] (fun i wr => ∃ k : Nat, k ≤ o.length ∧ i = .int .i64 k ∧ (o.take k).all (outOk m) = true ∧ Below w2.heap.size w2 wr) (fun i _ => o.length - (intOf i).toNat)
      case atStart => exact ⟨0, Nat.zero_le _, rfl, rfl, Below.refl _ _⟩
      case round =>
        obtain ⟨i, hi, rfl, hall, hB⟩ := hrel
        have HB := hid (btr B2 hB)
        have x1 := (hB.cell (p := ⟨w.heap.size, 0, none⟩) hsz2).trans y1
        by_cases hlt : i < o.length
        · have hims : (i : Int) < m.length := by have := Hlen.out; omega
          have hios : (i : Int) < o.length := by omega
          obtain ⟨bm, om, rm, rfl, cm, hrm⟩ := Hcm.out i (by have := Hlen.out; omega)
          obtain ⟨bo, oo, ro, rfl, co, hro⟩ := Hco.out i hlt
          have cm' := ((HB.out).cell (p := ⟨bm, om + i, none⟩) (World.block_lt_of_cell? _ _ cm)).trans cm
          have co' := ((HB.out).cell (p := ⟨bo, oo + i, none⟩) (World.block_lt_of_cell? _ _ co)).trans co
          have hro' := hro.below HB.out
          have Hs := hid (all_snoc_take (outOk m) o [] i hlt)
          have Hf := hid (all_false_of (outOk m) o [] i hlt)
          have hmr := (p5 i (by have := Hlen.out; omega)).1
          obtain ⟨Am, capm, rfl, _⟩ := hrm
          rw [hmr] at cm cm'
          clear cm co hro hmr p5
          generalize o.getD i [] = row at *
          obtain ⟨Ao, capo, rfl, hrl, _⟩ := id hro'
          unfold big at hrl
          have Hall := hid hall
          clear hall
          have Hv := hid (show validY m o = o.all (outOk m) by simp [validY, hv, Hlen.out])
          by_cases hle : row.length = letters m
          · have hnl : ((row.length : Int) != (letters m : Int)) = false := by simp; omega
            have hoa := outs_all (l := row) (by omega)
            have Hok := hid (show outOk m row = row.all (inB 0 15) by simp [outOk, hle])
            have h0 : 0 < row.length := by omega
            have Hle := hid hle
            clear hle
            cases hmn : decide (Lib.minOf row < 0) with
            | true =>
              rw [hmn] at hoa
              have Hoa := hid hoa
              clear hoa
              go_wp2_with fail
              refine (Min_any _ row _ hro' h0).mono ?_
              rintro e w3 ⟨rfl, rfl⟩
              go_wp2
              go_ret
              exact ⟨ret_bool (by rw [Hv.out, Hf.out (by rw [Hok.out, Hoa.out]; rfl)]), HB.out⟩
            | false =>
              cases hmx : decide (16 ≤ Lib.maxOf row) with
              | true =>
                rw [hmn, hmx] at hoa
                have Hoa := hid hoa
                clear hoa
                go_wp2_with fail
                refine (Min_any _ row _ hro' h0).mono ?_
                rintro e w3 ⟨rfl, rfl⟩
                go_wp2_with fail
                refine (Max_any _ row _ hro' h0).mono ?_
                rintro e w3 ⟨rfl, rfl⟩
                go_wp2
                go_ret
                exact ⟨ret_bool (by rw [Hv.out, Hf.out (by rw [Hok.out, Hoa.out]; rfl)]), HB.out⟩
              | false =>
                rw [hmn, hmx] at hoa
                have Hoa := hid hoa
                clear hoa
                go_wp2_with fail
                refine (Min_any _ row _ hro' h0).mono ?_
                rintro e w3 ⟨rfl, rfl⟩
                go_wp2_with fail
                refine (Max_any _ row _ hro' h0).mono ?_
                rintro e w3 ⟨rfl, rfl⟩
                go_wp2
                go_roundw
                case rel => exact ⟨i + 1, by omega, by go_num, by rw [Hs.out, Hall.out, Hok.out, Hoa.out]; rfl, hB⟩
                case measure => simp [intOf]; omega
          · have hnl : ((row.length : Int) != (letters m : Int)) = true := by simp; omega
            have Hok := hid (show outOk m row = false by simp [outOk, hle])
            clear hle
            go_wp2
            go_ret
            exact ⟨ret_bool (by rw [Hv.out, Hf.out Hok.out]), HB.out⟩
        · have hios : ¬ (i : Int) < o.length := by omega
          have Hv := hid (show validY m o = true by
            rw [List.take_of_length_le (by omega)] at hall
            simp [validY, hv, Hlen.out, hall])
          go_wp2
          go_ret
          exact ⟨ret_bool Hv.out.symm, HB.out⟩
    · have hne : ((o.length : Int) != (m.length : Int)) = true := by simp; omega
      have Hv := hid (show validY m o = false by simp [validY, hlen])
      clear hlen
      go_wp2
      go_ret
      exact ⟨ret_bool Hv.out.symm, B2⟩
theorem ValidY_bool (v u : Value) (m o : List (List Int)) (b : Bool) (w : World) (h : Rows w v m) (k : Rows w u o) (hb : validY m o = b) :
    Calls Tryd.prog 35 #[.agg #[v, u]] w fun e w' => e = .returned (.bool b) ∧ Below w.heap.size w w' := by
  subst hb; exact ValidY_any v u m o w h k
end Go.Proofs.YtbhhemidnmaodaaDoor
namespace Go.Proofs.YtbhhemidnmaodaaDoor
open Go.RowKit Go.Shelf
theorem index_off (c : UInt8) : ∀ (x : List UInt8), c ∉ x → Lib.index x [c] = -1
  | [], _ => by simp [Lib.index]
  | b :: x, h => by
    have h1 : c ≠ b := fun e => h (by simp [e])
    have h2 := index_off c x (fun e => h (List.mem_cons_of_mem _ e))
    rw [Lib.index, h2]
    simp [List.isPrefixOf, h1]
theorem index_at (c : UInt8) (r : List UInt8) : ∀ (x : List UInt8), c ∉ x → Lib.index (x ++ c :: r) [c] = (x.length : Int)
  | [], _ => by rw [List.nil_append, Lib.index]; simp [List.isPrefixOf]
  | b :: x, h => by
    have h1 : c ≠ b := fun e => h (by simp [e])
    have h2 := index_at c r x (fun e => h (List.mem_cons_of_mem _ e))
    rw [List.cons_append, Lib.index, h2]
    simp [List.isPrefixOf, h1]
theorem join_two (x y : List UInt8) (r : List (List UInt8)) (c : UInt8) : Lib.join (x :: y :: r) [c] = x ++ c :: Lib.join (y :: r) [c] := by
  rw [Lib.join_cons, Lib.join_cons]
  simp [Lib.joinTail]
theorem split_join (c : UInt8) : ∀ (xs : List (List UInt8)), xs ≠ [] → (∀ x ∈ xs, c ∉ x) → Lib.splitK [c] 0 (Lib.count (Lib.join xs [c]) [c]) (Lib.join xs [c]) = xs
  | [], h, _ => absurd rfl h
  | [x], _, hx => by
    rw [Lib.join_one, Lib.count_miss (index_off c x (hx x (by simp)))]; rfl
  | x :: y :: r, _, hx => by
    have h1 := index_at c (Lib.join (y :: r) [c]) x (hx x (by simp))
    have h2 := split_join c (y :: r) (by simp) (fun z hz => hx z (List.mem_cons_of_mem _ hz))
    rw [join_two, Lib.count_hit (by simp) h1]
    have e1 : (x ++ c :: Lib.join (y :: r) [c]).drop (x.length + [c].length) = Lib.join (y :: r) [c] := by simp
    rw [e1, Nat.add_comm 1, Lib.splitK, h1]
    have e2 : ((x.length : Int) == -1) = false := by simp
    rw [e2]
    simp only [Bool.false_eq_true, if_false, Int.toNat_natCast, Nat.add_zero]
    rw [e1, h2]
    simp
theorem parts_join (c : UInt8) (xs : List (List UInt8)) (hne : xs ≠ []) (hx : ∀ x ∈ xs, c ∉ x) (s : ByteArray) (hs : s.data.toList = Lib.join xs [c]) : (parts c s).map (·.data.toList) = xs := by
  rw [parts, Lib.splitB_data, hs]
  show Lib.splitK [c] 0 (Lib.count s.data.toList [c]) _ = _
  rw [hs]
  exact split_join c xs hne hx
theorem parts_get (c : UInt8) (s : ByteArray) (xs : List (List UInt8)) (h : (parts c s).map (·.data.toList) = xs) (i : Nat) : ((parts c s).getD i ⟨#[]⟩).data.toList = xs.getD i [] := by
  subst h
  simp only [List.getD_eq_getElem?_getD, List.getElem?_map]
  cases (parts c s)[i]? <;> rfl
theorem dig_range (u : Nat) (hu : u < 100) : ∀ b ∈ Lib.decDigits u, 48 ≤ b.toNat ∧ b.toNat ≤ 57 := by
  intro b hb
  by_cases h : u < 10
  · rw [Lib.decDigits_one h] at hb
    simp only [List.mem_cons, List.mem_nil_iff, or_false] at hb
    subst hb
    simp; omega
  · rw [Lib.decDigits_two h hu] at hb
    simp only [List.mem_cons, List.mem_nil_iff, or_false] at hb
    rcases hb with rfl | rfl <;> (simp; omega)
theorem atoi_one : ∀ i : Fin 10, Lib.atoiAll [UInt8.ofNat (48 + i.val)] = .ok (i.val : Int) := by decide +kernel
theorem atoi_two : ∀ i : Fin 100, Lib.atoiAll [UInt8.ofNat (48 + i.val / 10), UInt8.ofNat (48 + i.val % 10)] = .ok (i.val : Int) := by decide +kernel
theorem atoi_dec (u : Nat) (hu : u < 100) : Lib.atoiAll (Lib.decDigits u) = .ok (u : Int) := by
  by_cases h : u < 10
  · rw [Lib.decDigits_one h]; exact atoi_one ⟨u, h⟩
  · rw [Lib.decDigits_two h hu]; exact atoi_two ⟨u, hu⟩
theorem join_mem (c : UInt8) (b : UInt8) : ∀ (xs : List (List UInt8)), b ∈ Lib.join xs [c] → b = c ∨ ∃ x ∈ xs, b ∈ x
  | [], h => by simp [Lib.join_nil] at h
  | [x], h => by rw [Lib.join_one] at h; exact .inr ⟨x, by simp, h⟩
  | x :: y :: r, h => by
    rw [join_two, List.mem_append, List.mem_cons] at h
    rcases h with h | h | h
    · exact .inr ⟨x, by simp, h⟩
    · exact .inl h
    · rcases join_mem c b (y :: r) h with h | ⟨z, hz, h⟩
      · exact .inl h
      · exact .inr ⟨z, List.mem_cons_of_mem _ hz, h⟩
theorem join_lt (c : UInt8) (k : Nat) : ∀ (xs : List (List UInt8)), xs ≠ [] → (∀ x ∈ xs, x.length ≤ k) → (Lib.join xs [c]).length + 1 ≤ xs.length * (k + 1)
  | [], h, _ => absurd rfl h
  | [x], _, hx => by rw [Lib.join_one]; have := hx x (by simp); simp; omega
  | x :: y :: r, _, hx => by
    have h1 := join_lt c k (y :: r) (by simp) (fun z hz => hx z (List.mem_cons_of_mem _ hz))
    have h2 := hx x (by simp)
    rw [join_two]
    simp only [List.length_append, List.length_cons] at *
    rw [Nat.add_mul (r.length + 1) 1]
    omega
end Go.Proofs.YtbhhemidnmaodaaDoor
namespace Go.Proofs.YtbhhemidnmaodaaDoor
open Go.RowKit Go.Shelf
def letY (t o : Int) : List UInt8 := Lib.decDigits t.toNat ++ 47 :: Lib.decDigits o.toNat
def rowY (r p : List Int) : List UInt8 := Lib.join ((List.range r.length).map fun j => letY (r.getD j 0) (p.getD j 0)) [46]
def textY (m o : List (List Int)) : List UInt8 := Lib.join ((List.range m.length).map fun i => rowY (m.getD i []) (o.getD i [])) [32]
/-- A number of at most two digits. -/
def small2 (x : Int) : Prop := 0 ≤ x ∧ x < 100
theorem letY_sep {t o : Int} (ht : small2 t) (ho : small2 o) : (46 : UInt8) ∉ letY t o ∧ (32 : UInt8) ∉ letY t o ∧ (letY t o).length ≤ 5 := by
  have h1 : t.toNat < 100 := by have := ht.2; have := ht.1; omega
  have h2 : o.toNat < 100 := by have := ho.2; have := ho.1; omega
  have d1 := dec_len _ h1
  have d2 := dec_len _ h2
  refine ⟨fun e => ?_, fun e => ?_, by unfold letY; simp; omega⟩
  all_goals
    rcases List.mem_append.1 e with e | e
    · have := dig_range _ h1 _ e; simp at this
    · rcases List.mem_cons.1 e with e | e
      · simp at e
      · have := dig_range _ h2 _ e; simp at this
theorem letY_cut {t o : Int} (ht : small2 t) (ho : small2 o) : Lib.atoiAll (Lib.cut (letY t o) [47]).1 = .ok t ∧ Lib.atoiAll (Lib.cut (letY t o) [47]).2.1 = .ok o := by
  have h1 : t.toNat < 100 := by have := ht.2; have := ht.1; omega
  have h2 : o.toNat < 100 := by have := ho.2; have := ho.1; omega
  have hi : Lib.index (letY t o) [47] = ((Lib.decDigits t.toNat).length : Int) := index_at 47 _ _ (fun e => by have := dig_range _ h1 _ e; simp at this)
  have e : Lib.cut (letY t o) [47] = (Lib.decDigits t.toNat, Lib.decDigits o.toNat, true) := by
    unfold Lib.cut
    rw [hi, if_pos (by omega)]
    simp [letY]
  rw [e]
  exact ⟨by rw [atoi_dec _ h1]; congr 1; have := ht.1; omega, by rw [atoi_dec _ h2]; congr 1; have := ho.1; omega⟩
/-- The rows of a valid machine. -/
structure RowsY (m o : List (List Int)) : Prop where
  n1 : 1 ≤ m.length
  n2 : m.length ≤ 60
  k1 : 1 ≤ letters m
  k2 : letters m ≤ 6
  ol : o.length = m.length
  row : ∀ i, i < m.length → (m.getD i []).length = letters m ∧ (o.getD i []).length = letters m ∧ ∀ j, j < letters m → small2 ((m.getD i []).getD j 0) ∧ small2 ((o.getD i []).getD j 0)
theorem rowsY {m o : List (List Int)} (hv : validY m o = true) : RowsY m o := by
  obtain ⟨a, b, c⟩ := validY_parts hv
  obtain ⟨p1, p2, p3, p4, p5⟩ := valid_parts a
  refine ⟨p1, p2, p3, p4, b, fun i hi => ⟨(p5 i hi).1, (c i hi).1, fun j hj => ⟨?_, ?_⟩⟩⟩
  · have := (p5 i hi).2 j hj; exact ⟨this.1, by omega⟩
  · have := (c i hi).2 j hj; exact ⟨this.1, by omega⟩
theorem rowY_list {m o : List (List Int)} (h : RowsY m o) {i : Nat} (hi : i < m.length) : ∀ x ∈ (List.range (m.getD i []).length).map (fun j => letY ((m.getD i []).getD j 0) ((o.getD i []).getD j 0)), (46 : UInt8) ∉ x ∧ (32 : UInt8) ∉ x ∧ x.length ≤ 5 := by
  intro x hx
  obtain ⟨j, hj, rfl⟩ := List.mem_map.1 hx
  obtain ⟨r1, r2, r3⟩ := h.row i hi
  have hj2 := List.mem_range.1 hj
  have := r3 j (by omega)
  exact letY_sep this.1 this.2
theorem range_ne {α : Type} {n : Nat} (f : Nat → α) (h : 1 ≤ n) : (List.range n).map f ≠ [] := by
  intro e
  have := congrArg List.length e
  simp at this; omega
theorem rowY_nosp {m o : List (List Int)} (h : RowsY m o) {i : Nat} (hi : i < m.length) : (32 : UInt8) ∉ rowY (m.getD i []) (o.getD i []) := by
  intro e
  rcases join_mem _ _ _ e with h1 | ⟨x, hx, h1⟩
  · simp at h1
  · exact (rowY_list h hi x hx).2.1 h1
theorem rowY_len {m o : List (List Int)} (h : RowsY m o) {i : Nat} (hi : i < m.length) : (rowY (m.getD i []) (o.getD i [])).length ≤ 35 := by
  have r1 := (h.row i hi).1
  have := join_lt 46 5 _ (range_ne (fun j => letY ((m.getD i []).getD j 0) ((o.getD i []).getD j 0)) (by rw [r1]; exact h.k1)) (fun x hx => (rowY_list h hi x hx).2.2)
  rw [List.length_map, List.length_range, r1] at this
  have := h.k2
  unfold rowY
  rw [r1] at *
  omega
theorem textY_len {m o : List (List Int)} (h : RowsY m o) : (textY m o).length + 1 ≤ 2160 := by
  have := join_lt 32 35 _ (range_ne (fun i => rowY (m.getD i []) (o.getD i [])) h.n1) (fun x hx => by
    obtain ⟨i, hi, rfl⟩ := List.mem_map.1 hx
    exact rowY_len h (by simpa using hi))
  rw [List.length_map, List.length_range] at this
  have := h.n2
  unfold textY
  omega
/-- The string reads as these numbers. -/
structure ReadsY (s : ByteArray) (m o : List (List Int)) : Prop where
  size : s.size ≤ 2160
  rows : (parts 32 s).length = m.length
  line : ∀ i, i < m.length → ((parts 32 s).getD i ⟨#[]⟩).size ≤ 2160 ∧ (parts 46 ((parts 32 s).getD i ⟨#[]⟩)).length = (m.getD i []).length ∧
    ∀ j, j < (m.getD i []).length → ((parts 46 ((parts 32 s).getD i ⟨#[]⟩)).getD j ⟨#[]⟩).size ≤ 2160 ∧ Lib.atoiAll (Lib.cut ((parts 46 ((parts 32 s).getD i ⟨#[]⟩)).getD j ⟨#[]⟩).data.toList [47]).1 = .ok ((m.getD i []).getD j 0) ∧
      Lib.atoiAll (Lib.cut ((parts 46 ((parts 32 s).getD i ⟨#[]⟩)).getD j ⟨#[]⟩).data.toList [47]).2.1 = .ok ((o.getD i []).getD j 0)
theorem size_list (s : ByteArray) : s.size = s.data.toList.length := Array.length_toList.symm
theorem getD_range {α : Type} (f : Nat → α) (n i : Nat) (d : α) (hi : i < n) : ((List.range n).map f).getD i d = f i := by
  simp [List.getD_eq_getElem?_getD, hi]
theorem reads_textY {m o : List (List Int)} (h : RowsY m o) : ReadsY (strB (textY m o)) m o := by
  have hl := textY_len h
  have h1 := parts_join 32 _ (range_ne (fun i => rowY (m.getD i []) (o.getD i [])) h.n1) (fun x hx => by
    obtain ⟨i, hi, rfl⟩ := List.mem_map.1 hx
    exact rowY_nosp h (by simpa using hi)) (strB (textY m o)) (by simp [strB, textY])
  refine ⟨?_, ?_, fun i hi => ?_⟩
  · show (textY m o).toArray.size ≤ 2160
    simp; omega
  · have := congrArg List.length h1
    simpa using this
  · have h2 := parts_get _ _ _ h1 i
    rw [getD_range _ _ _ _ hi] at h2
    have hr := h.row i hi
    have hrow := rowY_len h hi
    have h3 := parts_join 46 _ (range_ne (fun j => letY ((m.getD i []).getD j 0) ((o.getD i []).getD j 0)) (by rw [hr.1]; exact h.k1)) (fun x hx => (rowY_list h hi x hx).1) ((parts 32 (strB (textY m o))).getD i ⟨#[]⟩) h2
    generalize (parts 32 (strB (textY m o))).getD i ⟨#[]⟩ = line at *
    refine ⟨?_, ?_, fun j hj => ?_⟩
    · rw [size_list, h2]; omega
    · have := congrArg List.length h3
      simpa using this
    · have h4 := parts_get _ _ _ h3 j
      rw [getD_range _ _ _ _ hj] at h4
      have hb := hr.2.2 j (by omega)
      have hd := (letY_sep hb.1 hb.2).2.2
      have hc := letY_cut hb.1 hb.2
      refine ⟨?_, ?_, ?_⟩
      · rw [size_list, h4]; omega
      · rw [h4]; exact hc.1
      · rw [h4]; exact hc.2
end Go.Proofs.YtbhhemidnmaodaaDoor
namespace Go.Proofs.YtbhhemidnmaodaaDoor
open Go.RowKit Go.Shelf
theorem strB_size (l : List UInt8) : (strB l).size = l.length := by show l.toArray.size = _; simp
theorem strB_add (a b : List UInt8) : strB a ++ strB b = strB (a ++ b) := by
  unfold strB
  rw [ByteArray.mk_append_mk]
theorem str_add {w : World} (a b : List UInt8) (h : a.length + b.length ≤ 100000) : (Op.stringOp .add (strB a) (strB b)).run Tryd.prog w = .ok (.string (strB (a ++ b))) w := by
  rw [run_string_add_sum w _ _ (by rw [strB_size, strB_size]; omega), strB_add]
end Go.Proofs.YtbhhemidnmaodaaDoor
namespace Go.Proofs.YtbhhemidnmaodaaDoor
open Go.RowKit Go.Shelf
theorem str_addc {w : World} (a : List UInt8) (c : UInt8) (h : a.length ≤ 90000) : (Op.stringOp .add (strB a) ⟨#[c]⟩).run Tryd.prog w = .ok (.string (strB (a ++ [c]))) w := str_add a [c] (by simp; omega)
end Go.Proofs.YtbhhemidnmaodaaDoor
namespace Go.Proofs.YtbhhemidnmaodaaDoor
open Go.RowKit
def updB (L : Nat → Bool) (i : Nat) : Nat → Bool := fun j => if j = i then true else L j
def updV (u : Nat → Value) (i : Nat) (v : Value) : Nat → Value := fun j => if j = i then v else u j
@[simp] theorem updB_self (L : Nat → Bool) (i : Nat) : updB L i i = true := by simp [updB]
@[simp] theorem updV_self (u : Nat → Value) (i : Nat) (v : Value) : updV u i v i = v := by simp [updV]
theorem updB_ne {L : Nat → Bool} {i j : Nat} (h : j ≠ i) : updB L i j = L j := by simp [updB, h]
theorem updV_ne {u : Nat → Value} {i j : Nat} {v : Value} (h : j ≠ i) : updV u i v j = u j := by simp [updV, h]
/-- The frame whose operations' slots hold the values u. -/
def framedFrom (a : Act) (u : Nat → Value) : Nat → List Oper → Act
  | _, [] => a
  | i, o :: l => framedFrom (a.put o.dst (u i)) u (i + 1) l
def dstApart (d : Option Tmp) (l : List Oper) : Bool := l.all fun o => match d, o.dst with
  | some x, some y => x != y
  | _, _ => true
def dstsApart : List Oper → Bool
  | [] => true
  | o :: l => dstApart o.dst l && dstsApart l
theorem put_swap (a : Act) (d e : Option Tmp) (x y : Value) (h : ∀ p q, d = some p → e = some q → p ≠ q) : (a.put d x).put e y = (a.put e y).put d x := by
  cases d with
  | none => rfl
  | some p =>
    cases e with
    | none => rfl
    | some q =>
      have hne := h p q rfl rfl
      simp only [Act.put]
      rw [Array.setIfInBounds_comm _ _ hne]
theorem put_twice (a : Act) (d : Option Tmp) (x y : Value) : (a.put d x).put d y = a.put d y := by
  cases d with
  | none => rfl
  | some p => simp [Act.put]
theorem framed_congr {u u' : Nat → Value} : ∀ (l : List Oper) (k : Nat) (a : Act), (∀ j, k ≤ j → u j = u' j) → framedFrom a u k l = framedFrom a u' k l
  | [], _, _, _ => rfl
  | o :: l, k, a, h => by
    show framedFrom (a.put o.dst (u k)) u (k + 1) l = framedFrom (a.put o.dst (u' k)) u' (k + 1) l
    rw [h k (Nat.le_refl _)]
    exact framed_congr l (k + 1) _ (fun j hj => h j (by omega))
theorem framed_put {d : Option Tmp} {v : Value} (u : Nat → Value) : ∀ (l : List Oper) (k : Nat) (a : Act), dstApart d l = true → framedFrom (a.put d v) u k l = (framedFrom a u k l).put d v
  | [], _, _, _ => rfl
  | o :: l, k, a, h => by
    unfold dstApart at h
    rw [List.all_cons, Bool.and_eq_true] at h
    show framedFrom ((a.put d v).put o.dst (u k)) u (k + 1) l = (framedFrom (a.put o.dst (u k)) u (k + 1) l).put d v
    rw [put_swap _ d o.dst _ _ (fun p q hp hq => by
      have h1 := h.1
      rw [hp, hq] at h1
      simpa using h1)]
    exact framed_put u l (k + 1) _ h.2
theorem framed_upd {u : Nat → Value} {v : Value} : ∀ (l : List Oper) (k : Nat) (a : Act), dstsApart l = true → ∀ (i : Nat) (o : Oper), k ≤ i → l[i - k]? = some o → framedFrom a (updV u i v) k l = (framedFrom a u k l).put o.dst v
  | [], _, _, _, i, o, _, ho => by simp at ho
  | p :: l, k, a, h, i, o, hk, ho => by
    unfold dstsApart at h
    rw [Bool.and_eq_true] at h
    by_cases e : i = k
    · subst e
      rw [Nat.sub_self] at ho
      obtain rfl : p = o := by simpa using ho
      show framedFrom (a.put p.dst (updV u i v i)) (updV u i v) (i + 1) l = (framedFrom (a.put p.dst (u i)) u (i + 1) l).put p.dst v
      rw [updV_self, framed_congr (u := updV u i v) (u' := u) l (i + 1) _ (fun j hj => updV_ne (by omega)), ← framed_put u l (i + 1) _ h.1, put_twice]
    · show framedFrom (a.put p.dst (updV u i v k)) (updV u i v) (k + 1) l = (framedFrom (a.put p.dst (u k)) u (k + 1) l).put o.dst v
      rw [updV_ne (show k ≠ i by omega)]
      refine framed_upd l (k + 1) _ h.2 i o (by omega) ?_
      rw [show i - k = (i - (k + 1)) + 1 by omega, List.getElem?_cons_succ] at ho
      exact ho
theorem put_old (a : Act) (d : Option Tmp) (v : Value) (s : Tmp) (h : d ≠ some s) : (a.put d v).tmps.getD s undef = a.tmps.getD s undef := by
  cases d with
  | none => rfl
  | some p =>
    have hne : p ≠ s := fun e => h (by rw [e])
    simp [Act.put, Array.getD_eq_getD_getElem?, Array.getElem?_setIfInBounds, hne]
theorem put_size (a : Act) (d : Option Tmp) (v : Value) : (a.put d v).tmps.size = a.tmps.size := by
  cases d <;> simp [Act.put]
theorem framed_old {u : Nat → Value} {s : Tmp} : ∀ (l : List Oper) (k : Nat) (a : Act), (l.all fun o => o.dst != some s) = true → (framedFrom a u k l).eval (.tmp s) = a.tmps.getD s undef
  | [], _, _, _ => rfl
  | o :: l, k, a, h => by
    rw [List.all_cons, Bool.and_eq_true] at h
    show (framedFrom (a.put o.dst (u k)) u (k + 1) l).eval (.tmp s) = _
    rw [framed_old l (k + 1) _ h.2, put_old _ _ _ _ (by simpa using h.1)]
theorem framed_new {u : Nat → Value} {d : Tmp} : ∀ (l : List Oper) (k : Nat) (a : Act) (i : Nat), dstsApart l = true → d < a.tmps.size → l[i]?.bind (·.dst) = some d → (framedFrom a u k l).eval (.tmp d) = u (k + i)
  | [], _, _, i, _, _, h => by simp at h
  | o :: l, k, a, i, hd, hs, h => by
    unfold dstsApart at hd
    rw [Bool.and_eq_true] at hd
    show (framedFrom (a.put o.dst (u k)) u (k + 1) l).eval (.tmp d) = _
    cases i with
    | zero =>
      have ho : o.dst = some d := by simpa using h
      rw [framed_old l (k + 1) _ (by
        have h1 := hd.1
        unfold dstApart at h1
        rw [ho] at h1
        rw [List.all_eq_true] at h1 ⊢
        intro p hp
        have := h1 p hp
        cases hpd : p.dst with
        | none => rfl
        | some q =>
          rw [hpd] at this
          simp at this ⊢
          exact fun e => this e.symm), ho]
      simp [Act.put, hs]
    | succ i =>
      rw [framed_new l (k + 1) _ i hd.2 (by rw [put_size]; exact hs) (by simpa using h)]
      congr 1
      omega
/-- What the slots held before. -/
def heldBy (a : Act) (l : List Oper) (i : Nat) : Value := match l[i]? with
  | some o => match o.dst with
    | some d => a.tmps.getD d undef
    | none => undef
  | none => undef
theorem put_held (a : Act) (d : Tmp) : a.put (some d) (a.tmps.getD d undef) = a := by
  simp only [Act.put]
  congr 1
  apply Array.ext_getElem?
  intro i
  rw [Array.getElem?_setIfInBounds]
  by_cases h : d = i
  · subst h
    by_cases hb : d < a.tmps.size
    · simp [hb]
    · simp [hb]
  · simp [h]
theorem framed_start (a : Act) : ∀ (l : List Oper) (k : Nat) (l' : List Oper), (∀ j, l[j]? = l'[k + j]?) → framedFrom a (heldBy a l') k l = a
  | [], _, _, _ => rfl
  | o :: l, k, l', h => by
    have h0 : l'[k]? = some o := by simpa using (h 0).symm
    show framedFrom (a.put o.dst (heldBy a l' k)) (heldBy a l') (k + 1) l = a
    have e : a.put o.dst (heldBy a l' k) = a := by
      cases hd : o.dst with
      | none => rfl
      | some d =>
        have e2 : heldBy a l' k = a.tmps.getD d undef := by
          unfold heldBy
          rw [h0]
          simp only [hd]
        rw [e2]; exact put_held a d
    rw [e]
    exact framed_start a l (k + 1) l' (fun j => by have := h (j + 1); simpa [Nat.add_assoc, Nat.add_comm 1 j] using this)
/-- Each operation waits for earlier ones alone. -/
def backFrom : Nat → List Oper → Bool
  | _, [] => true
  | i, o :: l => o.after.all (fun e => !Region.binds .any e || decide (e.on < i)) && backFrom (i + 1) l
theorem backFrom_spec : ∀ (l : List Oper) (k : Nat), backFrom k l = true → ∀ i o, l[i]? = some o → ∀ e ∈ o.after, Region.binds .any e = true → e.on < k + i
  | [], _, _, i, o, ho => by simp at ho
  | p :: l, k, h, i, o, ho => by
    unfold backFrom at h
    rw [Bool.and_eq_true] at h
    cases i with
    | zero =>
      obtain rfl : p = o := by simpa using ho
      intro e he hb
      have := (Array.all_eq_true_iff_forall_mem.1 h.1) e he
      rw [hb] at this
      simpa using this
    | succ i =>
      rw [List.getElem?_cons_succ] at ho
      intro e he hb
      have := backFrom_spec l (k + 1) h.2 i o ho e he hb
      omega
/-- An operation that has a value. -/
theorem op_run {P : Program} {ops : Array Oper} {o : Oper} {F : Act} {w : World} {K : Act → World → Prop} {Q : Exit → Act → World → Prop} {E : Prop} (hg : o.guard = none) (v : Value) (w' : World) (hr : (execOp F.eval o).run P w = .ok (.value v) w') (hK : K (F.put o.dst v) w') :
    if Region.wanted o (yielded ops F.tmps) = true then Oper.wp P o F w K Q else E := by
  rw [if_pos (by simp [Region.wanted, hg])]
  unfold Oper.wp
  rw [hr]
  exact hK
/-- A call of a Go function. -/
theorem op_call {P : Program} {ops : Array Oper} {o : Oper} {F : Act} {w : World} {K : Act → World → Prop} {Q : Exit → Act → World → Prop} {E : Prop} (hg : o.guard = none) (f : FuncId) (args : Array Value) (hr : (execOp F.eval o).run P w = .ok (.enter f args) w) (hC : Calls P f args w fun e w' => ∃ v, e = .returned v ∧ K (F.put o.dst v) w') :
    if Region.wanted o (yielded ops F.tmps) = true then Oper.wp P o F w K Q else E := by
  rw [if_pos (by simp [Region.wanted, hg])]
  unfold Oper.wp
  rw [hr]
  refine hC.mono ?_
  rintro e w' ⟨v, rfl, h⟩
  exact h
/-- An operation that has none. -/
theorem op_skip {P : Program} {ops : Array Oper} {o : Oper} {F : Act} {w : World} {K : Act → World → Prop} {Q : Exit → Act → World → Prop} {E : Prop} (hg : o.guard = none) (w' : World) (hr : (execOp F.eval o).run P w = .ok .skip w') (hK : K (F.put o.dst undef) w') :
    if Region.wanted o (yielded ops F.tmps) = true then Oper.wp P o F w K Q else E := by
  rw [if_pos (by simp [Region.wanted, hg])]
  unfold Oper.wp
  rw [hr]
  exact hK
section
variable {P : Program} {Q : Exit → Act → World → Prop} {a : Act} {l : List Oper} {I : (Nat → Bool) → (Nat → Value) → World → Prop}
/-- What is asked of the operation at i. -/
def InvStep (P : Program) (Q : Exit → Act → World → Prop) (a : Act) (l : List Oper) (I : (Nat → Bool) → (Nat → Value) → World → Prop) (i : Nat) (o : Oper) : Prop :=
  ∀ (L : Nat → Bool) (u : Nat → Value) (w : World), L i = false → (∀ e ∈ o.after, Region.binds .any e = true → L e.on = true) → I L u w →
    ∀ K : Act → World → Prop, (∀ v w', I (updB L i) (updV u i v) w' → K ((framedFrom a u 0 l).put o.dst v) w') →
      if Region.wanted o (yielded l.toArray (framedFrom a u 0 l).tmps) = true then Oper.wp P o (framedFrom a u 0 l) w K Q else K ((framedFrom a u 0 l).put o.dst undef) w
def InvFrom (P : Program) (Q : Exit → Act → World → Prop) (a : Act) (l : List Oper) (I : (Nat → Bool) → (Nat → Value) → World → Prop) : Nat → List Oper → Prop
  | _, [] => True
  | i, o :: r => InvStep P Q a l I i o ∧ InvFrom P Q a l I (i + 1) r
theorem InvFrom.at : ∀ (r : List Oper) (k : Nat), InvFrom P Q a l I k r → ∀ i o, r[i]? = some o → InvStep P Q a l I (k + i) o
  | [], _, _, i, o, ho => by simp at ho
  | p :: r, k, h, i, o, ho => by
    cases i with
    | zero =>
      obtain rfl : p = o := by simpa using ho
      exact h.1
    | succ i =>
      rw [List.getElem?_cons_succ] at ho
      have := InvFrom.at r (k + 1) h.2 i o ho
      rwa [show k + (i + 1) = k + 1 + i by omega]
def unlisted (listed : Array Bool) : Nat := ((List.range listed.size).filter fun j => !listed.getD j true).length
theorem unlisted_set {listed : Array Bool} {i : Nat} (hi : i < listed.size) (h : listed.getD i true = false) : unlisted (listed.setIfInBounds i true) < unlisted listed := by
  unfold unlisted
  rw [Array.size_setIfInBounds]
  have e : (List.range listed.size).filter (fun j => !(listed.setIfInBounds i true).getD j true) = ((List.range listed.size).filter fun j => !listed.getD j true).filter fun j => j != i := by
    rw [List.filter_filter]
    refine List.filter_congr fun j hj => ?_
    have hj := List.mem_range.1 hj
    by_cases e : j = i
    · subst e; simp [hi]
    · simp [Array.getElem?_setIfInBounds, show ¬ i = j from fun h => e h.symm, e]
  rw [e]
  exact List.length_filter_lt_length_iff_exists.2 ⟨i, List.mem_filter.2 ⟨List.mem_range.2 hi, by rw [h]; rfl⟩, by simp⟩
theorem inv_any (hb : backFrom 0 l = true) (hd : dstsApart l = true) (hs : InvFrom P Q a l I 0 l) (hend : ∀ L u w, (∀ i, i < l.length → L i = true) → I L u w → Q .normal (framedFrom a u 0 l) w) :
    ∀ (fuel : Nat) (listed : Array Bool) (u : Nat → Value) (w : World), listed.size = l.length → unlisted listed ≤ fuel → I (fun j => listed.getD j false) u w → wpAny P .any l.toArray Q fuel listed (framedFrom a u 0 l) w := by
  have hdone : ∀ (listed : Array Bool) (u : Nat → Value) (w : World), listed.size = l.length → Region.ready .any l.toArray listed = [] → I (fun j => listed.getD j false) u w → Q .normal (framedFrom a u 0 l) w := fun listed u w hsz hr hI => by
    refine hend _ u w (fun i => ?_) hI
    induction i using Nat.strongRecOn with
    | _ i ih =>
      intro hi
      apply Classical.byContradiction
      intro hne
      have hif : listed.getD i true = false := by
        have hi2 : i < listed.size := by omega
        simp [hi2] at hne ⊢
        exact hne
      have : i ∈ Region.ready .any l.toArray listed := mem_ready.2 ⟨hif, l[i], by simp [hi], fun e he hbd => by
        have h1 := backFrom_spec l 0 hb i l[i] (by simp [hi]) e he hbd
        exact ih e.on (by omega) (by omega)⟩
      rw [hr] at this
      cases this
  intro fuel
  induction fuel with
  | zero =>
    intro listed u w hsz hun hI
    have hr : Region.ready .any l.toArray listed = [] := by
      apply List.eq_nil_iff_forall_not_mem.2
      intro i hi
      obtain ⟨h1, o, h2, -⟩ := mem_ready.1 hi
      have hil : i < listed.size := by
        have := (Array.getElem?_eq_some_iff.1 h2).1
        simp at this; omega
      have := List.length_pos_of_mem (List.mem_filter.2 ⟨List.mem_range.2 hil, by rw [h1]; rfl⟩ : i ∈ (List.range listed.size).filter fun j => !listed.getD j true)
      unfold unlisted at hun
      omega
    exact ⟨hr, hdone listed u w hsz hr hI⟩
  | succ fuel ih =>
    intro listed u w hsz hun hI
    refine ⟨fun hr => hdone listed u w hsz hr hI, fun i hi => ?_⟩
    obtain ⟨h1, o, h2, h3⟩ := mem_ready.1 hi
    have hil : i < listed.size := by
      have := (Array.getElem?_eq_some_iff.1 h2).1
      simp at this; omega
    have h2' : l[i]? = some o := by simpa using h2
    have hst := InvFrom.at l 0 hs i o h2'
    rw [Nat.zero_add] at hst
    have hLi : listed.getD i false = false := by
      simp [hil] at h1 ⊢
      exact h1
    have key := hst (fun j => listed.getD j false) u w hLi (fun e he hbd => h3 e he hbd) hI (wpAny P .any l.toArray Q fuel (listed.setIfInBounds i true)) (fun v w' hI' => by
      rw [← framed_upd l 0 a hd i o (Nat.zero_le _) (by simpa using h2')]
      refine ih _ _ _ (by simpa using hsz) (by have := unlisted_set hil h1; omega) ?_
      have e : (fun j => (listed.setIfInBounds i true).getD j false) = updB (fun j => listed.getD j false) i := by
        funext j
        unfold updB
        by_cases e : j = i
        · subst e; simp [hil]
        · simp [Array.getElem?_setIfInBounds, show ¬ i = j from fun h => e h.symm, e]
      rw [e]; exact hI')
    unfold wpOp
    rw [h2]
    simp only
    split
    · rename_i hw; rw [if_pos hw] at key; exact .inl key
    · rename_i hw; rw [if_neg hw] at key; exact key
theorem wp_region_inv {id : Nat} {w : World} (hm : P.follows .mixedOrders = true) (hb : backFrom 0 l = true) (hd : dstsApart l = true) (h0 : I (fun _ => false) (heldBy a l) w.drew) (hs : InvFrom P Q a l I 0 l) (hend : ∀ L u w, (∀ i, i < l.length → L i = true) → I L u w → Q .normal (framedFrom a u 0 l) w) :
    (Code.region id l.toArray true).wp P Q a w := by
  refine wp_region_any hm ?_
  have h1 := inv_any hb hd hs hend l.toArray.size (Array.replicate l.toArray.size false) (heldBy a l) w.drew (by simp) (by
    unfold unlisted
    have := List.length_filter_le (fun j => !(Array.replicate l.toArray.size false).getD j true) (List.range (Array.replicate l.toArray.size false).size)
    simpa using this) (by
    have e : (fun j => (Array.replicate l.toArray.size false).getD j false) = fun _ => false := by
      funext j
      simp [Array.getElem?_replicate]
      split <;> rfl
    rw [e]; exact h0)
  rw [framed_start a l 0 l (fun j => by rw [Nat.zero_add])] at h1
  exact h1
end
end Go.Proofs.YtbhhemidnmaodaaDoor
namespace Go.Proofs.YtbhhemidnmaodaaDoor
open Go.RowKit
def depB (o : Oper) (j : Nat) : Bool := o.after.any fun e => e.on == j && Region.binds .any e
/-- The operation o has the value v at W, and what it leaves keeps R. -/
def OpV (P : Program) (F : Act) (o : Oper) (W : World) (v : Value) (R : World → Prop) : Prop :=
  o.guard = none ∧ ((∃ w', (execOp F.eval o).run P W = .ok (.value v) w' ∧ R w') ∨ (∃ f args, (execOp F.eval o).run P W = .ok (.enter f args) W ∧ Calls P f args W fun e w' => e = .returned v ∧ R w'))
theorem opv_run {P : Program} {F : Act} {o : Oper} {W : World} {v : Value} {R : World → Prop} (hg : o.guard = none) (w' : World) (hr : (execOp F.eval o).run P W = .ok (.value v) w') (hR : R w') : OpV P F o W v R := ⟨hg, .inl ⟨w', hr, hR⟩⟩
theorem opv_call {P : Program} {F : Act} {o : Oper} {W : World} {v : Value} {R : World → Prop} (hg : o.guard = none) (f : FuncId) (args : Array Value) (hr : (execOp F.eval o).run P W = .ok (.enter f args) W) (hC : Calls P f args W fun e w' => e = .returned v ∧ R w') : OpV P F o W v R := ⟨hg, .inr ⟨f, args, hr, hC⟩⟩
section
variable {P : Program} {Q : Exit → Act → World → Prop} {a : Act} {l : List Oper} {c : Nat → Value} {R S : World → Prop}
def ValStep (P : Program) (a : Act) (l : List Oper) (c : Nat → Value) (R S : World → Prop) (n i : Nat) (o : Oper) : Prop :=
  ∀ (F : Act) (W : World), R W → (∀ s, (l.all fun o => o.dst != some s) = true → F.eval (.tmp s) = a.tmps.getD s undef) → (∀ j d, depB o j = true → l[j]?.bind (·.dst) = some d → F.eval (.tmp d) = c j) →
    if i = n then o.guard = none ∧ ∃ W', (execOp F.eval o).run P W = .ok .skip W' ∧ S W' else OpV P F o W (c i) R
def ValFrom (P : Program) (a : Act) (l : List Oper) (c : Nat → Value) (R S : World → Prop) (n : Nat) : Nat → List Oper → Prop
  | _, [] => True
  | i, o :: r => ValStep P a l c R S n i o ∧ ValFrom P a l c R S n (i + 1) r
/-- All operations but n stand before n. -/
def reachO (l : List Oper) : Nat → List Nat → List Nat
  | 0, s => s
  | k + 1, s => reachO l k (s ++ (List.range l.length).filter fun j => !s.contains j && s.any fun i => match l[i]? with | some o => depB o j | none => false)
def allBefore (l : List Oper) (n : Nat) : Bool := (List.range l.length).all fun j => (reachO l l.length [n]).contains j
structure IV (l : List Oper) (n : Nat) (c : Nat → Value) (R S : World → Prop) (L : Nat → Bool) (u : Nat → Value) (W : World) : Prop where
  val : ∀ i, L i = true → u i = c i ∨ i = n
  clo : ∀ i o, l[i]? = some o → L i = true → ∀ e ∈ o.after, Region.binds .any e = true → L e.on = true
  pre : L n = false → R W
  post : L n = true → S W
  out : l.length ≤ n → L n = false
theorem reachO_sub {L : Nat → Bool} (hc : ∀ i o, l[i]? = some o → L i = true → ∀ e ∈ o.after, Region.binds .any e = true → L e.on = true) : ∀ (k : Nat) (s : List Nat), (∀ j ∈ s, L j = true) → ∀ j ∈ reachO l k s, L j = true
  | 0, _, hs => hs
  | k + 1, s, hs => by
    refine reachO_sub hc k _ fun j hj => ?_
    rcases List.mem_append.1 hj with hj | hj
    · exact hs j hj
    · have h2 := (List.mem_filter.1 hj).2
      rw [Bool.and_eq_true, List.any_eq_true] at h2
      obtain ⟨-, i, hi, hd⟩ := h2
      cases ho : l[i]? with
      | none => rw [ho] at hd; cases hd
      | some o =>
        rw [ho] at hd
        simp only [depB, Array.any_eq_true] at hd
        obtain ⟨q, hq, he⟩ := hd
        rw [Bool.and_eq_true, beq_iff_eq] at he
        have := hc i o ho (hs i hi) _ (Array.getElem_mem hq) he.2
        rw [he.1] at this
        exact this
theorem ValFrom.inv {n : Nat} (hb : backFrom 0 l = true) (hd : dstsApart l = true) (hsz : (l.all fun o => match o.dst with | some d => decide (d < a.tmps.size) | none => true) = true) (hall : n < l.length → allBefore l n = true) (hdn : ∀ o, l[n]? = some o → o.dst = none) :
    ∀ (r : List Oper) (k : Nat), (∀ i, r[i]? = l[k + i]?) → ValFrom P a l c R S n k r → InvFrom P Q a l (IV l n c R S) k r
  | [], _, _, _ => trivial
  | o :: r, k, hr, h => by
    refine ⟨?_, ValFrom.inv hb hd hsz hall hdn r (k + 1) (fun i => by have := hr (i + 1); rw [List.getElem?_cons_succ] at this; rw [this]; congr 1; omega) h.2⟩
    have hk : l[k]? = some o := by have := hr 0; simp at this; exact this.symm
    have hkl := (List.getElem?_eq_some_iff.1 hk).1
    intro L u W hL hpre hI K hK
    have hold : ∀ s, (l.all fun o => o.dst != some s) = true → (framedFrom a u 0 l).eval (.tmp s) = a.tmps.getD s undef := fun s hs => framed_old _ _ _ hs
    have hnb : L n = false := by
      cases hn : L n with
      | false => rfl
      | true =>
        exfalso
        by_cases hln : n < l.length
        · have hb := hall hln
          rw [allBefore, List.all_eq_true] at hb
          have h2 := hb k (List.mem_range.2 hkl)
          have h3 := reachO_sub hI.clo l.length [n] (fun j hj => by rw [List.mem_singleton.1 hj]; exact hn) k (by simpa using h2)
          rw [hL] at h3; cases h3
        · have := hI.out (by omega)
          rw [hn] at this; cases this
    have hnew : ∀ j d, depB o j = true → l[j]?.bind (·.dst) = some d → (framedFrom a u 0 l).eval (.tmp d) = c j := by
      intro j d hj hdj
      simp only [depB, Array.any_eq_true] at hj
      obtain ⟨q, hq, he⟩ := hj
      rw [Bool.and_eq_true, beq_iff_eq] at he
      have hLj := hpre _ (Array.getElem_mem hq) he.2
      rw [he.1] at hLj
      obtain ⟨oj, hoj, hdd⟩ := Option.bind_eq_some_iff.1 hdj
      have h1 := List.all_eq_true.1 hsz oj (List.mem_of_getElem? hoj)
      rw [hdd] at h1
      have h2 := framed_new (u := u) (d := d) l 0 a j hd (by simpa using h1) hdj
      rw [Nat.zero_add] at h2
      rw [h2]
      rcases hI.val j hLj with h3 | h3
      · exact h3
      · subst h3; rw [hLj] at hnb; cases hnb
    have hs := h.1 (framedFrom a u 0 l) W (hI.pre hnb) hold hnew
    have hclo : ∀ i o', l[i]? = some o' → updB L k i = true → ∀ e ∈ o'.after, Region.binds .any e = true → updB L k e.on = true := by
      intro i o' ho' hi e he hbd
      have : L e.on = true := by
        by_cases e1 : i = k
        · subst e1
          rw [hk] at ho'
          cases ho'
          exact hpre e he hbd
        · rw [updB_ne e1] at hi
          exact hI.clo i o' ho' hi e he hbd
      unfold updB
      split
      · rfl
      · exact this
    by_cases hkn : k = n
    · subst hkn
      rw [if_pos rfl] at hs
      obtain ⟨hg, W', hrun, hS⟩ := hs
      refine op_skip hg W' hrun (hK undef W' ⟨fun i hi => ?_, hclo, fun e => ?_, fun _ => hS, fun e => absurd hkl (by omega)⟩)
      · by_cases e : i = k
        · exact .inr e
        · rw [updB_ne e] at hi
          rw [updV_ne e]
          exact hI.val i hi
      · rw [updB_self] at e; cases e
    · rw [if_neg hkn] at hs
      have hnk : n ≠ k := fun e => hkn e.symm
      have hnew' : ∀ W', R W' → IV l n c R S (updB L k) (updV u k (c k)) W' := fun W' hR => ⟨fun i hi => by
        by_cases e : i = k
        · subst e; exact .inl (updV_self _ _ _)
        · rw [updB_ne e] at hi
          rw [updV_ne e]
          exact hI.val i hi, hclo, fun _ => hR, fun e => (by rw [updB_ne hnk, hnb] at e; cases e), fun e => by rw [updB_ne hnk]; exact hnb⟩
      obtain ⟨hg, ⟨w', hrun, hR⟩ | ⟨f, args, hrun, hC⟩⟩ := hs
      · exact op_run hg _ w' hrun (hK _ _ (hnew' w' hR))
      · refine op_call hg f args hrun (hC.mono ?_)
        rintro e w' ⟨rfl, hR⟩
        exact ⟨_, rfl, hK _ _ (hnew' w' hR)⟩
theorem framed_same {u c : Nat → Value} {n : Nat} : ∀ (l : List Oper) (k : Nat) (a : Act), (∀ i o, l[i]? = some o → u (k + i) = c (k + i) ∨ o.dst = none) → framedFrom a u k l = framedFrom a c k l
  | [], _, _, _ => rfl
  | o :: l, k, a, h => by
    show framedFrom (a.put o.dst (u k)) u (k + 1) l = framedFrom (a.put o.dst (c k)) c (k + 1) l
    have e : a.put o.dst (u k) = a.put o.dst (c k) := by
      rcases h 0 o rfl with h1 | h1
      · rw [show u k = c k from h1]
      · rw [h1]; rfl
    rw [e]
    exact framed_same (n := n) l (k + 1) _ (fun i o' ho => by have := h (i + 1) o' ho; rwa [show k + (i + 1) = k + 1 + i by omega] at this)
/-- The last operation, at n, has an effect. -/
theorem wp_region_one {id : Nat} {w : World} (n : Nat) (hm : P.follows .mixedOrders = true) (hb : backFrom 0 l = true) (hd : dstsApart l = true) (hsz : (l.all fun o => match o.dst with | some d => decide (d < a.tmps.size) | none => true) = true)
    (hn : decide (n < l.length) = true) (hall : allBefore l n = true) (hdn : (l[n]?.bind (·.dst)).isNone = true) (h0 : R w.drew) (hs : ValFrom P a l c R S n 0 l) (hend : ∀ W, S W → Q .normal (framedFrom a c 0 l) W) : (Code.region id l.toArray true).wp P Q a w := by
  have hn' : n < l.length := by simpa using hn
  have hdn' : ∀ o, l[n]? = some o → o.dst = none := fun o ho => by rw [ho] at hdn; simpa using hdn
  refine wp_region_inv (I := IV l n c R S) hm hb hd ⟨fun i h => (by cases h), fun i o _ h => (by cases h), fun _ => h0, fun h => (by cases h), fun _ => rfl⟩ (ValFrom.inv hb hd hsz (fun _ => hall) hdn' l 0 (fun i => by rw [Nat.zero_add]) hs) ?_
  intro L u W hL hI
  rw [framed_same (n := n) l 0 a (c := c) (fun i o ho => by
    rw [Nat.zero_add]
    have hil := (List.getElem?_eq_some_iff.1 ho).1
    rcases hI.val i (hL i hil) with h | h
    · exact .inl h
    · subst h; exact .inr (hdn' o ho))]
  exact hend W (hI.post (hL n hn'))
/-- No operation has an effect but to leave more memory. -/
theorem wp_region_pure {id : Nat} {w : World} (hm : P.follows .mixedOrders = true) (hb : backFrom 0 l = true) (hd : dstsApart l = true) (hsz : (l.all fun o => match o.dst with | some d => decide (d < a.tmps.size) | none => true) = true)
    (h0 : R w.drew) (hs : ValFrom P a l c R R l.length 0 l) (hend : ∀ W, R W → Q .normal (framedFrom a c 0 l) W) : (Code.region id l.toArray true).wp P Q a w := by
  refine wp_region_inv (I := IV l l.length c R R) hm hb hd ⟨fun i h => (by cases h), fun i o _ h => (by cases h), fun _ => h0, fun h => (by cases h), fun _ => rfl⟩ (ValFrom.inv hb hd hsz (fun h => absurd h (Nat.lt_irrefl _)) (fun o ho => by have := (List.getElem?_eq_some_iff.1 ho).1; omega) l 0 (fun i => by rw [Nat.zero_add]) hs) ?_
  intro L u W hL hI
  rw [framed_same (n := 0) l 0 a (c := c) (fun i o ho => by
    rw [Nat.zero_add]
    have hil := (List.getElem?_eq_some_iff.1 ho).1
    rcases hI.val i (hL i hil) with h | h
    · exact .inl h
    · omega)]
  exact hend W (hI.pre (hI.out (Nat.le_refl _)))
end
end Go.Proofs.YtbhhemidnmaodaaDoor
