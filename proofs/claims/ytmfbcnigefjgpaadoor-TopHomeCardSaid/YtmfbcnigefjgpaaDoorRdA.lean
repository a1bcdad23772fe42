/-
  Texts that the proof of the law stands on: Rep, T1, T2, Bits, Pop, T3, T4, O1, Range, T5, T6, T7, T8, R1, P1, P2, N21, M1, R4, P4, P6, Q1, N1, N2, N6, N7, N8, N15, N16, N17, N18, N10, N12, N13, N22, N23, N14, N24, Q2, N27, Q11, D1, D2, E2, N25, N26, Q9, E4, Map, E5, D3, E6.
-/
import Derived.WalkKit
import Derived.WalkSpells
import Derived.WalkLawsBesides
import Derived.Test.YtmfbcnigefjgpaaDoorProg
import Derived.Lib.TrailingZeros
import Derived.Laws.Bits64b
import Derived.Deep.Matrix
import Derived.Lib.LaidU8
import Derived.SizedLaws
import Derived.Carry
import Derived.RangeFuncNested
import Derived.RangeFuncBound
import Derived.RangeFuncCalls
import Derived.RangeFuncLeaves
import Derived.Shelf.Abstract
import Derived.OwnWalkIn
import Derived.TacticsInMore
import Derived.LoopNIn
import Derived.LoopIn
import Derived.Shelf.RegionOpen
import Derived.Maps.OwnIn
import Derived.BigQuiet
import Derived.Deep.QuietTactic
import Derived.Maps.AppendAt
import Derived.Lib.SplitLaws
import Derived.Deep.AppendLies
import Derived.Deep.RegionLaw
import Derived.Laws.EntriesVeiled
import Derived.Maps.Own
import Derived.Maps.OwnOps
import Derived.Maps.Views
import Derived.Handy
import Derived.Deep.RegionHeld
import Derived.Deep.RegionHeld3
import Derived.Maps.OwnSet
import Derived.WideKeyPair
import Derived.WideKeyEntry
import Derived.WideKeyElems3
import Derived.Maps.Keyed
namespace Go.Proofs.YtmfbcnigefjgpaaDoor
open Go.RowKit
/-- The greatest number of elements that is spoken of. -/
def big : Nat := 17592186044416
/-- A slice of ints that reads as a list. -/
def Ints (w : World) (v : Value) (l : List Int) : Prop :=
  ∃ A cap, v = .slice A l.length cap ∧ l.length ≤ big ∧ ∀ i, i < l.length → ∃ b off, A = some ⟨b, off, none⟩ ∧ w.cell? ⟨b, off + i, none⟩ = some (.int .i64 (l.getD i 0))
theorem Ints.below {w w' : World} {v : Value} {l : List Int} (h : Ints w v l) (hb : Below w.heap.size w w') : Ints w' v l := by
  obtain ⟨A, cap, hv, hl, hc⟩ := h
  refine ⟨A, cap, hv, hl, fun i hi => ?_⟩
  obtain ⟨b, off, hA, hcell⟩ := hc i hi
  exact ⟨b, off, hA, (hb.cell (p := ⟨b, off + i, none⟩) (World.block_lt_of_cell? _ _ hcell)).trans hcell⟩
theorem all_snoc_take {α : Type} [Inhabited α] (p : α → Bool) (l : List α) (d : α) (k : Nat) (hk : k < l.length) : (l.take (k + 1)).all p = ((l.take k).all p && p (l.getD k d)) := by
  rw [List.take_succ_eq_append_getElem hk, List.all_append]
  simp [List.getD_eq_getElem?_getD, List.getElem?_eq_getElem hk]
theorem all_false_of {α : Type} (p : α → Bool) (l : List α) (d : α) (k : Nat) (hk : k < l.length) (h : p (l.getD k d) = false) : l.all p = false := by
  rw [List.all_eq_false]
  refine ⟨l[k], List.getElem_mem _, ?_⟩
  have : l.getD k d = l[k] := by simp [List.getD_eq_getElem?_getD, List.getElem?_eq_getElem hk]
  rw [this] at h
  simp [h]
theorem hid {p : Prop} (h : p) : Hid p := h
theorem ret_bool {a b : Bool} (h : a = b) : Ending.returned (.bool a) = .returned (.bool b) := by rw [h]
theorem ret_int {k : IntKind} {a b : Int} (h : a = b) : Ending.returned (.int k a) = .returned (.int k b) := by rw [h]
/-- A slice of slices of ints. -/
def Rows (w : World) (v : Value) (m : List (List Int)) : Prop :=
  ∃ A cap, v = .slice A m.length cap ∧ m.length ≤ big ∧ ∀ i, i < m.length → ∃ b off r, A = some ⟨b, off, none⟩ ∧ w.cell? ⟨b, off + i, none⟩ = some r ∧ Ints w r (m.getD i [])
theorem Rows.below {w w' : World} {v : Value} {m : List (List Int)} (h : Rows w v m) (hb : Below w.heap.size w w') : Rows w' v m := by
  obtain ⟨A, cap, hv, hl, hc⟩ := h
  refine ⟨A, cap, hv, hl, fun i hi => ?_⟩
  obtain ⟨b, off, r, hA, hcell, hr⟩ := hc i hi
  exact ⟨b, off, r, hA, (hb.cell (p := ⟨b, off + i, none⟩) (World.block_lt_of_cell? _ _ hcell)).trans hcell, hr.below hb⟩
theorem Ints.alloc {w : World} {v : Value} {l : List Int} (h : Ints w v l) (o : Obj) : Ints (w.alloc o) v l := h.below ((Below.refl _ w).alloc (Nat.le_refl _) o)
theorem Rows.alloc {w : World} {v : Value} {l : List (List Int)} (h : Rows w v l) (o : Obj) : Rows (w.alloc o) v l := h.below ((Below.refl _ w).alloc (Nat.le_refl _) o)
/-- A list of one number, just made. -/
theorem Ints.one (w : World) (n : Int) (t : TypeId) : Ints (w.alloc (.cells #[.int .i64 n] t)) (.slice (some ⟨w.heap.size, 0, none⟩) 1 1) [n] :=
  ⟨_, 1, rfl, by unfold big; simp, fun i hi => ⟨w.heap.size, 0, rfl, by
    obtain rfl : i = 0 := by simp at hi; omega
    simp⟩⟩
theorem Ints.one' (w : World) (n : Int) (t : TypeId) (k : Nat) (hk : k = w.heap.size) : Ints (w.alloc (.cells #[.int .i64 n] t)) (.slice (some ⟨k, 0, none⟩) 1 1) [n] := by
  subst hk; exact Ints.one w n t
/-- Below the whole of the first world: new blocks, and all that a call leaves as it lay. -/
theorem bal {w w' : World} (h : Below w.heap.size w w') (o : Obj) : Below w.heap.size w (w'.alloc o) := h.alloc h.size o
theorem btr {w w' w'' : World} (h : Below w.heap.size w w') (k : Below w'.heap.size w' w'') : Below w.heap.size w w'' := h.trans (k.mono h.size)
theorem below_dr (w : World) (n : Nat) : Below w.heap.size w (w.drewN n) := ⟨rfl, rfl, rfl, Nat.le_refl _, fun _ _ => rfl⟩
theorem Ints.drewN {w : World} {v : Value} {l : List Int} (h : Ints w v l) (n : Nat) : Ints (w.drewN n) v l := h.below (below_dr w n)
theorem Rows.drewN {w : World} {v : Value} {m : List (List Int)} (h : Rows w v m) (n : Nat) : Rows (w.drewN n) v m := h.below (below_dr w n)
theorem bdr {w w' : World} (h : Below w.heap.size w w') (n : Nat) : Below w.heap.size w (w'.drewN n) := btr h (below_dr w' n)
theorem bdrew {w w' : World} (h : Below w.heap.size w w') : Below w.heap.size w w'.drew := h.drew
end Go.Proofs.YtmfbcnigefjgpaaDoor
namespace Go.Proofs.YtmfbcnigefjgpaaDoor
open Go.RowKit
def inB (lo hi : Int) (n : Int) : Bool := decide (lo ≤ n) && decide (n ≤ hi)
theorem inB_true {lo hi n : Int} (h : lo ≤ n ∧ n ≤ hi) : inB lo hi n = true := by simp [inB, h]
theorem inB_false {lo hi n : Int} (h : n < lo ∨ hi < n) : inB lo hi n = false := by
  unfold inB; rcases h with h | h <;> simp <;> omega
set_option maxHeartbeats 400000 in
theorem between_any (lo hi : Int) (v : Value) (l : List Int) (w : World) (h : Ints w v l) :
    Calls Tryd.prog 53 #[.int .i64 lo, .int .i64 hi, v] w fun e w' => e = .returned (.bool (l.all (inB lo hi))) ∧ w = w' := by
  obtain ⟨A, cap, rfl, hl, hc⟩ := h
  unfold big at hl
  go_enter Tryd.func53, Tryd.ntmps53
  go_wp2
  go_loop [11] (fun i => ∃ k : Nat, k ≤ l.length ∧ i = .int .i64 k ∧ (l.take k).all (inB lo hi) = true) (fun i => l.length - (intOf i).toNat)
  case atStart => exact ⟨0, Nat.zero_le _, rfl, rfl⟩
  case round =>
    obtain ⟨k, hk, rfl, hall⟩ := hrel
    by_cases hlt : k < l.length
    · obtain ⟨b, off, hA, hcell⟩ := hc k hlt
      have hs := all_snoc_take (inB lo hi) l 0 k hlt
      rw [hall, Bool.true_and] at hs
      have hf := all_false_of (inB lo hi) l 0 k hlt
      have Hs := hid hs
      have Hf := hid hf
      clear hs hf hall hc
      generalize hn : l.getD k 0 = n at *
      clear hn
      subst hA
      go_wp2
      · go_ret
        exact ⟨ret_bool (Hf.out (inB_false ‹_›)).symm, rfl⟩
      · go_round
        case rel => exact ⟨k + 1, by omega, by go_num, by rw [Hs.out]; exact inB_true ‹_›⟩
        case measure => simp [intOf]; omega
      · go_ret
        exact ⟨ret_bool (Hf.out (inB_false (.inl ‹_›))).symm, rfl⟩
    · go_wp2
      go_ret
      exact ⟨ret_bool (by rw [← hall, List.take_of_length_le (by omega)]), rfl⟩
/-- How many letters. -/
def letters (m : List (List Int)) : Nat := (m.getD 0 []).length
def rowOk (m : List (List Int)) (r : List Int) : Bool := decide (r.length = letters m) && r.all (inB 0 ((m.length : Int) - 1))
def validM (m : List (List Int)) : Bool :=
  inB 1 60 m.length && (inB 1 6 (letters m) && m.all (rowOk m))
theorem between_one (lo hi n : Int) (b : Bool) (v : Value) (w : World) (h : Ints w v [n]) (hb : inB lo hi n = b) :
    Calls Tryd.prog 53 #[.int .i64 lo, .int .i64 hi, v] w fun e w' => e = .returned (.bool b) ∧ w = w' := by
  have := between_any lo hi v [n] w h
  simpa [hb] using this
set_option maxHeartbeats 400000 in
theorem areStates_any (v u : Value) (m : List (List Int)) (l : List Int) (w : World) (h : Rows w v m) (hu : Ints w u l) :
    Calls Tryd.prog 48 #[.agg #[v], u] w fun e w' => e = .returned (.bool (l.all (inB 0 ((m.length : Int) - 1)))) ∧ Below w.heap.size w w' := by
  have hu1 := hu.alloc (.cells #[v] 24)
  obtain ⟨A, cap, rfl, hl, hc⟩ := h
  unfold big at hl
  clear hc
  go_enter Tryd.func48, Tryd.ntmps48
  go_wp2_with (go_at_call 53; refine (between_any _ _ _ l _ hu1).mono ?_; rintro e w' ⟨rfl, rfl⟩)
  go_ret
  exact ⟨rfl, (Below.refl _ _).alloc (Nat.le_refl _) _⟩
theorem areStates_bool (v u : Value) (m : List (List Int)) (l : List Int) (b : Bool) (w : World) (h : Rows w v m) (hu : Ints w u l) (hb : l.all (inB 0 ((m.length : Int) - 1)) = b) :
    Calls Tryd.prog 48 #[.agg #[v], u] w fun e w' => e = .returned (.bool b) ∧ Below w.heap.size w w' := by
  subst hb; exact areStates_any v u m l w h hu
set_option maxHeartbeats 400000 in
theorem Valid_any (v : Value) (m : List (List Int)) (w : World) (h : Rows w v m) :
    Calls Tryd.prog 36 #[.agg #[v]] w fun e w' => e = .returned (.bool (validM m)) ∧ Below w.heap.size w w' := by
  have hr := h
  obtain ⟨A, cap, rfl, hl, hc⟩ := h
  unfold big at hl
  by_cases h1 : inB 1 60 m.length = true
  · have hpos : 0 < m.length := by simp [inB] at h1; omega
    obtain ⟨b, off, r0, hA, hcell0, hr0⟩ := hc 0 hpos
    subst hA
    obtain ⟨A0, cap0, rfl, hl0, hc0⟩ := hr0
    unfold big at hl0
    rw [Nat.add_zero] at hcell0
    have hbl : b < w.heap.size := World.block_lt_of_cell? _ _ hcell0
    have hlet : (m.getD 0 []).length = letters m := rfl
    rw [hlet] at hcell0 hl0
    clear hc0
    by_cases h2 : inB 1 6 (letters m) = true
    · have Hc := hid hc
      clear hc
      have hin : (0 : Int) < m.length := by omega
      go_enter Tryd.func36, Tryd.ntmps36
      go_wp2_with fail
      refine (between_one 1 60 m.length true _ _ (Ints.one' _ _ _ _ (by simp)) h1).mono ?_
      rintro e w1 ⟨rfl, rfl⟩
      go_wp2_with fail
      refine (between_one 1 6 (letters m) true _ _ (Ints.one' _ _ _ _ (by simp)) h2).mono ?_
      rintro e w1 ⟨rfl, rfl⟩
      go_wp2_with fail
      go_loopw [24] (fun i wr => ∃ k : Nat, k ≤ m.length ∧ i = .int .i64 k ∧ (m.take k).all (rowOk m) = true ∧ Below w.heap.size w wr ∧ wr.cell? ⟨w.heap.size, 0, none⟩ = some (.slice (some ⟨b, off, none⟩) m.length cap))
        (fun i _ => m.length - (intOf i).toNat)
      case atStart => exact ⟨0, Nat.zero_le _, rfl, rfl, bal (bal (bal (Below.refl _ _) _) _) _, by simp [go_sem]⟩
      case round =>
        obtain ⟨k, hk, rfl, hall, hB, hbox⟩ := hrel
        have hsz : w.heap.size < wr.heap.size := World.block_lt_of_cell? _ _ hbox
        by_cases hlt : k < m.length
        · obtain ⟨b', off', r, hA', hcell, hrow⟩ := Hc.out k hlt
          cases hA'
          have hrowc : wr.cell? ⟨b, off + k, none⟩ = some r := (hB.cell (p := ⟨b, off + k, none⟩) hbl).trans hcell
          have hroww := hrow.below hB
          have hrw := hr.below hB
          have Hs := hid (all_snoc_take (rowOk m) m [] k hlt)
          have Hf := hid (all_false_of (rowOk m) m [] k hlt)
          clear hrow hcell hcell0
          generalize m.getD k [] = row at *
          have hroww' := hroww
          obtain ⟨Ar, capr, rfl, hlr, hcr⟩ := hroww
          unfold big at hlr
          clear hcr
          have hv1 : validM m = m.all (rowOk m) := by simp [validM, h1, h2]
          have Hv := hid hv1
          have Ha := hid hall
          clear hv1 hall
          by_cases hle : row.length = letters m
          · have hne : ((row.length : Int) != (letters m : Int)) = false := by simp; omega
            by_cases hst : row.all (inB 0 ((m.length : Int) - 1)) = true
            · have Hle := hid hle
              clear hle
              go_wp2_with fail
              refine (areStates_bool _ _ m row true _ hrw hroww' hst).mono ?_
              rintro e w1 ⟨rfl, hb1⟩
              have hbx : w1.cell? ⟨w.heap.size, 0, none⟩ = some (.slice (some ⟨b, off, none⟩) m.length cap) := (hb1.cell (p := ⟨w.heap.size, 0, none⟩) hsz).trans hbox
              go_wp2
              go_roundw
              case rel => exact ⟨k + 1, by omega, by go_num, by rw [Hs.out, Ha.out]; simp [rowOk, Hle.out, hst], btr hB hb1, hbx⟩
              case measure => simp [intOf]; omega
            · have hst' : row.all (inB 0 ((m.length : Int) - 1)) = false := by simpa using hst
              have Hle := hid hle
              clear hle hst
              go_wp2_with fail
              refine (areStates_bool _ _ m row false _ hrw hroww' hst').mono ?_
              rintro e w1 ⟨rfl, hb1⟩
              go_wp2
              go_ret
              exact ⟨ret_bool (by rw [Hv.out, Hf.out]; simp [rowOk, hst']), btr hB hb1⟩
          · have hne : ((row.length : Int) != (letters m : Int)) = true := by simp; omega
            have Hle := hid hle
            clear hle
            go_wp2
            go_ret
            exact ⟨ret_bool (by rw [Hv.out, Hf.out]; simp [rowOk, Hle.out]), hB⟩
        · go_wp2
          go_ret
          exact ⟨ret_bool (by rw [← hall, List.take_of_length_le (by omega)]; simp [validM, h1, h2]), hB⟩
    · have h2' : inB 1 6 (letters m) = false := by simpa using h2
      have Hc := hid hc
      clear hc
      have hin : (0 : Int) < m.length := by omega
      go_enter Tryd.func36, Tryd.ntmps36
      go_wp2_with fail
      refine (between_one 1 60 m.length true _ _ (Ints.one' _ _ _ _ (by simp)) h1).mono ?_
      rintro e w1 ⟨rfl, rfl⟩
      go_wp2_with fail
      refine (between_one 1 6 (letters m) false _ _ (Ints.one' _ _ _ _ (by simp)) h2').mono ?_
      rintro e w1 ⟨rfl, rfl⟩
      go_wp2
      go_ret
      exact ⟨ret_bool (by simp [validM, h2']), bal (bal (bal (Below.refl _ _) _) _) _⟩
  · have h1' : inB 1 60 m.length = false := by simpa using h1
    clear hc
    go_enter Tryd.func36, Tryd.ntmps36
    go_wp2_with fail
    refine (between_one 1 60 m.length false _ _ (Ints.one' _ _ _ _ (by simp)) h1').mono ?_
    rintro e w1 ⟨rfl, rfl⟩
    go_wp2
    go_ret
    exact ⟨ret_bool (by simp [validM, h1']), bal (bal (Below.refl _ _) _) _⟩
end Go.Proofs.YtmfbcnigefjgpaaDoor
namespace Go.Proofs.YtmfbcnigefjgpaaDoor
open Go.RowKit
def isWordM (m : List (List Int)) (u : List Int) : Bool := decide (u.length ≤ 40000) && u.all (inB 0 ((letters m : Int) - 1))
/-- Where a letter leads, and a word. -/
def nx (m : List (List Int)) (s : Nat) (x : Int) : Nat := ((m.getD s []).getD x.toNat 0).toNat
def runM (m : List (List Int)) (s : Nat) (u : List Int) : Nat := u.foldl (nx m) s
theorem all_getD {α : Type} (p : α → Bool) (l : List α) (d : α) (h : l.all p = true) (i : Nat) (hi : i < l.length) : p (l.getD i d) = true := by
  rw [List.all_eq_true] at h
  have e : l.getD i d = l[i] := by simp [List.getD_eq_getElem?_getD, List.getElem?_eq_getElem hi]
  rw [e]; exact h _ (List.getElem_mem _)
theorem inB_iff {lo hi n : Int} : inB lo hi n = true ↔ lo ≤ n ∧ n ≤ hi := by simp [inB]
theorem valid_parts {m : List (List Int)} (h : validM m = true) : 1 ≤ m.length ∧ m.length ≤ 60 ∧ 1 ≤ letters m ∧ letters m ≤ 6 ∧
    ∀ i, i < m.length → (m.getD i []).length = letters m ∧ ∀ j, j < letters m → 0 ≤ (m.getD i []).getD j 0 ∧ (m.getD i []).getD j 0 < m.length := by
  simp only [validM, Bool.and_eq_true, inB_iff] at h
  obtain ⟨⟨a, b⟩, ⟨c, d⟩, e⟩ := h
  refine ⟨by omega, by omega, by omega, by omega, fun i hi => ?_⟩
  have hr := all_getD _ m [] e i hi
  simp only [rowOk, Bool.and_eq_true, decide_eq_true_eq] at hr
  refine ⟨hr.1, fun j hj => ?_⟩
  have := all_getD _ _ 0 hr.2 j (by omega)
  rw [inB_iff] at this
  omega
theorem nx_ok {m : List (List Int)} (h : validM m = true) {s : Nat} (hs : s < m.length) {x : Int} (h0 : 0 ≤ x) (h1 : x < letters m) :
    nx m s x < m.length ∧ (m.getD s []).getD x.toNat 0 = (nx m s x : Int) := by
  have := ((valid_parts h).2.2.2.2 s hs).2 x.toNat (by omega)
  unfold nx
  omega
theorem runM_lt {m : List (List Int)} (h : validM m = true) : ∀ (u : List Int) (s : Nat), s < m.length → u.all (inB 0 ((letters m : Int) - 1)) = true → runM m s u < m.length
  | [], s, hs, _ => hs
  | x :: u, s, hs, hu => by
    simp only [List.all_cons, Bool.and_eq_true, inB_iff] at hu
    exact runM_lt h u _ (nx_ok h hs hu.1.1 (by omega)).1 hu.2
end Go.Proofs.YtmfbcnigefjgpaaDoor
namespace Go.Proofs.YtmfbcnigefjgpaaDoor
/-- The elements of a set that is kept as the bits of a number. -/
def elems (S : Nat) : List Nat := (List.range 64).filter S.testBit
theorem filter_first (p q : Nat → Bool) (n k : Nat) (hk : k < n) (hp : p k = true) (hlo : ∀ i, i < k → p i = false) (hq : ∀ i, q i = (p i && decide (i ≠ k))) :
    (List.range n).filter p = k :: (List.range n).filter q := by
  have e : List.range n = List.range k ++ (k :: List.range' (k + 1) (n - k - 1)) := by
    rw [List.range_eq_range', List.range_eq_range']
    have h1 : k :: List.range' (k + 1) (n - k - 1) = List.range' k (n - k) := by
      have h2 : n - k = (n - k - 1) + 1 := by omega
      rw [h2, List.range'_succ]
      simp
    rw [h1]
    have h3 := List.range'_append (s := 0) (m := k) (n := n - k) (step := 1)
    simp only [Nat.one_mul, Nat.zero_add] at h3
    rw [h3]
    congr 1
    omega
  have f1 : (List.range k).filter p = [] := by
    rw [List.filter_eq_nil_iff]
    intro a ha
    simp [hlo a (List.mem_range.1 ha)]
  have f2 : (List.range k).filter q = [] := by
    rw [List.filter_eq_nil_iff]
    intro a ha
    simp [hq, hlo a (List.mem_range.1 ha)]
  have f3 : (List.range' (k + 1) (n - k - 1)).filter p = (List.range' (k + 1) (n - k - 1)).filter q := by
    apply List.filter_congr
    intro a ha
    have := List.mem_range'_1.1 ha
    rw [hq]
    have h : a ≠ k := by omega
    simp [h]
  rw [e, List.filter_append, List.filter_append, f1, f2, List.filter_cons, List.filter_cons, f3]
  simp [hp, hq]
/-- Of a number that is not zero: where its lowest bit is; without it the number is less. -/
theorem low_bit (k m : Nat) : ∀ i, (2 ^ k * (2 * m + 1)).testBit i = (decide (k = i) || (decide (k < i) && m.testBit (i - k - 1))) := by
  intro i
  have h := Nat.testBit_two_pow_mul_add (2 * m + 1) (b := 0) (i := k) (Nat.two_pow_pos k) i
  rw [Nat.add_zero] at h
  rw [h]
  by_cases h1 : i < k
  · have a : ¬ k = i := by omega
    have b : ¬ k < i := by omega
    simp [h1, a, b]
  · rw [if_neg h1]
    by_cases h2 : k = i
    · subst h2; simp [Nat.testBit_zero]
    · have h3 : k < i := by omega
      obtain ⟨j, rfl⟩ : ∃ j, i = k + 1 + j := ⟨i - k - 1, by omega⟩
      have e1 : k + 1 + j - k = j + 1 := by omega
      have e2 : k + 1 + j - k - 1 = j := by omega
      rw [e1, Nat.testBit_succ]
      have d1 : (2 * m + 1) / 2 = m := by omega
      rw [d1]
      have : ¬ k = k + 1 + j := by omega
      simp [h3, this]
theorem low_bit_pred (k m : Nat) : ∀ i, (2 ^ k * (2 * m + 1) - 1).testBit i = (decide (i < k) || (decide (k < i) && m.testBit (i - k - 1))) := by
  intro i
  have hp := Nat.two_pow_pos k
  have e : 2 ^ k * (2 * m + 1) - 1 = 2 ^ k * (2 * m) + (2 ^ k - 1) := by
    rw [Nat.mul_add, Nat.mul_one]; omega
  rw [e, Nat.testBit_two_pow_mul_add (2 * m) (b := 2 ^ k - 1) (i := k) (by omega) i]
  by_cases h1 : i < k
  · simp [h1, Nat.testBit_two_pow_sub_one]
  · rw [if_neg h1]
    by_cases h2 : k = i
    · subst h2; simp [Nat.testBit_zero]
    · have h3 : k < i := by omega
      obtain ⟨j, rfl⟩ : ∃ j, i = k + 1 + j := ⟨i - k - 1, by omega⟩
      have e1 : k + 1 + j - k = j + 1 := by omega
      have e2 : k + 1 + j - k - 1 = j := by omega
      rw [e1, Nat.testBit_succ]
      have d1 : 2 * m / 2 = m := by omega
      rw [d1]
      simp [h3, h1]
theorem elems_step (S k m : Nat) (hS : S = 2 ^ k * (2 * m + 1)) (hk : k < 64) : elems S = k :: elems (S &&& (S - 1)) ∧ S &&& (S - 1) < S := by
  have h1 := low_bit k m
  have h2 := low_bit_pred k m
  rw [← hS] at h1 h2
  refine ⟨filter_first _ _ 64 k hk ?_ ?_ ?_, ?_⟩
  · rw [h1]; simp
  · intro i hi
    rw [h1]
    have a : ¬ k = i := by omega
    have b : ¬ k < i := by omega
    simp [a, b]
  · intro i
    rw [Nat.testBit_and, h1, h2]
    by_cases e : k = i
    · subst e; simp
    · have e' : i ≠ k := fun h => e h.symm
      by_cases h3 : k < i
      · have h4 : ¬ i < k := by omega
        simp [e, e', h3, h4]
      · simp [e, h3]
  · have hle : S &&& (S - 1) ≤ S - 1 := Nat.and_le_right
    have hp := Nat.two_pow_pos k
    have : 0 < S := by rw [hS]; exact Nat.mul_pos hp (by omega)
    omega
theorem elems_zero : elems 0 = [] := by
  unfold elems
  rw [List.filter_eq_nil_iff]
  intro a _
  simp
theorem mem_elems (S i : Nat) : i ∈ elems S ↔ i < 64 ∧ S.testBit i = true := by
  unfold elems; simp [List.mem_filter]
/-- The bit of an element, set. -/
theorem testBit_with (S x i : Nat) : (S ||| 2 ^ x).testBit i = (S.testBit i || decide (x = i)) := by
  rw [Nat.testBit_or, Nat.testBit_two_pow]
theorem with_lt (S x n : Nat) (hS : S < 2 ^ n) (hx : x < n) : S ||| 2 ^ x < 2 ^ n :=
  Nat.or_lt_two_pow hS (Nat.pow_lt_pow_right (by decide) hx)
theorem testBit_below (n i : Nat) : (2 ^ n - 1).testBit i = decide (i < n) := Nat.testBit_two_pow_sub_one n i
/-- Two numbers below 2^64 with the same elements are one. -/
theorem eq_of_elems (S T : Nat) (hS : S < 2 ^ 64) (hT : T < 2 ^ 64) (h : ∀ i, i < 64 → S.testBit i = T.testBit i) : S = T := by
  apply Nat.eq_of_testBit_eq
  intro i
  by_cases hi : i < 64
  · exact h i hi
  · have a : S.testBit i = false := Nat.testBit_lt_two_pow (Nat.lt_of_lt_of_le hS (Nat.pow_le_pow_right (by decide) (by omega)))
    have b : T.testBit i = false := Nat.testBit_lt_two_pow (Nat.lt_of_lt_of_le hT (Nat.pow_le_pow_right (by decide) (by omega)))
    rw [a, b]
end Go.Proofs.YtmfbcnigefjgpaaDoor
namespace Go.Proofs.YtmfbcnigefjgpaaDoor
def m0 : Nat := 0x5555555555555555
def m1 : Nat := 0x3333333333333333
def m2 : Nat := 0x0f0f0f0f0f0f0f0f
def s1 (x : Nat) : Nat := ((x >>> 1) &&& m0) + (x &&& m0)
def s2 (x : Nat) : Nat := ((x >>> 2) &&& m1) + (x &&& m1)
def s3 (x : Nat) : Nat := ((x >>> 4) + x) &&& m2
def s4 (x : Nat) : Nat := (x + x >>> 8) % 18446744073709551616
def s5 (x : Nat) : Nat := (x + x >>> 16) % 18446744073709551616
def s6 (x : Nat) : Nat := (x + x >>> 32) % 18446744073709551616
def swar (x : Nat) : Nat := s6 (s5 (s4 (s3 (s2 (s1 x))))) &&& 127
/-- and, digit by digit. -/
theorem land_digit (k a b A B : Nat) (ha : a < 2 ^ k) (hb : b < 2 ^ k) : (2 ^ k * A + a) &&& (2 ^ k * B + b) = 2 ^ k * (A &&& B) + (a &&& b) := by
  apply Nat.eq_of_testBit_eq
  intro i
  rw [Nat.testBit_and, Nat.testBit_two_pow_mul_add _ ha, Nat.testBit_two_pow_mul_add _ hb, Nat.testBit_two_pow_mul_add _ (Nat.and_lt_two_pow _ hb)]
  split
  · rw [Nat.testBit_and]
  · rw [Nat.testBit_and]
/-- The masks of n bytes, all of one make. -/
def mask (c : Nat) : Nat → Nat
  | 0 => 0
  | n + 1 => 256 * mask c n + c
theorem mask_succ (c n : Nat) : mask c (n + 1) = 256 * mask c n + c := rfl
def t1 (n x : Nat) : Nat := ((x / 2) &&& mask 0x55 n) + (x &&& mask 0x55 n)
def t2 (n x : Nat) : Nat := ((x / 4) &&& mask 0x33 n) + (x &&& mask 0x33 n)
def t3 (n x : Nat) : Nat := ((x / 16) + x) &&& mask 0x0f n
theorem b1 : ∀ b, b < 256 → ∀ t, t < 2 → ((b / 2 + 128 * t) &&& 0x55) = ((b / 2) &&& 0x55) := by decide +kernel
theorem b2 : ∀ b, b < 256 → ∀ t, t < 4 → ((b / 4 + 64 * t) &&& 0x33) = ((b / 4) &&& 0x33) := by decide +kernel
theorem t1_digit (n b X : Nat) (hb : b < 256) : t1 (n + 1) (256 * X + b) = 256 * t1 n X + (((b / 2) &&& 0x55) + (b &&& 0x55)) := by
  unfold t1
  rw [mask_succ]
  have e1 : (256 * X + b) / 2 = 256 * (X / 2) + (b / 2 + 128 * (X % 2)) := by omega
  have h1 := land_digit 8 (b / 2 + 128 * (X % 2)) 0x55 (X / 2) (mask 0x55 n) (by omega) (by decide)
  have h2 := land_digit 8 b 0x55 X (mask 0x55 n) hb (by decide)
  simp only [Nat.reducePow] at h1 h2
  rw [e1, h1, h2, b1 b hb (X % 2) (by omega)]
  omega
theorem t2_digit (n b X : Nat) (hb : b < 256) : t2 (n + 1) (256 * X + b) = 256 * t2 n X + (((b / 4) &&& 0x33) + (b &&& 0x33)) := by
  unfold t2
  rw [mask_succ]
  have e1 : (256 * X + b) / 4 = 256 * (X / 4) + (b / 4 + 64 * (X % 4)) := by omega
  have h1 := land_digit 8 (b / 4 + 64 * (X % 4)) 0x33 (X / 4) (mask 0x33 n) (by omega) (by decide)
  have h2 := land_digit 8 b 0x33 X (mask 0x33 n) hb (by decide)
  simp only [Nat.reducePow] at h1 h2
  rw [e1, h1, h2, b2 b hb (X % 4) (by omega)]
  omega
theorem b3 : ∀ b, b < 256 → ∀ t, t < 16 → b / 16 + b + 16 * t < 256 → ((b / 16 + b + 16 * t) &&& 0x0f) = ((b / 16 + b) &&& 0x0f) := by decide +kernel
theorem t3_digit (n b X : Nat) (hb : b < 256) (hs : b / 16 + b + 16 * (X % 16) < 256) : t3 (n + 1) (256 * X + b) = 256 * t3 n X + ((b / 16 + b) &&& 0x0f) := by
  unfold t3
  rw [mask_succ]
  have e1 : (256 * X + b) / 16 + (256 * X + b) = 256 * (X / 16 + X) + (b / 16 + b + 16 * (X % 16)) := by omega
  have h1 := land_digit 8 (b / 16 + b + 16 * (X % 16)) 0x0f (X / 16 + X) (mask 0x0f n) hs (by decide)
  simp only [Nat.reducePow] at h1
  rw [e1, h1, b3 b hb (X % 16) (by omega) hs]
/-- The bits of a byte. -/
def byteCount (b : Nat) : Nat := ((List.range 8).filter b.testBit).length
def c1 (b : Nat) : Nat := ((b / 2) &&& 0x55) + (b &&& 0x55)
def c2 (b : Nat) : Nat := ((b / 4) &&& 0x33) + (b &&& 0x33)
def c3 (b : Nat) : Nat := (b / 16 + b) &&& 0x0f
theorem byte_ok : ∀ b, b < 256 → c1 b < 256 ∧ c2 (c1 b) < 256 ∧ c2 (c1 b) / 16 + c2 (c1 b) ≤ 80 ∧ c2 (c1 b) % 16 ≤ 4 ∧ c3 (c2 (c1 b)) = byteCount b ∧ byteCount b ≤ 8 := by decide +kernel
/-- The digits to the base 256, lowest first. -/
def ofBytes : List Nat → Nat
  | [] => 0
  | b :: l => 256 * ofBytes l + b
theorem t123 : ∀ (l : List Nat), (∀ b ∈ l, b < 256) → t2 l.length (t1 l.length (ofBytes l)) = ofBytes (l.map fun b => c2 (c1 b)) ∧ t3 l.length (t2 l.length (t1 l.length (ofBytes l))) = ofBytes (l.map byteCount)
  | [], _ => by decide
  | b :: l, h => by
    obtain ⟨i1, i2⟩ := t123 l (fun x hx => h x (List.mem_cons_of_mem _ hx))
    obtain ⟨k1, k2, k3, k4, k5, k6⟩ := byte_ok b (h b List.mem_cons_self)
    have e1 : t1 (l.length + 1) (256 * ofBytes l + b) = 256 * t1 l.length (ofBytes l) + c1 b := t1_digit _ _ _ (h b List.mem_cons_self)
    have e2 : t2 (l.length + 1) (256 * t1 l.length (ofBytes l) + c1 b) = 256 * t2 l.length (t1 l.length (ofBytes l)) + c2 (c1 b) := t2_digit _ _ _ k1
    have hm : t2 l.length (t1 l.length (ofBytes l)) % 16 ≤ 4 := by
      rw [i1]
      cases l with
      | nil => decide
      | cons d r =>
        have := (byte_ok d (h d (by simp))).2.2.2.1
        simp only [List.map_cons, ofBytes]
        omega
    have e3 : t3 (l.length + 1) (256 * t2 l.length (t1 l.length (ofBytes l)) + c2 (c1 b)) = 256 * t3 l.length (t2 l.length (t1 l.length (ofBytes l))) + c3 (c2 (c1 b)) := t3_digit _ _ _ k2 (by omega)
    simp only [List.length_cons, ofBytes, List.map_cons]
    refine ⟨by rw [e1, e2, i1], ?_⟩
    rw [e1, e2, e3, i2, k5]
theorem masks : mask 0x55 8 = m0 ∧ mask 0x33 8 = m1 ∧ mask 0x0f 8 = m2 := by decide
def digits (a b c d e f g h : Nat) : Nat := a + 256 * b + 65536 * c + 16777216 * d + 4294967296 * e + 1099511627776 * f + 281474976710656 * g + 72057594037927936 * h
theorem s4_digits (a b c d e f g h : Nat) (ha : a ≤ 40) (hb : b ≤ 40) (hc : c ≤ 40) (hd : d ≤ 40) (he : e ≤ 40) (hf : f ≤ 40) (hg : g ≤ 40) (hh : h ≤ 40) :
    s4 (digits a b c d e f g h) = digits (a + b) (b + c) (c + d) (d + e) (e + f) (f + g) (g + h) h := by
  have q : (digits a b c d e f g h) >>> 8 = digits b c d e f g h 0 := by
    rw [Nat.shiftRight_eq_div_pow]; unfold digits; omega
  unfold s4
  rw [q]
  unfold digits
  omega
theorem s5_digits (a b c d e f g h : Nat) (ha : a ≤ 40) (hb : b ≤ 40) (hc : c ≤ 40) (hd : d ≤ 40) (he : e ≤ 40) (hf : f ≤ 40) (hg : g ≤ 40) (hh : h ≤ 40) :
    s5 (digits a b c d e f g h) = digits (a + c) (b + d) (c + e) (d + f) (e + g) (f + h) g h := by
  have q : (digits a b c d e f g h) >>> 16 = digits c d e f g h 0 0 := by
    rw [Nat.shiftRight_eq_div_pow]; unfold digits; omega
  unfold s5
  rw [q]
  unfold digits
  omega
theorem s6_digits (a b c d e f g h : Nat) (ha : a ≤ 40) (hb : b ≤ 40) (hc : c ≤ 40) (hd : d ≤ 40) (he : e ≤ 40) (hf : f ≤ 40) (hg : g ≤ 40) (hh : h ≤ 40) :
    s6 (digits a b c d e f g h) = digits (a + e) (b + f) (c + g) (d + h) e f g h := by
  have q : (digits a b c d e f g h) >>> 32 = digits e f g h 0 0 0 0 := by
    rw [Nat.shiftRight_eq_div_pow]; unfold digits; omega
  unfold s6
  rw [q]
  unfold digits
  omega
theorem swar_bytes (a b c d e f g h : Nat) (ha : a < 256) (hb : b < 256) (hc : c < 256) (hd : d < 256) (he : e < 256) (hf : f < 256) (hg : g < 256) (hh : h < 256) :
    swar (ofBytes [a, b, c, d, e, f, g, h]) = byteCount a + byteCount b + byteCount c + byteCount d + byteCount e + byteCount f + byteCount g + byteCount h := by
  have ht := (t123 [a, b, c, d, e, f, g, h] (by simp; omega)).2
  simp only [List.length_cons, List.length_nil, Nat.reduceAdd] at ht
  have e1 : ∀ x, s1 x = t1 8 x := fun x => by unfold s1 t1; rw [masks.1, Nat.shiftRight_eq_div_pow]
  have e2 : ∀ x, s2 x = t2 8 x := fun x => by unfold s2 t2; rw [masks.2.1, Nat.shiftRight_eq_div_pow]
  have e3 : ∀ x, s3 x = t3 8 x := fun x => by unfold s3 t3; rw [masks.2.2, Nat.shiftRight_eq_div_pow]
  unfold swar
  rw [e1, e2, e3, ht]
  have := (byte_ok a ha).2.2.2.2.2; have := (byte_ok b hb).2.2.2.2.2; have := (byte_ok c hc).2.2.2.2.2; have := (byte_ok d hd).2.2.2.2.2
  have := (byte_ok e he).2.2.2.2.2; have := (byte_ok f hf).2.2.2.2.2; have := (byte_ok g hg).2.2.2.2.2; have := (byte_ok h hh).2.2.2.2.2
  simp only [List.map_cons, List.map_nil, ofBytes]
  generalize byteCount a = a at *; generalize byteCount b = b at *; generalize byteCount c = c at *; generalize byteCount d = d at *
  generalize byteCount e = e at *; generalize byteCount f = f at *; generalize byteCount g = g at *; generalize byteCount h = h at *
  have h127 : ∀ x, x &&& 127 = x % 128 := fun x => Nat.and_two_pow_sub_one_eq_mod x 7
  rw [h127]
  rw [show 256 * (256 * (256 * (256 * (256 * (256 * (256 * (256 * 0 + h) + g) + f) + e) + d) + c) + b) + a = digits a b c d e f g h from by unfold digits; omega]
  rw [s4_digits a b c d e f g h (by omega) (by omega) (by omega) (by omega) (by omega) (by omega) (by omega) (by omega)]
  rw [s5_digits _ _ _ _ _ _ _ _ (by omega) (by omega) (by omega) (by omega) (by omega) (by omega) (by omega) (by omega)]
  rw [s6_digits _ _ _ _ _ _ _ _ (by omega) (by omega) (by omega) (by omega) (by omega) (by omega) (by omega) (by omega)]
  unfold digits
  omega
theorem chunk (x k : Nat) : ((List.range 8).map (fun i => 8 * k + i) |>.filter x.testBit).length = byteCount (x / 2 ^ (8 * k) % 256) := by
  unfold byteCount
  rw [List.filter_map, List.length_map]
  congr 1
  apply List.filter_congr
  intro i hi
  have hi := List.mem_range.1 hi
  have h := Nat.testBit_mod_two_pow (x / 2 ^ (8 * k)) 8 i
  simp only [Nat.reducePow] at h
  rw [h, Nat.testBit_div_two_pow]
  simp [hi, Nat.add_comm]
theorem range64 : List.range 64 = (List.range 8).map (fun i => 8 * 0 + i) ++ (List.range 8).map (fun i => 8 * 1 + i) ++ (List.range 8).map (fun i => 8 * 2 + i) ++ (List.range 8).map (fun i => 8 * 3 + i) ++
    (List.range 8).map (fun i => 8 * 4 + i) ++ (List.range 8).map (fun i => 8 * 5 + i) ++ (List.range 8).map (fun i => 8 * 6 + i) ++ (List.range 8).map (fun i => 8 * 7 + i) := by decide
theorem swar_eq (x : Nat) (hx : x < 18446744073709551616) : swar x = (elems x).length := by
  have hb : x = ofBytes [x / 2 ^ (8 * 0) % 256, x / 2 ^ (8 * 1) % 256, x / 2 ^ (8 * 2) % 256, x / 2 ^ (8 * 3) % 256, x / 2 ^ (8 * 4) % 256, x / 2 ^ (8 * 5) % 256, x / 2 ^ (8 * 6) % 256, x / 2 ^ (8 * 7) % 256] := by
    simp only [ofBytes, Nat.reducePow, Nat.reduceMul]; omega
  conv => lhs; rw [hb]
  rw [swar_bytes _ _ _ _ _ _ _ _ (by omega) (by omega) (by omega) (by omega) (by omega) (by omega) (by omega) (by omega)]
  unfold elems
  rw [range64]
  simp only [List.filter_append, List.length_append, chunk]
end Go.Proofs.YtmfbcnigefjgpaaDoor
namespace Go.Proofs.YtmfbcnigefjgpaaDoor
open Go.RowKit
theorem wrap_u64n (n : Nat) (h : n < 18446744073709551616) : IntKind.u64.wrap (n : Int) = (n : Int) := by
  have : IntKind.u64.wrap (n : Int) = (n : Int) % 18446744073709551616 := by simp [IntKind.wrap, IntKind.signed, IntKind.bits]
  rw [this]; omega
theorem bits_and_n (a b : Nat) (ha : a < 2 ^ 64) (hb : b < 2 ^ 64) : bits .and .u64 (a : Int) (b : Int) = ((a &&& b : Nat) : Int) := by
  have h1 : (BitVec.ofInt 64 (a : Int)).toNat = a := by rw [BitVec.ofInt_natCast, BitVec.toNat_ofNat]; exact Nat.mod_eq_of_lt ha
  have h2 : (BitVec.ofInt 64 (b : Int)).toNat = b := by rw [BitVec.ofInt_natCast, BitVec.toNat_ofNat]; exact Nat.mod_eq_of_lt hb
  show IntKind.u64.wrap ((BitVec.ofInt 64 (a : Int) &&& BitVec.ofInt 64 (b : Int)).toNat : Int) = _
  rw [BitVec.toNat_and, h1, h2, wrap_u64n _ (Nat.and_lt_two_pow _ hb)]
theorem bits_or_n (a b : Nat) (ha : a < 2 ^ 64) (hb : b < 2 ^ 64) : bits .or .u64 (a : Int) (b : Int) = ((a ||| b : Nat) : Int) := by
  have h1 : (BitVec.ofInt 64 (a : Int)).toNat = a := by rw [BitVec.ofInt_natCast, BitVec.toNat_ofNat]; exact Nat.mod_eq_of_lt ha
  have h2 : (BitVec.ofInt 64 (b : Int)).toNat = b := by rw [BitVec.ofInt_natCast, BitVec.toNat_ofNat]; exact Nat.mod_eq_of_lt hb
  show IntKind.u64.wrap ((BitVec.ofInt 64 (a : Int) ||| BitVec.ofInt 64 (b : Int)).toNat : Int) = _
  rw [BitVec.toNat_or, h1, h2, wrap_u64n _ (Nat.or_lt_two_pow ha hb)]
theorem pow_cast (n : Nat) : ((2 : Int) ^ n) = ((2 ^ n : Nat) : Int) := by simp
theorem pow_lt64 (n : Nat) (h : n < 64) : 2 ^ n < 18446744073709551616 := Nat.pow_lt_pow_right (a := 2) (n := 64) (by decide) h
set_option maxHeartbeats 400000 in
theorem Below_any (n : Nat) (w : World) (hn : n ≤ 60) :
    Calls Tryd.prog 41 #[.int .i64 n] w fun e w' => e = .returned (.int .u64 ((2 ^ n - 1 : Nat) : Int)) ∧ w = w' := by
  go_enter Tryd.func41, Tryd.ntmps41
  go_wp2
  go_ret
  have h1 := pow_lt64 n (by omega)
  have h0 := Nat.two_pow_pos n
  refine ⟨ret_int ?_, rfl⟩
  rw [pow_cast, wrap_u64n _ h1]
  have e : ((2 ^ n : Nat) : Int) - 1 = ((2 ^ n - 1 : Nat) : Int) := by omega
  rw [e, wrap_u64n _ (by omega)]
set_option maxHeartbeats 400000 in
theorem With_any (S x : Nat) (w : World) (hS : S < 2 ^ 64) (hx : x < 64) :
    Calls Tryd.prog 57 #[.int .u64 S, .int .i64 x] w fun e w' => e = .returned (.int .u64 ((S ||| 2 ^ x : Nat) : Int)) ∧ w = w' := by
  go_enter Tryd.func57, Tryd.ntmps57
  go_wp2
  go_ret
  have h1 := pow_lt64 x hx
  refine ⟨ret_int ?_, rfl⟩
  rw [pow_cast, wrap_u64n _ h1, bits_or_n _ _ hS (by omega)]
end Go.Proofs.YtmfbcnigefjgpaaDoor
namespace Go.Proofs.YtmfbcnigefjgpaaDoor
open Go.RowKit
theorem s12_fact (S c m k : Nat) (hS : S < 18446744073709551616) (hm : m < 18446744073709551616) (hk : k = ((S / c) &&& m) + (S &&& m)) (hlt : k < 18446744073709551616) :
    IntKind.u64.wrap (bits .and .u64 ((S : Int) / (c : Int)) (m : Int) + bits .and .u64 (S : Int) (m : Int)) = (k : Int) := by
  have hd : (S : Int) / (c : Int) = ((S / c : Nat) : Int) := by simp
  have hlt2 : S / c < 2 ^ 64 := Nat.lt_of_le_of_lt (Nat.div_le_self _ _) hS
  rw [hd, bits_and_n _ m hlt2 hm, bits_and_n _ m hS hm, hk]
  have e : (((S / c &&& m : Nat) : Int) + ((S &&& m : Nat) : Int)) = (((S / c &&& m) + (S &&& m) : Nat) : Int) := by simp
  rw [e, wrap_u64n _ (by rw [← hk]; exact hlt)]
theorem s3_fact (S m k : Nat) (hS : S / 16 + S < 18446744073709551616) (hm : m < 18446744073709551616) (hk : k = (S / 16 + S) &&& m) :
    bits .and .u64 (IntKind.u64.wrap ((S : Int) / 16 + (S : Int))) (m : Int) = (k : Int) := by
  have hd : (S : Int) / 16 + (S : Int) = ((S / 16 + S : Nat) : Int) := by simp
  rw [hd, wrap_u64n _ hS, bits_and_n _ m hS hm, hk]
theorem s4_fact (S c k : Nat) (hk : k = (S + S / c) % 18446744073709551616) :
    IntKind.u64.wrap ((S : Int) + (S : Int) / (c : Int)) = (k : Int) := by
  have hd : (S : Int) + (S : Int) / (c : Int) = ((S + S / c : Nat) : Int) := by simp
  have e0 : ∀ n : Int, IntKind.u64.wrap n = n % 18446744073709551616 := fun n => by simp [IntKind.wrap, IntKind.signed, IntKind.bits]
  rw [hd, e0, hk]; simp
theorem and_low (a : Nat) (ha : a < 18446744073709551616) : bits .and .i64 (wrap64 (a : Int)) 127 = ((a &&& 127 : Nat) : Int) := by
  have h1 : (BitVec.ofInt 64 (wrap64 (a : Int))).toNat = a := by
    rw [BitVec.toNat_ofInt]
    unfold wrap64
    omega
  have h2 : (BitVec.ofInt 64 127).toNat = 127 := by decide
  show IntKind.i64.wrap ((BitVec.ofInt 64 (wrap64 (a : Int)) &&& BitVec.ofInt 64 127).toNat : Int) = _
  rw [BitVec.toNat_and, h1, h2]
  have h3 : a &&& 127 ≤ 127 := Nat.and_le_right
  rw [IntKind.wrap_i64]
  omega
/-- Each sum of two halves of a mask fits. -/
theorem s_lt (a b m : Nat) (hm : m ≤ 6148914691236517205) : (a &&& m) + (b &&& m) < 18446744073709551616 := by
  have h1 : a &&& m ≤ m := Nat.and_le_right
  have h2 : b &&& m ≤ m := Nat.and_le_right
  omega
set_option maxHeartbeats 400000 in
theorem OnesCount64_any (S : Nat) (w : World) (hS : S < 18446744073709551616) :
    Calls Tryd.prog 55 #[.int .u64 S] w fun e w' => e = .returned (.int .i64 ((elems S).length : Nat)) ∧ w = w' := by
  obtain ⟨a1, H1⟩ : ∃ a, Hid (a = s1 S) := ⟨_, rfl⟩
  obtain ⟨a2, H2⟩ : ∃ a, Hid (a = s2 a1) := ⟨_, rfl⟩
  obtain ⟨a3, H3⟩ : ∃ a, Hid (a = s3 a2) := ⟨_, rfl⟩
  obtain ⟨a4, H4⟩ : ∃ a, Hid (a = s4 a3) := ⟨_, rfl⟩
  obtain ⟨a5, H5⟩ : ∃ a, Hid (a = s5 a4) := ⟨_, rfl⟩
  obtain ⟨a6, H6⟩ : ∃ a, Hid (a = s6 a5) := ⟨_, rfl⟩
  have hsw : Hid (a6 &&& 127 = (elems S).length) := by
    have := swar_eq S hS
    unfold swar at this
    rw [← H1.out, ← H2.out, ← H3.out, ← H4.out, ← H5.out, ← H6.out] at this
    exact this
  have f1 : IntKind.u64.wrap (bits .and .u64 ((S : Int) / 2) 6148914691236517205 + bits .and .u64 (S : Int) 6148914691236517205) = (a1 : Int) :=
    s12_fact S 2 6148914691236517205 a1 hS (by decide) (by rw [H1.out]; unfold s1 m0; rw [Nat.shiftRight_eq_div_pow]) (by rw [H1.out]; exact s_lt _ _ _ (by decide))
  have l1 : a1 < 18446744073709551616 := by rw [H1.out]; exact s_lt _ _ _ (by decide)
  have f2 : IntKind.u64.wrap (bits .and .u64 ((a1 : Int) / 4) 3689348814741910323 + bits .and .u64 (a1 : Int) 3689348814741910323) = (a2 : Int) :=
    s12_fact a1 4 3689348814741910323 a2 l1 (by decide) (by rw [H2.out]; unfold s2 m1; rw [Nat.shiftRight_eq_div_pow]) (by rw [H2.out]; exact s_lt _ _ _ (by decide))
  have l2 : a2 / 16 + a2 < 18446744073709551616 := by
    have h1 : (a1 >>> 2) &&& m1 ≤ m1 := Nat.and_le_right
    have h2 : a1 &&& m1 ≤ m1 := Nat.and_le_right
    have h3 : a2 ≤ m1 + m1 := by rw [H2.out]; unfold s2; omega
    unfold m1 at h3; omega
  have f3 : bits .and .u64 (IntKind.u64.wrap ((a2 : Int) / 16 + (a2 : Int))) 1085102592571150095 = (a3 : Int) :=
    s3_fact a2 1085102592571150095 a3 l2 (by decide) (by rw [H3.out]; unfold s3 m2; rw [Nat.shiftRight_eq_div_pow])
  have f4 : IntKind.u64.wrap ((a3 : Int) + (a3 : Int) / 256) = (a4 : Int) := s4_fact a3 256 a4 (by rw [H4.out]; unfold s4; rw [Nat.shiftRight_eq_div_pow])
  have f5 : IntKind.u64.wrap ((a4 : Int) + (a4 : Int) / 65536) = (a5 : Int) := s4_fact a4 65536 a5 (by rw [H5.out]; unfold s5; rw [Nat.shiftRight_eq_div_pow])
  have f6 : IntKind.u64.wrap ((a5 : Int) + (a5 : Int) / 4294967296) = (a6 : Int) := s4_fact a5 4294967296 a6 (by rw [H6.out]; unfold s6; rw [Nat.shiftRight_eq_div_pow])
  clear l1 l2 hS
  go_enter Tryd.func55, Tryd.ntmps55
  go_wp2
  go_ret
  refine ⟨ret_int (k := .i64) (a := bits .and .i64 (wrap64 (a6 : Int)) 127) ?_, rfl⟩
  rw [and_low a6 (by rw [H6.out]; unfold s6; omega), hsw.out]
/-- The table of the library's, in its variable. -/
def Tab (w : World) : Prop := ∀ j, j < 64 → w.cell? ⟨0, j, none⟩ = some (.int .u8 (Lib.deBruijn64tab.getD j 0))
theorem tz_key (x a : Nat) (hx : x < 18446744073709551616) (hx0 : x ≠ 0) (hlow : x &&& (18446744073709551616 - x) = a) :
    IntKind.u64.wrap (bits BinOp.and IntKind.u64 (x : Int) (IntKind.u64.wrap (-(x : Int))) * 285870213051353865) / 288230376151711744 = ((a * 285870213051353865 % 18446744073709551616 / 288230376151711744 : Nat) : Int) := by
  have e0 : ∀ n : Int, IntKind.u64.wrap n = n % 18446744073709551616 := fun n => by simp [IntKind.wrap, IntKind.signed, IntKind.bits]
  have e1 : IntKind.u64.wrap (-(x : Int)) = ((18446744073709551616 - x : Nat) : Int) := by rw [e0]; omega
  rw [e1, bits_and_n x _ hx (by show _ < 18446744073709551616; omega), hlow, e0]
  omega
set_option maxHeartbeats 1000000 in
theorem tz_core (x k idx : Nat) (w : World) (hx0 : ((x : Int) == 0) = false)
    (key : IntKind.u64.wrap (bits BinOp.and IntKind.u64 (x : Int) (IntKind.u64.wrap (-(x : Int))) * 285870213051353865) / 288230376151711744 = (idx : Int))
    (hi : idx < 64) (hk : k < 64) (hcell : w.cell? ⟨0, idx, none⟩ = some (.int .u8 k)) :
    Calls Tryd.prog 63 #[.int .u64 x] w fun e w' => e = .returned (.int .i64 k) ∧ w = w' := by
  go_enter Tryd.func63, Tryd.ntmps63
  go_wp2_with (simp only [key])
  go_ret
  exact ⟨rfl, rfl⟩
theorem TrailingZeros64_any (x : Nat) (hx : x < 18446744073709551616) (h0 : x ≠ 0) (w : World) (hT : Tab w) :
    Calls Tryd.prog 63 #[.int .u64 x] w fun e w' => e = .returned (.int .i64 (Lib.ctz 64 x)) ∧ w = w' := by
  obtain ⟨hlow, hk⟩ := Lib.lowest_bit 64 x h0 hx
  obtain ⟨hi, htab⟩ := Lib.deBruijn64_at _ hk
  have hcell := hT _ hi
  rw [htab] at hcell
  exact tz_core x _ _ w (by simp; omega) (tz_key x _ hx h0 hlow) hi hk hcell
theorem Tab.below {w w' : World} {B : Nat} (h : Tab w) (hb : Below B w w') (hB : 0 < B) : Tab w' :=
  fun j hj => (hb.cell (p := ⟨0, j, none⟩) hB).trans (h j hj)
theorem Tab.lt {w : World} (h : Tab w) : 0 < w.heap.size := World.block_lt_of_cell? _ _ (h 0 (by decide))
theorem Tab.on {w w' : World} (h : Tab w) (hb : Below w.heap.size w w') : Tab w' := h.below hb h.lt
set_option maxHeartbeats 400000 in
theorem Size_any (S : Nat) (w : World) (hS : S < 18446744073709551616) :
    Calls Tryd.prog 42 #[.int .u64 S] w fun e w' => e = .returned (.int .i64 ((elems S).length : Nat)) ∧ w = w' := by
  go_enter Tryd.func42, Tryd.ntmps42
  go_wp2_with (go_at_call 55; refine (OnesCount64_any S _ hS).mono ?_; rintro e w' ⟨rfl, rfl⟩)
  go_ret
  exact ⟨rfl, rfl⟩
/-- The set of a list. -/
def ofList (l : List Int) : Nat := l.foldl (fun S x => S ||| 2 ^ x.toNat) 0
theorem foldl_or_lt (n : Nat) (hn : n ≤ 64) : ∀ (l : List Int) (S : Nat), S < 2 ^ n → (∀ x ∈ l, 0 ≤ x ∧ x < n) → l.foldl (fun S x => S ||| 2 ^ x.toNat) S < 2 ^ n
  | [], S, hS, _ => hS
  | x :: l, S, hS, h => foldl_or_lt n hn l _ (with_lt S _ n hS (by have := h x (by simp); omega)) (fun y hy => h y (List.mem_cons_of_mem _ hy))
theorem ofList_lt (n : Nat) (hn : n ≤ 64) (l : List Int) (h : ∀ x ∈ l, 0 ≤ x ∧ x < n) : ofList l < 2 ^ n := foldl_or_lt n hn l 0 (Nat.two_pow_pos n) h
end Go.Proofs.YtmfbcnigefjgpaaDoor
namespace Go.Proofs.YtmfbcnigefjgpaaDoor
open Go.RowKit Go.Deep Go.ChangeShapes Go.WideShapes
section
variable {H : Type} {enc : TypeId × Value → H} {W : World} {base : Nat}
theorem weightsAll_mem {P : Program} {e : TypeId} : ∀ {l : List (DataW H)} {d : DataW H}, d ∈ l → ∀ n ∈ d.weights P e, n ∈ DataW.weightsAll P e l
  | [], _, h => by cases h
  | x :: r, d, h => by
    intro n hn
    rw [DataW.weightsAll, List.mem_append]
    rcases List.mem_cons.1 h with rfl | h'
    · exact .inl hn
    · exact .inr (weightsAll_mem h' n hn)
theorem bytes_int : Tryd.prog.bytesOf 3 = 8 := by kernel_rfl
theorem bytes_row : Tryd.prog.bytesOf 25 = 24 := by kernel_rfl
theorem cells_int : Tryd.prog.cellsOf 3 = 1 := by kernel_rfl
theorem cells_row : Tryd.prog.cellsOf 25 = 1 := by kernel_rfl
theorem cells_auto : Tryd.prog.cellsOf 24 = 1 := by kernel_rfl
theorem reach_big {n : Nat} (h : n * 8 ≤ reachBytes) : n ≤ big := by unfold reachBytes at h; unfold big; omega
theorem add_spot {a : Addr} {i : Nat} {v : Value} (h : W.cell? (a.add i) = some v) : a.add i = ⟨a.block, a.off + i, none⟩ := by
  by_cases h0 : i = 0
  · subst h0
    simp only [Addr.add, if_true] at h ⊢
    obtain ⟨b, o, sp⟩ := a
    obtain rfl := cell_spot h
    rfl
  · simp [Addr.add, h0]
theorem row_ints {A : Option Addr} {L C : Nat} {zs : List Int} (hl : L ≤ C) (hz : zs.length = C) (hn : A = none → C = 0) (hc : ∀ a, A = some a → ∀ c, c < C → W.cell? (a.add c) = some (.int .i64 (zs.getD c 0))) (hb : C ≤ big) : Ints W (.slice A L C) (zs.take L) := by
  have hll : (zs.take L).length = L := by simp; omega
  refine ⟨A, C, by rw [hll], by omega, fun i hi => ?_⟩
  rw [hll] at hi
  cases A with
  | none => have := hn rfl; omega
  | some a =>
    have h1 := hc a rfl i (by omega)
    have h2 := add_spot h1
    refine ⟨a.block, a.off, ?_, ?_⟩
    · have h0 := add_spot (hc a rfl 0 (by omega))
      simp only [Addr.add, if_true, Nat.add_zero] at h0
      rw [h0]
    · rw [h2] at h1
      rw [h1]
      congr 2
      simp [List.getD_eq_getElem?_getD, List.getElem?_take, hi]
theorem ints_of_trod {fuel : Nat} {c : Value} {x : DataW H × List MemPlace} (h : DataW.trod enc Tryd.prog W base (fun _ => true) true fuel 25 [c] = some x) (hw : ∀ n ∈ x.1.weights Tryd.prog 25, n ≤ reachBytes) : ∃ l, Ints W c l := by
  rcases open_ints Tryd.underlying25 Tryd.underlying3 cells_int h with ⟨hc, _⟩ | ⟨a, len, cap, zs, hc, _, hl, _, hz, rfl, hcell, _⟩
  · obtain rfl : c = .slice none 0 0 := by simpa using hc
    exact ⟨[], none, 0, rfl, by simp, fun i hi => by simp at hi⟩
  · obtain rfl : c = .slice (some a) len cap := by simpa using hc
    simp only [if_true] at hz
    have hb := hw ((List.length (lits .i64 (zs.take len) : List (DataW H)) + List.length (lits .i64 (zs.drop len) : List (DataW H))) * Tryd.prog.bytesOf 3) (by simp [DataW.weights, Tryd.underlying25])
    rw [bytes_int] at hb
    simp only [lits, List.length_map, List.length_take, List.length_drop] at hb
    refine ⟨zs.take len, row_ints hl hz (fun h => by cases h) (fun a' ha c hc' => ?_) (reach_big (by omega))⟩
    cases ha
    exact hcell c (by omega)
theorem rows_of_trod {fuel : Nat} {c : Value} {x : DataW H × List MemPlace} (h : DataW.trod enc Tryd.prog W base (fun _ => true) true fuel 22 [c] = some x) (hw : ∀ n ∈ x.1.weights Tryd.prog 22, n ≤ reachBytes) : ∃ m, Rows W c m := by
  rcases open_int_rows Tryd.underlying22 Tryd.underlying25 Tryd.underlying3 cells_row cells_int h with ⟨hc, _⟩ | ⟨a, len, cap, A, L, C, Z, hc, _, hl, _, rfl, hr⟩
  · obtain rfl : c = .slice none 0 0 := by simpa using hc
    exact ⟨[], none, 0, rfl, by simp, fun i hi => by simp at hi⟩
  · obtain rfl : c = .slice (some a) len cap := by simpa using hc
    have hlen : ((List.range len).map fun r => (Z r).take (L r)).length = len := by simp
    have hout := hw ((len + (cap - len)) * Tryd.prog.bytesOf 25) (by simp [DataW.weights, Tryd.underlying22])
    rw [bytes_row] at hout
    have hrow : ∀ r, r < len → C r ≤ big := by
      intro r hr'
      obtain ⟨_, hLC, _, hz, _, hn, _⟩ := hr r (by omega)
      cases hA : A r with
      | none => rw [hn hA]; exact Nat.zero_le _
      | some a' =>
        have hm : (intRow .i64 (A r) (L r) (Z r) : DataW H) ∈ (List.range len).map fun r => (intRow .i64 (A r) (L r) (Z r) : DataW H) := List.mem_map.2 ⟨r, by simpa using hr', rfl⟩
        have hb := hw ((List.length (lits .i64 ((Z r).take (L r)) : List (DataW H)) + List.length (lits .i64 ((Z r).drop (L r)) : List (DataW H))) * Tryd.prog.bytesOf 3) (by
          rw [DataW.weights, Tryd.underlying22]
          refine List.mem_cons_of_mem _ (List.mem_append_left _ (weightsAll_mem hm _ ?_))
          simp [intRow, hA, DataW.weights, Tryd.underlying25])
        rw [bytes_int] at hb
        simp only [lits, List.length_map, List.length_take, List.length_drop] at hb
        exact reach_big (by omega)
    refine ⟨(List.range len).map fun r => (Z r).take (L r), some a, cap, by rw [hlen], by rw [hlen]; unfold reachBytes at hout; unfold big; omega, fun i hi => ?_⟩
    rw [hlen] at hi
    obtain ⟨hcell, hLC, _, hz, _, hn, hcc⟩ := hr i (by omega)
    have h2 := add_spot hcell
    have h00 := add_spot (hr 0 (by omega)).1
    simp only [Addr.add, if_true, Nat.add_zero] at h00
    refine ⟨a.block, a.off, .slice (A i) (L i) (C i), by rw [h00], by rw [h2] at hcell; exact hcell, ?_⟩
    have e1 : ((List.range len).map fun r => (Z r).take (L r)).getD i [] = (Z i).take (L i) := by simp [List.getD_eq_getElem?_getD, hi]
    rw [e1]
    exact row_ints hLC hz hn (fun a' ha c hc' => (hcc a' ha).2 c hc') (hrow i hi)
end
end Go.Proofs.YtmfbcnigefjgpaaDoor
namespace Go.Proofs.YtmfbcnigefjgpaaDoor
open Go.RowKit Go.Shelf
/-- A set of blocks. -/
abbrev Blocks := Nat → Prop
/-- Only the blocks of X may have been turned; new ones may have come. -/
structure Turn (X : Blocks) (W W' : World) : Prop where
  os : W'.os = W.os
  tape : W'.tape = W.tape
  output : W'.output = W.output
  size : W.heap.size ≤ W'.heap.size
  block : ∀ k, k < W.heap.size → ¬ X k → W'.heap[k]? = W.heap[k]?
theorem Turn.refl (X : Blocks) (W : World) : Turn X W W := ⟨rfl, rfl, rfl, Nat.le_refl _, fun _ _ _ => rfl⟩
theorem Turn.trans {X Y : Blocks} {A B C : World} (h : Turn X A B) (k : Turn Y B C) (hXY : ∀ i, Y i → X i ∨ A.heap.size ≤ i) : Turn X A C :=
  ⟨k.os.trans h.os, k.tape.trans h.tape, k.output.trans h.output, Nat.le_trans h.size k.size, fun i hi hX => (k.block i (Nat.lt_of_lt_of_le hi h.size) (fun hY => by
    rcases hXY i hY with h1 | h1
    · exact hX h1
    · omega)).trans (h.block i hi hX)⟩
theorem Turn.of_below {X : Blocks} {W W' : World} (h : Below W.heap.size W W') : Turn X W W' := ⟨h.os, h.tape, h.output, h.size, fun k hk _ => h.block k hk⟩
/-- What a round keeps: whatever lies below n₀, and the iterator's own blocks. -/
structure Keep (n₀ : Nat) (X : Blocks) (W W' : World) : Prop where
  os : W'.os = W.os
  tape : W'.tape = W.tape
  output : W'.output = W.output
  size : W.heap.size ≤ W'.heap.size
  block : ∀ k, k < W.heap.size → (k < n₀ ∨ X k) → W'.heap[k]? = W.heap[k]?
theorem Keep.refl (n₀ : Nat) (X : Blocks) (W : World) : Keep n₀ X W W := ⟨rfl, rfl, rfl, Nat.le_refl _, fun _ _ _ => rfl⟩
theorem Keep.trans {n₀ : Nat} {X : Blocks} {A B C : World} (h : Keep n₀ X A B) (k : Keep n₀ X B C) : Keep n₀ X A C :=
  ⟨k.os.trans h.os, k.tape.trans h.tape, k.output.trans h.output, Nat.le_trans h.size k.size, fun i hi hX => (k.block i (Nat.lt_of_lt_of_le hi h.size) hX).trans (h.block i hi hX)⟩
theorem Keep.of_below {n₀ : Nat} {X : Blocks} {W W' : World} (h : Below W.heap.size W W') : Keep n₀ X W W' := ⟨h.os, h.tape, h.output, h.size, fun k hk _ => h.block k hk⟩
theorem Keep.below {n₀ : Nat} {X : Blocks} {W W' : World} (h : Keep n₀ X W W') (hn : n₀ ≤ W.heap.size) : Below n₀ W W' := ⟨h.os, h.tape, h.output, h.size, fun k hk => h.block k (Nat.lt_of_lt_of_le hk hn) (.inl hk)⟩
/-- A step that turns one block at most, which is neither. -/
theorem Keep.of_grownBy {n₀ : Nat} {X : Blocks} {W W' : World} {row : Option Nat} (hg : W.grownBy W' row) (hr : ∀ k, row = some k → n₀ ≤ k ∧ ¬ X k) : Keep n₀ X W W' :=
  ⟨hg.os, hg.tape, hg.output, hg.size, fun k hk hX => hg.block k hk (fun e => by
    obtain ⟨h1, h2⟩ := hr k e.symm
    rcases hX with h | h
    · omega
    · exact h2 h)⟩
/-- The caller's invariant minds neither a turn of the iterator's blocks, nor new ones, nor a turn of a block of book-keeping. -/
def Stable (B : Nat) {β : Type} (I : Blocks → β → World → Prop) : Prop :=
  ∀ X X' s W W', I X s W → W'.os = W.os → W'.tape = W.tape → W'.output = W.output → W.heap.size ≤ W'.heap.size →
    (∀ k o, W.heap[k]? = some o → ¬ X k → (k < B ∨ o.isCells = true) → W'.heap[k]? = some o) → (∀ k, X' k → X k ∨ W.heap.size ≤ k) → I X' s W'
/-- .. as the iterator is told of it. -/
def Minds {β : Type} (J : Blocks → β → World → Prop) : Prop :=
  ∀ X X' s W W', J X s W → Turn X W W' → (∀ k, X' k → X k ∨ W.heap.size ≤ k) → J X' s W'
/-- WHAT AN ITERATOR PROMISES: gf with what comes before and behind yield among its arguments; encs: yield's arguments; n₀: what it reads lies below; G: what holds of an element while its round begins. -/
def SeqX {α : Type} (gf : Nat) (fb lb : Array Value) (encs : α → Array Value) (n₀ : Nat) (G : Blocks → α → World → Prop) (S Sp : List α → Prop) (w0 : World) : Prop :=
  ∀ (l : Nat) (J Jx : Blocks → List α → World → Prop) (W : World), Below w0.heap.size w0 W → Minds J → Minds Jx →
    (∀ X pre x W1, (∀ k, X k → k < W1.heap.size) → J X pre W1 → G X x W1 → Sp (pre ++ [x]) → YieldAt Fence.wide 0 Tryd.prog l (encs x) W1 fun e W' =>
      ((e = .returned (.bool true) ∧ J X (pre ++ [x]) W') ∨ (e = .returned (.bool false) ∧ Jx X (pre ++ [x]) W')) ∧ Keep n₀ X W1 W') →
    J (fun _ => False) [] W →
    Calls Tryd.prog gf ((fb ++ #[.func (.yield l) #[] #[]]) ++ lb) W fun e W' => (∃ v, e = .returned v) ∧ ((∃ X xs, S xs ∧ J X xs W') ∨ (∃ X pre, Sp pre ∧ Jx X pre W'))
/-- How a round may be left. -/
def postX {α : Type} (B n₀ : Nat) (I : Blocks → List α → World → Prop) (Ix : Code → Blocks → List α → World → Prop) (X : Blocks) (xs : List α) (W : World) : Exit → Act → World → Prop
  | .normal, _, W' => KeepsFrom B W W' ∧ Keep n₀ X W W' ∧ I X xs W'
  | .ret, _, W' => KeepsFrom B W W' ∧ Keep n₀ X W W' ∧ Ix .ret X xs W'
  | .exit id, _, W' => KeepsFrom B W W' ∧ Keep n₀ X W W' ∧ Ix (.exit id) X xs W'
  | .goto t, _, W' => KeepsFrom B W W' ∧ Keep n₀ X W W' ∧ Ix (.goto t) X xs W'
  | .panic _, _, _ => False
  | .outgrown, _, _ => False
theorem putObj_book (W : World) (l : Nat) (o' : Obj) : (W.putObj l o').os = W.os ∧ (W.putObj l o').tape = W.tape ∧ (W.putObj l o').output = W.output ∧ W.heap.size ≤ (W.putObj l o').heap.size :=
  ⟨rfl, rfl, rfl, by simp⟩
theorem Stable.put {B : Nat} {β : Type} {I : Blocks → β → World → Prop} (h : Stable B I) {X : Blocks} {s : β} {W : World} {l : Nat} {o : Obj} (o' : Obj) (hs : I X s W) (hB : B ≤ l) (hl : W.heap[l]? = some o) (ho : o.isCells = false) : I X s (W.putObj l o') := by
  obtain ⟨a, b, c, d⟩ := putObj_book W l o'
  refine h X X s W _ hs a b c d (fun k ok hk _ hc => ?_) (fun k hk => .inl hk)
  by_cases e : k = l
  · subst e
    rw [hl] at hk; cases hk
    rcases hc with h1 | h1
    · omega
    · rw [ho] at h1; cases h1
  · exact (World.putObj_heap_other e).trans hk
theorem Stable.new {B : Nat} {β : Type} {I : Blocks → β → World → Prop} (h : Stable B I) {X : Blocks} {s : β} {W : World} (o : Obj) (hs : I X s W) : I X s (W.alloc o) :=
  h X X s W _ hs rfl rfl rfl (by simp) (fun k ok hk _ _ => (Below.heap_alloc W o k (Array.getElem?_eq_some_iff.1 hk).1).trans hk) (fun k hk => .inl hk)
theorem keep_put {n₀ : Nat} {X : Blocks} {W : World} {l : Nat} (o' : Obj) (hn : n₀ ≤ l) (hX : ¬ X l) : Keep n₀ X W (W.putObj l o') := by
  obtain ⟨a, b, c, d⟩ := putObj_book W l o'
  refine ⟨a, b, c, d, fun k hk hc => World.putObj_heap_other (fun e => ?_)⟩
  subst e
  rcases hc with h | h
  · omega
  · exact hX h
/-- THE STATEMENT 'for .. := range f { .. }' over an iterator that keeps its promise. -/
theorem range_law {α : Type} {g : Operand} {ps : Array Tmp} {assign body : Code} {Q : Exit → Act → World → Prop} {a : Act} {w : World} {gf : Nat} {fb lb : Array Value}
    (hg : a.eval g = .func (.func gf) fb lb) (eg : ∀ args w, (callFunc gf args).run Tryd.prog w = .ok (.enter gf args) w)
    {encs : α → Array Value} {n₀ : Nat} {G : Blocks → α → World → Prop} {S Sp : List α → Prop} {w0 : World} (hseq : SeqX gf fb lb encs n₀ G S Sp w0)
    (hG : ∀ X x W W', G X x W → Keep n₀ X W W' → G X x W') (hn : n₀ ≤ w.heap.size) (hb0 : Below w0.heap.size w0 w) (hps : ∀ x, (encs x).size = ps.size)
    (I : Blocks → List α → World → Prop) (Ix : Code → Blocks → List α → World → Prop) (hI : Stable w.heap.size I) (hIx : ∀ c, Stable w.heap.size (Ix c)) (h0 : I (fun _ => False) [] w)
    (Ax : α → Act → World → Prop) (hAx : ∀ x a', Stable w.heap.size (fun _ (_ : Unit) W => Ax x a' W))
    (hassign : ∀ (l : Nat) (X : Blocks) (pre : List α) (x : α) (W : World) (K : Act → World → Prop), I X pre W → (∀ a' W', KeepsFrom w.heap.size W W' → Keep n₀ X W W' → I X pre W' → Ax x a' W' → K a' W') →
      assign.wpIn (Fence.wide.inRound l) 0 Tryd.prog (Exit.then K (fun _ _ _ => False)) { tmps := (ps.zip (encs x)).foldl (fun t (p, v) => t.setIfInBounds p v) a.tmps, defers := [] } W)
    (hbody : ∀ (l : Nat) (X : Blocks) (pre : List α) (x : α) (a' : Act) (W : World), w.heap.size ≤ l → (∃ r, W.heap[l]? = some (.loop r)) → ¬ X l → (∀ k, X k → k < W.heap.size) → I X pre W → G X x W → Ax x a' W → Sp (pre ++ [x]) →
      body.wpIn (Fence.wide.inRound l) 0 Tryd.prog (postX w.heap.size n₀ I Ix X (pre ++ [x]) W) a' W)
    (hdone : ∀ (D : Nat) (X : Blocks) (xs : List α) (W : World), w.heap.size ≤ D → S xs → I X xs W → W.heap[D]? = some (.deferred (some [])) → Q .normal { a with defers := { target := .collected D, args := #[] } :: a.defers } W)
    (hstop : ∀ (D : Nat) (X : Blocks) (c : Code) (pre : List α) (W : World), w.heap.size ≤ D → Sp pre → Ix c X pre W → W.heap[D]? = some (.deferred (some [])) → c.wpIn Fence.wide 0 Tryd.prog Q { a with defers := { target := .collected D, args := #[] } :: a.defers } W) :
    (Code.rangeFunc g ps assign body).wpIn Fence.wide 0 Tryd.prog Q a w := by
  refine wpIn_rangeFunc ?_
  intro fn hfn
  obtain ⟨rec, hrec⟩ : ∃ rec : LoopState → Option Code → Loop, rec = fun st pe => { state := st, pending := pe, fn, tmps := a.tmps, params := ps, assign, body, defers := w.heap.size } := ⟨_, rfl⟩
  obtain ⟨W1, hW1⟩ : ∃ W1, (w.alloc (.deferred (some []))).alloc (.loop (rec .ready none)) = W1 := ⟨_, rfl⟩
  have hL1 : W1.heap[w.heap.size + 1]? = some (.loop (rec .ready none)) := by
    rw [← hW1]; have := World.alloc_heap_new (w.alloc (.deferred (some []))) (.loop (rec .ready none)); rwa [World.size_alloc] at this
  have hK1 : W1.heap[w.heap.size]? = some (.deferred (some [])) := by
    rw [← hW1]; exact (Below.heap_alloc _ _ _ (by simp)).trans (World.alloc_heap_new w _)
  have hI1 : I (fun _ => False) [] W1 := by rw [← hW1]; exact hI.new _ (hI.new _ h0)
  have hb1 : Below w0.heap.size w0 W1 := by
    rw [← hW1]; exact hb0.trans ((((Below.refl _ w).alloc (Nat.le_refl _) _).alloc (by simp) _).mono hb0.size)
  refine ⟨w.heap.size + 1, [{ target := .collected w.heap.size, args := #[] }], W1, { target := .fn (.func gf) lb, args := fb ++ #[.func (.yield (w.heap.size + 1)) #[] #[]] }, W1, gf,
    (fb ++ #[.func (.yield (w.heap.size + 1)) #[] #[]]) ++ lb, W1, ?_, ?_, fun f' _ => trivial, ?_, fun h => by simp [Fence.wide] at h, ?_⟩
  · rw [← hW1, hrec]; exact run_enterLoop_outer _ _ _ _ _
  · simp only [resolve, hg]
    simp [go_sem, Deferred.ofValue]
  · simp [invoke, go_sem, eg]
  · refine callsIn_wide.2 ?_
    refine (hseq (w.heap.size + 1)
      (fun X pre W => I X pre W ∧ ¬ X (w.heap.size + 1) ∧ ¬ X w.heap.size ∧ W.heap[w.heap.size + 1]? = some (.loop (rec .ready none)) ∧ W.heap[w.heap.size]? = some (.deferred (some [])))
      (fun X pre W => ∃ c, Ix c X pre W ∧ ¬ X (w.heap.size + 1) ∧ ¬ X w.heap.size ∧ W.heap[w.heap.size + 1]? = some (.loop (rec .done (some c))) ∧ W.heap[w.heap.size]? = some (.deferred (some [])))
      W1 hb1 ?_ ?_ ?_ ⟨hI1, fun h => h, fun h => h, hL1, hK1⟩).mono ?_
    · rintro X X' s A B ⟨h1, h2, h3, h4, h5⟩ ht hX
      have l4 := (Array.getElem?_eq_some_iff.1 h4).1
      refine ⟨hI X X' s A B h1 ht.os ht.tape ht.output ht.size (fun k o hk hx _ => (ht.block k (Array.getElem?_eq_some_iff.1 hk).1 hx).trans hk) hX, fun h => ?_, fun h => ?_, (ht.block _ l4 h2).trans h4, (ht.block _ (by omega) h3).trans h5⟩
      · rcases hX _ h with h | h
        · exact h2 h
        · omega
      · rcases hX _ h with h | h
        · exact h3 h
        · omega
    · rintro X X' s A B ⟨c, h1, h2, h3, h4, h5⟩ ht hX
      have l4 := (Array.getElem?_eq_some_iff.1 h4).1
      refine ⟨c, hIx c X X' s A B h1 ht.os ht.tape ht.output ht.size (fun k o hk hx _ => (ht.block k (Array.getElem?_eq_some_iff.1 hk).1 hx).trans hk) hX, fun h => ?_, fun h => ?_, (ht.block _ l4 h2).trans h4, (ht.block _ (by omega) h3).trans h5⟩
      · rcases hX _ h with h | h
        · exact h2 h
        · omega
      · rcases hX _ h with h | h
        · exact h3 h
        · omega
    · -- one round
      rintro X pre x W hXs ⟨hi, hXl, hXd, hl, hk⟩ hgx hsp
      have hy := run_yield (P := Tryd.prog) (args := encs x) hl (by rw [hrec]; exact hps x)
      rw [hrec] at hy
      refine ⟨fn, _, assign, body, hy, roundIn_of_wpIn trivial (hassign _ X pre x W _ hi ?_)⟩
      clear hy
      intro a' Wa hkfa hkpa hia hax
      have hl' := hkfa.same _ _ (by omega) hl rfl
      have hk' := hkfa.same _ _ (Nat.le_refl _) hk rfl
      have hlt := (Array.getElem?_eq_some_iff.1 hl').1
      refine ⟨_, run_beginRound hl' (by rw [hrec]), ?_⟩
      have hl2 : (Wa.putObj (w.heap.size + 1) (.loop { rec .ready none with state := .busy })).heap[w.heap.size + 1]? = some (.loop { rec .ready none with state := .busy }) := World.putObj_heap_same hlt
      have hk2 : (Wa.putObj (w.heap.size + 1) (.loop { rec .ready none with state := .busy })).heap[w.heap.size]? = some (.deferred (some [])) := (World.putObj_heap_other (by omega)).trans hk'
      have hkp2 : Keep n₀ X Wa (Wa.putObj (w.heap.size + 1) (.loop { rec .ready none with state := .busy })) := keep_put _ (by omega) hXl
      refine wpIn_mono (hbody _ X pre x a' _ (by omega) ⟨_, hl2⟩ hXl (fun k hk => by have h1 := hXs k hk; have h2 := hkpa.size; simp; omega) (hI.put _ hia (by omega) hl' rfl) (hG _ _ _ _ hgx (hkpa.trans hkp2)) ((hAx x a').put (X := X) (s := ()) _ hax (by omega) hl' rfl) hsp) ?_
      have fin : ∀ (jump : Option Code) (W3 : World), KeepsFrom w.heap.size (Wa.putObj (w.heap.size + 1) (.loop { rec .ready none with state := .busy })) W3 →
          (Instr.endRound (w.heap.size + 1) jump).run Tryd.prog W3 = .ok (.bool jump.isNone) (W3.putObj (w.heap.size + 1) (.loop (rec (if jump.isNone then .ready else .done) jump))) ∧
          W3.heap[w.heap.size + 1]? = some (.loop { rec .ready none with state := .busy }) ∧
          (W3.putObj (w.heap.size + 1) (.loop (rec (if jump.isNone then .ready else .done) jump))).heap[w.heap.size + 1]? = some (.loop (rec (if jump.isNone then .ready else .done) jump)) ∧
          (W3.putObj (w.heap.size + 1) (.loop (rec (if jump.isNone then .ready else .done) jump))).heap[w.heap.size]? = some (.deferred (some [])) := fun jump W3 hk3 => by
        have hl3 := hk3.same _ _ (by omega) hl2 rfl
        have := run_endRound (P := Tryd.prog) jump hl3
        rw [hrec] at this ⊢
        exact ⟨this, by rw [hrec] at hl3; exact hl3, World.putObj_heap_same (Array.getElem?_eq_some_iff.1 hl3).1, (World.putObj_heap_other (by omega)).trans (hk3.same _ _ (Nat.le_refl _) hk2 rfl)⟩
      have kp : ∀ (W3 : World) (o : Obj), Keep n₀ X (Wa.putObj (w.heap.size + 1) (.loop { rec .ready none with state := .busy })) W3 → Keep n₀ X W (W3.putObj (w.heap.size + 1) o) := fun W3 o h3 =>
        ((hkpa.trans hkp2).trans h3).trans (keep_put _ (by omega) hXl)
      rintro e a3 W3 hp
      cases e with
      | normal =>
        obtain ⟨hk3, hkp3, hi3⟩ := hp
        obtain ⟨hr, hl3, hl4, hk4⟩ := fin none W3 hk3
        exact ⟨_, _, hr, .inl ⟨rfl, hI.put _ hi3 (by omega) hl3 rfl, hXl, hXd, hl4, hk4⟩, kp _ _ hkp3⟩
      | ret =>
        obtain ⟨hk3, hkp3, hi3⟩ := hp
        obtain ⟨hr, hl3, hl4, hk4⟩ := fin (some .ret) W3 hk3
        exact ⟨_, _, hr, .inr ⟨rfl, .ret, (hIx _).put _ hi3 (by omega) hl3 rfl, hXl, hXd, hl4, hk4⟩, kp _ _ hkp3⟩
      | exit id =>
        obtain ⟨hk3, hkp3, hi3⟩ := hp
        obtain ⟨hr, hl3, hl4, hk4⟩ := fin (some (.exit id)) W3 hk3
        exact ⟨_, _, hr, .inr ⟨rfl, .exit id, (hIx _).put _ hi3 (by omega) hl3 rfl, hXl, hXd, hl4, hk4⟩, kp _ _ hkp3⟩
      | goto t =>
        obtain ⟨hk3, hkp3, hi3⟩ := hp
        obtain ⟨hr, hl3, hl4, hk4⟩ := fin (some (.goto t)) W3 hk3
        exact ⟨_, _, hr, .inr ⟨rfl, .goto t, (hIx _).put _ hi3 (by omega) hl3 rfl, hXl, hXd, hl4, hk4⟩, kp _ _ hkp3⟩
      | panic ch => exact hp.elim
      | outgrown => exact hp.elim
    · -- behind the iterator
      rintro e W2 ⟨⟨v, rfl⟩, (⟨X, xs, hS, hi, _, _, hl, hk⟩ | ⟨X, pre, hSp, c, hi, _, _, hl, hk⟩)⟩
      · exact ⟨none, _, by have := run_endLoop (P := Tryd.prog) hl (by rw [hrec]; simp); rw [hrec] at this; exact this, hdone _ X xs _ (Nat.le_refl _) hS (hI.put _ hi (by omega) hl rfl) ((World.putObj_heap_other (by omega)).trans hk)⟩
      · exact ⟨some c, _, by have := run_endLoop (P := Tryd.prog) hl (by rw [hrec]; simp); rw [hrec] at this; exact this, hstop _ X c pre _ (Nat.le_refl _) hSp ((hIx c).put _ hi (by omega) hl rfl) ((World.putObj_heap_other (by omega)).trans hk)⟩
theorem Stable.and {B : Nat} {β : Type} {I J : Blocks → β → World → Prop} (h : Stable B I) (k : Stable B J) : Stable B (fun X s W => I X s W ∧ J X s W) :=
  fun X X' s W W' hs a b c d e f => ⟨h X X' s W W' hs.1 a b c d e f, k X X' s W W' hs.2 a b c d e f⟩
/-- A box that is none of the iterator's. -/
def Mine (X : Blocks) (W : World) (b : Nat) (t : TypeId) (v : Value) : Prop := Boxed W b t v ∧ ¬ X b
theorem stable_box (B b : Nat) (t : TypeId) {β : Type} (f : β → Value) : Stable B (fun X s W => Mine X W b t (f s)) := by
  rintro X X' s W W' ⟨h, hX⟩ _ _ _ _ e hX'
  refine ⟨e b _ h hX (.inr rfl), fun hb => ?_⟩
  rcases hX' b hb with h1 | h1
  · exact hX h1
  · have := h.lt; omega
/-- What lay below n₀ lies as it lay; the iterator's blocks lie beyond. -/
def Base (n₀ : Nat) (w : World) (X : Blocks) (W : World) : Prop := (∀ k, X k → n₀ ≤ k) ∧ Below n₀ w W
theorem stable_base (B n₀ : Nat) (w : World) (hB : n₀ ≤ B) (hw : n₀ ≤ w.heap.size) {β : Type} : Stable B (fun X (_ : β) W => Base n₀ w X W) := by
  rintro X X' s W W' ⟨h1, h2⟩ a b c d e hX'
  have hs := h2.size
  refine ⟨fun k hk => ?_, ⟨a.trans h2.os, b.trans h2.tape, c.trans h2.output, Nat.le_trans h2.size d, fun k hk => ?_⟩⟩
  · rcases hX' k hk with h | h
    · exact h1 k h
    · omega
  · have hlt : k < W.heap.size := by omega
    have hx : W.heap[k]? = some W.heap[k] := Array.getElem?_eq_getElem hlt
    rw [e k _ hx (fun h => by have := h1 k h; omega) (.inl (by omega)), ← hx]
    exact h2.block k hk
theorem Base.start {n₀ : Nat} {w W : World} (h : Below n₀ w W) : Base n₀ w (fun _ => False) W := ⟨fun _ h => h.elim, h⟩
theorem Base.step {n₀ : Nat} {w W W' : World} {X : Blocks} (h : Base n₀ w X W) (k : Below n₀ W W') : Base n₀ w X W' := ⟨h.1, h.2.trans k⟩
theorem Mine.cell {X : Blocks} {W : World} {b : Nat} {t : TypeId} {v : Value} (h : Mine X W b t v) : W.cell? ⟨b, 0, none⟩ = some v := h.1.cell
theorem Mine.frozen {X : Blocks} {W : World} {b : Nat} {t : TypeId} {v : Value} (h : Mine X W b t v) : W.frozen? ⟨b, 0, none⟩ = false := h.1.frozen
theorem Mine.lt {X : Blocks} {W : World} {b : Nat} {t : TypeId} {v : Value} (h : Mine X W b t v) : b < W.heap.size := h.1.lt
theorem Mine.drew {X : Blocks} {W : World} {b : Nat} {t : TypeId} {v : Value} (h : Mine X W b t v) : Mine X W.drew b t v := h
theorem Mine.below {X : Blocks} {W W' : World} {b : Nat} {t : TypeId} {v : Value} (h : Mine X W b t v) (k : Below W.heap.size W W') : Mine X W' b t v := ⟨(k.block b h.lt).trans h.1, h.2⟩
theorem Mine.set {X : Blocks} {W : World} {b : Nat} {t : TypeId} {v : Value} (v' : Value) (h : Mine X W b t v) : Mine X (W.setCell ⟨b, 0, none⟩ v') b t v' := ⟨h.1.set v', h.2⟩
theorem Mine.other {X : Blocks} {W : World} {b b' : Nat} {t : TypeId} {v : Value} (h : Mine X W b t v) (hne : b ≠ b') (u : Value) : Mine X (W.setCell ⟨b', 0, none⟩ u) b t v := ⟨h.1.other hne u, h.2⟩
theorem keep_set {n₀ : Nat} {X : Blocks} (W : World) (b : Nat) (u : Value) (hn : n₀ ≤ b) (hX : ¬ X b) : Keep n₀ X W (W.setCell ⟨b, 0, none⟩ u) :=
  Keep.of_grownBy (grownBy_setCell' W b u) (fun k e => by cases e; exact ⟨hn, hX⟩)
theorem Keep.drew {n₀ : Nat} {X : Blocks} {W W' : World} (h : Keep n₀ X W W') : Keep n₀ X W W'.drew := ⟨h.os, h.tape, h.output, h.size, h.block⟩
theorem kf_set (B : Nat) (W : World) (a : Addr) (v : Value) : KeepsFrom B W (W.setCell a v) := (KeepsOthers.setCell W a v).from B
theorem kf_drew (B : Nat) (W : World) : KeepsFrom B W W.drew := (KeepsOthers.drew W).from B
theorem kf_below {B : Nat} {W W' : World} (h : Below W.heap.size W W') : KeepsFrom B W W' := ⟨h.size, fun k _ _ hk _ => (h.block k (Array.getElem?_eq_some_iff.1 hk).1).trans hk⟩
theorem ownsRow_same {W W' : World} {base : Nat} {e : TypeId} {size : Nat} {v : Value} {n : Nat} {xs : List Value} (h : W.ownsRow base e size v n xs) (hs : ∀ g, v.ownBlock = some g → W'.heap[g]? = W.heap[g]?) : W'.ownsRow base e size v n xs := by
  refine ⟨h.1, ?_⟩
  rcases h.2 with hn | ⟨g, cap, cur, rfl, hb, hgg, rest⟩
  · exact .inl hn
  · exact .inr ⟨g, cap, cur, rfl, hb, (hs g rfl).trans hgg, rest⟩
/-- Such a row reads as a list. -/
theorem Ints.of_own {W : World} {n₀ : Nat} {e : TypeId} {v : Value} {l : List Int} (h : W.ownsRow n₀ e 1 v l.length (l.map fun x => .int .i64 x)) (hl : l.length ≤ big) : Ints W v l := by
  rcases h.2 with ⟨rfl, h0⟩ | ⟨g, cap, cur, rfl, hb, hg, hn, hc, hs, ht⟩
  · exact ⟨none, 0, by rw [h0], hl, fun i hi => by omega⟩
  · refine ⟨some ⟨g, 0, none⟩, cap, rfl, hl, fun i hi => ⟨g, 0, rfl, ?_⟩⟩
    have h1 : (l.map fun x => Value.int .i64 x)[i]? = some (.int .i64 (l.getD i 0)) := by
      simp [List.getElem?_map, List.getElem?_eq_getElem hi, List.getD_eq_getElem?_getD]
    rw [← ht, List.getElem?_take, if_pos (by omega)] at h1
    simp only [World.cell?, hg]
    simpa using h1
end Go.Proofs.YtmfbcnigefjgpaaDoor
namespace Go.Proofs.YtmfbcnigefjgpaaDoor
open Go.RowKit Go.Shelf
attribute [local go_sem] Oper.semAt_some
/-- A call by a number of arguments, as a run in a round of the wide fence. -/
theorem inr {f : FuncId} {args : Array Value} {w : World} {R : Ending → World → Prop} (l n : Nat) (h : Calls Tryd.prog f args w R) : CallsIn (Fence.wide.inRound l) n Tryd.prog f args w R :=
  CallsIn.inRound l (callsIn_wide.2 h)
set_option maxRecDepth 100000 in
set_option maxHeartbeats 1000000 in
theorem All_seq (S : Nat) (hS : S < 2 ^ 64) (n₀ : Nat) (hn₀ : 0 < n₀) (w : World) (hn : n₀ ≤ w.heap.size) (hT : Tab w) :
    SeqX 56 #[.int .u64 S] #[] (fun x : Nat => #[.int .i64 x]) n₀ (fun _ _ _ => True) (fun xs => xs = elems S) (fun pre => pre <+: elems S) w := by
  intro l J Jx W hW hJ hJx hY h0
  have hTW := hT.on hW
  refine (callsIn_wide (n := 0)).1 ?_
  refine callsIn_of_wp Tryd.func56 rfl trivial ?_ rfl
  simp only [Tryd.ntmps56, List.size_toArray, List.length_cons, List.length_nil, Nat.reduceAdd, Nat.reduceSub, Array.replicate_succ, Array.replicate_zero, List.push_toArray, List.append_toArray, List.nil_append, List.cons_append]
  gi_wp2
  gi_loopw [4] (fun r wr => ∃ (T : Nat) (pre : List Nat), r = .int .u64 T ∧ T < 2 ^ 64 ∧ elems S = pre ++ elems T ∧ J (fun _ => False) pre wr ∧ Below n₀ W wr) (fun r _ => (intOf r).toNat)
  case atStart => exact ⟨S, [], rfl, hS, rfl, h0, Below.refl _ _⟩
  case round =>
    obtain ⟨T, pre, rfl, hT64, hel, hJs, hB⟩ := hrel
    by_cases hT0 : T = 0
    · subst hT0
      rw [elems_zero, List.append_nil] at hel
      gi_wp2
      refine bodyPost_end (results_none rfl _ _ _) rfl ?_
      exact ⟨⟨_, rfl⟩, .inl ⟨_, pre, hel.symm, hJs⟩⟩
    · have hctz : Lib.ctz 64 T = Lib.ctzFrom 64 T := by simp [Lib.ctz, hT0]
      obtain ⟨m, hm, hk⟩ := Lib.ctzFrom_spec 64 T (by omega) hT64
      rw [← hctz] at hm hk
      obtain ⟨hst, hlt⟩ := elems_step T _ m hm hk
      have hne : ((T : Int) != 0) = true := by simp; omega
      have htz := TrailingZeros64_any T hT64 hT0 wr (hTW.below hB hn₀)
      have hand : bits .and .u64 (T : Int) ((T : Int) - 1) = ((T &&& (T - 1) : Nat) : Int) := by
        rw [show (T : Int) - 1 = ((T - 1 : Nat) : Int) from by omega]
        exact bits_and_n T (T - 1) hT64 (by omega)
      have Hlt := hid hlt
      have Hst := hid hst
      have hT64' : T &&& (T - 1) < 2 ^ 64 := by omega
      clear hst hlt hm hctz
      generalize Lib.ctz 64 T = k at *
      generalize T &&& (T - 1) = T' at *
      obtain ⟨⟨fn, tmps, assign, body, hy, hR⟩⟩ : Nonempty _ := ⟨hY _ pre k wr (fun _ h => h.elim) hJs trivial (by rw [hel, Hst.out]; exact ⟨elems T', by simp⟩)⟩
      have Hel := hid hel
      clear hel
      gi_wp2_with (refine ⟨trivial, rfl, ?_⟩; gi_at_call 63; refine (callsIn_wide.2 htz).mono ?_; rintro e w' ⟨rfl, rfl⟩)
      refine ⟨rfl, hR.mono ?_⟩
      rintro e W3 ⟨⟨rfl, hJ3⟩ | ⟨rfl, hJ3⟩, hk3⟩
      · gi_wp2
        go_roundw
        case rel => exact ⟨T', pre ++ [k], rfl, hT64', by rw [Hel.out, Hst.out]; simp, hJ3, hB.trans (hk3.below (by have := hB.size; have := hW.size; omega))⟩
        case measure => simp [intOf]; exact Hlt.out
      · gi_wp2
        refine bodyPost_ret (results_none rfl _ _ _) rfl ?_
        exact ⟨⟨_, rfl⟩, .inr ⟨_, pre ++ [k], by rw [Hel.out, Hst.out]; exact ⟨elems T', by simp⟩, hJ3⟩⟩
end Go.Proofs.YtmfbcnigefjgpaaDoor
namespace Go.Proofs.YtmfbcnigefjgpaaDoor
open Go.RowKit Go.Shelf
attribute [local go_sem] Oper.semAt_some
/-- The set to which a letter leads from some states. -/
def imgTo (m : List (List Int)) (x : Int) (l : List Nat) : Nat := l.foldl (fun T s => T ||| 2 ^ nx m s x) 0
theorem imgTo_snoc (m : List (List Int)) (x : Int) (l : List Nat) (s : Nat) : imgTo m x (l ++ [s]) = imgTo m x l ||| 2 ^ nx m s x := by simp [imgTo, List.foldl_append]
theorem imgTo_lt' (m : List (List Int)) (x : Int) (n : Nat) : ∀ (l : List Nat) (T : Nat), T < 2 ^ n → (∀ s ∈ l, nx m s x < n) → l.foldl (fun T s => T ||| 2 ^ nx m s x) T < 2 ^ n
  | [], T, hT, _ => hT
  | s :: l, T, hT, h => imgTo_lt' m x n l _ (with_lt T _ n hT (h s (by simp))) (fun y hy => h y (List.mem_cons_of_mem _ hy))
theorem imgTo_lt (m : List (List Int)) (x : Int) (n : Nat) (l : List Nat) (h : ∀ s ∈ l, nx m s x < n) : imgTo m x l < 2 ^ n := imgTo_lt' m x n l 0 (Nat.two_pow_pos n) h
theorem elems_lt {S n : Nat} (hS : S < 2 ^ n) {s : Nat} (h : s ∈ elems S) : s < n := by
  have h := (mem_elems S s).1 h
  rcases Nat.lt_or_ge s n with h1 | h1
  · exact h1
  · have := Nat.testBit_lt_two_pow (i := s) (Nat.lt_of_lt_of_le hS (Nat.pow_le_pow_right (by decide) h1))
    rw [this] at h; simp at h
theorem follows : Tryd.prog.follows .mixedOrders = true := by kernel_rfl
set_option maxRecDepth 100000 in
set_option maxHeartbeats 1000000 in
theorem SetImage_any (v : Value) (m : List (List Int)) (S : Nat) (x : Nat) (w : World) (hT : Tab w) (h : Rows w v m) (hv : validM m = true) (hS : S < 2 ^ m.length) (hx : x < letters m) :
    Calls Tryd.prog 44 #[.int .u64 S, v, .int .i64 x] w fun e w' => e = .returned (.int .u64 (imgTo m x (elems S) : Nat)) ∧ Below w.heap.size w w' := by
  obtain ⟨p1, p2, p3, p4, p5⟩ := valid_parts hv
  have hS64 : S < 2 ^ 64 := Nat.lt_of_lt_of_le hS (Nat.pow_le_pow_right (by decide) (by omega))
  have hfo := follows
  have hr := h
  obtain ⟨A, cap, rfl, hml, hc⟩ := h
  refine (callsIn_wide (n := 0)).1 ?_
  refine callsIn_of_wp_marks Tryd.func44 rfl trivial ?_ rfl
  simp only [Tryd.ntmps44, List.size_toArray, List.length_cons, List.length_nil, Nat.reduceAdd, Nat.reduceSub, Array.replicate_succ, Array.replicate_zero, List.push_toArray, List.append_toArray, List.nil_append, List.cons_append]
  gi_wp2
  have q1 := Boxed.new w 22 (.slice A m.length cap)
  have q2 := Boxed.new (w.alloc (.cells #[.slice A m.length cap] 22)) 3 (.int .i64 x)
  have q3 := Boxed.new ((w.alloc (.cells #[.slice A m.length cap] 22)).alloc (.cells #[.int .i64 x] 3)) 67 (.int .u64 0)
  simp only [World.size_alloc] at q2 q3
  have hb0 : Below w.heap.size w (((w.alloc (.cells #[.slice A m.length cap] 22)).alloc (.cells #[.int .i64 x] 3)).alloc (.cells #[.int .u64 0] 67)) := bal (bal (bal (Below.refl _ _) _) _) _
  refine range_law (gf := 56) (fb := #[.int .u64 S]) (lb := #[]) rfl (enters_of Tryd.func56 (by kernel_rfl) rfl)
    (All_seq S hS64 w.heap.size hT.lt _ hb0.size (hT.on hb0)) (fun _ _ _ _ _ _ => trivial) hb0.size (Below.refl _ _) (fun _ => rfl)
    (fun X pre W => (Mine X W w.heap.size 22 (.slice A m.length cap) ∧ Mine X W (w.heap.size + 1) 3 (.int .i64 x)) ∧ (Mine X W (w.heap.size + 1 + 1) 67 (.int .u64 (imgTo m x pre : Nat)) ∧ Base w.heap.size w X W))
    (fun _ _ _ _ => False)
    (Stable.and (Stable.and (stable_box _ _ _ (fun _ => _)) (stable_box _ _ _ (fun _ => _))) (Stable.and (stable_box _ _ _ (fun pre => .int .u64 (imgTo m x pre : Nat))) (stable_base _ _ _ hb0.size (Nat.le_refl _))))
    (fun _ _ _ _ _ _ hs _ _ _ _ _ _ => hs)
    ⟨⟨⟨(q1.alloc _).alloc _, fun h => h⟩, ⟨q2.alloc _, fun h => h⟩⟩, ⟨q3, fun h => h⟩, Base.start hb0⟩
    (fun s a' _ => a' = { tmps := #[.int .u64 S, .slice A m.length cap, .int .i64 x, undef, .pointer (some ⟨w.heap.size, 0, none⟩), .pointer (some ⟨w.heap.size + 1, 0, none⟩), .int .u64 0, .pointer (some ⟨w.heap.size + 1 + 1, 0, none⟩), .int .i64 s, .int .u64 S, .func (.func 56) #[.int .u64 S] #[], .int .i64 s, undef, undef, undef, undef, undef, undef, undef, undef, undef, undef], defers := [] })
    (fun _ _ _ _ _ _ _ hs _ _ _ _ _ _ => hs) ?assign ?body ?done ?stop
  case assign =>
    intro l X pre s W K hi hK
    gi_wp2
    exact hK _ _ (KeepsFrom.refl _ _) (Keep.refl _ _ _) hi rfl
  case body =>
    rintro l X pre s a' W hl hrec hXl hXs ⟨⟨b1, b2⟩, b3, hB⟩ _ rfl hsp
    have hs : s < m.length := elems_lt hS (hsp.subset (by simp))
    obtain ⟨b, off, r, hA, hcell, hrow⟩ := hc s hs
    obtain ⟨Ar, capr, rfl, hlr, hcr⟩ := hrow
    subst hA
    have hrl := (p5 s hs).1
    obtain ⟨br, offr, hAr, hrcell⟩ := hcr x (by omega)
    subst hAr
    have hnx := nx_ok hv hs (x := x) (by omega) (by omega)
    rw [Int.toNat_natCast] at hnx
    rw [hnx.2] at hrcell
    rw [hrl] at hcell
    have hcell' := (hB.2.cell (p := ⟨b, off + s, none⟩) (World.block_lt_of_cell? _ _ hcell)).trans hcell
    have hrcell' := (hB.2.cell (p := ⟨br, offr + x, none⟩) (World.block_lt_of_cell? _ _ hrcell)).trans hrcell
    have hT := imgTo_lt m x 64 pre (fun t ht => by have := (nx_ok hv (elems_lt hS (hsp.subset (List.mem_append_left [s] ht))) (x := (x : Int)) (by omega) (by omega)).1; omega)
    have hq : nx m s x < 64 := by omega
    have hin1 : (s : Int) < m.length := by omega
    have hin2 : (x : Int) < letters m := by omega
    have c1 := b1.cell; have c2 := b2.cell; have c3 := b3.cell; have f3 := b3.frozen
    clear hXs hc hcr hcell hrcell p5 hrl hnx hsp hrec hr q1 q2 q3 hb0 hl hml hlr
    generalize hy : nx m s x = q at *
    have Hy := hid hy
    clear hy
    generalize hTe : imgTo m x pre = T at *
    have HT := hid hTe
    clear hTe
    gi_wp2
    gi_region_with_o (refine ⟨trivial, rfl, ?_⟩; gi_at_call 57; refine (inr l _ (With_any T q _ hT hq)).mono ?_; rintro e w' ⟨rfl, rfl⟩)
    all_goals gi_wp2
    all_goals
      refine ⟨(kf_set _ _ _ _).trans (kf_drew _ _), (keep_set _ _ _ (by omega) b3.2).drew, ⟨(b1.other (by omega) _).drew, (b2.other (by omega) _).drew⟩, ?_, ?_⟩
      · rw [imgTo_snoc, Hy.out, HT.out]; exact (b3.set _).drew
      · exact hB.step ((keep_set _ _ _ (by omega) b3.2).drew.below hB.2.size)
  case done =>
    rintro D X xs W hD rfl ⟨_, b3, hB⟩ hK
    have b3c := b3.cell
    gi_wp2
    refine ⟨by simp, .inl ⟨_, _, rfl, run_takeDeferred hK, ?_⟩⟩
    exact ⟨_, results_tmp rfl _ _ _, rfl, hB.2.trans (belowK_b (w := w) (Nat.le_refl _) _ D _ _ (by have := hb0.size; omega) hK rfl rfl)⟩
  case stop =>
    rintro D X c pre W _ _ h _
    exact h.elim
end Go.Proofs.YtmfbcnigefjgpaaDoor
namespace Go.Proofs.YtmfbcnigefjgpaaDoor
open Go.RowKit Go.Shelf
attribute [local go_sem] Oper.semAt_some
theorem infoInt : (Tryd.prog.info? 3).map (fun i => (i.zero, i.size, i.bytes)) = some (some (.int .i64 0), 1, 8) := by kernel_rfl
/-- The elements as ints. -/
def intsOf (l : List Nat) : List Int := l.map fun x : Nat => (x : Int)
end Go.Proofs.YtmfbcnigefjgpaaDoor
namespace Go.Proofs.YtmfbcnigefjgpaaDoor
open Go.RowKit Go.Shelf
def imgSet (m : List (List Int)) (S : Nat) (x : Int) : Nat := imgTo m x (elems S)
def imgWord (m : List (List Int)) (S : Nat) (u : List Int) : Nat := u.foldl (imgSet m) S
theorem imgWord_snoc (m : List (List Int)) (S : Nat) (u : List Int) (k : Nat) (hk : k < u.length) : imgWord m S (u.take (k + 1)) = imgSet m (imgWord m S (u.take k)) (u.getD k 0) := by
  unfold imgWord
  rw [List.take_succ_eq_append_getElem hk, List.foldl_append]
  simp [List.getD_eq_getElem?_getD, List.getElem?_eq_getElem hk]
theorem imgSet_lt {m : List (List Int)} (hv : validM m = true) {S : Nat} (hS : S < 2 ^ m.length) {x : Int} (h0 : 0 ≤ x) (h1 : x < letters m) : imgSet m S x < 2 ^ m.length :=
  imgTo_lt m x m.length _ (fun _ hs => (nx_ok hv (elems_lt hS hs) h0 h1).1)
theorem imgWord_lt {m : List (List Int)} (hv : validM m = true) : ∀ (u : List Int) (S : Nat), S < 2 ^ m.length → u.all (inB 0 ((letters m : Int) - 1)) = true → imgWord m S u < 2 ^ m.length
  | [], S, hS, _ => hS
  | x :: u, S, hS, hu => by
    simp only [List.all_cons, Bool.and_eq_true, inB_iff] at hu
    exact imgWord_lt hv u _ (imgSet_lt hv hS hu.1.1 (by omega)) hu.2
/-- Strictly increasing, and of states. -/
def incr (l : List Int) (k : Nat) : Bool := (List.range k).all fun i => decide (l.getD i 0 < l.getD (i + 1) 0)
def isSetM (m : List (List Int)) (l : List Int) : Bool := incr l (l.length - 1) && l.all (inB 0 ((m.length : Int) - 1))
theorem isSetM_mem {m : List (List Int)} {l : List Int} (h : isSetM m l = true) : ∀ x ∈ l, 0 ≤ x ∧ x < (m.length : Int) := by
  simp only [isSetM, Bool.and_eq_true] at h
  intro x hx
  have := List.all_eq_true.1 h.2 x hx
  rw [inB_iff] at this
  omega
theorem isWordM_all {m : List (List Int)} {l : List Int} (h : isWordM m l = true) : l.all (inB 0 ((letters m : Int) - 1)) = true := by
  simp only [isWordM, Bool.and_eq_true] at h
  exact h.2
def imageM (m : List (List Int)) (s u : List Int) : List Int := intsOf (elems (imgWord m (ofList s) u))
theorem Valid_bool (v : Value) (m : List (List Int)) (b : Bool) (w : World) (h : Rows w v m) (hb : validM m = b) :
    Calls Tryd.prog 36 #[.agg #[v]] w fun e w' => e = .returned (.bool b) ∧ Below w.heap.size w w' := by
  subst hb; exact Valid_any v m w h
end Go.Proofs.YtmfbcnigefjgpaaDoor
namespace Go.Proofs.YtmfbcnigefjgpaaDoor
open Go.RowKit Go.Shelf
/-- Whether a list has a number. -/
def hasB (l : List Int) (n : Int) : Bool := l.any fun x => x == n
end Go.Proofs.YtmfbcnigefjgpaaDoor
namespace Go.Proofs.YtmfbcnigefjgpaaDoor
open Go.RowKit Go.Shelf
theorem getD_elem (l : List Int) (j : Nat) (hj : j < l.length) : l.getD j 0 = l[j] := by simp [List.getD_eq_getElem?_getD, List.getElem?_eq_getElem hj]
end Go.Proofs.YtmfbcnigefjgpaaDoor
namespace Go.Proofs.YtmfbcnigefjgpaaDoor
open Go.RowKit Go.Shelf
theorem owns_kept {B n : Nat} {e : TypeId} {s : Nat} {v : Value} {xs : List Value} {w w' : World} (h : w.ownsRow B e s v n xs) (hk : ∀ k, B ≤ k → k < w.heap.size → w'.heap[k]? = w.heap[k]?) : w'.ownsRow B e s v n xs := by
  obtain ⟨h1, h2⟩ := h
  refine ⟨h1, ?_⟩
  rcases h2 with h2 | ⟨g, cap, cur, hv, hB, hh, r⟩
  · exact .inl h2
  · exact .inr ⟨g, cap, cur, hv, hB, by rw [hk g hB (lt_of_block hh)]; exact hh, r⟩
/-- A slice of ints that lies beside a row. -/
def IntsOff (W : World) (base : Nat) (g : Option Nat) (v : Value) (l : List Int) : Prop :=
  ∃ A cap, v = .slice A l.length cap ∧ l.length ≤ big ∧ (∀ i, i < l.length → ∃ b off, A = some ⟨b, off, none⟩ ∧ base ≤ b ∧ some b ≠ g ∧ W.cell? ⟨b, off + i, none⟩ = some (.int .i64 (l.getD i 0)))
theorem IntsOff.ints {W : World} {base : Nat} {g : Option Nat} {v : Value} {l : List Int} (h : IntsOff W base g v l) : Ints W v l := by
  obtain ⟨A, cap, rfl, hl, hc⟩ := h
  exact ⟨A, cap, rfl, hl, fun i hi => by obtain ⟨b, off, hA, _, _, hcell⟩ := hc i hi; exact ⟨b, off, hA, hcell⟩⟩
/-- A row of the call's own from base on, whose elements are slices of ints beside it. -/
def MRows (W : World) (base : Nat) (v : Value) (m : List (List Int)) : Prop :=
  ∃ xs : List Value, W.ownsRow base 25 1 v m.length xs ∧ ∀ i, i < m.length → IntsOff W base v.ownBlock (xs.getD i .nilIface) (m.getD i [])
theorem MRows.nil (W : World) (base : Nat) : MRows W base (.slice none 0 0) [] := ⟨[], ⟨rfl, .inl ⟨rfl, rfl⟩⟩, fun i hi => by simp at hi⟩
theorem MRows.rows {W : World} {base : Nat} {v : Value} {m : List (List Int)} (h : MRows W base v m) (hl : m.length ≤ big) : Rows W v m := by
  obtain ⟨xs, ho, hx⟩ := h
  have hxl : xs.length = m.length := by have := ho.1; omega
  rcases ho.2 with ⟨rfl, h0⟩ | ⟨g, cap, cur, rfl, hb, hg, hn, hc, hs, ht⟩
  · exact ⟨none, 0, by rw [h0], hl, fun i hi => by omega⟩
  · refine ⟨some ⟨g, 0, none⟩, cap, rfl, hl, fun i hi => ⟨g, 0, xs.getD i .nilIface, rfl, ?_, (hx i hi).ints⟩⟩
    have h1 : xs[i]? = some (xs.getD i .nilIface) := by
      simp [List.getElem?_eq_getElem (show i < xs.length by omega), List.getD_eq_getElem?_getD]
    rw [← ht, List.getElem?_take, if_pos (by omega)] at h1
    simp only [World.cell?, hg]
    rw [← ht]
    simpa using h1
/-- Kept by a world that leaves the blocks from base on, but the row's own, as they lay. -/
theorem IntsOff.kept {W W' : World} {base : Nat} {g : Option Nat} {v : Value} {l : List Int} (h : IntsOff W base g v l) (hk : ∀ k, base ≤ k → k < W.heap.size → some k ≠ g → W'.heap[k]? = W.heap[k]?) {g' : Option Nat} (hg : ∀ k, k < W.heap.size → some k ≠ g → some k ≠ g') : IntsOff W' base g' v l := by
  obtain ⟨A, cap, rfl, hl, hc⟩ := h
  refine ⟨A, cap, rfl, hl, fun i hi => ?_⟩
  obtain ⟨b, off, hA, hB, hne, hcell⟩ := hc i hi
  have hb := World.block_lt_of_cell? _ _ hcell
  refine ⟨b, off, hA, hB, hg _ hb hne, ?_⟩
  rw [← hcell]
  exact World.cell?_of_block (w := W) (hk _ hB hb hne)
theorem MRows.kept {W W' : World} {base : Nat} {v : Value} {m : List (List Int)} (h : MRows W base v m) (hk : ∀ k, base ≤ k → k < W.heap.size → W'.heap[k]? = W.heap[k]?) : MRows W' base v m := by
  obtain ⟨xs, ho, hx⟩ := h
  exact ⟨xs, owns_kept ho hk, fun i hi => (hx i hi).kept (fun k hb hs _ => hk k hb hs) (fun _ _ h => h)⟩
theorem MRows.below {W W' : World} {base : Nat} {v : Value} {m : List (List Int)} (h : MRows W base v m) (hb : Below W.heap.size W W') : MRows W' base v m := h.kept fun k _ hk => hb.block k hk
end Go.Proofs.YtmfbcnigefjgpaaDoor
namespace Go.Proofs.YtmfbcnigefjgpaaDoor
open Go.RowKit Go.Shelf
/-- A slice of bools that reads as a list. -/
def Bools (w : World) (v : Value) (l : List Bool) : Prop :=
  ∃ A cap, v = .slice A l.length cap ∧ l.length ≤ big ∧ ∀ i, i < l.length → ∃ b off, A = some ⟨b, off, none⟩ ∧ w.cell? ⟨b, off + i, none⟩ = some (.bool (l.getD i false))
theorem Bools.below {w w' : World} {v : Value} {l : List Bool} (h : Bools w v l) (hb : Below w.heap.size w w') : Bools w' v l := by
  obtain ⟨A, cap, hv, hl, hc⟩ := h
  refine ⟨A, cap, hv, hl, fun i hi => ?_⟩
  obtain ⟨b, off, hA, hcell⟩ := hc i hi
  exact ⟨b, off, hA, (hb.cell (p := ⟨b, off + i, none⟩) (World.block_lt_of_cell? _ _ hcell)).trans hcell⟩
theorem Bools.of_own {W : World} {n₀ : Nat} {e : TypeId} {v : Value} {l : List Bool} (h : W.ownsRow n₀ e 1 v l.length (l.map fun x => .bool x)) (hl : l.length ≤ big) : Bools W v l := by
  rcases h.2 with ⟨rfl, h0⟩ | ⟨g, cap, cur, rfl, hb, hg, hn, hc, hs, ht⟩
  · exact ⟨none, 0, by rw [h0], hl, fun i hi => by omega⟩
  · refine ⟨some ⟨g, 0, none⟩, cap, rfl, hl, fun i hi => ⟨g, 0, rfl, ?_⟩⟩
    have h1 : (l.map fun x => Value.bool x)[i]? = some (.bool (l.getD i false)) := by
      simp [List.getElem?_map, List.getElem?_eq_getElem hi, List.getD_eq_getElem?_getD]
    rw [← ht, List.getElem?_take, if_pos (by omega)] at h1
    simp only [World.cell?, hg]
    simpa using h1
theorem infoBool : (Tryd.prog.info? 4).map (fun i => (i.zero, i.size, i.bytes)) = some (some (.bool false), 1, 1) := by kernel_rfl
end Go.Proofs.YtmfbcnigefjgpaaDoor
namespace Go.Proofs.YtmfbcnigefjgpaaDoor
open Go.RowKit Go.Shelf
theorem runM_append (m : List (List Int)) (s : Nat) (u v : List Int) : runM m s (u ++ v) = runM m (runM m s u) v := by simp [runM, List.foldl_append]
theorem imgWord_append (m : List (List Int)) (S : Nat) (u v : List Int) : imgWord m S (u ++ v) = imgWord m (imgWord m S u) v := by simp [imgWord, List.foldl_append]
theorem foldl_or_testBit : ∀ (l : List Int) (T i : Nat), (l.foldl (fun S x => S ||| 2 ^ x.toNat) T).testBit i = (T.testBit i || l.any fun x => decide (x.toNat = i))
  | [], T, i => by simp
  | x :: l, T, i => by
    rw [List.foldl_cons, foldl_or_testBit l, testBit_with, List.any_cons, Bool.or_assoc]
theorem ofList_testBit (l : List Int) (i : Nat) : (ofList l).testBit i = l.any fun x => decide (x.toNat = i) := by
  rw [ofList, foldl_or_testBit]; simp
theorem testBit_big {S n i : Nat} (hS : S < 2 ^ n) (hi : n ≤ i) : S.testBit i = false := Nat.testBit_lt_two_pow (Nat.lt_of_lt_of_le hS (Nat.pow_le_pow_right (by decide) hi))
theorem ofList_elems {S : Nat} (hS : S < 2 ^ 64) : ofList (intsOf (elems S)) = S := by
  apply Nat.eq_of_testBit_eq
  intro i
  rw [ofList_testBit]
  by_cases hi : i < 64
  · cases hb : S.testBit i with
    | true =>
      rw [List.any_eq_true]
      exact ⟨(i : Int), List.mem_map.2 ⟨i, (mem_elems S i).2 ⟨hi, hb⟩, rfl⟩, by simp⟩
    | false =>
      rw [List.any_eq_false]
      intro x hx
      obtain ⟨y, hy, rfl⟩ := List.mem_map.1 hx
      have := (mem_elems S y).1 hy
      simp
      rintro rfl
      rw [hb] at this
      simp at this
  · rw [testBit_big hS (by omega), List.any_eq_false]
    intro x hx
    obtain ⟨y, hy, rfl⟩ := List.mem_map.1 hx
    have := (mem_elems S y).1 hy
    simp
    omega
theorem elems_sorted (S : Nat) : (elems S).Pairwise (· < ·) := List.Pairwise.filter _ List.pairwise_lt_range
theorem isSetM_of_sorted {m : List (List Int)} {l : List Int} (hs : l.Pairwise (· < ·)) (hb : ∀ x ∈ l, 0 ≤ x ∧ x < (m.length : Int)) : isSetM m l = true := by
  rw [isSetM, Bool.and_eq_true]
  constructor
  · rw [incr, List.all_eq_true]
    intro i hi
    have hi' : i < l.length - 1 := by simpa using hi
    have h := List.pairwise_iff_getElem.1 hs i (i + 1) (by omega) (by omega) (by omega)
    simp only [decide_eq_true_eq]
    simp only [List.getD_eq_getElem?_getD, List.getElem?_eq_getElem (show i < l.length by omega), List.getElem?_eq_getElem (show i + 1 < l.length by omega), Option.getD_some]
    exact h
  · rw [List.all_eq_true]
    intro x hx
    have := hb x hx
    exact inB_true (by omega)
theorem intsOf_sorted {l : List Nat} (h : l.Pairwise (· < ·)) : (intsOf l).Pairwise (· < ·) := by
  rw [intsOf, List.pairwise_map]
  exact h.imp (fun hab => by omega)
theorem isSetM_elems {m : List (List Int)} {S : Nat} (hS : S < 2 ^ m.length) : isSetM m (intsOf (elems S)) = true := by
  refine isSetM_of_sorted (intsOf_sorted (elems_sorted S)) (fun x hx => ?_)
  obtain ⟨y, hy, rfl⟩ := List.mem_map.1 hx
  have := elems_lt hS hy
  omega
theorem imgTo_testBit (m : List (List Int)) (x : Int) (t : Nat) : ∀ (l : List Nat) (T : Nat), (l.foldl (fun T s => T ||| 2 ^ nx m s x) T).testBit t = (T.testBit t || l.any fun s => decide (nx m s x = t))
  | [], T => by simp
  | s :: l, T => by rw [List.foldl_cons, imgTo_testBit m x t l, testBit_with, List.any_cons, Bool.or_assoc]
theorem imgSet_mem (m : List (List Int)) {S : Nat} (hS : S < 2 ^ m.length) (hm : m.length ≤ 64) (x : Int) (t : Nat) : (imgSet m S x).testBit t = true ↔ ∃ s, s < m.length ∧ S.testBit s = true ∧ nx m s x = t := by
  rw [imgSet, imgTo, imgTo_testBit]
  simp only [Nat.zero_testBit, Bool.false_or, List.any_eq_true, decide_eq_true_eq]
  constructor
  · rintro ⟨s, hs, rfl⟩
    exact ⟨s, elems_lt hS hs, ((mem_elems S s).1 hs).2, rfl⟩
  · rintro ⟨s, h1, h2, rfl⟩
    exact ⟨s, (mem_elems S s).2 ⟨by omega, h2⟩, rfl⟩
theorem all_cons_parts {m : List (List Int)} {x : Int} {u : List Int} (h : (x :: u).all (inB 0 ((letters m : Int) - 1)) = true) : (0 ≤ x ∧ x < letters m) ∧ u.all (inB 0 ((letters m : Int) - 1)) = true := by
  rw [List.all_cons, Bool.and_eq_true, inB_iff] at h
  exact ⟨⟨h.1.1, by omega⟩, h.2⟩
theorem imgWord_mem {m : List (List Int)} (hv : validM m = true) : ∀ (u : List Int) (S t : Nat), S < 2 ^ m.length → u.all (inB 0 ((letters m : Int) - 1)) = true →
    ((imgWord m S u).testBit t = true ↔ ∃ s, s < m.length ∧ S.testBit s = true ∧ runM m s u = t)
  | [], S, t, hS, _ => by
    constructor
    · intro h
      refine ⟨t, ?_, h, rfl⟩
      by_cases ht : t < m.length
      · exact ht
      · have := testBit_big hS (show m.length ≤ t by omega)
        simp only [imgWord, List.foldl_nil] at h
        rw [this] at h
        cases h
    · rintro ⟨s, _, h, rfl⟩
      exact h
  | x :: u, S, t, hS, hu => by
    obtain ⟨hx, hu'⟩ := all_cons_parts hu
    have hm : m.length ≤ 64 := by have := (valid_parts hv).2.1; omega
    show (imgWord m (imgSet m S x) u).testBit t = true ↔ _
    rw [imgWord_mem hv u _ t (imgSet_lt hv hS hx.1 hx.2) hu']
    constructor
    · rintro ⟨s, h1, h2, h3⟩
      obtain ⟨q, g1, g2, rfl⟩ := (imgSet_mem m hS hm x s).1 h2
      exact ⟨q, g1, g2, h3⟩
    · rintro ⟨q, g1, g2, h3⟩
      refine ⟨nx m q x, (nx_ok hv g1 hx.1 hx.2).1, (imgSet_mem m hS hm x _).2 ⟨q, g1, g2, rfl⟩, h3⟩
theorem imageM_set {m : List (List Int)} (hv : validM m = true) {s u : List Int} (hs : isSetM m s = true) (hu : isWordM m u = true) : isSetM m (imageM m s u) = true := by
  have hm : m.length ≤ 64 := by have := (valid_parts hv).2.1; omega
  simp only [isWordM, Bool.and_eq_true] at hu
  exact isSetM_elems (imgWord_lt hv u _ (ofList_lt m.length hm s (isSetM_mem hs)) hu.2)
end Go.Proofs.YtmfbcnigefjgpaaDoor
namespace Go.Proofs.YtmfbcnigefjgpaaDoor
open Go.RowKit Go.Shelf
theorem elems_range {S n : Nat} (hS : S < 2 ^ n) (hn : n ≤ 64) : elems S = (List.range n).filter S.testBit := by
  have e : List.range 64 = List.range n ++ List.range' n (64 - n) := by
    rw [List.range_eq_range', List.range_eq_range', show (64 : Nat) = n + (64 - n) by omega, ← List.range'_append_1]
    simp
  rw [elems, e, List.filter_append]
  have : (List.range' n (64 - n)).filter S.testBit = [] := by
    rw [List.filter_eq_nil_iff]
    intro x hx
    have := (List.mem_range'_1.1 hx).1
    rw [testBit_big hS this]
    simp
  rw [this, List.append_nil]
/-- The states that are in a list, out of the first ones. -/
def pick (p : Nat → Bool) (k : Nat) : List Int := ((List.range k).filter p).map fun t : Nat => (t : Int)
end Go.Proofs.YtmfbcnigefjgpaaDoor
namespace Go.Proofs.YtmfbcnigefjgpaaDoor
open Go.RowKit Go.Shelf
theorem Ints.two' (w : World) (x y : Int) (t : TypeId) (k : Nat) (hk : k = w.heap.size) : Ints (w.alloc (.cells #[.int .i64 x, .int .i64 y] t)) (.slice (some ⟨k, 0, none⟩) 2 2) [x, y] := by
  subst hk
  refine ⟨_, 2, rfl, by unfold big; simp, fun i hi => ⟨w.heap.size, 0, rfl, ?_⟩⟩
  have h2 : i = 0 ∨ i = 1 := by simp at hi; omega
  rcases h2 with rfl | rfl <;> simp
end Go.Proofs.YtmfbcnigefjgpaaDoor
namespace Go.Proofs.YtmfbcnigefjgpaaDoor
open Go.RowKit Go.Shelf
theorem owns_block {B g n c k : Nat} {e : TypeId} {s : Nat} {xs : List Value} {w w' : World} (h : w.ownsRow B e s (.slice (some ⟨g, 0, none⟩) n c) k xs) (hg : w'.heap[g]? = w.heap[g]?) : w'.ownsRow B e s (.slice (some ⟨g, 0, none⟩) n c) k xs := by
  obtain ⟨h1, h2⟩ := h
  refine ⟨h1, ?_⟩
  rcases h2 with ⟨h', _⟩ | ⟨g', cap', cur, h', hB, hh, r⟩
  · simp at h'
  · simp only [Value.slice.injEq, Option.some.injEq, Addr.mk.injEq, and_true, true_and] at h'
    obtain ⟨rfl, rfl, rfl⟩ := h'
    exact .inr ⟨g, c, cur, rfl, hB, by rw [hg]; exact hh, r⟩
end Go.Proofs.YtmfbcnigefjgpaaDoor
namespace Go.Proofs.YtmfbcnigefjgpaaDoor
open Go.RowKit Go.Shelf
theorem ownq_lt {W : World} {base : Nat} {e : TypeId} {s : Nat} {g n c k : Nat} {xs : List Value} (h : W.ownsRow base e s (.slice (some ⟨g, 0, none⟩) n c) k xs) : base ≤ g ∧ g < W.heap.size := by
  rcases h.2 with ⟨h', _⟩ | ⟨g', cap, cur, h', hb, hh, _⟩
  · cases h'
  · cases h'; exact ⟨hb, (Array.getElem?_eq_some_iff.1 hh).1⟩
theorem List.map_set_bool (l : List Bool) (i : Nat) (b : Bool) : (l.set i b).map (fun x => Value.bool x) = (l.map fun x => Value.bool x).set i (.bool b) := by rw [List.map_set]
end Go.Proofs.YtmfbcnigefjgpaaDoor
namespace Go.Proofs.YtmfbcnigefjgpaaDoor
open Go.RowKit Go.Shelf
/-- Some letters lead there. -/
def reachP (m : List (List Int)) (s t : Nat) : Prop := ∃ u : List Int, u.all (inB 0 ((letters m : Int) - 1)) = true ∧ runM m s u = t
theorem reachP.refl (m : List (List Int)) (s : Nat) : reachP m s s := ⟨[], rfl, rfl⟩
theorem reachP.step {m : List (List Int)} {s t : Nat} {x : Nat} (hx : x < letters m) (h : reachP m (nx m s x) t) : reachP m s t := by
  obtain ⟨u, hu, rfl⟩ := h
  refine ⟨(x : Int) :: u, ?_, rfl⟩
  rw [List.all_cons, hu, inB_true (by omega)]; rfl
theorem reachP.trans {m : List (List Int)} {s t r : Nat} (h : reachP m s t) (k : reachP m t r) : reachP m s r := by
  obtain ⟨u, hu, rfl⟩ := h
  obtain ⟨v, hv, rfl⟩ := k
  exact ⟨u ++ v, by rw [List.all_append, hu, hv]; rfl, by rw [runM, List.foldl_append]; rfl⟩
/-- What a search in depth has done. -/
structure DfsPost (m : List (List Int)) (S s S' : Nat) : Prop where
  lt : S' < 2 ^ m.length
  sub : ∀ t, S.testBit t = true → S'.testBit t = true
  here : S'.testBit s = true
  shut : ∀ t, S'.testBit t = true → S.testBit t = false → ∀ x, x < letters m → S'.testBit (nx m t x) = true
  from_ : ∀ t, S'.testBit t = true → S.testBit t = true ∨ reachP m s t
/-- The search goes on from the next state. -/
structure DfsInv (m : List (List Int)) (S s j Sj : Nat) : Prop where
  lt : Sj < 2 ^ m.length
  sub : ∀ t, S.testBit t = true → Sj.testBit t = true
  here : Sj.testBit s = true
  shut : ∀ t, Sj.testBit t = true → S.testBit t = false → t ≠ s → ∀ x, x < letters m → Sj.testBit (nx m t x) = true
  done : ∀ x, x < j → Sj.testBit (nx m s x) = true
  from_ : ∀ t, Sj.testBit t = true → S.testBit t = true ∨ reachP m s t
theorem DfsInv.start {m : List (List Int)} {S s : Nat} (hS : S < 2 ^ m.length) (hs : s < m.length) : DfsInv m S s 0 (S ||| 2 ^ s) := by
  refine ⟨with_lt S s _ hS hs, fun t ht => ?_, ?_, fun t ht h0 hne => ?_, fun x hx => by omega, fun t ht => ?_⟩
  · rw [testBit_with, ht]; rfl
  · rw [testBit_with]; simp
  · rw [testBit_with, h0] at ht; simp at ht; omega
  · rw [testBit_with, Bool.or_eq_true, decide_eq_true_eq] at ht
    rcases ht with h | rfl
    · exact .inl h
    · exact .inr (reachP.refl m _)
theorem DfsInv.next {m : List (List Int)} {S s j Sj S' : Nat} (h : DfsInv m S s j Sj) (hj : j < letters m) (k : DfsPost m Sj (nx m s j) S') : DfsInv m S s (j + 1) S' := by
  refine ⟨k.lt, fun t ht => k.sub t (h.sub t ht), k.sub s h.here, fun t ht h0 hne x hx => ?_, fun x hx => ?_, fun t ht => ?_⟩
  · cases hb : Sj.testBit t with
    | true => exact k.sub _ (h.shut t hb h0 hne x hx)
    | false => exact k.shut t ht hb x hx
  · by_cases e : x = j
    · subst e; exact k.here
    · exact k.sub _ (h.done x (by omega))
  · rcases k.from_ t ht with h1 | h1
    · exact h.from_ t h1
    · exact .inr (reachP.step hj h1)
theorem DfsInv.post {m : List (List Int)} {S s S' : Nat} (h : DfsInv m S s (letters m) S') : DfsPost m S s S' :=
  ⟨h.lt, h.sub, h.here, fun t ht h0 x hx => by
    by_cases e : t = s
    · subst e; exact h.done x hx
    · exact h.shut t ht h0 e x hx, h.from_⟩
end Go.Proofs.YtmfbcnigefjgpaaDoor
namespace Go.Proofs.YtmfbcnigefjgpaaDoor
open Go.RowKit Go.Shelf
open Classical in
/-- The states to which letters lead, as a set. -/
noncomputable def reachM (m : List (List Int)) (s : Nat) : Nat := ofList (((List.range m.length).filter fun t => decide (reachP m s t)).map fun t : Nat => (t : Int))
/-- Strongly connected. -/
noncomputable def connM (m : List (List Int)) : Bool := (List.range m.length).all fun s => decide (reachM m s = 2 ^ m.length - 1)
end Go.Proofs.YtmfbcnigefjgpaaDoor
namespace Go.Proofs.YtmfbcnigefjgpaaDoor
open Go.RowKit Go.Shelf
/-- A step: the place, the step that it was reached from, the letter. -/
abbrev Steps := List (Int × Int × Int)
def plB (B : Steps) (i : Nat) : Int := (B.getD i (0, 0, 0)).1
def frB (B : Steps) (i : Nat) : Int := (B.getD i (0, 0, 0)).2.1
def leB (B : Steps) (i : Nat) : Int := (B.getD i (0, 0, 0)).2.2
/-- Each step but the first one comes from an earlier one. -/
def TreeB (B : Steps) : Prop := 0 < B.length ∧ frB B 0 = -1 ∧ ∀ i, 0 < i → i < B.length → 0 ≤ frB B i ∧ frB B i < i
def wordF (B : Steps) : Nat → Nat → List Int
  | 0, _ => []
  | f + 1, i => if frB B i < 0 then [] else wordF B f (frB B i).toNat ++ [leB B i]
def wordB (B : Steps) (i : Nat) : List Int := wordF B (i + 1) i
end Go.Proofs.YtmfbcnigefjgpaaDoor
namespace Go.Proofs.YtmfbcnigefjgpaaDoor
open Go.RowKit Go.Shelf Go.Maps Go.WideAt
/-- A map from numbers to bools that reads as a set. -/
def SeenMap (w : World) (bm n : Nat) (S : Nat → Bool) : Prop :=
  ∃ D : DataW Unit, w.ownsMap Tryd.prog 3 (plainElem Tryd.prog 4) bm n D ∧ IsMap D ∧ ∀ p : Nat, D.atKey (.int .i64 p) (.lit (.bool false)) = .lit (.bool (S p))
theorem SeenMap.made (w : World) : SeenMap (w.alloc (.map #[] 0)) w.heap.size 0 (fun _ => false) :=
  ⟨.map [], World.ownsMap_made w _ _ _, ⟨[], rfl⟩, fun p => rfl⟩
theorem SeenMap.kept {w w' : World} {bm n : Nat} {S : Nat → Bool} (h : SeenMap w bm n S) (hk : w'.heap[bm]? = w.heap[bm]?) : SeenMap w' bm n S := by
  obtain ⟨D, ⟨es, clock, hb, F, hs, hD⟩, hM, hS⟩ := h
  exact ⟨D, ⟨es, clock, hk.trans hb, F, hs, hD⟩, hM, hS⟩
theorem SeenMap.lt {w : World} {bm n : Nat} {S : Nat → Bool} (h : SeenMap w bm n S) : bm < w.heap.size := by
  obtain ⟨D, hD, _⟩ := h; exact hD.lt
end Go.Proofs.YtmfbcnigefjgpaaDoor
namespace Go.Proofs.YtmfbcnigefjgpaaDoor
open Go.RowKit Go.Shelf
def hasP (B : Steps) (p : Nat) : Bool := B.any fun t => t.1 == (p : Int)
/-- One letter from the place of a step. -/
def addB (ld : Nat → Nat → Nat) (B : Steps) (p i x : Nat) : Steps := if hasP B (ld p x) then B else B ++ [(((ld p x : Nat) : Int), (i : Int), (x : Int))]
def rowB (ld : Nat → Nat → Nat) (B : Steps) (p i : Nat) : Nat → Steps
  | 0 => B
  | x + 1 => addB ld (rowB ld B p i x) p i x
def bfsTo (ld : Nat → Nat → Nat) (K s : Nat) : Nat → Steps
  | 0 => [((s : Int), -1, 0)]
  | i + 1 => if i < (bfsTo ld K s i).length then rowB ld (bfsTo ld K s i) (plB (bfsTo ld K s i) i).toNat i K else bfsTo ld K s i
theorem getD_pre {B C : Steps} (h : B <+: C) (i : Nat) (hi : i < B.length) : C.getD i (0, 0, 0) = B.getD i (0, 0, 0) := by
  obtain ⟨t, rfl⟩ := h
  simp only [List.getD_eq_getElem?_getD, List.getElem?_append_left hi]
/-- What holds of steps: a tree; each place once, and below n. -/
structure GoodB (n : Nat) (B : Steps) : Prop where
  tree : TreeB B
  below : ∀ i, i < B.length → ∃ p : Nat, plB B i = p ∧ p < n
  nodup : (B.map (·.1)).Nodup
  let_ : ∀ i, i < B.length → ∃ x : Nat, leB B i = x ∧ x < 1000
theorem pre_pl {B C : Steps} (h : B <+: C) (i : Nat) (hi : i < B.length) : plB C i = plB B i ∧ frB C i = frB B i ∧ leB C i = leB B i := by
  unfold plB frB leB; rw [getD_pre h i hi]; exact ⟨rfl, rfl, rfl⟩
theorem snoc_pl (B : Steps) (p : Nat) (i x : Int) : plB (B ++ [((p : Int), i, x)]) B.length = p ∧ frB (B ++ [((p : Int), i, x)]) B.length = i ∧ leB (B ++ [((p : Int), i, x)]) B.length = x := by
  unfold plB frB leB; simp [List.getD_eq_getElem?_getD]
theorem GoodB.start {n s : Nat} (hs : s < n) : GoodB n [((s : Int), -1, 0)] := by
  refine ⟨⟨by simp, rfl, fun i h0 hi => by simp at hi; omega⟩, fun i hi => ?_, by simp, fun i hi => ?_⟩
  · obtain rfl : i = 0 := by simpa using hi
    exact ⟨s, rfl, hs⟩
  · obtain rfl : i = 0 := by simpa using hi
    exact ⟨0, rfl, by omega⟩
theorem GoodB.add {n : Nat} {B : Steps} (h : GoodB n B) {ld : Nat → Nat → Nat} {p i x : Nat} (hi : i < B.length) (hx : x < 1000) (hq : ld p x < n) : GoodB n (addB ld B p i x) := by
  unfold addB
  split
  · exact h
  · rename_i hn
    obtain ⟨s1, s2, s3⟩ := snoc_pl B (ld p x) (i : Int) (x : Int)
    have hp : B <+: B ++ [(((ld p x : Nat) : Int), (i : Int), (x : Int))] := List.prefix_append _ _
    obtain ⟨t1, t2, t3⟩ := h.tree
    refine ⟨⟨by simp, by rw [(pre_pl hp 0 t1).2.1]; exact t2, fun j h0 hj => ?_⟩, fun j hj => ?_, ?_, fun j hj => ?_⟩
    · by_cases e : j < B.length
      · rw [(pre_pl hp j e).2.1]; exact t3 j h0 e
      · obtain rfl : j = B.length := by simp at hj; omega
        rw [s2]; omega
    · by_cases e : j < B.length
      · rw [(pre_pl hp j e).1]; exact h.below j e
      · obtain rfl : j = B.length := by simp at hj; omega
        exact ⟨_, s1, hq⟩
    · rw [List.map_append, List.nodup_append]
      refine ⟨h.nodup, by simp, fun a ha b hb => ?_⟩
      simp only [List.map_cons, List.map_nil, List.mem_cons, List.mem_nil_iff, or_false] at hb
      subst hb
      intro e
      subst e
      obtain ⟨t, ht, he⟩ := List.mem_map.1 ha
      refine hn ?_
      rw [hasP, List.any_eq_true]
      exact ⟨t, ht, by rw [he]; simp⟩
    · by_cases e : j < B.length
      · rw [(pre_pl hp j e).2.2]; exact h.let_ j e
      · obtain rfl : j = B.length := by simp at hj; omega
        exact ⟨x, s3, hx⟩
theorem nodup_len : ∀ (n : Nat) (l : List Int), l.Nodup → (∀ x ∈ l, 0 ≤ x ∧ x < (n : Int)) → l.length ≤ n
  | 0, l, _, hb => by
    cases l with
    | nil => simp
    | cons a l => have := hb a (by simp); omega
  | n + 1, l, hn, hb => by
    by_cases hm : (n : Int) ∈ l
    · have h1 := nodup_len n (l.erase n) (hn.erase _) (fun x hx => by
        have h2 := hb x (List.mem_of_mem_erase hx)
        have h3 : x ≠ n := fun e => by subst e; exact (List.Nodup.not_mem_erase hn) hx
        omega)
      rw [List.length_erase_of_mem hm] at h1
      omega
    · have := nodup_len n l hn (fun x hx => by
        have h2 := hb x hx
        have h3 : x ≠ n := fun e => by subst e; exact hm hx
        omega)
      omega
theorem GoodB.len {n : Nat} {B : Steps} (h : GoodB n B) : B.length ≤ n := by
  have := nodup_len n (B.map (·.1)) h.nodup (fun x hx => by
    obtain ⟨t, ht, rfl⟩ := List.mem_map.1 hx
    obtain ⟨i, hi, rfl⟩ := List.mem_iff_getElem.1 ht
    obtain ⟨p, hp, hpn⟩ := h.below i hi
    unfold plB at hp
    rw [List.getD_eq_getElem?_getD, List.getElem?_eq_getElem hi, Option.getD_some] at hp
    omega)
  simpa using this
end Go.Proofs.YtmfbcnigefjgpaaDoor
namespace Go.Proofs.YtmfbcnigefjgpaaDoor
open Go.RowKit Go.Shelf
/-- The steps come in the order of those that they come from, up to a bound. -/
def RiseB (B : Steps) (b : Int) : Prop := (∀ k, k < B.length → frB B k ≤ b) ∧ ∀ j k, j ≤ k → k < B.length → frB B j ≤ frB B k
theorem RiseB.mono {B : Steps} {b c : Int} (h : RiseB B b) (hbc : b ≤ c) : RiseB B c := ⟨fun k hk => by have := h.1 k hk; omega, h.2⟩
theorem RiseB.add {B : Steps} {i : Nat} (h : RiseB B i) (ld : Nat → Nat → Nat) (p x : Nat) : RiseB (addB ld B p i x) i := by
  unfold addB
  split
  · exact h
  · obtain ⟨s1, s2, s3⟩ := snoc_pl B (ld p x) (i : Int) (x : Int)
    have hp : B <+: B ++ [(((ld p x : Nat) : Int), (i : Int), (x : Int))] := List.prefix_append _ _
    have key : ∀ k, k < (B ++ [(((ld p x : Nat) : Int), (i : Int), (x : Int))]).length → (k < B.length ∧ frB (B ++ [(((ld p x : Nat) : Int), (i : Int), (x : Int))]) k = frB B k) ∨ (k = B.length ∧ frB (B ++ [(((ld p x : Nat) : Int), (i : Int), (x : Int))]) k = i) := fun k hk => by
      by_cases e : k < B.length
      · exact .inl ⟨e, (pre_pl hp k e).2.1⟩
      · have e2 : k = B.length := by rw [List.length_append] at hk; simp at hk; omega
        subst e2
        exact .inr ⟨rfl, s2⟩
    refine ⟨fun k hk => ?_, fun j k hjk hk => ?_⟩
    · rcases key k hk with ⟨h1, h2⟩ | ⟨_, h2⟩ <;> rw [h2]
      · exact h.1 k h1
      · exact Int.le_refl _
    · rcases key k hk with ⟨h1, h2⟩ | ⟨h1, h2⟩
      · rcases key j (by omega) with ⟨h3, h4⟩ | ⟨h3, h4⟩
        · rw [h2, h4]; exact h.2 j k hjk h1
        · omega
      · rcases key j (by omega) with ⟨h3, h4⟩ | ⟨h3, h4⟩
        · rw [h2, h4]; exact h.1 j h3
        · rw [h2, h4]; exact Int.le_refl _
end Go.Proofs.YtmfbcnigefjgpaaDoor
namespace Go.Proofs.YtmfbcnigefjgpaaDoor
open Go.RowKit Go.Shelf
/-- Each step's letter leads from the place that it comes from. -/
def EdgeB (ld : Nat → Nat → Nat) (B : Steps) : Prop := ∀ k, 0 < k → k < B.length → plB B k = ((ld (plB B (frB B k).toNat).toNat (leB B k).toNat : Nat) : Int)
theorem EdgeB.add {ld : Nat → Nat → Nat} {B : Steps} (hT : TreeB B) (h : EdgeB ld B) {p i x : Nat} (hi : i < B.length) (hp : plB B i = (p : Int)) : EdgeB ld (addB ld B p i x) := by
  unfold addB
  split
  · exact h
  · obtain ⟨s1, s2, s3⟩ := snoc_pl B (ld p x) (i : Int) (x : Int)
    have hpre : B <+: B ++ [(((ld p x : Nat) : Int), (i : Int), (x : Int))] := List.prefix_append _ _
    intro k h0 hk
    by_cases e : k < B.length
    · obtain ⟨t1, t2⟩ := hT.2.2 k h0 e
      rw [(pre_pl hpre k e).1, (pre_pl hpre k e).2.1, (pre_pl hpre k e).2.2, (pre_pl hpre (frB B k).toNat (by omega)).1]
      exact h k h0 e
    · have e2 : k = B.length := by rw [List.length_append] at hk; simp at hk; omega
      subst e2
      rw [s1, s2, s3, Int.toNat_natCast, Int.toNat_natCast, (pre_pl hpre i hi).1, hp, Int.toNat_natCast]
end Go.Proofs.YtmfbcnigefjgpaaDoor
namespace Go.Proofs.YtmfbcnigefjgpaaDoor
open Go.RowKit Go.Shelf
/-- The steps came in the order of (the step that they come from, the letter); all before a round and a letter. -/
def OrdB (B : Steps) (i x : Int) : Prop :=
  (∀ k, 0 < k → k < B.length → frB B k < i ∨ (frB B k = i ∧ leB B k < x)) ∧ ∀ j k, 0 < j → j < k → k < B.length → frB B j < frB B k ∨ (frB B j = frB B k ∧ leB B j < leB B k)
theorem OrdB.add {B : Steps} {i x : Nat} (h : OrdB B i x) (ld : Nat → Nat → Nat) (p : Nat) : OrdB (addB ld B p i x) i ((x : Int) + 1) := by
  unfold addB
  split
  · refine ⟨fun k h0 hk => ?_, h.2⟩
    rcases h.1 k h0 hk with h1 | ⟨h1, h2⟩
    · exact .inl h1
    · exact .inr ⟨h1, by omega⟩
  · obtain ⟨s1, s2, s3⟩ := snoc_pl B (ld p x) (i : Int) (x : Int)
    have hp : B <+: B ++ [(((ld p x : Nat) : Int), (i : Int), (x : Int))] := List.prefix_append _ _
    have key : ∀ k, k < (B ++ [(((ld p x : Nat) : Int), (i : Int), (x : Int))]).length → (k < B.length ∧ frB (B ++ [(((ld p x : Nat) : Int), (i : Int), (x : Int))]) k = frB B k ∧ leB (B ++ [(((ld p x : Nat) : Int), (i : Int), (x : Int))]) k = leB B k) ∨ (k = B.length ∧ frB (B ++ [(((ld p x : Nat) : Int), (i : Int), (x : Int))]) k = i ∧ leB (B ++ [(((ld p x : Nat) : Int), (i : Int), (x : Int))]) k = x) := fun k hk => by
      by_cases e : k < B.length
      · exact .inl ⟨e, (pre_pl hp k e).2.1, (pre_pl hp k e).2.2⟩
      · have e2 : k = B.length := by rw [List.length_append] at hk; simp at hk; omega
        subst e2
        exact .inr ⟨rfl, s2, s3⟩
    refine ⟨fun k h0 hk => ?_, fun j k h0 hjk hk => ?_⟩
    · rcases key k hk with ⟨h1, h2, h3⟩ | ⟨_, h2, h3⟩ <;> rw [h2, h3]
      · rcases h.1 k h0 h1 with h4 | ⟨h4, h5⟩
        · exact .inl h4
        · exact .inr ⟨h4, by omega⟩
      · exact .inr ⟨rfl, by omega⟩
    · rcases key k hk with ⟨h1, h2, h3⟩ | ⟨h1, h2, h3⟩
      · rcases key j (by omega) with ⟨h4, h5, h6⟩ | ⟨h4, h5, h6⟩
        · rw [h2, h3, h5, h6]; exact h.2 j k h0 hjk h1
        · omega
      · rcases key j (by omega) with ⟨h4, h5, h6⟩ | ⟨h4, h5, h6⟩
        · rw [h2, h3, h5, h6]; exact h.1 j h0 h4
        · omega
end Go.Proofs.YtmfbcnigefjgpaaDoor
namespace Go.Proofs.YtmfbcnigefjgpaaDoor
open Go.RowKit Go.Shelf
def lexLt : List Int → List Int → Prop
  | x :: a, y :: b => x < y ∨ (x = y ∧ lexLt a b)
  | _, _ => False
theorem lexLt.trans : ∀ {a b d : List Int}, lexLt a b → lexLt b d → lexLt a d
  | [], _, _, h, _ => h.elim
  | _ :: _, [], _, h, _ => h.elim
  | _ :: _, _ :: _, [], _, k => k.elim
  | x :: a, y :: b, z :: d, h, k => by
    rcases h with h | ⟨rfl, h⟩
    · rcases k with k | ⟨rfl, _⟩
      · exact .inl (by omega)
      · exact .inl h
    · rcases k with k | ⟨rfl, k⟩
      · exact .inl k
      · exact .inr ⟨rfl, lexLt.trans h k⟩
/-- Shorter, or of the same length and earlier in order. -/
def SL (a b : List Int) : Prop := a.length < b.length ∨ (a.length = b.length ∧ lexLt a b)
def SLe (a b : List Int) : Prop := a = b ∨ SL a b
theorem SL.trans {a b d : List Int} (h : SL a b) (k : SL b d) : SL a d := by
  rcases h with h | ⟨h, h'⟩ <;> rcases k with k | ⟨k, k'⟩
  · exact .inl (by omega)
  · exact .inl (by omega)
  · exact .inl (by omega)
  · exact .inr ⟨by omega, h'.trans k'⟩
end Go.Proofs.YtmfbcnigefjgpaaDoor
namespace Go.Proofs.YtmfbcnigefjgpaaDoor
open Go.RowKit Go.Shelf
theorem Turn.mono {X Y : Blocks} {W W' : World} (h : Turn X W W') (hXY : ∀ k, X k → Y k) : Turn Y W W' := ⟨h.os, h.tape, h.output, h.size, fun k hk hY => h.block k hk (fun hX => hY (hXY k hX))⟩
theorem Keep.mono {n₀ : Nat} {X Y : Blocks} {W W' : World} (h : Keep n₀ Y W W') (hXY : ∀ k, X k → Y k) : Keep n₀ X W W' := ⟨h.os, h.tape, h.output, h.size, fun k hk hc => h.block k hk (hc.imp id (hXY k))⟩
section
variable {J : Blocks → List (Nat × Value) → World → Prop} {n₀ : Nat} {X0 : Blocks} {W : World} {bm b6 b7 i : Nat} {B : Steps} {pre : List (Nat × Value)} {X : Blocks} {g cap : Nat} {wr : World}
end
end Go.Proofs.YtmfbcnigefjgpaaDoor
namespace Go.Proofs.YtmfbcnigefjgpaaDoor
open Go.RowKit Go.Shelf
attribute [local go_sem] Oper.semAt_some
theorem row_mono {w : World} {base base' : Nat} {e : TypeId} {s : Nat} {v : Value} {n : Nat} {xs : List Value} (h : w.ownsRow base e s v n xs) (hb : base' ≤ base) : w.ownsRow base' e s v n xs := by
  refine ⟨h.1, ?_⟩
  rcases h.2 with h' | ⟨g, cap, cur, hv, hg, r⟩
  · exact .inl h'
  · exact .inr ⟨g, cap, cur, hv, Nat.le_trans hb hg, r⟩
end Go.Proofs.YtmfbcnigefjgpaaDoor
namespace Go.Proofs.YtmfbcnigefjgpaaDoor
open Go.RowKit Go.Shelf
attribute [local go_sem] Oper.semAt_some
/-- The search from a state of an automaton. -/
def bfsM (m : List (List Int)) (s : Nat) : Steps := bfsTo (fun p x => nx m p (x : Int)) (letters m) s m.length
end Go.Proofs.YtmfbcnigefjgpaaDoor
namespace Go.Proofs.YtmfbcnigefjgpaaDoor
open Go.RowKit Go.Shelf
theorem ldM_ok {m : List (List Int)} (hv : validM m = true) : ∀ p x, p < m.length → x < letters m → nx m p (x : Int) < m.length := fun p x hp hx => by
  obtain ⟨p1, p2, p3, p4, p5⟩ := valid_parts hv
  exact (nx_ok hv hp (x := (x : Int)) (by omega) (by omega)).1
end Go.Proofs.YtmfbcnigefjgpaaDoor
namespace Go.Proofs.YtmfbcnigefjgpaaDoor
open Go.RowKit Go.Shelf
/-- The letters of the steps but the first one are letters. -/
def LetB (K : Nat) (B : Steps) : Prop := ∀ k, 0 < k → k < B.length → 0 ≤ leB B k ∧ leB B k < K
theorem LetB.add {K : Nat} {B : Steps} (h : LetB K B) (ld : Nat → Nat → Nat) (p i : Nat) {x : Nat} (hx : x < K) : LetB K (addB ld B p i x) := by
  unfold addB
  split
  · exact h
  · obtain ⟨s1, s2, s3⟩ := snoc_pl B (ld p x) (i : Int) (x : Int)
    have hpre : B <+: B ++ [(((ld p x : Nat) : Int), (i : Int), (x : Int))] := List.prefix_append _ _
    intro k h0 hk
    by_cases e : k < B.length
    · rw [(pre_pl hpre k e).2.2]; exact h k h0 e
    · have e2 : k = B.length := by rw [List.length_append] at hk; simp at hk; omega
      subst e2
      rw [s3]; omega
end Go.Proofs.YtmfbcnigefjgpaaDoor
namespace Go.Proofs.YtmfbcnigefjgpaaDoor
open Go.RowKit Go.Shelf
/-- No word, and an error. -/
def NoWord (w : World) (c : Int) (e : Ending) (w' : World) : Prop := e = .returned (.tuple #[.slice none 0 0, .int .i64 c]) ∧ Below w.heap.size w w'
end Go.Proofs.YtmfbcnigefjgpaaDoor
namespace Go.Proofs.YtmfbcnigefjgpaaDoor
open Go.RowKit Go.Shelf
/-- The row of the lengths behind k steps. -/
def lensTo (F : Steps) (n : Nat) : Nat → List Int
  | 0 => List.replicate n 0
  | k + 1 => (lensTo F n k).set (plB F k).toNat ((wordB F k).length : Int)
theorem SLe.len {a b : List Int} (h : SLe a b) : a.length ≤ b.length := by
  rcases h with rfl | h | ⟨h, _⟩ <;> omega
/-- The lengths of the shortest words from state 0. -/
def lensM (m : List (List Int)) : List Int := lensTo (bfsM m 0) m.length (bfsM m 0).length
/-- How much longer the way by a letter is. -/
def excM (L : List Int) (m : List (List Int)) (s x : Nat) : Nat := (L.getD s 0 + 1 - L.getD (nx m s (x : Int)) 0).toNat
def gRow (L : List Int) (m : List (List Int)) (s d : Nat) : Nat → Nat
  | 0 => d
  | x + 1 => Nat.gcd (excM L m s x) (gRow L m s d x)
def gAll (L : List Int) (m : List (List Int)) : Nat → Nat
  | 0 => 0
  | s + 1 => gRow L m s (gAll L m s) (letters m)
/-- The period. -/
def perM (m : List (List Int)) : Nat := gAll (lensM m) m m.length
section
variable {m : List (List Int)} (hv : validM m = true) (hc : connM m = true)
include hv hc
end
end Go.Proofs.YtmfbcnigefjgpaaDoor
namespace Go.Proofs.YtmfbcnigefjgpaaDoor
open Go.RowKit Go.Shelf
theorem runQ_lt {m : List (List Int)} (hv : validM m = true) {s : Nat} (hs : s < m.length) {u : List Int} (hu : u.all (inB 0 ((letters m : Int) - 1)) = true) : runM m s u < m.length := by
  induction u generalizing s with
  | nil => exact hs
  | cons x u ih =>
    obtain ⟨hx, hu'⟩ := all_cons_parts hu
    obtain ⟨xn, rfl⟩ := Int.eq_ofNat_of_zero_le hx.1
    exact ih (nx_ok hv hs hx.1 hx.2).1 hu'
end Go.Proofs.YtmfbcnigefjgpaaDoor
namespace Go.Proofs.YtmfbcnigefjgpaaDoor
open Go.RowKit Go.Shelf
theorem runQ_append (m : List (List Int)) (s : Nat) (u v : List Int) : runM m s (u ++ v) = runM m (runM m s u) v := by
  unfold runM; rw [List.foldl_append]
theorem all_append_ok {K : Nat} {u v : List Int} (hu : u.all (inB 0 ((K : Int) - 1)) = true) (hv : v.all (inB 0 ((K : Int) - 1)) = true) : (u ++ v).all (inB 0 ((K : Int) - 1)) = true := by
  rw [List.all_append, hu, hv]; rfl
section
variable {m : List (List Int)} (hv : validM m = true) (hc : connM m = true)
include hv hc
end
end Go.Proofs.YtmfbcnigefjgpaaDoor
namespace Go.Proofs.YtmfbcnigefjgpaaDoor
open Go.RowKit Go.Shelf
theorem least_nat {p : Nat → Prop} : ∀ n, p n → ∃ k, p k ∧ k ≤ n ∧ ∀ j, p j → ¬ j < k := by
  intro n
  induction n using Nat.strongRecOn with
  | _ n ih =>
    intro hn
    by_cases h : ∃ j, p j ∧ j < n
    · obtain ⟨j, hj, hlt⟩ := h
      obtain ⟨k, h1, h2, h3⟩ := ih j hlt hj
      exact ⟨k, h1, by omega, h3⟩
    · exact ⟨n, hn, Nat.le_refl _, fun j hj hlt => h ⟨j, hj, hlt⟩⟩
theorem allw_take {K : Nat} {u : List Int} (h : u.all (inB 0 ((K : Int) - 1)) = true) (i : Nat) : (u.take i).all (inB 0 ((K : Int) - 1)) = true := by
  rw [List.all_eq_true] at h ⊢
  exact fun x hx => h x (List.mem_of_mem_take hx)
theorem allw_drop {K : Nat} {u : List Int} (h : u.all (inB 0 ((K : Int) - 1)) = true) (i : Nat) : (u.drop i).all (inB 0 ((K : Int) - 1)) = true := by
  rw [List.all_eq_true] at h ⊢
  exact fun x hx => h x (List.mem_of_mem_drop hx)
theorem run_split (m : List (List Int)) (a : Nat) (u : List Int) (i : Nat) : runM m (runM m a (u.take i)) (u.drop i) = runM m a u := by
  rw [← runQ_append, List.take_append_drop]
theorem pigeon {n k : Nat} (f : Nat → Nat) (hf : ∀ i, i ≤ k → f i < n) (hk : n ≤ k) : ∃ i j, i < j ∧ j ≤ k ∧ f i = f j := by
  apply Classical.byContradiction
  intro hno
  have hnd : ((List.range (k + 1)).map fun i => ((f i : Nat) : Int)).Nodup := by
    unfold List.Nodup
    rw [List.pairwise_map]
    refine List.Pairwise.imp_of_mem (fun {i j} _ hj hlt e => hno ⟨i, j, hlt, ?_, by omega⟩) List.pairwise_lt_range
    have := List.mem_range.1 hj
    omega
  have := nodup_len n _ hnd (fun x hx => by
    obtain ⟨i, hi, rfl⟩ := List.mem_map.1 hx
    have h1 := List.mem_range.1 hi
    have h2 := hf i (by omega)
    omega)
  simp at this
  omega
section
variable {m : List (List Int)} (hv : validM m = true) (hc : connM m = true) (hp : perM m = 1)
include hv hc hp
end
end Go.Proofs.YtmfbcnigefjgpaaDoor
namespace Go.Proofs.YtmfbcnigefjgpaaDoor
open Go.RowKit Go.Shelf
/-- A word of k letters merges the two states. -/
def mergeP (m : List (List Int)) (p q k : Nat) : Prop := ∃ u : List Int, u.all (inB 0 ((letters m : Int) - 1)) = true ∧ u.length = k ∧ runM m p u = runM m q u
theorem mergeP_zero {m : List (List Int)} {p q : Nat} : mergeP m p q 0 ↔ p = q := by
  constructor
  · rintro ⟨u, _, h2, h3⟩
    obtain rfl : u = [] := List.length_eq_zero_iff.1 h2
    exact h3
  · rintro rfl; exact ⟨[], rfl, rfl, rfl⟩
theorem mergeP_cons {m : List (List Int)} {p q x k : Nat} (hx : x < letters m) (h : mergeP m (nx m p (x : Int)) (nx m q (x : Int)) k) : mergeP m p q (k + 1) := by
  obtain ⟨u, h1, h2, h3⟩ := h
  refine ⟨(x : Int) :: u, ?_, by simp [h2], h3⟩
  rw [List.all_cons, h1, Bool.and_true]
  exact inB_true ⟨by omega, by omega⟩
theorem mergeP_head {m : List (List Int)} {p q k : Nat} (h : mergeP m p q (k + 1)) : ∃ x, x < letters m ∧ mergeP m (nx m p (x : Int)) (nx m q (x : Int)) k := by
  obtain ⟨u, h1, h2, h3⟩ := h
  cases u with
  | nil => simp at h2
  | cons y u =>
    obtain ⟨hy, hu⟩ := all_cons_parts h1
    obtain ⟨x, rfl⟩ := Int.eq_ofNat_of_zero_le hy.1
    exact ⟨x, by omega, u, hu, by simpa using h2, h3⟩
theorem mergeP_symm {m : List (List Int)} {p q k : Nat} (h : mergeP m p q k) : mergeP m q p k := by
  obtain ⟨u, h1, h2, h3⟩ := h
  exact ⟨u, h1, h2, h3.symm⟩
/-- A shortest word that merges the two states has k letters. -/
def mdist (m : List (List Int)) (p q k : Nat) : Prop := mergeP m p q k ∧ ∀ i, i < k → ¬ mergeP m p q i
theorem mdist_symm {m : List (List Int)} {p q k : Nat} (h : mdist m p q k) : mdist m q p k := ⟨mergeP_symm h.1, fun i hi k => h.2 i hi (mergeP_symm k)⟩
theorem mdist_zero {m : List (List Int)} {p q : Nat} : mdist m p q 0 ↔ p = q := by
  constructor
  · exact fun h => mergeP_zero.1 h.1
  · exact fun h => ⟨mergeP_zero.2 h, fun i hi => by omega⟩
theorem mdist_unique {m : List (List Int)} {p q i j : Nat} (h : mdist m p q i) (k : mdist m p q j) : i = j := by
  rcases Nat.lt_trichotomy i j with e | e | e
  · exact absurd h.1 (k.2 i e)
  · exact e
  · exact absurd k.1 (h.2 j e)
theorem mdist_some {m : List (List Int)} {p q k : Nat} (h : mergeP m p q k) : ∃ j, j ≤ k ∧ mdist m p q j := by
  obtain ⟨j, h1, h2, h3⟩ := least_nat (p := mergeP m p q) k h
  exact ⟨j, h2, h1, fun i hi hp => h3 i hp hi⟩
theorem mdist_step {m : List (List Int)} {p q k : Nat} (h : mdist m p q (k + 1)) : ∃ x, x < letters m ∧ mdist m (nx m p (x : Int)) (nx m q (x : Int)) k := by
  obtain ⟨x, hx, he⟩ := mergeP_head h.1
  exact ⟨x, hx, he, fun i hi h2 => h.2 (i + 1) (by omega) (mergeP_cons hx h2)⟩
theorem mdist_up {m : List (List Int)} {p q x k : Nat} (hx : x < letters m) (h : mdist m (nx m p (x : Int)) (nx m q (x : Int)) k) (hn : ∀ i, i ≤ k → ¬ mergeP m p q i) : mdist m p q (k + 1) := ⟨mergeP_cons hx h.1, fun i hi => hn i (by omega)⟩
/-- Where there is a length, there are all the shorter ones. -/
theorem mdist_down {m : List (List Int)} (hv : validM m = true) : ∀ k p q, p < m.length → q < m.length → mdist m p q k → ∀ j, j ≤ k → ∃ p' q', p' < m.length ∧ q' < m.length ∧ mdist m p' q' j
  | 0, p, q, hp, hq, h, j, hj => ⟨p, q, hp, hq, by rw [show j = 0 by omega]; exact h⟩
  | k + 1, p, q, hp, hq, h, j, hj => by
    by_cases e : j = k + 1
    · subst e; exact ⟨p, q, hp, hq, h⟩
    · obtain ⟨x, hx, h2⟩ := mdist_step h
      exact mdist_down hv k _ _ (ldM_ok hv p x hp hx) (ldM_ok hv q x hq hx) h2 j (by omega)
theorem mdist_lt {m : List (List Int)} (hv : validM m = true) {p q k : Nat} (hp : p < m.length) (hq : q < m.length) (h : mdist m p q k) : k < m.length * m.length := by
  apply Classical.byContradiction
  intro hk
  have hf : ∀ j, ∃ c, j ≤ k → ∃ p' q', p' < m.length ∧ q' < m.length ∧ mdist m p' q' j ∧ c = p' * m.length + q' := fun j => by
    by_cases hj : j ≤ k
    · obtain ⟨p', q', h1, h2, h3⟩ := mdist_down hv k p q hp hq h j hj
      exact ⟨_, fun _ => ⟨p', q', h1, h2, h3, rfl⟩⟩
    · exact ⟨0, fun h => absurd h hj⟩
  obtain ⟨f, hf⟩ := Classical.axiomOfChoice hf
  obtain ⟨i, j, h1, h2, h3⟩ := pigeon (n := m.length * m.length) (k := k) f (fun i hi => by
    obtain ⟨p', q', a1, a2, _, a4⟩ := hf i hi
    rw [a4]
    have := Nat.mul_le_mul_right m.length (show p' + 1 ≤ m.length by omega)
    rw [Nat.succ_mul] at this
    omega) (by omega)
  obtain ⟨p1, q1, a1, a2, a3, a4⟩ := hf i (by omega)
  obtain ⟨p2, q2, b1, b2, b3, b4⟩ := hf j h2
  rw [a4, b4] at h3
  have e1 : p1 = p2 := by
    have := congrArg (· / m.length) h3
    simp only [Nat.add_comm (_ * _), Nat.add_mul_div_right _ _ (show 0 < m.length by omega), Nat.div_eq_of_lt a2, Nat.div_eq_of_lt b2] at this
    omega
  subst e1
  have e2 : q1 = q2 := by omega
  subst e2
  have := mdist_unique a3 b3
  omega
/-- Behind k rounds: the length of a shortest word, or -1. -/
def mlenAt (m : List (List Int)) : Nat → Nat → Nat → Int
  | 0, p, q => if p = q then 0 else -1
  | k + 1, p, q => if 0 ≤ mlenAt m k p q then mlenAt m k p q else if (List.range (letters m)).any (fun x : Nat => mlenAt m k (nx m p (x : Int)) (nx m q (x : Int)) == (k : Int)) then (k : Int) + 1 else -1
theorem mlenAt_spec (m : List (List Int)) : ∀ k p q, (mlenAt m k p q = -1 ∧ ∀ i, i ≤ k → ¬ mergeP m p q i) ∨ ∃ j : Nat, j ≤ k ∧ mlenAt m k p q = j ∧ mdist m p q j
  | 0, p, q => by
    by_cases e : p = q
    · exact .inr ⟨0, Nat.le_refl _, by simp [mlenAt, e], mdist_zero.2 e⟩
    · refine .inl ⟨by simp [mlenAt, e], fun i hi h => ?_⟩
      obtain rfl : i = 0 := by omega
      exact e (mergeP_zero.1 h)
  | k + 1, p, q => by
    have ih := mlenAt_spec m k
    rcases ih p q with ⟨h1, h2⟩ | ⟨j, h1, h2, h3⟩
    · have hneg : ¬ (0 : Int) ≤ mlenAt m k p q := by rw [h1]; omega
      cases hany : (List.range (letters m)).any (fun x : Nat => mlenAt m k (nx m p (x : Int)) (nx m q (x : Int)) == (k : Int)) with
      | true =>
        obtain ⟨x, hx, he⟩ := List.any_eq_true.1 hany
        have hx' := List.mem_range.1 hx
        have he' : mlenAt m k (nx m p (x : Int)) (nx m q (x : Int)) = (k : Int) := beq_iff_eq.1 he
        rcases ih (nx m p (x : Int)) (nx m q (x : Int)) with ⟨a1, _⟩ | ⟨j, a1, a2, a3⟩
        · omega
        · obtain rfl : j = k := by omega
          refine .inr ⟨j + 1, Nat.le_refl _, ?_, mdist_up hx' a3 h2⟩
          simp only [mlenAt]
          rw [if_neg hneg, if_pos hany]; rfl
      | false =>
        refine .inl ⟨?_, fun i hi h => ?_⟩
        · simp only [mlenAt]
          rw [if_neg hneg, hany]; rfl
        · by_cases e : i ≤ k
          · exact h2 i e h
          · obtain rfl : i = k + 1 := by omega
            obtain ⟨x, hx, hxe⟩ := mergeP_head h
            have hne := List.any_eq_false.1 hany x (List.mem_range.2 hx)
            rcases ih (nx m p (x : Int)) (nx m q (x : Int)) with ⟨a1, a2⟩ | ⟨j, a1, a2, a3⟩
            · exact a2 k (Nat.le_refl _) hxe
            · by_cases e2 : j = k
              · subst e2
                rw [a2] at hne
                simp at hne
              · exact h2 (j + 1) (by omega) (mergeP_cons hx a3.1)
    · refine .inr ⟨j, by omega, ?_, h3⟩
      simp only [mlenAt]
      rw [if_pos (by omega)]
      exact h2
theorem mlenAt_range (m : List (List Int)) (k p q : Nat) : -1 ≤ mlenAt m k p q ∧ mlenAt m k p q ≤ k := by
  rcases mlenAt_spec m k p q with ⟨h1, _⟩ | ⟨j, h1, h2, _⟩ <;> omega
/-- The length of a shortest word that merges, or -1. -/
def mlen (m : List (List Int)) (p q : Nat) : Int := mlenAt m (m.length * m.length) p q
theorem mlen_spec {m : List (List Int)} (hv : validM m = true) {p q : Nat} (hp : p < m.length) (hq : q < m.length) : (mlen m p q = -1 ∧ ∀ k, ¬ mergeP m p q k) ∨ ∃ j : Nat, j < m.length * m.length ∧ mlen m p q = j ∧ mdist m p q j := by
  rcases mlenAt_spec m (m.length * m.length) p q with ⟨h1, h2⟩ | ⟨j, h1, h2, h3⟩
  · refine .inl ⟨h1, fun k h => ?_⟩
    obtain ⟨j, hj, hd⟩ := mdist_some h
    exact h2 j (by have := mdist_lt hv hp hq hd; omega) hd.1
  · exact .inr ⟨j, mdist_lt hv hp hq h3, h2, h3⟩
theorem mlen_of {m : List (List Int)} (hv : validM m = true) {p q j : Nat} (hp : p < m.length) (hq : q < m.length) (h : mdist m p q j) : mlen m p q = j := by
  rcases mlen_spec hv hp hq with ⟨_, h2⟩ | ⟨i, h1, h2, h3⟩
  · exact absurd h.1 (h2 j)
  · rw [h2, mdist_unique h3 h]
theorem mlen_symm {m : List (List Int)} (hv : validM m = true) {p q : Nat} (hp : p < m.length) (hq : q < m.length) : mlen m p q = mlen m q p := by
  rcases mlen_spec hv hp hq with ⟨h1, h2⟩ | ⟨i, h1, h2, h3⟩
  · rcases mlen_spec hv hq hp with ⟨k1, k2⟩ | ⟨j, k1, k2, k3⟩
    · rw [h1, k1]
    · exact absurd (mergeP_symm k3.1) (h2 j)
  · rw [h2, mlen_of hv hq hp (mdist_symm h3)]
/-- The first letter that leads one nearer. -/
def mX (m : List (List Int)) (p q : Nat) : Nat := ((List.range (letters m)).find? fun x : Nat => mlen m (nx m p (x : Int)) (nx m q (x : Int)) == mlen m p q - 1).getD 0
/-- The word that is made so. -/
def mW (m : List (List Int)) : Nat → Nat → Nat → List Int
  | 0, _, _ => []
  | j + 1, p, q => (mX m p q : Int) :: mW m j (nx m p (mX m p q : Int)) (nx m q (mX m p q : Int))
theorem mX_spec {m : List (List Int)} (hv : validM m = true) {p q j : Nat} (hp : p < m.length) (hq : q < m.length) (h : mdist m p q (j + 1)) :
    mX m p q < letters m ∧ mdist m (nx m p (mX m p q : Int)) (nx m q (mX m p q : Int)) j ∧ mlen m (nx m p (mX m p q : Int)) (nx m q (mX m p q : Int)) = mlen m p q - 1 ∧ ∀ y, y < mX m p q → mlen m (nx m p (y : Int)) (nx m q (y : Int)) ≠ mlen m p q - 1 := by
  have hls := mlen_of hv hp hq h
  obtain ⟨x0, hx0, hd0⟩ := mdist_step h
  have hl0 := mlen_of hv (ldM_ok hv p x0 hp hx0) (ldM_ok hv q x0 hq hx0) hd0
  have hfind : ∃ x, (List.range (letters m)).find? (fun x : Nat => mlen m (nx m p (x : Int)) (nx m q (x : Int)) == mlen m p q - 1) = some x := by
    cases he : (List.range (letters m)).find? (fun x : Nat => mlen m (nx m p (x : Int)) (nx m q (x : Int)) == mlen m p q - 1) with
    | some x => exact ⟨x, rfl⟩
    | none =>
      have := List.find?_eq_none.1 he x0 (List.mem_range.2 hx0)
      rw [hl0, hls] at this
      exact absurd (by simp) this
  obtain ⟨x, hx⟩ := hfind
  have hrx : mX m p q = x := by rw [mX, hx]; rfl
  have hpx := List.find?_some hx
  have hmem := List.mem_of_find?_eq_some hx
  have hxl := List.mem_range.1 hmem
  have hp' : mlen m (nx m p (x : Int)) (nx m q (x : Int)) = mlen m p q - 1 := beq_iff_eq.1 hpx
  rw [hrx]
  refine ⟨hxl, ?_, hp', fun y hy => ?_⟩
  · rcases mlen_spec hv (ldM_ok hv p x hp hxl) (ldM_ok hv q x hq hxl) with ⟨a1, _⟩ | ⟨i, a1, a2, a3⟩
    · omega
    · obtain rfl : i = j := by omega
      exact a3
  · obtain ⟨xa, bs, hab, hno⟩ := (List.find?_eq_some_iff_append.1 hx).2
    have hy2 : y ∈ xa := by
      have hyr : y ∈ List.range (letters m) := List.mem_range.2 (by omega)
      rw [hab] at hyr
      rcases List.mem_append.1 hyr with h1 | h1
      · exact h1
      · have hsort : (List.range (letters m)).Pairwise (· < ·) := List.pairwise_lt_range
        rw [hab] at hsort
        have h2 := (List.pairwise_append.1 hsort).2.1
        rcases List.mem_cons.1 h1 with e | e
        · omega
        · have := (List.pairwise_cons.1 h2).1 y e
          omega
    have := hno y hy2
    intro e
    rw [e] at this
    simp at this
theorem mW_ok {m : List (List Int)} (hv : validM m = true) : ∀ j p q, p < m.length → q < m.length → mdist m p q j → (mW m j p q).all (inB 0 ((letters m : Int) - 1)) = true ∧ (mW m j p q).length = j ∧ runM m p (mW m j p q) = runM m q (mW m j p q)
  | 0, p, q, hp, hq, h => ⟨rfl, rfl, mergeP_zero.1 h.1⟩
  | j + 1, p, q, hp, hq, h => by
    obtain ⟨a1, a2, a3, a4⟩ := mX_spec hv hp hq h
    obtain ⟨b1, b2, b3⟩ := mW_ok hv j _ _ (ldM_ok hv p _ hp a1) (ldM_ok hv q _ hq a1) a2
    refine ⟨?_, by simp [mW, b2], b3⟩
    rw [mW, List.all_cons, b1, Bool.and_true]
    exact inB_true ⟨by omega, by omega⟩
theorem mX_symm {m : List (List Int)} (hv : validM m = true) {p q : Nat} (hp : p < m.length) (hq : q < m.length) : mX m p q = mX m q p := by
  have hs := mlen_symm hv hp hq
  have : ∀ l : List Nat, (∀ x ∈ l, x < letters m) → l.find? (fun x : Nat => mlen m (nx m p (x : Int)) (nx m q (x : Int)) == mlen m p q - 1) = l.find? (fun x : Nat => mlen m (nx m q (x : Int)) (nx m p (x : Int)) == mlen m q p - 1) := by
    intro l
    induction l with
    | nil => intro _; rfl
    | cons x l ih =>
      intro hl
      have hx := hl x (by simp)
      rw [List.find?_cons, List.find?_cons, ih fun y hy => hl y (by simp [hy]), mlen_symm hv (ldM_ok hv p x hp hx) (ldM_ok hv q x hq hx), hs]
  unfold mX
  rw [this _ fun x hx => List.mem_range.1 hx]
theorem mW_symm {m : List (List Int)} (hv : validM m = true) : ∀ j p q, p < m.length → q < m.length → mdist m p q j → mW m j p q = mW m j q p
  | 0, _, _, _, _, _ => rfl
  | j + 1, p, q, hp, hq, h => by
    obtain ⟨a1, a2, _, _⟩ := mX_spec hv hp hq h
    rw [mW, mW, ← mX_symm hv hp hq, mW_symm hv j _ _ (ldM_ok hv p _ hp a1) (ldM_ok hv q _ hq a1) a2]
end Go.Proofs.YtmfbcnigefjgpaaDoor
namespace Go.Proofs.YtmfbcnigefjgpaaDoor
open Go.RowKit Go.Shelf
/-- The two states in their order. -/
def canon (p q : Nat) : Nat × Nat := (min p q, max p q)
theorem canon_cases (p q : Nat) : (p ≤ q ∧ canon p q = (p, q)) ∨ (q ≤ p ∧ canon p q = (q, p)) := by
  unfold canon
  rcases Nat.le_total p q with h | h
  · exact .inl ⟨h, by rw [Nat.min_eq_left h, Nat.max_eq_right h]⟩
  · exact .inr ⟨h, by rw [Nat.min_eq_right h, Nat.max_eq_left h]⟩
theorem canon_mdist {m : List (List Int)} {p q k : Nat} : mdist m (canon p q).1 (canon p q).2 k ↔ mdist m p q k := by
  rcases canon_cases p q with ⟨_, e⟩ | ⟨_, e⟩ <;> rw [e]
  exact ⟨mdist_symm, mdist_symm⟩
theorem canon_le (p q : Nat) : (canon p q).1 ≤ (canon p q).2 := by unfold canon; exact Nat.le_trans (Nat.min_le_left _ _) (Nat.le_max_left _ _)
theorem canon_lt {n p q : Nat} (hp : p < n) (hq : q < n) : (canon p q).2 < n := by
  rcases canon_cases p q with ⟨_, e⟩ | ⟨_, e⟩ <;> rw [e] <;> assumption
/-- Where the search stands at entry i: what it has found, with lengths. -/
structure MB (m : List (List Int)) (F : List (Nat × Nat × Nat)) (i : Nat) : Prop where
  ok : ∀ e ∈ F, e.1 ≤ e.2.1 ∧ e.2.1 < m.length ∧ mdist m e.1 e.2.1 e.2.2
  uniq : (F.map fun e => (e.1, e.2.1)).Nodup
  sorted : F.Pairwise fun a b => a.2.2 ≤ b.2.2
  near : ∀ e, F[i]? = some e → ∀ f ∈ F, f.2.2 ≤ e.2.2 + 1
  diag : ∀ s, s < m.length → (s, s, 0) ∈ F
  closed : ∀ j, j < i → ∀ e, F[j]? = some e → ∀ p q x, p < q → q < m.length → x < letters m → canon (nx m p (x : Int)) (nx m q (x : Int)) = (e.1, e.2.1) → ∃ l, (p, q, l) ∈ F
theorem MB.full {m : List (List Int)} {F : List (Nat × Nat × Nat)} {i : Nat} (hv : validM m = true) (h : MB m F i) : ∀ l p q, p ≤ q → q < m.length → mdist m p q l → (∀ e, F[i]? = some e → l ≤ e.2.2) → (i < F.length ∨ i = F.length) → (p, q, l) ∈ F ∨ (∃ e, F[i]? = some e ∧ l = e.2.2 + 1)
  | 0, p, q, hpq, hq, hd, _, _ => by
    obtain rfl := mdist_zero.1 hd
    exact .inl (h.diag p hq)
  | l + 1, p, q, hpq, hq, hd, hi, hil => by
    have hne : p ≠ q := fun e => by
      have := mdist_unique hd (mdist_zero.2 e)
      omega
    obtain ⟨x, hx, h2⟩ := mdist_step hd
    have n1 := ldM_ok hv p x (by omega) hx
    have n2 := ldM_ok hv q x hq hx
    rcases MB.full hv h l _ _ (canon_le _ _) (canon_lt n1 n2) (canon_mdist.2 h2) (fun e he => by have := hi e he; omega) hil with h3 | ⟨e, he, hl⟩
    · obtain ⟨j, hj, hje⟩ := List.mem_iff_getElem.1 h3
      have hji : j < i := by
        apply Classical.byContradiction
        intro hji
        rcases hil with hlt | heq
        · have he : F[i]? = some F[i] := List.getElem?_eq_getElem hlt
          have hle := hi _ he
          by_cases e : j = i
          · subst e
            rw [hje] at hle
            simp at hle
            omega
          · have := List.pairwise_iff_getElem.1 h.sorted i j hlt hj (by omega)
            rw [hje] at this
            simp at this
            omega
        · omega
      obtain ⟨l', hl'⟩ := h.closed j hji _ (by rw [List.getElem?_eq_getElem hj, hje]) p q x (by omega) hq hx rfl
      have := mdist_unique (h.ok _ hl').2.2 hd
      simp only at this
      subst this
      exact .inl hl'
    · have := hi e he
      omega
theorem MB.all {m : List (List Int)} {F : List (Nat × Nat × Nat)} (hv : validM m = true) (h : MB m F F.length) {l p q : Nat} (hpq : p ≤ q) (hq : q < m.length) (hd : mdist m p q l) : (p, q, l) ∈ F := by
  rcases h.full hv l p q hpq hq hd (fun e he => by simp at he) (.inr rfl) with h1 | ⟨e, he, _⟩
  · exact h1
  · simp at he
theorem MB.add {m : List (List Int)} {F : List (Nat × Nat × Nat)} {i : Nat} (hv : validM m = true) (h : MB m F i) {e : Nat × Nat × Nat} (he : F[i]? = some e) {p q x : Nat} (hpq : p < q) (hq : q < m.length) (hx : x < letters m)
    (hc : canon (nx m p (x : Int)) (nx m q (x : Int)) = (e.1, e.2.1)) (hno : ∀ l, (p, q, l) ∉ F) : MB m (F ++ [(p, q, e.2.2 + 1)]) i := by
  have hil : i < F.length := (List.getElem?_eq_some_iff.1 he).1
  have hee := List.mem_of_getElem? he
  have hme := (h.ok e hee).2.2
  have hm1 : mdist m (nx m p (x : Int)) (nx m q (x : Int)) e.2.2 := canon_mdist.1 (by rw [hc]; exact hme)
  have hd : mdist m p q (e.2.2 + 1) := by
    refine mdist_up hx hm1 fun j hj hp => ?_
    obtain ⟨j', hj', hd'⟩ := mdist_some hp
    rcases h.full hv j' p q (by omega) hq hd' (fun e' he' => by rw [he] at he'; cases he'; omega) (.inl hil) with h1 | ⟨e', he', hl⟩
    · exact hno _ h1
    · rw [he] at he'; cases he'; omega
  refine ⟨?_, ?_, ?_, ?_, fun s hs => List.mem_append_left _ (h.diag s hs), ?_⟩
  · intro f hf
    rcases List.mem_append.1 hf with h1 | h1
    · exact h.ok f h1
    · obtain rfl := List.mem_singleton.1 h1
      exact ⟨by simp; omega, hq, hd⟩
  · rw [List.map_append, List.nodup_append]
    refine ⟨h.uniq, by simp, ?_⟩
    rintro a ha b hb rfl
    obtain ⟨f, hf, rfl⟩ := List.mem_map.1 ha
    simp at hb
    exact hno f.2.2 (by rw [← hb.1, ← hb.2]; exact hf)
  · rw [List.pairwise_append]
    refine ⟨h.sorted, by simp, fun a ha b hb => ?_⟩
    obtain rfl := List.mem_singleton.1 hb
    exact h.near e he a ha
  · intro e' he' f hf
    rw [List.getElem?_append_left hil, he] at he'
    cases he'
    rcases List.mem_append.1 hf with h1 | h1
    · exact h.near e he f h1
    · obtain rfl := List.mem_singleton.1 h1
      exact Nat.le_refl _
  · intro j hj e' he' p' q' x' a1 a2 a3 a4
    rw [List.getElem?_append_left (by omega)] at he'
    obtain ⟨l, hl⟩ := h.closed j hj e' he' p' q' x' a1 a2 a3 a4
    exact ⟨l, List.mem_append_left _ hl⟩
theorem MB.next {m : List (List Int)} {F : List (Nat × Nat × Nat)} {i : Nat} (h : MB m F i) {e : Nat × Nat × Nat} (he : F[i]? = some e)
    (hall : ∀ p q x, p < q → q < m.length → x < letters m → canon (nx m p (x : Int)) (nx m q (x : Int)) = (e.1, e.2.1) → ∃ l, (p, q, l) ∈ F) : MB m F (i + 1) := by
  refine ⟨h.ok, h.uniq, h.sorted, ?_, h.diag, ?_⟩
  · intro e' he' f hf
    obtain ⟨b1, b2⟩ := List.getElem?_eq_some_iff.1 he
    obtain ⟨c1, c2⟩ := List.getElem?_eq_some_iff.1 he'
    have := List.pairwise_iff_getElem.1 h.sorted i (i + 1) b1 c1 (by omega)
    rw [b2, c2] at this
    have := h.near e he f hf
    omega
  · intro j hj e' he' p q x a1 a2 a3 a4
    by_cases hji : j = i
    · subst hji
      rw [he] at he'; cases he'
      exact hall p q x a1 a2 a3 a4
    · exact h.closed j (by omega) e' he' p q x a1 a2 a3 a4
/-- The merged pairs. -/
def diag0 (n : Nat) : List (Nat × Nat × Nat) := (List.range n).map fun s => (s, s, 0)
theorem MB.start (m : List (List Int)) : MB m (diag0 m.length) 0 := by
  refine ⟨?_, ?_, ?_, ?_, ?_, fun j hj => by omega⟩
  · intro e he
    obtain ⟨s, hs, rfl⟩ := List.mem_map.1 he
    exact ⟨Nat.le_refl _, List.mem_range.1 hs, mdist_zero.2 rfl⟩
  · unfold diag0 List.Nodup
    rw [List.map_map, List.pairwise_map]
    refine List.Pairwise.imp (fun {a b} hlt e => ?_) List.pairwise_lt_range
    simp at e
    omega
  · unfold diag0
    rw [List.pairwise_map]
    exact List.Pairwise.imp (fun _ => Nat.le_refl _) List.pairwise_lt_range
  · intro e he f hf
    obtain ⟨s, hs, rfl⟩ := List.mem_map.1 hf
    exact Nat.zero_le _
  · exact fun s hs => List.mem_map.2 ⟨s, List.mem_range.2 hs, rfl⟩
/-- No more than n^2 are found. -/
theorem MB.len {m : List (List Int)} {F : List (Nat × Nat × Nat)} {i : Nat} (h : MB m F i) : F.length ≤ m.length * m.length := by
  have hnd : (F.map fun e => ((e.1 * m.length + e.2.1 : Nat) : Int)).Nodup := by
    have hu := h.uniq
    unfold List.Nodup at hu ⊢
    rw [List.pairwise_map] at hu ⊢
    refine List.Pairwise.imp_of_mem (fun {a b} ha hb hne e => hne ?_) hu
    have e' : a.1 * m.length + a.2.1 = b.1 * m.length + b.2.1 := by omega
    have l1 := (h.ok a ha).2.1
    have l2 := (h.ok b hb).2.1
    have e1 : a.1 = b.1 := by
      have := congrArg (· / m.length) e'
      simp only [Nat.add_comm (_ * _), Nat.add_mul_div_right _ _ (show 0 < m.length by omega), Nat.div_eq_of_lt l1, Nat.div_eq_of_lt l2] at this
      omega
    rw [e1] at e'
    rw [e1, show a.2.1 = b.2.1 by omega]
  have := nodup_len (m.length * m.length) _ hnd (fun x hx => by
    obtain ⟨e, he, rfl⟩ := List.mem_map.1 hx
    have l1 := h.ok e he
    have := Nat.mul_le_mul_right m.length (show e.1 + 1 ≤ m.length by omega)
    rw [Nat.succ_mul] at this
    omega)
  simpa using this
end Go.Proofs.YtmfbcnigefjgpaaDoor
namespace Go.Proofs.YtmfbcnigefjgpaaDoor
open Go.RowKit Go.Shelf
theorem canon_ints (p q : Nat) : (((canon p q).1 : Nat) : Int) = min (p : Int) (q : Int) ∧ (((canon p q).2 : Nat) : Int) = max (p : Int) (q : Int) := by
  unfold canon
  constructor <;> simp only <;> omega
set_option maxHeartbeats 1000000 in
theorem pairOf_any (p q : Nat) (w : World) (hp : p < 1000000) (hq : q < 1000000) :
    Calls Tryd.prog 38 #[.int .i64 p, .int .i64 q] w fun e w' => e = .returned (.agg #[.int .i64 ((canon p q).1 : Nat), .int .i64 ((canon p q).2 : Nat)]) ∧ Below w.heap.size w w' := by
  obtain ⟨e1, e2⟩ := canon_ints p q
  rw [e1, e2]
  go_enter Tryd.func38, Tryd.ntmps38
  go_wp2
  all_goals
    go_returns
    refine ⟨?_, bal (Below.refl _ _) _⟩
    simp only [Ending.returned.injEq, Value.agg.injEq, Array.mk.injEq, List.cons.injEq, Value.int.injEq, and_true, true_and]
    try omega
end Go.Proofs.YtmfbcnigefjgpaaDoor
namespace Go.Proofs.YtmfbcnigefjgpaaDoor
open Go.RowKit Go.Shelf
attribute [local go_sem] Oper.semAt_some
theorem ownsRow_pos' {w : World} {base : Nat} {e : TypeId} {s : Nat} {v : Value} {n : Nat} {xs : List Value} (h : w.ownsRow base e s v n xs) (hn : 1 ≤ n) : ∃ g cap, v = .slice (some ⟨g, 0, none⟩) n cap := by
  rcases h.2 with ⟨_, h0⟩ | ⟨g, cap, cur, hv, _⟩
  · omega
  · exact ⟨g, cap, hv⟩
theorem ownsRow_slice {w : World} {base : Nat} {e : TypeId} {s : Nat} {v : Value} {n : Nat} {xs : List Value} (h : w.ownsRow base e s v n xs) : ∃ A cap, v = .slice A n cap := by
  rcases h.2 with ⟨hu, h0⟩ | ⟨g, cap, cur, hv, _⟩
  · exact ⟨none, 0, by rw [hu, h0]⟩
  · exact ⟨_, cap, hv⟩
theorem keep_set_at {n₀ : Nat} {X : Blocks} (W : World) (b i : Nat) (u : Value) (hn : n₀ ≤ b) (hX : ¬ X b) : Keep n₀ X W (W.setCell ⟨b, i, none⟩ u) :=
  ⟨rfl, rfl, rfl, by simp [World.setCell], fun k hk hc => Below.heap_setCell _ _ _ _ (by
    show k ≠ b
    intro e
    subst e
    rcases hc with h | h
    · omega
    · exact hX h)⟩
end Go.Proofs.YtmfbcnigefjgpaaDoor
namespace Go.Proofs.YtmfbcnigefjgpaaDoor
open Go.RowKit Go.Shelf
theorem getI_cell {l : List Int} {i : Nat} (hi : i < l.length) : (l.map fun x => Value.int .i64 x)[i]? = some (.int .i64 (l.getD i 0)) := by
  simp [List.getElem?_map, List.getElem?_eq_getElem hi, List.getD_eq_getElem?_getD]
end Go.Proofs.YtmfbcnigefjgpaaDoor
namespace Go.Proofs.YtmfbcnigefjgpaaDoor
open Go.RowKit Go.Shelf
/-- A list by a function. -/
def Lf (n : Nat) (f : Nat → Int) : List Int := (List.range n).map f
theorem Lf_congr {n : Nat} {f g : Nat → Int} (h : ∀ i, i < n → f i = g i) : Lf n f = Lf n g := List.map_congr_left fun i hi => h i (List.mem_range.1 hi)
theorem Lf_set {n : Nat} (f : Nat → Int) (s : Nat) (v : Int) : (Lf n f).set s v = Lf n (fun i => if i = s then v else f i) := by
  apply List.ext_getElem
  · simp [Lf]
  · intro i h1 h2
    rw [List.getElem_set]
    simp only [Lf, List.getElem_map, List.getElem_range]
    by_cases e : s = i
    · rw [if_pos e, if_pos e.symm]
    · rw [if_neg e, if_neg (fun h => e h.symm)]
end Go.Proofs.YtmfbcnigefjgpaaDoor
namespace Go.Proofs.YtmfbcnigefjgpaaDoor
open Go.RowKit Go.Shelf
theorem new_cell (w : World) (cs : Array Value) (t : TypeId) (i : Nat) (v : Value) (h : cs[i]? = some v) : (w.alloc (.cells cs t)).cell? ⟨w.heap.size, i, none⟩ = some v := by
  unfold World.cell?
  simp only [World.alloc_heap_new]
  simpa using h
theorem new_cell' (w : World) (cs : Array Value) (t : TypeId) (i : Nat) (v : Value) {k : Nat} (hk : w.heap.size = k) (h : cs[i]? = some v) : (w.alloc (.cells cs t)).cell? ⟨k, i, none⟩ = some v := by subst hk; exact new_cell w cs t i v h
theorem pair_block {w : World} {R : Nat} {t : TypeId} {u v : Value} (h : w.heap[R]? = some (.cells #[u, v] t (0, 0))) : w.cell? ⟨R, 0, none⟩ = some u ∧ w.cell? ⟨R, 1, none⟩ = some v ∧ w.frozen? ⟨R, 0, none⟩ = false ∧ w.frozen? ⟨R, 1, none⟩ = false := by
  refine ⟨?_, ?_, ?_, ?_⟩ <;> simp [World.cell?, World.frozen?, h]
theorem pair_stored {w : World} {R : Nat} {t : TypeId} {u v : Value} (h : w.heap[R]? = some (.cells #[u, v] t (0, 0))) (a b : Value) : ((w.setCell ⟨R, 0, none⟩ a).setCell ⟨R, 1, none⟩ b).heap[R]? = some (.cells #[a, b] t (0, 0)) := by
  have h1 : (w.setCell ⟨R, 0, none⟩ a).heap[R]? = some (.cells #[a, v] t (0, 0)) := by
    simp [World.setCell, Array.getElem?_modify, h]
  unfold World.setCell at h1 ⊢
  simp only [Array.getElem?_modify, if_true] at h1 ⊢
  rw [h] at h1 ⊢
  simp
/-- What the region's loads read. -/
def LeadS (w : World) (R : Nat) (a1 a2 a3 a4 a5 a6 a7 : Addr) (u1 u2 u3 u4 u5 u6 u7 : Value) (w' : World) : Prop :=
  Below w.heap.size w w' ∧ w'.cell? a1 = some u1 ∧ w'.cell? a2 = some u2 ∧ w'.cell? a3 = some u3 ∧ w'.cell? a4 = some u4 ∧ w'.cell? a5 = some u5 ∧ w'.cell? a6 = some u6 ∧ w'.cell? a7 = some u7
theorem held_lead {w X : World} {R : Nat} {a1 a2 a3 a4 a5 a6 a7 : Addr} {u1 u2 u3 u4 u5 u6 u7 : Value} (h : LeadS w R a1 a2 a3 a4 a5 a6 a7 u1 u2 u3 u4 u5 u6 u7 X) {w' : World} (hb : Below X.heap.size X w') : LeadS w R a1 a2 a3 a4 a5 a6 a7 u1 u2 u3 u4 u5 u6 u7 w' := by
  obtain ⟨h0, c1, c2, c3, c4, c5, c6, c7⟩ := h
  have k := fun (a : Addr) (u : Value) (c : X.cell? a = some u) => (hb.cell (p := a) (World.block_lt_of_cell? _ _ c)).trans c
  exact ⟨btr h0 hb, k _ _ c1, k _ _ c2, k _ _ c3, k _ _ c4, k _ _ c5, k _ _ c6, k _ _ c7⟩
theorem held_lead_set {w X : World} {R i : Nat} {u : Value} {a1 a2 a3 a4 a5 a6 a7 : Addr} {u1 u2 u3 u4 u5 u6 u7 : Value} (N : w.heap.size ≤ R ∧ a1.block ≠ R ∧ a2.block ≠ R ∧ a3.block ≠ R ∧ a4.block ≠ R ∧ a5.block ≠ R ∧ a6.block ≠ R ∧ a7.block ≠ R) (h : LeadS w R a1 a2 a3 a4 a5 a6 a7 u1 u2 u3 u4 u5 u6 u7 X) : LeadS w R a1 a2 a3 a4 a5 a6 a7 u1 u2 u3 u4 u5 u6 u7 (X.setCell ⟨R, i, none⟩ u) := by
  obtain ⟨h0, c1, c2, c3, c4, c5, c6, c7⟩ := h
  obtain ⟨hR, n1, n2, n3, n4, n5, n6, n7⟩ := N
  have k := fun (a : Addr) (v : Value) (hn : a.block ≠ R) (c : X.cell? a = some v) => show (X.setCell ⟨R, i, none⟩ u).cell? a = some v from (World.cell?_of_block (Below.heap_setCell _ _ _ _ hn)).trans c
  exact ⟨h0.setCell (p := ⟨R, i, none⟩) hR u, k _ _ n1 c1, k _ _ n2 c2, k _ _ n3 c3, k _ _ n4 c4, k _ _ n5 c5, k _ _ n6 c6, k _ _ n7 c7⟩
set_option maxRecDepth 100000 in
set_option maxHeartbeats 2000000 in
theorem lead_pair (v : Value) (m : List (List Int)) (p q x : Nat) (w : World) (h : Rows w v m) (hv : validM m = true) (hp : p < m.length) (hq : q < m.length) (hx : x < letters m) :
    Calls Tryd.prog 54 #[.agg #[v], .agg #[.int .i64 p, .int .i64 q], .int .i64 x] w fun e w' => e = .returned (.agg #[.int .i64 ((canon (nx m p (x : Int)) (nx m q (x : Int))).1 : Nat), .int .i64 ((canon (nx m p (x : Int)) (nx m q (x : Int))).2 : Nat)]) ∧ Below w.heap.size w w' := by
  obtain ⟨p1, p2, p3, p4, p5⟩ := valid_parts hv
  obtain ⟨A, cap, rfl, hml, hcm⟩ := id h
  obtain ⟨b, off, r, hA, hcell, hrow⟩ := hcm p hp
  subst hA
  have hrl := (p5 p hp).1
  obtain ⟨Ar, capr, rfl, -, hcr⟩ := id hrow
  rw [hrl] at hcell
  obtain ⟨br, offr, hAr, hct⟩ := hcr x (by omega)
  subst hAr
  obtain ⟨hn1, hn⟩ := nx_ok hv (s := p) hp (x := (x : Int)) (by omega) (by omega)
  rw [Int.toNat_natCast] at hn
  rw [hn] at hct
  obtain ⟨b2, o2, r2, hA2, hcellq, hrowq⟩ := hcm q hq
  cases hA2
  have hrlq := (p5 q hq).1
  obtain ⟨Aq, capq, rfl, -, hcq⟩ := id hrowq
  rw [hrlq] at hcellq
  obtain ⟨bq, offq, hAq, hctq⟩ := hcq x (by omega)
  subst hAq
  obtain ⟨hq1, hqn⟩ := nx_ok hv (s := q) hq (x := (x : Int)) (by omega) (by omega)
  rw [Int.toNat_natCast] at hqn
  rw [hqn] at hctq
  clear hcr hrow hn hrl hcq hrowq hqn hrlq hcm p5
  generalize nx m p (x : Int) = d at *
  generalize nx m q (x : Int) = d' at *
  have hps : (p : Int) < m.length := by omega
  have hqs : (q : Int) < m.length := by omega
  have hxs : (x : Int) < letters m := by omega
  go_enter Tryd.func54, Tryd.ntmps54
  go_wp2_with fail
  have hX := bal (bal (bal (Below.refl _ w) (.cells #[.slice (some ⟨b, off, none⟩) m.length cap] 24)) (.cells #[.int .i64 p, .int .i64 q] 62)) (.cells #[.int .i64 0, .int .i64 0] 62)
  have c0 := (bal (bal (Below.refl _ _) (.cells #[.int .i64 p, .int .i64 q] 62)) (.cells #[.int .i64 0, .int .i64 0] 62)).cell (p := ⟨w.heap.size, 0, none⟩) (by simp) |>.trans (new_cell w #[.slice (some ⟨b, off, none⟩) m.length cap] 24 0 _ rfl)
  have c1 := (bal (Below.refl _ ((w.alloc (.cells #[.slice (some ⟨b, off, none⟩) m.length cap] 24)).alloc (.cells #[.int .i64 p, .int .i64 q] 62))) (.cells #[.int .i64 0, .int .i64 0] 62)).cell (p := ⟨w.heap.size + 1, 0, none⟩) (by simp) |>.trans (new_cell' (w.alloc (.cells #[.slice (some ⟨b, off, none⟩) m.length cap] 24)) #[.int .i64 p, .int .i64 q] 62 0 _ (by simp) rfl)
  have c2 := (bal (Below.refl _ ((w.alloc (.cells #[.slice (some ⟨b, off, none⟩) m.length cap] 24)).alloc (.cells #[.int .i64 p, .int .i64 q] 62))) (.cells #[.int .i64 0, .int .i64 0] 62)).cell (p := ⟨w.heap.size + 1, 1, none⟩) (by simp) |>.trans (new_cell' (w.alloc (.cells #[.slice (some ⟨b, off, none⟩) m.length cap] 24)) #[.int .i64 p, .int .i64 q] 62 1 _ (by simp) rfl)
  have c3 : (((w.alloc (.cells #[.slice (some ⟨b, off, none⟩) m.length cap] 24)).alloc (.cells #[.int .i64 p, .int .i64 q] 62)).alloc (.cells #[.int .i64 0, .int .i64 0] 62)).heap[w.heap.size + 1 + 1]? = some (.cells #[.int .i64 0, .int .i64 0] 62 (0, 0)) := by
    have := World.alloc_heap_new ((w.alloc (.cells #[.slice (some ⟨b, off, none⟩) m.length cap] 24)).alloc (.cells #[.int .i64 p, .int .i64 q] 62)) (.cells #[.int .i64 0, .int .i64 0] 62)
    rwa [World.size_alloc, World.size_alloc] at this
  generalize hWX : ((w.alloc (.cells #[.slice (some ⟨b, off, none⟩) m.length cap] 24)).alloc (.cells #[.int .i64 p, .int .i64 q] 62)).alloc (.cells #[.int .i64 0, .int .i64 0] 62) = X at *
  clear hWX
  have k1 := (hX.cell (p := ⟨b, off + p, none⟩) (World.block_lt_of_cell? _ _ hcell)).trans hcell
  have k2 := (hX.cell (p := ⟨b, off + q, none⟩) (World.block_lt_of_cell? _ _ hcellq)).trans hcellq
  have k3 := (hX.cell (p := ⟨br, offr + x, none⟩) (World.block_lt_of_cell? _ _ hct)).trans hct
  have k4 := (hX.cell (p := ⟨bq, offq + x, none⟩) (World.block_lt_of_cell? _ _ hctq)).trans hctq
  have HX := hid hX
  have l1 := World.block_lt_of_cell? _ _ hcell
  have l2 := World.block_lt_of_cell? _ _ hct
  have l3 := World.block_lt_of_cell? _ _ hctq
  simp only at l1 l2 l3
  have S0 : LeadS w (w.heap.size + 1 + 1) ⟨w.heap.size, 0, none⟩ ⟨w.heap.size + 1, 0, none⟩ ⟨w.heap.size + 1, 1, none⟩ ⟨b, off + p, none⟩ ⟨b, off + q, none⟩ ⟨br, offr + x, none⟩ ⟨bq, offq + x, none⟩ _ _ _ _ _ _ _ X := ⟨hX, c0, c1, c2, k1, k2, k3, k4⟩
  have keep := hid (fun (w' : World) (hb : Below X.heap.size X w') => held_lead S0 hb)
  have N := hid (show w.heap.size ≤ w.heap.size + 1 + 1 ∧ w.heap.size ≠ w.heap.size + 1 + 1 ∧ w.heap.size + 1 ≠ w.heap.size + 1 + 1 ∧ w.heap.size + 1 ≠ w.heap.size + 1 + 1 ∧ b ≠ w.heap.size + 1 + 1 ∧ b ≠ w.heap.size + 1 + 1 ∧ br ≠ w.heap.size + 1 + 1 ∧ bq ≠ w.heap.size + 1 + 1 by omega)
  have Hc3 := hid c3
  clear hcell hcellq hct hctq h hml hX S0 k1 k2 k3 k4 l1 l2 l3 c0 c1 c2 c3
  go_region_held3 (fun w' => Below w.heap.size w w' ∧ w'.cell? ⟨w.heap.size, 0, none⟩ = some (.slice (some ⟨b, off, none⟩) m.length cap) ∧ w'.cell? ⟨w.heap.size + 1, 0, none⟩ = some (.int .i64 p) ∧ w'.cell? ⟨w.heap.size + 1, 1, none⟩ = some (.int .i64 q) ∧ w'.cell? ⟨b, off + p, none⟩ = some (.slice (some ⟨br, offr, none⟩) (letters m) capr) ∧ w'.cell? ⟨b, off + q, none⟩ = some (.slice (some ⟨bq, offq, none⟩) (letters m) capq) ∧ w'.cell? ⟨br, offr + x, none⟩ = some (.int .i64 d) ∧ w'.cell? ⟨bq, offq + x, none⟩ = some (.int .i64 d')) (first | exact keep.out _ (below_dr X 1) | exact keep.out _ (by assumption) | exact held_lead_set (a1 := ⟨w.heap.size, 0, none⟩) (a2 := ⟨w.heap.size + 1, 0, none⟩) (a3 := ⟨w.heap.size + 1, 1, none⟩) (a4 := ⟨b, off + p, none⟩) (a5 := ⟨b, off + q, none⟩) (a6 := ⟨br, offr + x, none⟩) (a7 := ⟨bq, offq + x, none⟩) N.out (held_lead_set (a1 := ⟨w.heap.size, 0, none⟩) (a2 := ⟨w.heap.size + 1, 0, none⟩) (a3 := ⟨w.heap.size + 1, 1, none⟩) (a4 := ⟨b, off + p, none⟩) (a5 := ⟨b, off + q, none⟩) (a6 := ⟨br, offr + x, none⟩) (a7 := ⟨bq, offq + x, none⟩) N.out (by assumption)))
    (first | (go_at_call 38; go_must (refine (pairOf_any d d' _ (by omega) (by omega)).mono ?_; rintro e y1 ⟨rfl, hy1⟩; have g1 : Below X.heap.size X y1 := btr (by first | exact below_dr X 1 | exact Below.refl _ _ | assumption) hy1; obtain ⟨r1, r2, r3, r4⟩ := pair_block ((g1.block _ (Array.getElem?_eq_some_iff.1 Hc3.out).1).trans Hc3.out))))
  have e1 := pair_stored ((g1.block _ (Array.getElem?_eq_some_iff.1 Hc3.out).1).trans Hc3.out) (.int .i64 ((canon d d').1 : Nat)) (.int .i64 ((canon d d').2 : Nat))
  obtain ⟨r5, r6, -, -⟩ := pair_block e1
  clear e1
  have HB := hid (show Below w.heap.size w _ from (btr HX.out g1).setCell (p := ⟨w.heap.size + 1 + 1, 0, none⟩) (by show w.heap.size ≤ w.heap.size + 1 + 1; omega) (.int .i64 ((canon d d').1 : Nat)) |>.setCell (p := ⟨w.heap.size + 1 + 1, 1, none⟩) (by show w.heap.size ≤ w.heap.size + 1 + 1; omega) (.int .i64 ((canon d d').2 : Nat)))
  generalize (y1.setCell ⟨w.heap.size + 1 + 1, 0, none⟩ (.int .i64 ((canon d d').1 : Nat))).setCell ⟨w.heap.size + 1 + 1, 1, none⟩ (.int .i64 ((canon d d').2 : Nat)) = Y at *
  rename_i hh
  clear hh
  clear r1 r2 r3 r4 Hc3 keep N hy1 g1 HX
  go_wp2
  exact bodyPost_ret (v := .agg #[.int .i64 ((canon d d').1 : Nat), .int .i64 ((canon d d').2 : Nat)]) (by simp [results, Tryd.results54, go_sem, r5, r6]) rfl ⟨rfl, HB.out⟩
end Go.Proofs.YtmfbcnigefjgpaaDoor
namespace Go.Proofs.YtmfbcnigefjgpaaDoor
open Go.RowKit Go.Maps Go.WideAt
def heldR (v : Value) : Option (DataW Value × List MemPlace) := some (.held v, [])
/-- Block b is a map of at most n entries, c of them; the key l holds S l (z where there is none), and is there if T l. -/
def ValMap (w : World) (P : Program) (k : TypeId) (b n : Nat) (z : Value) (S : Lit → Value) (T : Lit → Bool) (c : Nat) : Prop :=
  ∃ D : DataW Value, w.ownsMap P k heldR b n D ∧ IsMap D ∧ Maps.size D = c ∧ ∀ l, D.atKey l (.held z) = .held (S l) ∧ Maps.has D l = T l
section
variable {w : World} {P : Program} {k : TypeId} {b n c : Nat} {z : Value} {S : Lit → Value} {T : Lit → Bool}
theorem ValMap.made (w : World) (P : Program) (k : TypeId) (z : Value) : ValMap (w.alloc (.map #[] 0)) P k w.heap.size 0 z (fun _ => z) (fun _ => false) 0 :=
  ⟨.map [], World.ownsMap_made w _ _ _, ⟨[], rfl⟩, rfl, fun l => ⟨rfl, rfl⟩⟩
theorem ValMap.look {t e : TypeId} (h : ValMap w P k b n z S T c) (K : Keyed P k) (ht : P.underlying t = some (.map k e)) (hz : (zeroValue e).run P w = .ok z w) {key : Value} {kl : Lit} (hkey : keyOf P k key = some kl) :
    (Instr.lookup t (.map (some b)) key false).run P w = .ok (S kl) w := by
  obtain ⟨D, hD, _, _, hS⟩ := h
  obtain ⟨v, ps, hrun, hv⟩ := hD.lookup K ht hz (rfl : heldR z = some (.held z, [])) hkey
  rw [(hS kl).1] at hv
  simp only [heldR, Option.some.injEq, Prod.mk.injEq, DataW.held.injEq] at hv
  rw [hrun, hv.1]
theorem ValMap.look_ok {t e : TypeId} (h : ValMap w P k b n z S T c) (K : Keyed P k) (ht : P.underlying t = some (.map k e)) (hz : (zeroValue e).run P w = .ok z w) {key : Value} {kl : Lit} (hkey : keyOf P k key = some kl) :
    (Instr.lookup t (.map (some b)) key true).run P w = .ok (.tuple #[S kl, .bool (T kl)]) w := by
  obtain ⟨D, hD, _, _, hS⟩ := h
  obtain ⟨v, ps, hrun, hv⟩ := hD.look_ok K ht hz (rfl : heldR z = some (.held z, [])) hkey
  rw [(hS kl).1] at hv
  simp only [heldR, Option.some.injEq, Prod.mk.injEq, DataW.held.injEq] at hv
  rw [hrun, hv.1, (hS kl).2]
open Classical in
theorem ValMap.put {t e : TypeId} (h : ValMap w P k b n z S T c) (K : Keyed P k) (ht : P.underlying t = some (.map k e)) (hn : n < maxLen) {key : Value} {kl : Lit} (hkey : keyOf P k key = some kl) (v : Value) :
    ∃ w', (Instr.mapUpdate t (.map (some b)) key v).run P w = .ok () w' ∧ ValMap w' P k b (n + 1) z (fun l => if l = kl then v else S l) (fun l => if l = kl then true else T l) (if T kl = true then c else c + 1) ∧ w.grownBy w' (some b) := by
  obtain ⟨D, hD, hM, hc, hS⟩ := h
  obtain ⟨w', hrun, h1, h2⟩ := hD.update K ht hn hkey (rfl : heldR v = some (.held v, []))
  refine ⟨w', hrun, ⟨_, h1, ?_, ?_, fun l => ?_⟩, h2⟩
  · obtain ⟨es, rfl⟩ := hM; exact ⟨_, rfl⟩
  · rw [size_put (hD.tidy K), hc, (hS kl).2]
  · by_cases e : l = kl
    · subst e
      rw [atKey_put_same hM (K.key hkey), has_put_same hM (K.key hkey)]
      simp
    · rw [atKey_put_other e, has_put_other e]
      simp only [if_neg e]
      exact hS l
theorem ValMap.kept {w' : World} (h : ValMap w P k b n z S T c) (hk : w'.heap[b]? = w.heap[b]?) : ValMap w' P k b n z S T c := by
  obtain ⟨D, ⟨es, clock, hb, F, hs, hD⟩, hM, hS⟩ := h
  exact ⟨D, ⟨es, clock, hk.trans hb, F, hs, hD⟩, hM, hS⟩
theorem ValMap.lt (h : ValMap w P k b n z S T c) : b < w.heap.size := by
  obtain ⟨D, hD, _⟩ := h; exact hD.lt
theorem ValMap.len {t e : TypeId} (h : ValMap w P k b n z S T c) (ht : P.underlying t = some (.map k e)) (ty : TypeId) : (Builtin.len_ #[t] ty #[.map (some b)]).run P w = .ok (.int .i64 c) w := by
  obtain ⟨D, hD, _, rfl, _⟩ := h
  exact hD.len ht ty
end
end Go.Proofs.YtmfbcnigefjgpaaDoor
namespace Go.Proofs.YtmfbcnigefjgpaaDoor
open Go.RowKit Go.Shelf Go.Maps Go.WideAt Go.WideMaps Go.WideElems
theorem arrPair : ArrKey Tryd.prog 62 3 2 := ⟨Tryd.underlying62, by kernel_rfl, by kernel_rfl, by kernel_rfl⟩
theorem lawPair : KeyLaw Tryd.prog 62 := arrPair.law
theorem keyPair : Keyed Tryd.prog 62 := Keyed.of_law lawPair
/-- A pair as a key. -/
def keyL (p q : Nat) : Lit := .string (keyBytes [.int .i64 p, .int .i64 q])
theorem keyOf_PV (p q : Nat) (hp : p < 1000000) (hq : q < 1000000) : keyOf Tryd.prog 62 (.agg #[.int .i64 p, .int .i64 q]) = some (keyL p q) :=
  keyOf_pair arrPair Tryd.underlying3 ⟨Tryd.prog.types.size - 1, by kernel_rfl⟩ (WalkArith.wf_i64 (by omega)) (WalkArith.wf_i64 (by omega))
theorem keyL_inj {p q p' q' : Nat} (hp : p < 1000000) (hq : q < 1000000) (hp' : p' < 1000000) (hq' : q' < 1000000) (h : keyL p q = keyL p' q') : p = p' ∧ q = q' := by
  have h1 := keyOf_PV p q hp hq
  rw [h] at h1
  have := keyPair.inj h1 (keyOf_PV p' q' hp' hq')
  simp only [Value.agg.injEq, Array.mk.injEq, List.cons.injEq, Value.int.injEq, and_true, true_and] at this
  omega
theorem zeroPairs (w : World) : (zeroValue 80).run Tryd.prog w = .ok (.slice none 0 0) w := by kernel_rfl
theorem zeroInt (w : World) : (zeroValue 3).run Tryd.prog w = .ok (.int .i64 0) w := by kernel_rfl
open Classical in
/-- The entry at a key, and the store that belongs to it. -/
theorem ValMap.entry {w : World} {P : Program} {k t e : TypeId} {b n c : Nat} {z : Value} {S : Lit → Value} {T : Lit → Bool} (h : ValMap w P k b n z S T c) (K : KeyLaw P k) (ht : P.underlying t = some (.map k e)) (hz : ∀ u : World, (zeroValue e).run P u = .ok z u) (hn : n < maxLen) {key : Value} {kl : Lit} (hkey : keyOf P k key = some kl) :
    ∃ st w1, (Instr.mapEntry t (.map (some b)) key).run P w = .ok (.tuple #[S kl, goInt st]) w1 ∧ w.grownBy w1 (some b) ∧ w1.heap.size = w.heap.size ∧
      ∀ (w2 : World) (v : Value), w2.heap[b]? = w1.heap[b]? → ∃ w3 c', (Instr.entryStore t (.map (some b)) (goInt st) v).run P w2 = .ok () w3 ∧ ValMap w3 P k b (n + 1) z (fun l => if l = kl then v else S l) (fun l => if l = kl then true else T l) c' ∧ w2.grownBy w3 (some b) := by
  have h0 := h
  obtain ⟨D, ⟨es, clock, hb, F, hs, rfl⟩, hM, hc, hS⟩ := h
  obtain ⟨v0, st, es1, clock1, hrun, hv0, hback⟩ := entry_then_store K ht hz hb F hkey
  have hv : v0 = S kl := by
    have hs1 := (hS kl).1
    rcases hv0 with ⟨e0, hm0, h3, rfl⟩ | ⟨hno, rfl⟩
    · have := atKey_some K F hkey hm0 h3 (rfl : heldR e0.val = some (.held e0.val, [])) (.held z)
      rw [this] at hs1
      simpa using hs1
    · have := atKey_none K F hkey hno (.held v0)
      rw [this] at hs1
      simpa using hs1
  subst hv
  refine ⟨st, _, hrun, ⟨rfl, rfl, rfl, by simp [Go.ChangeMaps.setBlock], fun i _ hi => Go.ChangeMaps.heap_setBlock_other hb _ (fun e => hi (by rw [e]))⟩, by simp [Go.ChangeMaps.setBlock], fun w2 v hw2 => ?_⟩
  have hb1 : (Go.ChangeMaps.setBlock w b (.map es1 clock1)).heap[b]? = some (.map es1 clock1) := Go.ChangeMaps.heap_setBlock_same hb _
  obtain ⟨es', clock', hr2, hr3⟩ := hback w2 v (hw2.trans hb1)
  obtain ⟨w', hp1, hp2, hp3⟩ := h0.put (Keyed.of_law K) ht hn hkey v
  rw [hr3] at hp1
  simp only [Result.ok.injEq, true_and] at hp1
  subst hp1
  have hb2 := hw2.trans hb1
  refine ⟨_, _, hr2, hp2.kept ?_, ⟨rfl, rfl, rfl, by simp [Go.ChangeMaps.setBlock], fun i _ hi => Go.ChangeMaps.heap_setBlock_other hb2 _ (fun e => hi (by rw [e]))⟩⟩
  rw [Go.ChangeMaps.heap_setBlock_same hb2, Go.ChangeMaps.heap_setBlock_same hb]
/-- A map of the call's own whose keys are pairs: V: what they hold (z where there is nothing), T: which are there, c: how many. -/
def PMap (w : World) (b n : Nat) (z : Value) (V : Nat → Nat → Value) (T : Nat → Nat → Bool) (c : Nat) : Prop :=
  ∃ S T', ValMap w Tryd.prog 62 b n z S T' c ∧ ∀ p q, p < 1000000 → q < 1000000 → S (keyL p q) = V p q ∧ T' (keyL p q) = T p q
section
variable {w : World} {b n c : Nat} {z : Value} {V : Nat → Nat → Value} {T : Nat → Nat → Bool}
theorem PMap.made (w : World) (z : Value) : PMap (w.alloc (.map #[] 0)) w.heap.size 0 z (fun _ _ => z) (fun _ _ => false) 0 :=
  ⟨_, _, ValMap.made w _ _ z, fun _ _ _ _ => ⟨rfl, rfl⟩⟩
theorem PMap.kept {w' : World} (h : PMap w b n z V T c) (hk : w'.heap[b]? = w.heap[b]?) : PMap w' b n z V T c := by
  obtain ⟨S, T', h1, h2⟩ := h
  exact ⟨S, T', h1.kept hk, h2⟩
theorem PMap.lt (h : PMap w b n z V T c) : b < w.heap.size := by
  obtain ⟨S, T', h1, h2⟩ := h; exact h1.lt
theorem PMap.below {w' : World} (h : PMap w b n z V T c) (hb : Below w.heap.size w w') : PMap w' b n z V T c := h.kept (hb.block b h.lt)
theorem PMap.congr {V' : Nat → Nat → Value} {T' : Nat → Nat → Bool} (h : PMap w b n z V T c) (h2 : ∀ p q, p < 1000000 → q < 1000000 → V p q = V' p q ∧ T p q = T' p q) : PMap w b n z V' T' c := by
  obtain ⟨S, T0, h1, h3⟩ := h
  exact ⟨S, T0, h1, fun p q hp hq => ⟨(h3 p q hp hq).1.trans (h2 p q hp hq).1, (h3 p q hp hq).2.trans (h2 p q hp hq).2⟩⟩
theorem PMap.look {t e : TypeId} (h : PMap w b n z V T c) (ht : Tryd.prog.underlying t = some (.map 62 e)) (hz : (zeroValue e).run Tryd.prog w = .ok z w) {p q : Nat} (hp : p < 1000000) (hq : q < 1000000) :
    (Instr.lookup t (.map (some b)) (.agg #[.int .i64 p, .int .i64 q]) false).run Tryd.prog w = .ok (V p q) w := by
  obtain ⟨S, T', h1, h2⟩ := h
  rw [h1.look keyPair ht hz (keyOf_PV p q hp hq), (h2 p q hp hq).1]
theorem PMap.look_ok {t e : TypeId} (h : PMap w b n z V T c) (ht : Tryd.prog.underlying t = some (.map 62 e)) (hz : (zeroValue e).run Tryd.prog w = .ok z w) {p q : Nat} (hp : p < 1000000) (hq : q < 1000000) :
    (Instr.lookup t (.map (some b)) (.agg #[.int .i64 p, .int .i64 q]) true).run Tryd.prog w = .ok (.tuple #[V p q, .bool (T p q)]) w := by
  obtain ⟨S, T', h1, h2⟩ := h
  rw [h1.look_ok keyPair ht hz (keyOf_PV p q hp hq), (h2 p q hp hq).1, (h2 p q hp hq).2]
theorem PMap.len {t e : TypeId} (h : PMap w b n z V T c) (ht : Tryd.prog.underlying t = some (.map 62 e)) (ty : TypeId) : (Builtin.len_ #[t] ty #[.map (some b)]).run Tryd.prog w = .ok (.int .i64 c) w := by
  obtain ⟨S, T', h1, h2⟩ := h
  exact h1.len ht ty
open Classical in
theorem keyL_upd {α : Type} {S : Lit → α} {V : Nat → Nat → α} {p q : Nat} (hp : p < 1000000) (hq : q < 1000000) (v : α) (h : ∀ a b, a < 1000000 → b < 1000000 → S (keyL a b) = V a b) {a b : Nat} (ha : a < 1000000) (hb : b < 1000000) :
    (if keyL a b = keyL p q then v else S (keyL a b)) = if a = p ∧ b = q then v else V a b := by
  by_cases e : a = p ∧ b = q
  · rw [if_pos e, if_pos (by rw [e.1, e.2])]
  · rw [if_neg e, if_neg (fun h => e (keyL_inj ha hb hp hq h))]
    exact h a b ha hb
theorem PMap.put {t e : TypeId} (h : PMap w b n z V T c) (ht : Tryd.prog.underlying t = some (.map 62 e)) (hn : n < maxLen) {p q : Nat} (hp : p < 1000000) (hq : q < 1000000) (v : Value) :
    ∃ w', (Instr.mapUpdate t (.map (some b)) (.agg #[.int .i64 p, .int .i64 q]) v).run Tryd.prog w = .ok () w' ∧ PMap w' b (n + 1) z (fun a d => if a = p ∧ d = q then v else V a d) (fun a d => if a = p ∧ d = q then true else T a d) (if T p q = true then c else c + 1) ∧ w.grownBy w' (some b) := by
  obtain ⟨S, T', h1, h2⟩ := h
  obtain ⟨w', g1, g2, g3⟩ := h1.put keyPair ht hn (keyOf_PV p q hp hq) v
  rw [(h2 p q hp hq).2] at g2
  exact ⟨w', g1, ⟨_, _, g2, fun a d ha hd => ⟨keyL_upd hp hq v (fun a b ha hb => (h2 a b ha hb).1) ha hd, keyL_upd hp hq true (fun a b ha hb => (h2 a b ha hb).2) ha hd⟩⟩, g3⟩
theorem PMap.entry {t e : TypeId} (h : PMap w b n z V T c) (ht : Tryd.prog.underlying t = some (.map 62 e)) (hz : ∀ u : World, (zeroValue e).run Tryd.prog u = .ok z u) (hn : n < maxLen) {p q : Nat} (hp : p < 1000000) (hq : q < 1000000) :
    ∃ st w1, (Instr.mapEntry t (.map (some b)) (.agg #[.int .i64 p, .int .i64 q])).run Tryd.prog w = .ok (.tuple #[V p q, goInt st]) w1 ∧ w.grownBy w1 (some b) ∧ w1.heap.size = w.heap.size ∧
      ∀ (w2 : World) (v : Value), w2.heap[b]? = w1.heap[b]? → ∃ w3 c', (Instr.entryStore t (.map (some b)) (goInt st) v).run Tryd.prog w2 = .ok () w3 ∧
        PMap w3 b (n + 1) z (fun a d => if a = p ∧ d = q then v else V a d) (fun a d => if a = p ∧ d = q then true else T a d) c' ∧ w2.grownBy w3 (some b) := by
  obtain ⟨S, T', h1, h2⟩ := h
  obtain ⟨st, w1, g1, g2, g3, g4⟩ := h1.entry lawPair ht hz hn (keyOf_PV p q hp hq)
  rw [(h2 p q hp hq).1] at g1
  refine ⟨st, w1, g1, g2, g3, fun w2 v hw2 => ?_⟩
  obtain ⟨w3, c', k1, k2, k3⟩ := g4 w2 v hw2
  exact ⟨w3, c', k1, ⟨_, _, k2, fun a d ha hd => ⟨keyL_upd hp hq v (fun a b ha hb => (h2 a b ha hb).1) ha hd, keyL_upd hp hq true (fun a b ha hb => (h2 a b ha hb).2) ha hd⟩⟩, k3⟩
end
/-- The cells of a list of pairs. -/
def pairCells (L : List (Nat × Nat)) : List Value := L.flatMap fun e => [.int .i64 (e.1 : Nat), .int .i64 (e.2 : Nat)]
theorem pairCells_snoc (L : List (Nat × Nat)) (p q : Nat) : pairCells (L ++ [(p, q)]) = pairCells L ++ [.int .i64 p, .int .i64 q] := by
  unfold pairCells
  rw [List.flatMap_append]
  simp
theorem pairCells_get : ∀ (L : List (Nat × Nat)) (i : Nat) (e : Nat × Nat), L[i]? = some e → (pairCells L)[i * 2]? = some (.int .i64 (e.1 : Nat)) ∧ (pairCells L)[i * 2 + 1]? = some (.int .i64 (e.2 : Nat))
  | [], i, e, h => by simp at h
  | f :: L, 0, e, h => by
    simp at h
    subst h
    exact ⟨rfl, rfl⟩
  | f :: L, i + 1, e, h => by
    have := pairCells_get L i e (by simpa using h)
    unfold pairCells at this ⊢
    rw [List.flatMap_cons, show (i + 1) * 2 = i * 2 + 1 + 1 by omega]
    exact this
/-- A slice of pairs of the call's own. -/
def PRow (w : World) (n₀ : Nat) (v : Value) (L : List (Nat × Nat)) : Prop := w.ownsRow n₀ 62 2 v L.length (pairCells L)
theorem PRow.cell {w : World} {n₀ g cap l : Nat} {L : List (Nat × Nat)} (h : PRow w n₀ (.slice (some ⟨g, 0, none⟩) l cap) L) {i : Nat} {e : Nat × Nat} (he : L[i]? = some e) :
    w.cell? ⟨g, i * 2, none⟩ = some (.int .i64 (e.1 : Nat)) ∧ w.cell? ⟨g, i * 2 + 1, none⟩ = some (.int .i64 (e.2 : Nat)) := by
  obtain ⟨h1, h2⟩ := pairCells_get L i e he
  have k := World.ownsRow.cells h (g := g) rfl
  have a1 := k _ _ h1
  have a2 := k _ _ h2
  simp only [Addr.add] at a1 a2
  refine ⟨?_, ?_⟩
  · by_cases e : i * 2 = 0
    · rw [e] at a1 ⊢; simpa using a1
    · simpa [e] using a1
  · simpa using a2
/-- The slices of pairs, one for each key, each in a block of its own. -/
structure Grp (w : World) (n₀ b N : Nat) (V : Nat → Nat → Value) (L : Nat → Nat → List (Nat × Nat)) : Prop where
  map : ∃ T c, PMap w b N (.slice none 0 0) V T c
  rows : ∀ i j, PRow w n₀ (V i j) (L i j)
  apart : ∀ i j i' j' k, (V i j).ownBlock = some k → (V i' j').ownBlock = some k → i = i' ∧ j = j'
  off : ∀ i j, (V i j).ownBlock ≠ some b
theorem Grp.made (w : World) (n₀ : Nat) : Grp (w.alloc (.map #[] 0)) n₀ w.heap.size 0 (fun _ _ => .slice none 0 0) (fun _ _ => []) :=
  ⟨⟨_, _, PMap.made w _⟩, fun _ _ => World.ownsRow_nil _ _ _ _, fun _ _ _ _ _ h => by simp [Value.ownBlock] at h, fun _ _ h => by simp [Value.ownBlock] at h⟩
theorem Grp.below {w w' : World} {n₀ b N : Nat} {V : Nat → Nat → Value} {L : Nat → Nat → List (Nat × Nat)} (h : Grp w n₀ b N V L) (hb : Below w.heap.size w w') : Grp w' n₀ b N V L := by
  obtain ⟨T, c, hm⟩ := h.map
  exact ⟨⟨T, c, hm.below hb⟩, fun i j => ownsRow_same (h.rows i j) fun g hg => hb.block g ((h.rows i j).lt g hg).2, h.apart, h.off⟩
end Go.Proofs.YtmfbcnigefjgpaaDoor
namespace Go.Proofs.YtmfbcnigefjgpaaDoor
open Go.RowKit Go.Shelf
theorem mlen_canon {m : List (List Int)} (hv : validM m = true) {p q : Nat} (hp : p < m.length) (hq : q < m.length) : mlen m (canon p q).1 (canon p q).2 = mlen m p q := by
  rcases canon_cases p q with ⟨_, e⟩ | ⟨_, e⟩ <;> rw [e]
  exact mlen_symm hv hq hp
theorem mW_canon {m : List (List Int)} (hv : validM m = true) {p q j : Nat} (hp : p < m.length) (hq : q < m.length) (h : mdist m p q j) : mW m j (canon p q).1 (canon p q).2 = mW m j p q := by
  rcases canon_cases p q with ⟨_, e⟩ | ⟨_, e⟩ <;> rw [e]
  exact (mW_symm hv j p q hp hq h).symm
/-- All pairs of states, the first not greater. -/
def allPairs (n : Nat) : List (Nat × Nat) := (List.range n).flatMap fun q => (List.range (q + 1)).map fun p => (p, q)
theorem allPairs_mem {n : Nat} {k : Nat × Nat} : k ∈ allPairs n ↔ k.1 ≤ k.2 ∧ k.2 < n := by
  unfold allPairs
  simp only [List.mem_flatMap, List.mem_map, List.mem_range]
  constructor
  · rintro ⟨q, hq, p, hp, rfl⟩; exact ⟨by simp only; omega, hq⟩
  · rintro ⟨h1, h2⟩; exact ⟨k.2, h2, k.1, by omega, rfl⟩
theorem allPairs_succ (n : Nat) : allPairs (n + 1) = allPairs n ++ (List.range (n + 1)).map fun p => (p, n) := by
  unfold allPairs
  rw [List.range_succ, List.flatMap_append]
  simp [List.range_succ]
theorem allPairs_len : ∀ n, 2 * (allPairs n).length = n * (n + 1)
  | 0 => rfl
  | n + 1 => by
    rw [allPairs_succ, List.length_append, List.length_map, List.length_range, Nat.mul_add, allPairs_len n]
    grind
theorem allPairs_nodup : ∀ n, (allPairs n).Nodup
  | 0 => by simp [allPairs]
  | n + 1 => by
    rw [allPairs_succ, List.nodup_append]
    refine ⟨allPairs_nodup n, ?_, ?_⟩
    · unfold List.Nodup
      rw [List.pairwise_map]
      refine List.Pairwise.imp (fun {a b} hlt e => ?_) List.pairwise_lt_range
      have := congrArg Prod.fst e
      simp only at this
      omega
    · rintro a ha b hb rfl
      have h1 := allPairs_mem.1 ha
      obtain ⟨p, _, rfl⟩ := List.mem_map.1 hb
      exact absurd h1.2 (Nat.lt_irrefl _)
theorem nodup_sub {K : Type} [DecidableEq K] : ∀ {A B : List K}, A.Nodup → (∀ x ∈ A, x ∈ B) → A.length ≤ B.length
  | [], _, _, _ => Nat.zero_le _
  | x :: A, B, hA, h => by
    have hx := h x (by simp)
    have h1 := List.nodup_cons.1 hA
    have := nodup_sub (B := B.erase x) h1.2 fun y hy => (List.mem_erase_of_ne fun e => by subst e; exact h1.1 hy).2 (h y (by simp [hy]))
    rw [List.length_erase_of_mem hx] at this
    have := List.length_pos_of_mem hx
    simp only [List.length_cons]
    omega
/-- The search has found n(n + 1)/2 pairs if and only if each pair is merged. -/
theorem MB.count {m : List (List Int)} {F : List (Nat × Nat × Nat)} (hv : validM m = true) (h : MB m F F.length) : m.length * (m.length + 1) ≤ 2 * F.length ↔ ∀ p q, p < q → q < m.length → ∃ k, mergeP m p q k := by
  have hF : F.length = (F.map fun e => (e.1, e.2.1)).length := by simp
  have hsub : ∀ x ∈ (F.map fun e => (e.1, e.2.1)), x ∈ allPairs m.length := fun x hx => by
    obtain ⟨e, he, rfl⟩ := List.mem_map.1 hx
    exact allPairs_mem.2 ⟨(h.ok e he).1, (h.ok e he).2.1⟩
  have hl := allPairs_len m.length
  constructor
  · intro hc p q hpq hq
    apply Classical.byContradiction
    intro hno
    have hni : (p, q) ∉ (F.map fun e => (e.1, e.2.1)) := fun hm => by
      obtain ⟨e, he, hee⟩ := List.mem_map.1 hm
      simp only [Prod.mk.injEq] at hee
      have := (h.ok e he).2.2.1
      rw [hee.1, hee.2] at this
      exact hno ⟨_, this⟩
    have hle := nodup_sub (A := (p, q) :: (F.map fun e => (e.1, e.2.1))) (B := allPairs m.length) (List.nodup_cons.2 ⟨hni, h.uniq⟩) (fun x hx => by
      rcases List.mem_cons.1 hx with rfl | hx
      · exact allPairs_mem.2 ⟨by simp only; omega, hq⟩
      · exact hsub x hx)
    rw [List.length_cons, ← hF] at hle
    omega
  · intro hall
    have hle := nodup_sub (A := allPairs m.length) (B := (F.map fun e => (e.1, e.2.1))) (allPairs_nodup _) (fun x hx => by
      have hx' := allPairs_mem.1 hx
      rcases Nat.lt_or_ge x.1 x.2 with hlt | hge
      · obtain ⟨k, hk⟩ := hall x.1 x.2 hlt hx'.2
        obtain ⟨j, _, hd⟩ := mdist_some hk
        exact List.mem_map.2 ⟨_, h.all hv hx'.1 hx'.2 hd, rfl⟩
      · exact List.mem_map.2 ⟨_, h.diag x.1 (by omega), by simp only; exact Prod.ext rfl (by simp only; omega)⟩)
    rw [← hF] at hle
    omega
end Go.Proofs.YtmfbcnigefjgpaaDoor
namespace Go.Proofs.YtmfbcnigefjgpaaDoor
open Go.RowKit Go.Shelf
/-- Behind an entry, an append to its slice and the store of what came. -/
theorem Grp.step {W W1 w' w3 : World} {n₀ b N i j p q c' : Nat} {V : Nat → Nat → Value} {L : Nat → Nat → List (Nat × Nat)} {T : Nat → Nat → Bool} {v' : Value} (h : Grp W n₀ b N V L) (h1 : W.grownBy W1 (some b)) (hs1 : W1.heap.size = W.heap.size)
    (ho : w'.ownsRow n₀ 62 2 v' ((L i j).length + 1) (pairCells (L i j) ++ [.int .i64 p, .int .i64 q])) (h2 : W1.grownBy w' (V i j).ownBlock) (hat : v'.ownBlock = (V i j).ownBlock ∨ v'.ownBlock = some W1.heap.size)
    (hm : PMap w3 b (N + 1) (.slice none 0 0) (fun a d => if a = i ∧ d = j then v' else V a d) T c') (h3 : w'.grownBy w3 (some b)) :
    Grp w3 n₀ b (N + 1) (fun a d => if a = i ∧ d = j then v' else V a d) (fun a d => if a = i ∧ d = j then L i j ++ [(p, q)] else L a d) := by
  obtain ⟨T0, c0, hm0⟩ := h.map
  have hbl := hm0.lt
  have hvb : v'.ownBlock ≠ some b := by
    rcases hat with e | e
    · rw [e]; exact h.off i j
    · rw [e]; intro e2; simp at e2; omega
  have hold : ∀ a d k, (V a d).ownBlock = some k → k < W.heap.size := fun a d k hk => ((h.rows a d).lt k hk).2
  refine ⟨⟨_, _, hm⟩, fun a d => ?_, fun a d a' d' k e1 e2 => ?_, fun a d => ?_⟩
  · by_cases e : a = i ∧ d = j
    · simp only [if_pos e]
      unfold PRow
      rw [List.length_append, pairCells_snoc]
      exact ho.kept h3 (.inr hvb)
    · simp only [if_neg e]
      refine ownsRow_same (h.rows a d) fun g hg => ?_
      have hgl := hold a d g hg
      have hgb : g ≠ b := fun e2 => h.off a d (e2 ▸ hg)
      have hgv : some g ≠ (V i j).ownBlock := fun e2 => e (h.apart a d i j g hg e2.symm)
      have z1 := h1.block g hgl (by simpa using hgb)
      have z2 := h2.block g (by omega) hgv
      have z3 := h3.block g (Nat.lt_of_lt_of_le (by omega) h2.size) (by simpa using hgb)
      exact z3.trans (z2.trans z1)
  · by_cases x1 : a = i ∧ d = j <;> by_cases x2 : a' = i ∧ d' = j
    · exact ⟨x1.1.trans x2.1.symm, x1.2.trans x2.2.symm⟩
    · simp only [if_pos x1, if_neg x2] at e1 e2
      rcases hat with e | e
      · rw [e] at e1
        obtain ⟨y1, y2⟩ := h.apart _ _ _ _ _ e1 e2
        exact absurd ⟨y1.symm, y2.symm⟩ x2
      · rw [e] at e1
        have := hold _ _ _ e2
        simp at e1
        omega
    · simp only [if_neg x1, if_pos x2] at e1 e2
      rcases hat with e | e
      · rw [e] at e2
        obtain ⟨y1, y2⟩ := h.apart _ _ _ _ _ e1 e2
        exact absurd ⟨y1, y2⟩ x1
      · rw [e] at e2
        have := hold _ _ _ e1
        simp at e2
        omega
    · simp only [if_neg x1, if_neg x2] at e1 e2
      exact h.apart _ _ _ _ _ e1 e2
  · by_cases e : a = i ∧ d = j
    · simp only [if_pos e]; exact hvb
    · simp only [if_neg e]; exact h.off a d
/-- .. and the rest lies as it lay. -/
theorem Grp.turned {w W W1 w' w3 : World} {n₀ b N i j : Nat} {V : Nat → Nat → Value} {L : Nat → Nat → List (Nat × Nat)} (h : Grp W n₀ b N V L) (hn : n₀ = w.heap.size + 1) (hb : w.heap.size < b) (hB : Below w.heap.size w W) (h1 : W.grownBy W1 (some b)) (h2 : W1.grownBy w' (V i j).ownBlock) (h3 : w'.grownBy w3 (some b)) :
    Below w.heap.size w w3 ∧ w3.heap.size ≥ W.heap.size ∧ ∀ u, W.cell? ⟨w.heap.size, 0, none⟩ = some u → w3.cell? ⟨w.heap.size, 0, none⟩ = some u := by
  have hlt := fun k hk => ((h.rows i j).lt k hk).1
  have s1 := h1.size
  have s2 := h2.size
  have s3 := h3.size
  have s0 := hB.size
  refine ⟨((hB.grown h1 (by omega) (fun q hq => by cases hq; omega)).grown h2 (by omega) (fun q hq => by have := hlt q hq; omega)).grown h3 (by omega) (fun q hq => by cases hq; omega), by omega, fun u hu => ?_⟩
  refine h3.cell (h2.cell (h1.cell hu ?_) (fun e => ?_)) ?_
  · simp; omega
  · have := hlt _ e.symm; simp at this; omega
  · simp; omega
/-- The pair (p', q') with the letter x' was looked at before (p, q) with x. -/
def doneL (m : List (List Int)) (p q x p' q' x' : Nat) : Prop := p' < q' ∧ q' < m.length ∧ x' < letters m ∧ (p' < p ∨ (p' = p ∧ (q' < q ∨ (q' = q ∧ x' < x))))
def LB (m : List (List Int)) (p q x : Nat) (L : Nat → Nat → List (Nat × Nat)) : Prop :=
  ∀ i j e, e ∈ L i j ↔ ∃ x', doneL m p q x e.1 e.2 x' ∧ canon (nx m e.1 (x' : Int)) (nx m e.2 (x' : Int)) = (i, j)
theorem LB.start (m : List (List Int)) : LB m 0 1 0 (fun _ _ => []) := fun i j e => by
  simp only [List.not_mem_nil, false_iff]
  rintro ⟨x', ⟨h1, _, _, h2⟩, _⟩
  omega
theorem LB.same {m : List (List Int)} {p q x p2 q2 x2 : Nat} {L : Nat → Nat → List (Nat × Nat)} (h : LB m p q x L) (hd : ∀ p' q' x', doneL m p q x p' q' x' ↔ doneL m p2 q2 x2 p' q' x') : LB m p2 q2 x2 L := fun i j e => by
  rw [h i j e]
  exact exists_congr fun x' => and_congr_left fun _ => hd _ _ _
theorem LB.nextq {m : List (List Int)} {p q : Nat} {L : Nat → Nat → List (Nat × Nat)} (h : LB m p q (letters m) L) : LB m p (q + 1) 0 L := h.same fun p' q' x' => by unfold doneL; omega
theorem LB.nextp {m : List (List Int)} {p : Nat} {L : Nat → Nat → List (Nat × Nat)} (h : LB m p m.length 0 L) : LB m (p + 1) (p + 1 + 1) 0 L := h.same fun p' q' x' => by unfold doneL; omega
theorem LB.add {m : List (List Int)} {p q x i j : Nat} {L : Nat → Nat → List (Nat × Nat)} (h : LB m p q x L) (hpq : p < q) (hq : q < m.length) (hx : x < letters m) (hc : canon (nx m p (x : Int)) (nx m q (x : Int)) = (i, j)) :
    LB m p q (x + 1) (fun a d => if a = i ∧ d = j then L i j ++ [(p, q)] else L a d) := fun a d e => by
  have hsplit : (∃ x', doneL m p q (x + 1) e.1 e.2 x' ∧ canon (nx m e.1 (x' : Int)) (nx m e.2 (x' : Int)) = (a, d)) ↔ (e ∈ L a d ∨ (e = (p, q) ∧ (i, j) = (a, d))) := by
    rw [h a d e]
    constructor
    · rintro ⟨x', h1, h2⟩
      by_cases e1 : e.1 = p ∧ e.2 = q ∧ x' = x
      · obtain ⟨e2, e3, rfl⟩ := e1
        rw [e2, e3, hc] at h2
        exact .inr ⟨Prod.ext e2 e3, h2⟩
      · exact .inl ⟨x', by unfold doneL at h1 ⊢; omega, h2⟩
    · rintro (⟨x', h1, h2⟩ | ⟨rfl, h2⟩)
      · exact ⟨x', by unfold doneL at h1 ⊢; omega, h2⟩
      · exact ⟨x, ⟨hpq, hq, hx, .inr ⟨rfl, .inr ⟨rfl, Nat.lt_succ_self _⟩⟩⟩, by simp only; rw [hc, h2]⟩
  rw [hsplit]
  by_cases e1 : a = i ∧ d = j
  · simp only [if_pos e1]
    obtain ⟨rfl, rfl⟩ := e1
    simp
  · simp only [if_neg e1, Prod.mk.injEq]
    constructor
    · exact .inl
    · rintro (h | ⟨_, h1, h2⟩)
      · exact h
      · exact absurd ⟨h1.symm, h2.symm⟩ e1
theorem LB.done {m : List (List Int)} {q : Nat} {L : Nat → Nat → List (Nat × Nat)} (h : LB m m.length q 0 L) (i j : Nat) (e : Nat × Nat) : e ∈ L i j ↔ e.1 < e.2 ∧ e.2 < m.length ∧ ∃ x', x' < letters m ∧ canon (nx m e.1 (x' : Int)) (nx m e.2 (x' : Int)) = (i, j) := by
  rw [h i j e]
  constructor
  · rintro ⟨x', ⟨a1, a2, a3, a4⟩, h2⟩
    exact ⟨a1, a2, x', a3, h2⟩
  · rintro ⟨a1, a2, x', a3, h2⟩
    exact ⟨x', ⟨a1, a2, a3, by omega⟩, h2⟩
/-- No list is longer than the number of rounds. -/
theorem upd_len {L : Nat → Nat → List (Nat × Nat)} {N i j : Nat} {e : Nat × Nat} (h : ∀ a d, (L a d).length ≤ N) : ∀ a d, (if a = i ∧ d = j then L i j ++ [e] else L a d).length ≤ N + 1 := fun a d => by
  by_cases e1 : a = i ∧ d = j
  · rw [if_pos e1, List.length_append]; have := h i j; simp; omega
  · rw [if_neg e1]; have := h a d; omega
/-- The length that was found for a pair (0: none), and whether one was. -/
def lenIn (F : List (Nat × Nat × Nat)) (p q : Nat) : Nat := match F.find? (fun e => e.1 == p && e.2.1 == q) with
  | some e => e.2.2
  | none => 0
def inF (F : List (Nat × Nat × Nat)) (p q : Nat) : Bool := F.any fun e => e.1 == p && e.2.1 == q
theorem inF_iff {F : List (Nat × Nat × Nat)} {p q : Nat} : inF F p q = true ↔ ∃ l, (p, q, l) ∈ F := by
  unfold inF
  rw [List.any_eq_true]
  constructor
  · rintro ⟨e, he, h⟩
    simp only [Bool.and_eq_true, beq_iff_eq] at h
    exact ⟨e.2.2, by rw [← h.1, ← h.2]; exact he⟩
  · rintro ⟨l, h⟩
    exact ⟨_, h, by simp⟩
theorem inF_false {F : List (Nat × Nat × Nat)} {p q : Nat} (h : inF F p q = false) (l : Nat) : (p, q, l) ∉ F := fun hm => by
  rw [inF_iff.2 ⟨l, hm⟩] at h
  cases h
theorem lenIn_snoc {F : List (Nat × Nat × Nat)} {p q l : Nat} (h : inF F p q = false) (a d : Nat) : lenIn (F ++ [(p, q, l)]) a d = if a = p ∧ d = q then l else lenIn F a d := by
  unfold lenIn
  rw [List.find?_append]
  by_cases e : a = p ∧ d = q
  · obtain ⟨rfl, rfl⟩ := e
    have : F.find? (fun e => e.1 == a && e.2.1 == d) = none := by
      rw [List.find?_eq_none]
      intro x hx
      unfold inF at h
      simpa using List.any_eq_false.1 h x hx
    rw [this]
    simp
  · rw [if_neg e]
    cases hf : F.find? (fun e => e.1 == a && e.2.1 == d) with
    | some x => simp
    | none =>
      have : ((p == a) && (q == d)) = false := by
        rw [Bool.eq_false_iff]
        simp
        intro h1 h2
        exact e ⟨h1.symm, h2.symm⟩
      simp [this]
theorem inF_snoc (F : List (Nat × Nat × Nat)) (p q l : Nat) (a d : Nat) : inF (F ++ [(p, q, l)]) a d = if a = p ∧ d = q then true else inF F a d := by
  unfold inF
  rw [List.any_append]
  by_cases e : a = p ∧ d = q
  · obtain ⟨rfl, rfl⟩ := e
    simp
  · rw [if_neg e]
    have : ((p == a) && (q == d)) = false := by
      rw [Bool.eq_false_iff]
      simp
      intro h1 h2
      exact e ⟨h1.symm, h2.symm⟩
    simp [this]
theorem lenIn_mem {m : List (List Int)} {F : List (Nat × Nat × Nat)} {i : Nat} (h : MB m F i) {p q l : Nat} (hm : (p, q, l) ∈ F) : lenIn F p q = l := by
  unfold lenIn
  cases hf : F.find? (fun e => e.1 == p && e.2.1 == q) with
  | none =>
    have := List.find?_eq_none.1 hf _ hm
    simp at this
  | some e =>
    have h1 := List.find?_some hf
    have h2 := List.mem_of_find?_eq_some hf
    simp only [Bool.and_eq_true, beq_iff_eq] at h1
    have a1 := (h.ok _ h2).2.2
    rw [h1.1, h1.2] at a1
    exact mdist_unique a1 (h.ok _ hm).2.2
/-- The program's map of lengths. -/
def LMap (w : World) (B : Nat) (F : List (Nat × Nat × Nat)) : Prop := PMap w B F.length (.int .i64 0) (fun p q => .int .i64 (lenIn F p q : Nat)) (inF F) F.length
theorem LMap.made (w : World) : LMap (w.alloc (.map #[] 0)) w.heap.size [] := (PMap.made w (.int .i64 0)).congr fun p q _ _ => ⟨rfl, rfl⟩
theorem LMap.put {w : World} {B : Nat} {F : List (Nat × Nat × Nat)} (h : LMap w B F) (hn : F.length < 1000000) {p q : Nat} (hp : p < 1000000) (hq : q < 1000000) (l : Nat) (hno : inF F p q = false) :
    ∃ w', (Instr.mapUpdate 59 (.map (some B)) (.agg #[.int .i64 p, .int .i64 q]) (.int .i64 l)).run Tryd.prog w = .ok () w' ∧ LMap w' B (F ++ [(p, q, l)]) ∧ w.grownBy w' (some B) := by
  obtain ⟨w', h1, h2, h3⟩ := PMap.put h Tryd.underlying59 (by unfold maxLen; omega) hp hq (.int .i64 l)
  refine ⟨w', h1, ?_, h3⟩
  rw [hno] at h2
  unfold LMap
  rw [List.length_append, List.length_singleton]
  refine PMap.congr (by simpa using h2) fun a d _ _ => ⟨?_, (inF_snoc F p q l a d).symm⟩
  simp only [lenIn_snoc hno]
  split <;> rfl
theorem inF_diag (s : Nat) : inF (diag0 s) s s = false := by
  unfold inF diag0
  rw [List.any_eq_false]
  intro e he
  obtain ⟨t, ht, rfl⟩ := List.mem_map.1 he
  have := List.mem_range.1 ht
  simp
  omega
theorem diag0_succ (s : Nat) : diag0 (s + 1) = diag0 s ++ [(s, s, 0)] := by unfold diag0; rw [List.range_succ, List.map_append]; rfl
theorem diag0_len (s : Nat) : (diag0 s).length = s := by simp [diag0]
/-- The length of a shortest word that merges two states; 0: there is none. -/
def len0 (m : List (List Int)) (p q : Nat) : Int := if 0 ≤ mlen m p q then mlen m p q else 0
/-- What the search hands back. -/
def LenMap (m : List (List Int)) (w : World) (B : Nat) : Prop :=
  ∃ n V T c, PMap w B n (.int .i64 0) V T c ∧ (∀ p q, p ≤ q → q < m.length → V p q = .int .i64 (len0 m p q) ∧ T p q = decide (0 ≤ mlen m p q)) ∧
    (m.length * (m.length + 1) ≤ 2 * c ↔ ∀ p q, p < q → q < m.length → ∃ k, mergeP m p q k) ∧ c ≤ 3600
theorem LenMap.below {m : List (List Int)} {w w' : World} {B : Nat} (h : LenMap m w B) (hb : Below w.heap.size w w') : LenMap m w' B := by
  obtain ⟨n, V, T, c, h1, h2⟩ := h
  exact ⟨n, V, T, c, h1.below hb, h2⟩
theorem LMap.done {m : List (List Int)} {w : World} {B : Nat} {F : List (Nat × Nat × Nat)} (hv : validM m = true) (hm : m.length ≤ 60) (h : LMap w B F) (hM : MB m F F.length) : LenMap m w B := by
  refine ⟨_, _, _, _, h, fun p q hpq hq => ?_, hM.count hv, ?_⟩
  · rcases mlen_spec hv (p := p) (q := q) (by omega) hq with ⟨h1, h2⟩ | ⟨j, h1, h2, h3⟩
    · have hno : ∀ l, (p, q, l) ∉ F := fun l hm => h2 l (hM.ok _ hm).2.2.1
      have hf : inF F p q = false := by
        rw [Bool.eq_false_iff]
        intro e
        obtain ⟨l, hl⟩ := inF_iff.1 e
        exact hno l hl
      have hl : lenIn F p q = 0 := by
        unfold lenIn
        cases hf2 : F.find? (fun e => e.1 == p && e.2.1 == q) with
        | none => rfl
        | some e =>
          have h1 := List.find?_some hf2
          have h2 := List.mem_of_find?_eq_some hf2
          simp only [Bool.and_eq_true, beq_iff_eq] at h1
          exact absurd h2 (by rw [show e = (p, q, e.2.2) from by rw [← h1.1, ← h1.2]]; exact hno _)
      refine ⟨?_, ?_⟩
      · rw [hl, len0, if_neg (by omega)]; rfl
      · rw [hf, h1]; rfl
    · have hmem := hM.all hv hpq hq h3
      refine ⟨?_, ?_⟩
      · rw [lenIn_mem hM hmem, len0, if_pos (by omega), h2]
      · rw [inF_iff.2 ⟨j, hmem⟩, h2]
        exact (decide_eq_true (by omega)).symm
  · have := hM.len
    have h2 : m.length * m.length ≤ 60 * 60 := Nat.mul_le_mul hm hm
    omega
/-- The found pairs. -/
def keysF (F : List (Nat × Nat × Nat)) : List (Nat × Nat) := F.map fun e => (e.1, e.2.1)
theorem keysF_snoc (F : List (Nat × Nat × Nat)) (p q l : Nat) : keysF (F ++ [(p, q, l)]) = keysF F ++ [(p, q)] := by simp [keysF]
theorem keysF_len (F : List (Nat × Nat × Nat)) : (keysF F).length = F.length := by simp [keysF]
theorem keysF_get {F : List (Nat × Nat × Nat)} {i : Nat} {e : Nat × Nat × Nat} (h : F[i]? = some e) : (keysF F)[i]? = some (e.1, e.2.1) := by simp [keysF, h]
theorem LMap.kept {w w' : World} {B : Nat} {F : List (Nat × Nat × Nat)} (h : LMap w B F) (hk : w'.heap[B]? = w.heap[B]?) : LMap w' B F := PMap.kept h hk
/-- Behind the store into the map. -/
theorem found_stored {W0 wr w2 : World} {fv : Value} {K : List (Nat × Nat)} (hB : Below W0.heap.size W0 wr) (hP : PRow wr (W0.heap.size + 1) fv K) (hg : wr.grownBy w2 (some W0.heap.size)) : Below W0.heap.size W0 w2 ∧ PRow w2 (W0.heap.size + 1) fv K :=
  ⟨hB.grown hg hB.size (fun q hq => by cases hq; exact Nat.le_refl _), World.ownsRow.kept hP hg (.inr fun e => by have := (World.ownsRow.lt hP _ e).1; omega)⟩
/-- Behind the append to the list of what was found. -/
theorem found_pushed {W0 w2 w5 : World} {fv v' : Value} {K : List (Nat × Nat)} {F : List (Nat × Nat × Nat)} {p q : Nat} (o : Obj) (hB : Below W0.heap.size W0 w2) (hP : PRow w2 (W0.heap.size + 1) fv K) (hM : LMap w2 W0.heap.size F)
    (hown : w5.ownsRow (W0.heap.size + 1) 62 2 v' (K.length + 1) (pairCells K ++ [.int .i64 p, .int .i64 q])) (hgrow : (w2.alloc o).grownBy w5 fv.ownBlock) :
    Below W0.heap.size W0 w5 ∧ LMap w5 W0.heap.size F ∧ PRow w5 (W0.heap.size + 1) v' (K ++ [(p, q)]) := by
  have hlt := fun k hk => (World.ownsRow.lt hP k hk).1
  have hml := PMap.lt hM
  refine ⟨(bal hB o).grown hgrow (by have := hB.size; simp; omega) (fun k hk => by have := hlt k hk; omega), hM.kept ?_, ?_⟩
  · rw [hgrow.block _ (by simp; omega) (fun e => by have := hlt _ e.symm; omega)]
    exact Below.heap_alloc _ _ _ hml
  · unfold PRow
    rw [List.length_append, pairCells_snoc]
    exact hown
end Go.Proofs.YtmfbcnigefjgpaaDoor
