/-
  Texts that the proof of the law stands on: N2, N3, P7, N6, N7, N8, N15, N16, N17, N18, N9, N10, N11, N12, N13, N22, N23, N14, N19, N20, N24, Q2, N27, Q3, Q8, N25, N26, Q4, N4.
-/
import Derived.Test.YtlpfglkopnmlnaaDoorCbA
import Derived.Laws.EntriesVeiled
import Derived.BigQuiet
import Derived.Deep.QuietTactic
import Derived.Maps.Own
import Derived.Maps.OwnOps
import Derived.Maps.Views
import Derived.Deep.AppendLies
import Derived.Deep.RegionLaw
import Derived.Deep.RegionHeld
import Derived.Maps.OwnIn
set_option linter.unusedVariables false
set_option linter.unusedSimpArgs false
namespace Go.Proofs.YtlpfglkopnmlnaaDoor
open Go.RowKit Go.Shelf
open Classical in
/-- The states to which letters lead, as a set. -/
noncomputable def reachM (m : List (List Int)) (s : Nat) : Nat := ofList (((List.range m.length).filter fun t => decide (reachP m s t)).map fun t : Nat => (t : Int))
open Classical in
theorem reachM_bit (m : List (List Int)) (s t : Nat) : (reachM m s).testBit t = true ↔ t < m.length ∧ reachP m s t := by
  rw [reachM, ofList_testBit, List.any_eq_true]
  constructor
  · rintro ⟨x, hx, h⟩
    obtain ⟨y, hy, rfl⟩ := List.mem_map.1 hx
    rw [decide_eq_true_eq, Int.toNat_natCast] at h
    subst h
    rw [List.mem_filter, List.mem_range, decide_eq_true_eq] at hy
    exact hy
  · rintro ⟨h1, h2⟩
    exact ⟨(t : Int), List.mem_map.2 ⟨t, by rw [List.mem_filter, List.mem_range, decide_eq_true_eq]; exact ⟨h1, h2⟩, rfl⟩, by simp⟩
theorem reachM_lt {m : List (List Int)} (hm : m.length ≤ 64) (s : Nat) : reachM m s < 2 ^ m.length := by
  apply Nat.lt_pow_two_of_testBit
  intro i hi
  cases h : (reachM m s).testBit i with
  | false => rfl
  | true => have := ((reachM_bit m s i).1 h).1; omega
theorem dfs_reach {m : List (List Int)} (hv : validM m = true) {s S' : Nat} (hs : s < m.length) (h : DfsPost m 0 s S') : S' = reachM m s := by
  apply Nat.eq_of_testBit_eq
  intro t
  rw [Bool.eq_iff_iff, reachM_bit]
  constructor
  · intro ht
    refine ⟨?_, ?_⟩
    · rcases Nat.lt_or_ge t m.length with h1 | h1
      · exact h1
      · rw [Nat.testBit_lt_two_pow (Nat.lt_of_lt_of_le h.lt (Nat.pow_le_pow_right (by decide) h1))] at ht; cases ht
    · rcases h.from_ t ht with h1 | h1
      · simp at h1
      · exact h1
  · rintro ⟨_, u, hu, rfl⟩
    have key : ∀ (u : List Int) (s : Nat), s < m.length → S'.testBit s = true → u.all (inB 0 ((letters m : Int) - 1)) = true → S'.testBit (runM m s u) = true := by
      intro u
      induction u with
      | nil => intro s _ h _; exact h
      | cons x u ih =>
        intro s hs hb hu
        obtain ⟨hx, hu'⟩ := all_cons_parts hu
        obtain ⟨xn, rfl⟩ := Int.eq_ofNat_of_zero_le hx.1
        have h1 := h.shut s hb (by simp) xn (by omega)
        exact ih (nx m s xn) (nx_ok hv hs hx.1 hx.2).1 h1 hu'
    exact key u s hs h.here hu
set_option maxRecDepth 100000 in
set_option maxHeartbeats 1000000 in
theorem reached_any (v : Value) (m : List (List Int)) (s : Nat) (w : World) (h : Rows w v m) (hv : validM m = true) (hs : s < m.length) :
    Calls Tryd.prog 71 #[.agg #[v], .int .i64 s] w fun e w' => e = .returned (.int .u64 (reachM m s : Nat)) ∧ Below w.heap.size w w' := by
  obtain ⟨A, cap, rfl, _⟩ := id h
  have h0 := h
  obtain ⟨g0, g1, g2⟩ := three_alloc w (.cells #[.slice A m.length cap] 24) (.cells #[.int .u64 0] 79) (.cells #[.nilFunc] 110)
  have hX := bal (bal (bal (Below.refl _ w) (.cells #[.slice A m.length cap] 24)) (.cells #[.int .u64 0] 79)) (.cells #[.nilFunc] 110)
  have s0 : (((w.alloc (.cells #[.slice A m.length cap] 24)).alloc (.cells #[.int .u64 0] 79)).alloc (.cells #[.nilFunc] 110)).heap.size = w.heap.size + 3 := by simp
  have Hx := hid hX
  have S0 := hid s0
  clear hX s0
  go_enter Tryd.func71, Tryd.ntmps71
  go_upto_region 3 with fail
  generalize hWX : ((w.alloc (.cells #[.slice A m.length cap] 24)).alloc (.cells #[.int .u64 0] 79)).alloc (.cells #[.nilFunc] 110) = X at *
  clear hWX
  have hX := Hx.out
  have s0 := S0.out
  have d1 : X.cell? ⟨w.heap.size + 1 + 1, 0, none⟩ = some .nilFunc := cell_of_one g2
  have d2 : X.frozen? ⟨w.heap.size + 1 + 1, 0, none⟩ = false := free_of_one g2
  obtain ⟨fv, hfv⟩ : ∃ fv, Value.func (.func 98) #[] #[.pointer (some ⟨w.heap.size + 1, 0, none⟩), .pointer (some ⟨w.heap.size, 0, none⟩), .pointer (some ⟨w.heap.size + 1 + 1, 0, none⟩)] = fv := ⟨_, rfl⟩
  have e0 : (X.setCell ⟨w.heap.size + 1 + 1, 0, none⟩ fv).cell? ⟨w.heap.size + 1 + 1, 0, none⟩ = some fv := store_res (b := w.heap.size + 1 + 1) g2 fv
  have e1 : (X.setCell ⟨w.heap.size + 1 + 1, 0, none⟩ fv).heap[w.heap.size + 1]? = some (.cells #[.int .u64 0] 79 (0, 0)) := (Below.heap_setCell _ _ _ _ (by simp)).trans g1
  have e2 : (X.setCell ⟨w.heap.size + 1 + 1, 0, none⟩ fv).heap[w.heap.size]? = some (.cells #[.slice A m.length cap] 24 (0, 0)) := (Below.heap_setCell _ _ _ _ (by simp; omega)).trans g0
  have hB := Below.setCell hX (p := ⟨w.heap.size + 1 + 1, 0, none⟩) (by show w.heap.size ≤ w.heap.size + 1 + 1; omega) fv
  have hV := visit_any m A cap w h hv (w.heap.size + 1) w.heap.size (w.heap.size + 1 + 1) (by omega) (by omega) (by omega) (unseen m.length 0 + 1) 0 s (X.setCell ⟨w.heap.size + 1 + 1, 0, none⟩ fv) (by omega) (Nat.two_pow_pos _) hs hB e1 (cell_of_one e2) (by rw [hfv]; exact e0)
  have hsz : (X.setCell ⟨w.heap.size + 1 + 1, 0, none⟩ fv).heap.size = w.heap.size + 3 := by rw [← s0]; simp [World.setCell]
  subst hfv
  have HV := hid hV
  have HB := hid hB
  clear hV hB e1 e2 g0 g1 g2
  go_wp2_with fail
  refine HV.out.mono ?_
  rintro e w2 ⟨rv, S', rfl, hP, hT, hc⟩
  have hS := dfs_reach hv hs hP
  subst hS
  have hc' := cell_of_one hc
  have HB2 := hid (turn_box HB.out hT (Nat.le_succ _) (by omega))
  clear hc hT hP
  go_wp2
  go_ret
  exact ⟨rfl, HB2.out⟩
/-- Strongly connected. -/
noncomputable def connM (m : List (List Int)) : Bool := (List.range m.length).all fun s => decide (reachM m s = 2 ^ m.length - 1)
theorem connM_iff (m : List (List Int)) (hm : m.length ≤ 64) : connM m = true ↔ ∀ s t, s < m.length → t < m.length → reachP m s t := by
  rw [connM, List.all_eq_true]
  constructor
  · intro h s t hs ht
    have h1 := h s (List.mem_range.2 hs)
    rw [decide_eq_true_eq] at h1
    have h2 : (reachM m s).testBit t = true := by rw [h1, testBit_below]; simp [ht]
    exact ((reachM_bit m s t).1 h2).2
  · intro h s hs
    have hs' := List.mem_range.1 hs
    rw [decide_eq_true_eq]
    apply Nat.eq_of_testBit_eq
    intro t
    rw [Bool.eq_iff_iff, reachM_bit, testBit_below, decide_eq_true_eq]
    exact ⟨fun h1 => h1.1, fun h1 => ⟨h1, h s t hs' h1⟩⟩
set_option maxHeartbeats 1000000 in
theorem connected_any (v : Value) (m : List (List Int)) (w : World) (h : Rows w v m) (hv : validM m = true) :
    Calls Tryd.prog 70 #[.agg #[v]] w fun e w' => e = .returned (.bool (connM m)) ∧ Below w.heap.size w w' := by
  obtain ⟨A, cap, rfl, _⟩ := id h
  have hm := (valid_parts hv).2.1
  have hX := bal (Below.refl _ w) (.cells #[.slice A m.length cap] 24)
  have hbx : (w.alloc (.cells #[.slice A m.length cap] 24)).cell? ⟨w.heap.size, 0, none⟩ = some (.slice A m.length cap) := by simp
  have Hx := hid hX
  go_enter Tryd.func70, Tryd.ntmps70
  go_wp2_with fail
  generalize hWX : w.alloc (.cells #[.slice A m.length cap] 24) = X at *
  clear hX hWX
  have hX := Hx.out
  have hlt0 : w.heap.size < X.heap.size := World.block_lt_of_cell? _ _ hbx
  refine (Below_any m.length _ hm).mono ?_
  rintro e w1 ⟨rfl, rfl⟩
  go_wp2_with fail
  go_loopw [12] (fun i wr => ∃ k : Nat, k ≤ m.length ∧ i = .int .i64 k ∧ ((List.range k).all fun s => decide (reachM m s = 2 ^ m.length - 1)) = true ∧ Below X.heap.size X wr) (fun i _ => m.length - (intOf i).toNat)
  case atStart => exact ⟨0, Nat.zero_le _, rfl, rfl, Below.refl _ _⟩
  case round =>
    obtain ⟨k, hk, rfl, hall, hB⟩ := hrel
    have hbr := (hB.cell (p := ⟨w.heap.size, 0, none⟩) hlt0).trans hbx
    by_cases hlt : k < m.length
    · have hks : (k : Int) < m.length := by omega
      have Hall := hid hall
      clear hall
      go_wp2_with fail
      refine (reached_any _ m k _ (h.below (btr hX hB)) hv hlt).mono ?_
      rintro e w2 ⟨rfl, h2⟩
      by_cases he : reachM m k = 2 ^ m.length - 1
      · have hne : (((reachM m k : Nat) : Int) != ((2 ^ m.length - 1 : Nat) : Int)) = false := by rw [he]; simp
        have He := hid he
        clear he
        go_wp2
        go_roundw
        case rel => exact ⟨k + 1, by omega, by go_num, by rw [List.range_succ, List.all_append, Hall.out]; simp [He.out], btr hB h2⟩
        case measure => simp [intOf]; omega
      · have hne : (((reachM m k : Nat) : Int) != ((2 ^ m.length - 1 : Nat) : Int)) = true := by simp; omega
        have He := hid he
        clear he
        go_wp2
        go_ret
        refine ⟨ret_bool ?_, btr hX (btr hB h2)⟩
        rw [connM]
        symm
        rw [List.all_eq_false]
        exact ⟨k, List.mem_range.2 hlt, by simp [He.out]⟩
    · obtain rfl : k = m.length := by omega
      have hks : ¬ ((m.length : Nat) : Int) < m.length := by omega
      go_wp2
      go_ret
      exact ⟨ret_bool (by rw [connM, hall]), btr hX hB⟩
end Go.Proofs.YtlpfglkopnmlnaaDoor
namespace Go.Proofs.YtlpfglkopnmlnaaDoor
open Go.RowKit Go.Shelf
set_option maxHeartbeats 400000 in
theorem Connected_ok (v : Value) (m : List (List Int)) (w : World) (h : Rows w v m) (hv : validM m = true) :
    Calls Tryd.prog 31 #[.agg #[v]] w fun e w' => e = .returned (.tuple #[.bool (connM m), .int .i64 0]) ∧ Below w.heap.size w w' := by
  have hr := h.alloc (.cells #[v] 24)
  obtain ⟨A, cap, rfl, hml, hc⟩ := h
  clear hc
  go_enter Tryd.func31, Tryd.ntmps31
  go_wp2_with fail
  refine (Valid_bool _ m true _ hr hv).mono ?_
  rintro e w1 ⟨rfl, hb1⟩
  have hbx : w1.cell? ⟨w.heap.size, 0, none⟩ = some (.slice A m.length cap) := (hb1.cell (p := ⟨w.heap.size, 0, none⟩) (by simp)).trans (by simp [go_sem])
  have hr1 := hr.below hb1
  go_wp2_with fail
  refine (connected_any _ m _ hr1 hv).mono ?_
  rintro e w2 ⟨rfl, hb2⟩
  go_wp2
  go_ret2
  exact ⟨rfl, btr (btr (bal (Below.refl _ _) _) hb1) hb2⟩
end Go.Proofs.YtlpfglkopnmlnaaDoor
namespace Go.Proofs.YtlpfglkopnmlnaaDoor
open Go.RowKit Go.Shelf
theorem no_dup {α : Type} [BEq α] [LawfulBEq α] : ∀ (s l : List α), s.Nodup → (∀ x ∈ s, x ∈ l) → l.length = s.length → l.Nodup
  | [], l, _, _, hl => by
    have : l = [] := List.eq_nil_of_length_eq_zero hl
    subst this
    exact List.nodup_nil
  | a :: s, l, hn, hs, hl => by
    have ha := hs a (by simp)
    have hn' := List.nodup_cons.1 hn
    have h1 : ∀ y ∈ s, y ∈ l.erase a := fun y hy => (List.mem_erase_of_ne (fun (e : y = a) => hn'.1 (e ▸ hy))).2 (hs y (List.mem_cons_of_mem _ hy))
    have h2 : (l.erase a).length = s.length := by rw [List.length_erase_of_mem ha, hl]; simp
    have h3 := no_dup s (l.erase a) hn'.2 h1 h2
    have h4 : a ∉ l.erase a := fun h => hn'.1 (no_other s (l.erase a) hn'.2 h1 h2 a h)
    exact (List.perm_cons_erase ha).nodup_iff.2 (List.nodup_cons.2 ⟨h4, h3⟩)
theorem names_nodup {l : List Int} {n : Nat} (h : namesM l n = true) : l.Nodup := by
  rw [namesM, Bool.and_eq_true, decide_eq_true_eq, List.all_eq_true] at h
  have hs : ∀ y ∈ (List.range n).map fun i : Nat => (i : Int), y ∈ l := by
    intro y hy
    obtain ⟨i, hi, rfl⟩ := List.mem_map.1 hy
    exact hasB_mem.1 (h.2 i hi)
  have hnd : ((List.range n).map fun i : Nat => (i : Int)).Nodup := by
    rw [List.nodup_iff_pairwise_ne, List.pairwise_map]
    exact List.pairwise_lt_range.imp (fun hab e => by omega)
  exact no_dup _ l hnd hs (by simp [h.1])
end Go.Proofs.YtlpfglkopnmlnaaDoor
namespace Go.Proofs.YtlpfglkopnmlnaaDoor
open Go.RowKit Go.Shelf
/-- A step: the place, the step that it was reached from, the letter. -/
abbrev Steps := List (Int × Int × Int)
def plB (B : Steps) (i : Nat) : Int := (B.getD i (0, 0, 0)).1
def frB (B : Steps) (i : Nat) : Int := (B.getD i (0, 0, 0)).2.1
def leB (B : Steps) (i : Nat) : Int := (B.getD i (0, 0, 0)).2.2
/-- Each step but the first one comes from an earlier one. -/
def TreeB (B : Steps) : Prop := 0 < B.length ∧ frB B 0 = -1 ∧ ∀ i, 0 < i → i < B.length → 0 ≤ frB B i ∧ frB B i < i
def wordF (B : Steps) : Nat → Nat → List Int
  | 0, _ => []
  | f + 1, i => if frB B i < 0 then [] else wordF B f (frB B i).toNat ++ [leB B i]
def wordB (B : Steps) (i : Nat) : List Int := wordF B (i + 1) i
theorem wordF_fuel {B : Steps} (hB : TreeB B) : ∀ (i f : Nat), i < B.length → i < f → wordF B f i = wordB B i := by
  intro i
  induction i using Nat.strongRecOn with
  | _ i ih =>
    intro f hi hf
    cases f with
    | zero => omega
    | succ f =>
      rw [wordB, wordF, wordF]
      by_cases h0 : frB B i < 0
      · rw [if_pos h0, if_pos h0]
      · rw [if_neg h0, if_neg h0]
        have hp : 0 < i := by
          rcases Nat.eq_zero_or_pos i with e | e
          · subst e; rw [hB.2.1] at h0; omega
          · exact e
        obtain ⟨h1, h2⟩ := hB.2.2 i hp hi
        rw [ih (frB B i).toNat (by omega) f (by omega) (by omega), ih (frB B i).toNat (by omega) i (by omega) (by omega)]
theorem wordB_root {B : Steps} (hB : TreeB B) : wordB B 0 = [] := by
  rw [wordB, wordF, hB.2.1]; rfl
theorem wordB_step {B : Steps} (hB : TreeB B) {i : Nat} (h0 : 0 < i) (hi : i < B.length) : wordB B i = wordB B (frB B i).toNat ++ [leB B i] := by
  obtain ⟨h1, h2⟩ := hB.2.2 i h0 hi
  rw [wordB, wordF, if_neg (by omega), wordF_fuel hB _ i (by omega) (by omega)]
theorem wordB_len {B : Steps} (hB : TreeB B) : ∀ i, i < B.length → (wordB B i).length ≤ i := by
  intro i
  induction i using Nat.strongRecOn with
  | _ i ih =>
    intro hi
    rcases Nat.eq_zero_or_pos i with e | e
    · subst e; rw [wordB_root hB]; simp
    · obtain ⟨h1, h2⟩ := hB.2.2 i e hi
      have := ih (frB B i).toNat (by omega) (by omega)
      rw [wordB_step hB e hi, List.length_append]
      simp; omega
/-- Steps in memory. -/
def StepsAt (w : World) (v : Value) (B : Steps) : Prop :=
  ∃ A cap, v = .slice A B.length cap ∧ B.length ≤ 100000 ∧ ∀ i, i < B.length → ∃ b off, A = some ⟨b, off, none⟩ ∧ w.cell? ⟨b, off + i * 3, none⟩ = some (.int .i64 (plB B i)) ∧ w.cell? ⟨b, off + i * 3 + 1, none⟩ = some (.int .i64 (frB B i)) ∧ w.cell? ⟨b, off + i * 3 + 2, none⟩ = some (.int .i64 (leB B i))
/-- The word behind, zeros ahead. -/
def halfRow (W : List Int) (k : Nat) : List Value := List.replicate k (.int .i64 0) ++ (W.drop k).map fun x => .int .i64 x
theorem halfRow_set (W : List Int) (k : Nat) (x : Int) (hk : k < W.length) (hx : W.getD k 0 = x) : (halfRow W (k + 1)).set k (.int .i64 x) = halfRow W k := by
  unfold halfRow
  apply List.ext_getElem
  · simp; omega
  · intro i h1 h2
    rw [List.getElem_set]
    by_cases e : k = i
    · subst e
      rw [if_pos rfl, List.getElem_append_right (by simp)]
      simp only [List.length_replicate, Nat.sub_self, List.getElem_map, List.getElem_drop, Nat.add_zero]
      rw [← hx, getD_elem W k hk]
    · rw [if_neg e]
      by_cases h3 : i < k
      · rw [List.getElem_append_left (by simp; omega), List.getElem_append_left (by simp; omega)]
        simp
      · rw [List.getElem_append_right (by simp; omega), List.getElem_append_right (by simp; omega)]
        simp only [List.length_replicate, List.getElem_map, List.getElem_drop]
        congr 2
        omega
set_option maxRecDepth 100000 in
set_option maxHeartbeats 1000000 in
theorem spell_any (v : Value) (B : Steps) (i : Nat) (w : World) (h : StepsAt w v B) (hB : TreeB B) (hi : i < B.length) :
    Calls Tryd.prog 107 #[v, .int .i64 i] w fun e w' => ∃ r, e = .returned r ∧ w'.ownsRow w.heap.size 3 1 r (wordB B i).length ((wordB B i).map fun x => .int .i64 x) ∧ Below w.heap.size w w' := by
  obtain ⟨j0, hj, hy0, hy1, hy2⟩ := info_parts infoInt
  obtain ⟨A, cap, rfl, hl, hc⟩ := h
  have Hc := hid hc
  have HB := hid hB
  have hwl := wordB_len hB i hi
  obtain ⟨N, hN⟩ : ∃ N, (wordB B i).length = N := ⟨_, rfl⟩
  have HN := hid hN
  have hNb : N ≤ 100000 := by omega
  clear hc hB hN hwl
  go_enter Tryd.func107, Tryd.ntmps107
  go_wp2
  go_loop [5, 6] (fun l j => ∃ (L jj : Nat), l = .int .i64 L ∧ j = .int .i64 jj ∧ jj < B.length ∧ L + (wordB B jj).length = N) (fun _ j => (intOf j).toNat)
  case atStart => exact ⟨0, i, rfl, rfl, hi, by rw [HN.out]; omega⟩
  case round =>
    obtain ⟨L, jj, rfl, rfl, hjj, hL⟩ := hrel
    obtain ⟨b, off, hA, k1, k2, k3⟩ := Hc.out jj hjj
    subst hA
    have hjs : (jj : Int) < B.length := by omega
    have hLb : L ≤ 100000 := by omega
    by_cases h0 : jj = 0
    · subst h0
      have hL0 : L = N := by rw [wordB_root HB.out] at hL; simpa using hL
      subst hL0
      have hfr := HB.out.2.1
      rw [hfr] at k2
      clear hL hfr
      go_wp2_with (at_make; refine wpList_make_full _ rfl _ _ 41 rfl w.heap.size 3 j0 (.int .i64 0) 1 Tryd.underlying41 hj hy0 hy1 .i64 .i64 _ _ L rfl rfl rfl rfl (by rw [hy2]; omega) (by unfold maxLen; omega) (Nat.le_refl _) ?_; intro w1 hown hgrow)
      have hB1 : Below w.heap.size w w1 := (Below.refl _ _).grown hgrow (Nat.le_refl _) (fun q hq => by cases hq)
      rw [show Value.cells (.int .i64 0) = #[.int .i64 0] from rfl, toList_madeCells_one, Nat.mul_one] at hown
      have hh0 : List.replicate L (Value.int .i64 0) = halfRow (wordB B i) L := by
        unfold halfRow
        rw [List.drop_of_length_le (by rw [HN.out]; exact Nat.le_refl _)]; simp
      rw [hh0] at hown
      clear k1 k2 k3 hh0
      go_loopw [1, 5] (fun x y wr => ∃ (j l : Nat), x = .int .i64 j ∧ y = .int .i64 l ∧ j < B.length ∧ l = (wordB B j).length ∧ l ≤ L ∧ (wordB B i).take l = wordB B j ∧ wr.ownsRow w.heap.size 3 1 (.slice (some ⟨w.heap.size, 0, none⟩) L L) L (halfRow (wordB B i) l) ∧ Below w.heap.size w wr) (fun _ y _ => (intOf y).toNat)
      case atStart => exact ⟨i, L, rfl, rfl, hi, HN.out.symm, Nat.le_refl _, by rw [List.take_of_length_le (by rw [HN.out]; exact Nat.le_refl _)], hown, hB1⟩
      case round =>
        obtain ⟨j, l, rfl, rfl, hj', hl', hlL, htk, hO, hBr⟩ := hrel
        by_cases hl0 : l = 0
        · subst hl0
          have hO' : wr.ownsRow w.heap.size 3 1 (.slice (some ⟨w.heap.size, 0, none⟩) L L) (wordB B i).length ((wordB B i).map fun x => .int .i64 x) := by
            rw [HN.out]; simpa [halfRow] using hO
          have HO := hid hO'
          clear hO hO' hl' htk
          go_wp2
          go_ret
          exact ⟨_, rfl, HO.out, hBr⟩
        · have hj0 : 0 < j := by
            rcases Nat.eq_zero_or_pos j with e | e
            · subst e; rw [wordB_root HB.out] at hl'; simp at hl'; omega
            · exact e
          obtain ⟨l2, rfl⟩ : ∃ l2, l = l2 + 1 := ⟨l - 1, by omega⟩
          obtain ⟨h1, h2⟩ := HB.out.2.2 j hj0 hj'
          have hst := wordB_step HB.out hj0 hj'
          rw [hst] at hl' htk
          have hl2 : l2 = (wordB B (frB B j).toNat).length := by simp at hl'; omega
          have hiN : (wordB B i).length = L := HN.out
          have htk2 : (wordB B i).take l2 = wordB B (frB B j).toNat := by
            have := congrArg (List.take l2) htk
            rw [List.take_take, Nat.min_eq_left (by omega), List.take_append_of_le_length (by omega)] at this
            rw [this, hl2, List.take_length]
          have hle : (wordB B i).getD l2 0 = leB B j := by
            have := congrArg (fun l => l.getD l2 0) htk
            simp only [List.getD_eq_getElem?_getD, List.getElem?_take, if_pos (Nat.lt_succ_self l2)] at this
            rw [List.getD_eq_getElem?_getD, this, hl2]
            simp
          have hset := halfRow_set (wordB B i) l2 (leB B j) (by omega) hle
          obtain ⟨b', off', hA', k1, k2, k3⟩ := Hc.out j hj'
          cases hA'
          have hblk : b < w.heap.size := World.block_lt_of_cell? _ _ k1
          have m2 := (hBr.cell (p := ⟨b, off + j * 3 + 1, none⟩) hblk).trans k2
          have m3 := (hBr.cell (p := ⟨b, off + j * 3 + 2, none⟩) hblk).trans k3
          have hcA := hO.cellAt l2 (by omega)
          have hx2 : (halfRow (wordB B i) (l2 + 1))[l2]? = some (.int .i64 0) := by
            unfold halfRow
            rw [List.getElem?_append_left (by simp)]
            simp
          rw [hx2] at hcA
          have hfA := hO.frozenAt l2
          have hjs' : (j : Int) < B.length := by omega
          have hll : (l2 : Int) < L := by omega
          have HO := hid ((hO.stored l2 (.int .i64 (leB B j))).1)
          rw [hset] at HO
          have Hl2 := hid hl2
          have Htk := hid htk2
          have HBs := hid (hBr.setCell (p := ⟨w.heap.size, l2, none⟩) (Nat.le_refl _) (.int .i64 (leB B j)))
          clear hO hl' htk hst hl2 htk2 hle hset k1 k2 k3 hx2 hiN
          generalize frB B j = fr at *
          obtain ⟨fn, rfl⟩ := Int.eq_ofNat_of_zero_le h1
          rw [Int.toNat_natCast] at Hl2 Htk
          have hw1 : w.heap.size < wr.heap.size := World.block_lt_of_cell? _ _ hcA
          have hne : b ≠ w.heap.size := by omega
          have m2' : ∀ u, (wr.setCell ⟨w.heap.size, l2, none⟩ u).cell? ⟨b, off + j * 3 + 1, none⟩ = some (.int .i64 (fn : Int)) := fun u => (World.cell?_of_block (w := wr) (Below.heap_setCell _ _ _ _ (by simpa using hne))).trans m2
          have n2 := m2' (.int .i64 (leB B j))
          clear m2'
          go_wp2
          go_roundw
          case rel => exact ⟨fn, l2, rfl, rfl, by omega, Hl2.out, by omega, Htk.out, HO.out, HBs.out⟩
          case measure => simp [intOf]
    · obtain ⟨h1, h2⟩ := HB.out.2.2 jj (by omega) hjj
      have hst := wordB_step HB.out (by omega) hjj
      have hlen : L + 1 + (wordB B (frB B jj).toNat).length = N := by
        rw [hst, List.length_append] at hL
        simp at hL; omega
      have Hl := hid hlen
      clear hst hL hlen
      generalize frB B jj = fr at *
      obtain ⟨fn, rfl⟩ := Int.eq_ofNat_of_zero_le h1
      rw [Int.toNat_natCast] at Hl
      go_wp2
      go_round
      case rel => exact ⟨L + 1, fn, by go_num, rfl, by omega, Hl.out⟩
      case measure => simp [intOf]; omega
end Go.Proofs.YtlpfglkopnmlnaaDoor
namespace Go.Proofs.YtlpfglkopnmlnaaDoor
open Go.RowKit Go.Shelf Go.Maps Go.WideAt
theorem keyInt : Keyed Tryd.prog 3 := int_keyed Tryd.underlying3
theorem zeroB (w : World) : (zeroValue 4).run Tryd.prog w = .ok (.bool false) w := by kernel_rfl
theorem plainB (x : Bool) : (plainElem Tryd.prog 4 (.bool x) : Option (DataW Unit × List MemPlace)) = some (.lit (.bool x), []) := by
  unfold plainElem; rw [Tryd.underlying4]
theorem plainB_inv {v : Value} {x : DataW Unit} {ps : List MemPlace} (h : plainElem Tryd.prog 4 v = some (x, ps)) : ∃ b, v = .bool b ∧ x = .lit (.bool b) := by
  have e := Tryd.underlying4
  generalize Tryd.prog = P at *
  unfold plainElem at h
  cases v with
  | bool b =>
    simp only [e, Option.some.injEq, Prod.mk.injEq] at h
    exact ⟨b, rfl, h.1.symm⟩
  | _ => simp [e] at h
/-- A map from numbers to bools that reads as a set. -/
def SeenMap (w : World) (bm n : Nat) (S : Nat → Bool) : Prop :=
  ∃ D : DataW Unit, w.ownsMap Tryd.prog 3 (plainElem Tryd.prog 4) bm n D ∧ IsMap D ∧ ∀ p : Nat, D.atKey (.int .i64 p) (.lit (.bool false)) = .lit (.bool (S p))
theorem SeenMap.made (w : World) : SeenMap (w.alloc (.map #[] 0)) w.heap.size 0 (fun _ => false) :=
  ⟨.map [], World.ownsMap_made w _ _ _, ⟨[], rfl⟩, fun p => rfl⟩
theorem SeenMap.look {w : World} {bm n : Nat} {S : Nat → Bool} (h : SeenMap w bm n S) (p : Nat) (hp : p < 1000000) : (Instr.lookup 117 (.map (some bm)) (.int .i64 p) false).run Tryd.prog w = .ok (.bool (S p)) w := by
  obtain ⟨D, hD, _, hS⟩ := h
  obtain ⟨v, ps, hrun, hv⟩ := hD.lookup keyInt Tryd.underlying117 (zeroB w) (plainB false) (keyOf_int_mk Tryd.underlying3 (WalkArith.wf_i64 (by omega : -9223372036854775808 ≤ (p : Int) ∧ (p : Int) ≤ 9223372036854775807)))
  rw [hS p] at hv
  obtain ⟨b, rfl, hb⟩ := plainB_inv hv
  rw [hrun]
  simp only [DataW.lit.injEq, Lit.bool.injEq] at hb
  rw [hb]
theorem SeenMap.put {w : World} {bm n : Nat} {S : Nat → Bool} (h : SeenMap w bm n S) (hn : n < 1000000) (p : Nat) (hp : p < 1000000) : ∃ w', (Instr.mapUpdate 117 (.map (some bm)) (.int .i64 p) (.bool true)).run Tryd.prog w = .ok () w' ∧ SeenMap w' bm (n + 1) (fun q => decide (q = p) || S q) ∧ w.grownBy w' (some bm) := by
  obtain ⟨D, hD, hM, hS⟩ := h
  obtain ⟨w', hrun, h1, h2⟩ := hD.update keyInt Tryd.underlying117 (by unfold maxLen; omega) (keyOf_int_mk Tryd.underlying3 (WalkArith.wf_i64 (by omega : -9223372036854775808 ≤ (p : Int) ∧ (p : Int) ≤ 9223372036854775807))) (plainB true)
  refine ⟨w', hrun, ⟨_, h1, ?_, fun q => ?_⟩, h2⟩
  · obtain ⟨es, rfl⟩ := hM; exact ⟨_, rfl⟩
  · by_cases e : q = p
    · subst e
      rw [atKey_put_same hM (by trivial)]; simp
    · rw [atKey_put_other (by simp; omega), hS q]; simp [e]
theorem SeenMap.kept {w w' : World} {bm n : Nat} {S : Nat → Bool} (h : SeenMap w bm n S) (hk : w'.heap[bm]? = w.heap[bm]?) : SeenMap w' bm n S := by
  obtain ⟨D, ⟨es, clock, hb, F, hs, hD⟩, hM, hS⟩ := h
  exact ⟨D, ⟨es, clock, hk.trans hb, F, hs, hD⟩, hM, hS⟩
theorem SeenMap.lt {w : World} {bm n : Nat} {S : Nat → Bool} (h : SeenMap w bm n S) : bm < w.heap.size := by
  obtain ⟨D, hD, _⟩ := h; exact hD.lt
end Go.Proofs.YtlpfglkopnmlnaaDoor
namespace Go.Proofs.YtlpfglkopnmlnaaDoor
open Go.RowKit Go.Shelf
def hasP (B : Steps) (p : Nat) : Bool := B.any fun t => t.1 == (p : Int)
/-- One letter from the place of a step. -/
def addB (ld : Nat → Nat → Nat) (B : Steps) (p i x : Nat) : Steps := if hasP B (ld p x) then B else B ++ [(((ld p x : Nat) : Int), (i : Int), (x : Int))]
def rowB (ld : Nat → Nat → Nat) (B : Steps) (p i : Nat) : Nat → Steps
  | 0 => B
  | x + 1 => addB ld (rowB ld B p i x) p i x
def bfsTo (ld : Nat → Nat → Nat) (K s : Nat) : Nat → Steps
  | 0 => [((s : Int), -1, 0)]
  | i + 1 => if i < (bfsTo ld K s i).length then rowB ld (bfsTo ld K s i) (plB (bfsTo ld K s i) i).toNat i K else bfsTo ld K s i
theorem hasP_snoc (B : Steps) (t : Int × Int × Int) (p : Nat) : hasP (B ++ [t]) p = (hasP B p || t.1 == (p : Int)) := by simp [hasP]
theorem getD_pre {B C : Steps} (h : B <+: C) (i : Nat) (hi : i < B.length) : C.getD i (0, 0, 0) = B.getD i (0, 0, 0) := by
  obtain ⟨t, rfl⟩ := h
  simp only [List.getD_eq_getElem?_getD, List.getElem?_append_left hi]
theorem addB_pre (ld : Nat → Nat → Nat) (B : Steps) (p i x : Nat) : B <+: addB ld B p i x := by
  unfold addB; split
  · exact List.prefix_refl _
  · exact List.prefix_append _ _
theorem rowB_pre (ld : Nat → Nat → Nat) (B : Steps) (p i : Nat) : ∀ x, B <+: rowB ld B p i x
  | 0 => List.prefix_refl _
  | x + 1 => (rowB_pre ld B p i x).trans (addB_pre _ _ _ _ _)
theorem bfs_pre (ld : Nat → Nat → Nat) (K s i : Nat) : bfsTo ld K s i <+: bfsTo ld K s (i + 1) := by
  show _ <+: (if i < (bfsTo ld K s i).length then _ else _)
  split
  · exact rowB_pre _ _ _ _ _
  · exact List.prefix_refl _
theorem bfs_pre_le (ld : Nat → Nat → Nat) (K s i : Nat) : ∀ d, bfsTo ld K s i <+: bfsTo ld K s (i + d)
  | 0 => List.prefix_refl _
  | d + 1 => (bfs_pre_le ld K s i d).trans (bfs_pre ld K s (i + d))
theorem bfs_stop (ld : Nat → Nat → Nat) (K s i : Nat) (h : (bfsTo ld K s i).length ≤ i) : ∀ d, bfsTo ld K s (i + d) = bfsTo ld K s i
  | 0 => rfl
  | d + 1 => by
    have ih := bfs_stop ld K s i h d
    have e : bfsTo ld K s (i + (d + 1)) = (if i + d < (bfsTo ld K s (i + d)).length then rowB ld (bfsTo ld K s (i + d)) (plB (bfsTo ld K s (i + d)) (i + d)).toNat (i + d) K else bfsTo ld K s (i + d)) := rfl
    rw [e, ih, if_neg (by omega)]
/-- What holds of steps: a tree; each place once, and below n. -/
structure GoodB (n : Nat) (B : Steps) : Prop where
  tree : TreeB B
  below : ∀ i, i < B.length → ∃ p : Nat, plB B i = p ∧ p < n
  nodup : (B.map (·.1)).Nodup
  let_ : ∀ i, i < B.length → ∃ x : Nat, leB B i = x ∧ x < 1000
theorem pre_pl {B C : Steps} (h : B <+: C) (i : Nat) (hi : i < B.length) : plB C i = plB B i ∧ frB C i = frB B i ∧ leB C i = leB B i := by
  unfold plB frB leB; rw [getD_pre h i hi]; exact ⟨rfl, rfl, rfl⟩
theorem snoc_pl (B : Steps) (p : Nat) (i x : Int) : plB (B ++ [((p : Int), i, x)]) B.length = p ∧ frB (B ++ [((p : Int), i, x)]) B.length = i ∧ leB (B ++ [((p : Int), i, x)]) B.length = x := by
  unfold plB frB leB; simp [List.getD_eq_getElem?_getD]
theorem GoodB.start {n s : Nat} (hs : s < n) : GoodB n [((s : Int), -1, 0)] := by
  refine ⟨⟨by simp, rfl, fun i h0 hi => by simp at hi; omega⟩, fun i hi => ?_, by simp, fun i hi => ?_⟩
  · obtain rfl : i = 0 := by simpa using hi
    exact ⟨s, rfl, hs⟩
  · obtain rfl : i = 0 := by simpa using hi
    exact ⟨0, rfl, by omega⟩
theorem GoodB.add {n : Nat} {B : Steps} (h : GoodB n B) {ld : Nat → Nat → Nat} {p i x : Nat} (hi : i < B.length) (hx : x < 1000) (hq : ld p x < n) : GoodB n (addB ld B p i x) := by
  unfold addB
  split
  · exact h
  · rename_i hn
    obtain ⟨s1, s2, s3⟩ := snoc_pl B (ld p x) (i : Int) (x : Int)
    have hp : B <+: B ++ [(((ld p x : Nat) : Int), (i : Int), (x : Int))] := List.prefix_append _ _
    obtain ⟨t1, t2, t3⟩ := h.tree
    refine ⟨⟨by simp, by rw [(pre_pl hp 0 t1).2.1]; exact t2, fun j h0 hj => ?_⟩, fun j hj => ?_, ?_, fun j hj => ?_⟩
    · by_cases e : j < B.length
      · rw [(pre_pl hp j e).2.1]; exact t3 j h0 e
      · obtain rfl : j = B.length := by simp at hj; omega
        rw [s2]; omega
    · by_cases e : j < B.length
      · rw [(pre_pl hp j e).1]; exact h.below j e
      · obtain rfl : j = B.length := by simp at hj; omega
        exact ⟨_, s1, hq⟩
    · rw [List.map_append, List.nodup_append]
      refine ⟨h.nodup, by simp, fun a ha b hb => ?_⟩
      simp only [List.map_cons, List.map_nil, List.mem_cons, List.mem_nil_iff, or_false] at hb
      subst hb
      intro e
      subst e
      obtain ⟨t, ht, he⟩ := List.mem_map.1 ha
      refine hn ?_
      rw [hasP, List.any_eq_true]
      exact ⟨t, ht, by rw [he]; simp⟩
    · by_cases e : j < B.length
      · rw [(pre_pl hp j e).2.2]; exact h.let_ j e
      · obtain rfl : j = B.length := by simp at hj; omega
        exact ⟨x, s3, hx⟩
theorem GoodB.row {n : Nat} {B : Steps} (h : GoodB n B) {ld : Nat → Nat → Nat} {p i : Nat} (hi : i < B.length) : ∀ K, K ≤ 1000 → (∀ x, x < K → ld p x < n) → GoodB n (rowB ld B p i K)
  | 0, _, _ => h
  | K + 1, hK, hq => (h.row hi K (by omega) (fun x hx => hq x (by omega))).add (Nat.lt_of_lt_of_le hi (rowB_pre ld B p i K).length_le) (by omega) (hq K (by omega))
theorem GoodB.bfs {n K s : Nat} {ld : Nat → Nat → Nat} (hs : s < n) (hK : K ≤ 1000) (hld : ∀ p x, p < n → x < K → ld p x < n) : ∀ i, GoodB n (bfsTo ld K s i)
  | 0 => GoodB.start hs
  | i + 1 => by
    have ih := GoodB.bfs (n := n) hs hK hld i
    show GoodB n (if i < (bfsTo ld K s i).length then _ else _)
    split
    · rename_i hlt
      obtain ⟨p, hp, hpn⟩ := ih.below i hlt
      rw [hp, Int.toNat_natCast]
      exact ih.row hlt K hK (fun x hx => hld p x hpn hx)
    · exact ih
theorem nodup_len : ∀ (n : Nat) (l : List Int), l.Nodup → (∀ x ∈ l, 0 ≤ x ∧ x < (n : Int)) → l.length ≤ n
  | 0, l, _, hb => by
    cases l with
    | nil => simp
    | cons a l => have := hb a (by simp); omega
  | n + 1, l, hn, hb => by
    by_cases hm : (n : Int) ∈ l
    · have h1 := nodup_len n (l.erase n) (hn.erase _) (fun x hx => by
        have h2 := hb x (List.mem_of_mem_erase hx)
        have h3 : x ≠ n := fun e => by subst e; exact (List.Nodup.not_mem_erase hn) hx
        omega)
      rw [List.length_erase_of_mem hm] at h1
      omega
    · have := nodup_len n l hn (fun x hx => by
        have h2 := hb x hx
        have h3 : x ≠ n := fun e => by subst e; exact hm hx
        omega)
      omega
theorem GoodB.len {n : Nat} {B : Steps} (h : GoodB n B) : B.length ≤ n := by
  have := nodup_len n (B.map (·.1)) h.nodup (fun x hx => by
    obtain ⟨t, ht, rfl⟩ := List.mem_map.1 hx
    obtain ⟨i, hi, rfl⟩ := List.mem_iff_getElem.1 ht
    obtain ⟨p, hp, hpn⟩ := h.below i hi
    unfold plB at hp
    rw [List.getD_eq_getElem?_getD, List.getElem?_eq_getElem hi, Option.getD_some] at hp
    omega)
  simpa using this
/-- The word of a step does not change. -/
theorem wordB_pre {n : Nat} {B C : Steps} (h : B <+: C) (hB : GoodB n B) (hC : GoodB n C) : ∀ i, i < B.length → wordB C i = wordB B i := by
  intro i
  induction i using Nat.strongRecOn with
  | _ i ih =>
    intro hi
    have hi' : i < C.length := Nat.lt_of_lt_of_le hi h.length_le
    rcases Nat.eq_zero_or_pos i with e | e
    · subst e; rw [wordB_root hB.tree, wordB_root hC.tree]
    · obtain ⟨_, h2, h3⟩ := pre_pl h i hi
      obtain ⟨k1, k2⟩ := hB.tree.2.2 i e hi
      rw [wordB_step hC.tree e hi', wordB_step hB.tree e hi, h2, h3, ih (frB B i).toNat (by omega) (by omega)]
/-- The cells of steps. -/
def flatB (B : Steps) : List Value := B.flatMap fun t => [.int .i64 t.1, .int .i64 t.2.1, .int .i64 t.2.2]
theorem flatB_snoc (B : Steps) (t : Int × Int × Int) : flatB (B ++ [t]) = flatB B ++ [.int .i64 t.1, .int .i64 t.2.1, .int .i64 t.2.2] := by simp [flatB]
theorem flatB_get : ∀ (B : Steps) (i : Nat), i < B.length → (flatB B)[i * 3]? = some (.int .i64 (plB B i)) ∧ (flatB B)[i * 3 + 1]? = some (.int .i64 (frB B i)) ∧ (flatB B)[i * 3 + 2]? = some (.int .i64 (leB B i))
  | [], i, h => by simp at h
  | t :: B, 0, _ => by refine ⟨?_, ?_, ?_⟩ <;> rfl
  | t :: B, i + 1, h => by
    have ih := flatB_get B i (by simpa using h)
    have e1 : (i + 1) * 3 = i * 3 + 3 := by omega
    have key : ∀ k, (flatB (t :: B))[k + 3]? = (flatB B)[k]? := fun k => by simp [flatB]
    rw [e1]
    refine ⟨?_, ?_, ?_⟩
    · rw [key]; exact ih.1
    · rw [show i * 3 + 3 + 1 = i * 3 + 1 + 3 by omega, key]; exact ih.2.1
    · rw [show i * 3 + 3 + 2 = i * 3 + 2 + 3 by omega, key]; exact ih.2.2
theorem steps_of_own {W : World} {base : Nat} {e : TypeId} {g cap : Nat} {B : Steps} (h : W.ownsRow base e 3 (.slice (some ⟨g, 0, none⟩) B.length cap) B.length (flatB B)) (hl : B.length ≤ 100000) : StepsAt W (.slice (some ⟨g, 0, none⟩) B.length cap) B := by
  refine ⟨_, cap, rfl, hl, fun i hi => ⟨g, 0, rfl, ?_⟩⟩
  obtain ⟨h1, h2, h3⟩ := flatB_get B i hi
  refine ⟨?_, ?_, ?_⟩
  · rw [Nat.zero_add, h.cellAt _ (by omega)]; exact h1
  · rw [Nat.zero_add, h.cellAt _ (by omega)]; exact h2
  · rw [Nat.zero_add, h.cellAt _ (by omega)]; exact h3
end Go.Proofs.YtlpfglkopnmlnaaDoor
namespace Go.Proofs.YtlpfglkopnmlnaaDoor
open Go.RowKit Go.Shelf
/-- The steps come in the order of those that they come from, up to a bound. -/
def RiseB (B : Steps) (b : Int) : Prop := (∀ k, k < B.length → frB B k ≤ b) ∧ ∀ j k, j ≤ k → k < B.length → frB B j ≤ frB B k
theorem RiseB.mono {B : Steps} {b c : Int} (h : RiseB B b) (hbc : b ≤ c) : RiseB B c := ⟨fun k hk => by have := h.1 k hk; omega, h.2⟩
theorem RiseB.add {B : Steps} {i : Nat} (h : RiseB B i) (ld : Nat → Nat → Nat) (p x : Nat) : RiseB (addB ld B p i x) i := by
  unfold addB
  split
  · exact h
  · obtain ⟨s1, s2, s3⟩ := snoc_pl B (ld p x) (i : Int) (x : Int)
    have hp : B <+: B ++ [(((ld p x : Nat) : Int), (i : Int), (x : Int))] := List.prefix_append _ _
    have key : ∀ k, k < (B ++ [(((ld p x : Nat) : Int), (i : Int), (x : Int))]).length → (k < B.length ∧ frB (B ++ [(((ld p x : Nat) : Int), (i : Int), (x : Int))]) k = frB B k) ∨ (k = B.length ∧ frB (B ++ [(((ld p x : Nat) : Int), (i : Int), (x : Int))]) k = i) := fun k hk => by
      by_cases e : k < B.length
      · exact .inl ⟨e, (pre_pl hp k e).2.1⟩
      · have e2 : k = B.length := by rw [List.length_append] at hk; simp at hk; omega
        subst e2
        exact .inr ⟨rfl, s2⟩
    refine ⟨fun k hk => ?_, fun j k hjk hk => ?_⟩
    · rcases key k hk with ⟨h1, h2⟩ | ⟨_, h2⟩ <;> rw [h2]
      · exact h.1 k h1
      · exact Int.le_refl _
    · rcases key k hk with ⟨h1, h2⟩ | ⟨h1, h2⟩
      · rcases key j (by omega) with ⟨h3, h4⟩ | ⟨h3, h4⟩
        · rw [h2, h4]; exact h.2 j k hjk h1
        · omega
      · rcases key j (by omega) with ⟨h3, h4⟩ | ⟨h3, h4⟩
        · rw [h2, h4]; exact h.1 j h3
        · rw [h2, h4]; exact Int.le_refl _
theorem RiseB.row {B : Steps} {i : Nat} (h : RiseB B i) (ld : Nat → Nat → Nat) (p : Nat) : ∀ K, RiseB (rowB ld B p i K) i
  | 0 => h
  | K + 1 => (h.row ld p K).add ld p K
theorem RiseB.bfs (ld : Nat → Nat → Nat) (K s : Nat) : ∀ i : Nat, RiseB (bfsTo ld K s i) ((i : Int) - 1)
  | 0 => by
    refine ⟨fun k hk => ?_, fun j k hjk hk => ?_⟩
    · obtain rfl : k = 0 := by simpa [bfsTo] using hk
      exact Int.le_of_eq rfl
    · obtain rfl : k = 0 := by simpa [bfsTo] using hk
      obtain rfl : j = 0 := by omega
      exact Int.le_refl _
  | i + 1 => by
    have ih := RiseB.bfs ld K s i
    have e : bfsTo ld K s (i + 1) = (if i < (bfsTo ld K s i).length then rowB ld (bfsTo ld K s i) (plB (bfsTo ld K s i) i).toNat i K else bfsTo ld K s i) := rfl
    rw [e]
    split
    · exact ((ih.mono (by omega)).row ld _ K).mono (by omega)
    · exact ih.mono (by omega)
/-- Later words are not shorter. -/
theorem len_mono {B : Steps} {b : Int} (hT : TreeB B) (hR : RiseB B b) : ∀ k j, j ≤ k → k < B.length → (wordB B j).length ≤ (wordB B k).length := by
  intro k
  induction k using Nat.strongRecOn with
  | _ k ih =>
    intro j hjk hk
    rcases Nat.eq_zero_or_pos j with e | e
    · subst e; rw [wordB_root hT]; exact Nat.zero_le _
    · obtain ⟨a1, a2⟩ := hT.2.2 j e (by omega)
      obtain ⟨b1, b2⟩ := hT.2.2 k (by omega) hk
      have hm := hR.2 j k hjk hk
      have h := ih (frB B k).toNat (by omega) (frB B j).toNat (by omega) (by omega)
      rw [wordB_step hT e (by omega), wordB_step hT (by omega) hk, List.length_append, List.length_append]
      simp only [List.length_cons, List.length_nil]
      omega
theorem hasP_iff {B : Steps} {q : Nat} (h : hasP B q = true) : ∃ j, j < B.length ∧ plB B j = (q : Int) := by
  rw [hasP, List.any_eq_true] at h
  obtain ⟨t, ht, he⟩ := h
  obtain ⟨j, hj, rfl⟩ := List.mem_iff_getElem.1 ht
  refine ⟨j, hj, ?_⟩
  unfold plB
  rw [List.getD_eq_getElem?_getD, List.getElem?_eq_getElem hj, Option.getD_some]
  exact eq_of_beq he
theorem hasP_pre {B C : Steps} (h : B <+: C) {q : Nat} (hb : hasP B q = true) : hasP C q = true := by
  obtain ⟨t, rfl⟩ := h
  unfold hasP at *
  rw [List.any_append, hb]; rfl
theorem addB_has (ld : Nat → Nat → Nat) (B : Steps) (p i x : Nat) : hasP (addB ld B p i x) (ld p x) = true := by
  unfold addB
  split
  · assumption
  · rw [hasP_snoc]; simp
theorem rowB_has (ld : Nat → Nat → Nat) (B : Steps) (p i x : Nat) : ∀ K, x < K → hasP (rowB ld B p i K) (ld p x) = true
  | 0, h => by omega
  | K + 1, h => by
    by_cases e : x = K
    · subst e; exact addB_has ld _ p i x
    · exact hasP_pre (addB_pre ld _ p i K) (rowB_has ld B p i x K (by omega))
/-- Each letter leads from a place that is reached to one that is reached, by a word that is longer by one letter at most. -/
theorem bfs_closed {n K s : Nat} {ld : Nat → Nat → Nat} (hs : s < n) (hK : K ≤ 1000) (hld : ∀ p x, p < n → x < K → ld p x < n) (i p x : Nat) (hi : i < (bfsTo ld K s n).length) (hp : plB (bfsTo ld K s n) i = (p : Int)) (hx : x < K) :
    ∃ j, j < (bfsTo ld K s n).length ∧ plB (bfsTo ld K s n) j = ((ld p x : Nat) : Int) ∧ (wordB (bfsTo ld K s n) j).length ≤ (wordB (bfsTo ld K s n) i).length + 1 := by
  have hg := GoodB.bfs (n := n) (K := K) (s := s) (ld := ld) hs hK hld
  have hn := (hg n).len
  -- at its own round the step is there
  have hlt : i < (bfsTo ld K s i).length := by
    rcases Nat.lt_or_ge i (bfsTo ld K s i).length with h | h
    · exact h
    · exfalso
      have e := bfs_stop ld K s i h (n - i)
      rw [show i + (n - i) = n by omega] at e
      rw [e] at hi; omega
  have hpre1 : bfsTo ld K s i <+: bfsTo ld K s n := by
    have := bfs_pre_le ld K s i (n - i)
    rwa [show i + (n - i) = n by omega] at this
  have hpre2 : bfsTo ld K s (i + 1) <+: bfsTo ld K s n := by
    have := bfs_pre_le ld K s (i + 1) (n - (i + 1))
    rwa [show i + 1 + (n - (i + 1)) = n by omega] at this
  have hpi : plB (bfsTo ld K s i) i = (p : Int) := (pre_pl hpre1 i hlt).1.symm.trans hp
  have e : bfsTo ld K s (i + 1) = rowB ld (bfsTo ld K s i) p i K := by
    have e0 : bfsTo ld K s (i + 1) = (if i < (bfsTo ld K s i).length then rowB ld (bfsTo ld K s i) (plB (bfsTo ld K s i) i).toNat i K else bfsTo ld K s i) := rfl
    rw [e0, if_pos hlt, hpi, Int.toNat_natCast]
  have hh := rowB_has ld (bfsTo ld K s i) p i x K hx
  rw [← e] at hh
  obtain ⟨j, hj, hpj⟩ := hasP_iff hh
  have hjn : j < (bfsTo ld K s n).length := Nat.lt_of_lt_of_le hj hpre2.length_le
  obtain ⟨r1, r2, _⟩ := pre_pl hpre2 j hj
  refine ⟨j, hjn, r1.trans hpj, ?_⟩
  have hfr : frB (bfsTo ld K s n) j ≤ i := by
    rw [r2]
    have := (RiseB.bfs ld K s (i + 1)).1 j hj
    omega
  have hT := (hg n).tree
  rcases Nat.eq_zero_or_pos j with e1 | e1
  · subst e1; rw [wordB_root hT]; exact Nat.zero_le _
  · obtain ⟨b1, b2⟩ := hT.2.2 j e1 hjn
    have hm := len_mono hT (RiseB.bfs ld K s n) i (frB (bfsTo ld K s n) j).toNat (by omega) hi
    rw [wordB_step hT e1 hjn, List.length_append]
    simp only [List.length_cons, List.length_nil]
    omega
end Go.Proofs.YtlpfglkopnmlnaaDoor
namespace Go.Proofs.YtlpfglkopnmlnaaDoor
open Go.RowKit Go.Shelf
/-- Each step's letter leads from the place that it comes from. -/
def EdgeB (ld : Nat → Nat → Nat) (B : Steps) : Prop := ∀ k, 0 < k → k < B.length → plB B k = ((ld (plB B (frB B k).toNat).toNat (leB B k).toNat : Nat) : Int)
theorem EdgeB.add {ld : Nat → Nat → Nat} {B : Steps} (hT : TreeB B) (h : EdgeB ld B) {p i x : Nat} (hi : i < B.length) (hp : plB B i = (p : Int)) : EdgeB ld (addB ld B p i x) := by
  unfold addB
  split
  · exact h
  · obtain ⟨s1, s2, s3⟩ := snoc_pl B (ld p x) (i : Int) (x : Int)
    have hpre : B <+: B ++ [(((ld p x : Nat) : Int), (i : Int), (x : Int))] := List.prefix_append _ _
    intro k h0 hk
    by_cases e : k < B.length
    · obtain ⟨t1, t2⟩ := hT.2.2 k h0 e
      rw [(pre_pl hpre k e).1, (pre_pl hpre k e).2.1, (pre_pl hpre k e).2.2, (pre_pl hpre (frB B k).toNat (by omega)).1]
      exact h k h0 e
    · have e2 : k = B.length := by rw [List.length_append] at hk; simp at hk; omega
      subst e2
      rw [s1, s2, s3, Int.toNat_natCast, Int.toNat_natCast, (pre_pl hpre i hi).1, hp, Int.toNat_natCast]
theorem EdgeB.row {n : Nat} {ld : Nat → Nat → Nat} {B : Steps} (hG : GoodB n B) (h : EdgeB ld B) {p i : Nat} (hi : i < B.length) (hp : plB B i = (p : Int)) : ∀ K, K ≤ 1000 → (∀ x, x < K → ld p x < n) → EdgeB ld (rowB ld B p i K)
  | 0, _, _ => h
  | K + 1, hK, hq => by
    have hg := GoodB.row hG hi K (by omega) (fun x hx => hq x (by omega))
    exact (EdgeB.row hG h hi hp K (by omega) (fun x hx => hq x (by omega))).add hg.tree (Nat.lt_of_lt_of_le hi (rowB_pre ld B p i K).length_le) ((pre_pl (rowB_pre ld B p i K) i hi).1.trans hp)
theorem EdgeB.bfs {n K s : Nat} {ld : Nat → Nat → Nat} (hs : s < n) (hK : K ≤ 1000) (hld : ∀ p x, p < n → x < K → ld p x < n) : ∀ i, EdgeB ld (bfsTo ld K s i)
  | 0 => fun k h0 hk => by simp [bfsTo] at hk; omega
  | i + 1 => by
    have ih := EdgeB.bfs (n := n) hs hK hld i
    have e : bfsTo ld K s (i + 1) = (if i < (bfsTo ld K s i).length then rowB ld (bfsTo ld K s i) (plB (bfsTo ld K s i) i).toNat i K else bfsTo ld K s i) := rfl
    rw [e]
    split
    · rename_i hlt
      have hg := GoodB.bfs (n := n) (K := K) (s := s) (ld := ld) hs hK hld i
      obtain ⟨p, hp, hpn⟩ := hg.below i hlt
      rw [hp, Int.toNat_natCast]
      exact EdgeB.row hg ih hlt hp K hK (fun x hx => hld p x hpn hx)
    · exact ih
theorem bfs_zero (ld : Nat → Nat → Nat) (K s n : Nat) : 0 < (bfsTo ld K s n).length ∧ plB (bfsTo ld K s n) 0 = (s : Int) := by
  have hpre : bfsTo ld K s 0 <+: bfsTo ld K s n := by
    have := bfs_pre_le ld K s 0 n
    rwa [Nat.zero_add] at this
  have h0 : 0 < (bfsTo ld K s 0).length := Nat.zero_lt_one
  exact ⟨Nat.lt_of_lt_of_le h0 hpre.length_le, (pre_pl hpre 0 h0).1⟩
/-- A run of letters from a place that is reached. -/
theorem bfs_runs {n K s : Nat} {ld : Nat → Nat → Nat} (hs : s < n) (hK : K ≤ 1000) (hld : ∀ p x, p < n → x < K → ld p x < n) : ∀ (u : List Nat) (p i : Nat), (∀ x ∈ u, x < K) → i < (bfsTo ld K s n).length → plB (bfsTo ld K s n) i = (p : Int) →
    ∃ j, j < (bfsTo ld K s n).length ∧ plB (bfsTo ld K s n) j = ((u.foldl ld p : Nat) : Int) ∧ (wordB (bfsTo ld K s n) j).length ≤ (wordB (bfsTo ld K s n) i).length + u.length
  | [], p, i, _, hi, hp => ⟨i, hi, hp, Nat.le_refl _⟩
  | x :: u, p, i, hu, hi, hp => by
    obtain ⟨j, hj, hpj, hl⟩ := bfs_closed hs hK hld i p x hi hp (hu x (by simp))
    obtain ⟨j', h1, h2, h3⟩ := bfs_runs hs hK hld u (ld p x) j (fun y hy => hu y (by simp [hy])) hj hpj
    exact ⟨j', h1, h2, by rw [List.length_cons]; omega⟩
/-- The word of a step leads to its place. -/
theorem word_leads {n K s : Nat} {ld : Nat → Nat → Nat} (hs : s < n) (hK : K ≤ 1000) (hld : ∀ p x, p < n → x < K → ld p x < n) : ∀ j, j < (bfsTo ld K s n).length → plB (bfsTo ld K s n) j = ((((wordB (bfsTo ld K s n) j).map Int.toNat).foldl ld s : Nat) : Int) := by
  have hg := GoodB.bfs (n := n) (K := K) (s := s) (ld := ld) hs hK hld n
  have hE := EdgeB.bfs (n := n) (K := K) (s := s) (ld := ld) hs hK hld n
  have hz := (bfs_zero ld K s n).2
  intro j
  induction j using Nat.strongRecOn with
  | _ j ih =>
    intro hj
    rcases Nat.eq_zero_or_pos j with e | e
    · subst e; rw [wordB_root hg.tree, hz]; rfl
    · obtain ⟨b1, b2⟩ := hg.tree.2.2 j e hj
      rw [hE j e hj, wordB_step hg.tree e hj, List.map_append, List.foldl_append]
      have h := ih (frB (bfsTo ld K s n) j).toNat (by omega) (by omega)
      rw [h, Int.toNat_natCast]
      rfl
/-- A place stands once. -/
theorem place_once {n : Nat} {B : Steps} (h : GoodB n B) {i j : Nat} (hi : i < B.length) (hj : j < B.length) (e : plB B i = plB B j) : i = j := by
  have hn := h.nodup
  have e1 : (B.map (·.1))[i]'(by simpa using hi) = (B.map (·.1))[j]'(by simpa using hj) := by
    unfold plB at e
    rw [List.getD_eq_getElem?_getD, List.getElem?_eq_getElem hi, List.getD_eq_getElem?_getD, List.getElem?_eq_getElem hj] at e
    simpa using e
  exact (List.getElem_inj hn).1 e1
end Go.Proofs.YtlpfglkopnmlnaaDoor
namespace Go.Proofs.YtlpfglkopnmlnaaDoor
open Go.RowKit Go.Shelf
/-- The steps came in the order of (the step that they come from, the letter); all before a round and a letter. -/
def OrdB (B : Steps) (i x : Int) : Prop :=
  (∀ k, 0 < k → k < B.length → frB B k < i ∨ (frB B k = i ∧ leB B k < x)) ∧ ∀ j k, 0 < j → j < k → k < B.length → frB B j < frB B k ∨ (frB B j = frB B k ∧ leB B j < leB B k)
theorem OrdB.add {B : Steps} {i x : Nat} (h : OrdB B i x) (ld : Nat → Nat → Nat) (p : Nat) : OrdB (addB ld B p i x) i ((x : Int) + 1) := by
  unfold addB
  split
  · refine ⟨fun k h0 hk => ?_, h.2⟩
    rcases h.1 k h0 hk with h1 | ⟨h1, h2⟩
    · exact .inl h1
    · exact .inr ⟨h1, by omega⟩
  · obtain ⟨s1, s2, s3⟩ := snoc_pl B (ld p x) (i : Int) (x : Int)
    have hp : B <+: B ++ [(((ld p x : Nat) : Int), (i : Int), (x : Int))] := List.prefix_append _ _
    have key : ∀ k, k < (B ++ [(((ld p x : Nat) : Int), (i : Int), (x : Int))]).length → (k < B.length ∧ frB (B ++ [(((ld p x : Nat) : Int), (i : Int), (x : Int))]) k = frB B k ∧ leB (B ++ [(((ld p x : Nat) : Int), (i : Int), (x : Int))]) k = leB B k) ∨ (k = B.length ∧ frB (B ++ [(((ld p x : Nat) : Int), (i : Int), (x : Int))]) k = i ∧ leB (B ++ [(((ld p x : Nat) : Int), (i : Int), (x : Int))]) k = x) := fun k hk => by
      by_cases e : k < B.length
      · exact .inl ⟨e, (pre_pl hp k e).2.1, (pre_pl hp k e).2.2⟩
      · have e2 : k = B.length := by rw [List.length_append] at hk; simp at hk; omega
        subst e2
        exact .inr ⟨rfl, s2, s3⟩
    refine ⟨fun k h0 hk => ?_, fun j k h0 hjk hk => ?_⟩
    · rcases key k hk with ⟨h1, h2, h3⟩ | ⟨_, h2, h3⟩ <;> rw [h2, h3]
      · rcases h.1 k h0 h1 with h4 | ⟨h4, h5⟩
        · exact .inl h4
        · exact .inr ⟨h4, by omega⟩
      · exact .inr ⟨rfl, by omega⟩
    · rcases key k hk with ⟨h1, h2, h3⟩ | ⟨h1, h2, h3⟩
      · rcases key j (by omega) with ⟨h4, h5, h6⟩ | ⟨h4, h5, h6⟩
        · rw [h2, h3, h5, h6]; exact h.2 j k h0 hjk h1
        · omega
      · rcases key j (by omega) with ⟨h4, h5, h6⟩ | ⟨h4, h5, h6⟩
        · rw [h2, h3, h5, h6]; exact h.1 j h0 h4
        · omega
theorem OrdB.row {B : Steps} {i : Nat} (h : OrdB B i 0) (ld : Nat → Nat → Nat) (p : Nat) : ∀ K : Nat, OrdB (rowB ld B p i K) i K
  | 0 => h
  | K + 1 => by
    have := (OrdB.row h ld p K).add ld p
    rw [show ((K + 1 : Nat) : Int) = (K : Int) + 1 by omega]
    exact this
theorem OrdB.bfs (ld : Nat → Nat → Nat) (K s : Nat) : ∀ i : Nat, OrdB (bfsTo ld K s i) i 0
  | 0 => ⟨fun k h0 hk => by simp [bfsTo] at hk; omega, fun j k h0 hjk hk => by simp [bfsTo] at hk; omega⟩
  | i + 1 => by
    have ih := OrdB.bfs ld K s i
    have e : bfsTo ld K s (i + 1) = (if i < (bfsTo ld K s i).length then rowB ld (bfsTo ld K s i) (plB (bfsTo ld K s i) i).toNat i K else bfsTo ld K s i) := rfl
    have next : ∀ {B : Steps} {x : Int}, OrdB B i x → OrdB B ((i + 1 : Nat) : Int) 0 := fun h => ⟨fun k h0 hk => by rcases h.1 k h0 hk with h1 | ⟨h1, _⟩ <;> exact .inl (by omega), h.2⟩
    rw [e]
    split
    · exact next (ih.row ld _ K)
    · exact next ih
theorem rowB_le (ld : Nat → Nat → Nat) (B : Steps) (p i : Nat) : ∀ d x : Nat, rowB ld B p i x <+: rowB ld B p i (x + d)
  | 0, _ => List.prefix_refl _
  | d + 1, x => (rowB_le ld B p i d x).trans (addB_pre ld _ p i (x + d))
/-- The place to which a letter leads was reached at that letter of that step, or before. -/
theorem bfs_first {n K s : Nat} {ld : Nat → Nat → Nat} (hs : s < n) (hK : K ≤ 1000) (hld : ∀ p x, p < n → x < K → ld p x < n) (i p x : Nat) (hi : i < (bfsTo ld K s n).length) (hp : plB (bfsTo ld K s n) i = (p : Int)) (hx : x < K) :
    ∃ j, j < (bfsTo ld K s n).length ∧ plB (bfsTo ld K s n) j = ((ld p x : Nat) : Int) ∧ (j = 0 ∨ frB (bfsTo ld K s n) j < i ∨ (frB (bfsTo ld K s n) j = i ∧ leB (bfsTo ld K s n) j ≤ x)) := by
  have hg := GoodB.bfs (n := n) (K := K) (s := s) (ld := ld) hs hK hld
  have hn := (hg n).len
  have hlt : i < (bfsTo ld K s i).length := by
    rcases Nat.lt_or_ge i (bfsTo ld K s i).length with h | h
    · exact h
    · exfalso
      have e := bfs_stop ld K s i h (n - i)
      rw [show i + (n - i) = n by omega] at e
      rw [e] at hi; omega
  have hpre1 : bfsTo ld K s i <+: bfsTo ld K s n := by
    have := bfs_pre_le ld K s i (n - i)
    rwa [show i + (n - i) = n by omega] at this
  have hpre2 : bfsTo ld K s (i + 1) <+: bfsTo ld K s n := by
    have := bfs_pre_le ld K s (i + 1) (n - (i + 1))
    rwa [show i + 1 + (n - (i + 1)) = n by omega] at this
  have hpi : plB (bfsTo ld K s i) i = (p : Int) := (pre_pl hpre1 i hlt).1.symm.trans hp
  have e : bfsTo ld K s (i + 1) = rowB ld (bfsTo ld K s i) p i K := by
    have e0 : bfsTo ld K s (i + 1) = (if i < (bfsTo ld K s i).length then rowB ld (bfsTo ld K s i) (plB (bfsTo ld K s i) i).toNat i K else bfsTo ld K s i) := rfl
    rw [e0, if_pos hlt, hpi, Int.toNat_natCast]
  have hpre3 : rowB ld (bfsTo ld K s i) p i (x + 1) <+: bfsTo ld K s n := by
    have := rowB_le ld (bfsTo ld K s i) p i (K - (x + 1)) (x + 1)
    rw [show x + 1 + (K - (x + 1)) = K by omega, ← e] at this
    exact this.trans hpre2
  obtain ⟨j, hj, hpj⟩ := hasP_iff (addB_has ld (rowB ld (bfsTo ld K s i) p i x) p i x)
  have hj : j < (rowB ld (bfsTo ld K s i) p i (x + 1)).length := hj
  obtain ⟨r1, r2, r3⟩ := pre_pl hpre3 j hj
  refine ⟨j, Nat.lt_of_lt_of_le hj hpre3.length_le, r1.trans hpj, ?_⟩
  rcases Nat.eq_zero_or_pos j with e1 | e1
  · exact .inl e1
  · rw [r2, r3]
    rcases ((OrdB.bfs ld K s i).row ld p (x + 1)).1 j e1 hj with h1 | ⟨h1, h2⟩
    · exact .inr (.inl h1)
    · exact .inr (.inr ⟨h1, by omega⟩)
end Go.Proofs.YtlpfglkopnmlnaaDoor
namespace Go.Proofs.YtlpfglkopnmlnaaDoor
open Go.RowKit Go.Shelf
def lexLt : List Int → List Int → Prop
  | x :: a, y :: b => x < y ∨ (x = y ∧ lexLt a b)
  | _, _ => False
theorem lexLt.trans : ∀ {a b d : List Int}, lexLt a b → lexLt b d → lexLt a d
  | [], _, _, h, _ => h.elim
  | _ :: _, [], _, h, _ => h.elim
  | _ :: _, _ :: _, [], _, k => k.elim
  | x :: a, y :: b, z :: d, h, k => by
    rcases h with h | ⟨rfl, h⟩
    · rcases k with k | ⟨rfl, _⟩
      · exact .inl (by omega)
      · exact .inl h
    · rcases k with k | ⟨rfl, k⟩
      · exact .inl k
      · exact .inr ⟨rfl, lexLt.trans h k⟩
theorem lexLt.snoc : ∀ {a b : List Int}, lexLt a b → ∀ x y : Int, lexLt (a ++ [x]) (b ++ [y])
  | [], _, h, _, _ => h.elim
  | _ :: _, [], h, _, _ => h.elim
  | p :: a, q :: b, h, x, y => by
    rcases h with h | ⟨rfl, h⟩
    · exact .inl h
    · exact .inr ⟨rfl, h.snoc x y⟩
theorem lexLt.last : ∀ (a : List Int) {x y : Int}, x < y → lexLt (a ++ [x]) (a ++ [y])
  | [], _, _, h => .inl h
  | _ :: a, _, _, h => .inr ⟨rfl, lexLt.last a h⟩
/-- Shorter, or of the same length and earlier in order. -/
def SL (a b : List Int) : Prop := a.length < b.length ∨ (a.length = b.length ∧ lexLt a b)
def SLe (a b : List Int) : Prop := a = b ∨ SL a b
theorem SL.snoc {a b : List Int} (h : SL a b) (x y : Int) : SL (a ++ [x]) (b ++ [y]) := by
  rcases h with h | ⟨h, k⟩
  · exact .inl (by simp; omega)
  · exact .inr ⟨by simp; omega, k.snoc x y⟩
theorem SL.last (a : List Int) {x y : Int} (h : x < y) : SL (a ++ [x]) (a ++ [y]) := .inr ⟨by simp, lexLt.last a h⟩
theorem SL.trans {a b d : List Int} (h : SL a b) (k : SL b d) : SL a d := by
  rcases h with h | ⟨h, h'⟩ <;> rcases k with k | ⟨k, k'⟩
  · exact .inl (by omega)
  · exact .inl (by omega)
  · exact .inl (by omega)
  · exact .inr ⟨by omega, h'.trans k'⟩
theorem SLe.snoc {a b : List Int} (h : SLe a b) (x : Int) : SLe (a ++ [x]) (b ++ [x]) := by
  rcases h with rfl | h
  · exact .inl rfl
  · exact .inr (h.snoc x x)
theorem SL.le {a b d : List Int} (h : SL a b) (k : SLe b d) : SL a d := by
  rcases k with rfl | k
  · exact h
  · exact h.trans k
/-- The steps come in the order of their words. -/
theorem words_rise {B : Steps} {i x : Int} (hT : TreeB B) (hO : OrdB B i x) : ∀ k j, j < k → k < B.length → SL (wordB B j) (wordB B k) := by
  intro k
  induction k using Nat.strongRecOn with
  | _ k ih =>
    intro j hjk hk
    obtain ⟨b1, b2⟩ := hT.2.2 k (by omega) hk
    rw [wordB_step hT (by omega) hk]
    rcases Nat.eq_zero_or_pos j with e | e
    · subst e
      rw [wordB_root hT]
      exact .inl (by simp)
    · obtain ⟨a1, a2⟩ := hT.2.2 j e (by omega)
      rw [wordB_step hT e (by omega)]
      rcases hO.2 j k e hjk hk with h | ⟨h, h'⟩
      · exact (ih (frB B k).toNat (by omega) (frB B j).toNat (by omega) (by omega)).snoc _ _
      · rw [h]
        exact SL.last _ h'
/-- Of all words that lead to a place that of its step comes first. -/
theorem word_least {n K s : Nat} {ld : Nat → Nat → Nat} (hs : s < n) (hK : K ≤ 1000) (hld : ∀ p x, p < n → x < K → ld p x < n) : ∀ (m : Nat) (u : List Nat), u.length = m → (∀ x ∈ u, x < K) →
    ∃ j, j < (bfsTo ld K s n).length ∧ plB (bfsTo ld K s n) j = ((u.foldl ld s : Nat) : Int) ∧ SLe (wordB (bfsTo ld K s n) j) (u.map fun x : Nat => (x : Int)) := by
  have hg := GoodB.bfs (n := n) (K := K) (s := s) (ld := ld) hs hK hld n
  have hT := hg.tree
  have hO := OrdB.bfs ld K s n
  intro m
  induction m with
  | zero =>
    intro u hl _
    obtain rfl : u = [] := List.eq_nil_of_length_eq_zero hl
    obtain ⟨z1, z2⟩ := bfs_zero ld K s n
    exact ⟨0, z1, z2, .inl (by rw [wordB_root hT]; rfl)⟩
  | succ m ih =>
    intro u hl hu
    obtain ⟨u', x, rfl⟩ : ∃ u' x, u = u' ++ [x] := by
      have hne : u ≠ [] := fun e => by subst e; simp at hl
      exact ⟨u.dropLast, u.getLast hne, (List.dropLast_concat_getLast hne).symm⟩
    obtain ⟨i, hi, hp, hw⟩ := ih u' (by simp at hl; omega) (fun y hy => hu y (by simp [hy]))
    have hx := hu x (by simp)
    obtain ⟨j, hj, hpj, hord⟩ := bfs_first hs hK hld i _ x hi hp hx
    refine ⟨j, hj, by rw [hpj, List.foldl_append]; rfl, ?_⟩
    rw [List.map_append]
    show SLe _ ((u'.map fun x : Nat => (x : Int)) ++ [(x : Int)])
    rcases Nat.eq_zero_or_pos j with e | e
    · subst e
      rw [wordB_root hT]
      exact .inr (.inl (by simp))
    · obtain ⟨b1, b2⟩ := hT.2.2 j e hj
      rw [wordB_step hT e hj]
      rcases hord with h | h | ⟨h, h'⟩
      · omega
      · have h1 := words_rise hT hO i (frB (bfsTo ld K s n) j).toNat (by omega) hi
        exact .inr ((h1.snoc _ (x : Int)).le (hw.snoc _))
      · rw [h, Int.toNat_natCast]
        rcases Int.lt_or_eq_of_le h' with h2 | h2
        · exact .inr ((SL.last _ h2).le (hw.snoc _))
        · rw [h2]; exact hw.snoc _
end Go.Proofs.YtlpfglkopnmlnaaDoor
namespace Go.Proofs.YtlpfglkopnmlnaaDoor
open Go.RowKit Go.Shelf
/-- WHAT AN ITERATOR PROMISES: gf with what comes before and behind yield among its arguments; encs: yield's arguments; n₀: what it reads lies below; G: what holds of an element while its round begins. -/
def SeqO {α : Type} (gf : Nat) (fb lb : Array Value) (encs : α → Array Value) (n₀ : Nat) (G : Blocks → α → World → Prop) (S Sp : List α → Prop) (w0 : World) (X0 : Blocks) : Prop :=
  ∀ (l : Nat) (J Jx : Blocks → List α → World → Prop) (W : World), Below w0.heap.size w0 W → Minds J → Minds Jx →
    (∀ X pre x W1, (∀ k, X k → k < W1.heap.size) → J X pre W1 → G X x W1 → Sp (pre ++ [x]) → YieldAt Fence.wide 0 Tryd.prog l (encs x) W1 fun e W' =>
      ((e = .returned (.bool true) ∧ J X (pre ++ [x]) W') ∨ (e = .returned (.bool false) ∧ Jx X (pre ++ [x]) W')) ∧ Keep n₀ X W1 W') →
    J X0 [] W →
    Calls Tryd.prog gf ((fb ++ #[.func (.yield l) #[] #[]]) ++ lb) W fun e W' => (∃ v, e = .returned v) ∧ ((∃ X xs, S xs ∧ J X xs W') ∨ (∃ X pre, Sp pre ∧ Jx X pre W'))
/-- THE STATEMENT 'for .. := range f { .. }' over an iterator that keeps its promise. -/
theorem range_lawO {α : Type} {g : Operand} {ps : Array Tmp} {assign body : Code} {Q : Exit → Act → World → Prop} {a : Act} {w : World} {gf : Nat} {fb lb : Array Value}
    (hg : a.eval g = .func (.func gf) fb lb) (eg : ∀ args w, (callFunc gf args).run Tryd.prog w = .ok (.enter gf args) w)
    {encs : α → Array Value} {n₀ : Nat} {G : Blocks → α → World → Prop} {S Sp : List α → Prop} {w0 : World} {X0 : Blocks} (hseq : SeqO gf fb lb encs n₀ G S Sp w0 X0) (hX0 : ∀ k, X0 k → k < w.heap.size)
    (hG : ∀ X x W W', G X x W → Keep n₀ X W W' → G X x W') (hn : n₀ ≤ w.heap.size) (hb0 : Below w0.heap.size w0 w) (hps : ∀ x, (encs x).size = ps.size)
    (I : Blocks → List α → World → Prop) (Ix : Code → Blocks → List α → World → Prop) (hI : Stable w.heap.size I) (hIx : ∀ c, Stable w.heap.size (Ix c)) (h0 : I X0 [] w)
    (Ax : α → Act → World → Prop) (hAx : ∀ x a', Stable w.heap.size (fun _ (_ : Unit) W => Ax x a' W))
    (hassign : ∀ (l : Nat) (X : Blocks) (pre : List α) (x : α) (W : World) (K : Act → World → Prop), I X pre W → (∀ a' W', KeepsFrom w.heap.size W W' → Keep n₀ X W W' → I X pre W' → Ax x a' W' → K a' W') →
      assign.wpIn (Fence.wide.inRound l) 0 Tryd.prog (Exit.then K (fun _ _ _ => False)) { tmps := (ps.zip (encs x)).foldl (fun t (p, v) => t.setIfInBounds p v) a.tmps, defers := [] } W)
    (hbody : ∀ (l : Nat) (X : Blocks) (pre : List α) (x : α) (a' : Act) (W : World), w.heap.size ≤ l → (∃ r, W.heap[l]? = some (.loop r)) → ¬ X l → (∀ k, X k → k < W.heap.size) → I X pre W → G X x W → Ax x a' W → Sp (pre ++ [x]) →
      body.wpIn (Fence.wide.inRound l) 0 Tryd.prog (postX w.heap.size n₀ I Ix X (pre ++ [x]) W) a' W)
    (hdone : ∀ (D : Nat) (X : Blocks) (xs : List α) (W : World), w.heap.size ≤ D → S xs → I X xs W → W.heap[D]? = some (.deferred (some [])) → Q .normal { a with defers := { target := .collected D, args := #[] } :: a.defers } W)
    (hstop : ∀ (D : Nat) (X : Blocks) (c : Code) (pre : List α) (W : World), w.heap.size ≤ D → Sp pre → Ix c X pre W → W.heap[D]? = some (.deferred (some [])) → c.wpIn Fence.wide 0 Tryd.prog Q { a with defers := { target := .collected D, args := #[] } :: a.defers } W) :
    (Code.rangeFunc g ps assign body).wpIn Fence.wide 0 Tryd.prog Q a w := by
  refine wpIn_rangeFunc ?_
  intro fn hfn
  obtain ⟨rec, hrec⟩ : ∃ rec : LoopState → Option Code → Loop, rec = fun st pe => { state := st, pending := pe, fn, tmps := a.tmps, params := ps, assign, body, defers := w.heap.size } := ⟨_, rfl⟩
  obtain ⟨W1, hW1⟩ : ∃ W1, (w.alloc (.deferred (some []))).alloc (.loop (rec .ready none)) = W1 := ⟨_, rfl⟩
  have hL1 : W1.heap[w.heap.size + 1]? = some (.loop (rec .ready none)) := by
    rw [← hW1]; have := World.alloc_heap_new (w.alloc (.deferred (some []))) (.loop (rec .ready none)); rwa [World.size_alloc] at this
  have hK1 : W1.heap[w.heap.size]? = some (.deferred (some [])) := by
    rw [← hW1]; exact (Below.heap_alloc _ _ _ (by simp)).trans (World.alloc_heap_new w _)
  have hI1 : I X0 [] W1 := by rw [← hW1]; exact hI.new _ (hI.new _ h0)
  have hb1 : Below w0.heap.size w0 W1 := by
    rw [← hW1]; exact hb0.trans ((((Below.refl _ w).alloc (Nat.le_refl _) _).alloc (by simp) _).mono hb0.size)
  refine ⟨w.heap.size + 1, [{ target := .collected w.heap.size, args := #[] }], W1, { target := .fn (.func gf) lb, args := fb ++ #[.func (.yield (w.heap.size + 1)) #[] #[]] }, W1, gf,
    (fb ++ #[.func (.yield (w.heap.size + 1)) #[] #[]]) ++ lb, W1, ?_, ?_, fun f' _ => trivial, ?_, fun h => by simp [Fence.wide] at h, ?_⟩
  · rw [← hW1, hrec]; exact run_enterLoop_outer _ _ _ _ _
  · simp only [resolve, hg]
    simp [go_sem, Deferred.ofValue]
  · simp [invoke, go_sem, eg]
  · refine callsIn_wide.2 ?_
    refine (hseq (w.heap.size + 1)
      (fun X pre W => I X pre W ∧ ¬ X (w.heap.size + 1) ∧ ¬ X w.heap.size ∧ W.heap[w.heap.size + 1]? = some (.loop (rec .ready none)) ∧ W.heap[w.heap.size]? = some (.deferred (some [])))
      (fun X pre W => ∃ c, Ix c X pre W ∧ ¬ X (w.heap.size + 1) ∧ ¬ X w.heap.size ∧ W.heap[w.heap.size + 1]? = some (.loop (rec .done (some c))) ∧ W.heap[w.heap.size]? = some (.deferred (some [])))
      W1 hb1 ?_ ?_ ?_ ⟨hI1, fun h => by have := hX0 _ h; omega, fun h => by have := hX0 _ h; omega, hL1, hK1⟩).mono ?_
    · rintro X X' s A B ⟨h1, h2, h3, h4, h5⟩ ht hX
      have l4 := (Array.getElem?_eq_some_iff.1 h4).1
      refine ⟨hI X X' s A B h1 ht.os ht.tape ht.output ht.size (fun k o hk hx _ => (ht.block k (Array.getElem?_eq_some_iff.1 hk).1 hx).trans hk) hX, fun h => ?_, fun h => ?_, (ht.block _ l4 h2).trans h4, (ht.block _ (by omega) h3).trans h5⟩
      · rcases hX _ h with h | h
        · exact h2 h
        · omega
      · rcases hX _ h with h | h
        · exact h3 h
        · omega
    · rintro X X' s A B ⟨c, h1, h2, h3, h4, h5⟩ ht hX
      have l4 := (Array.getElem?_eq_some_iff.1 h4).1
      refine ⟨c, hIx c X X' s A B h1 ht.os ht.tape ht.output ht.size (fun k o hk hx _ => (ht.block k (Array.getElem?_eq_some_iff.1 hk).1 hx).trans hk) hX, fun h => ?_, fun h => ?_, (ht.block _ l4 h2).trans h4, (ht.block _ (by omega) h3).trans h5⟩
      · rcases hX _ h with h | h
        · exact h2 h
        · omega
      · rcases hX _ h with h | h
        · exact h3 h
        · omega
    · -- one round
      rintro X pre x W hXs ⟨hi, hXl, hXd, hl, hk⟩ hgx hsp
      have hy := run_yield (P := Tryd.prog) (args := encs x) hl (by rw [hrec]; exact hps x)
      rw [hrec] at hy
      refine ⟨fn, _, assign, body, hy, roundIn_of_wpIn trivial (hassign _ X pre x W _ hi ?_)⟩
      clear hy
      intro a' Wa hkfa hkpa hia hax
      have hl' := hkfa.same _ _ (by omega) hl rfl
      have hk' := hkfa.same _ _ (Nat.le_refl _) hk rfl
      have hlt := (Array.getElem?_eq_some_iff.1 hl').1
      refine ⟨_, run_beginRound hl' (by rw [hrec]), ?_⟩
      have hl2 : (Wa.putObj (w.heap.size + 1) (.loop { rec .ready none with state := .busy })).heap[w.heap.size + 1]? = some (.loop { rec .ready none with state := .busy }) := World.putObj_heap_same hlt
      have hk2 : (Wa.putObj (w.heap.size + 1) (.loop { rec .ready none with state := .busy })).heap[w.heap.size]? = some (.deferred (some [])) := (World.putObj_heap_other (by omega)).trans hk'
      have hkp2 : Keep n₀ X Wa (Wa.putObj (w.heap.size + 1) (.loop { rec .ready none with state := .busy })) := keep_put _ (by omega) hXl
      refine wpIn_mono (hbody _ X pre x a' _ (by omega) ⟨_, hl2⟩ hXl (fun k hk => by have h1 := hXs k hk; have h2 := hkpa.size; simp; omega) (hI.put _ hia (by omega) hl' rfl) (hG _ _ _ _ hgx (hkpa.trans hkp2)) ((hAx x a').put (X := X) (s := ()) _ hax (by omega) hl' rfl) hsp) ?_
      have fin : ∀ (jump : Option Code) (W3 : World), KeepsFrom w.heap.size (Wa.putObj (w.heap.size + 1) (.loop { rec .ready none with state := .busy })) W3 →
          (Instr.endRound (w.heap.size + 1) jump).run Tryd.prog W3 = .ok (.bool jump.isNone) (W3.putObj (w.heap.size + 1) (.loop (rec (if jump.isNone then .ready else .done) jump))) ∧
          W3.heap[w.heap.size + 1]? = some (.loop { rec .ready none with state := .busy }) ∧
          (W3.putObj (w.heap.size + 1) (.loop (rec (if jump.isNone then .ready else .done) jump))).heap[w.heap.size + 1]? = some (.loop (rec (if jump.isNone then .ready else .done) jump)) ∧
          (W3.putObj (w.heap.size + 1) (.loop (rec (if jump.isNone then .ready else .done) jump))).heap[w.heap.size]? = some (.deferred (some [])) := fun jump W3 hk3 => by
        have hl3 := hk3.same _ _ (by omega) hl2 rfl
        have := run_endRound (P := Tryd.prog) jump hl3
        rw [hrec] at this ⊢
        exact ⟨this, by rw [hrec] at hl3; exact hl3, World.putObj_heap_same (Array.getElem?_eq_some_iff.1 hl3).1, (World.putObj_heap_other (by omega)).trans (hk3.same _ _ (Nat.le_refl _) hk2 rfl)⟩
      have kp : ∀ (W3 : World) (o : Obj), Keep n₀ X (Wa.putObj (w.heap.size + 1) (.loop { rec .ready none with state := .busy })) W3 → Keep n₀ X W (W3.putObj (w.heap.size + 1) o) := fun W3 o h3 =>
        ((hkpa.trans hkp2).trans h3).trans (keep_put _ (by omega) hXl)
      rintro e a3 W3 hp
      cases e with
      | normal =>
        obtain ⟨hk3, hkp3, hi3⟩ := hp
        obtain ⟨hr, hl3, hl4, hk4⟩ := fin none W3 hk3
        exact ⟨_, _, hr, .inl ⟨rfl, hI.put _ hi3 (by omega) hl3 rfl, hXl, hXd, hl4, hk4⟩, kp _ _ hkp3⟩
      | ret =>
        obtain ⟨hk3, hkp3, hi3⟩ := hp
        obtain ⟨hr, hl3, hl4, hk4⟩ := fin (some .ret) W3 hk3
        exact ⟨_, _, hr, .inr ⟨rfl, .ret, (hIx _).put _ hi3 (by omega) hl3 rfl, hXl, hXd, hl4, hk4⟩, kp _ _ hkp3⟩
      | exit id =>
        obtain ⟨hk3, hkp3, hi3⟩ := hp
        obtain ⟨hr, hl3, hl4, hk4⟩ := fin (some (.exit id)) W3 hk3
        exact ⟨_, _, hr, .inr ⟨rfl, .exit id, (hIx _).put _ hi3 (by omega) hl3 rfl, hXl, hXd, hl4, hk4⟩, kp _ _ hkp3⟩
      | goto t =>
        obtain ⟨hk3, hkp3, hi3⟩ := hp
        obtain ⟨hr, hl3, hl4, hk4⟩ := fin (some (.goto t)) W3 hk3
        exact ⟨_, _, hr, .inr ⟨rfl, .goto t, (hIx _).put _ hi3 (by omega) hl3 rfl, hXl, hXd, hl4, hk4⟩, kp _ _ hkp3⟩
      | panic ch => exact hp.elim
      | outgrown => exact hp.elim
    · -- behind the iterator
      rintro e W2 ⟨⟨v, rfl⟩, (⟨X, xs, hS, hi, _, _, hl, hk⟩ | ⟨X, pre, hSp, c, hi, _, _, hl, hk⟩)⟩
      · exact ⟨none, _, by have := run_endLoop (P := Tryd.prog) hl (by rw [hrec]; simp); rw [hrec] at this; exact this, hdone _ X xs _ (Nat.le_refl _) hS (hI.put _ hi (by omega) hl rfl) ((World.putObj_heap_other (by omega)).trans hk)⟩
      · exact ⟨some c, _, by have := run_endLoop (P := Tryd.prog) hl (by rw [hrec]; simp); rw [hrec] at this; exact this, hstop _ X c pre _ (Nat.le_refl _) hSp ((hIx c).put _ hi (by omega) hl rfl) ((World.putObj_heap_other (by omega)).trans hk)⟩
end Go.Proofs.YtlpfglkopnmlnaaDoor
namespace Go.Proofs.YtlpfglkopnmlnaaDoor
open Go.RowKit Go.Shelf
theorem infoStep : (Tryd.prog.info? 119).map (fun i => (i.zero, i.size, i.bytes)) = some (some (.agg #[.int .i64 0, .int .i64 0, .int .i64 0]), 3, 24) := by kernel_rfl
/-- What holds of a word's function when its round begins. -/
def WordG (F : Steps) (X : Blocks) (x : Nat × Value) (W : World) : Prop :=
  ∃ b6 b7 g cap B base, x.2 = .func (.func 106) #[] #[.pointer (some ⟨b6, 0, none⟩), .pointer (some ⟨b7, 0, none⟩)] ∧ X b6 ∧ X b7 ∧ X g ∧
    Boxed W b6 120 (.slice (some ⟨g, 0, none⟩) B.length cap) ∧ Boxed W b7 3 (.int .i64 x.1) ∧
    W.ownsRow base 119 3 (.slice (some ⟨g, 0, none⟩) B.length cap) B.length (flatB B) ∧ TreeB B ∧ x.1 < B.length ∧ B.length ≤ 1000 ∧ wordB B x.1 = wordB F x.1
theorem own_lt {W : World} {base : Nat} {e : TypeId} {s : Nat} {g n c k : Nat} {xs : List Value} (h : W.ownsRow base e s (.slice (some ⟨g, 0, none⟩) n c) k xs) : base ≤ g ∧ g < W.heap.size := by
  rcases h.2 with ⟨h', _⟩ | ⟨g', cap, cur, h', hb, hh, _⟩
  · cases h'
  · cases h'; exact ⟨hb, lt_of_block hh⟩
theorem WordG.keep {F : Steps} {X : Blocks} {x : Nat × Value} {n₀ : Nat} {W W' : World} (h : WordG F X x W) (k : Keep n₀ X W W') : WordG F X x W' := by
  obtain ⟨b6, b7, g, cap, B, base, h1, h2, h3, h4, h5, h6, h7, h8⟩ := h
  exact ⟨b6, b7, g, cap, B, base, h1, h2, h3, h4, (k.block b6 h5.lt (.inr h2)).trans h5, (k.block b7 h6.lt (.inr h3)).trans h6, owns_block h7 (k.block g (own_lt h7).2 (.inr h4)), h8⟩
set_option maxRecDepth 100000 in
set_option maxHeartbeats 1000000 in
theorem word_any (F : Steps) (X : Blocks) (i : Nat) (b6 b7 : Nat) (W : World) (h : WordG F X (i, .func (.func 106) #[] #[.pointer (some ⟨b6, 0, none⟩), .pointer (some ⟨b7, 0, none⟩)]) W) :
    Calls Tryd.prog 106 #[.pointer (some ⟨b6, 0, none⟩), .pointer (some ⟨b7, 0, none⟩)] W fun e w' => ∃ r, e = .returned r ∧ w'.ownsRow W.heap.size 3 1 r (wordB F i).length ((wordB F i).map fun x => .int .i64 x) ∧ Below W.heap.size W w' := by
  obtain ⟨b6', b7', g, cap, B, base, h1, h2, h3, h4, h5, h6, h7, h8, h9, h10, h11⟩ := h
  simp only [Value.func.injEq, true_and] at h1
  obtain ⟨rfl, rfl⟩ : b6 = b6' ∧ b7 = b7' := by simpa using h1
  have c5 := h5.cell
  have c6 := h6.cell
  have hs := spell_any _ B i W (steps_of_own h7 (by omega)) h8 h9
  rw [h11] at hs
  have Hs := hid hs
  clear hs h1 h11 h7 h8
  go_enter Tryd.func106, Tryd.ntmps106
  go_wp2_with fail
  refine Hs.out.mono ?_
  rintro e w1 ⟨r, rfl, hr, hb⟩
  have Hr := hid hr
  clear hr
  go_wp2
  go_ret
  exact ⟨_, rfl, Hr.out, hb⟩
/-- The map and the steps of a search. -/
structure Mem (base : Nat) (X : Blocks) (bm b6 g cap : Nat) (B : Steps) (W : World) : Prop where
  map : SeenMap W bm B.length (hasP B)
  row : W.ownsRow base 119 3 (.slice (some ⟨g, 0, none⟩) B.length cap) B.length (flatB B)
  box : Boxed W b6 120 (.slice (some ⟨g, 0, none⟩) B.length cap)
  xm : X bm
  xg : X g
  x6 : X b6
  lm : base ≤ bm
  l6 : base ≤ b6
theorem Mem.keep {base : Nat} {X : Blocks} {bm b6 g cap : Nat} {B : Steps} {W W' : World} {n₀ : Nat} (h : Mem base X bm b6 g cap B W) (k : Keep n₀ X W W') : Mem base X bm b6 g cap B W' :=
  ⟨h.map.kept (k.block bm h.map.lt (.inr h.xm)), owns_block h.row (k.block g (own_lt h.row).2 (.inr h.xg)), (k.block b6 h.box.lt (.inr h.x6)).trans h.box, h.xm, h.xg, h.x6, h.lm, h.l6⟩
theorem Mem.below {base : Nat} {X : Blocks} {bm b6 g cap : Nat} {B : Steps} {W W' : World} (h : Mem base X bm b6 g cap B W) (k : Below W.heap.size W W') : Mem base X bm b6 g cap B W' := h.keep (Keep.of_below (n₀ := 0) k)
theorem Mem.drew {base : Nat} {X : Blocks} {bm b6 g cap : Nat} {B : Steps} {W : World} (h : Mem base X bm b6 g cap B W) : Mem base X bm b6 g cap B W.drew := h.below (below_dr W 1)
theorem SeenMap.isMap {w : World} {bm n : Nat} {S : Nat → Bool} (h : SeenMap w bm n S) : ∃ es c, w.heap[bm]? = some (.map es c) := by
  obtain ⟨D, ⟨es, clock, hb, _⟩, _⟩ := h
  exact ⟨es, clock, hb⟩
theorem Mem.apart {base : Nat} {X : Blocks} {bm b6 g cap : Nat} {B : Steps} {W : World} (h : Mem base X bm b6 g cap B W) : bm ≠ b6 ∧ bm ≠ g ∧ b6 ≠ g := by
  obtain ⟨es, c, hm⟩ := h.map.isMap
  refine ⟨fun e => ?_, fun e => ?_, fun e => ?_⟩
  · have h6 := h.box
    unfold Boxed at h6
    rw [← e, hm] at h6; cases h6
  · rcases h.row.2 with ⟨h', _⟩ | ⟨g', cap', cur, h', hB, hh, _⟩
    · cases h'
    · cases h'
      rw [← e, hm] at hh; cases hh
  · exact (h.box.not_row (by decide) h.row) (by rw [e]; rfl)
/-- A step more: the map first, then the row, then the variable. -/
theorem Mem.add {base : Nat} {X : Blocks} {bm b6 g cap g' cap' : Nat} {B : Steps} {p : Nat} {i x : Int} {W w3 w5 : World} {o : Obj} (h : Mem base X bm b6 g cap B W)
    (hm : SeenMap w3 bm (B.length + 1) (fun q => decide (q = p) || hasP B q)) (hg3 : W.grownBy w3 (some bm))
    (hown : w5.ownsRow base 119 3 (.slice (some ⟨g', 0, none⟩) (B.length + 1) cap') (B.length + 1) (flatB B ++ [.int .i64 p, .int .i64 i, .int .i64 x])) (hg5 : (w3.alloc o).grownBy w5 (some g)) (hat : g = g' ∨ g' = (w3.alloc o).heap.size) :
    Mem base (fun k => X k ∨ (W.heap.size ≤ k ∧ k < w5.heap.size)) bm b6 g' cap' (B ++ [((p : Int), i, x)]) (w5.setCell ⟨b6, 0, none⟩ (.slice (some ⟨g', 0, none⟩) (B.length + 1) cap')) ∧
      Turn (fun k => X k ∧ base ≤ k) W (w5.setCell ⟨b6, 0, none⟩ (.slice (some ⟨g', 0, none⟩) (B.length + 1) cap')) ∧ w5.heap.size = (w5.setCell ⟨b6, 0, none⟩ (.slice (some ⟨g', 0, none⟩) (B.length + 1) cap')).heap.size := by
  obtain ⟨a1, a2, a3⟩ := h.apart
  have s3 := hg3.size
  have s5 := hg5.size
  have hgl := own_lt h.row
  have hbl := h.box.lt
  have hml := h.map.lt
  have hs : (w3.alloc o).heap.size = w3.heap.size + 1 := by simp
  have hal : ∀ k, k < w3.heap.size → (w3.alloc o).heap[k]? = w3.heap[k]? := fun k hk => Below.heap_alloc w3 o k hk
  have hg'l := own_lt hown
  have hg'6 : g' ≠ b6 := by rcases hat with e | e <;> omega
  have box3 : Boxed w3 b6 120 (.slice (some ⟨g, 0, none⟩) B.length cap) := (hg3.block b6 hbl (by simpa using fun e => a1 e.symm)).trans h.box
  have box5 : Boxed w5 b6 120 (.slice (some ⟨g, 0, none⟩) B.length cap) := ((hg5.block b6 (by omega) (by simpa using a3)).trans (hal b6 (by omega))).trans box3
  have hoth : ∀ k, k ≠ b6 → (w5.setCell ⟨b6, 0, none⟩ (.slice (some ⟨g', 0, none⟩) (B.length + 1) cap')).heap[k]? = w5.heap[k]? := fun k hk => Below.heap_setCell _ _ _ _ (by simpa using hk)
  have hfun : (fun q => decide (q = p) || hasP B q) = hasP (B ++ [((p : Int), i, x)]) := by
    funext q
    rw [hasP_snoc, Bool.or_comm]
    congr 1
    by_cases e : q = p
    · subst e; simp
    · have : ((p : Int) == (q : Int)) = false := by simp; omega
      rw [this]; simp [e]
  rw [hfun] at hm
  refine ⟨⟨?_, ?_, ?_, .inl h.xm, ?_, .inl h.x6, h.lm, h.l6⟩, ⟨?_, ?_, ?_, ?_, fun k hk hX => ?_⟩, by simp [World.setCell]⟩
  · rw [List.length_append]
    exact hm.kept ((hoth bm a1).trans ((hg5.block bm (by omega) (by simpa using a2)).trans (hal bm (by omega))))
  · rw [List.length_append, flatB_snoc]
    exact owns_block hown (hoth g' hg'6)
  · rw [List.length_append]
    exact box5.set _
  · rcases hat with e | e
    · rw [← e]; exact .inl h.xg
    · exact .inr ⟨by omega, hg'l.2⟩
  · exact hg5.os.trans hg3.os
  · exact hg5.tape.trans hg3.tape
  · exact hg5.output.trans hg3.output
  · simp [World.setCell]; omega
  · have k1 : k ≠ b6 := fun e => hX (e ▸ ⟨h.x6, h.l6⟩)
    have k2 : k ≠ bm := fun e => hX (e ▸ ⟨h.xm, h.lm⟩)
    have k3 : k ≠ g := fun e => hX (e ▸ ⟨h.xg, hgl.1⟩)
    rw [hoth k k1, hg5.block k (by omega) (by simpa using k3), hal k (by omega), hg3.block k hk (by simpa using k2)]
theorem Turn.mono {X Y : Blocks} {W W' : World} (h : Turn X W W') (hXY : ∀ k, X k → Y k) : Turn Y W W' := ⟨h.os, h.tape, h.output, h.size, fun k hk hY => h.block k hk (fun hX => hY (hXY k hX))⟩
theorem Keep.mono {n₀ : Nat} {X Y : Blocks} {W W' : World} (h : Keep n₀ Y W W') (hXY : ∀ k, X k → Y k) : Keep n₀ X W W' := ⟨h.os, h.tape, h.output, h.size, fun k hk hc => h.block k hk (hc.imp id (hXY k))⟩
/-- What lay there when the search began stays. -/
theorem Keep.of_turn {n₀ base : Nat} {X0 X : Blocks} {W W' : World} (h : Turn (fun k => X k ∧ base ≤ k) W W') (hn : n₀ ≤ base) (h0 : ∀ k, X0 k → k < base) : Keep n₀ X0 W W' :=
  ⟨h.os, h.tape, h.output, h.size, fun k hk hc => h.block k hk (fun hX => by
    obtain ⟨_, h2⟩ := hX
    rcases hc with h1 | h1
    · omega
    · have := h0 k h1; omega)⟩
/-- Where a search stands. -/
structure SW (J : Blocks → List (Nat × Value) → World → Prop) (n₀ : Nat) (X0 : Blocks) (W : World) (bm b6 b7 i : Nat) (B : Steps) (pre : List (Nat × Value)) (X : Blocks) (g cap : Nat) (wr : World) : Prop where
  mem : Mem W.heap.size X bm b6 g cap B wr
  ibox : Boxed wr b7 3 (.int .i64 i)
  x7 : X b7
  l7 : W.heap.size ≤ b7
  j : J X pre wr
  xlt : ∀ k, X k → k < wr.heap.size
  x0 : ∀ k, X0 k → X k
  kept : Keep n₀ X0 W wr
section
variable {J : Blocks → List (Nat × Value) → World → Prop} {n₀ : Nat} {X0 : Blocks} {W : World} {bm b6 b7 i : Nat} {B : Steps} {pre : List (Nat × Value)} {X : Blocks} {g cap : Nat} {wr : World}
theorem SW.below (h : SW J n₀ X0 W bm b6 b7 i B pre X g cap wr) (hJ : Minds J) {w' : World} (k : Below wr.heap.size wr w') : SW J n₀ X0 W bm b6 b7 i B pre X g cap w' :=
  ⟨h.mem.below k, (k.block b7 h.ibox.lt).trans h.ibox, h.x7, h.l7, hJ X X _ _ _ h.j (Turn.of_below k) (fun _ h => .inl h), fun a ha => Nat.lt_of_lt_of_le (h.xlt a ha) k.size, h.x0, h.kept.trans (Keep.of_below k)⟩
theorem SW.drew (h : SW J n₀ X0 W bm b6 b7 i B pre X g cap wr) (hJ : Minds J) : SW J n₀ X0 W bm b6 b7 i B pre X g cap wr.drew := h.below hJ (below_dr wr 1)
theorem SW.round (h : SW J n₀ X0 W bm b6 b7 i B pre X g cap wr) {pre' : List (Nat × Value)} {w' : World} (hj : J X pre' w') (k : Keep n₀ X wr w') : SW J n₀ X0 W bm b6 b7 i B pre' X g cap w' :=
  ⟨h.mem.keep k, (k.block b7 h.ibox.lt (.inr h.x7)).trans h.ibox, h.x7, h.l7, hj, fun a ha => Nat.lt_of_lt_of_le (h.xlt a ha) k.size, h.x0, h.kept.trans (k.mono h.x0)⟩
theorem SW.add (h : SW J n₀ X0 W bm b6 b7 i B pre X g cap wr) (hJ : Minds J) (hn : n₀ ≤ W.heap.size) (h0 : ∀ k, X0 k → k < W.heap.size) {g' cap' p : Nat} {x : Int} {w3 w5 : World} {o : Obj}
    (hm : SeenMap w3 bm (B.length + 1) (fun q => decide (q = p) || hasP B q)) (hg3 : wr.grownBy w3 (some bm))
    (hown : w5.ownsRow W.heap.size 119 3 (.slice (some ⟨g', 0, none⟩) (B.length + 1) cap') (B.length + 1) (flatB B ++ [.int .i64 p, .int .i64 i, .int .i64 x])) (hg5 : (w3.alloc o).grownBy w5 (some g)) (hat : g = g' ∨ g' = (w3.alloc o).heap.size) :
    ∃ X', SW J n₀ X0 W bm b6 b7 i (B ++ [((p : Int), (i : Int), x)]) pre X' g' cap' (w5.setCell ⟨b6, 0, none⟩ (.slice (some ⟨g', 0, none⟩) (B.length + 1) cap')) := by
  obtain ⟨m1, m2, m3⟩ := h.mem.add (i := (i : Int)) (x := x) hm hg3 hown hg5 hat
  have s3 := hg3.size
  have s5 := hg5.size
  have hs : (w3.alloc o).heap.size = w3.heap.size + 1 := by simp
  have h7l := h.ibox.lt
  obtain ⟨es, c, hmap⟩ := h.mem.map.isMap
  have k1 : b7 ≠ b6 := fun e => by
    have h6 := h.mem.box
    have h7 := h.ibox
    unfold Boxed at h6 h7
    rw [e, h6] at h7; cases h7
  have k2 : b7 ≠ bm := fun e => by
    have h7 := h.ibox
    unfold Boxed at h7
    rw [e, hmap] at h7; cases h7
  have k3 : some b7 ≠ (Value.slice (some ⟨g, 0, none⟩) B.length cap).ownBlock := h.ibox.not_row (by decide) h.mem.row
  refine ⟨_, ⟨m1, ?_, .inl h.x7, h.l7, hJ _ _ _ _ _ h.j (m2.mono fun k hk => hk.1) (fun k hk => hk.imp id (fun h => h.1)), fun k hk => ?_, fun k hk => .inl (h.x0 k hk), h.kept.trans (Keep.of_turn m2 hn h0)⟩⟩
  · have e1 : (w5.setCell ⟨b6, 0, none⟩ (.slice (some ⟨g', 0, none⟩) (B.length + 1) cap')).heap[b7]? = w5.heap[b7]? := Below.heap_setCell _ _ _ _ (by simpa using k1)
    exact e1.trans ((hg5.block b7 (by omega) k3).trans ((Below.heap_alloc w3 o b7 (by omega)).trans ((hg3.block b7 h7l (by simpa using k2)).trans h.ibox)))
  · rcases hk with hk | hk
    · have := h.xlt k hk; omega
    · omega
/-- The next round has a variable of its own. -/
theorem SW.next (h : SW J n₀ X0 W bm b6 b7 i B pre X g cap wr) (hJ : Minds J) {i' : Nat} : ∃ X', SW J n₀ X0 W bm b6 wr.heap.size i' B pre X' g cap (wr.alloc (.cells #[.int .i64 i'] 3)) := by
  have hb : Below wr.heap.size wr (wr.alloc (.cells #[.int .i64 i'] 3)) := bal (Below.refl _ wr) _
  obtain ⟨a1, a2, a3, a4, a5, a6, a7, a8⟩ := h.mem.below hb
  have hW := h.kept.size
  exact ⟨fun k => X k ∨ k = wr.heap.size, ⟨⟨a1, a2, a3, .inl a4, .inl a5, .inl a6, a7, a8⟩, Boxed.new wr _ _, .inr rfl, hW, hJ _ _ _ _ _ h.j (Turn.of_below hb) (fun k hk => hk.imp id (fun e => Nat.le_of_eq e.symm)),
    fun k hk => by
      simp only [World.size_alloc]
      rcases hk with hk | hk
      · have := h.xlt k hk; omega
      · omega, fun k hk => .inl (h.x0 k hk), h.kept.trans (Keep.of_below hb)⟩⟩
theorem SW.start (hJ : Minds J) (h0 : J X0 [] W) (hX0 : ∀ k, X0 k → k < W.heap.size) {w1 : World} {s : Nat} (hB1 : Below W.heap.size W w1) (hgs : W.heap.size < w1.heap.size) (hmap : SeenMap w1 W.heap.size 1 (fun q => decide (q = s) || false)) :
    SW J n₀ X0 W W.heap.size (w1.heap.size + 1) (w1.heap.size + 1 + 1) 0 [((s : Int), -1, 0)] [] (fun k => X0 k ∨ (W.heap.size ≤ k ∧ k < w1.heap.size + 3)) w1.heap.size 1
      (((w1.alloc (.cells #[.int .i64 s, .int .i64 (-1), .int .i64 0] 119)).alloc (.cells #[.slice (some ⟨w1.heap.size, 0, none⟩) 1 1] 120)).alloc (.cells #[.int .i64 0] 3)) := by
  have b1 : Below w1.heap.size w1 (((w1.alloc (.cells #[.int .i64 s, .int .i64 (-1), .int .i64 0] 119)).alloc (.cells #[.slice (some ⟨w1.heap.size, 0, none⟩) 1 1] 120)).alloc (.cells #[.int .i64 0] 3)) := bal (bal (bal (Below.refl _ w1) _) _) _
  have hBT := btr hB1 b1
  have hfun : (fun q => decide (q = s) || false) = hasP [((s : Int), -1, 0)] := by
    funext q
    by_cases e : q = s
    · subst e; simp [hasP]
    · have : ((s : Int) == (q : Int)) = false := by simp; omega
      simp [hasP, e, this]
  rw [hfun] at hmap
  have hrow := World.ownsRow_lit (base := W.heap.size) (e := 119) (size := 3) w1 #[.int .i64 s, .int .i64 (-1), .int .i64 0] 1 (by omega) (by decide) rfl
  have hrow3 := owns_block (w' := (((w1.alloc (.cells #[.int .i64 s, .int .i64 (-1), .int .i64 0] 119)).alloc (.cells #[.slice (some ⟨w1.heap.size, 0, none⟩) 1 1] 120)).alloc (.cells #[.int .i64 0] 3))) hrow ((bal (bal (Below.refl _ _) _) _).block _ (by simp))
  have q2 := (Boxed.new (w1.alloc (.cells #[.int .i64 s, .int .i64 (-1), .int .i64 0] 119)) 120 (.slice (some ⟨w1.heap.size, 0, none⟩) 1 1)).alloc (.cells #[.int .i64 0] 3)
  have q3 := Boxed.new ((w1.alloc (.cells #[.int .i64 s, .int .i64 (-1), .int .i64 0] 119)).alloc (.cells #[.slice (some ⟨w1.heap.size, 0, none⟩) 1 1] 120)) 3 (.int .i64 0)
  simp only [World.size_alloc] at q2 q3
  refine ⟨⟨hmap.kept (b1.block _ hgs), hrow3, q2, .inr ⟨Nat.le_refl _, by omega⟩, .inr ⟨by omega, by omega⟩, .inr ⟨by omega, by omega⟩, Nat.le_refl _, by omega⟩, q3, .inr ⟨by omega, by omega⟩, by omega, hJ _ _ _ _ _ h0 (Turn.of_below hBT) (fun k hk => hk.imp id (fun h => h.1)), fun k hk => ?_, fun k hk => .inl hk, Keep.of_below hBT⟩
  simp only [World.size_alloc]
  rcases hk with hk | hk
  · have := hX0 k hk; omega
  · omega
end
end Go.Proofs.YtlpfglkopnmlnaaDoor
namespace Go.Proofs.YtlpfglkopnmlnaaDoor
open Go.RowKit Go.Shelf
attribute [local go_sem] Oper.semAt_some
/-- What yield is told of a step. -/
def encW (F : Steps) (x : Nat × Value) : Array Value := #[.int .i64 (plB F x.1), x.2]
/-- The number that a box holds. -/
def boxI (v : Value) (w : World) : Nat := match v with
  | .pointer (some a) => (match w.cell? a with | some (.int _ x) => x.toNat | _ => 0)
  | _ => 0
theorem keep_cell {n₀ b : Nat} {X : Blocks} {W W' : World} {v : Value} (h : Keep n₀ X W W') (hX : X b) (hc : W.cell? ⟨b, 0, none⟩ = some v) : W'.cell? ⟨b, 0, none⟩ = some v :=
  (World.cell?_of_block (w := W) (w' := W') (a := ⟨b, 0, none⟩) (h.block b (World.block_lt_of_cell? _ _ hc) (.inr hX))).trans hc
theorem cells_three (w : World) (t : TypeId) (a b c : Value) : ∀ (j : Nat) (u : Value), [a, b, c][j]? = some u → (w.alloc (.cells #[a, b, c] t)).cell? ((⟨w.heap.size, 0, none⟩ : Addr).add j) = some u := by
  intro j u hu
  have hj : j < 3 := by
    have := (List.getElem?_eq_some_iff.1 hu).1
    simpa using this
  have h3 : j = 0 ∨ j = 1 ∨ j = 2 := by omega
  rcases h3 with rfl | rfl | rfl <;> simp at hu <;> subst hu <;> simp [Addr.add]
set_option maxRecDepth 100000 in
set_option maxHeartbeats 2000000 in
theorem Words_seq (ld : Nat → Nat → Nat) (n K s ab b1 b2 b3 n₀ : Nat) (R : World → Prop) (W0 : World) (X0 : Blocks) (hn60 : n ≤ 1000) (hK : K ≤ 1000) (hs : s < n) (hld : ∀ p x, p < n → x < K → ld p x < n)
    (h1 : X0 b1) (h2 : X0 b2) (h3 : X0 b3) (hX0 : ∀ k, X0 k → k < W0.heap.size) (hn₀ : n₀ ≤ W0.heap.size) (hR : ∀ W W', R W → Keep n₀ X0 W W' → R W') (hRW : R W0)
    (hlead : ∀ p x W, R W → p < n → x < K → Calls Tryd.prog 108 #[.int .i64 (p : Nat), .int .i64 (x : Nat), .pointer (some ⟨ab, 0, none⟩)] W fun e W' => e = .returned (.int .i64 (ld p x : Nat)) ∧ Below W.heap.size W W')
    (c1 : W0.cell? ⟨b1, 0, none⟩ = some (.int .i64 s)) (c2 : W0.cell? ⟨b2, 0, none⟩ = some (.int .i64 K)) (c3 : W0.cell? ⟨b3, 0, none⟩ = some (.func (.func 108) #[] #[.pointer (some ⟨ab, 0, none⟩)])) :
    SeqO 105 #[] #[.pointer (some ⟨b1, 0, none⟩), .pointer (some ⟨b2, 0, none⟩), .pointer (some ⟨b3, 0, none⟩)] (encW (bfsTo ld K s n)) n₀ (WordG (bfsTo ld K s n))
      (fun xs => xs.map (·.1) = List.range (bfsTo ld K s n).length) (fun pre => ∃ k, k ≤ (bfsTo ld K s n).length ∧ pre.map (·.1) = List.range k) W0 X0 := by
  obtain ⟨j0, hj, hy0, hy1, hy2⟩ := info_parts infoStep
  intro l J Jx W hW hJ hJx hY h0
  have hWs := hW.size
  have k0 : Keep n₀ X0 W0 W := Keep.of_below hW
  have d1 := (hW.cell (p := ⟨b1, 0, none⟩) (hX0 _ h1)).trans c1
  have d2 := (hW.cell (p := ⟨b2, 0, none⟩) (hX0 _ h2)).trans c2
  have d3 := (hW.cell (p := ⟨b3, 0, none⟩) (hX0 _ h3)).trans c3
  have hRw := hR _ _ hRW k0
  have hsz := hid hX0
  have Hlead := hid hlead
  have HY := hid hY
  have HR := hid hR
  clear hlead hY hR c1 c2 c3 hX0
  obtain ⟨w1, hput, hmap, hgr⟩ := (SeenMap.made W).put (by decide) s (by omega)
  have hmm := @run_makeMap Tryd.prog
  have hgs := hgr.size
  have hWs1 : (W.alloc (.map #[] 0)).heap.size = W.heap.size + 1 := by simp
  have e1 : (W.alloc (.map #[] 0)).cell? ⟨b1, 0, none⟩ = some (.int .i64 s) := ((bal (Below.refl _ W) _).cell (p := ⟨b1, 0, none⟩) (World.block_lt_of_cell? _ _ d1)).trans d1
  have hB1 : Below W.heap.size W w1 := (bal (Below.refl _ W) _).grown hgr (by simp) (fun q hq => by cases hq; exact Nat.le_refl _)
  have f1 := (hB1.cell (p := ⟨b1, 0, none⟩) (World.block_lt_of_cell? _ _ d1)).trans d1
  have f2 := (hB1.cell (p := ⟨b2, 0, none⟩) (World.block_lt_of_cell? _ _ d2)).trans d2
  have f3 := (hB1.cell (p := ⟨b3, 0, none⟩) (World.block_lt_of_cell? _ _ d3)).trans d3
  refine (callsIn_wide (n := 0)).1 ?_
  refine callsIn_of_wp Tryd.func105 rfl trivial ?_ rfl
  simp only [Tryd.ntmps105, List.size_toArray, List.length_cons, List.length_nil, Nat.reduceAdd, Nat.reduceSub, Array.replicate_succ, Array.replicate_zero, List.push_toArray, List.append_toArray, List.nil_append, List.cons_append]
  refine wpIn_wide.2 ?_
  have hX0W : ∀ k, X0 k → k < W.heap.size := fun k hk => by have := hsz.out k hk; omega
  have hST := SW.start (n₀ := n₀) hJ h0 hX0W hB1 (by omega) hmap
  have hgood := hid (fun i => GoodB.bfs (n := n) (K := K) (s := s) (ld := ld) hs hK hld i)
  have hsuc := hid (fun i => show bfsTo ld K s (i + 1) = (if i < (bfsTo ld K s i).length then rowB ld (bfsTo ld K s i) (plB (bfsTo ld K s i) i).toNat i K else bfsTo ld K s i) from rfl)
  have Hld := hid hld
  have HST := hid hST
  clear hST hmap hld
  go_wp2_with fail
  go_loopw [7] (fun r wr => ∃ (i b7 : Nat) (pre : List (Nat × Value)) (X : Blocks) (g cap : Nat), r = .pointer (some ⟨b7, 0, none⟩) ∧ i ≤ (bfsTo ld K s i).length ∧ pre.map (·.1) = List.range i ∧ SW J n₀ X0 W W.heap.size (w1.heap.size + 1) b7 i (bfsTo ld K s i) pre X g cap wr) (fun r wr => n + 1 - boxI r wr)
  case atStart => exact ⟨0, _, [], _, _, _, rfl, Nat.zero_le _, rfl, HST.out⟩
  case round =>
    obtain ⟨i, b7, pre, X, g, cap, rfl, hi, hpre, hSW⟩ := hrel
    have hgi := hgood.out i
    have hlen := hgi.len
    have m7 := hSW.ibox.cell
    have m7f := hSW.ibox.frozen
    have m6 := hSW.mem.box.cell
    have Hpre := hid hpre
    have HS := hid hSW
    clear hpre
    by_cases hlt : i < (bfsTo ld K s i).length
    · have hlts : (i : Int) < (bfsTo ld K s i).length := by omega
      obtain ⟨q1, _, _⟩ := flatB_get _ i hlt
      rw [← hSW.mem.row.cellAt (i * 3) (by omega)] at q1
      obtain ⟨p, hp, hpn⟩ := hgi.below i hlt
      rw [hp] at q1
      have hs1 := hsuc.out i
      rw [if_pos hlt, hp, Int.toNat_natCast] at hs1
      have hpreF : bfsTo ld K s i <+: bfsTo ld K s n := by
        have := bfs_pre_le ld K s i (n - i)
        rwa [show i + (n - i) = n by omega] at this
      have hgn := hgood.out n
      have hFl := hpreF.length_le
      have hpF : plB (bfsTo ld K s n) i = (p : Int) := (pre_pl hpreF i hlt).1.trans hp
      have hwF := wordB_pre hpreF hgi hgn i hlt
      have hG : WordG (bfsTo ld K s n) X (i, .func (.func 106) #[] #[.pointer (some ⟨w1.heap.size + 1, 0, none⟩), .pointer (some ⟨b7, 0, none⟩)]) wr :=
        ⟨_, _, g, cap, _, _, rfl, hSW.mem.x6, hSW.x7, hSW.mem.xg, hSW.mem.box, hSW.ibox, hSW.mem.row, hgi.tree, hlt, by omega, hwF.symm⟩
      have hsp : ∃ k, k ≤ (bfsTo ld K s n).length ∧ (pre ++ [(i, Value.func (.func 106) #[] #[.pointer (some ⟨w1.heap.size + 1, 0, none⟩), .pointer (some ⟨b7, 0, none⟩)])]).map (·.1) = List.range k :=
        ⟨i + 1, by omega, by rw [List.map_append, Hpre.out, List.range_succ]; rfl⟩
      have hy0 := HY.out X pre _ wr hSW.xlt hSW.j hG hsp
      rw [show encW (bfsTo ld K s n) (i, Value.func (.func 106) #[] #[.pointer (some ⟨w1.heap.size + 1, 0, none⟩), .pointer (some ⟨b7, 0, none⟩)]) = #[.int .i64 (p : Nat), Value.func (.func 106) #[] #[.pointer (some ⟨w1.heap.size + 1, 0, none⟩), .pointer (some ⟨b7, 0, none⟩)]] from by unfold encW; rw [hpF]] at hy0
      have Hsp := hid hsp
      have Hs1 := hid hs1
      have HG := hid hgi
      clear hs1 hsp hG hpreF hgn hpF hwF hp hSW hgi
      obtain ⟨pre', hpr'⟩ : ∃ q, pre ++ [(i, Value.func (.func 106) #[] #[.pointer (some ⟨w1.heap.size + 1, 0, none⟩), .pointer (some ⟨b7, 0, none⟩)])] = q := ⟨_, rfl⟩
      rw [hpr'] at hy0 Hsp
      have hpr1 : pre'.map (·.1) = List.range (i + 1) := by rw [← hpr', List.map_append, Hpre.out, List.range_succ]; rfl
      clear hpr'
      obtain ⟨fn, tmps, assign, body, hy, hRd⟩ := hy0
      have Hrd := hid hRd
      have Hpr1 := hid hpr1
      clear hRd hpr1
      have hm0 : boxI (.pointer (some ⟨b7, 0, none⟩)) wr = i := by simp [boxI, m7]
      generalize hBB : bfsTo ld K s i = B at *
      go_upto_region 6 with fail
      refine (wpIn_wide (n := 0)).1 ?_
      gi_wp2_with fail
      refine ⟨rfl, Hrd.out.mono ?_⟩
      rintro e W3 ⟨⟨rfl, hJ3⟩ | ⟨rfl, hJ3⟩, hk3⟩
      · have S3 := HS.out.round hJ3 hk3
        have r2 := keep_cell S3.kept h2 d2
        clear HS m7 m6 q1 hk3 hJ3
        gi_wp2_with fail
        go_wp2_with fail
        go_loopw [34] (fun r wr => ∃ (x : Nat) (X : Blocks) (g cap : Nat), x ≤ K ∧ r = .int .i64 x ∧ SW J n₀ X0 W W.heap.size (w1.heap.size + 1) b7 i (rowB ld B p i x) pre' X g cap wr) (fun r _ => K - (intOf r).toNat)
        case atStart => exact ⟨0, X, g, cap, Nat.zero_le _, rfl, S3⟩
        case round =>
          clear S3 r2
          obtain ⟨x, X, g, cap, hx, rfl, hS⟩ := hrel
          by_cases hxl : x < K
          · have hxs : (x : Int) < K := by omega
            have hgx := GoodB.row HG.out hlt x (by omega) (fun y hy => Hld.out p y hpn (by omega))
            have hlx := hgx.len
            have hRr := HR.out _ _ hRw hS.kept
            have hL := Hlead.out p x wr hRr hpn hxl
            have hqn := Hld.out p x hpn hxl
            have r3 := keep_cell hS.kept h3 d3
            have HSx := hid hS
            have Hs2 := hid (show rowB ld B p i (x + 1) = (if hasP (rowB ld B p i x) (ld p x) then rowB ld B p i x else rowB ld B p i x ++ [(((ld p x : Nat) : Int), (i : Int), (x : Int))]) from rfl)
            clear hS hgx
            generalize rowB ld B p i x = C at *
            generalize ld p x = q at *
            go_wp2_with fail
            refine hL.mono ?_
            rintro e w2 ⟨rfl, hb⟩
            have S2 := HSx.out.below hJ hb
            have hlk := S2.mem.map.look q (by omega)
            cases hb' : hasP C q with
            | true =>
              rw [hb'] at hlk
              have HS2 := hid S2
              clear S2
              go_wp2
              go_roundw
              case rel => exact ⟨x + 1, X, g, cap, by omega, by go_num, by rw [Hs2.out, if_pos hb']; exact HS2.out⟩
              case measure => simp [intOf]; omega
            | false =>
              rw [hb'] at hlk
              obtain ⟨w3, hput3, hm3, hg3⟩ := S2.mem.map.put (by omega) q (by omega)
              obtain ⟨a1, a2, a3⟩ := S2.mem.apart
              have hs3 := hg3.size
              have hgl := own_lt S2.mem.row
              have hbl := S2.mem.box.lt
              have h7l := S2.ibox.lt
              have hml := S2.mem.map.lt
              have hw2 := S2.kept.size
              have t6 : Boxed w3 (w1.heap.size + 1) 120 (.slice (some ⟨g, 0, none⟩) C.length cap) := (hg3.block _ hbl (by simpa using fun e => a1 e.symm)).trans S2.mem.box
              have t7 : Boxed w3 b7 3 (.int .i64 i) := (hg3.block b7 h7l (fun e => by
                obtain ⟨es, c, hmp⟩ := S2.mem.map.isMap
                have h7 := S2.ibox
                unfold Boxed at h7
                cases e
                rw [hmp] at h7; cases h7)).trans S2.ibox
              have tr := owns_block S2.mem.row (hg3.block g hgl.2 (by simpa using fun e => a2 e.symm))
              have t6c := t6.cell
              have t7c := t7.cell
              have HS2 := hid S2
              have Htr := hid tr
              have Hm3 := hid hm3
              have T6 := hid t6
              have hb7' := hid hb'
              clear S2 tr hm3 t6 t7
              have hts : (Value.slice (some ⟨g, 0, none⟩) C.length cap).ownBlock = some g := rfl
              go_wp2_with (at_builtin; refine wpList_append_lies _ rfl _ _ 120 rfl W.heap.size 119 j0 (.agg #[.int .i64 0, .int .i64 0, .int .i64 0]) 3 24 Tryd.underlying120 hj hy0 hy1 hy2 rfl (by decide) (.slice (some ⟨g, 0, none⟩) C.length cap) C.length (flatB C) rfl (owns_block Htr.out (Below.heap_alloc w3 _ _ (by omega))) ⟨w3.heap.size, 0, none⟩ 1 1 [.int .i64 (q : Int), .int .i64 (i : Int), .int .i64 (x : Int)] rfl rfl (cells_three _ _ _ _ _) (by simp [Value.oneCell']) (by decide) (by unfold maxLen; omega) (by omega) (by simp; omega) _ rfl ?_; intro g1 cap1 w5 hown' hgrow' hat hlt1; have t6w : Boxed w5 (w1.heap.size + 1) 120 (.slice (some ⟨g, 0, none⟩) C.length cap) := (hgrow'.block _ (by simp; omega) (by rw [hts]; simpa using a3)).trans ((Below.heap_alloc w3 _ _ (by omega)).trans T6.out); have t6wc := t6w.cell; have t6wf := t6w.frozen)
              obtain ⟨X', hX'⟩ := HS2.out.add hJ (by omega) hX0W Hm3.out hg3 hown' hgrow' (hat.imp (fun e => by rw [hts] at e; exact Option.some.inj e) id)
              have HX := hid hX'
              clear hX'
              go_wp2
              go_roundw
              case rel => exact ⟨x + 1, X', g1, cap1, by omega, by go_num, by rw [Hs2.out, if_neg (by rw [hb7'.out]; decide)]; exact HX.out⟩
              case measure => simp [intOf]; omega
          · obtain rfl : x = K := by omega
            obtain ⟨X', hX'⟩ := hS.next hJ (i' := i + 1)
            have n7 := hS.ibox.cell
            have n7f := hS.ibox.frozen
            have hle := (rowB_pre ld B p i x).length_le
            have HX := hid hX'
            have Hle := hid hle
            clear hS hX' hle
            go_wp2
            go_roundw
            case rel => exact ⟨i + 1, _, pre', X', g, cap, rfl, by rw [Hs1.out]; have := Hle.out; omega, Hpr1.out, by rw [Hs1.out]; exact HX.out⟩
            case measure =>
              have hi1 : boxI (.pointer (some ⟨wr.heap.size, 0, none⟩)) (wr.alloc (.cells #[.int .i64 ((i : Int) + 1)] 3)) = i + 1 := by simp [boxI]
              simp only [hm0, hi1]; omega
      · gi_wp2_with fail
        go_wp2
        (try simp only [Exit.inBlock, Exit.then])
        refine bodyPost_ret (results_none rfl _ _ _) rfl ?_
        exact ⟨⟨_, rfl⟩, .inr ⟨_, pre', Hsp.out, hJ3⟩⟩
    · have hF : bfsTo ld K s n = bfsTo ld K s i := by
        have := bfs_stop ld K s i (by omega) (n - i)
        rwa [show i + (n - i) = n by omega] at this
      have hil : i = (bfsTo ld K s i).length := by omega
      have hlts : ¬ ((i : Int) < (bfsTo ld K s i).length) := by omega
      have HF := hid (show pre.map (·.1) = List.range (bfsTo ld K s n).length by rw [hF, ← hil]; exact Hpre.out)
      have Hj := hid hSW.j
      clear hF hil hSW hgi
      generalize hBB : bfsTo ld K s i = B at *
      go_wp2
      refine bodyPost_end (results_none rfl _ _ _) rfl ?_
      exact ⟨⟨_, rfl⟩, .inl ⟨_, pre, HF.out, Hj.out⟩⟩
end Go.Proofs.YtlpfglkopnmlnaaDoor
namespace Go.Proofs.YtlpfglkopnmlnaaDoor
open Go.RowKit Go.Shelf
attribute [local go_sem] Oper.semAt_some
set_option maxRecDepth 100000 in
set_option maxHeartbeats 400000 in
theorem lead_any (A : Option Addr) (cap : Nat) (m : List (List Int)) (ab p x : Nat) (w : World) (hc : w.cell? ⟨ab, 0, none⟩ = some (.slice A m.length cap)) (h : Rows w (.slice A m.length cap) m) (hv : validM m = true) (hp : p < m.length) (hx : x < letters m) :
    Calls Tryd.prog 108 #[.int .i64 (p : Nat), .int .i64 (x : Nat), .pointer (some ⟨ab, 0, none⟩)] w fun e w' => e = .returned (.int .i64 (nx m p (x : Int) : Nat)) ∧ Below w.heap.size w w' := by
  obtain ⟨p1, p2, p3, p4, p5⟩ := valid_parts hv
  obtain ⟨A', cap', hA0, hml, hcm⟩ := id h
  cases hA0
  obtain ⟨b, off, r, hA, hcell, hrow⟩ := hcm p hp
  subst hA
  have hrl := (p5 p hp).1
  obtain ⟨Ar, capr, rfl, _, hcr⟩ := id hrow
  rw [hrl] at hcell
  obtain ⟨br, offr, hAr, hct⟩ := hcr x (by omega)
  subst hAr
  have hn := (nx_ok hv hp (x := (x : Int)) (by omega) (by omega)).2
  rw [Int.toNat_natCast] at hn
  rw [hn] at hct
  have hps : (p : Int) < m.length := by omega
  have hxs : (x : Int) < letters m := by omega
  clear hcr hrow hn p5 hcm h hrl
  go_enter Tryd.func108, Tryd.ntmps108
  go_wp2
  go_ret
  exact ⟨rfl, Below.refl _ _⟩
set_option maxRecDepth 100000 in
set_option maxHeartbeats 400000 in
theorem Words_fn (s K : Int) (gf : Nat) (lb : Array Value) (w : World) :
    Calls Tryd.prog 90 #[.int .i64 s, .int .i64 K, .func (.func gf) #[] lb] w fun e w' => e = .returned (.func (.func 105) #[] #[.pointer (some ⟨w.heap.size, 0, none⟩), .pointer (some ⟨w.heap.size + 1, 0, none⟩), .pointer (some ⟨w.heap.size + 1 + 1, 0, none⟩)]) ∧
      w' = ((w.alloc (.cells #[.int .i64 s] 3)).alloc (.cells #[.int .i64 K] 3)).alloc (.cells #[.func (.func gf) #[] lb] 73) := by
  go_enter Tryd.func90, Tryd.ntmps90
  go_wp2
  go_ret
  exact ⟨rfl, rfl⟩
theorem row_blk2 {w : World} {base : Nat} {e : TypeId} {s : Nat} {v : Value} {n : Nat} {xs : List Value} (h : w.ownsRow base e s v n xs) : ∀ g, v.ownBlock = some g → base ≤ g ∧ g < w.heap.size := by
  intro g hg
  rcases h.2 with ⟨rfl, _⟩ | ⟨g', cap, cur, rfl, hb, hh, _⟩
  · cases hg
  · cases hg; exact ⟨hb, lt_of_block hh⟩
theorem row_mono {w : World} {base base' : Nat} {e : TypeId} {s : Nat} {v : Value} {n : Nat} {xs : List Value} (h : w.ownsRow base e s v n xs) (hb : base' ≤ base) : w.ownsRow base' e s v n xs := by
  refine ⟨h.1, ?_⟩
  rcases h.2 with h' | ⟨g, cap, cur, hv, hg, r⟩
  · exact .inl h'
  · exact .inr ⟨g, cap, cur, hv, Nat.le_trans hb hg, r⟩
theorem put_boxed {W : World} {b D : Nat} {t : TypeId} {v : Value} {x : Option (List Deferred)} (h : Boxed W b t v) (hD : W.heap[D]? = some (.deferred x)) : Boxed (W.putObj D (.deferred none)) b t v :=
  (World.putObj_heap_other (fun e => by
    unfold Boxed at h
    rw [e, hD] at h; cases h)).trans h
theorem sp_last {pre : List (Nat × Value)} {x : Nat × Value} {k : Nat} (h : (pre ++ [x]).map (·.1) = List.range k) : k = pre.length + 1 ∧ x.1 = pre.length := by
  have hl := congrArg List.length h
  simp at hl
  refine ⟨hl.symm, ?_⟩
  have h2 := congrArg (fun l => l[pre.length]?) h
  rw [← hl] at h2
  simpa using h2
end Go.Proofs.YtlpfglkopnmlnaaDoor
namespace Go.Proofs.YtlpfglkopnmlnaaDoor
open Go.RowKit Go.Shelf
attribute [local go_sem] Oper.semAt_some
set_option maxRecDepth 100000 in
set_option maxHeartbeats 400000 in
theorem lead_fn (v : Value) (w : World) :
    Calls Tryd.prog 91 #[.agg #[v]] w fun e w' => e = .returned (.func (.func 108) #[] #[.pointer (some ⟨w.heap.size, 0, none⟩)]) ∧ w' = w.alloc (.cells #[v] 24) := by
  go_enter Tryd.func91, Tryd.ntmps91
  go_wp2
  go_ret
  exact ⟨rfl, rfl⟩
theorem held_pair {w1 w' : World} {p q : Addr} {u v : Value} (h1 : w1.cell? p = some u) (h2 : w1.cell? q = some v) (hb : Below w1.heap.size w1 w') : Below w1.heap.size w1 w' ∧ w'.cell? p = some u ∧ w'.cell? q = some v :=
  ⟨hb, (hb.cell (p := p) (World.block_lt_of_cell? _ _ h1)).trans h1, (hb.cell (p := q) (World.block_lt_of_cell? _ _ h2)).trans h2⟩
/-- The search from a state of an automaton. -/
def bfsM (m : List (List Int)) (s : Nat) : Steps := bfsTo (fun p x => nx m p (x : Int)) (letters m) s m.length
end Go.Proofs.YtlpfglkopnmlnaaDoor
namespace Go.Proofs.YtlpfglkopnmlnaaDoor
open Go.RowKit Go.Shelf
theorem foldl_nat (m : List (List Int)) : ∀ (u : List Int) (s : Nat), u.all (inB 0 ((letters m : Int) - 1)) = true → u.foldl (nx m) s = (u.map Int.toNat).foldl (fun (p x : Nat) => nx m p (x : Int)) s
  | [], _, _ => rfl
  | x :: u, s, h => by
    rw [List.all_cons, Bool.and_eq_true] at h
    have h0 : 0 ≤ x := by
      have h1 := h.1
      unfold inB at h1
      simp at h1; omega
    rw [List.foldl_cons, List.map_cons, List.foldl_cons, foldl_nat m u _ h.2, Int.toNat_of_nonneg h0]
theorem nat_word {m : List (List Int)} {u : List Int} (h : u.all (inB 0 ((letters m : Int) - 1)) = true) : ∀ x ∈ u.map Int.toNat, x < letters m := by
  intro x hx
  obtain ⟨y, hy, rfl⟩ := List.mem_map.1 hx
  have h1 := List.all_eq_true.1 h y hy
  unfold inB at h1
  simp at h1; omega
theorem ldM_ok {m : List (List Int)} (hv : validM m = true) : ∀ p x, p < m.length → x < letters m → nx m p (x : Int) < m.length := fun p x hp hx => by
  obtain ⟨p1, p2, p3, p4, p5⟩ := valid_parts hv
  exact (nx_ok hv hp (x := (x : Int)) (by omega) (by omega)).1
/-- What a word reaches the search reaches. -/
theorem bfsM_has {m : List (List Int)} (hv : validM m = true) {s t : Nat} (hs : s < m.length) (h : reachP m s t) : ∃ j, j < (bfsM m s).length ∧ plB (bfsM m s) j = (t : Int) := by
  obtain ⟨p1, p2, p3, p4, p5⟩ := valid_parts hv
  obtain ⟨u, hu, hr⟩ := h
  obtain ⟨z1, z2⟩ := bfs_zero (fun p x => nx m p (x : Int)) (letters m) s m.length
  obtain ⟨j, h1, h2, _⟩ := bfs_runs hs (by omega) (ldM_ok hv) (u.map Int.toNat) s 0 (nat_word hu) z1 z2
  refine ⟨j, h1, ?_⟩
  rw [bfsM, h2, ← foldl_nat m u s hu]
  show ((runM m s u : Nat) : Int) = t
  rw [hr]
/-- The word of a step is the first shortest one that leads to its place. -/
theorem bfsM_least {m : List (List Int)} (hv : validM m = true) {s : Nat} (hs : s < m.length) {u : List Int} (hu : u.all (inB 0 ((letters m : Int) - 1)) = true) {j : Nat} (hj : j < (bfsM m s).length) (hp : plB (bfsM m s) j = ((runM m s u : Nat) : Int)) : SLe (wordB (bfsM m s) j) u := by
  obtain ⟨p1, p2, p3, p4, p5⟩ := valid_parts hv
  obtain ⟨j', h1, h2, h3⟩ := word_least hs (by omega : letters m ≤ 1000) (ldM_ok hv) _ (u.map Int.toNat) rfl (nat_word hu)
  rw [← foldl_nat m u s hu] at h2
  have hg := GoodB.bfs (n := m.length) (K := letters m) (s := s) (ld := fun p x => nx m p (x : Int)) hs (by omega) (ldM_ok hv) m.length
  obtain rfl := place_once hg hj h1 (hp.trans h2.symm)
  have e : ((u.map Int.toNat).map fun x : Nat => (x : Int)) = u := by
    rw [List.map_map]
    refine (List.map_congr_left fun x hx => ?_).trans (List.map_id u)
    have h4 := List.all_eq_true.1 hu x hx
    unfold inB at h4
    simp at h4
    simp; omega
  rw [e] at h3
  exact h3
end Go.Proofs.YtlpfglkopnmlnaaDoor
namespace Go.Proofs.YtlpfglkopnmlnaaDoor
open Go.RowKit Go.Shelf
/-- The letters of the steps but the first one are letters. -/
def LetB (K : Nat) (B : Steps) : Prop := ∀ k, 0 < k → k < B.length → 0 ≤ leB B k ∧ leB B k < K
theorem LetB.add {K : Nat} {B : Steps} (h : LetB K B) (ld : Nat → Nat → Nat) (p i : Nat) {x : Nat} (hx : x < K) : LetB K (addB ld B p i x) := by
  unfold addB
  split
  · exact h
  · obtain ⟨s1, s2, s3⟩ := snoc_pl B (ld p x) (i : Int) (x : Int)
    have hpre : B <+: B ++ [(((ld p x : Nat) : Int), (i : Int), (x : Int))] := List.prefix_append _ _
    intro k h0 hk
    by_cases e : k < B.length
    · rw [(pre_pl hpre k e).2.2]; exact h k h0 e
    · have e2 : k = B.length := by rw [List.length_append] at hk; simp at hk; omega
      subst e2
      rw [s3]; omega
theorem LetB.row {K : Nat} {B : Steps} (h : LetB K B) (ld : Nat → Nat → Nat) (p i : Nat) : ∀ x, x ≤ K → LetB K (rowB ld B p i x)
  | 0, _ => h
  | x + 1, hx => (LetB.row h ld p i x (by omega)).add ld p i (by omega)
theorem LetB.bfs (ld : Nat → Nat → Nat) (K s : Nat) : ∀ i, LetB K (bfsTo ld K s i)
  | 0 => fun k h0 hk => by simp [bfsTo] at hk; omega
  | i + 1 => by
    have ih := LetB.bfs ld K s i
    have e : bfsTo ld K s (i + 1) = (if i < (bfsTo ld K s i).length then rowB ld (bfsTo ld K s i) (plB (bfsTo ld K s i) i).toNat i K else bfsTo ld K s i) := rfl
    rw [e]
    split
    · exact ih.row ld _ i K (Nat.le_refl _)
    · exact ih
theorem word_letters {K : Nat} {B : Steps} (hT : TreeB B) (hL : LetB K B) : ∀ j, j < B.length → (wordB B j).all (inB 0 ((K : Int) - 1)) = true := by
  intro j
  induction j using Nat.strongRecOn with
  | _ j ih =>
    intro hj
    rcases Nat.eq_zero_or_pos j with e | e
    · subst e; rw [wordB_root hT]; rfl
    · obtain ⟨b1, b2⟩ := hT.2.2 j e hj
      obtain ⟨l1, l2⟩ := hL j e hj
      rw [wordB_step hT e hj, List.all_append, ih (frB B j).toNat (by omega) (by omega)]
      simp only [List.all_cons, List.all_nil, Bool.and_true, Bool.true_and]
      exact inB_true ⟨l1, by omega⟩
/-- The word of a step is a word, and leads to its place. -/
theorem bfsM_word {m : List (List Int)} (hv : validM m = true) {s : Nat} (hs : s < m.length) {j : Nat} (hj : j < (bfsM m s).length) :
    (wordB (bfsM m s) j).all (inB 0 ((letters m : Int) - 1)) = true ∧ plB (bfsM m s) j = ((runM m s (wordB (bfsM m s) j) : Nat) : Int) := by
  obtain ⟨p1, p2, p3, p4, p5⟩ := valid_parts hv
  have hg := GoodB.bfs (n := m.length) (K := letters m) (s := s) (ld := fun p x => nx m p (x : Int)) hs (by omega) (ldM_ok hv) m.length
  have hw := word_letters hg.tree (LetB.bfs (fun p x => nx m p (x : Int)) (letters m) s m.length) j hj
  refine ⟨hw, ?_⟩
  have h := word_leads hs (by omega : letters m ≤ 1000) (ldM_ok hv) j hj
  have e := foldl_nat m (wordB (bfsM m s) j) s hw
  unfold runM
  rw [e]
  exact h
end Go.Proofs.YtlpfglkopnmlnaaDoor
namespace Go.Proofs.YtlpfglkopnmlnaaDoor
open Go.RowKit Go.Shelf
/-- No word, and an error. -/
def NoWord (w : World) (c : Int) (e : Ending) (w' : World) : Prop := e = .returned (.tuple #[.slice none 0 0, .int .i64 c]) ∧ Below w.heap.size w w'
end Go.Proofs.YtlpfglkopnmlnaaDoor
namespace Go.Proofs.YtlpfglkopnmlnaaDoor
open Go.RowKit Go.Shelf
set_option maxRecDepth 100000 in
set_option maxHeartbeats 1000000 in
theorem periodic_form (v : Value) (m : List (List Int)) (w : World) (h : Rows w v m) (hv : validM m = false) :
    Calls Tryd.prog 61 #[.agg #[v]] w fun e w' => e = .returned (.tuple #[.int .i64 0, .slice none 0 0, .int .i64 1]) ∧ Below w.heap.size w w' := by
  obtain ⟨A, cap, rfl, hml, -⟩ := id h
  have hr := h.alloc (.cells #[.slice A m.length cap] 24)
  go_enter Tryd.func61, Tryd.ntmps61
  go_wp2_with fail
  refine (Valid_bool _ m false _ hr hv).mono ?_
  rintro e w1 ⟨rfl, h1⟩
  go_wp2
  go_ret3
  exact ⟨rfl, btr (bal (Below.refl _ _) _) h1⟩
set_option maxRecDepth 100000 in
set_option maxHeartbeats 1000000 in
theorem periodic_arg (v : Value) (m : List (List Int)) (w : World) (h : Rows w v m) (hv : validM m = true) (hc : connM m = false) :
    Calls Tryd.prog 61 #[.agg #[v]] w fun e w' => e = .returned (.tuple #[.int .i64 0, .slice none 0 0, .int .i64 2]) ∧ Below w.heap.size w w' := by
  obtain ⟨A, cap, rfl, hml, -⟩ := id h
  have hr := h.alloc (.cells #[.slice A m.length cap] 24)
  go_enter Tryd.func61, Tryd.ntmps61
  go_wp2_with fail
  refine (Valid_bool _ m true _ hr hv).mono ?_
  rintro e w1 ⟨rfl, h1⟩
  have hbx : w1.cell? ⟨w.heap.size, 0, none⟩ = some (.slice A m.length cap) := (h1.cell (p := ⟨w.heap.size, 0, none⟩) (by simp)).trans (by simp [go_sem])
  have hr1 := hr.below h1
  have hcm := connected_any _ m _ hr1 hv
  rw [hc] at hcm
  go_wp2_with fail
  refine hcm.mono ?_
  rintro e w2 ⟨rfl, h2⟩
  go_wp2
  go_ret3
  exact ⟨rfl, btr (btr (bal (Below.refl _ _) _) h1) h2⟩
end Go.Proofs.YtlpfglkopnmlnaaDoor
namespace Go.Proofs.YtlpfglkopnmlnaaDoor
open Go.RowKit Go.Shelf
/-- An automaton that has no period, and the error that says so. -/
def BadM (m : List (List Int)) (c : Int) : Prop := (validM m = false ∧ c = 1) ∨ (validM m = true ∧ connM m = false ∧ c = 2)
theorem periodic_bad (v : Value) (m : List (List Int)) (c : Int) (w : World) (h : Rows w v m) (hb : BadM m c) :
    Calls Tryd.prog 61 #[.agg #[v]] w fun e w' => e = .returned (.tuple #[.int .i64 0, .slice none 0 0, .int .i64 c]) ∧ Below w.heap.size w w' := by
  rcases hb with ⟨h1, rfl⟩ | ⟨h1, h2, rfl⟩
  · exact periodic_form v m w h h1
  · exact periodic_arg v m w h h1 h2
set_option maxRecDepth 100000 in
set_option maxHeartbeats 1000000 in
theorem Period_bad (v : Value) (m : List (List Int)) (c : Int) (w : World) (h : Rows w v m) (hb : BadM m c) :
    Calls Tryd.prog 26 #[.agg #[v]] w fun e w' => e = .returned (.tuple #[.int .i64 0, .int .i64 c]) ∧ Below w.heap.size w w' := by
  obtain ⟨A, cap, rfl, hml, -⟩ := id h
  have hr := h.alloc (.cells #[.slice A m.length cap] 24)
  go_enter Tryd.func26, Tryd.ntmps26
  go_wp2_with fail
  refine (periodic_bad _ m c _ hr hb).mono ?_
  rintro e w1 ⟨rfl, h1⟩
  go_wp2
  go_ret2
  exact ⟨rfl, btr (bal (Below.refl _ _) _) h1⟩
set_option maxRecDepth 100000 in
set_option maxHeartbeats 1000000 in
theorem Classes_bad (v : Value) (m : List (List Int)) (c : Int) (w : World) (h : Rows w v m) (hb : BadM m c) :
    Calls Tryd.prog 32 #[.agg #[v]] w fun e w' => e = .returned (.tuple #[.slice none 0 0, .int .i64 c]) ∧ Below w.heap.size w w' := by
  obtain ⟨A, cap, rfl, hml, -⟩ := id h
  have hr := h.alloc (.cells #[.slice A m.length cap] 24)
  go_enter Tryd.func32, Tryd.ntmps32
  go_wp2_with fail
  refine (periodic_bad _ m c _ hr hb).mono ?_
  rintro e w1 ⟨rfl, h1⟩
  go_wp2_with fail
  go_loopw [16] (fun x wr => x = .int .i64 0 ∧ wr = w1) (fun _ _ => 0)
  case atStart => exact ⟨rfl, rfl⟩
  case round =>
    obtain ⟨rfl, rfl⟩ := hrel
    go_wp2
    go_ret2
    exact ⟨rfl, btr (bal (Below.refl _ _) _) h1⟩
end Go.Proofs.YtlpfglkopnmlnaaDoor
namespace Go.Proofs.YtlpfglkopnmlnaaDoor
open Go.RowKit Go.Shelf
/-- The row of the lengths behind k steps. -/
def lensTo (F : Steps) (n : Nat) : Nat → List Int
  | 0 => List.replicate n 0
  | k + 1 => (lensTo F n k).set (plB F k).toNat ((wordB F k).length : Int)
theorem lensTo_len (F : Steps) (n : Nat) : ∀ k, (lensTo F n k).length = n
  | 0 => by simp [lensTo]
  | k + 1 => by simp [lensTo, lensTo_len F n k]
theorem lensTo_get {F : Steps} {n : Nat} (hF : GoodB n F) : ∀ k, k ≤ F.length → ∀ j, j < k → (lensTo F n k).getD (plB F j).toNat 0 = ((wordB F j).length : Int)
  | 0, _, j, hj => by omega
  | k + 1, hk, j, hj => by
    obtain ⟨p, hp, hpn⟩ := hF.below k (by omega)
    obtain ⟨q, hq, hqn⟩ := hF.below j (by omega)
    have hl := lensTo_len F n k
    simp only [lensTo, List.getD_eq_getElem?_getD, List.getElem?_set]
    by_cases e : (plB F k).toNat = (plB F j).toNat
    · have e2 : plB F k = plB F j := by rw [hp, hq] at e ⊢; simp at e; omega
      have := place_once hF (by omega : k < F.length) (by omega : j < F.length) e2
      subst this
      rw [if_pos e, if_pos (by rw [hp, hl]; simpa using hpn), Option.getD_some]
    · rw [if_neg e, ← List.getD_eq_getElem?_getD]
      by_cases e3 : j = k
      · subst e3; exact absurd rfl e
      · exact lensTo_get hF k (by omega) j (by omega)
theorem lensTo_bound {F : Steps} {n : Nat} (hF : GoodB n F) : ∀ k, k ≤ F.length → ∀ x ∈ lensTo F n k, 0 ≤ x ∧ x ≤ (F.length : Int)
  | 0, _, x, hx => by
    simp only [lensTo] at hx
    obtain ⟨_, rfl⟩ := List.mem_replicate.1 hx
    omega
  | k + 1, hk, x, hx => by
    simp only [lensTo] at hx
    rcases List.mem_or_eq_of_mem_set hx with h | rfl
    · exact lensTo_bound hF k (by omega) x h
    · have := wordB_len hF.tree k (by omega)
      omega
theorem SLe.len {a b : List Int} (h : SLe a b) : a.length ≤ b.length := by
  rcases h with rfl | h | ⟨h, _⟩ <;> omega
/-- The lengths of the shortest words from state 0. -/
def lensM (m : List (List Int)) : List Int := lensTo (bfsM m 0) m.length (bfsM m 0).length
theorem bfsM_good {m : List (List Int)} (hv : validM m = true) {s : Nat} (hs : s < m.length) : GoodB m.length (bfsM m s) := by
  obtain ⟨p1, p2, p3, p4, p5⟩ := valid_parts hv
  exact GoodB.bfs (n := m.length) (K := letters m) (s := s) (ld := fun p x => nx m p (x : Int)) hs (by omega) (ldM_ok hv) m.length
theorem lensM_len (m : List (List Int)) : (lensM m).length = m.length := lensTo_len _ _ _
theorem lensM_get {m : List (List Int)} (hv : validM m = true) (hc : connM m = true) {s : Nat} (hs : s < m.length) :
    ∃ u : List Int, u.all (inB 0 ((letters m : Int) - 1)) = true ∧ runM m 0 u = s ∧ (lensM m).getD s 0 = (u.length : Int) ∧ u.length < m.length ∧ ∀ u' : List Int, u'.all (inB 0 ((letters m : Int) - 1)) = true → runM m 0 u' = s → u.length ≤ u'.length := by
  obtain ⟨p1, p2, p3, p4, p5⟩ := valid_parts hv
  have h0 : 0 < m.length := by omega
  have hg := bfsM_good hv h0
  obtain ⟨j, hj, hp⟩ := bfsM_has hv h0 ((connM_iff m (by omega)).1 hc 0 s h0 hs)
  obtain ⟨w1, w2⟩ := bfsM_word hv h0 hj
  have hl := lensTo_get hg _ (Nat.le_refl _) j hj
  rw [hp, Int.toNat_natCast] at hl
  refine ⟨wordB (bfsM m 0) j, w1, ?_, hl, ?_, fun u' hu' hr => ?_⟩
  · rw [hp] at w2; omega
  · have a1 := wordB_len hg.tree j hj
    have a2 := hg.len
    omega
  · have := bfsM_least hv h0 hu' hj (by rw [hp, hr])
    exact this.len
/-- How much longer the way by a letter is. -/
def excM (L : List Int) (m : List (List Int)) (s x : Nat) : Nat := (L.getD s 0 + 1 - L.getD (nx m s (x : Int)) 0).toNat
def gRow (L : List Int) (m : List (List Int)) (s d : Nat) : Nat → Nat
  | 0 => d
  | x + 1 => Nat.gcd (excM L m s x) (gRow L m s d x)
def gAll (L : List Int) (m : List (List Int)) : Nat → Nat
  | 0 => 0
  | s + 1 => gRow L m s (gAll L m s) (letters m)
/-- The period. -/
def perM (m : List (List Int)) : Nat := gAll (lensM m) m m.length
theorem gcd_le_both {a b B : Nat} (ha : a ≤ B) (hb : b ≤ B) : Nat.gcd a b ≤ B := by
  rcases Nat.eq_zero_or_pos a with e | e
  · subst e; rw [Nat.gcd_zero_left]; exact hb
  · exact Nat.le_trans (Nat.gcd_le_left b e) ha
theorem gRow_le {L : List Int} {m : List (List Int)} {s d B : Nat} (he : ∀ x, excM L m s x ≤ B) (hd : d ≤ B) : ∀ x, gRow L m s d x ≤ B
  | 0 => hd
  | x + 1 => gcd_le_both (he x) (gRow_le he hd x)
theorem gAll_le {L : List Int} {m : List (List Int)} {B : Nat} (he : ∀ s x, excM L m s x ≤ B) : ∀ s, gAll L m s ≤ B
  | 0 => Nat.zero_le _
  | s + 1 => gRow_le (he s) (gAll_le he s) _
theorem gRow_dvd {L : List Int} {m : List (List Int)} {s d : Nat} : ∀ x, gRow L m s d x ∣ d ∧ ∀ y, y < x → gRow L m s d x ∣ excM L m s y
  | 0 => ⟨Nat.dvd_refl _, fun y hy => by omega⟩
  | x + 1 => by
    obtain ⟨h1, h2⟩ := gRow_dvd (L := L) (m := m) (s := s) (d := d) x
    have k1 : gRow L m s d (x + 1) ∣ gRow L m s d x := Nat.gcd_dvd_right _ _
    refine ⟨Nat.dvd_trans k1 h1, fun y hy => ?_⟩
    by_cases e : y = x
    · subst e; exact Nat.gcd_dvd_left _ _
    · exact Nat.dvd_trans k1 (h2 y (by omega))
theorem gAll_dvd {L : List Int} {m : List (List Int)} : ∀ k, ∀ s, s < k → ∀ x, x < letters m → gAll L m k ∣ excM L m s x
  | 0, s, hs, _, _ => by omega
  | k + 1, s, hs, x, hx => by
    obtain ⟨h1, h2⟩ := gRow_dvd (L := L) (m := m) (s := k) (d := gAll L m k) (letters m)
    by_cases e : s = k
    · subst e; exact h2 x hx
    · exact Nat.dvd_trans h1 (gAll_dvd k s (by omega) x hx)
theorem dvd_gRow {L : List Int} {m : List (List Int)} {s d c : Nat} (hd : c ∣ d) : ∀ x, (∀ y, y < x → c ∣ excM L m s y) → c ∣ gRow L m s d x
  | 0, _ => hd
  | x + 1, h => Nat.dvd_gcd (h x (by omega)) (dvd_gRow hd x (fun y hy => h y (by omega)))
theorem dvd_gAll {L : List Int} {m : List (List Int)} {c : Nat} : ∀ k, (∀ s, s < k → ∀ x, x < letters m → c ∣ excM L m s x) → c ∣ gAll L m k
  | 0, _ => Nat.dvd_zero _
  | k + 1, h => dvd_gRow (dvd_gAll k (fun s hs => h s (by omega))) _ (h k (by omega))
section
variable {m : List (List Int)} (hv : validM m = true) (hc : connM m = true)
include hv hc
theorem lensM_bound : ∀ s, s < m.length → 0 ≤ (lensM m).getD s 0 ∧ (lensM m).getD s 0 < m.length := fun s hs => by
  obtain ⟨u, _, _, h3, h4, _⟩ := lensM_get hv hc hs
  omega
/-- A letter leads at most one further. -/
theorem lensM_step {s x : Nat} (hs : s < m.length) (hx : x < letters m) : (lensM m).getD (nx m s (x : Int)) 0 ≤ (lensM m).getD s 0 + 1 := by
  obtain ⟨u, h1, h2, h3, h4, h5⟩ := lensM_get hv hc hs
  have hn := ldM_ok hv s x hs hx
  obtain ⟨u', k1, k2, k3, k4, k5⟩ := lensM_get hv hc hn
  have := k5 (u ++ [(x : Int)]) (by
    rw [List.all_append, h1]
    simp only [List.all_cons, List.all_nil, Bool.and_true, Bool.true_and]
    exact inB_true ⟨by omega, by omega⟩) (by
    unfold runM at h2 ⊢
    rw [List.foldl_append, h2]; rfl)
  simp at this
  omega
theorem excM_eq {s x : Nat} (hs : s < m.length) (hx : x < letters m) : ((excM (lensM m) m s x : Nat) : Int) = (lensM m).getD s 0 + 1 - (lensM m).getD (nx m s (x : Int)) 0 := by
  have := lensM_step hv hc hs hx
  unfold excM
  omega
end
theorem excM_le {L : List Int} {m : List (List Int)} {B : Int} (hB : 0 ≤ B) (hL : ∀ i, 0 ≤ L.getD i 0 ∧ L.getD i 0 ≤ B) (s x : Nat) : (excM L m s x : Int) ≤ B + 1 := by
  have h1 := hL s
  have h2 := hL (nx m s (x : Int))
  unfold excM
  omega
theorem lensM_any (m : List (List Int)) (hv : validM m = true) (i : Nat) : 0 ≤ (lensM m).getD i 0 ∧ (lensM m).getD i 0 ≤ 60 := by
  obtain ⟨p1, p2, p3, p4, p5⟩ := valid_parts hv
  have hg := bfsM_good hv (s := 0) (by omega)
  have hl := hg.len
  rw [List.getD_eq_getElem?_getD]
  cases h : (lensM m)[i]? with
  | none => simp
  | some x =>
    have := lensTo_bound hg _ (Nat.le_refl _) x (List.mem_of_getElem? h)
    simp; omega
theorem perM_le (m : List (List Int)) (hv : validM m = true) (k : Nat) : gAll (lensM m) m k ≤ 61 := gAll_le (fun s x => by have := excM_le (L := lensM m) (m := m) (B := 60) (by omega) (lensM_any m hv) s x; omega) k
end Go.Proofs.YtlpfglkopnmlnaaDoor
namespace Go.Proofs.YtlpfglkopnmlnaaDoor
open Go.RowKit Go.Shelf
/-- Element by element: one or the other, for the first k. -/
def orTo (o e : List Bool) : Nat → List Bool
  | 0 => o
  | t + 1 => (orTo o e t).set t (o.getD t false || e.getD t false)
theorem orTo_len (o e : List Bool) : ∀ k, (orTo o e k).length = o.length
  | 0 => rfl
  | k + 1 => by simp [orTo, orTo_len o e k]
theorem orTo_get (o e : List Bool) : ∀ k, k ≤ o.length → ∀ t, (orTo o e k).getD t false = if t < k then o.getD t false || e.getD t false else o.getD t false
  | 0, _, t => by simp [orTo]
  | k + 1, hk, t => by
    have ih := orTo_get o e k (by omega) t
    have hl := orTo_len o e k
    simp only [orTo, List.getD_eq_getElem?_getD, List.getElem?_set] at ih ⊢
    by_cases h : k = t
    · subst h
      rw [if_pos rfl, if_pos (by omega), if_pos (by omega)]; rfl
    · rw [if_neg h, ih]
      by_cases h2 : t < k
      · rw [if_pos h2, if_pos (by omega)]
      · rw [if_neg h2, if_neg (by omega)]
/-- What k rounds have reached. -/
def reachTo (m : List (List Int)) (s : Nat) : Nat → List Bool
  | 0 => onlyL m.length s
  | k + 1 => orTo (reachTo m s k) (stepM m (reachTo m s k)) (reachTo m s k).length
theorem reachTo_len (m : List (List Int)) (s : Nat) : ∀ k, (reachTo m s k).length = m.length
  | 0 => by simp [reachTo, onlyL]
  | k + 1 => by rw [reachTo, orTo_len, reachTo_len m s k]
theorem onlyL_get {n s : Nat} (hs : s < n) (t : Nat) : (onlyL n s).getD t false = decide (s = t) := by
  unfold onlyL
  rw [getD_set_true (by simpa using hs)]
  have : (List.replicate n false).getD t false = false := by
    simp [List.getD_eq_getElem?_getD, List.getElem?_replicate]; split <;> simp
  rw [this, Bool.or_false]
/-- A word of at most k letters leads there. -/
def withinP (m : List (List Int)) (s k t : Nat) : Prop := ∃ u : List Int, u.all (inB 0 ((letters m : Int) - 1)) = true ∧ u.length ≤ k ∧ runM m s u = t
theorem runQ_snoc (m : List (List Int)) (s : Nat) (u : List Int) (x : Int) : runM m s (u ++ [x]) = nx m (runM m s u) x := by
  unfold runM; rw [List.foldl_append]; rfl
theorem runQ_lt {m : List (List Int)} (hv : validM m = true) {s : Nat} (hs : s < m.length) {u : List Int} (hu : u.all (inB 0 ((letters m : Int) - 1)) = true) : runM m s u < m.length := by
  induction u generalizing s with
  | nil => exact hs
  | cons x u ih =>
    obtain ⟨hx, hu'⟩ := all_cons_parts hu
    obtain ⟨xn, rfl⟩ := Int.eq_ofNat_of_zero_le hx.1
    exact ih (nx_ok hv hs hx.1 hx.2).1 hu'
theorem all_snoc {K : Nat} {u : List Int} (hu : u.all (inB 0 ((K : Int) - 1)) = true) {x : Nat} (hx : x < K) : (u ++ [(x : Int)]).all (inB 0 ((K : Int) - 1)) = true := by
  rw [List.all_append, hu]
  simp only [List.all_cons, List.all_nil, Bool.and_true, Bool.true_and]
  exact inB_true ⟨by omega, by omega⟩
theorem snoc_cases {α : Type} (u : List α) : u = [] ∨ ∃ v x, u = v ++ [x] := by
  rcases List.eq_nil_or_concat u with h | ⟨v, x, h⟩
  · exact .inl h
  · exact .inr ⟨v, x, by rw [h, List.concat_eq_append]⟩
theorem all_of_snoc {K : Nat} {v : List Int} {x : Int} (h : (v ++ [x]).all (inB 0 ((K : Int) - 1)) = true) : v.all (inB 0 ((K : Int) - 1)) = true ∧ ∃ y : Nat, x = y ∧ y < K := by
  rw [List.all_append, Bool.and_eq_true] at h
  refine ⟨h.1, ?_⟩
  have h2 := h.2
  simp [inB] at h2
  exact ⟨x.toNat, by omega, by omega⟩
theorem reachTo_get {m : List (List Int)} (hv : validM m = true) {s : Nat} (hs : s < m.length) : ∀ k t, (reachTo m s k).getD t false = true ↔ withinP m s k t
  | 0, t => by
    rw [reachTo, onlyL_get hs, decide_eq_true_eq]
    constructor
    · rintro rfl; exact ⟨[], rfl, Nat.le_refl _, rfl⟩
    · rintro ⟨u, _, hl, h⟩
      obtain rfl : u = [] := List.length_eq_zero_iff.1 (by omega)
      exact h
  | k + 1, t => by
    have ih := reachTo_get hv hs k
    have hl := reachTo_len m s k
    rw [reachTo, orTo_get _ _ _ (Nat.le_refl _)]
    have key : (stepM m (reachTo m s k)).getD t false = true ↔ ∃ u : List Int, u.all (inB 0 ((letters m : Int) - 1)) = true ∧ u.length ≤ k ∧ ∃ x, x < letters m ∧ nx m (runM m s u) (x : Int) = t := by
      rw [stepM_get hv hl]
      constructor
      · rintro ⟨r, hr, h1, x, hx, h2⟩
        obtain ⟨u, hu, hk, rfl⟩ := (ih r).1 h1
        exact ⟨u, hu, hk, x, hx, h2⟩
      · rintro ⟨u, hu, hk, x, hx, h2⟩
        exact ⟨runM m s u, runQ_lt hv hs hu, (ih _).2 ⟨u, hu, hk, rfl⟩, x, hx, h2⟩
    constructor
    · intro h
      have h' : (reachTo m s k).getD t false = true ∨ (stepM m (reachTo m s k)).getD t false = true := by
        split at h
        · rwa [Bool.or_eq_true] at h
        · exact .inl h
      rcases h' with h' | h'
      · obtain ⟨u, hu, hk, h2⟩ := (ih t).1 h'
        exact ⟨u, hu, by omega, h2⟩
      · obtain ⟨u, hu, hk, x, hx, h2⟩ := key.1 h'
        exact ⟨u ++ [(x : Int)], all_snoc hu hx, by simp; omega, by rw [runQ_snoc]; exact h2⟩
    · rintro ⟨u, hu, hk, h⟩
      have htl : t < m.length := by rw [← h]; exact runQ_lt hv hs hu
      rw [if_pos (by omega), Bool.or_eq_true]
      by_cases e : u.length ≤ k
      · exact .inl ((ih t).2 ⟨u, hu, e, h⟩)
      · rcases snoc_cases u with rfl | ⟨v, x, rfl⟩
        · simp at e
        · obtain ⟨hv', y, rfl, hy⟩ := all_of_snoc hu
          rw [runQ_snoc] at h
          exact .inr (key.2 ⟨v, hv', by simp at hk; omega, y, hy, h⟩)
/-- The states to which words lead. -/
def reachL (m : List (List Int)) (s : Nat) : List Bool := reachTo m s m.length
theorem reachL_len (m : List (List Int)) (s : Nat) : (reachL m s).length = m.length := reachTo_len m s _
theorem reachL_get {m : List (List Int)} (hv : validM m = true) {s : Nat} (hs : s < m.length) (t : Nat) : (reachL m s).getD t false = true ↔ reachP m s t := by
  rw [reachL, reachTo_get hv hs]
  constructor
  · rintro ⟨u, hu, _, h⟩; exact ⟨u, hu, h⟩
  · intro h
    obtain ⟨j, hj, hp⟩ := bfsM_has hv hs h
    obtain ⟨w1, w2⟩ := bfsM_word hv hs hj
    have hg := bfsM_good hv hs
    have a1 := wordB_len hg.tree j hj
    have a2 := hg.len
    exact ⟨_, w1, by omega, by rw [hp] at w2; omega⟩
theorem ownsRow_pos {w : World} {base : Nat} {e : TypeId} {s : Nat} {v : Value} {n : Nat} {xs : List Value} (h : w.ownsRow base e s v n xs) (hn : 1 ≤ n) : ∃ g cap, v = .slice (some ⟨g, 0, none⟩) n cap := by
  rcases h.2 with ⟨_, h0⟩ | ⟨g, cap, cur, hv, _⟩
  · omega
  · exact ⟨g, cap, hv⟩
theorem getD_cell {l : List Bool} {i : Nat} (hi : i < l.length) : (l.map fun x => Value.bool x)[i]? = some (.bool (l.getD i false)) := by
  simp [List.getElem?_map, List.getElem?_eq_getElem hi, List.getD_eq_getElem?_getD]
set_option maxRecDepth 100000 in
set_option maxHeartbeats 2000000 in
theorem rReach_any (v : Value) (m : List (List Int)) (s : Nat) (w : World) (h : Rows w v m) (hv : validM m = true) (hs : s < m.length) :
    Calls Tryd.prog 56 #[.agg #[v], .int .i64 s] w fun e w' => ∃ r, e = .returned r ∧ w'.ownsRow w.heap.size 4 1 r (reachL m s).length ((reachL m s).map fun x => .bool x) ∧ Below w.heap.size w w' := by
  obtain ⟨p1, p2, p3, p4, p5⟩ := valid_parts hv
  obtain ⟨A, cap, rfl, hml, -⟩ := id h
  have hX := bal (Below.refl _ w) (.cells #[.slice A m.length cap] 24)
  have hbx : (w.alloc (.cells #[.slice A m.length cap] 24)).cell? ⟨w.heap.size, 0, none⟩ = some (.slice A m.length cap) := by simp
  have hr := h.below hX
  have hO := rOnly_any _ m s _ hr (by omega) hs
  have hrl := reachL_len m s
  have hol : (onlyL m.length s).length = m.length := by simp [onlyL]
  rw [hrl]
  rw [hol] at hO
  have HO := hid hO
  clear hO p5 hol
  go_enter Tryd.func56, Tryd.ntmps56
  go_wp2_with fail
  generalize hWX : w.alloc (.cells #[.slice A m.length cap] 24) = X at *
  have hxs : X.heap.size = w.heap.size + 1 := by rw [← hWX]; simp
  clear hWX
  refine HO.out.mono ?_
  rintro e w1 ⟨r, rfl, hr1, hb1⟩
  obtain ⟨g, capr, rfl⟩ := ownsRow_pos hr1 (by omega)
  have hX1 := btr hX hb1
  have hbx1 := (hb1.cell (p := ⟨w.heap.size, 0, none⟩) (World.block_lt_of_cell? _ _ hbx)).trans hbx
  have hgb := (ownq_lt hr1).1
  have Hr1 := hid (show w1.ownsRow w.heap.size 4 1 (.slice (some ⟨g, 0, none⟩) m.length capr) m.length ((reachTo m s 0).map fun x => .bool x) from row_mono hr1 (by omega))
  clear hr1 HO
  have hX1s := hX1.size
  go_wp2
  go_loopw [6] (fun kv wr => ∃ k : Nat, k ≤ m.length ∧ kv = .int .i64 k ∧ wr.ownsRow w.heap.size 4 1 (.slice (some ⟨g, 0, none⟩) m.length capr) m.length ((reachTo m s k).map fun x => .bool x) ∧ Below w.heap.size w wr ∧ wr.cell? ⟨w.heap.size, 0, none⟩ = some (.slice A m.length cap)) (fun k _ => m.length - (intOf k).toNat)
  case atStart => exact ⟨0, Nat.zero_le _, rfl, Hr1.out, hX1, hbx1⟩
  case round =>
    clear Hr1 hbx1
    obtain ⟨k, hk, rfl, hO, hB, hbx⟩ := hrel
    have hrk := reachTo_len m s k
    by_cases hlt : k < m.length
    · have hks : (k : Int) < m.length := by omega
      have hbl : Bools wr (.slice (some ⟨g, 0, none⟩) m.length capr) (reachTo m s k) := Bools.of_own (n₀ := w.heap.size) (e := 4) (by rw [hrk]; exact hO) (by rw [hrk]; unfold big; omega)
      have hS := rStep_any _ _ m (reachTo m s k) wr (h.below hB) hv hbl hrk
      have hsl : (stepM m (reachTo m s k)).length = m.length := by rw [stepM_len, hrk]
      rw [hsl] at hS
      have HO := hid hO
      have HS := hid hS
      have hsucc := hid (show reachTo m s (k + 1) = orTo (reachTo m s k) (stepM m (reachTo m s k)) m.length by rw [reachTo, hrk])
      clear hO hS hbl
      go_wp2_with fail
      refine HS.out.mono ?_
      rintro e w2 ⟨r, rfl, hr2, hb2⟩
      obtain ⟨g2, cap2, rfl⟩ := ownsRow_pos hr2 (by omega)
      have hB2 := btr hB hb2
      have hbx2 := (hb2.cell (p := ⟨w.heap.size, 0, none⟩) (World.block_lt_of_cell? _ _ hbx)).trans hbx
      have HO2 := hid (owns_block HO.out (hb2.block _ (ownq_lt HO.out).2))
      have hg12 : g < g2 := Nat.lt_of_lt_of_le (ownq_lt HO.out).2 (ownq_lt hr2).1
      have Hr2 := hid hr2
      have hBr := hB.size
      have hor := orTo_len (reachTo m s k) (stepM m (reachTo m s k))
      rw [hrk] at hor
      clear HO HS hr2
      generalize reachTo m s k = R at *
      generalize stepM m R = E at *
      obtain ⟨wo, rfl⟩ : ∃ wo : World, wo = wr := ⟨_, rfl⟩
      go_wp2
      go_loopw [8] (fun tv wq => ∃ t : Nat, t ≤ m.length ∧ tv = .int .i64 t ∧ wq.ownsRow w.heap.size 4 1 (.slice (some ⟨g, 0, none⟩) m.length capr) m.length ((orTo R E t).map fun x => .bool x) ∧ wq.ownsRow wo.heap.size 4 1 (.slice (some ⟨g2, 0, none⟩) m.length cap2) m.length (E.map fun x => .bool x) ∧ Below w.heap.size w wq ∧ wq.cell? ⟨w.heap.size, 0, none⟩ = some (.slice A m.length cap)) (fun t _ => m.length - (intOf t).toNat)
      case atStart => exact ⟨0, Nat.zero_le _, rfl, HO2.out, Hr2.out, hB2, hbx2⟩
      case round =>
        clear HO2 Hr2 hB2 hbx2 hb2
        obtain ⟨t, ht, rfl, hO, hE, hBq, hbq⟩ := hrel
        by_cases htl : t < m.length
        · have hts : (t : Int) < m.length := by omega
          have hcA := hO.cellAt t (by omega)
          have hfA := hO.frozenAt t
          have hcE := hE.cellAt t (by omega)
          rw [getD_cell (by rw [hor]; exact htl)] at hcA
          rw [getD_cell (by omega)] at hcE
          have hsame : (orTo R E t).getD t false = R.getD t false := by rw [orTo_get _ _ _ (by omega), if_neg (by omega)]
          rw [hsame] at hcA
          have hot := hid (show orTo R E (t + 1) = (orTo R E t).set t (R.getD t false || E.getD t false) from rfl)
          have hSt := hid (hO.stored t (.bool (R.getD t false || E.getD t false))).1
          rw [← List.map_set_bool, ← hot.out] at hSt
          have hBs := hid (hBq.setCell (p := ⟨g, t, none⟩) (by show w.heap.size ≤ g; omega) (.bool (R.getD t false || E.getD t false)))
          have hbs : (wr.setCell ⟨g, t, none⟩ (.bool (R.getD t false || E.getD t false))).cell? ⟨w.heap.size, 0, none⟩ = some (.slice A m.length cap) := (World.cell?_of_block (Below.heap_setCell _ _ _ _ (by simp; omega))).trans hbq
          have hEs := hid (owns_block (w' := wr.setCell ⟨g, t, none⟩ (.bool (R.getD t false || E.getD t false))) hE (Below.heap_setCell _ _ _ _ (by simp; omega)))
          clear hO hE hsame
          generalize R.getD t false = x at *
          generalize E.getD t false = y at *
          cases x with
          | true =>
            go_wp2
            go_roundw
            case rel => exact ⟨t + 1, by omega, by go_num, hSt.out, hEs.out, hBs.out, hbs⟩
            case measure => simp [intOf]; omega
          | false =>
            cases y with
            | true =>
              go_wp2
              go_roundw
              case rel => exact ⟨t + 1, by omega, by go_num, hSt.out, hEs.out, hBs.out, hbs⟩
              case measure => simp [intOf]; omega
            | false =>
              go_wp2
              go_roundw
              case rel => exact ⟨t + 1, by omega, by go_num, hSt.out, hEs.out, hBs.out, hbs⟩
              case measure => simp [intOf]; omega
        · obtain rfl : t = m.length := by omega
          have hts : ¬ ((m.length : Nat) : Int) < m.length := by omega
          rw [← hsucc.out] at hO
          have HO3 := hid hO
          clear hO hE
          go_wp2
          go_roundw
          case rel => exact ⟨k + 1, by omega, by go_num, HO3.out, hBq, hbq⟩
          case measure => simp [intOf]; omega
    · obtain rfl : k = m.length := by omega
      have hks : ¬ ((m.length : Nat) : Int) < m.length := by omega
      have HO := hid hO
      clear hO
      go_wp2
      go_ret
      exact ⟨_, rfl, HO.out, hB⟩
end Go.Proofs.YtlpfglkopnmlnaaDoor
namespace Go.Proofs.YtlpfglkopnmlnaaDoor
open Go.RowKit Go.Shelf
/-- The states to which words of exactly k letters lead. -/
def exactTo (m : List (List Int)) (s : Nat) : Nat → List Bool
  | 0 => onlyL m.length s
  | k + 1 => stepM m (exactTo m s k)
theorem exactTo_len (m : List (List Int)) (s : Nat) : ∀ k, (exactTo m s k).length = m.length
  | 0 => by simp [exactTo, onlyL]
  | k + 1 => by rw [exactTo, stepM_len, exactTo_len m s k]
/-- A word of exactly k letters leads there. -/
def exactP (m : List (List Int)) (s k t : Nat) : Prop := ∃ u : List Int, u.all (inB 0 ((letters m : Int) - 1)) = true ∧ u.length = k ∧ runM m s u = t
theorem exactTo_get {m : List (List Int)} (hv : validM m = true) {s : Nat} (hs : s < m.length) : ∀ k t, (exactTo m s k).getD t false = true ↔ exactP m s k t
  | 0, t => by
    rw [exactTo, onlyL_get hs, decide_eq_true_eq]
    constructor
    · rintro rfl; exact ⟨[], rfl, rfl, rfl⟩
    · rintro ⟨u, _, hl, h⟩
      obtain rfl : u = [] := List.length_eq_zero_iff.1 hl
      exact h
  | k + 1, t => by
    have ih := exactTo_get hv hs k
    rw [exactTo, stepM_get hv (exactTo_len m s k)]
    constructor
    · rintro ⟨r, hr, h1, x, hx, h2⟩
      obtain ⟨u, hu, hk, rfl⟩ := (ih r).1 h1
      exact ⟨u ++ [(x : Int)], all_snoc hu hx, by simp; omega, by rw [runQ_snoc]; exact h2⟩
    · rintro ⟨u, hu, hk, h⟩
      rcases snoc_cases u with rfl | ⟨v, x, rfl⟩
      · simp at hk
      · obtain ⟨hv', y, rfl, hy⟩ := all_of_snoc hu
        rw [runQ_snoc] at h
        exact ⟨runM m s v, runQ_lt hv hs hv', (ih _).2 ⟨v, hv', by simp at hk; omega, rfl⟩, y, hy, h⟩
/-- The reference's period behind k rounds. -/
def perR (m : List (List Int)) : Nat → Nat
  | 0 => 0
  | k + 1 => if (exactTo m 0 (k + 1)).getD 0 false then Nat.gcd (k + 1) (perR m k) else perR m k
theorem perR_dvd (m : List (List Int)) : ∀ K k, 0 < k → k ≤ K → (exactTo m 0 k).getD 0 false = true → perR m K ∣ k
  | 0, k, h0, hk, _ => by omega
  | K + 1, k, h0, hk, h => by
    simp only [perR]
    by_cases e : k = K + 1
    · subst e
      rw [if_pos h]
      exact Nat.gcd_dvd_left _ _
    · have ih := perR_dvd m K k h0 (by omega) h
      split
      · exact Nat.dvd_trans (Nat.gcd_dvd_right _ _) ih
      · exact ih
theorem dvd_perR (m : List (List Int)) {c : Nat} : ∀ K, (∀ k, 0 < k → k ≤ K → (exactTo m 0 k).getD 0 false = true → c ∣ k) → c ∣ perR m K
  | 0, _ => Nat.dvd_zero _
  | K + 1, h => by
    have ih := dvd_perR m K (fun k h0 hk => h k h0 (by omega))
    simp only [perR]
    split
    · rename_i he
      exact Nat.dvd_gcd (h (K + 1) (by omega) (Nat.le_refl _) he) ih
    · exact ih
theorem runQ_append (m : List (List Int)) (s : Nat) (u v : List Int) : runM m s (u ++ v) = runM m (runM m s u) v := by
  unfold runM; rw [List.foldl_append]
theorem all_append_ok {K : Nat} {u v : List Int} (hu : u.all (inB 0 ((K : Int) - 1)) = true) (hv : v.all (inB 0 ((K : Int) - 1)) = true) : (u ++ v).all (inB 0 ((K : Int) - 1)) = true := by
  rw [List.all_append, hu, hv]; rfl
section
variable {m : List (List Int)} (hv : validM m = true) (hc : connM m = true)
include hv hc
/-- A word of k letters leads k classes on. -/
theorem len_mod : ∀ (u : List Int) (s : Nat), s < m.length → u.all (inB 0 ((letters m : Int) - 1)) = true → (perM m : Int) ∣ (lensM m).getD s 0 + u.length - (lensM m).getD (runM m s u) 0
  | [], s, _, _ => by
    show _ ∣ (lensM m).getD s 0 + ((0 : Nat) : Int) - (lensM m).getD s 0
    rw [show (lensM m).getD s 0 + ((0 : Nat) : Int) - (lensM m).getD s 0 = 0 by omega]
    exact Int.dvd_zero _
  | x :: u, s, hs, hu => by
    obtain ⟨hx, hu'⟩ := all_cons_parts hu
    obtain ⟨xn, rfl⟩ := Int.eq_ofNat_of_zero_le hx.1
    have hn := ldM_ok hv s xn hs (by omega)
    have ih := len_mod u (nx m s xn) hn hu'
    have he := excM_eq hv hc (s := s) (x := xn) hs (by omega)
    have hd : (perM m : Int) ∣ ((excM (lensM m) m s xn : Nat) : Int) := Int.natCast_dvd_natCast.2 (gAll_dvd _ s hs xn (by omega))
    rw [he] at hd
    have hr : runM m s ((xn : Int) :: u) = runM m (nx m s xn) u := rfl
    rw [hr]
    have := Int.dvd_add hd ih
    rw [List.length_cons]
    refine cast ?_ this
    congr 1
    omega
theorem perM_pos : 0 < perM m := by
  obtain ⟨p1, p2, p3, p4, p5⟩ := valid_parts hv
  rcases Nat.eq_zero_or_pos (perM m) with e | e
  · exfalso
    have hall : (List.replicate m.length (0 : Int)).all (inB 0 ((letters m : Int) - 1)) = true := by
      rw [List.all_eq_true]
      intro x hx
      obtain ⟨_, rfl⟩ := List.mem_replicate.1 hx
      exact inB_true ⟨by omega, by omega⟩
    have h := len_mod hv hc (List.replicate m.length 0) 0 (by omega) hall
    rw [e] at h
    have h0 := Int.zero_dvd.1 h
    have b1 := lensM_bound hv hc 0 (by omega)
    have b2 := lensM_bound hv hc _ (runQ_lt hv (s := 0) (by omega) hall)
    rw [List.length_replicate] at h0
    omega
  · exact e
/-- From each state a word of fewer than n letters leads to each state. -/
theorem short_way {s t : Nat} (hs : s < m.length) (ht : t < m.length) : ∃ u : List Int, u.all (inB 0 ((letters m : Int) - 1)) = true ∧ u.length < m.length ∧ runM m s u = t := by
  obtain ⟨p1, p2, p3, p4, p5⟩ := valid_parts hv
  obtain ⟨j, hj, hp⟩ := bfsM_has hv hs ((connM_iff m (by omega)).1 hc s t hs ht)
  obtain ⟨w1, w2⟩ := bfsM_word hv hs hj
  have hg := bfsM_good hv hs
  have a1 := wordB_len hg.tree j hj
  have a2 := hg.len
  exact ⟨_, w1, by omega, by rw [hp] at w2; omega⟩
theorem perR_eq : perR m (3 * m.length) = perM m := by
  obtain ⟨p1, p2, p3, p4, p5⟩ := valid_parts hv
  have h0 : 0 < m.length := by omega
  apply Nat.dvd_antisymm
  · refine dvd_gAll _ fun s hs x hx => ?_
    have hn := ldM_ok hv s x hs hx
    obtain ⟨u, u1, u2, u3, u4, _⟩ := lensM_get hv hc hs
    obtain ⟨v, v1, v2, v3, v4, _⟩ := lensM_get hv hc hn
    obtain ⟨r, r1, r2, r3⟩ := short_way hv hc hn h0
    have c1 : perR m (3 * m.length) ∣ u.length + 1 + r.length := perR_dvd m _ _ (by omega) (by omega) ((exactTo_get hv h0 _ _).2 ⟨(u ++ [(x : Int)]) ++ r, all_append_ok (all_snoc u1 hx) r1, by simp; omega, by rw [runQ_append, runQ_snoc, u2, r3]⟩)
    have c2 : perR m (3 * m.length) ∣ v.length + r.length := by
      rcases Nat.eq_zero_or_pos (v.length + r.length) with e | e
      · rw [e]; exact Nat.dvd_zero _
      · exact perR_dvd m _ _ e (by omega) ((exactTo_get hv h0 _ _).2 ⟨v ++ r, all_append_ok v1 r1, by simp, by rw [runQ_append, v2, r3]⟩)
    have he := excM_eq hv hc hs hx
    have := Nat.dvd_sub c1 c2
    refine cast ?_ this
    congr 1
    omega
  · refine dvd_perR m _ fun k hk _ h => ?_
    obtain ⟨u, hu, rfl, hr⟩ := (exactTo_get hv h0 _ _).1 h
    have := len_mod hv hc u 0 h0 hu
    rw [hr] at this
    rw [show (lensM m).getD 0 0 + (u.length : Int) - (lensM m).getD 0 0 = (u.length : Int) by omega] at this
    exact Int.natCast_dvd_natCast.1 this
end
end Go.Proofs.YtlpfglkopnmlnaaDoor
namespace Go.Proofs.YtlpfglkopnmlnaaDoor
open Go.RowKit Go.Shelf
theorem full_iff {l : List Bool} : l.all id = true ↔ ∀ i, i < l.length → l.getD i false = true := by
  rw [List.all_eq_true]
  constructor
  · intro h i hi
    rw [List.getD_eq_getElem?_getD, List.getElem?_eq_getElem hi, Option.getD_some]
    exact h _ (List.getElem_mem hi)
  · intro h x hx
    obtain ⟨i, hi, rfl⟩ := List.mem_iff_getElem.1 hx
    have := h i hi
    rwa [List.getD_eq_getElem?_getD, List.getElem?_eq_getElem hi, Option.getD_some] at this
theorem connM_full {m : List (List Int)} (hv : validM m = true) : connM m = ((List.range m.length).all fun s => (reachL m s).all id) := by
  have hm : m.length ≤ 64 := by have := (valid_parts hv).2.1; omega
  rw [Bool.eq_iff_iff, connM_iff m hm, List.all_eq_true]
  constructor
  · intro h s hs
    have hs' := List.mem_range.1 hs
    rw [full_iff]
    intro t ht
    rw [reachL_len] at ht
    exact (reachL_get hv hs' t).2 (h s t hs' ht)
  · intro h s t hs ht
    have := full_iff.1 (h s (List.mem_range.2 hs)) t (by rw [reachL_len]; exact ht)
    exact (reachL_get hv hs t).1 this
theorem rFull_bool (v : Value) (l : List Bool) (b : Bool) (w : World) (h : Bools w v l) (hb : l.all id = b) :
    Calls Tryd.prog 55 #[v] w fun e w' => e = .returned (.bool b) ∧ w = w' := by
  subst hb; exact rFull_any v l w h
theorem Bools.of_own' {W : World} {n₀ : Nat} {e : TypeId} {v : Value} {l : List Bool} (h : W.ownsRow n₀ e 1 v l.length (l.map fun x => .bool x)) (hl : l.length ≤ 1000) : Bools W v l := Bools.of_own h (by unfold big; omega)
set_option maxRecDepth 100000 in
set_option maxHeartbeats 1000000 in
theorem rConnected_any (v : Value) (m : List (List Int)) (w : World) (h : Rows w v m) (hv : validM m = true) :
    Calls Tryd.prog 21 #[.agg #[v]] w fun e w' => e = .returned (.bool (connM m)) ∧ Below w.heap.size w w' := by
  obtain ⟨p1, p2, p3, p4, p5⟩ := valid_parts hv
  obtain ⟨A, cap, rfl, hml, -⟩ := id h
  have hX := bal (Below.refl _ w) (.cells #[.slice A m.length cap] 24)
  have hbx := (Boxed.new w 24 (.slice A m.length cap)).cell
  have hcon := hid (connM_full hv)
  clear p5
  go_enter Tryd.func21, Tryd.ntmps21
  go_wp2_with fail
  go_loopw [3] (fun iv wr => ∃ s : Nat, s ≤ m.length ∧ iv = .int .i64 s ∧ ((List.range s).all fun s => (reachL m s).all id) = true ∧ Below w.heap.size w wr ∧ wr.cell? ⟨w.heap.size, 0, none⟩ = some (.slice A m.length cap)) (fun i _ => m.length - (intOf i).toNat)
  case atStart => exact ⟨0, Nat.zero_le _, rfl, rfl, hX, hbx⟩
  case round =>
    clear hbx
    obtain ⟨s, hs, rfl, hall, hB, hbx⟩ := hrel
    by_cases hlt : s < m.length
    · have hss : (s : Int) < m.length := by omega
      have Hall := hid hall
      have hrl := reachL_len m s
      clear hall
      go_wp2_with fail
      refine (rReach_any _ m s _ (h.below hB) hv hlt).mono ?_
      rintro e w2 ⟨r, rfl, hr, hb2⟩
      have hB2 := btr hB hb2
      have hbx2 := (hb2.cell (p := ⟨w.heap.size, 0, none⟩) (World.block_lt_of_cell? _ _ hbx)).trans hbx
      have hbl : Bools w2 r (reachL m s) := Bools.of_own' hr (by omega)
      cases hf : (reachL m s).all id with
      | true =>
        have Hf := hid hf
        have hF := hid (rFull_bool r _ true w2 hbl hf)
        clear hf hr hbl
        go_wp2_with fail
        refine hF.out.mono ?_
        rintro e w3 ⟨rfl, rfl⟩
        go_wp2
        go_roundw
        case rel => exact ⟨s + 1, by omega, by go_num, by rw [List.range_succ, List.all_append, Hall.out]; simp only [List.all_cons, List.all_nil, Hf.out, Bool.and_true, Bool.true_and], hB2, hbx2⟩
        case measure => simp [intOf]; omega
      | false =>
        have Hf := hid hf
        have hF := hid (rFull_bool r _ false w2 hbl hf)
        clear hf hr hbl
        go_wp2_with fail
        refine hF.out.mono ?_
        rintro e w3 ⟨rfl, rfl⟩
        go_wp2
        go_ret
        refine ⟨ret_bool ?_, hB2⟩
        rw [hcon.out]
        symm
        rw [List.all_eq_false]
        exact ⟨s, List.mem_range.2 hlt, by rw [Hf.out]; decide⟩
    · obtain rfl : s = m.length := by omega
      have hss : ¬ ((m.length : Nat) : Int) < m.length := by omega
      have Hall := hid hall
      clear hall
      go_wp2
      go_ret
      exact ⟨ret_bool (by rw [hcon.out, Hall.out]), hB⟩
set_option maxHeartbeats 1000000 in
theorem rCommon_any : ∀ (b a : Nat) (w : World), a ≤ 100000 → b ≤ 100000 →
    Calls Tryd.prog 59 #[.int .i64 a, .int .i64 b] w fun e w' => e = .returned (.int .i64 (Nat.gcd a b : Nat)) ∧ Below w.heap.size w w' := by
  intro b
  induction b using Nat.strongRecOn with
  | _ b ih =>
    intro a w ha hb
    by_cases h0 : b = 0
    · subst h0
      have hg : Nat.gcd a 0 = a := Nat.gcd_zero_right a
      rw [hg]
      clear hg ih
      go_enter Tryd.func59, Tryd.ntmps59
      go_wp2
      go_ret
      exact ⟨rfl, Below.refl _ _⟩
    · have hne : ((b : Int) == 0) = false := by rw [beq_eq_false_iff_ne]; omega
      have e1 : (a : Int).tmod (b : Int) = ((a % b : Nat) : Int) := by rw [Int.tmod_eq_emod_of_nonneg (by omega)]; omega
      have hlt : a % b < b := Nat.mod_lt _ (by omega)
      have hg2 : Nat.gcd b (a % b) = Nat.gcd a b := by rw [Nat.gcd_comm a b, Nat.gcd_rec b a, Nat.gcd_comm]
      have hrec := ih (a % b) hlt b w hb (by omega)
      rw [hg2] at hrec
      have Hrec := hid hrec
      clear hrec hg2 ih
      generalize a % b = q at *
      generalize Nat.gcd a b = g at *
      go_enter Tryd.func59, Tryd.ntmps59
      go_wp2_with fail
      refine Hrec.out.mono ?_
      rintro e w1 ⟨rfl, h1⟩
      go_wp2
      go_ret
      exact ⟨rfl, h1⟩
end Go.Proofs.YtlpfglkopnmlnaaDoor
namespace Go.Proofs.YtlpfglkopnmlnaaDoor
open Go.RowKit Go.Shelf
theorem exactP_cons {m : List (List Int)} {s x j t : Nat} (hx : x < letters m) (h : exactP m (nx m s (x : Int)) j t) : exactP m s (j + 1) t := by
  obtain ⟨u, h1, h2, h3⟩ := h
  refine ⟨(x : Int) :: u, ?_, by simp [h2], h3⟩
  rw [List.all_cons, h1, Bool.and_true]
  exact inB_true ⟨by omega, by omega⟩
theorem exactP_head {m : List (List Int)} {s j t : Nat} (h : exactP m s (j + 1) t) : ∃ x, x < letters m ∧ exactP m (nx m s (x : Int)) j t := by
  obtain ⟨u, h1, h2, h3⟩ := h
  cases u with
  | nil => simp at h2
  | cons y u =>
    obtain ⟨hy, hu⟩ := all_cons_parts h1
    obtain ⟨x, rfl⟩ := Int.eq_ofNat_of_zero_le hy.1
    exact ⟨x, by omega, u, hu, by simpa using h2, h3⟩
end Go.Proofs.YtlpfglkopnmlnaaDoor
namespace Go.Proofs.YtlpfglkopnmlnaaDoor
open Go.RowKit Go.Shelf
attribute [local go_sem] Oper.semAt_some
theorem ownsRow_pos' {w : World} {base : Nat} {e : TypeId} {s : Nat} {v : Value} {n : Nat} {xs : List Value} (h : w.ownsRow base e s v n xs) (hn : 1 ≤ n) : ∃ g cap, v = .slice (some ⟨g, 0, none⟩) n cap := by
  rcases h.2 with ⟨_, h0⟩ | ⟨g, cap, cur, hv, _⟩
  · omega
  · exact ⟨g, cap, hv⟩
theorem ownsRow_slice {w : World} {base : Nat} {e : TypeId} {s : Nat} {v : Value} {n : Nat} {xs : List Value} (h : w.ownsRow base e s v n xs) : ∃ A cap, v = .slice A n cap := by
  rcases h.2 with ⟨hu, h0⟩ | ⟨g, cap, cur, hv, _⟩
  · exact ⟨none, 0, by rw [hu, h0]⟩
  · exact ⟨_, cap, hv⟩
/-- A statement that comes to its end: nothing is owed on other ways. -/
theorem wp_ends {P : Program} {c : Code} {K : Act → World → Prop} {Q : Exit → Act → World → Prop} {a : Act} {w : World} (h : c.wp P (Exit.then K (fun _ _ _ => False)) a w) : c.wp P (Exit.then K Q) a w :=
  Code.wp_mono (fun e a w he => by cases e <;> first | exact he | exact he.elim) h
theorem boxB {W W' : World} {b : Nat} {t : TypeId} {v : Value} (h : Boxed W b t v) (k : Below W.heap.size W W') : Boxed W' b t v := (k.block b h.lt).trans h
theorem keep_set_at {n₀ : Nat} {X : Blocks} (W : World) (b i : Nat) (u : Value) (hn : n₀ ≤ b) (hX : ¬ X b) : Keep n₀ X W (W.setCell ⟨b, i, none⟩ u) :=
  ⟨rfl, rfl, rfl, by simp [World.setCell], fun k hk hc => Below.heap_setCell _ _ _ _ (by
    show k ≠ b
    intro e
    subst e
    rcases hc with h | h
    · omega
    · exact hX h)⟩
theorem box_off {W : World} {b g i : Nat} {t e : TypeId} {u u' : Value} (h : Boxed W b t u) (hte : t ≠ e) {base k n cap : Nat} {xs : List Value} (hr : W.ownsRow base e 1 (.slice (some ⟨g, 0, none⟩) n cap) k xs) : Boxed (W.setCell ⟨g, i, none⟩ u') b t u := by
  have := h.not_row hte hr
  have hne : b ≠ g := fun e => this (by rw [e]; rfl)
  exact (Below.heap_setCell _ _ _ _ (by show b ≠ g; exact hne)).trans h
/-- Behind a store into the row. -/
theorem lens_post {B₀ n₀ : Nat} {X : Blocks} {W wA : World} {w : World} {b b1 g n cap i : Nat} {t t1 e : TypeId} {v1 u : Value} {xs : List Value} (hte : t ≠ e) (ht1 : t1 ≠ e) (hn : n₀ ≤ W.heap.size)
    (hm : Mine X W b t (.slice (some ⟨g, 0, none⟩) n cap)) (ho : W.ownsRow n₀ e 1 (.slice (some ⟨g, 0, none⟩) n cap) n xs) (hx : ¬ X g) (hm1 : Mine X W b1 t1 v1) (hB : Base n₀ w X W) (hA : Below W.heap.size W wA) (hlen : (xs.set i u).length = n) :
    KeepsFrom B₀ W (wA.setCell ⟨g, i, none⟩ u) ∧ Keep n₀ X W (wA.setCell ⟨g, i, none⟩ u) ∧ MineRow n₀ X (wA.setCell ⟨g, i, none⟩ u) b t e (xs.set i u) ∧ Mine X (wA.setCell ⟨g, i, none⟩ u) b1 t1 v1 ∧ Base n₀ w X (wA.setCell ⟨g, i, none⟩ u) := by
  have hgl := own_lt ho
  have hoA := owns_block ho (hA.block g hgl.2)
  refine ⟨(kf_below hA).trans (kf_set _ _ _ _), (Keep.of_below hA).trans (keep_set_at _ _ _ _ hgl.1 hx), ⟨_, ⟨box_off (boxB hm.1 hA) hte hoA, hm.2⟩, ?_, fun j hj => by simp [Value.ownBlock] at hj; subst hj; exact hx⟩, ⟨box_off (boxB hm1.1 hA) ht1 hoA, hm1.2⟩, hB.step ((hA.mono hn).setCell (p := ⟨g, i, none⟩) (by show n₀ ≤ g; omega) _)⟩
  rw [hlen]
  exact (hoA.stored i u).1
set_option maxHeartbeats 1000000 in
theorem gcd_drew (a b : Nat) (w : World) (ha : a ≤ 100000) (hb : b ≤ 100000) :
    Calls Tryd.prog 92 #[.int .i64 a, .int .i64 b] w fun e w' => e = .returned (.int .i64 (Nat.gcd a b : Nat)) ∧ ∃ k, w' = w.drewN k := by
  go_enter Tryd.func92, Tryd.ntmps92
  go_wp2
  go_loopw [0, 1] (fun x y wr => ∃ (p q : Nat), x = .int .i64 p ∧ y = .int .i64 q ∧ p ≤ 100000 ∧ q ≤ 100000 ∧ Nat.gcd p q = Nat.gcd a b ∧ ∃ k, wr = w.drewN k) (fun _ y _ => (intOf y).toNat)
  case atStart => exact ⟨a, b, rfl, rfl, ha, hb, rfl, 0, rfl⟩
  case round =>
    obtain ⟨p, q, rfl, rfl, hp, hq, hg, k, hk⟩ := hrel
    by_cases h0 : q = 0
    · subst h0
      have Hg := hid hg
      have Hk := hid hk
      clear hg hk
      go_wp2
      go_ret
      exact ⟨ret_int (by rw [← Hg.out, Nat.gcd_zero_right]), k, Hk.out⟩
    · have hne : ((q : Int) != 0) = true := by simp; omega
      have hq0 : (0 : Int) < q := by omega
      have e1 : (p : Int).tmod (q : Int) = ((p % q : Nat) : Int) := by rw [Int.tmod_eq_emod_of_nonneg (by omega)]; omega
      have hlt : p % q < q := Nat.mod_lt _ (by omega)
      have hg2 : Nat.gcd q (p % q) = Nat.gcd a b := by rw [← hg, Nat.gcd_comm p q, Nat.gcd_rec q p, Nat.gcd_comm]
      have Hg := hid hg2
      have Hk := hid hk
      have hz : ((q : Int) == 0) = false := by simp; omega
      clear hg hg2 hk
      generalize p % q = r at *
      go_wp2_with fail
      go_quiet (fail)
      all_goals go_wp2
      all_goals go_roundw
      all_goals first
        | exact ⟨q, r, rfl, rfl, hq, by omega, Hg.out, k + nq, by rw [Hk.out, World.drewN_drewN]⟩
        | (simp [intOf]; omega)
/-- What periodic returns of a strongly connected automaton. -/
def PeriodicIs (m : List (List Int)) (w : World) (e : Ending) (w' : World) : Prop :=
  ∃ r, e = .returned (.tuple #[.int .i64 (perM m : Nat), r, .int .i64 0]) ∧ w'.ownsRow w.heap.size 3 1 r m.length ((lensM m).map fun x => .int .i64 x) ∧ Below w.heap.size w w'
set_option maxRecDepth 100000 in
set_option maxHeartbeats 4000000 in
theorem periodic_ok (v : Value) (m : List (List Int)) (w : World) (h : Rows w v m) (hv : validM m = true) (hcn : connM m = true) :
    Calls Tryd.prog 61 #[.agg #[v]] w (PeriodicIs m w) := by
  obtain ⟨i0, hi, hz0, hz1, hz2⟩ := info_parts infoInt
  obtain ⟨p1, p2, p3, p4, p5⟩ := valid_parts hv
  obtain ⟨A, cap, rfl, hml, hcm⟩ := id h
  obtain ⟨b, off, r, hA, hcell, hrow⟩ := hcm 0 (by omega)
  subst hA
  have hrl := (p5 0 (by omega)).1
  obtain ⟨Ar, capr, rfl, -, -⟩ := id hrow
  rw [hrl] at hcell
  have h := h
  clear hcm hrow p5 hrl
  have hX := bal (Below.refl _ w) (.cells #[.slice (some ⟨b, off, none⟩) m.length cap] 24)
  have q0 := Boxed.new w 24 (.slice (some ⟨b, off, none⟩) m.length cap)
  have hr := h.below hX
  refine (callsIn_wide (n := 0)).1 ?_
  refine callsIn_of_wp_marks Tryd.func61 rfl trivial ?_ rfl
  simp only [Tryd.ntmps61, List.size_toArray, List.length_cons, List.length_nil, Nat.reduceAdd, Nat.reduceSub, Array.replicate_succ, Array.replicate_zero, List.push_toArray, List.append_toArray, List.nil_append, List.cons_append]
  refine wpIn_wide.2 ?_
  go_wp2_with fail
  generalize hWX : w.alloc (.cells #[.slice (some ⟨b, off, none⟩) m.length cap] 24) = X at *
  have hxs : X.heap.size = w.heap.size + 1 := by rw [← hWX]; simp
  clear hWX
  refine (Valid_bool _ m true _ hr hv).mono ?_
  rintro e w1 ⟨rfl, h1⟩
  have e1 := (h1.cell (p := ⟨w.heap.size, 0, none⟩) (World.block_lt_of_cell? _ _ q0.cell)).trans q0.cell
  have hr1 := hr.below h1
  have hX1 := btr hX h1
  have hcm := connected_any _ m _ hr1 hv
  rw [hcn] at hcm
  have Hcm := hid hcm
  have q0 := boxB q0 h1
  clear hcm hr
  go_wp2_with fail
  refine Hcm.out.mono ?_
  rintro e w2 ⟨rfl, h2⟩
  have e2 := (h2.cell (p := ⟨w.heap.size, 0, none⟩) (World.block_lt_of_cell? _ _ e1)).trans e1
  have hr2 := hr1.below h2
  have hX2 := btr hX1 h2
  have q0 := boxB q0 h2
  clear hr1 e1 Hcm
  go_wp2_with (at_make; refine wpList_make_full _ rfl _ _ 41 rfl w2.heap.size 3 i0 (.int .i64 0) 1 Tryd.underlying41 hi hz0 hz1 .i64 .i64 _ _ m.length rfl rfl rfl rfl (by rw [hz2]; omega) (by unfold maxLen; omega) (Nat.le_refl _) ?_; intro w3 hown hgrow)
  have hB3 : Below w.heap.size w w3 := btr hX2 ((Below.refl _ w2).grown hgrow (Nat.le_refl _) (fun q hq => by cases hq))
  have h23 : Below w2.heap.size w2 w3 := (Below.refl _ w2).grown hgrow (Nat.le_refl _) (fun q hq => by cases hq)
  have hs2 := hX2.size
  have hs3 := h23.size
  have e3 := (h23.cell (p := ⟨w.heap.size, 0, none⟩) (World.block_lt_of_cell? _ _ e2)).trans e2
  have hr3 := hr2.below h23
  have q0 := boxB q0 h23
  rw [show Value.cells (.int .i64 0) = #[.int .i64 0] from rfl, toList_madeCells_one, Nat.mul_one] at hown
  have hownT := hown.alloc (.cells #[.slice (some ⟨w2.heap.size, 0, none⟩) m.length m.length] 41)
  have q5 := Boxed.new w3 41 (.slice (some ⟨w2.heap.size, 0, none⟩) m.length m.length)
  have hBT := bal hB3 (.cells #[.slice (some ⟨w2.heap.size, 0, none⟩) m.length m.length] 41)
  have h3T := bal (Below.refl _ w3) (.cells #[.slice (some ⟨w2.heap.size, 0, none⟩) m.length m.length] 41)
  have eT := (h3T.cell (p := ⟨w.heap.size, 0, none⟩) (World.block_lt_of_cell? _ _ e3)).trans e3
  have hrT := hr3.below h3T
  have q0 := boxB q0 h3T
  have hglt := (own_lt hownT).2
  have hTs : (w3.alloc (.cells #[.slice (some ⟨w2.heap.size, 0, none⟩) m.length m.length] 41)).heap.size = w3.heap.size + 1 := by simp
  generalize hWT : w3.alloc (.cells #[.slice (some ⟨w2.heap.size, 0, none⟩) m.length m.length] 41) = T at *
  clear hWT e2 e3 hr2 hr3 hown hgrow h3T
  have hcellT := (hBT.cell (p := ⟨b, off + 0, none⟩) (World.block_lt_of_cell? _ _ hcell)).trans hcell
  rw [Nat.add_zero] at hcellT
  have HTs := hid hTs
  clear hTs
  go_upto_region 6 with fail
  go_cut [30] from 23 to 31 (fun f wc => ∃ y1 : World, Below T.heap.size T y1 ∧ y1.cell? ⟨T.heap.size, 0, none⟩ = some (.slice (some ⟨b, off, none⟩) m.length cap) ∧ T.heap.size < y1.heap.size ∧
    f = .func (.func 105) #[] #[.pointer (some ⟨y1.heap.size, 0, none⟩), .pointer (some ⟨y1.heap.size + 1, 0, none⟩), .pointer (some ⟨y1.heap.size + 1 + 1, 0, none⟩)] ∧
    wc = ((y1.alloc (.cells #[.int .i64 0] 3)).alloc (.cells #[.int .i64 (letters m)] 3)).alloc (.cells #[.func (.func 108) #[] #[.pointer (some ⟨T.heap.size, 0, none⟩)]] 73))
  case first =>
    refine wp_ends ?_
    go_region_held (fun w' => Below T.heap.size T w' ∧ w'.cell? ⟨w.heap.size, 0, none⟩ = some (.slice (some ⟨b, off, none⟩) m.length cap) ∧ w'.cell? ⟨b, off, none⟩ = some (.slice Ar (letters m) capr)) (exact held_pair eT hcellT (by first | exact below_dr T 1 | assumption)) (first
      | (go_at_call 91; go_must (refine (lead_fn _ _).mono ?_; rintro e y1 ⟨rfl, hy1⟩; have k1 : Below T.heap.size T y1 := (by rw [hy1]; exact bal (by first | exact below_dr T 1 | exact Below.refl _ _ | assumption) _); have v3 : y1.cell? ⟨T.heap.size, 0, none⟩ = some (.slice (some ⟨b, off, none⟩) m.length cap) := (by rw [hy1]; exact (Boxed.new _ _ _).cell); clear hy1))
      | (go_at_call 90; go_must (refine (Words_fn 0 (letters m) _ _ _).mono ?_; rintro e y2 ⟨rfl, hy2⟩; have k2 : Below T.heap.size T y2 := (by rw [hy2]; exact bal (bal (bal k1 _) _) _); have hY2 := hid hy2; clear hy2)))
    all_goals (go_wp2_with fail; go_meet; exact ⟨y1, k1, v3, World.block_lt_of_cell? _ _ v3, rfl, hY2.out⟩)
  case rest =>
    obtain ⟨y1, k1, v3, hy1, rfl, rfl⟩ := hcut
    have hTs := HTs.out
    have hB1 := btr hBT k1
    have hY := bal (bal (bal (Below.refl _ y1) (.cells #[.int .i64 0] 3)) (.cells #[.int .i64 (letters m)] 3)) (.cells #[.func (.func 108) #[] #[.pointer (some ⟨T.heap.size, 0, none⟩)]] 73)
    have hTZ := btr k1 hY
    have hBZ := btr hBT hTZ
    have s1 := ((Boxed.new y1 3 (.int .i64 0)).alloc (.cells #[.int .i64 (letters m)] 3)).alloc (.cells #[.func (.func 108) #[] #[.pointer (some ⟨T.heap.size, 0, none⟩)]] 73)
    have s2 := (Boxed.new (y1.alloc (.cells #[.int .i64 0] 3)) 3 (.int .i64 (letters m))).alloc (.cells #[.func (.func 108) #[] #[.pointer (some ⟨T.heap.size, 0, none⟩)]] 73)
    have s3 := Boxed.new ((y1.alloc (.cells #[.int .i64 0] 3)).alloc (.cells #[.int .i64 (letters m)] 3)) 73 (.func (.func 108) #[] #[.pointer (some ⟨T.heap.size, 0, none⟩)])
    simp only [World.size_alloc] at s2 s3
    have hZs : (((y1.alloc (.cells #[.int .i64 0] 3)).alloc (.cells #[.int .i64 (letters m)] 3)).alloc (.cells #[.func (.func 108) #[] #[.pointer (some ⟨T.heap.size, 0, none⟩)]] 73)).heap.size = y1.heap.size + 3 := by simp
    have vZ := (hY.cell (p := ⟨T.heap.size, 0, none⟩) (World.block_lt_of_cell? _ _ v3)).trans v3
    have q5Z := boxB q5 hTZ
    have q0Z := boxB q0 hTZ
    have hoZ := owns_block hownT (hTZ.block _ hglt)
    have hrZ := hrT.below hTZ
    clear k1 hY
    generalize hWZ : ((y1.alloc (.cells #[.int .i64 0] 3)).alloc (.cells #[.int .i64 (letters m)] 3)).alloc (.cells #[.func (.func 108) #[] #[.pointer (some ⟨T.heap.size, 0, none⟩)]] 73) = Z at *
    clear hWZ hTZ q5 q0 hownT
    have hXZ : ∀ k, (k = T.heap.size ∨ k = y1.heap.size ∨ k = y1.heap.size + 1 ∨ k = y1.heap.size + 1 + 1) → k < Z.heap.size := fun k hk => by omega
    have hF := bfsM_good hv (s := 0) (by omega)
    have hseq := Words_seq (fun p x => nx m p (x : Int)) m.length (letters m) 0 T.heap.size _ _ _ w.heap.size (fun W => Below w.heap.size w W ∧ W.cell? ⟨T.heap.size, 0, none⟩ = some (.slice (some ⟨b, off, none⟩) m.length cap)) Z (fun k => k = T.heap.size ∨ k = y1.heap.size ∨ k = y1.heap.size + 1 ∨ k = y1.heap.size + 1 + 1)
      (by omega) (by omega) (by omega) (ldM_ok hv) (.inr (.inl rfl)) (.inr (.inr (.inl rfl))) (.inr (.inr (.inr rfl))) hXZ hBZ.size (fun W W' h k => ⟨h.1.trans (k.below h.1.size), keep_cell k (.inl rfl) h.2⟩) ⟨hBZ, vZ⟩
      (fun p x W hR hp hx => lead_any _ cap m _ p x W hR.2 (h.below hR.1) hv hp hx) s1.cell s2.cell s3.cell
    rw [show bfsTo (fun p x => nx m p (x : Int)) (letters m) 0 m.length = bfsM m 0 from rfl] at hseq
    have hLdef := hid (show lensM m = lensTo (bfsM m 0) m.length (bfsM m 0).length from rfl)
    generalize bfsM m 0 = F at *
    have hFl := hF.len
    have Hhseq := hid hseq
    clear hseq
    go_wp2_with fail
    refine (wpIn_wide (n := 0)).1 ?_
    refine range_lawO (gf := 105) (fb := #[]) (lb := #[.pointer (some ⟨y1.heap.size, 0, none⟩), .pointer (some ⟨y1.heap.size + 1, 0, none⟩), .pointer (some ⟨y1.heap.size + 1 + 1, 0, none⟩)]) rfl (enters_of Tryd.func105 (by kernel_rfl) rfl)
      Hhseq.out hXZ (fun _ _ _ _ h k => h.keep k) hBZ.size (Below.refl _ _) (fun _ => rfl)
      (fun X pre W => MineRow w.heap.size X W w3.heap.size 41 3 ((lensTo F m.length pre.length).map fun x => .int .i64 x) ∧ (Mine X W w.heap.size 24 (.slice (some ⟨b, off, none⟩) m.length cap) ∧ Base w.heap.size w X W))
      (fun c X pre W => False)
      (Stable.and (stable_row _ _ _ _ _ (fun pre : List (Nat × Value) => (lensTo F m.length pre.length).map fun x => .int .i64 x)) (Stable.and (stable_box _ _ _ (fun _ => _)) (stable_base _ _ _ hBZ.size (Nat.le_refl _))))
      (fun _ _ _ _ _ _ h _ _ _ _ _ _ => h)
      ⟨⟨_, ⟨q5Z, fun h => by omega⟩, by simpa [lensTo] using row_mono hoZ hs2, fun j hj h => by simp [Value.ownBlock] at hj; omega⟩, ⟨q0Z, fun h => by omega⟩, ⟨fun k hk => by omega, hBZ⟩⟩
      (fun x a' _ => a' = { tmps := #[.agg #[.slice (some ⟨b, off, none⟩) m.length cap], .pointer (some ⟨w.heap.size, 0, none⟩), .int .i64 0, .slice none 0 0, .int .i64 0, .pointer (some ⟨w3.heap.size, 0, none⟩), .int .i64 (plB F x.1), x.2, undef, undef, undef, undef, undef, .agg #[.slice (some ⟨b, off, none⟩) m.length cap], .bool true, .bool false, .agg #[.slice (some ⟨b, off, none⟩) m.length cap], .bool true, .bool false, .pointer (some ⟨w.heap.size, 0, none⟩), .slice (some ⟨b, off, none⟩) m.length cap, .int .i64 m.length, .slice (some ⟨w2.heap.size, 0, none⟩) m.length m.length, u23, u24, u25, u26, u27, u28, u29, .func (.func 105) #[] #[.pointer (some ⟨y1.heap.size, 0, none⟩), .pointer (some ⟨y1.heap.size + 1, 0, none⟩), .pointer (some ⟨y1.heap.size + 1 + 1, 0, none⟩)], .int .i64 (plB F x.1), x.2, undef, undef, undef, undef, undef, undef, undef, undef, undef, undef, undef, undef, undef, undef, undef, undef, undef, undef, undef, undef, undef, undef, undef, undef, undef, undef, undef, undef, undef, undef, undef, undef, undef, undef, undef, undef], defers := [] })
      (fun _ _ _ _ _ _ _ hs _ _ _ _ _ _ => hs) ?assign ?body ?done ?stop
    case assign =>
      intro l X pre x W' K' hi hK'
      unfold encW
      gi_wp2
      exact hK' _ _ (KeepsFrom.refl _ _) (Keep.refl _ _ _) hi rfl
    case body =>
      rintro l X pre ⟨i, fv⟩ a' W hl hrec hXl hXs ⟨⟨v, hm, ho, hx⟩, b0, hB⟩ hG rfl hsp
      obtain ⟨k, hk, hkr⟩ := hsp
      obtain ⟨hk1, hix⟩ := sp_last hkr
      simp only at hix
      subst hix
      obtain ⟨c6, c7, g', cap', B', base', hfv, _⟩ := id hG
      simp only at hfv
      subst hfv
      obtain ⟨p, hp, hpn⟩ := hF.below pre.length (by omega)
      have hll := lensTo_len F m.length pre.length
      rw [List.length_map, hll] at ho
      obtain ⟨g, cg, rfl⟩ := ownsRow_pos' ho (by omega)
      have hbm := wordB_len hF.tree pre.length (by omega)
      have hxg : ¬ X g := hx g rfl
      have m5 := hm.cell
      have hWn := hB.2.size
      have hsucc := hid (show lensTo F m.length (pre.length + 1) = (lensTo F m.length pre.length).set p ((wordB F pre.length).length : Int) by rw [lensTo, hp, Int.toNat_natCast])
      have hpl : (pre ++ [((pre.length : Nat), Value.func (.func 106) #[] #[.pointer (some ⟨c6, 0, none⟩), .pointer (some ⟨c7, 0, none⟩)])]).length = pre.length + 1 := by simp
      have hps : (p : Int) < m.length := by omega
      have Hpost := hid (fun wA (hA : Below W.heap.size W wA) => lens_post (B₀ := Z.heap.size) (i := p) (u := .int .i64 ((wordB F pre.length).length : Int)) (w := w) (t := 41) (e := 3) (by decide) (by decide) hWn hm ho hxg b0 hB hA (by rw [List.length_set, List.length_map, hll]))
      have Hgl := hid (own_lt ho)
      have Ho := hid ho
      have HG := hid hG
      have Hhp := hid hp
      have Hhl := hid hll
      simp only [hp]
      clear hB ho hG hp hll hx hXs hrec hm b0 hXl hXZ hF
      gi_wp2
      have hfo := follows
      generalize hWW : (wordB F pre.length).length = N at *
      have hNb : N ≤ 1000 := by omega
      gi_region_with_o (refine ⟨trivial, rfl, ?_⟩; gi_at_call 106; refine (inr l _ (word_any F X _ c6 c7 _ (by first | exact HG.out | exact HG.out.keep (Keep.drew (Keep.refl _ _ _))))).mono ?_; rintro e wA ⟨r, rfl, hr, hb0⟩; have hbA : Below W.heap.size W wA := (by first | exact hb0 | exact btr (below_dr W 1) hb0); rw [hWW] at hr; obtain ⟨rA, rc, rfl⟩ := ownsRow_slice hr; have m5A := (hbA.cell (p := ⟨w3.heap.size, 0, none⟩) (World.block_lt_of_cell? _ _ m5)).trans m5; have hoA := owns_block Ho.out (hbA.block g Hgl.out.2); have hcA := hoA.cellAt p (by omega); have hfA := hoA.frozenAt p; rw [List.getElem?_map, List.getElem?_eq_getElem (by rw [Hhl.out]; exact hpn), Option.map_some] at hcA; have HbA := hid hbA; clear hr hb0 hbA hoA)
      all_goals gi_wp2
      all_goals
        have HP := Hpost.out _ HbA.out
        rw [← List.map_set, ← hsucc.out, ← hpl] at HP
        exact ⟨HP.1, HP.2.1, HP.2.2.1, HP.2.2.2.1, HP.2.2.2.2⟩
    case done =>
      rintro D X xs W hD hS ⟨⟨v, hm, ho, hx⟩, b0, hB⟩ hK'
      have hxl : xs.length = F.length := by have := congrArg List.length hS; simpa using this
      have hll := lensM_len m
      rw [hxl, ← hLdef.out, List.length_map, hll] at ho
      obtain ⟨g, cg, rfl⟩ := ownsRow_pos' ho (by omega)
      have m5 := hm.cell
      have m0 := b0.cell
      have hrW := h.below hB.2
      have hBW := hB.2
      have Ho := hid ho
      have HK := hid hK'
      have HS := hid hS
      have Hb := hid (lensM_any m hv)
      have Hex := hid (fun s x hs hx => excM_eq hv hcn (s := s) (x := x) hs hx)
      have Hpl := hid (perM_le m hv)
      have Hper := hid (show perM m = gAll (lensM m) m m.length from rfl)
      have hmc := hrW
      obtain ⟨A', cap', hA0, -, hcm⟩ := hmc
      cases hA0
      have Hcm := hid hcm
      have Hp5 := hid (valid_parts hv).2.2.2.2
      clear hm b0 hB ho hK' hS hLdef hX hX1 hX2 h1 h2 hcell h hF hcm
      generalize hLM : lensM m = L at *
      have HLM := hid hLM
      clear hLM
      go_wp2_with fail
      go_loopw [8, 42] (fun pv sv wr => ∃ s : Nat, s ≤ m.length ∧ sv = .int .i64 s ∧ pv = .int .i64 (gAll L m s : Nat) ∧ Below W.heap.size W wr) (fun _ sv _ => m.length - (intOf sv).toNat)
      case atStart => exact ⟨0, Nat.zero_le _, rfl, rfl, Below.refl _ _⟩
      case round =>
        obtain ⟨s, hs, rfl, rfl, hBr⟩ := hrel
        by_cases hlt : s < m.length
        · have hss : (s : Int) < m.length := by omega
          obtain ⟨b', off', r', hA', hcs, hrow'⟩ := Hcm.out s hlt
          cases hA'
          have hrl := (Hp5.out s hlt).1
          obtain ⟨As, caps, rfl, -, hct⟩ := hrow'
          rw [hrl] at hcs hct
          have hcs := (hBr.cell (p := ⟨b, off + s, none⟩) (World.block_lt_of_cell? _ _ hcs)).trans hcs
          have Hct := hid hct
          have hsucc := hid (show gAll L m (s + 1) = gRow L m s (gAll L m s) (letters m) from rfl)
          have hd0 := Hpl.out s
          clear hct
          obtain ⟨wo, rfl⟩ : ∃ wo : World, wo = wr := ⟨_, rfl⟩
          go_wp2_with fail
          go_loopw [8, 49] (fun pv xv wr => ∃ x : Nat, x ≤ letters m ∧ xv = .int .i64 x ∧ pv = .int .i64 (gRow L m s (gAll L m s) x : Nat) ∧ Below W.heap.size W wr) (fun _ xv _ => letters m - (intOf xv).toNat)
          case atStart => exact ⟨0, Nat.zero_le _, rfl, rfl, hBr⟩
          case round =>
            clear hBr hcs
            obtain ⟨x, hx, rfl, rfl, hBr⟩ := hrel
            by_cases hxl : x < letters m
            · have hxs : (x : Int) < letters m := by omega
              obtain ⟨br, offr, hAr, hcx⟩ := Hct.out x hxl
              cases hAr
              have hcx := (hBr.cell (p := ⟨br, offr + x, none⟩) (World.block_lt_of_cell? _ _ hcx)).trans hcx
              obtain ⟨hn1, hn⟩ := nx_ok hv (s := s) hlt (x := (x : Int)) (by omega) (by omega)
              rw [Int.toNat_natCast] at hn
              rw [hn] at hcx
              have hexc := Hex.out s x hlt hxl
              have hrsucc := hid (show gRow L m s (gAll L m s) (x + 1) = Nat.gcd (excM L m s x) (gRow L m s (gAll L m s) x) from rfl)
              have hgb : gRow L m s (gAll L m s) x ≤ 61 := gRow_le (fun y => by have := excM_le (L := L) (m := m) (B := 60) (by omega) Hb.out s y; omega) hd0 x
              have hmr := (hBr.cell (p := ⟨w3.heap.size, 0, none⟩) (World.block_lt_of_cell? _ _ m5)).trans m5
              have hor := owns_block Ho.out (hBr.block _ (own_lt Ho.out).2)
              have cs := hor.cellAt s (by omega)
              have ct := hor.cellAt (nx m s (x : Int)) (by omega)
              rw [show (L.map fun x => Value.int .i64 x)[s]? = some (.int .i64 (L.getD s 0)) by simp [List.getElem?_map, List.getElem?_eq_getElem (show s < L.length by omega), List.getD_eq_getElem?_getD]] at cs
              rw [show (L.map fun x => Value.int .i64 x)[nx m s (x : Int)]? = some (.int .i64 (L.getD (nx m s (x : Int)) 0)) by simp [List.getElem?_map, List.getElem?_eq_getElem (show nx m s (x : Int) < L.length by omega), List.getD_eq_getElem?_getD]] at ct
              have b1 := Hb.out s
              have b2 := Hb.out (nx m s (x : Int))
              clear hn hor
              generalize nx m s (x : Int) = t at *
              generalize L.getD s 0 = ls at *
              generalize L.getD t 0 = lt at *
              generalize excM L m s x = ex at *
              generalize gRow L m s (gAll L m s) x = d at *
              have hts : (t : Int) < m.length := by omega
              have e1 : IntKind.i64.wrap (ls + 1) = ls + 1 := IntWalk.i64_in _ (by omega)
              have e2 : IntKind.i64.wrap (ls + 1 - lt) = (ex : Int) := by rw [IntWalk.i64_in _ (by omega)]; exact hexc.symm
              obtain ⟨wq, rfl⟩ : ∃ wq : World, wq = wr := ⟨_, rfl⟩
              go_upto_region 17 with fail
              have Hg := hid (fun n => show Calls Tryd.prog 92 #[.int .i64 (ls + 1 - lt), .int .i64 d] (wq.drewN n) fun e w' => e = .returned (.int .i64 (Nat.gcd ex d : Nat)) ∧ ∃ k, w' = (wq.drewN n).drewN k from by have h9 := gcd_drew ex d (wq.drewN n) (by omega) (by omega); rwa [hexc] at h9)
              clear e2 hexc
              go_quiet ((go_at_call 92; exact Calls.quiet_of (Hg.out _)))
              go_wp2
              go_roundw
              case rel => exact ⟨x + 1, by omega, by go_num, by rw [hrsucc.out], bdr hBr nq⟩
              case measure => simp [intOf]; omega
            · obtain rfl : x = letters m := by omega
              have hxs : ¬ ((letters m : Nat) : Int) < letters m := by omega
              rw [← hsucc.out]
              go_wp2
              go_roundw
              case rel => exact ⟨s + 1, by omega, by go_num, rfl, hBr⟩
              case measure => simp [intOf]; omega
        · obtain rfl : s = m.length := by omega
          have hss : ¬ ((m.length : Nat) : Int) < m.length := by omega
          have hmr := (hBr.cell (p := ⟨w3.heap.size, 0, none⟩) (World.block_lt_of_cell? _ _ m5)).trans m5
          have hKr := hBr.block D (Array.getElem?_eq_some_iff.1 HK.out).1
          have hK2 := hid (hKr.trans HK.out)
          have hor := hid (owns_block Ho.out (hBr.block _ (own_lt Ho.out).2))
          have hDw : w.heap.size ≤ D := by have := hBZ.size; omega
          clear hKr
          go_wp2_with fail
          go_quiet (fail)
          go_wp2
          have hKq : (wr.drewN nq).heap[D]? = some (.deferred (some [])) := hK2.out
          refine ⟨by simp, .inl ⟨_, _, rfl, run_takeDeferred hKq, ?_⟩⟩
          have hperm := hid (show gAll L m m.length = perM m from Hper.out.symm)
          refine ⟨.tuple #[.int .i64 (perM m : Nat), .slice (some ⟨g, 0, none⟩) m.length cg, .int .i64 0], ?_, ⟨_, rfl, ?_, (hBW.trans ((bdr hBr nq).mono hBW.size)).trans (belowK_b (w := w) (Nat.le_refl _) _ D _ _ hDw hKq rfl rfl)⟩⟩
          · simp only [results, Tryd.results61]
            go_simp
            rw [hperm.out]
          · rw [HLM.out]
            exact ownsRow_putObj (W := wr.drewN nq) hor.out (.deferred none) hKq rfl
    case stop =>
      rintro D X c pre W _ _ h _
      exact h.elim
end Go.Proofs.YtlpfglkopnmlnaaDoor
namespace Go.Proofs.YtlpfglkopnmlnaaDoor
open Go.RowKit Go.Shelf
set_option maxRecDepth 100000 in
set_option maxHeartbeats 1000000 in
theorem Period_ok (v : Value) (m : List (List Int)) (w : World) (h : Rows w v m) (hv : validM m = true) (hc : connM m = true) :
    Calls Tryd.prog 26 #[.agg #[v]] w fun e w' => e = .returned (.tuple #[.int .i64 (perM m : Nat), .int .i64 0]) ∧ Below w.heap.size w w' := by
  obtain ⟨A, cap, rfl, hml, -⟩ := id h
  have hr := h.alloc (.cells #[.slice A m.length cap] 24)
  go_enter Tryd.func26, Tryd.ntmps26
  go_wp2_with fail
  refine (periodic_ok _ m _ hr hv hc).mono ?_
  rintro e w1 ⟨r, rfl, ho, h1⟩
  have Ho := hid ho
  clear ho
  go_wp2
  go_ret2
  exact ⟨rfl, btr (bal (Below.refl _ _) _) h1⟩
/-- The classes of the first k states, and the lengths of the others. -/
def clsTo (L : List Int) (d : Nat) : Nat → List Int
  | 0 => L
  | k + 1 => (clsTo L d k).set k (L.getD k 0 % (d : Int))
theorem clsTo_len (L : List Int) (d : Nat) : ∀ k, (clsTo L d k).length = L.length
  | 0 => rfl
  | k + 1 => by simp [clsTo, clsTo_len L d k]
theorem clsTo_get (L : List Int) (d : Nat) : ∀ k, k ≤ L.length → ∀ i, (clsTo L d k).getD i 0 = if i < k then L.getD i 0 % (d : Int) else L.getD i 0
  | 0, _, i => by simp [clsTo]
  | k + 1, hk, i => by
    have ih := clsTo_get L d k (by omega) i
    have hl := clsTo_len L d k
    simp only [clsTo, List.getD_eq_getElem?_getD, List.getElem?_set] at ih ⊢
    by_cases h : k = i
    · subst h
      rw [if_pos rfl, if_pos (by omega), if_pos (by omega)]; rfl
    · rw [if_neg h, ih]
      by_cases h2 : i < k
      · rw [if_pos h2, if_pos (by omega)]
      · rw [if_neg h2, if_neg (by omega)]
/-- The classes. -/
def clsM (m : List (List Int)) : List Int := clsTo (lensM m) (perM m) m.length
theorem clsM_len (m : List (List Int)) : (clsM m).length = m.length := by rw [clsM, clsTo_len, lensM_len]
theorem clsM_get (m : List (List Int)) {i : Nat} (hi : i < m.length) : (clsM m).getD i 0 = (lensM m).getD i 0 % (perM m : Int) := by
  rw [clsM, clsTo_get _ _ _ (by rw [lensM_len]; exact Nat.le_refl _), if_pos hi]
theorem getI_cell {l : List Int} {i : Nat} (hi : i < l.length) : (l.map fun x => Value.int .i64 x)[i]? = some (.int .i64 (l.getD i 0)) := by
  simp [List.getElem?_map, List.getElem?_eq_getElem hi, List.getD_eq_getElem?_getD]
set_option maxRecDepth 100000 in
set_option maxHeartbeats 1000000 in
theorem Classes_ok (v : Value) (m : List (List Int)) (w : World) (h : Rows w v m) (hv : validM m = true) (hc : connM m = true) :
    Calls Tryd.prog 32 #[.agg #[v]] w fun e w' => ∃ r, e = .returned (.tuple #[r, .int .i64 0]) ∧ w'.ownsRow w.heap.size 3 1 r m.length ((clsM m).map fun x => .int .i64 x) ∧ Below w.heap.size w w' := by
  obtain ⟨p1, p2, p3, p4, p5⟩ := valid_parts hv
  obtain ⟨A, cap, rfl, hml, -⟩ := id h
  have hr := h.alloc (.cells #[.slice A m.length cap] 24)
  have hX := bal (Below.refl _ w) (.cells #[.slice A m.length cap] 24)
  go_enter Tryd.func32, Tryd.ntmps32
  go_wp2_with fail
  refine (periodic_ok _ m _ hr hv hc).mono ?_
  rintro e w1 ⟨r, rfl, ho, h1⟩
  obtain ⟨g, cg, rfl⟩ := ownsRow_pos' ho (by omega)
  have hll := lensM_len m
  have hpp := perM_pos hv hc
  have hpl : perM m ≤ 61 := perM_le m hv m.length
  have hlb := lensM_any m hv
  have hX1 := btr hX h1
  have ho1 := row_mono ho hX.size
  have hgl := (own_lt ho1).1
  have Ho := hid (show w1.ownsRow w.heap.size 3 1 (.slice (some ⟨g, 0, none⟩) m.length cg) m.length ((clsTo (lensM m) (perM m) 0).map fun x => .int .i64 x) from ho1)
  have hcl := hid (show clsM m = clsTo (lensM m) (perM m) m.length from rfl)
  have hctl := clsTo_len (lensM m) (perM m)
  have hctg := hid (clsTo_get (lensM m) (perM m))
  rw [hll] at hctl hctg
  have hcs := hid (fun k => show clsTo (lensM m) (perM m) (k + 1) = (clsTo (lensM m) (perM m) k).set k ((lensM m).getD k 0 % (perM m : Int)) from rfl)
  clear ho ho1 hr hll p5
  generalize lensM m = L at *
  generalize perM m = d at *
  go_wp2_with fail
  go_loopw [16] (fun x wr => ∃ s : Nat, s ≤ m.length ∧ x = .int .i64 s ∧ wr.ownsRow w.heap.size 3 1 (.slice (some ⟨g, 0, none⟩) m.length cg) m.length ((clsTo L d s).map fun x => .int .i64 x) ∧ Below w.heap.size w wr) (fun x _ => m.length - (intOf x).toNat)
  case atStart => exact ⟨0, Nat.zero_le _, rfl, Ho.out, hX1⟩
  case round =>
    clear Ho
    obtain ⟨s, hs, rfl, hO, hB⟩ := hrel
    by_cases hlt : s < m.length
    · have hss : (s : Int) < m.length := by omega
      have hcA := hO.cellAt s (by omega)
      have hfA := hO.frozenAt s
      have hl := hctl s
      rw [getI_cell (by omega)] at hcA
      rw [hctg.out s (by omega) s, if_neg (Nat.lt_irrefl _)] at hcA
      have hb := hlb s
      have hSt := hid (hO.stored s (.int .i64 (L.getD s 0 % (d : Int)))).1
      rw [← List.map_set (f := fun x => Value.int .i64 x), ← hcs.out] at hSt
      have hBs := hid (hB.setCell (p := ⟨g, s, none⟩) (by show w.heap.size ≤ g; omega) (.int .i64 (L.getD s 0 % (d : Int))))
      clear hO hl
      generalize L.getD s 0 = x at *
      have e1 : x.tmod (d : Int) = x % (d : Int) := Int.tmod_eq_emod_of_nonneg hb.1
      have hz : ((d : Int) == 0) = false := by simp; omega
      go_wp2
      go_roundw
      case rel => exact ⟨s + 1, by omega, by go_num, hSt.out, hBs.out⟩
      case measure => simp [intOf]; omega
    · obtain rfl : s = m.length := by omega
      have hss : ¬ ((m.length : Nat) : Int) < m.length := by omega
      rw [← hcl.out] at hO
      have HO := hid hO
      clear hO
      go_wp2
      go_ret2
      exact ⟨_, rfl, HO.out, hB⟩
end Go.Proofs.YtlpfglkopnmlnaaDoor
namespace Go.Proofs.YtlpfglkopnmlnaaDoor
open Go.RowKit Go.Shelf
theorem perR_le (m : List (List Int)) : ∀ k, perR m k ≤ k
  | 0 => Nat.le_refl _
  | k + 1 => by
    have ih := perR_le m k
    simp only [perR]
    split
    · exact Nat.gcd_le_left _ (by omega)
    · omega
theorem getB_of {w : World} {A : Option Addr} {n c : Nat} {l : List Bool} (h : Bools w (.slice A n c) l) {i : Nat} (hi : i < l.length) : ∃ b o, A = some ⟨b, o, none⟩ ∧ w.cell? ⟨b, o + i, none⟩ = some (.bool (l.getD i false)) := by
  obtain ⟨A', c', hA, _, hc⟩ := h
  cases hA
  exact hc i hi
theorem Bools.shape {w : World} {v : Value} {l : List Bool} {n : Nat} (h : Bools w v l) (hn : l.length = n) : ∃ A c, v = .slice A n c := by
  obtain ⟨A, c, rfl, _⟩ := h
  exact ⟨A, c, by rw [hn]⟩
set_option maxRecDepth 100000 in
set_option maxHeartbeats 1000000 in
theorem rPeriod_any (v : Value) (m : List (List Int)) (w : World) (h : Rows w v m) (hv : validM m = true) :
    Calls Tryd.prog 22 #[.agg #[v]] w fun e w' => e = .returned (.int .i64 (perR m (3 * m.length) : Nat)) ∧ Below w.heap.size w w' := by
  obtain ⟨p1, p2, p3, p4, p5⟩ := valid_parts hv
  obtain ⟨A, cap, rfl, hml, -⟩ := id h
  have hX := bal (Below.refl _ w) (.cells #[.slice A m.length cap] 24)
  have hbx := (Boxed.new w 24 (.slice A m.length cap)).cell
  have hol : (onlyL m.length 0).length = m.length := by simp [onlyL]
  clear p5
  go_enter Tryd.func22, Tryd.ntmps22
  go_wp2_with fail
  refine (rOnly_any _ m 0 _ (h.below hX) (by omega) (by omega)).mono ?_
  rintro e w1 ⟨r, rfl, hr, hb1⟩
  have hb : Bools w1 r (exactTo m 0 0) := Bools.of_own' (l := onlyL m.length 0) hr (by omega)
  have hX1 := btr hX hb1
  have hbx1 := (hb1.cell (p := ⟨w.heap.size, 0, none⟩) (World.block_lt_of_cell? _ _ hbx)).trans hbx
  have Hb := hid hb
  clear hr hb hbx
  go_wp2
  go_loopw [3, 4, 5] (fun dv av kv wr => ∃ k : Nat, k ≤ 3 * m.length ∧ kv = .int .i64 ((k : Int) + 1) ∧ dv = .int .i64 (perR m k : Nat) ∧ Bools wr av (exactTo m 0 k) ∧ Below w.heap.size w wr ∧ wr.cell? ⟨w.heap.size, 0, none⟩ = some (.slice A m.length cap)) (fun _ _ k _ => 3 * m.length + 1 - (intOf k).toNat)
  case atStart => exact ⟨0, Nat.zero_le _, rfl, rfl, Hb.out, hX1, hbx1⟩
  case round =>
    clear Hb hbx1
    obtain ⟨k, hk, rfl, rfl, hO, hB, hbx⟩ := hrel
    have hel := exactTo_len m 0 k
    obtain ⟨Aa, ca, rfl⟩ := hO.shape hel
    by_cases hlt : k < 3 * m.length
    · have hks : (k : Int) + 1 ≤ 3 * (m.length : Int) := by omega
      have hkn : ¬ 3 * (m.length : Int) < (k : Int) + 1 := by omega
      have hS := hid (rStep_any _ _ m (exactTo m 0 k) wr (h.below hB) hv hO hel)
      have hel1 := exactTo_len m 0 (k + 1)
      have hp := perR_le m k
      have hsucc := hid (show perR m (k + 1) = if (exactTo m 0 (k + 1)).getD 0 false then Nat.gcd (k + 1) (perR m k) else perR m k from rfl)
      rw [show stepM m (exactTo m 0 k) = exactTo m 0 (k + 1) from rfl] at hS
      clear hO
      generalize hEE : exactTo m 0 (k + 1) = E at *
      have HEE := hid hEE
      clear hEE
      generalize perR m k = d at *
      go_wp2_with fail
      refine hS.out.mono ?_
      rintro e w2 ⟨r2, rfl, hr2, hb2⟩
      have hE : Bools w2 r2 E := Bools.of_own' hr2 (by omega)
      obtain ⟨A2, c2, rfl⟩ := hE.shape hel1
      obtain ⟨bE, oE, hAE, cellE⟩ := getB_of hE (i := 0) (by omega)
      subst hAE
      have hB2 := btr hB hb2
      have hbx2 := (hb2.cell (p := ⟨w.heap.size, 0, none⟩) (World.block_lt_of_cell? _ _ hbx)).trans hbx
      have HE := hid hE
      clear hr2 hE hS
      have hk0 : (0 : Int) < m.length := by omega
      rw [Nat.add_zero] at cellE
      cases hE0 : E.getD 0 false with
      | true =>
        rw [hE0] at cellE hsucc
        have hs2 := hid (show perR m (k + 1) = Nat.gcd (k + 1) d by rw [hsucc.out, if_pos rfl])
        have hC := rCommon_any d (k + 1) w2 (by omega) (by omega)
        rw [show ((k + 1 : Nat) : Int) = (k : Int) + 1 by omega] at hC
        have HC := hid hC
        clear hE0 hsucc hC
        go_wp2_with fail
        refine HC.out.mono ?_
        rintro e w3 ⟨rfl, h3⟩
        have hB3 := btr hB2 h3
        have hbx3 := (h3.cell (p := ⟨w.heap.size, 0, none⟩) (World.block_lt_of_cell? _ _ hbx2)).trans hbx2
        have HE3 := hid (HE.out.below h3)
        go_wp2
        go_roundw
        case rel => exact ⟨k + 1, by omega, by go_num, by rw [hs2.out], by rw [HEE.out]; exact HE3.out, hB3, hbx3⟩
        case measure => simp [intOf]; omega
      | false =>
        rw [hE0] at cellE hsucc
        have hs2 := hid (show perR m (k + 1) = d by rw [hsucc.out, if_neg (by decide)])
        clear hE0 hsucc
        go_wp2
        go_roundw
        case rel => exact ⟨k + 1, by omega, by go_num, by rw [hs2.out], by rw [HEE.out]; exact HE.out, hB2, hbx2⟩
        case measure => simp [intOf]; omega
    · obtain rfl : k = 3 * m.length := by omega
      have hks : ¬ (((3 * m.length : Nat) : Int) + 1 ≤ 3 * (m.length : Int)) := by omega
      clear hO
      go_wp2
      go_ret
      exact ⟨rfl, hB⟩
section
variable {m : List (List Int)} (hv : validM m = true) (hc : connM m = true)
include hv hc
end
end Go.Proofs.YtlpfglkopnmlnaaDoor
namespace Go.Proofs.YtlpfglkopnmlnaaDoor
open Go.RowKit Go.Shelf
attribute [local go_sem] Oper.semAt_some
set_option maxRecDepth 100000 in
set_option maxHeartbeats 1000000 in
theorem List_own (S : Nat) (w : World) (hT : Tab w) (hS : S < 2 ^ 64) :
    Calls Tryd.prog 73 #[.int .u64 S] w fun e w' => ∃ v, e = .returned v ∧ w'.ownsRow w.heap.size 3 1 v (intsOf (elems S)).length ((intsOf (elems S)).map fun x => .int .i64 x) ∧ Below w.heap.size w w' := by
  obtain ⟨i0, hi, hz0, hz1, hz2⟩ := info_parts infoInt
  have hlen := elems_length S
  refine (callsIn_wide (n := 0)).1 ?_
  refine callsIn_of_wp_marks Tryd.func73 rfl trivial ?_ rfl
  simp only [Tryd.ntmps73, List.size_toArray, List.length_cons, List.length_nil, Nat.reduceAdd, Nat.reduceSub, Array.replicate_succ, Array.replicate_zero, List.push_toArray, List.append_toArray, List.nil_append, List.cons_append]
  gi_wp2_with (first | (refine ⟨trivial, rfl, ?_⟩; gi_at_call 67; refine (callsIn_wide.2 (Size_any S _ hS)).mono ?_; rintro e w' ⟨rfl, rfl⟩) | (gi_at_make; refine wpListIn_make_own _ rfl _ _ 41 rfl w.heap.size 3 i0 (.int .i64 0) 1 Tryd.underlying41 hi hz0 hz1 .i64 .i64 _ (elems S).length rfl rfl rfl (by rw [hz2]; omega) (by unfold maxLen; omega) (Nat.le_refl _) ?_; intro w1 hown hgrow))
  have hb1 : Below w.heap.size w w1 := (Below.refl _ w).grown hgrow (Nat.le_refl _) (fun k e => by cases e)
  have q1 := Boxed.new w1 41 (.slice (some ⟨w.heap.size, 0, none⟩) 0 (elems S).length)
  have hb0 := bal hb1 (.cells #[.slice (some ⟨w.heap.size, 0, none⟩) 0 (elems S).length] 41)
  have hsz := hb1.size
  have hown0 := hown.alloc (.cells #[.slice (some ⟨w.heap.size, 0, none⟩) 0 (elems S).length] 41)
  refine range_law (gf := 72) (fb := #[.int .u64 S]) (lb := #[]) rfl (enters_of Tryd.func72 (by kernel_rfl) rfl)
    (All_seq S hS w.heap.size hT.lt _ hb0.size (hT.on hb0)) (fun _ _ _ _ _ _ => trivial) hb0.size (Below.refl _ _) (fun _ => rfl)
    (fun X pre W => MineRow w.heap.size X W w1.heap.size 41 3 (pre.map fun s : Nat => Value.int .i64 s) ∧ Base w.heap.size w X W)
    (fun _ _ _ _ => False)
    (Stable.and (stable_row _ _ _ _ _ (fun pre : List Nat => pre.map fun s : Nat => Value.int .i64 s)) (stable_base _ _ _ hb0.size (Nat.le_refl _)))
    (fun _ _ _ _ _ _ hs _ _ _ _ _ _ => hs)
    ⟨⟨_, ⟨q1, fun h => h⟩, by simpa using hown0, fun _ _ h => h⟩, Base.start hb0⟩
    (fun s a' _ => a' = { tmps := #[.int .u64 S, undef, .slice none 0 0, .pointer (some ⟨w1.heap.size, 0, none⟩), .int .i64 s, .int .u64 S, .int .i64 (elems S).length, .slice (some ⟨w.heap.size, 0, none⟩) 0 (elems S).length, .int .u64 S, .func (.func 72) #[.int .u64 S] #[], .int .i64 s, undef, undef, undef, undef, undef], defers := [] })
    (fun _ _ _ _ _ _ _ hs _ _ _ _ _ _ => hs) ?assign ?body ?done ?stop
  case assign =>
    intro l X pre s W K hi hK
    gi_wp2
    exact hK _ _ (KeepsFrom.refl _ _) (Keep.refl _ _ _) hi rfl
  case body =>
    rintro l X pre s a' W hl hrec hXl hXs ⟨⟨v, hm, ho, hx⟩, hB⟩ _ rfl hsp
    have hpl : pre.length < 64 := by have := hsp.length_le; simp at this; omega
    have hmc := hm.cell
    have hBs := hB.2.size
    simp only [List.length_map] at ho
    gi_wp2_with (gi_at_builtin; go_must (refine wpListIn_append_own_at _ rfl _ _ 41 rfl w.heap.size 3 i0 (.int .i64 0) 1 8 Tryd.underlying41 hi hz0 hz1 hz2 rfl (by decide) _ _ _ rfl (ho.alloc _) ⟨W.heap.size, 0, none⟩ 1 1 [.int .i64 s] rfl rfl (cell_one_new _ _ _) (by simp [Value.oneCell']) (by unfold maxLen; omega) (by omega) (by simp; omega) ?_); intro v' w2 hown' hgrow' _ hat; obtain ⟨g', cap', rfl⟩ := ownsRow_succ hown'; obtain ⟨r1, r2, r3, r4, r5, r6⟩ := MineRow.appended (e := 3) (xs := pre.map fun s : Nat => Value.int .i64 s) (ys := (pre ++ [s]).map fun s : Nat => Value.int .i64 s) hm (by simpa using ho) hx (by decide) hBs (by omega) hXs (by simpa using hown') hgrow' hat; have hc1 := r1.cell; have hf1 := r1.frozen)
    exact ⟨r3.from _, r5, r2, hB.step r4⟩
  case done =>
    rintro D X xs W hD rfl ⟨⟨v, hm, ho, hx⟩, hB⟩ hK
    have hmc := hm.cell
    gi_wp2
    refine ⟨by simp, .inl ⟨_, _, rfl, run_takeDeferred hK, ?_⟩⟩
    refine ⟨_, results_tmp rfl _ _ _, _, rfl, ?_, hB.2.trans (belowK_b (w := w) (Nat.le_refl _) _ D _ _ (by have := hb0.size; omega) hK rfl rfl)⟩
    have := ownsRow_putObj ho (.deferred none) hK rfl
    simpa [intsOf, Function.comp_def] using this
  case stop =>
    rintro D X c pre W _ _ h _
    exact h.elim
/-- What is behind the marks of loops over functions: only those marks are turned. -/
def MarksOff (B : Nat) (W W' : World) : Prop := Below B W W' ∧ ∀ (k : Nat) (o : Obj), W.heap[k]? = some o → o.isCells = true → W'.heap[k]? = some o
theorem MarksOff.refl (B : Nat) (W : World) (h : B ≤ W.heap.size) : MarksOff B W W := ⟨(Below.refl _ W).mono h, fun _ _ h _ => h⟩
theorem leaves_marks {fn : Func} {tmps : Array Value} {R : Ending → World → Prop} {v : Value} (hr : ∀ W, (results fn tmps).run Tryd.prog W = .ok v W) (B : Nat) :
    ∀ (ds : List Nat) (W : World), B ≤ W.heap.size → ds.Nodup → (∀ D ∈ ds, B ≤ D ∧ W.heap[D]? = some (.deferred (some []))) → (∀ W', MarksOff B W W' → R (.returned v) W') →
      LeavesInM Fence.wide 0 Tryd.prog fn tmps R (ds.map fun D => { target := .collected D, args := #[] }) .returning W
  | [], W, hB, _, _, h => ⟨v, hr W, h W (MarksOff.refl B W hB)⟩
  | D :: ds, W, hB, hn, hD, h => by
    obtain ⟨h1, h2⟩ := hD D (by simp)
    have hlt := (Array.getElem?_eq_some_iff.1 h2).1
    have hnd := List.nodup_cons.1 hn
    refine ⟨by simp, .inl ⟨_, _, rfl, run_takeDeferred h2, ?_⟩⟩
    refine leaves_marks hr B ds (W.putObj D (.deferred none)) (by simp; exact hB) hnd.2 (fun D' hD' => ?_) (fun W' hW' => h W' ?_)
    · obtain ⟨k1, k2⟩ := hD D' (List.mem_cons_of_mem _ hD')
      exact ⟨k1, (World.putObj_heap_other (fun e => hnd.1 (by rw [← e]; exact hD'))).trans k2⟩
    · obtain ⟨k1, k2⟩ := hW'
      refine ⟨⟨k1.os, k1.tape, k1.output, Nat.le_trans (by simp) k1.size, fun k hk => (k1.block k hk).trans (World.putObj_heap_other (by omega))⟩, fun k o hk ho => k2 k o ((World.putObj_heap_other (fun e => ?_)).trans hk) ho⟩
      subst e
      rw [h2] at hk
      cases hk
      cases ho
end Go.Proofs.YtlpfglkopnmlnaaDoor
