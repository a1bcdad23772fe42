/-
  The reference: where a word leads from all states, images and preimages.
-/
import Derived.Test.YtibaihchnbbokaaDoorR3
import Derived.Test.YtibaihchnbbokaaDoorP2
import Derived.Maps.AppendAt
namespace Go.Proofs.YtibaihchnbbokaaDoor
open Go.RowKit Go.Shelf

/-- Where a word leads from each of the first states. -/
def endsTo (m : List (List Int)) (u : List Int) (k : Nat) : List Int := (List.range k).map fun s => ((runM m s u : Nat) : Int)
theorem endsTo_succ (m : List (List Int)) (u : List Int) (k : Nat) : (endsTo m u (k + 1)).map (fun x => Value.int .i64 x) = (endsTo m u k).map (fun x => Value.int .i64 x) ++ [.int .i64 (runM m k u : Nat)] := by
  simp [endsTo, List.range_succ]
theorem endsTo_length (m : List (List Int)) (u : List Int) (k : Nat) : (endsTo m u k).length = k := by simp [endsTo]
theorem endsTo_get (m : List (List Int)) (u : List Int) (k s : Nat) (h : s < k) : (endsTo m u k).getD s 0 = ((runM m s u : Nat) : Int) := by simp [endsTo, List.getD_eq_getElem?_getD, h]

set_option maxRecDepth 100000 in
set_option maxHeartbeats 2000000 in
theorem rEnds_any (v u : Value) (m : List (List Int)) (l : List Int) (w : World) (h : Rows w v m) (hu : Ints w u l) (hv : validM m = true) (hw : isWordM m l = true) :
    Calls Tryd.prog 65 #[.agg #[v], u] w fun e w' => ∃ r, e = .returned r ∧ Ints w' r (endsTo m l m.length) ∧ Below w.heap.size w w' := by
  obtain ⟨j0, hj, hy0, hy1, hy2⟩ := info_parts infoInt
  have hn : m.length ≤ 60 := (valid_parts hv).2.1
  have hb0 := bal (Below.refl _ w) (.cells #[v] 24)
  obtain ⟨A, cap, rfl, _⟩ := id h
  obtain ⟨Au, capu, rfl, _⟩ := id hu
  have hbx : (w.alloc (.cells #[.slice A m.length cap] 24)).cell? ⟨w.heap.size, 0, none⟩ = some (.slice A m.length cap) := by simp
  have hs0 : (w.alloc (.cells #[.slice A m.length cap] 24)).heap.size = w.heap.size + 1 := by simp
  go_enter Tryd.func65, Tryd.ntmps65
  go_wp2
  generalize hX : w.alloc (.cells #[.slice A m.length cap] 24) = X at *
  clear hX
  go_loopw [5, 6] (fun r i wr => ∃ k : Nat, k ≤ m.length ∧ i = .int .i64 k ∧ Below (w.heap.size + 1) X wr ∧ wr.ownsRow (w.heap.size + 1) 3 1 r k ((endsTo m l k).map fun x => .int .i64 x)) (fun _ i _ => m.length - (intOf i).toNat)
  case atStart => exact ⟨0, Nat.zero_le _, rfl, Below.refl _ _, ⟨rfl, .inl ⟨rfl, rfl⟩⟩⟩
  case round =>
    obtain ⟨k, hk, rfl, hB, ho⟩ := hrel
    have hbr : wr.cell? ⟨w.heap.size, 0, none⟩ = some (.slice A m.length cap) := (hB.cell (p := ⟨w.heap.size, 0, none⟩) (Nat.lt_succ_self _)).trans hbx
    have hsz : w.heap.size + 1 ≤ wr.heap.size := by have := hB.size; omega
    have hBw : Below w.heap.size w wr := hb0.trans (hB.mono (Nat.le_succ _))
    by_cases hlt : k < m.length
    · have hkm : (k : Int) < m.length := by omega
      go_wp2_with fail
      refine (rRun_any _ _ m k l _ (h.below hBw) (hu.below hBw) hv hlt hw).mono ?_
      rintro e w2 ⟨rfl, hb2⟩
      have hs2 := hb2.size
      have hB2 := hB.trans (hb2.mono hsz)
      have ho2 := owns_kept ho (fun q _ hq => hb2.block q hq)
      have Hs := hid (endsTo_succ m l k)
      generalize runM m k l = y at *
      go_wp2_with (at_builtin; refine wpList_append_own_at _ rfl _ _ 25 rfl (w.heap.size + 1) 3 j0 (.int .i64 0) 1 8 Tryd.underlying25 hj hy0 hy1 hy2 rfl (by decide) _ _ _ rfl (ho2.alloc _) ⟨w2.heap.size, 0, none⟩ 1 1 [.int .i64 (y : Int)] rfl rfl (cell_one_new _ _ _) (by simp [Value.oneCell']) (by unfold maxLen; omega) (by omega) (by simp; omega) ?_; intro v' w5 hown' hgrow' _ hat)
      go_roundw
      case rel =>
        refine ⟨k + 1, by omega, by go_num, ?_, by rw [Hs.out]; exact hown'⟩
        refine (hB2.alloc (by omega) _).grown hgrow' (by simp; omega) (fun q hq => ?_)
        rcases ho2.2 with ⟨hr, _⟩ | ⟨g, c, cur, hr, hg, _⟩
        · rw [hr] at hq; cases hq
        · rw [hr] at hq; cases hq; exact hg
      case measure => simp [intOf]; omega
    · obtain rfl : k = m.length := by omega
      go_wp2
      go_ret
      exact ⟨_, rfl, Ints.of_own (n₀ := w.heap.size + 1) (e := 3) (by rw [endsTo_length]; exact ho) (by rw [endsTo_length]; unfold big; omega), hBw⟩

/-! What the program's words on sets say. -/
theorem elems_range {S n : Nat} (hS : S < 2 ^ n) (hn : n ≤ 64) : elems S = (List.range n).filter S.testBit := by
  have e : List.range 64 = List.range n ++ List.range' n (64 - n) := by
    rw [List.range_eq_range', List.range_eq_range', show (64 : Nat) = n + (64 - n) by omega, ← List.range'_append_1]
    simp
  rw [elems, e, List.filter_append]
  have : (List.range' n (64 - n)).filter S.testBit = [] := by
    rw [List.filter_eq_nil_iff]
    intro x hx
    have := (List.mem_range'_1.1 hx).1
    rw [testBit_big hS this]
    simp
  rw [this, List.append_nil]

/-- The states that are in a list, out of the first ones. -/
def pick (p : Nat → Bool) (k : Nat) : List Int := ((List.range k).filter p).map fun t : Nat => (t : Int)
theorem pick_succ (p : Nat → Bool) (k : Nat) : (pick p (k + 1)).map (fun x => Value.int .i64 x) = (pick p k).map (fun x => Value.int .i64 x) ++ (if p k then [.int .i64 (k : Int)] else []) := by
  unfold pick
  rw [List.range_succ, List.filter_append]
  by_cases h : p k = true <;> simp [h]
theorem pick_length (p : Nat → Bool) (k : Nat) : (pick p k).length ≤ k := by
  unfold pick
  have := List.length_filter_le p (List.range k)
  simpa using this

def thereM (m : List (List Int)) (s u : List Int) : List Int := s.map fun x => ((runM m x.toNat u : Nat) : Int)
theorem image_pick {m : List (List Int)} (hv : validM m = true) {s u : List Int} (hs : isSetM m s = true) (hu : isWordM m u = true) : pick (fun t => hasB (thereM m s u) t) m.length = imageM m s u := by
  have hm : m.length ≤ 64 := by have := (valid_parts hv).2.1; omega
  have hS : ofList s < 2 ^ m.length := ofList_lt m.length hm s (isSetM_mem hs)
  simp only [isWordM, Bool.and_eq_true] at hu
  rw [imageM, elems_range (imgWord_lt hv u _ hS hu.2) hm, pick, intsOf]
  congr 1
  apply List.filter_congr
  intro t _
  rw [Bool.eq_iff_iff, imgWord_mem hv u _ t hS hu.2, hasB, List.any_eq_true]
  constructor
  · rintro ⟨y, hy, ht⟩
    obtain ⟨x, hx, rfl⟩ := List.mem_map.1 hy
    have hxm := isSetM_mem hs x hx
    refine ⟨x.toNat, by omega, ?_, ?_⟩
    · rw [ofList_testBit, List.any_eq_true]
      exact ⟨x, hx, by simp⟩
    · have := beq_iff_eq.1 ht
      omega
  · rintro ⟨q, hq, hb, rfl⟩
    rw [ofList_testBit, List.any_eq_true] at hb
    obtain ⟨x, hx, hxq⟩ := hb
    refine ⟨_, List.mem_map.2 ⟨x, hx, rfl⟩, ?_⟩
    rw [of_decide_eq_true hxq]
    simp
theorem preimage_pick {m : List (List Int)} (hv : validM m = true) {s u : List Int} (hs : isSetM m s = true) (hu : isWordM m u = true) : pick (fun t => hasB s ((runM m t u : Nat) : Int)) m.length = preimageM m s u := by
  have hm : m.length ≤ 64 := by have := (valid_parts hv).2.1; omega
  have hS : ofList s < 2 ^ m.length := ofList_lt m.length hm s (isSetM_mem hs)
  simp only [isWordM, Bool.and_eq_true] at hu
  rw [preimageM, elems_range (preWord_lt hv hS u) hm, pick, intsOf]
  congr 1
  apply List.filter_congr
  intro t ht
  rw [preWord_testBit hv _ u t (List.mem_range.1 ht) hu.2, ofList_testBit, hasB, Bool.eq_iff_iff, List.any_eq_true, List.any_eq_true]
  constructor
  · rintro ⟨x, hx, e⟩
    exact ⟨x, hx, by have := beq_iff_eq.1 e; simp [this]⟩
  · rintro ⟨x, hx, e⟩
    have h0 := (isSetM_mem hs x hx).1
    have := of_decide_eq_true e
    exact ⟨x, hx, by rw [beq_iff_eq]; omega⟩
end Go.Proofs.YtibaihchnbbokaaDoor
