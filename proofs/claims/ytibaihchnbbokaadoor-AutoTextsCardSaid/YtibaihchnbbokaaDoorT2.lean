/-
  Words of automata, and where they lead.
-/
import Derived.Test.YtibaihchnbbokaaDoorT1
namespace Go.Proofs.YtibaihchnbbokaaDoor
open Go.RowKit

def isWordM (m : List (List Int)) (u : List Int) : Bool := decide (u.length ≤ 40000) && u.all (inB 0 ((letters m : Int) - 1))
/-- Where a letter leads, and a word. -/
def nx (m : List (List Int)) (s : Nat) (x : Int) : Nat := ((m.getD s []).getD x.toNat 0).toNat
def runM (m : List (List Int)) (s : Nat) (u : List Int) : Nat := u.foldl (nx m) s

theorem all_getD {α : Type} (p : α → Bool) (l : List α) (d : α) (h : l.all p = true) (i : Nat) (hi : i < l.length) : p (l.getD i d) = true := by
  rw [List.all_eq_true] at h
  have e : l.getD i d = l[i] := by simp [List.getD_eq_getElem?_getD, List.getElem?_eq_getElem hi]
  rw [e]; exact h _ (List.getElem_mem _)

theorem inB_iff {lo hi n : Int} : inB lo hi n = true ↔ lo ≤ n ∧ n ≤ hi := by simp [inB]

theorem valid_parts {m : List (List Int)} (h : validM m = true) : 1 ≤ m.length ∧ m.length ≤ 60 ∧ 1 ≤ letters m ∧ letters m ≤ 6 ∧
    ∀ i, i < m.length → (m.getD i []).length = letters m ∧ ∀ j, j < letters m → 0 ≤ (m.getD i []).getD j 0 ∧ (m.getD i []).getD j 0 < m.length := by
  simp only [validM, Bool.and_eq_true, inB_iff] at h
  obtain ⟨⟨a, b⟩, ⟨c, d⟩, e⟩ := h
  refine ⟨by omega, by omega, by omega, by omega, fun i hi => ?_⟩
  have hr := all_getD _ m [] e i hi
  simp only [rowOk, Bool.and_eq_true, decide_eq_true_eq] at hr
  refine ⟨hr.1, fun j hj => ?_⟩
  have := all_getD _ _ 0 hr.2 j (by omega)
  rw [inB_iff] at this
  omega

theorem nx_ok {m : List (List Int)} (h : validM m = true) {s : Nat} (hs : s < m.length) {x : Int} (h0 : 0 ≤ x) (h1 : x < letters m) :
    nx m s x < m.length ∧ (m.getD s []).getD x.toNat 0 = (nx m s x : Int) := by
  have := ((valid_parts h).2.2.2.2 s hs).2 x.toNat (by omega)
  unfold nx
  omega

theorem runM_lt {m : List (List Int)} (h : validM m = true) : ∀ (u : List Int) (s : Nat), s < m.length → u.all (inB 0 ((letters m : Int) - 1)) = true → runM m s u < m.length
  | [], s, hs, _ => hs
  | x :: u, s, hs, hu => by
    simp only [List.all_cons, Bool.and_eq_true, inB_iff] at hu
    exact runM_lt h u _ (nx_ok h hs hu.1.1 (by omega)).1 hu.2

theorem runM_snoc (m : List (List Int)) (s : Nat) (u : List Int) (k : Nat) (hk : k < u.length) : runM m s (u.take (k + 1)) = nx m (runM m s (u.take k)) (u.getD k 0) := by
  unfold runM
  rw [List.take_succ_eq_append_getElem hk, List.foldl_append]
  simp [List.getD_eq_getElem?_getD, List.getElem?_eq_getElem hk]

theorem all_take {α : Type} (p : α → Bool) (l : List α) (h : l.all p = true) (k : Nat) : (l.take k).all p = true := by
  rw [List.all_eq_true] at h ⊢
  exact fun x hx => h x (List.mem_of_mem_take hx)

set_option maxHeartbeats 400000 in
theorem isWord_any (v u : Value) (m : List (List Int)) (l : List Int) (w : World) (h : Rows w v m) (hv : validM m = true) (hu : Ints w u l) :
    Calls Tryd.prog 57 #[.agg #[v], u] w fun e w' => e = .returned (.bool (isWordM m l)) ∧ Below w.heap.size w w' := by
  have hu1 := hu.alloc (.cells #[v] 24)
  obtain ⟨p1, p2, p3, p4, p5⟩ := valid_parts hv
  obtain ⟨A, cap, rfl, hl, hc⟩ := h
  obtain ⟨b, off, r0, hA, hcell0, hr0⟩ := hc 0 (by omega)
  subst hA
  obtain ⟨A0, cap0, rfl, hl0, hc0⟩ := hr0
  obtain ⟨Au, capu, rfl, hlu, hcu⟩ := hu
  rw [Nat.add_zero] at hcell0
  have hlet : (m.getD 0 []).length = letters m := rfl
  rw [hlet] at hcell0
  have hbl : b < w.heap.size := World.block_lt_of_cell? _ _ hcell0
  have hin : (0 : Int) < m.length := by omega
  unfold big at hlu
  clear hc hc0 hcu hl hl0 hlet p5
  by_cases hlen : l.length ≤ 40000
  · have hle : decide ((l.length : Int) ≤ 40000) = true := by simp; omega
    go_enter Tryd.func57, Tryd.ntmps57
    go_wp2_with (go_at_call 59; refine (between_any _ _ _ l _ hu1).mono ?_; rintro e w' ⟨rfl, rfl⟩)
    go_ret
    exact ⟨ret_bool (by simp [isWordM, hlen]), bal (Below.refl _ _) _⟩
  · have hle : decide ((l.length : Int) ≤ 40000) = false := by simp; omega
    go_enter Tryd.func57, Tryd.ntmps57
    go_wp2
    go_ret
    exact ⟨ret_bool (by simp [isWordM, hlen]), bal (Below.refl _ _) _⟩

set_option maxHeartbeats 400000 in
theorem run_any (v u : Value) (m : List (List Int)) (s : Nat) (l : List Int) (w : World) (h : Rows w v m) (hv : validM m = true) (hs : s < m.length) (hu : Ints w u l) (hl : l.all (inB 0 ((letters m : Int) - 1)) = true) :
    Calls Tryd.prog 58 #[.agg #[v], .int .i64 s, u] w fun e w' => e = .returned (.int .i64 (runM m s l)) ∧ Below w.heap.size w w' := by
  obtain ⟨A, cap, rfl, hml, hc⟩ := h
  obtain ⟨Au, capu, rfl, hlu, hcu⟩ := hu
  unfold big at hml hlu
  go_enter Tryd.func58, Tryd.ntmps58
  go_wp2
  go_loopw [1, 11] (fun s' i wr => ∃ k : Nat, k ≤ l.length ∧ i = .int .i64 k ∧ s' = .int .i64 (runM m s (l.take k)) ∧ Below w.heap.size w wr ∧ wr.cell? ⟨w.heap.size, 0, none⟩ = some (.slice A m.length cap)) (fun _ i _ => l.length - (intOf i).toNat)
  case atStart => exact ⟨0, Nat.zero_le _, rfl, rfl, bal (Below.refl _ _) _, by simp [go_sem]⟩
  case round =>
    obtain ⟨k, hk, rfl, rfl, hB, hbox⟩ := hrel
    by_cases hlt : k < l.length
    · have hq := runM_lt hv (l.take k) s hs (all_take _ _ hl k)
      have hx := all_getD _ l 0 hl k hlt
      rw [inB_iff] at hx
      have Hs := hid (runM_snoc m s l k hlt)
      obtain ⟨bu, offu, hAu, hcell⟩ := hcu k hlt
      subst hAu
      have hcu' := (hB.cell (p := ⟨bu, offu + k, none⟩) (World.block_lt_of_cell? _ _ hcell)).trans hcell
      generalize hqe : runM m s (l.take k) = q at *
      generalize l.getD k 0 = x at *
      obtain ⟨xn, rfl⟩ := Int.eq_ofNat_of_zero_le hx.1
      obtain ⟨b, off, r, hA, hrc, hr⟩ := hc q hq
      subst hA
      obtain ⟨Ar, capr, rfl, hlr, hcr⟩ := hr
      have hn := nx_ok hv hq hx.1 (by omega)
      have hrl := ((valid_parts hv).2.2.2.2 q hq).1
      obtain ⟨br, offr, hAr, hrcell⟩ := hcr xn (by omega)
      subst hAr
      rw [Int.toNat_natCast] at hn
      rw [hn.2] at hrcell
      have hrc' := (hB.cell (p := ⟨b, off + q, none⟩) (World.block_lt_of_cell? _ _ hrc)).trans hrc
      have hrcell' := (hB.cell (p := ⟨br, offr + xn, none⟩) (World.block_lt_of_cell? _ _ hrcell)).trans hrcell
      rw [hrl] at hrc'
      have hin1 : (q : Int) < m.length := by omega
      have hin2 : (xn : Int) < letters m := by omega
      clear hc hcu hcr hcell hrc hrcell hqe hl
      generalize nx m q (xn : Int) = y at *
      have Hn := hid hn.2
      clear hn hrl
      go_wp2
      go_roundw
      case rel => exact ⟨k + 1, by omega, by go_num, by rw [Hs.out], hB, hbox⟩
      case measure => simp [intOf]; omega
    · go_wp2
      go_ret
      exact ⟨ret_int (by rw [List.take_of_length_le (by omega)]), hB⟩
end Go.Proofs.YtibaihchnbbokaaDoor
