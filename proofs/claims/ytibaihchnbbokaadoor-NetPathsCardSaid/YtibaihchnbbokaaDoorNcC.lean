/-
  Texts that the proof of the law stands on: N13b, K7, Q6, Q7, K3, K9, Q8, Q9, Q10, K6, K8, K10.
-/
import Derived.Test.YtibaihchnbbokaaDoorNcB
import Derived.Deep.RegionHeld
namespace Go.Proofs.YtibaihchnbbokaaDoor
open Go.RowKit Go.Shelf
attribute [local go_sem] Oper.semAt_some
set_option maxRecDepth 100000 in
set_option maxHeartbeats 60000000 in
theorem Path_no (v : Value) (m : List (List Int)) (s t : Nat) (w : World) (h : Rows w v m) (hv : validM m = true) (hs : s < m.length) (ht : t < m.length) (hex : ¬ ∃ i, i < (bfsM m s).length ∧ plB (bfsM m s) i = (t : Int)) :
    Calls Tryd.prog 44 #[.agg #[v], .int .i64 s, .int .i64 t] w (PathIs (bfsM m s) t w) := by
  have Hfirst := hid (fun A cap ab tb w => First_path A cap m s t ab tb w hv)
  generalize bfsM m s = F at *
  obtain ⟨p1, p2, p3, p4, p5⟩ := valid_parts hv
  obtain ⟨A, cap, rfl, hml, hcm⟩ := id h
  have hss : (s : Int) < m.length := by omega
  have hts : (t : Int) < m.length := by omega
  obtain ⟨b, off, r, hA, hcell, hrow⟩ := hcm 0 (by omega)
  subst hA
  have hrl := (p5 0 (by omega)).1
  obtain ⟨Ar, capr, rfl, -, -⟩ := id hrow
  rw [hrl] at hcell
  have h := h
  clear hcm hrow p5 hrl
  obtain ⟨f0, f1⟩ := two_alloc w (.cells #[.slice (some ⟨b, off, none⟩) m.length cap] 24) (.cells #[.int .i64 t] 3)
  have hX := bal (bal (Below.refl _ w) (.cells #[.slice (some ⟨b, off, none⟩) m.length cap] 24)) (.cells #[.int .i64 t] 3)
  have Hx := hid hX
  go_enter Tryd.func44, Tryd.ntmps44
  go_wp2_with fail
  generalize hWX : (w.alloc (.cells #[.slice (some ⟨b, off, none⟩) m.length cap] 24)).alloc (.cells #[.int .i64 t] 3) = X at *
  clear hX hWX
  have hX := Hx.out
  have hl1 : w.heap.size + 1 < X.heap.size := lt_of_block f1
  have hl0 : w.heap.size < X.heap.size := lt_of_block f0
  have c0 := cell_of_one f0
  have c1 := cell_of_one f1
  have hr := h.below hX
  clear f0 f1
  refine (Valid_bool _ m true _ hr hv).mono ?_
  rintro e w1 ⟨rfl, h1⟩
  have e0 := (h1.cell (p := ⟨w.heap.size, 0, none⟩) hl0).trans c0
  have e1 := (h1.cell (p := ⟨w.heap.size + 1, 0, none⟩) hl1).trans c1
  have hr1 := hr.below h1
  have hX1 := btr hX h1
  have hcell1 := (hX1.cell (p := ⟨b, off + 0, none⟩) (World.block_lt_of_cell? _ _ hcell)).trans hcell
  clear c0 c1 hcell hr h Hx
  go_upto_region 6 with fail
  have hcell0 : w1.cell? ⟨b, off, none⟩ = some (.slice Ar (letters m) capr) := hcell1
  have hw1 := h1.size
  have hfo := follows
  have hfl := follows_late
  clear hcell1 p1 p2 p3 p4 hml hv ht
  have HF := hid (fun w' ha hs' h' ht' => (Hfirst.out (some ⟨b, off, none⟩) cap w1.heap.size (w.heap.size + 1) w' ha hs' h' ht').mono (path_no hex))
  have Hex := hid hex
  clear Hfirst hex
  go_region_held (fun w' => Below w1.heap.size w1 w' ∧ w'.cell? ⟨w.heap.size, 0, none⟩ = some (.slice (some ⟨b, off, none⟩) m.length cap) ∧ w'.cell? ⟨b, off, none⟩ = some (.slice Ar (letters m) capr)) (exact held_pair e0 hcell0 (by first | exact below_dr w1 1 | assumption)) (first
    | (go_at_call 74; go_must (refine (lead_fn _ _).mono ?_; rintro e y1 ⟨rfl, hy1⟩; have k1 : Below w1.heap.size w1 y1 := (by rw [hy1]; exact bal (by first | exact Below.refl _ _ | assumption | exact Below.drew (by first | exact Below.refl _ _ | assumption)) _); have v0 := (k1.cell (p := ⟨w.heap.size, 0, none⟩) (by show w.heap.size < _; omega)).trans e0; have v1 := (k1.cell (p := ⟨w.heap.size + 1, 0, none⟩) (by show w.heap.size + 1 < _; omega)).trans e1; have v2 := (k1.cell (p := ⟨b, off, none⟩) (World.block_lt_of_cell? _ _ hcell0)).trans hcell0; have v3 : y1.cell? ⟨w1.heap.size, 0, none⟩ = some (.slice (some ⟨b, off, none⟩) m.length cap) := (by rw [hy1]; exact (Boxed.new _ _ _).cell); have v4 := hr1.below k1; clear hy1))
    | (go_at_call 73; go_must (first | refine (HF.out y1 v4 hs v3 v1).mono ?_ | refine (HF.out y1.drew (v4.below (below_dr y1 1)) hs v3 v1).mono ?_); rintro e y2 ⟨rfl, hb2⟩; have k2 : Below w1.heap.size w1 y2 := btr k1 (btr (by first | exact Below.refl _ _ | exact below_dr y1 1) hb2)))
  all_goals go_wp2
  all_goals go_ret2
  all_goals exact ⟨.inr ⟨fun j hj e => Hex.out ⟨j, hj, e⟩, rfl⟩, btr hX1 (btr k1 (btr (by first | exact Below.refl _ _ | exact below_dr y1 1) hb2))⟩
end Go.Proofs.YtibaihchnbbokaaDoor
namespace Go.Proofs.YtibaihchnbbokaaDoor
open Go.RowKit Go.Shelf
theorem reach_bits {m : List (List Int)} {a b : Nat} (h : reachM m a = reachM m b) {c : Nat} (hc : c < m.length) : reachP m a c ↔ reachP m b c := by
  have h1 := reachM_bit m a c
  rw [h, reachM_bit] at h1
  exact ⟨fun k => (h1.2 ⟨hc, k⟩).2, fun k => (h1.1 ⟨hc, k⟩).2⟩
/-- Whether a word leads from a state to another one. -/
def reachB (m : List (List Int)) (s t : Nat) : Bool := (reachL m s).getD t false
theorem reachB_iff {m : List (List Int)} (hv : validM m = true) {s : Nat} (hs : s < m.length) (t : Nat) : reachB m s t = true ↔ reachP m s t := reachL_get hv hs t
theorem Path_bad (v : Value) (m : List (List Int)) (s t : Nat) (w : World) (h : Rows w v m) (hv : validM m = true) (hs : s < m.length) (ht : t < m.length) (hr : reachB m s t = false) :
    Calls Tryd.prog 44 #[.agg #[v], .int .i64 s, .int .i64 t] w fun e w' => e = .returned (.tuple #[.slice none 0 0, .int .i64 4]) ∧ Below w.heap.size w w' := by
  have hex : ¬ ∃ i, i < (bfsM m s).length ∧ plB (bfsM m s) i = (t : Int) := by
    rintro ⟨i, hi, hp⟩
    obtain ⟨w1', w2'⟩ := bfsM_word hv hs hi
    have : reachB m s t = true := (reachB_iff hv hs t).2 ⟨_, w1', by rw [hp] at w2'; omega⟩
    rw [hr] at this; cases this
  refine (Path_no v m s t w h hv hs ht hex).mono ?_
  rintro e w1 ⟨⟨i, r, hi, hp, _⟩ | ⟨_, rfl⟩, hb⟩
  · exact absurd ⟨i, hi, hp⟩ hex
  · exact ⟨rfl, hb⟩
end Go.Proofs.YtibaihchnbbokaaDoor
namespace Go.Proofs.YtibaihchnbbokaaDoor
open Go.RowKit Go.Shelf
/-- The states reached, out of the first t. -/
def rsetTo (m : List (List Int)) (s t : Nat) : List Int := pick (fun i => (reachL m s).getD i false) t
/-- From all of the first t states that are reached, s is. -/
def goodTo (m : List (List Int)) (s t : Nat) : Bool := (List.range t).all fun i => !(reachL m s).getD i false || (reachL m i).getD s false
theorem goodTo_succ (m : List (List Int)) (s t : Nat) : goodTo m s (t + 1) = (goodTo m s t && (!(reachL m s).getD t false || (reachL m t).getD s false)) := by
  unfold goodTo
  rw [List.range_succ, List.all_append]
  simp
theorem rset_all {m : List (List Int)} (hv : validM m = true) {s : Nat} (hs : s < m.length) : rsetTo m s m.length = intsOf (elems (reachM m s)) := by
  have hm : m.length ≤ 64 := by have := (valid_parts hv).2.1; omega
  rw [elems_range (reachM_lt hm s) hm, rsetTo, pick, intsOf]
  congr 1
  apply List.filter_congr
  intro t ht
  rw [Bool.eq_iff_iff, reachL_get hv hs, reachM_bit]
  exact ⟨fun h => ⟨List.mem_range.1 ht, h⟩, fun h => h.2⟩
theorem filter_head {p : Nat → Bool} {n x : Nat} {l : List Nat} (h : (List.range n).filter p = x :: l) : ∀ i, i < n → p i = true → ¬ i < x := by
  intro i hi hp hlt
  have hm : i ∈ (List.range n).filter p := List.mem_filter.2 ⟨List.mem_range.2 hi, hp⟩
  have hs : ((List.range n).filter p).Pairwise (· < ·) := List.Pairwise.filter _ List.pairwise_lt_range
  rw [h] at hm hs
  rcases List.mem_cons.1 hm with e | e
  · omega
  · have := (List.pairwise_cons.1 hs).1 i e
    omega
/-- What the reference asks of a sink. -/
theorem sinkAt_ref {m : List (List Int)} (hv : validM m = true) {s : Nat} (hs : s < m.length) : sinkAt m s = (goodTo m s m.length && decide ((rsetTo m s m.length).getD 0 0 = (s : Int))) := by
  have hm : m.length ≤ 64 := by have := (valid_parts hv).2.1; omega
  have hself : s ∈ (List.range m.length).filter fun i => (reachL m s).getD i false := List.mem_filter.2 ⟨List.mem_range.2 hs, (reachL_get hv hs s).2 (reachP_refl m s)⟩
  rw [Bool.eq_iff_iff, Bool.and_eq_true, decide_eq_true_eq, sinkAt_iff hm, rsetTo, pick]
  unfold goodTo
  rw [List.all_eq_true]
  obtain ⟨x, l, hxl⟩ : ∃ x l, (List.range m.length).filter (fun i => (reachL m s).getD i false) = x :: l := by
    cases h : (List.range m.length).filter fun i => (reachL m s).getD i false with
    | nil => rw [h] at hself; cases hself
    | cons x l => exact ⟨x, l, rfl⟩
  have hx : x ∈ (List.range m.length).filter fun i => (reachL m s).getD i false := by rw [hxl]; simp
  obtain ⟨hx1, hx2⟩ := List.mem_filter.1 hx
  have hx1' := List.mem_range.1 hx1
  have hhead := filter_head hxl
  rw [hxl, List.map_cons, List.getD_cons_zero]
  constructor
  · intro h
    refine ⟨fun i hi => ?_, ?_⟩
    · have hi' := List.mem_range.1 hi
      cases hr : (reachL m s).getD i false with
      | false => rfl
      | true =>
        have h1 := (h i hi' ((reachL_get hv hs i).1 hr)).2
        have h2 : (reachL m i).getD s false = true := (reachL_get hv hi' s).2 ((reach_bits h1 hs).2 (reachP_refl m s))
        rw [h2]; rfl
    · have h1 := (h x hx1' ((reachL_get hv hs x).1 hx2)).1
      have h2 := hhead s hs ((reachL_get hv hs s).2 (reachP_refl m s))
      omega
  · rintro ⟨h1, h2⟩ t ht hr
    have hrt := (reachL_get hv hs t).2 hr
    have h3 := hhead t ht hrt
    have h4 := h1 t (List.mem_range.2 ht)
    rw [hrt] at h4
    have h5 := (reachL_get hv ht s).1 (by simpa using h4)
    exact ⟨by omega, reachM_same h5 hr⟩
theorem rset_len (m : List (List Int)) (s t : Nat) : (rsetTo m s t).length ≤ t := pick_length _ _
theorem rset_pos {m : List (List Int)} (hv : validM m = true) {s : Nat} (hs : s < m.length) : 0 < (rsetTo m s m.length).length := by
  have hself : s ∈ (List.range m.length).filter fun i => (reachL m s).getD i false := List.mem_filter.2 ⟨List.mem_range.2 hs, (reachL_get hv hs s).2 (reachP_refl m s)⟩
  rw [rsetTo, pick, List.length_map]
  exact List.length_pos_of_mem hself
end Go.Proofs.YtibaihchnbbokaaDoor
namespace Go.Proofs.YtibaihchnbbokaaDoor
open Go.RowKit Go.Shelf
theorem own_below {w w' : World} {base : Nat} {e : TypeId} {s : Nat} {v : Value} {n : Nat} {xs : List Value} (h : w.ownsRow base e s v n xs) (k : Below w.heap.size w w') : w'.ownsRow base e s v n xs :=
  ownsRow_same h fun g hg => k.block g (row_blk h g hg).2
set_option maxRecDepth 100000 in
set_option maxHeartbeats 4000000 in
theorem rSinks_any (v : Value) (m : List (List Int)) (w : World) (h : Rows w v m) (hv : validM m = true) :
    Calls Tryd.prog 51 #[.agg #[v]] w fun e w' => ∃ r, e = .returned r ∧ Rows w' r (sinksTo m m.length) ∧ Below w.heap.size w w' := by
  obtain ⟨i0, hi, hz0, hz1, hz2⟩ := info_parts infoRow
  obtain ⟨j0, hj, hy0, hy1, hy2⟩ := info_parts infoInt
  obtain ⟨p1, p2, p3, p4, p5⟩ := valid_parts hv
  obtain ⟨A, cap, rfl, hml, -⟩ := id h
  have hX := bal (Below.refl _ w) (.cells #[.slice A m.length cap] 24)
  have hbx := (Boxed.new w 24 (.slice A m.length cap)).cell
  have hr := h.below hX
  clear p5
  go_enter Tryd.func51, Tryd.ntmps51
  go_wp2_with fail
  generalize hWX : w.alloc (.cells #[.slice A m.length cap] 24) = X at *
  have hxs : X.heap.size = w.heap.size + 1 := by rw [← hWX]; simp
  clear hWX
  go_loopw [3, 4] (fun ov sv wr => ∃ s : Nat, s ≤ m.length ∧ sv = .int .i64 s ∧ MRows wr X.heap.size ov (sinksTo m s) ∧ Below X.heap.size X wr) (fun _ s _ => m.length - (intOf s).toNat)
  case atStart => exact ⟨0, Nat.zero_le _, rfl, MRows.nil _ _, Below.refl _ _⟩
  case round =>
    obtain ⟨s, hs, rfl, hM, hB⟩ := hrel
    have cr := (hB.cell (p := ⟨w.heap.size, 0, none⟩) (by show w.heap.size < X.heap.size; omega)).trans hbx
    have hrr := hr.below hB
    have hsz := hB.size
    have hlen := sinksTo_len m s
    obtain ⟨xs, hxo, hxx⟩ := id hM
    have hvblk := row_blk hxo
    obtain ⟨vA, vc, rfl⟩ := ownsRow_slice hxo
    have HM := hid hM
    clear hM hxo hxx
    by_cases hlt : s < m.length
    · have hss : (s : Int) < m.length := by omega
      have hsucc := hid (sinksTo_succ m s)
      have href := hid (sinkAt_ref hv hlt)
      have hrset := hid (rset_all hv hlt)
      have hpos := rset_pos hv hlt
      have hrl := reachL_len m s
      obtain ⟨wo, rfl⟩ : ∃ wo : World, wo = wr := ⟨_, rfl⟩
      go_wp2_with fail
      refine (rReach_any _ m s _ hrr hv hlt).mono ?_
      rintro e w2 ⟨r, rfl, hr2, hb2⟩
      rw [hrl] at hr2
      obtain ⟨gr, cr', rfl⟩ := ownsRow_pos hr2 (by omega)
      have hB2 := hB.trans (hb2.mono hsz)
      have cr2 := (hb2.cell (p := ⟨w.heap.size, 0, none⟩) (World.block_lt_of_cell? _ _ cr)).trans cr
      have hrr2 := hrr.below hb2
      have hgr := (ownq_lt hr2).2
      have Hr2 := hid hr2
      have HM2 := hid (HM.out.below hb2)
      have hs2 := hb2.size
      clear hr2 HM cr hrr
      go_wp2_with fail
      go_loopw [5, 7, 8] (fun ev gv tv wr => ∃ t : Nat, t ≤ m.length ∧ tv = .int .i64 t ∧ gv = .bool (goodTo m s t) ∧ wr.ownsRow w2.heap.size 3 1 ev (rsetTo m s t).length ((rsetTo m s t).map fun x => .int .i64 x) ∧ Below w2.heap.size w2 wr) (fun _ _ t _ => m.length - (intOf t).toNat)
      case atStart => exact ⟨0, Nat.zero_le _, rfl, rfl, ⟨rfl, .inl ⟨rfl, rfl⟩⟩, Below.refl _ _⟩
      case round =>
        obtain ⟨t, ht, rfl, rfl, hO, hBt⟩ := hrel
        have cr3 := (hBt.cell (p := ⟨w.heap.size, 0, none⟩) (World.block_lt_of_cell? _ _ cr2)).trans cr2
        have hrr3 := hrr2.below hBt
        have hts := hBt.size
        have hrtl := rset_len m s t
        by_cases htl : t < m.length
        · have htls : (t : Int) < m.length := by omega
          have hcE := (owns_block Hr2.out (hBt.block _ hgr)).cellAt t (by omega)
          rw [getD_cell (by omega)] at hcE
          have hgs := hid (goodTo_succ m s t)
          have hps := hid (pick_succ (fun i => (reachL m s).getD i false) t)
          have hset := hid (show rsetTo m s (t + 1) = pick (fun i => (reachL m s).getD i false) (t + 1) from rfl)
          have hset0 := hid (show rsetTo m s t = pick (fun i => (reachL m s).getD i false) t from rfl)
          cases hb : (reachL m s).getD t false with
          | false =>
            rw [hb] at hcE hgs
            have hg2 := hid (show goodTo m s (t + 1) = goodTo m s t by rw [hgs.out]; simp)
            have hp2 := hps.out
            simp only [hb] at hp2
            rw [if_neg (by decide), List.append_nil] at hp2
            have hp3 := hid (show (rsetTo m s (t + 1)).map (fun x => Value.int .i64 x) = (rsetTo m s t).map (fun x => Value.int .i64 x) by rw [hset.out, hset0.out]; exact hp2)
            have hpl := hid (show (rsetTo m s (t + 1)).length = (rsetTo m s t).length by have := congrArg List.length hp3.out; simpa using this)
            have HO := hid hO
            clear hO hp2 hps hgs hset hset0 hb
            generalize goodTo m s t = g0 at *
            generalize rsetTo m s t = R at *
            go_wp2
            go_roundw
            case rel => exact ⟨t + 1, by omega, by go_num, by rw [hg2.out], by rw [hp3.out, hpl.out]; exact HO.out, hBt⟩
            case measure => simp [intOf]; omega
          | true =>
            rw [hb] at hcE hgs
            have hp2 := hps.out
            simp only [hb, if_true] at hp2
            have hp3 := hid (show (rsetTo m s (t + 1)).map (fun x => Value.int .i64 x) = (rsetTo m s t).map (fun x => Value.int .i64 x) ++ [.int .i64 (t : Int)] by rw [hset.out, hset0.out]; exact hp2)
            have hpl := hid (show (rsetTo m s (t + 1)).length = (rsetTo m s t).length + 1 by have := congrArg List.length hp3.out; simpa using this)
            have hrl2 := reachL_len m t
            clear hp2 hps hset hset0 hb
            cases hg0 : goodTo m s t with
            | true =>
              rw [hg0] at hgs
              have hg2 := hid (show goodTo m s (t + 1) = (reachL m t).getD s false by rw [hgs.out]; simp)
              clear hgs hg0
              generalize rsetTo m s t = R at *
              go_wp2_with (at_builtin; refine wpList_append_own_at _ rfl _ _ 25 rfl w2.heap.size 3 j0 (.int .i64 0) 1 8 Tryd.underlying25 hj hy0 hy1 hy2 rfl (by decide) _ _ _ rfl (hO.alloc _) ⟨wr.heap.size, 0, none⟩ 1 1 [.int .i64 (t : Int)] rfl rfl (cell_one_new _ _ _) (by simp [Value.oneCell']) (by unfold maxLen; omega) (by omega) (by simp; omega) ?_; intro v' w5 hown' hgrow' _ hat; have hB5 := appended_below hBt hO hts hgrow'; have cr5 := (hB5.cell (p := ⟨w.heap.size, 0, none⟩) (World.block_lt_of_cell? _ _ cr2)).trans cr2; have hrr5 := hrr2.below hB5)
              refine (rReach_any _ m t _ hrr5 hv htl).mono ?_
              rintro e w6 ⟨r6, rfl, hr6, h6⟩
              rw [hrl2] at hr6
              obtain ⟨g6, c6, rfl⟩ := ownsRow_pos hr6 (by omega)
              have hc6 := hr6.cellAt s (by omega)
              rw [getD_cell (by omega)] at hc6
              have HO6 := hid (own_below hown' h6)
              have hB6 := hB5.trans (h6.mono hB5.size)
              generalize (reachL m t).getD s false = b2 at *
              clear hr6 hown' hO
              go_wp2
              go_roundw
              case rel => exact ⟨t + 1, by omega, by go_num, by rw [hg2.out], by rw [hp3.out, hpl.out]; exact HO6.out, hB6⟩
              case measure => simp [intOf]; omega
            | false =>
              rw [hg0] at hgs
              have hg2 := hid (show goodTo m s (t + 1) = false by rw [hgs.out]; simp)
              clear hgs hg0
              generalize rsetTo m s t = R at *
              go_wp2_with (at_builtin; refine wpList_append_own_at _ rfl _ _ 25 rfl w2.heap.size 3 j0 (.int .i64 0) 1 8 Tryd.underlying25 hj hy0 hy1 hy2 rfl (by decide) _ _ _ rfl (hO.alloc _) ⟨wr.heap.size, 0, none⟩ 1 1 [.int .i64 (t : Int)] rfl rfl (cell_one_new _ _ _) (by simp [Value.oneCell']) (by unfold maxLen; omega) (by omega) (by simp; omega) ?_; intro v' w5 hown' hgrow' _ hat; have hB5 := appended_below hBt hO hts hgrow'; have cr5 := (hB5.cell (p := ⟨w.heap.size, 0, none⟩) (World.block_lt_of_cell? _ _ cr2)).trans cr2; have hrr5 := hrr2.below hB5)
              go_roundw
              case rel => exact ⟨t + 1, by omega, by go_num, by rw [hg2.out], by rw [hp3.out, hpl.out]; exact hown', hB5⟩
              case measure => simp [intOf]; omega
        · obtain rfl : t = m.length := by omega
          have htls : ¬ ((m.length : Nat) : Int) < m.length := by omega
          have hBw := hB2.trans (hBt.mono hB2.size)
          have HM3 := hid (HM2.out.below hBt)
          cases hg0 : goodTo m s m.length with
          | false =>
            have hno := hid (show sinksTo m (s + 1) = sinksTo m s by rw [hsucc.out, href.out, hg0]; simp)
            have HO := hid hO
            clear hO hg0 href hsucc
            go_wp2
            go_roundw
            case rel => exact ⟨s + 1, by omega, by go_num, by rw [hno.out]; exact HM3.out, hBw⟩
            case measure => simp [intOf]; omega
          | true =>
            have href1 := hid (show sinkAt m s = decide ((rsetTo m s m.length).getD 0 0 = (s : Int)) by rw [href.out, hg0]; simp)
            clear hg0 href
            obtain ⟨gs, cs', rfl⟩ := ownsRow_pos' hO (by omega)
            have hc0 := hO.cellAt 0 (by omega)
            rw [getI_cell hpos] at hc0
            have hgs := (ownq_lt hO).1
            by_cases heq : (rsetTo m s m.length).getD 0 0 = (s : Int)
            · have hyes := hid (show sinksTo m (s + 1) = sinksTo m s ++ [rsetTo m s m.length] by rw [hsucc.out, href1.out, if_pos (by simpa using heq), hrset.out])
              rw [heq] at hc0
              obtain ⟨xs3, hxo3, hxx3⟩ := id HM3.out
              have hoff : IntsOff wr X.heap.size (Value.slice vA (sinksTo m s).length vc).ownBlock (.slice (some ⟨gs, 0, none⟩) (rsetTo m s m.length).length cs') (rsetTo m s m.length) :=
                off_of_own hO rfl (by omega) (fun e => by have := (hvblk gs e.symm).2; omega) (by unfold big; omega)
              clear heq hO
              generalize rsetTo m s m.length = R at *
              generalize hLL : sinksTo m s = LL at *
              have HLL := hid hLL
              clear hLL
              go_wp2_with (at_builtin; refine wpList_append_own_at _ rfl _ _ 22 rfl X.heap.size 25 i0 (.slice none 0 0) 1 24 Tryd.underlying22 hi hz0 hz1 hz2 rfl (by decide) (.slice vA LL.length vc) LL.length xs3 rfl (hxo3.alloc _) ⟨wr.heap.size, 0, none⟩ 1 1 [.slice (some ⟨gs, 0, none⟩) R.length cs'] rfl rfl (cell_one_new _ _ _) (by simp [Value.oneCell']) (by unfold maxLen; omega) (by omega) (by simp; omega) ?_; intro v' w6 hown' hgrow' _ hat)
              go_roundw
              case rel => exact ⟨s + 1, by omega, by go_num, by
                rw [hyes.out]
                exact MRows.appended (W := wr.alloc (.cells #[.slice (some ⟨gs, 0, none⟩) R.length cs'] 25)) (base := X.heap.size) (v := .slice vA LL.length vc) (m := LL) (l := R) (xs := xs3) (u := .slice (some ⟨gs, 0, none⟩) R.length cs')
                  (fun i hi => (hxx3 i hi).kept (fun q _ hq _ => Below.heap_alloc _ _ _ hq) (fun _ _ h => h)) (by have := hxo3.1; omega)
                  (hoff.kept (fun q _ hq _ => Below.heap_alloc _ _ _ hq) (fun _ _ h => h)) hown' hgrow' hat, (hBw.alloc (by have := hBw.size; omega) _).grown hgrow' (by simp; omega) (fun q hq => (hvblk q hq).1)⟩
              case measure => simp [intOf]; omega
            · have hne : ((rsetTo m s m.length).getD 0 0 == (s : Int)) = false := by rw [beq_eq_false_iff_ne]; exact heq
              have hno := hid (show sinksTo m (s + 1) = sinksTo m s by rw [hsucc.out, href1.out, if_neg (by simpa using heq)])
              have HO := hid hO
              clear hO heq href1 hsucc
              generalize (rsetTo m s m.length).getD 0 0 = x0 at *
              generalize (rsetTo m s m.length).length = l0 at *
              go_wp2
              go_roundw
              case rel => exact ⟨s + 1, by omega, by go_num, by rw [hno.out]; exact HM3.out, hBw⟩
              case measure => simp [intOf]; omega
    · obtain rfl : s = m.length := by omega
      have hss : ¬ ((m.length : Nat) : Int) < m.length := by omega
      go_wp2
      go_ret
      exact ⟨_, rfl, HM.out.rows (by unfold big; omega), hX.trans (hB.mono hX.size)⟩
end Go.Proofs.YtibaihchnbbokaaDoor
namespace Go.Proofs.YtibaihchnbbokaaDoor
open Go.RowKit Go.Shelf
theorem Sinks_as (v : Value) (m L : List (List Int)) (w : World) (hT : Tab w) (h : Rows w v m) (hv : validM m = true) (hL : Hid (sinksTo m m.length = L)) :
    Calls Tryd.prog 48 #[.agg #[v]] w fun e w' => ∃ A c, e = .returned (.tuple #[.slice A L.length c, .int .i64 0]) ∧ Rows w' (.slice A L.length c) L ∧ Below w.heap.size w w' := by
  rw [← hL.out]
  refine (Sinks_ok v m w hT h hv).mono ?_
  rintro e w1 ⟨r, rfl, hr, hb⟩
  obtain ⟨A, c, rfl, _⟩ := id hr
  exact ⟨A, c, rfl, hr, hb⟩
end Go.Proofs.YtibaihchnbbokaaDoor
namespace Go.Proofs.YtibaihchnbbokaaDoor
open Go.RowKit Go.Shelf
set_option maxRecDepth 100000 in
set_option maxHeartbeats 1000000 in
theorem Sinks_form (v : Value) (m : List (List Int)) (w : World) (h : Rows w v m) (hv : validM m = false) :
    Calls Tryd.prog 48 #[.agg #[v]] w fun e w' => e = .returned (.tuple #[.slice none 0 0, .int .i64 1]) ∧ Below w.heap.size w w' := by
  obtain ⟨A, cap, rfl, hml, -⟩ := id h
  have hr := h.alloc (.cells #[.slice A m.length cap] 24)
  go_enter Tryd.func48, Tryd.ntmps48
  go_wp2_with fail
  go_step3
  go_wp2_with fail
  refine (Valid_bool _ m false _ hr hv).mono ?_
  rintro e w1 ⟨rfl, h1⟩
  go_wp2
  (try rw [Exit.noGoto_ret])
  go_ret2
  exact ⟨rfl, btr (bal (Below.refl _ _) _) h1⟩
set_option maxRecDepth 100000 in
set_option maxHeartbeats 2000000 in
theorem sinks_form (v : Value) (m : List (List Int)) (w : World) (hT : Tab w) (h : Rows w v m) (hv : validM m = false) :
    Calls Tryd.prog 11 #[.agg #[v]] w fun e w' => e = .returned (.bool true) ∧ Below w.heap.size w w' := by
  have hbad : BadM m 1 := .inl ⟨hv, rfl⟩
  obtain ⟨A, cap, rfl, hml, -⟩ := id h
  have hX := bal (Below.refl _ w) (.cells #[.slice A m.length cap] 24)
  have hbx := (Boxed.new w 24 (.slice A m.length cap)).cell
  have hr := h.below hX
  have hTX := hT.on hX
  go_enter Tryd.func11, Tryd.ntmps11
  go_wp2_with fail
  refine (Sinks_form _ m _ hr hv).mono ?_
  rintro e w1 ⟨rfl, h1⟩
  have c1 := (h1.cell (p := ⟨w.heap.size, 0, none⟩) (World.block_lt_of_cell? _ _ hbx)).trans hbx
  go_wp2_with fail
  refine (Period_bad _ m 1 _ (hr.below h1) hbad).mono ?_
  rintro e w2 ⟨rfl, h2⟩
  have B2 := btr h1 h2
  have c2 := (h2.cell (p := ⟨w.heap.size, 0, none⟩) (World.block_lt_of_cell? _ _ c1)).trans c1
  go_wp2_with fail
  refine (Classes_bad _ m 1 _ (hr.below B2) hbad).mono ?_
  rintro e w3 ⟨rfl, h3⟩
  have B3 := btr B2 h3
  have c3 := (h3.cell (p := ⟨w.heap.size, 0, none⟩) (World.block_lt_of_cell? _ _ c2)).trans c2
  clear c1 c2 hbx
  go_wp2_with fail
  refine (rValid_bool _ m false _ (hr.below B3) hv).mono ?_
  rintro e w4 ⟨rfl, h4⟩
  have B4 := btr B3 h4
  have hT4 := hTX.on B4
  go_wp2_with fail
  refine (awake2_any _ hT4).mono ?_
  rintro e w5 ⟨rfl, h5⟩
  go_wp2
  go_ret
  exact ⟨rfl, btr hX (btr B4 h5)⟩
theorem rSinks_as (v : Value) (m L : List (List Int)) (w : World) (h : Rows w v m) (hv : validM m = true) (hL : Hid (sinksTo m m.length = L)) :
    Calls Tryd.prog 51 #[.agg #[v]] w fun e w' => ∃ r, e = .returned r ∧ Rows w' r L ∧ Below w.heap.size w w' := by
  rw [← hL.out]; exact rSinks_any v m w h hv
theorem rConnected_bool (v : Value) (m : List (List Int)) (b : Bool) (w : World) (h : Rows w v m) (hv : validM m = true) (hb : connM m = b) :
    Calls Tryd.prog 46 #[.agg #[v]] w fun e w' => e = .returned (.bool b) ∧ Below w.heap.size w w' := by
  subst hb; exact rConnected_any v m w h hv
theorem rPeriod_as (v : Value) (m : List (List Int)) (p : Nat) (w : World) (h : Rows w v m) (hv : validM m = true) (hp : perR m (3 * m.length) = p) :
    Calls Tryd.prog 52 #[.agg #[v]] w fun e w' => e = .returned (.int .i64 (p : Nat)) ∧ Below w.heap.size w w' := by
  subst hp; exact rPeriod_any v m w h hv
theorem rClasses_as (v : Value) (m : List (List Int)) (C : List Int) (w : World) (h : Rows w v m) (hv : validM m = true) (hc : connM m = true) (hC : Hid (clsM m = C)) :
    Calls Tryd.prog 53 #[.agg #[v]] w fun e w' => ∃ r, e = .returned r ∧ Ints w' r C ∧ Below w.heap.size w w' := by
  rw [← hC.out]; exact rClasses_any v m w h hv hc
set_option maxRecDepth 100000 in
set_option maxHeartbeats 2000000 in
theorem sinks_arg (v : Value) (m : List (List Int)) (w : World) (hT : Tab w) (h : Rows w v m) (hv : validM m = true) (hc : connM m = false) :
    Calls Tryd.prog 11 #[.agg #[v]] w fun e w' => e = .returned (.bool true) ∧ Below w.heap.size w w' := by
  have hbad : BadM m 2 := .inr ⟨hv, hc, rfl⟩
  obtain ⟨A, cap, rfl, hml, -⟩ := id h
  obtain ⟨SL, HSL⟩ : ∃ L, Hid (sinksTo m m.length = L) := ⟨_, hid rfl⟩
  have hX := bal (Below.refl _ w) (.cells #[.slice A m.length cap] 24)
  have hbx := (Boxed.new w 24 (.slice A m.length cap)).cell
  have hr := h.below hX
  have hTX := hT.on hX
  go_enter Tryd.func11, Tryd.ntmps11
  go_wp2_with fail
  refine (Sinks_as _ m SL _ hTX hr hv HSL).mono ?_
  rintro e w1 ⟨A1, q1, rfl, i1, h1⟩
  have c1 := (h1.cell (p := ⟨w.heap.size, 0, none⟩) (World.block_lt_of_cell? _ _ hbx)).trans hbx
  go_wp2_with fail
  refine (Period_bad _ m 2 _ (hr.below h1) hbad).mono ?_
  rintro e w2 ⟨rfl, h2⟩
  have B2 := btr h1 h2
  have c2 := (h2.cell (p := ⟨w.heap.size, 0, none⟩) (World.block_lt_of_cell? _ _ c1)).trans c1
  go_wp2_with fail
  refine (Classes_bad _ m 2 _ (hr.below B2) hbad).mono ?_
  rintro e w3 ⟨rfl, h3⟩
  have B3 := btr B2 h3
  have c3 := (h3.cell (p := ⟨w.heap.size, 0, none⟩) (World.block_lt_of_cell? _ _ c2)).trans c2
  clear c1 c2 hbx
  go_wp2_with fail
  refine (rValid_bool _ m true _ (hr.below B3) hv).mono ?_
  rintro e w4 ⟨rfl, h4⟩
  have B4 := btr B3 h4
  have c4 := (h4.cell (p := ⟨w.heap.size, 0, none⟩) (World.block_lt_of_cell? _ _ c3)).trans c3
  have i4 := i1.below (btr h2 (btr h3 h4))
  clear c3 i1
  go_wp2_with fail
  refine (rSinks_as _ m SL _ (hr.below B4) hv HSL).mono ?_
  rintro e w5 ⟨r5, rfl, i5, h5⟩
  have B5 := btr B4 h5
  have c5 := (h5.cell (p := ⟨w.heap.size, 0, none⟩) (World.block_lt_of_cell? _ _ c4)).trans c4
  have i45 := i4.below h5
  obtain ⟨A5, q5, rfl, _⟩ := id i5
  clear c4 i4
  go_wp2_with fail
  refine (rSames_eq _ _ SL _ i45 i5).mono ?_
  rintro e w6 ⟨rfl, h6⟩
  have B6 := btr B5 h6
  have c6 := (h6.cell (p := ⟨w.heap.size, 0, none⟩) (World.block_lt_of_cell? _ _ c5)).trans c5
  clear c5 i45 i5
  go_wp2_with fail
  refine (rConnected_bool _ m false _ (hr.below B6) hv hc).mono ?_
  rintro e w7 ⟨rfl, h7⟩
  have B7 := btr B6 h7
  have hT7 := hTX.on B7
  go_wp2_with fail
  refine (awake2_any _ hT7).mono ?_
  rintro e w8 ⟨rfl, h8⟩
  go_wp2
  go_ret
  exact ⟨rfl, btr hX (btr B7 h8)⟩
set_option maxRecDepth 100000 in
set_option maxHeartbeats 2000000 in
theorem sinks_ok (v : Value) (m : List (List Int)) (w : World) (hT : Tab w) (h : Rows w v m) (hv : validM m = true) (hc : connM m = true) :
    Calls Tryd.prog 11 #[.agg #[v]] w fun e w' => e = .returned (.bool true) ∧ Below w.heap.size w w' := by
  obtain ⟨A, cap, rfl, hml, -⟩ := id h
  obtain ⟨SL, HSL⟩ : ∃ L, Hid (sinksTo m m.length = L) := ⟨_, hid rfl⟩
  obtain ⟨C, HC⟩ : ∃ L, Hid (clsM m = L) := ⟨_, hid rfl⟩
  have hper := hid (fun v w h => Period_ok v m w h hv hc)
  have hpr := perR_eq hv hc
  have hcl := clsM_len m
  rw [HC.out] at hcl
  have hX := bal (Below.refl _ w) (.cells #[.slice A m.length cap] 24)
  have hbx := (Boxed.new w 24 (.slice A m.length cap)).cell
  have hr := h.below hX
  have hTX := hT.on hX
  generalize perM m = d at *
  have hpr := hid hpr
  go_enter Tryd.func11, Tryd.ntmps11
  go_wp2_with fail
  refine (Sinks_as _ m SL _ hTX hr hv HSL).mono ?_
  rintro e w1 ⟨A1, q1, rfl, i1, h1⟩
  have c1 := (h1.cell (p := ⟨w.heap.size, 0, none⟩) (World.block_lt_of_cell? _ _ hbx)).trans hbx
  go_wp2_with fail
  refine (hper.out _ _ (hr.below h1)).mono ?_
  rintro e w2 ⟨rfl, h2⟩
  have B2 := btr h1 h2
  have c2 := (h2.cell (p := ⟨w.heap.size, 0, none⟩) (World.block_lt_of_cell? _ _ c1)).trans c1
  go_wp2_with fail
  refine (Classes_as _ m C _ (hr.below B2) hv hc HC).mono ?_
  rintro e w3 ⟨A3, q3, rfl, i3, h3⟩
  have B3 := btr B2 h3
  have c3 := (h3.cell (p := ⟨w.heap.size, 0, none⟩) (World.block_lt_of_cell? _ _ c2)).trans c2
  clear c1 c2 hbx
  go_wp2_with fail
  refine (rValid_bool _ m true _ (hr.below B3) hv).mono ?_
  rintro e w4 ⟨rfl, h4⟩
  have B4 := btr B3 h4
  have c4 := (h4.cell (p := ⟨w.heap.size, 0, none⟩) (World.block_lt_of_cell? _ _ c3)).trans c3
  have i4 := i1.below (btr h2 (btr h3 h4))
  have j4 := i3.below h4
  clear c3 i1 i3
  go_wp2_with fail
  refine (rSinks_as _ m SL _ (hr.below B4) hv HSL).mono ?_
  rintro e w5 ⟨r5, rfl, i5, h5⟩
  have B5 := btr B4 h5
  have c5 := (h5.cell (p := ⟨w.heap.size, 0, none⟩) (World.block_lt_of_cell? _ _ c4)).trans c4
  have i45 := i4.below h5
  have j5 := j4.below h5
  obtain ⟨A5, q5, rfl, _⟩ := id i5
  clear c4 i4 j4
  go_wp2_with fail
  refine (rSames_eq _ _ SL _ i45 i5).mono ?_
  rintro e w6 ⟨rfl, h6⟩
  have B6 := btr B5 h6
  have c6 := (h6.cell (p := ⟨w.heap.size, 0, none⟩) (World.block_lt_of_cell? _ _ c5)).trans c5
  have j6 := j5.below h6
  clear c5 i45 i5 j5
  go_wp2_with fail
  refine (rConnected_bool _ m true _ (hr.below B6) hv hc).mono ?_
  rintro e w7 ⟨rfl, h7⟩
  have B7 := btr B6 h7
  have c7 := (h7.cell (p := ⟨w.heap.size, 0, none⟩) (World.block_lt_of_cell? _ _ c6)).trans c6
  have j7 := j6.below h7
  clear c6 j6
  go_wp2_with fail
  refine (rPeriod_as _ m d _ (hr.below B7) hv hpr.out).mono ?_
  rintro e w8 ⟨rfl, h8⟩
  have B8 := btr B7 h8
  have c8 := (h8.cell (p := ⟨w.heap.size, 0, none⟩) (World.block_lt_of_cell? _ _ c7)).trans c7
  have j8 := j7.below h8
  clear c7 j7
  go_wp2_with fail
  refine (rClasses_as _ m C _ (hr.below B8) hv hc HC).mono ?_
  rintro e w9 ⟨r9, rfl, i9, h9⟩
  have B9 := btr B8 h9
  have j9 := j8.below h9
  have hT9 := hTX.on B9
  obtain ⟨A9, q9, rfl, _⟩ := id i9
  rw [hcl] at i9 ⊢
  clear c8 j8
  go_wp2_with fail
  refine (rSame_eq _ _ C _ j9 i9).mono ?_
  rintro e w10 ⟨rfl, h10⟩
  have B10 := btr B9 h10
  have hT10 := hTX.on B10
  go_wp2_with fail
  refine (awake2_any _ hT10).mono ?_
  rintro e w11 ⟨rfl, h11⟩
  go_wp2
  go_ret
  exact ⟨rfl, btr hX (btr B10 h11)⟩
theorem netSinks_any (v : Value) (m : List (List Int)) (w : World) (hT : Tab w) (h : Rows w v m) :
    Calls Tryd.prog 11 #[.agg #[v]] w fun e w' => e = .returned (.bool true) ∧ Below w.heap.size w w' := by
  cases hv : validM m with
  | false => exact sinks_form v m w hT h hv
  | true =>
    cases hc : connM m with
    | false => exact sinks_arg v m w hT h hv hc
    | true => exact sinks_ok v m w hT h hv hc
end Go.Proofs.YtibaihchnbbokaaDoor
namespace Go.Proofs.YtibaihchnbbokaaDoor
open Go.RowKit Go.Shelf
/-- Behind k rounds: the length of a shortest word from s to t, or -1. -/
def lenAt (m : List (List Int)) (t : Nat) : Nat → Nat → Int
  | 0, s => if s = t then 0 else -1
  | k + 1, s => if 0 ≤ lenAt m t k s then lenAt m t k s else if (List.range (letters m)).any (fun x : Nat => lenAt m t k (nx m s (x : Int)) == (k : Int)) then (k : Int) + 1 else -1
/-- A shortest word has j letters. -/
def distP (m : List (List Int)) (s j t : Nat) : Prop := exactP m s j t ∧ ∀ i, i < j → ¬ exactP m s i t
theorem exactP_cons {m : List (List Int)} {s x j t : Nat} (hx : x < letters m) (h : exactP m (nx m s (x : Int)) j t) : exactP m s (j + 1) t := by
  obtain ⟨u, h1, h2, h3⟩ := h
  refine ⟨(x : Int) :: u, ?_, by simp [h2], h3⟩
  rw [List.all_cons, h1, Bool.and_true]
  exact inB_true ⟨by omega, by omega⟩
theorem exactP_head {m : List (List Int)} {s j t : Nat} (h : exactP m s (j + 1) t) : ∃ x, x < letters m ∧ exactP m (nx m s (x : Int)) j t := by
  obtain ⟨u, h1, h2, h3⟩ := h
  cases u with
  | nil => simp at h2
  | cons y u =>
    obtain ⟨hy, hu⟩ := all_cons_parts h1
    obtain ⟨x, rfl⟩ := Int.eq_ofNat_of_zero_le hy.1
    exact ⟨x, by omega, u, hu, by simpa using h2, h3⟩
theorem lenAt_spec (m : List (List Int)) (t : Nat) : ∀ k s, (lenAt m t k s = -1 ∧ ∀ i, i ≤ k → ¬ exactP m s i t) ∨ ∃ j : Nat, j ≤ k ∧ lenAt m t k s = j ∧ distP m s j t
  | 0, s => by
    by_cases e : s = t
    · subst e
      exact .inr ⟨0, Nat.le_refl _, by simp [lenAt], ⟨[], rfl, rfl, rfl⟩, fun i hi => by omega⟩
    · refine .inl ⟨by simp [lenAt, e], fun i hi h => ?_⟩
      obtain rfl : i = 0 := by omega
      obtain ⟨u, _, h2, h3⟩ := h
      obtain rfl : u = [] := List.length_eq_zero_iff.1 h2
      exact e h3
  | k + 1, s => by
    have ih := lenAt_spec m t k
    rcases ih s with ⟨h1, h2⟩ | ⟨j, h1, h2, h3⟩
    · have hneg : ¬ (0 : Int) ≤ lenAt m t k s := by rw [h1]; omega
      cases hany : (List.range (letters m)).any (fun x : Nat => lenAt m t k (nx m s (x : Int)) == (k : Int)) with
      | true =>
        obtain ⟨x, hx, he⟩ := List.any_eq_true.1 hany
        have hx' := List.mem_range.1 hx
        have he' : lenAt m t k (nx m s (x : Int)) = (k : Int) := beq_iff_eq.1 he
        rcases ih (nx m s (x : Int)) with ⟨a1, _⟩ | ⟨j, a1, a2, a3⟩
        · omega
        · obtain rfl : j = k := by omega
          refine .inr ⟨j + 1, Nat.le_refl _, ?_, exactP_cons hx' a3.1, fun i hi => h2 i (by omega)⟩
          simp only [lenAt]
          rw [if_neg hneg, if_pos hany]; rfl
      | false =>
        refine .inl ⟨?_, fun i hi h => ?_⟩
        · simp only [lenAt]
          rw [if_neg hneg, hany]; rfl
        · by_cases e : i ≤ k
          · exact h2 i e h
          · obtain rfl : i = k + 1 := by omega
            obtain ⟨x, hx, hxe⟩ := exactP_head h
            have hne := List.any_eq_false.1 hany x (List.mem_range.2 hx)
            rcases ih (nx m s (x : Int)) with ⟨a1, a2⟩ | ⟨j, a1, a2, a3⟩
            · exact a2 k (Nat.le_refl _) hxe
            · by_cases e2 : j = k
              · subst e2
                rw [a2] at hne
                simp at hne
              · exact h2 (j + 1) (by omega) (exactP_cons hx a3.1)
    · refine .inr ⟨j, by omega, ?_, h3⟩
      simp only [lenAt]
      rw [if_pos (by omega)]
      exact h2
/-- The length of a shortest word. -/
def lenF (m : List (List Int)) (t s : Nat) : Int := lenAt m t (m.length - 1) s
theorem lenF_spec {m : List (List Int)} (hv : validM m = true) {s t : Nat} (hs : s < m.length) : (lenF m t s = -1 ∧ ¬ reachP m s t) ∨ ∃ j : Nat, j < m.length ∧ lenF m t s = j ∧ distP m s j t := by
  have h0 := (valid_parts hv).1
  rcases lenAt_spec m t (m.length - 1) s with ⟨h1, h2⟩ | ⟨j, h1, h2, h3⟩
  · refine .inl ⟨h1, fun h => ?_⟩
    obtain ⟨j, hj, hp⟩ := bfsM_has hv hs h
    obtain ⟨w1, w2⟩ := bfsM_word hv hs hj
    have hg := bfsM_good hv hs
    have a1 := wordB_len hg.tree j hj
    have a2 := hg.len
    exact h2 _ (by omega) ⟨_, w1, rfl, by rw [hp] at w2; omega⟩
  · exact .inr ⟨j, by omega, h2, h3⟩
theorem dist_unique {m : List (List Int)} {s i j t : Nat} (h : distP m s i t) (k : distP m s j t) : i = j := by
  rcases Nat.lt_trichotomy i j with e | e | e
  · exact absurd h.1 (k.2 i e)
  · exact e
  · exact absurd k.1 (h.2 j e)
theorem lenF_of {m : List (List Int)} (hv : validM m = true) {s t j : Nat} (hs : s < m.length) (h : distP m s j t) : lenF m t s = j := by
  rcases lenF_spec hv (t := t) hs with ⟨_, h2⟩ | ⟨i, h1, h2, h3⟩
  · obtain ⟨u, a, _, b⟩ := h.1
    exact absurd ⟨u, a, b⟩ h2
  · rw [h2, dist_unique h3 h]
/-- Some letter leads one nearer. -/
theorem dist_step {m : List (List Int)} {s j t : Nat} (h : distP m s (j + 1) t) : ∃ x, x < letters m ∧ distP m (nx m s (x : Int)) j t := by
  obtain ⟨x, hx, he⟩ := exactP_head h.1
  exact ⟨x, hx, he, fun i hi h2 => h.2 (i + 1) (by omega) (exactP_cons hx h2)⟩
/-- The reference's word. -/
def refX (m : List (List Int)) (t s : Nat) : Nat := ((List.range (letters m)).find? fun x : Nat => lenF m t (nx m s (x : Int)) == lenF m t s - 1).getD 0
def refW (m : List (List Int)) (t : Nat) : Nat → Nat → List Int
  | 0, _ => []
  | j + 1, s => (refX m t s : Int) :: refW m t j (nx m s (refX m t s : Int))
theorem refX_spec {m : List (List Int)} (hv : validM m = true) {s t j : Nat} (hs : s < m.length) (h : distP m s (j + 1) t) :
    refX m t s < letters m ∧ distP m (nx m s (refX m t s : Int)) j t ∧ lenF m t (nx m s (refX m t s : Int)) = lenF m t s - 1 ∧ ∀ y, y < refX m t s → lenF m t (nx m s (y : Int)) ≠ lenF m t s - 1 := by
  have hls := lenF_of hv hs h
  obtain ⟨x0, hx0, hd0⟩ := dist_step h
  have hl0 := lenF_of hv (ldM_ok hv s x0 hs hx0) hd0
  have hfind : ∃ x, (List.range (letters m)).find? (fun x : Nat => lenF m t (nx m s (x : Int)) == lenF m t s - 1) = some x := by
    cases he : (List.range (letters m)).find? (fun x : Nat => lenF m t (nx m s (x : Int)) == lenF m t s - 1) with
    | some x => exact ⟨x, rfl⟩
    | none =>
      have := List.find?_eq_none.1 he x0 (List.mem_range.2 hx0)
      rw [hl0, hls] at this
      exact absurd (by simp) this
  obtain ⟨x, hx⟩ := hfind
  have hrx : refX m t s = x := by rw [refX, hx]; rfl
  have hp := List.find?_some hx
  have hmem := List.mem_of_find?_eq_some hx
  have hxl := List.mem_range.1 hmem
  have hp' : lenF m t (nx m s (x : Int)) = lenF m t s - 1 := beq_iff_eq.1 hp
  rw [hrx]
  refine ⟨hxl, ?_, hp', fun y hy => ?_⟩
  · rcases lenF_spec hv (t := t) (ldM_ok hv s x hs hxl) with ⟨a1, _⟩ | ⟨i, a1, a2, a3⟩
    · omega
    · obtain rfl : i = j := by omega
      exact a3
  · obtain ⟨xa, bs, hab, hno⟩ := (List.find?_eq_some_iff_append.1 hx).2
    have hy2 : y ∈ xa := by
      have hyr : y ∈ List.range (letters m) := List.mem_range.2 (by omega)
      rw [hab] at hyr
      rcases List.mem_append.1 hyr with h1 | h1
      · exact h1
      · have hsort : (List.range (letters m)).Pairwise (· < ·) := List.pairwise_lt_range
        rw [hab] at hsort
        have h2 := (List.pairwise_append.1 hsort).2.1
        rcases List.mem_cons.1 h1 with e | e
        · omega
        · have := (List.pairwise_cons.1 h2).1 y e
          omega
    have := hno y hy2
    intro e
    rw [e] at this
    simp at this
theorem refW_ok {m : List (List Int)} (hv : validM m = true) {t : Nat} : ∀ j s, s < m.length → distP m s j t → (refW m t j s).all (inB 0 ((letters m : Int) - 1)) = true ∧ (refW m t j s).length = j ∧ runM m s (refW m t j s) = t
  | 0, s, hs, h => by
    obtain ⟨u, _, h2, h3⟩ := h.1
    obtain rfl : u = [] := List.length_eq_zero_iff.1 h2
    exact ⟨rfl, rfl, h3⟩
  | j + 1, s, hs, h => by
    obtain ⟨a1, a2, a3, a4⟩ := refX_spec hv hs h
    obtain ⟨b1, b2, b3⟩ := refW_ok hv j _ (ldM_ok hv s _ hs a1) a2
    refine ⟨?_, by simp [refW, b2], b3⟩
    rw [refW, List.all_cons, b1, Bool.and_true]
    exact inB_true ⟨by omega, by omega⟩
theorem refW_least {m : List (List Int)} (hv : validM m = true) {t : Nat} : ∀ j s, s < m.length → distP m s j t → ∀ u : List Int, u.all (inB 0 ((letters m : Int) - 1)) = true → u.length = j → runM m s u = t → refW m t j s = u ∨ lexLt (refW m t j s) u
  | 0, s, hs, h, u, _, h2, _ => .inl (by rw [List.length_eq_zero_iff.1 h2]; rfl)
  | j + 1, s, hs, h, u, h1, h2, h3 => by
    obtain ⟨a1, a2, a3, a4⟩ := refX_spec hv hs h
    cases u with
    | nil => simp at h2
    | cons y u =>
      obtain ⟨hy, hu⟩ := all_cons_parts h1
      obtain ⟨x, rfl⟩ := Int.eq_ofNat_of_zero_le hy.1
      have hx : x < letters m := by omega
      have hn := ldM_ok hv s x hs hx
      have hul : u.length = j := by simpa using h2
      have hd : distP m (nx m s (x : Int)) j t := ⟨⟨u, hu, hul, h3⟩, fun i hi h4 => h.2 (i + 1) (by omega) (exactP_cons hx h4)⟩
      have hlx := lenF_of hv hn hd
      have hls := lenF_of hv hs h
      rcases Nat.lt_trichotomy (refX m t s) x with e | e | e
      · exact .inr (.inl (by omega))
      · rw [e] at a2
        rcases refW_least hv j _ hn a2 u hu hul h3 with h5 | h5
        · left
          rw [refW, e, h5]
        · right
          rw [refW, e]
          exact .inr ⟨rfl, h5⟩
      · exact absurd (by omega) (a4 x e)
theorem lexLt_irrefl : ∀ a : List Int, ¬ lexLt a a
  | [], h => h
  | x :: a, h => by
    rcases h with h | ⟨_, h⟩
    · omega
    · exact lexLt_irrefl a h
theorem SLe_antisymm {a b : List Int} (h : SLe a b) (k : SLe b a) : a = b := by
  rcases h with h | h
  · exact h
  · rcases k with k | k
    · exact k.symm
    · have := h.trans k
      rcases this with h2 | ⟨_, h2⟩
      · omega
      · exact absurd h2 (lexLt_irrefl a)
/-- The reference's word is the program's. -/
theorem refW_word {m : List (List Int)} (hv : validM m = true) {s t j i : Nat} (hs : s < m.length) (h : distP m s j t) (hi : i < (bfsM m s).length) (hp : plB (bfsM m s) i = (t : Int)) : wordB (bfsM m s) i = refW m t j s := by
  obtain ⟨b1, b2, b3⟩ := refW_ok hv j s hs h
  obtain ⟨w1, w2⟩ := bfsM_word hv hs hi
  have hrun : runM m s (wordB (bfsM m s) i) = t := by rw [hp] at w2; omega
  have l1 := bfsM_least hv hs b1 hi (by rw [hp, b3])
  refine SLe_antisymm l1 ?_
  have hlen := l1.len
  have hge : ¬ (wordB (bfsM m s) i).length < j := fun e => h.2 _ e ⟨_, w1, rfl, hrun⟩
  rcases refW_least hv j s hs h _ w1 (by omega) hrun with e | e
  · exact .inl e
  · exact .inr (.inr ⟨by omega, e⟩)
end Go.Proofs.YtibaihchnbbokaaDoor
namespace Go.Proofs.YtibaihchnbbokaaDoor
open Go.RowKit Go.Shelf
/-- A list by a function. -/
def Lf (n : Nat) (f : Nat → Int) : List Int := (List.range n).map f
theorem Lf_len (n : Nat) (f : Nat → Int) : (Lf n f).length = n := by simp [Lf]
theorem Lf_get {n : Nat} (f : Nat → Int) {i : Nat} (hi : i < n) : (Lf n f).getD i 0 = f i := by
  simp [Lf, List.getD_eq_getElem?_getD, List.getElem?_map, List.getElem?_range hi]
theorem Lf_congr {n : Nat} {f g : Nat → Int} (h : ∀ i, i < n → f i = g i) : Lf n f = Lf n g := List.map_congr_left fun i hi => h i (List.mem_range.1 hi)
theorem Lf_set {n : Nat} (f : Nat → Int) (s : Nat) (v : Int) : (Lf n f).set s v = Lf n (fun i => if i = s then v else f i) := by
  apply List.ext_getElem
  · simp [Lf]
  · intro i h1 h2
    rw [List.getElem_set]
    simp only [Lf, List.getElem_map, List.getElem_range]
    by_cases e : s = i
    · rw [if_pos e, if_pos e.symm]
    · rw [if_neg e, if_neg (fun h => e h.symm)]
theorem Lf_cell {n : Nat} (f : Nat → Int) {i : Nat} (hi : i < n) : ((Lf n f).map fun x => Value.int .i64 x)[i]? = some (.int .i64 (f i)) := by
  rw [getI_cell (by rw [Lf_len]; exact hi), Lf_get f hi]
/-- Within round k + 1: the first s states are done. -/
def mixF (m : List (List Int)) (t k s i : Nat) : Int := if i < s then lenAt m t (k + 1) i else lenAt m t k i
theorem lenAt_range (m : List (List Int)) (t k s : Nat) : -1 ≤ lenAt m t k s ∧ lenAt m t k s ≤ k := by
  rcases lenAt_spec m t k s with ⟨h1, _⟩ | ⟨j, h1, h2, _⟩ <;> omega
theorem lenAt_keeps (m : List (List Int)) (t k i : Nat) : lenAt m t (k + 1) i = (k : Int) ↔ lenAt m t k i = (k : Int) := by
  have h := lenAt_range m t k i
  simp only [lenAt]
  by_cases e : 0 ≤ lenAt m t k i
  · rw [if_pos e]
  · rw [if_neg e]
    split
    · constructor <;> intro h2 <;> omega
    · constructor <;> intro h2 <;> omega
theorem mixF_keeps (m : List (List Int)) (t k s i : Nat) : mixF m t k s i = (k : Int) ↔ lenAt m t k i = (k : Int) := by
  unfold mixF
  split
  · exact lenAt_keeps m t k i
  · exact Iff.rfl
theorem mixF_range (m : List (List Int)) (t k s i : Nat) : -1 ≤ mixF m t k s i ∧ mixF m t k s i ≤ k + 1 := by
  have h1 := lenAt_range m t k i
  have h2 := lenAt_range m t (k + 1) i
  unfold mixF
  split <;> omega
set_option maxRecDepth 100000 in
set_option maxHeartbeats 4000000 in
theorem rLengths_any (v : Value) (m : List (List Int)) (t : Nat) (w : World) (h : Rows w v m) (hv : validM m = true) (ht : t < m.length) :
    Calls Tryd.prog 78 #[.agg #[v], .int .i64 t] w fun e w' => ∃ r, e = .returned r ∧ Ints w' r (Lf m.length (lenF m t)) ∧ Below w.heap.size w w' := by
  obtain ⟨i0, hi, hz0, hz1, hz2⟩ := info_parts infoInt
  obtain ⟨p1, p2, p3, p4, p5⟩ := valid_parts hv
  obtain ⟨A, cap, rfl, hml, hcm⟩ := id h
  have Hcm := hid hcm
  have Hp5 := hid p5
  have hX := bal (Below.refl _ w) (.cells #[.slice A m.length cap] 24)
  have hbx := (Boxed.new w 24 (.slice A m.length cap)).cell
  have hts : (t : Int) < m.length := by omega
  have hm0 : (m.length : Int) ≠ 0 := by omega
  clear p5 hcm
  go_enter Tryd.func78, Tryd.ntmps78
  go_wp2_with (at_make; go_must (refine wpList_make_full _ rfl _ _ 25 rfl (w.heap.size + 1) 3 i0 (.int .i64 0) 1 Tryd.underlying25 hi hz0 hz1 .i64 .i64 _ _ m.length rfl rfl rfl rfl (by rw [hz2]; omega) (by unfold maxLen; omega) (by simp) ?_); intro w1 hown hgrow; rw [show Value.cells (.int .i64 0) = #[.int .i64 0] from rfl, toList_madeCells_one, Nat.mul_one] at hown; simp only [World.size_alloc] at hown; have hB1 := hX.grown hgrow (by simp) (fun q hq => by cases hq))
  have bx : w1.cell? ⟨w.heap.size, 0, none⟩ = some (.slice A m.length cap) := (World.cell?_of_block (hgrow.block w.heap.size (by simp) (by simp))).trans hbx
  have hO0 : w1.ownsRow (w.heap.size + 1) 3 1 (.slice (some ⟨w.heap.size + 1, 0, none⟩) m.length m.length) m.length ((Lf m.length fun i => if i < 0 then -1 else 0).map fun x => .int .i64 x) := by
    have e : (Lf m.length fun i => if i < 0 then (-1 : Int) else 0) = List.replicate m.length 0 := by
      apply List.ext_getElem
      · simp [Lf]
      · intro i h1 h2; simp [Lf]
    rw [e]; simpa using hown
  clear hown hgrow hbx
  go_loopw [6] (fun sv wr => ∃ s : Nat, s ≤ m.length ∧ sv = .int .i64 s ∧ wr.ownsRow (w.heap.size + 1) 3 1 (.slice (some ⟨w.heap.size + 1, 0, none⟩) m.length m.length) m.length ((Lf m.length fun i => if i < s then -1 else 0).map fun x => .int .i64 x) ∧ Below w.heap.size w wr ∧ wr.cell? ⟨w.heap.size, 0, none⟩ = some (.slice A m.length cap)) (fun s _ => m.length - (intOf s).toNat)
  case atStart => exact ⟨0, Nat.zero_le _, rfl, hO0, hB1, bx⟩
  case round =>
    clear hO0 bx hB1
    obtain ⟨s, hs, rfl, hO, hB, hbx⟩ := hrel
    by_cases hlt : s < m.length
    · have hss : (s : Int) < m.length := by omega
      have hcA := hO.cellAt s (by omega)
      have hfA := hO.frozenAt s
      rw [Lf_cell _ hlt] at hcA
      have hSt := (hO.stored s (.int .i64 (-1))).1
      rw [← List.map_set (f := fun x => Value.int .i64 x), Lf_set] at hSt
      have hSt2 := hid (show (wr.setCell ⟨w.heap.size + 1, s, none⟩ (.int .i64 (-1))).ownsRow (w.heap.size + 1) 3 1 (.slice (some ⟨w.heap.size + 1, 0, none⟩) m.length m.length) m.length ((Lf m.length fun i => if i < s + 1 then -1 else 0).map fun x => .int .i64 x) by
        rw [show (Lf m.length fun i => if i < s + 1 then (-1 : Int) else 0) = Lf m.length (fun i => if i = s then -1 else if i < s then -1 else 0) from Lf_congr fun i _ => by
          by_cases e : i = s
          · rw [if_pos e, if_pos (by omega)]
          · rw [if_neg e]
            by_cases e2 : i < s
            · rw [if_pos e2, if_pos (by omega)]
            · rw [if_neg e2, if_neg (by omega)]]
        exact hSt)
      have hBs := hid (hB.setCell (p := ⟨w.heap.size + 1, s, none⟩) (by show w.heap.size ≤ w.heap.size + 1; omega) (.int .i64 (-1)))
      have hbs : (wr.setCell ⟨w.heap.size + 1, s, none⟩ (.int .i64 (-1))).cell? ⟨w.heap.size, 0, none⟩ = some (.slice A m.length cap) := (World.cell?_of_block (Below.heap_setCell _ _ _ _ (by simp))).trans hbx
      clear hO hSt
      go_wp2
      go_roundw
      case rel => exact ⟨s + 1, by omega, by go_num, hSt2.out, hBs.out, hbs⟩
      case measure => simp [intOf]; omega
    · obtain rfl : s = m.length := by omega
      have hss : ¬ ((m.length : Nat) : Int) < m.length := by omega
      have hcA := hO.cellAt t (by omega)
      have hfA := hO.frozenAt t
      rw [Lf_cell _ ht] at hcA
      have hSt := (hO.stored t (.int .i64 0)).1
      rw [← List.map_set (f := fun x => Value.int .i64 x), Lf_set] at hSt
      have hSt2 := hid (show (wr.setCell ⟨w.heap.size + 1, t, none⟩ (.int .i64 0)).ownsRow (w.heap.size + 1) 3 1 (.slice (some ⟨w.heap.size + 1, 0, none⟩) m.length m.length) m.length ((Lf m.length (lenAt m t 0)).map fun x => .int .i64 x) by
        rw [show Lf m.length (lenAt m t 0) = Lf m.length (fun i => if i = t then 0 else if i < m.length then -1 else 0) from Lf_congr fun i hi => by
          simp only [lenAt]
          by_cases e : i = t
          · rw [if_pos e, if_pos e]
          · rw [if_neg e, if_neg e, if_pos hi]]
        exact hSt)
      have hBs := hid (hB.setCell (p := ⟨w.heap.size + 1, t, none⟩) (by show w.heap.size ≤ w.heap.size + 1; omega) (.int .i64 0))
      have hbs : (wr.setCell ⟨w.heap.size + 1, t, none⟩ (.int .i64 0)).cell? ⟨w.heap.size, 0, none⟩ = some (.slice A m.length cap) := (World.cell?_of_block (Below.heap_setCell _ _ _ _ (by simp))).trans hbx
      clear hO hSt
      go_wp2
      generalize wr.setCell ⟨w.heap.size + 1, t, none⟩ (.int .i64 0) = W0 at *
      go_loopw [7] (fun kv wr => ∃ k : Nat, k ≤ m.length - 1 ∧ kv = .int .i64 ((k : Int) + 1) ∧ wr.ownsRow (w.heap.size + 1) 3 1 (.slice (some ⟨w.heap.size + 1, 0, none⟩) m.length m.length) m.length ((Lf m.length (lenAt m t k)).map fun x => .int .i64 x) ∧ Below w.heap.size w wr ∧ wr.cell? ⟨w.heap.size, 0, none⟩ = some (.slice A m.length cap)) (fun k _ => m.length + 1 - (intOf k).toNat)
      case atStart => exact ⟨0, Nat.zero_le _, rfl, hSt2.out, hBs.out, hbs⟩
      case round =>
        clear hSt2 hBs hbs hcA hfA
        obtain ⟨k, hk, rfl, hO, hB, hbx⟩ := hrel
        by_cases hlt : k < m.length - 1
        · have hks : (k : Int) + 1 < m.length := by omega
          have hend := hid (show Lf m.length (lenAt m t (k + 1)) = Lf m.length (mixF m t k m.length) from Lf_congr fun i hi => by simp [mixF, hi])
          have hbeg : Lf m.length (lenAt m t k) = Lf m.length (mixF m t k 0) := Lf_congr fun i hi => by simp [mixF]
          rw [hbeg] at hO
          obtain ⟨wo, rfl⟩ : ∃ wo : World, wo = wr := ⟨_, rfl⟩
          go_wp2_with fail
          go_loopw [8] (fun sv wr => ∃ s : Nat, s ≤ m.length ∧ sv = .int .i64 s ∧ wr.ownsRow (w.heap.size + 1) 3 1 (.slice (some ⟨w.heap.size + 1, 0, none⟩) m.length m.length) m.length ((Lf m.length (mixF m t k s)).map fun x => .int .i64 x) ∧ Below w.heap.size w wr ∧ wr.cell? ⟨w.heap.size, 0, none⟩ = some (.slice A m.length cap)) (fun s _ => m.length - (intOf s).toNat)
          case atStart => exact ⟨0, Nat.zero_le _, rfl, hO, hB, hbx⟩
          case round =>
            clear hO hB hbx hbeg
            obtain ⟨s, hs, rfl, hO, hB, hbx⟩ := hrel
            by_cases hsl : s < m.length
            · have hss : (s : Int) < m.length := by omega
              have hcur : mixF m t k s s = lenAt m t k s := by simp [mixF]
              obtain ⟨wi, rfl⟩ : ∃ wi : World, wi = wr := ⟨_, rfl⟩
              by_cases hneg : 0 ≤ lenAt m t k s
              · have hsame : Lf m.length (mixF m t k (s + 1)) = Lf m.length (mixF m t k s) := Lf_congr fun i hi => by
                  unfold mixF
                  by_cases e : i = s
                  · subst e
                    rw [if_pos (by omega), if_neg (by omega)]
                    simp only [lenAt]
                    rw [if_pos hneg]
                  · by_cases e2 : i < s
                    · rw [if_pos e2, if_pos (by omega)]
                    · rw [if_neg e2, if_neg (by omega)]
                have hcA := hO.cellAt s (by omega)
                rw [Lf_cell _ hsl, hcur] at hcA
                rw [← hsame] at hO
                have HO := hid hO
                have t1 : decide (lenAt m t k s < 0) = false := by simp; omega
                have hn2 : ¬ lenAt m t k s < 0 := by omega
                clear hO hsame hcur
                generalize lenAt m t k s = q at *
                go_wp2_with fail
                go_loopw [9] (fun xv wr => xv = .int .i64 0 ∧ wr = wi) (fun _ _ => 0)
                case atStart => exact ⟨rfl, rfl⟩
                case round =>
                  obtain ⟨rfl, rfl⟩ := hrel
                  go_wp2
                  go_roundw
                  case rel => exact ⟨s + 1, by omega, by go_num, HO.out, hB, hbx⟩
                  case measure => simp [intOf]; omega
              · have hup := hid (show lenAt m t (k + 1) s = if (List.range (letters m)).any (fun x : Nat => lenAt m t k (nx m s (x : Int)) == (k : Int)) then (k : Int) + 1 else -1 by simp only [lenAt]; rw [if_neg hneg])
                go_wp2_with fail
                go_loopw [9] (fun xv wr => ∃ x : Nat, x ≤ letters m ∧ xv = .int .i64 x ∧ (((∀ y, y < x → lenAt m t k (nx m s (y : Int)) ≠ (k : Int)) ∧ wr.ownsRow (w.heap.size + 1) 3 1 (.slice (some ⟨w.heap.size + 1, 0, none⟩) m.length m.length) m.length ((Lf m.length (mixF m t k s)).map fun x => .int .i64 x)) ∨ (lenAt m t (k + 1) s = (k : Int) + 1 ∧ wr.ownsRow (w.heap.size + 1) 3 1 (.slice (some ⟨w.heap.size + 1, 0, none⟩) m.length m.length) m.length ((Lf m.length (mixF m t k (s + 1))).map fun x => .int .i64 x))) ∧ Below w.heap.size w wr ∧ wr.cell? ⟨w.heap.size, 0, none⟩ = some (.slice A m.length cap)) (fun x _ => letters m - (intOf x).toNat)
                case atStart => exact ⟨0, Nat.zero_le _, rfl, .inl ⟨fun y hy => by omega, hO⟩, hB, hbx⟩
                case round =>
                  clear hO hB hbx
                  obtain ⟨x, hx, rfl, hO, hB, hbx⟩ := hrel
                  rcases hO with ⟨hno, hO⟩ | ⟨hfound, hO⟩
                  · have hq := lenAt_range m t k s
                    have hq1 : lenAt m t k s = -1 := by omega
                    have hcA := hO.cellAt s (by omega)
                    rw [Lf_cell _ hsl, hcur, hq1] at hcA
                    have Hno := hid hno
                    have hfree := hO.frozenAt s
                    have Hgl := hid (ownq_lt hO)
                    have HO := hid hO
                    have Hcur := hid hcur
                    have Hneg := hid hneg
                    have Hq1 := hid hq1
                    clear hO hno hcur hneg hq hq1
                    go_wp2_with fail
                    refine (rLetters_any _ m _ (h.below hB) hv).mono ?_
                    rintro e y1 ⟨rfl, hy1⟩
                    have hB1 := btr hB hy1
                    have hbx1 := (hy1.cell (p := ⟨w.heap.size, 0, none⟩) (World.block_lt_of_cell? _ _ hbx)).trans hbx
                    have HO1 := hid (owns_block HO.out (hy1.block _ Hgl.out.2))
                    clear hcA hfree hbx hB
                    by_cases hxl : x < letters m
                    · have hxs : (x : Int) < letters m := by omega
                      obtain ⟨b, off, r, hA, hcell, hrow⟩ := Hcm.out s hsl
                      subst hA
                      have hrl := (Hp5.out s hsl).1
                      obtain ⟨Ar, capr, rfl, -, hcr⟩ := id hrow
                      rw [hrl] at hcell
                      obtain ⟨br, offr, hAr, hct⟩ := hcr x (by omega)
                      subst hAr
                      obtain ⟨hn1, hn⟩ := nx_ok hv (s := s) hsl (x := (x : Int)) (by omega) (by omega)
                      rw [Int.toNat_natCast] at hn
                      rw [hn] at hct
                      have hcell2 := (hB1.cell (p := ⟨b, off + s, none⟩) (World.block_lt_of_cell? _ _ hcell)).trans hcell
                      have hct2 := (hB1.cell (p := ⟨br, offr + x, none⟩) (World.block_lt_of_cell? _ _ hct)).trans hct
                      have hkeep := mixF_keeps m t k s (nx m s (x : Int))
                      have hrange := mixF_range m t k s (nx m s (x : Int))
                      have hcn := HO1.out.cellAt (nx m s (x : Int)) (by omega)
                      have hcs := HO1.out.cellAt s (by omega)
                      have hfs := HO1.out.frozenAt s
                      rw [Lf_cell _ hn1] at hcn
                      rw [Lf_cell _ hsl, Hcur.out, Hq1.out] at hcs
                      have hany := hid (fun (he : lenAt m t k (nx m s (x : Int)) = (k : Int)) => show lenAt m t (k + 1) s = (k : Int) + 1 by
                        rw [hup.out, if_pos (List.any_eq_true.2 ⟨x, List.mem_range.2 hxl, by rw [he]; simp⟩)])
                      have hnext := hid (fun (he : lenAt m t k (nx m s (x : Int)) ≠ (k : Int)) => show ∀ y, y < x + 1 → lenAt m t k (nx m s (y : Int)) ≠ (k : Int) from fun y hy => by
                        by_cases e : y = x
                        · subst e; exact he
                        · exact Hno.out y (by omega))
                      clear hcr hrow hn hrl hcell hct
                      generalize mixF m t k s (nx m s (x : Int)) = q at *
                      generalize nx m s (x : Int) = d at *
                      have hds : (d : Int) < m.length := by omega
                      by_cases hqk : q = (k : Int)
                      · have hf := hany.out (hkeep.1 hqk)
                        have hSt := (HO1.out.stored s (.int .i64 ((k : Int) + 1))).1
                        rw [← List.map_set (f := fun x => Value.int .i64 x), Lf_set] at hSt
                        rw [show Lf m.length (fun i => if i = s then (k : Int) + 1 else mixF m t k s i) = Lf m.length (mixF m t k (s + 1)) from Lf_congr fun i hi => by
                          unfold mixF
                          by_cases e : i = s
                          · subst e; rw [if_pos rfl, if_pos (by omega), hf]
                          · rw [if_neg e]
                            by_cases e2 : i < s
                            · rw [if_pos e2, if_pos (by omega)]
                            · rw [if_neg e2, if_neg (by omega)]] at hSt
                        have HSt := hid hSt
                        have Hf := hid hf
                        have hBs := hid (hB1.setCell (p := ⟨w.heap.size + 1, s, none⟩) (by show w.heap.size ≤ w.heap.size + 1; omega) (.int .i64 ((k : Int) + 1)))
                        have hbs : (y1.setCell ⟨w.heap.size + 1, s, none⟩ (.int .i64 ((k : Int) + 1))).cell? ⟨w.heap.size, 0, none⟩ = some (.slice (some ⟨b, off, none⟩) m.length cap) := (World.cell?_of_block (Below.heap_setCell _ _ _ _ (by simp))).trans hbx1
                        subst hqk
                        clear hSt hf hkeep
                        go_wp2
                        go_roundw
                        case rel => exact ⟨x + 1, by omega, by go_num, .inr ⟨Hf.out, HSt.out⟩, hBs.out, hbs⟩
                        case measure => simp [intOf]; omega
                      · have hne2 : (q == (k : Int)) = false := by rw [beq_eq_false_iff_ne]; exact hqk
                        have hnx := hid (hnext.out (fun e => hqk (hkeep.2 e)))
                        clear hkeep hany hnext
                        go_wp2
                        go_roundw
                        case rel => exact ⟨x + 1, by omega, by go_num, .inl ⟨hnx.out, HO1.out⟩, hB1, hbx1⟩
                        case measure => simp [intOf]; omega
                    · obtain rfl : x = letters m := by omega
                      have hxs : ¬ ((letters m : Nat) : Int) < letters m := by omega
                      have hm1 : lenAt m t (k + 1) s = -1 := by
                        rw [hup.out, if_neg]
                        intro h2
                        obtain ⟨y, hy, he⟩ := List.any_eq_true.1 h2
                        exact Hno.out y (List.mem_range.1 hy) (beq_iff_eq.1 he)
                      have hO3 := HO1.out
                      rw [show Lf m.length (mixF m t k s) = Lf m.length (mixF m t k (s + 1)) from Lf_congr fun i hi => by
                        unfold mixF
                        by_cases e : i = s
                        · subst e; rw [if_neg (by omega), if_pos (by omega), hm1, Hq1.out]
                        · by_cases e2 : i < s
                          · rw [if_pos e2, if_pos (by omega)]
                          · rw [if_neg e2, if_neg (by omega)]] at hO3
                      have HO3 := hid hO3
                      clear hO3 hm1
                      go_wp2
                      go_roundw
                      case rel => exact ⟨s + 1, by omega, by go_num, HO3.out, hB1, hbx1⟩
                      case measure => simp [intOf]; omega
                  · have hcA := hO.cellAt s (by omega)
                    have hcur2 : mixF m t k (s + 1) s = (k : Int) + 1 := by unfold mixF; rw [if_pos (by omega), hfound]
                    rw [Lf_cell _ hsl, hcur2] at hcA
                    have HO := hid hO
                    have t1 : ¬ (k : Int) + 1 < 0 := by omega
                    clear hO hcur hneg hcur2 hfound
                    go_wp2
                    go_roundw
                    case rel => exact ⟨s + 1, by omega, by go_num, HO.out, hB, hbx⟩
                    case measure => simp [intOf]; omega
            · obtain rfl : s = m.length := by omega
              have hss : ¬ ((m.length : Nat) : Int) < m.length := by omega
              rw [← hend.out] at hO
              have HO := hid hO
              clear hO
              go_wp2
              go_roundw
              case rel => exact ⟨k + 1, by omega, by go_num, HO.out, hB, hbx⟩
              case measure => simp [intOf]; omega
        · obtain rfl : k = m.length - 1 := by omega
          have hks : ¬ (((m.length - 1 : Nat) : Int) + 1 < m.length) := by omega
          have HO := hid hO
          clear hO
          go_wp2
          go_ret
          exact ⟨_, rfl, Ints.of_own (n₀ := w.heap.size + 1) (e := 3) (by rw [Lf_len]; exact HO.out) (by rw [Lf_len]; unfold big; omega), hB⟩
end Go.Proofs.YtibaihchnbbokaaDoor
namespace Go.Proofs.YtibaihchnbbokaaDoor
open Go.RowKit Go.Shelf
theorem own_below2 {w w' : World} {base : Nat} {e : TypeId} {s : Nat} {v : Value} {n : Nat} {xs : List Value} (h : w.ownsRow base e s v n xs) (k : Below w.heap.size w w') : w'.ownsRow base e s v n xs :=
  ownsRow_same h fun g hg => k.block g (row_blk2 h g hg).2
def sliceLen (v : Value) : Nat := match v with
  | .slice _ n _ => n
  | _ => 0
theorem lenF_range {m : List (List Int)} (h0 : 1 ≤ m.length) (t s : Nat) : -1 ≤ lenF m t s ∧ lenF m t s < m.length := by
  have := lenAt_range m t (m.length - 1) s
  unfold lenF
  omega
theorem getIl_of {w : World} {A : Option Addr} {n c : Nat} {l : List Int} (h : Ints w (.slice A n c) l) {i : Nat} (hi : i < l.length) : ∃ b o, A = some ⟨b, o, none⟩ ∧ w.cell? ⟨b, o + i, none⟩ = some (.int .i64 (l.getD i 0)) := by
  obtain ⟨A', c', hA, _, hc⟩ := h
  cases hA
  exact hc i hi
set_option maxRecDepth 100000 in
set_option maxHeartbeats 4000000 in
theorem rPath_no (v : Value) (m : List (List Int)) (s t : Nat) (w : World) (h : Rows w v m) (hv : validM m = true) (hs : s < m.length) (ht : t < m.length) (hl : lenF m t s = -1) :
    Calls Tryd.prog 47 #[.agg #[v], .int .i64 s, .int .i64 t] w fun e w' => e = .returned (.tuple #[.slice none 0 0, .bool false]) ∧ Below w.heap.size w w' := by
  obtain ⟨A, cap, rfl, hml, -⟩ := id h
  have hX := bal (Below.refl _ w) (.cells #[.slice A m.length cap] 24)
  have hr := h.below hX
  have hss : (s : Int) < m.length := by omega
  go_enter Tryd.func47, Tryd.ntmps47
  go_wp2_with fail
  refine (rLengths_any _ m t _ hr hv ht).mono ?_
  rintro e w1 ⟨r, rfl, hi, h1⟩
  obtain ⟨Al, cl, rfl, _⟩ := id hi
  rw [Lf_len] at hi ⊢
  obtain ⟨bl, ol, hAl, cell⟩ := getIl_of hi (i := s) (by rw [Lf_len]; exact hs)
  subst hAl
  rw [Lf_get _ hs, hl] at cell
  clear hl
  go_wp2_with fail
  go_loopw [1, 9] (fun sv ov wr => sv = .int .i64 s ∧ ov = .slice none 0 0 ∧ wr = w1) (fun _ _ _ => 0)
  case atStart => exact ⟨rfl, rfl, rfl⟩
  case round =>
    obtain ⟨rfl, rfl, rfl⟩ := hrel
    go_wp2_with fail
    go_quiet (fail)
    go_wp2
    go_ret2
    exact ⟨rfl, bdr (btr hX h1) nq⟩
set_option maxRecDepth 100000 in
set_option maxHeartbeats 4000000 in
theorem rPath_yes (v : Value) (m : List (List Int)) (s t j : Nat) (w : World) (h : Rows w v m) (hv : validM m = true) (hs : s < m.length) (ht : t < m.length) (hd : distP m s j t) :
    Calls Tryd.prog 47 #[.agg #[v], .int .i64 s, .int .i64 t] w fun e w' => ∃ r, e = .returned (.tuple #[r, .bool true]) ∧ Ints w' r (refW m t j s) ∧ Below w.heap.size w w' := by
  obtain ⟨i0, hi, hz0, hz1, hz2⟩ := info_parts infoInt
  obtain ⟨p1, p2, p3, p4, p5⟩ := valid_parts hv
  obtain ⟨A, cap, rfl, hml, hcm⟩ := id h
  have Hcm := hid hcm
  have Hp5 := hid p5
  have hX := bal (Below.refl _ w) (.cells #[.slice A m.length cap] 24)
  have hbx := (Boxed.new w 24 (.slice A m.length cap)).cell
  have hr := h.below hX
  have hW := refW_ok hv j s hs hd
  have hjn : j < m.length := by
    rcases lenF_spec hv (t := t) hs with ⟨_, h2⟩ | ⟨i, h1, h2, h3⟩
    · obtain ⟨u, a, _, b⟩ := hd.1
      exact absurd ⟨u, a, b⟩ h2
    · rw [dist_unique hd h3]; exact h1
  have hlen := hW.2.1
  have Hd := hid hd
  clear hcm p5 hW hd
  go_enter Tryd.func47, Tryd.ntmps47
  go_wp2_with fail
  refine (rLengths_any _ m t _ hr hv ht).mono ?_
  rintro e w1 ⟨r, rfl, hli, h1⟩
  obtain ⟨Al, cl, rfl, _⟩ := id hli
  rw [Lf_len] at hli ⊢
  have hX1 := btr hX h1
  have hbx1 := (h1.cell (p := ⟨w.heap.size, 0, none⟩) (World.block_lt_of_cell? _ _ hbx)).trans hbx
  have hs1 := hX1.size
  have Hli := hid hli
  clear hli hbx
  generalize hWW : refW m t j s = W at *
  have HWW := hid hWW
  clear hWW
  go_wp2_with fail
  go_loopw [1, 9] (fun sv ov wr => ∃ (cur k : Nat) (P : List Int), cur < m.length ∧ sv = .int .i64 cur ∧ distP m cur k t ∧ P ++ refW m t k cur = W ∧ wr.ownsRow w1.heap.size 3 1 ov P.length (P.map fun x => .int .i64 x) ∧ Below w1.heap.size w1 wr) (fun _ ov _ => W.length - sliceLen ov)
  case atStart => exact ⟨s, j, [], hs, rfl, Hd.out, by rw [List.nil_append]; exact HWW.out, ⟨rfl, .inl ⟨rfl, rfl⟩⟩, Below.refl _ _⟩
  case round =>
    obtain ⟨cur, k, P, hcur, rfl, hdk, hPW, hO, hB⟩ := hrel
    have hcs : (cur : Int) < m.length := by omega
    have hlF := lenF_of hv hcur hdk
    have hli := Hli.out.below hB
    obtain ⟨bl, ol, hAl, cell⟩ := getIl_of hli (i := cur) (by rw [Lf_len]; exact hcur)
    subst hAl
    rw [Lf_get _ hcur, hlF] at cell
    have cr := (hB.cell (p := ⟨w.heap.size, 0, none⟩) (World.block_lt_of_cell? _ _ hbx1)).trans hbx1
    have hPl : P.length ≤ W.length := by rw [← hPW, List.length_append]; omega
    obtain ⟨oA, oc, rfl⟩ := ownsRow_slice hO
    have hsz := hB.size
    cases k with
    | zero =>
      have hPe : P = W := by rw [← hPW]; simp [refW]
      subst hPe
      have HO := hid hO
      clear hO hlF hdk hPW
      go_wp2_with fail
      go_quiet (fail)
      go_wp2
      go_ret2
      exact ⟨_, rfl, by rw [HWW.out]; exact (Ints.of_own (n₀ := w1.heap.size) (e := 3) HO.out (by unfold big; omega)).below (below_dr _ nq), hX1.trans ((bdr hB nq).mono hs1)⟩
    | succ k =>
      have hkb := lenF_range p1 t cur
      rw [hlF] at hkb
      obtain ⟨c, hc⟩ : ∃ c : Int, c = ((k + 1 : Nat) : Int) := ⟨_, rfl⟩
      rw [← hc] at cell hlF hkb
      have hks : (0 : Int) < c := by omega
      obtain ⟨a1, a2, a3, a4⟩ := refX_spec hv hcur hdk
      have hPW2 := hid (show (P ++ [(refX m t cur : Int)]) ++ refW m t k (nx m cur (refX m t cur : Int)) = W by rw [← hPW]; simp [refW])
      have hn1 := ldM_ok hv cur _ hcur a1
      have hPl2 : P.length + 1 ≤ W.length := by rw [← hPW2.out]; simp
      obtain ⟨b, off, r, hA, hcell, hrow⟩ := Hcm.out cur hcur
      subst hA
      have hrl := (Hp5.out cur hcur).1
      obtain ⟨Ar, capr, rfl, -, hcr⟩ := id hrow
      rw [hrl] at hcell
      have hcellr := (hX1.cell (p := ⟨b, off + cur, none⟩) (World.block_lt_of_cell? _ _ hcell)).trans hcell
      have Hcr := hid (fun x (hx : x < letters m) => show ∃ br offr, Ar = some ⟨br, offr, none⟩ ∧ w1.cell? ⟨br, offr + x, none⟩ = some (.int .i64 (nx m cur (x : Int) : Nat)) ∧ nx m cur (x : Int) < m.length from by
        obtain ⟨br, offr, hAr, hct⟩ := hcr x (by omega)
        obtain ⟨hn1, hn⟩ := nx_ok hv (s := cur) hcur (x := (x : Int)) (by omega) (by omega)
        rw [Int.toNat_natCast] at hn
        rw [hn] at hct
        exact ⟨br, offr, hAr, (hX1.cell (p := ⟨br, offr + x, none⟩) (World.block_lt_of_cell? _ _ hct)).trans hct, hn1⟩)
      have A2 := hid a2
      have A3 := hid a3
      have A4 := hid a4
      have HlF := hid hlF
      have HO := hid hO
      clear hO hcr hrow hcell hrl a2 a3 a4 hdk hPW hlF
      obtain ⟨wi, rfl⟩ : ∃ wi : World, wi = wr := ⟨_, rfl⟩
      generalize refX m t cur = R at *
      go_wp2_with fail
      go_loopw [10] (fun xv wr => ∃ x : Nat, x ≤ R ∧ xv = .int .i64 x ∧ Below wi.heap.size wi wr) (fun x _ => R - (intOf x).toNat)
      case atStart => exact ⟨0, Nat.zero_le _, rfl, Below.refl _ _⟩
      case round =>
        obtain ⟨x, hx, rfl, hBx⟩ := hrel
        have hB1x := hB.trans (hBx.mono hsz)
        obtain ⟨br, offr, hAr, hct, hnl⟩ := Hcr.out x (by omega)
        subst hAr
        have hxs : (x : Int) < letters m := by omega
        obtain ⟨bl', ol', hAl', celln⟩ := getIl_of (Hli.out.below hB1x) (i := nx m cur (x : Int)) (by rw [Lf_len]; exact hnl)
        cases hAl'
        rw [Lf_get _ hnl] at celln
        have cellc := (hBx.cell (p := ⟨bl, ol + cur, none⟩) (World.block_lt_of_cell? _ _ cell)).trans cell
        have crx := (hBx.cell (p := ⟨w.heap.size, 0, none⟩) (World.block_lt_of_cell? _ _ cr)).trans cr
        have hrow := (hB1x.cell (p := ⟨b, off + cur, none⟩) (World.block_lt_of_cell? _ _ hcellr)).trans hcellr
        have hcx := (hB1x.cell (p := ⟨br, offr + x, none⟩) (World.block_lt_of_cell? _ _ hct)).trans hct
        have hrange := lenF_range p1 t (nx m cur (x : Int))
        have hsub : IntKind.i64.wrap (c - 1) = c - 1 := IntWalk.i64_in _ (by omega)
        have hnls : ((nx m cur (x : Int) : Nat) : Int) < m.length := by omega
        by_cases hxR : x = R
        · subst hxR
          have h3 := A3.out
          rw [HlF.out] at h3
          rw [h3] at celln
          have A2' := A2
          have hPW3 := hPW2
          clear h3 hrange A3 A4 A2 hPW2
          generalize nx m cur (x : Int) = d at *
          go_wp2_with fail
          go_quiet (fail)
          have hOq := own_below2 HO.out (bdr hBx nq)
          have hB1q := bdr hB1x nq
          have crq := ((below_dr wr nq).cell (p := ⟨w.heap.size, 0, none⟩) (World.block_lt_of_cell? _ _ crx)).trans crx
          have hrq := ((below_dr wr nq).cell (p := ⟨b, off + cur, none⟩) (World.block_lt_of_cell? _ _ hrow)).trans hrow
          have hcq := ((below_dr wr nq).cell (p := ⟨br, offr + x, none⟩) (World.block_lt_of_cell? _ _ hcx)).trans hcx
          have hszq := hB1q.size
          clear hrow hcx crx celln cellc
          generalize wr.drewN nq = wd at *
          go_wp2_with (at_builtin; refine wpList_append_own_at _ rfl _ _ 25 rfl w1.heap.size 3 i0 (.int .i64 0) 1 8 Tryd.underlying25 hi hz0 hz1 hz2 rfl (by decide) _ _ _ rfl (hOq.alloc _) ⟨wd.heap.size, 0, none⟩ 1 1 [.int .i64 (x : Int)] rfl rfl (cell_one_new _ _ _) (by simp [Value.oneCell']) (by unfold maxLen; omega) (by omega) (by simp; omega) ?_; intro v' w5 hown' hgrow' _ hat; have hB5 := appended_below hB1q hOq hszq hgrow'; have cr5 := (hB5.cell (p := ⟨w.heap.size, 0, none⟩) (World.block_lt_of_cell? _ _ hbx1)).trans hbx1; have hr5 := (hB5.cell (p := ⟨b, off + cur, none⟩) (World.block_lt_of_cell? _ _ hcellr)).trans hcellr; have hc5 := (hB5.cell (p := ⟨br, offr + x, none⟩) (World.block_lt_of_cell? _ _ hct)).trans hct; obtain ⟨oA5, oc5, rfl⟩ := ownsRow_slice hown')
          go_roundw
          case rel => exact ⟨d, k, P ++ [(x : Int)], hnl, by go_num, A2'.out, hPW3.out, by simpa using hown', hB5⟩
          case measure => simp [sliceLen]; omega
        · have h5 := A4.out x (by omega)
          rw [HlF.out] at h5
          have hne : (lenF m t (nx m cur (x : Int)) != c - 1) = true := by simp; omega
          clear h5
          generalize lenF m t (nx m cur (x : Int)) = q at *
          generalize nx m cur (x : Int) = d at *
          go_wp2_with fail
          go_quiet (fail)
          go_wp2
          go_roundw
          case rel => exact ⟨x + 1, by omega, by go_num, bdr hBx nq⟩
          case measure => simp [intOf]; omega
end Go.Proofs.YtibaihchnbbokaaDoor
namespace Go.Proofs.YtibaihchnbbokaaDoor
open Go.RowKit Go.Shelf
theorem state_nat {m : List (List Int)} {s : Int} (h : stateM m s = true) : ∃ k : Nat, s = k ∧ k < m.length := by
  unfold stateM inB at h
  simp at h
  exact ⟨s.toNat, by omega, by omega⟩
end Go.Proofs.YtibaihchnbbokaaDoor
namespace Go.Proofs.YtibaihchnbbokaaDoor
open Go.RowKit Go.Shelf
theorem state_of {m : List (List Int)} {t : Nat} (h : t < m.length) : stateM m (t : Int) = true := by
  unfold stateM inB
  simp; omega
end Go.Proofs.YtibaihchnbbokaaDoor
namespace Go.Proofs.YtibaihchnbbokaaDoor
open Go.RowKit Go.Shelf
set_option maxRecDepth 100000 in
set_option maxHeartbeats 1000000 in
theorem Path_arg2 (v : Value) (m : List (List Int)) (s t : Int) (w : World) (h : Rows w v m) (hv : validM m = true) (hst : (stateM m s && stateM m t) = false) :
    Calls Tryd.prog 44 #[.agg #[v], .int .i64 s, .int .i64 t] w (NoWord w 2) := by
  obtain ⟨A, cap, rfl, hml, -⟩ := id h
  obtain ⟨f0, f1⟩ := two_alloc w (.cells #[.slice A m.length cap] 24) (.cells #[.int .i64 t] 3)
  have hX := bal (bal (Below.refl _ w) (.cells #[.slice A m.length cap] 24)) (.cells #[.int .i64 t] 3)
  have Hx := hid hX
  have hbad : s < 0 ∨ (m.length : Int) ≤ s ∨ t < 0 ∨ (m.length : Int) ≤ t := by
    unfold stateM inB at hst
    by_cases a1 : s < 0
    · exact .inl a1
    by_cases a2 : (m.length : Int) ≤ s
    · exact .inr (.inl a2)
    by_cases a3 : t < 0
    · exact .inr (.inr (.inl a3))
    by_cases a4 : (m.length : Int) ≤ t
    · exact .inr (.inr (.inr a4))
    exfalso
    simp at hst
    omega
  go_enter Tryd.func44, Tryd.ntmps44
  go_wp2_with fail
  generalize (w.alloc (.cells #[.slice A m.length cap] 24)).alloc (.cells #[.int .i64 t] 3) = X at *
  clear hX
  have hX := Hx.out
  have hl1 : w.heap.size + 1 < X.heap.size := lt_of_block f1
  have hl0 : w.heap.size < X.heap.size := lt_of_block f0
  have c0 := cell_of_one f0
  have c1 := cell_of_one f1
  clear f0 f1
  have hr := h.below hX
  refine (Valid_bool _ m true _ hr hv).mono ?_
  rintro e w1 ⟨rfl, h1⟩
  have e0 := (h1.cell (p := ⟨w.heap.size, 0, none⟩) hl0).trans c0
  have e1 := (h1.cell (p := ⟨w.heap.size + 1, 0, none⟩) hl1).trans c1
  clear c0 c1 hr h Hx
  by_cases a1 : s < 0
  · go_wp2
    go_ret2
    exact ⟨rfl, btr hX h1⟩
  by_cases a2 : (m.length : Int) ≤ s
  · go_wp2
    go_ret2
    exact ⟨rfl, btr hX h1⟩
  by_cases a3 : t < 0
  · go_wp2
    go_ret2
    exact ⟨rfl, btr hX h1⟩
  by_cases a4 : (m.length : Int) ≤ t
  · go_wp2
    go_ret2
    exact ⟨rfl, btr hX h1⟩
  · exfalso
    omega
set_option maxRecDepth 100000 in
set_option maxHeartbeats 2000000 in
theorem paths_form (v : Value) (m : List (List Int)) (s t : Int) (w : World) (hT : Tab w) (h : Rows w v m) (hv : validM m = false) :
    Calls Tryd.prog 10 #[.agg #[v], .int .i64 s, .int .i64 t] w fun e w' => e = .returned (.bool true) ∧ Below w.heap.size w w' := by
  obtain ⟨A, cap, rfl, hml, -⟩ := id h
  have hX := bal (Below.refl _ w) (.cells #[.slice A m.length cap] 24)
  have hbx := (Boxed.new w 24 (.slice A m.length cap)).cell
  have hr := h.below hX
  have hTX := hT.on hX
  go_enter Tryd.func10, Tryd.ntmps10
  go_wp2_with fail
  refine (Connected_form _ m _ hr hv).mono ?_
  rintro e w1 ⟨rfl, h1⟩
  have B1 := h1
  have c1 := (h1.cell (p := ⟨w.heap.size, 0, none⟩) (World.block_lt_of_cell? _ _ hbx)).trans hbx
  clear hbx
  go_wp2_with fail
  refine (Path_form _ m s t _ (hr.below B1) hv).mono ?_
  rintro e w2 ⟨rfl, h2⟩
  have B2 := btr B1 h2
  have c2 := (h2.cell (p := ⟨w.heap.size, 0, none⟩) (World.block_lt_of_cell? _ _ c1)).trans c1
  clear c1
  go_wp2_with fail
  refine (rValid_bool _ m false _ (hr.below B2) hv).mono ?_
  rintro e w3 ⟨rfl, h3⟩
  have B3 := btr B2 h3
  have c3 := (h3.cell (p := ⟨w.heap.size, 0, none⟩) (World.block_lt_of_cell? _ _ c2)).trans c2
  clear c2
  have hTz := hTX.on B3
  go_wp2_with fail
  refine (awake2_any _ hTz).mono ?_
  rintro e wz ⟨rfl, hz⟩
  go_wp2
  go_ret
  exact ⟨rfl, btr hX (btr B3 hz)⟩
theorem Path_ref (v : Value) (m : List (List Int)) (s t j : Nat) (W : List Int) (w : World) (h : Rows w v m) (hv : validM m = true) (hs : s < m.length) (ht : t < m.length) (hd : distP m s j t) (hW : Hid (refW m t j s = W)) :
    Calls Tryd.prog 44 #[.agg #[v], .int .i64 s, .int .i64 t] w fun e w' => ∃ A c, e = .returned (.tuple #[.slice A W.length c, .int .i64 0]) ∧ Ints w' (.slice A W.length c) W ∧ Below w.heap.size w w' := by
  have hr : reachP m s t := by
    obtain ⟨u, a, _, b⟩ := hd.1
    exact ⟨u, a, b⟩
  have hex := bfsM_has hv hs hr
  rw [← hW.out]
  refine (Path_yes v m s t w h hv hs ht hex).mono ?_
  rintro e w1 ⟨⟨i, r, hi, hp, rfl, ho⟩ | ⟨hno, _⟩, hb⟩
  · have he := refW_word hv hs hd hi hp
    have a1 := wordB_len (bfsM_good hv hs).tree i hi
    have a2 := (bfsM_good hv hs).len
    have hm := (valid_parts hv).2.1
    have hI : Ints w1 r (wordB (bfsM m s) i) := Ints.of_own ho (by unfold big; omega)
    rw [he] at hI
    obtain ⟨A, c, rfl, _⟩ := id hI
    exact ⟨A, c, rfl, hI, hb⟩
  · obtain ⟨i, hi, hp⟩ := hex
    exact absurd hp (hno i hi)
theorem rPath_ref (v : Value) (m : List (List Int)) (s t j : Nat) (W : List Int) (w : World) (h : Rows w v m) (hv : validM m = true) (hs : s < m.length) (ht : t < m.length) (hd : distP m s j t) (hW : Hid (refW m t j s = W)) :
    Calls Tryd.prog 47 #[.agg #[v], .int .i64 s, .int .i64 t] w fun e w' => ∃ A c, e = .returned (.tuple #[.slice A W.length c, .bool true]) ∧ Ints w' (.slice A W.length c) W ∧ Below w.heap.size w w' := by
  rw [← hW.out]
  refine (rPath_yes v m s t j w h hv hs ht hd).mono ?_
  rintro e w1 ⟨r, rfl, hi, hb⟩
  obtain ⟨A, c, rfl, _⟩ := id hi
  exact ⟨A, c, rfl, hi, hb⟩
theorem Connected_as (v : Value) (m : List (List Int)) (b : Bool) (w : World) (h : Rows w v m) (hv : validM m = true) (hb : connM m = b) :
    Calls Tryd.prog 43 #[.agg #[v]] w fun e w' => e = .returned (.tuple #[.bool b, .int .i64 0]) ∧ Below w.heap.size w w' := by
  subst hb; exact Connected_ok v m w h hv
theorem same_nil (v : Value) (w : World) (h : Ints w v []) : Calls Tryd.prog 27 #[v, .slice none 0 0] w fun e w' => e = .returned (.bool true) ∧ Below w.heap.size w w' :=
  rSame_eq v _ [] w h ⟨none, 0, rfl, by unfold big; simp, fun i hi => by simp at hi⟩
theorem ints_nil (w : World) : Ints w (.slice none 0 0) [] := ⟨none, 0, rfl, by unfold big; simp, fun i hi => by simp at hi⟩
set_option maxRecDepth 100000 in
set_option maxHeartbeats 2000000 in
theorem paths_arg1_true (v : Value) (m : List (List Int)) (s t : Int) (w : World) (hT : Tab w) (h : Rows w v m) (hv : validM m = true) (hc : connM m = true) (hs : stateM m s = false) :
    Calls Tryd.prog 10 #[.agg #[v], .int .i64 s, .int .i64 t] w fun e w' => e = .returned (.bool true) ∧ Below w.heap.size w w' := by
  have hst : (stateM m s && stateM m t) = false := by rw [hs]; rfl
  obtain ⟨A, cap, rfl, hml, -⟩ := id h
  have hX := bal (Below.refl _ w) (.cells #[.slice A m.length cap] 24)
  have hbx := (Boxed.new w 24 (.slice A m.length cap)).cell
  have hr := h.below hX
  have hTX := hT.on hX
  go_enter Tryd.func10, Tryd.ntmps10
  go_wp2_with fail
  refine (Connected_as _ m true _ hr hv hc).mono ?_
  rintro e w1 ⟨rfl, h1⟩
  have B1 := h1
  have c1 := (h1.cell (p := ⟨w.heap.size, 0, none⟩) (World.block_lt_of_cell? _ _ hbx)).trans hbx
  clear hbx
  go_wp2_with fail
  refine (Path_arg2 _ m s t _ (hr.below B1) hv hst).mono ?_
  rintro e w2 ⟨rfl, h2⟩
  have B2 := btr B1 h2
  have c2 := (h2.cell (p := ⟨w.heap.size, 0, none⟩) (World.block_lt_of_cell? _ _ c1)).trans c1
  clear c1
  go_wp2_with fail
  refine (rValid_bool _ m true _ (hr.below B2) hv).mono ?_
  rintro e w3 ⟨rfl, h3⟩
  have B3 := btr B2 h3
  have c3 := (h3.cell (p := ⟨w.heap.size, 0, none⟩) (World.block_lt_of_cell? _ _ c2)).trans c2
  clear c2
  go_wp2_with fail
  refine (rConnected_bool _ m true _ (hr.below B3) hv hc).mono ?_
  rintro e w4 ⟨rfl, h4⟩
  have B4 := btr B3 h4
  have c4 := (h4.cell (p := ⟨w.heap.size, 0, none⟩) (World.block_lt_of_cell? _ _ c3)).trans c3
  clear c3
  go_wp2_with fail
  refine (rState_bool _ m s false _ (hr.below B4) hs).mono ?_
  rintro e w5 ⟨rfl, h5⟩
  have B5 := btr B4 h5
  have c5 := (h5.cell (p := ⟨w.heap.size, 0, none⟩) (World.block_lt_of_cell? _ _ c4)).trans c4
  clear c4
  go_wp2_with fail
  refine (same_nil _ _ (ints_nil _)).mono ?_
  rintro e w6 ⟨rfl, h6⟩
  have B6 := btr B5 h6
  have c6 := (h6.cell (p := ⟨w.heap.size, 0, none⟩) (World.block_lt_of_cell? _ _ c5)).trans c5
  clear c5
  have hTz := hTX.on B6
  go_wp2_with fail
  refine (awake2_any _ hTz).mono ?_
  rintro e wz ⟨rfl, hz⟩
  go_wp2
  go_ret
  exact ⟨rfl, btr hX (btr B6 hz)⟩
set_option maxRecDepth 100000 in
set_option maxHeartbeats 2000000 in
theorem paths_arg2_true (v : Value) (m : List (List Int)) (s t : Int) (w : World) (hT : Tab w) (h : Rows w v m) (hv : validM m = true) (hc : connM m = true) (hs : stateM m s = true) (ht : stateM m t = false) :
    Calls Tryd.prog 10 #[.agg #[v], .int .i64 s, .int .i64 t] w fun e w' => e = .returned (.bool true) ∧ Below w.heap.size w w' := by
  have hst : (stateM m s && stateM m t) = false := by rw [ht, Bool.and_false]
  obtain ⟨A, cap, rfl, hml, -⟩ := id h
  have hX := bal (Below.refl _ w) (.cells #[.slice A m.length cap] 24)
  have hbx := (Boxed.new w 24 (.slice A m.length cap)).cell
  have hr := h.below hX
  have hTX := hT.on hX
  go_enter Tryd.func10, Tryd.ntmps10
  go_wp2_with fail
  refine (Connected_as _ m true _ hr hv hc).mono ?_
  rintro e w1 ⟨rfl, h1⟩
  have B1 := h1
  have c1 := (h1.cell (p := ⟨w.heap.size, 0, none⟩) (World.block_lt_of_cell? _ _ hbx)).trans hbx
  clear hbx
  go_wp2_with fail
  refine (Path_arg2 _ m s t _ (hr.below B1) hv hst).mono ?_
  rintro e w2 ⟨rfl, h2⟩
  have B2 := btr B1 h2
  have c2 := (h2.cell (p := ⟨w.heap.size, 0, none⟩) (World.block_lt_of_cell? _ _ c1)).trans c1
  clear c1
  go_wp2_with fail
  refine (rValid_bool _ m true _ (hr.below B2) hv).mono ?_
  rintro e w3 ⟨rfl, h3⟩
  have B3 := btr B2 h3
  have c3 := (h3.cell (p := ⟨w.heap.size, 0, none⟩) (World.block_lt_of_cell? _ _ c2)).trans c2
  clear c2
  go_wp2_with fail
  refine (rConnected_bool _ m true _ (hr.below B3) hv hc).mono ?_
  rintro e w4 ⟨rfl, h4⟩
  have B4 := btr B3 h4
  have c4 := (h4.cell (p := ⟨w.heap.size, 0, none⟩) (World.block_lt_of_cell? _ _ c3)).trans c3
  clear c3
  go_wp2_with fail
  refine (rState_bool _ m s true _ (hr.below B4) hs).mono ?_
  rintro e w5 ⟨rfl, h5⟩
  have B5 := btr B4 h5
  have c5 := (h5.cell (p := ⟨w.heap.size, 0, none⟩) (World.block_lt_of_cell? _ _ c4)).trans c4
  clear c4
  go_wp2_with fail
  refine (rState_bool _ m t false _ (hr.below B5) ht).mono ?_
  rintro e w6 ⟨rfl, h6⟩
  have B6 := btr B5 h6
  have c6 := (h6.cell (p := ⟨w.heap.size, 0, none⟩) (World.block_lt_of_cell? _ _ c5)).trans c5
  clear c5
  go_wp2_with fail
  refine (same_nil _ _ (ints_nil _)).mono ?_
  rintro e w7 ⟨rfl, h7⟩
  have B7 := btr B6 h7
  have c7 := (h7.cell (p := ⟨w.heap.size, 0, none⟩) (World.block_lt_of_cell? _ _ c6)).trans c6
  clear c6
  have hTz := hTX.on B7
  go_wp2_with fail
  refine (awake2_any _ hTz).mono ?_
  rintro e wz ⟨rfl, hz⟩
  go_wp2
  go_ret
  exact ⟨rfl, btr hX (btr B7 hz)⟩
set_option maxRecDepth 100000 in
set_option maxHeartbeats 2000000 in
theorem paths_none_true (v : Value) (m : List (List Int)) (s t : Nat) (w : World) (hT : Tab w) (h : Rows w v m) (hv : validM m = true) (hc : connM m = true) (hs : s < m.length) (ht : t < m.length) (hb : reachB m s t = false) :
    Calls Tryd.prog 10 #[.agg #[v], .int .i64 s, .int .i64 t] w fun e w' => e = .returned (.bool true) ∧ Below w.heap.size w w' := by
  have hls : lenF m t s = -1 := by
    rcases lenF_spec hv (t := t) hs with ⟨h1, _⟩ | ⟨i, _, _, h3⟩
    · exact h1
    · obtain ⟨u, a, _, b⟩ := h3.1
      have := (reachB_iff hv hs t).2 ⟨u, a, b⟩
      rw [hb] at this; cases this
  obtain ⟨A, cap, rfl, hml, -⟩ := id h
  have hX := bal (Below.refl _ w) (.cells #[.slice A m.length cap] 24)
  have hbx := (Boxed.new w 24 (.slice A m.length cap)).cell
  have hr := h.below hX
  have hTX := hT.on hX
  go_enter Tryd.func10, Tryd.ntmps10
  go_wp2_with fail
  refine (Connected_as _ m true _ hr hv hc).mono ?_
  rintro e w1 ⟨rfl, h1⟩
  have B1 := h1
  have c1 := (h1.cell (p := ⟨w.heap.size, 0, none⟩) (World.block_lt_of_cell? _ _ hbx)).trans hbx
  clear hbx
  go_wp2_with fail
  refine (Path_bad _ m s t _ (hr.below B1) hv hs ht hb).mono ?_
  rintro e w2 ⟨rfl, h2⟩
  have B2 := btr B1 h2
  have c2 := (h2.cell (p := ⟨w.heap.size, 0, none⟩) (World.block_lt_of_cell? _ _ c1)).trans c1
  clear c1
  go_wp2_with fail
  refine (rValid_bool _ m true _ (hr.below B2) hv).mono ?_
  rintro e w3 ⟨rfl, h3⟩
  have B3 := btr B2 h3
  have c3 := (h3.cell (p := ⟨w.heap.size, 0, none⟩) (World.block_lt_of_cell? _ _ c2)).trans c2
  clear c2
  go_wp2_with fail
  refine (rConnected_bool _ m true _ (hr.below B3) hv hc).mono ?_
  rintro e w4 ⟨rfl, h4⟩
  have B4 := btr B3 h4
  have c4 := (h4.cell (p := ⟨w.heap.size, 0, none⟩) (World.block_lt_of_cell? _ _ c3)).trans c3
  clear c3
  go_wp2_with fail
  refine (rState_bool _ m s true _ (hr.below B4) (state_of hs)).mono ?_
  rintro e w5 ⟨rfl, h5⟩
  have B5 := btr B4 h5
  have c5 := (h5.cell (p := ⟨w.heap.size, 0, none⟩) (World.block_lt_of_cell? _ _ c4)).trans c4
  clear c4
  go_wp2_with fail
  refine (rState_bool _ m t true _ (hr.below B5) (state_of ht)).mono ?_
  rintro e w6 ⟨rfl, h6⟩
  have B6 := btr B5 h6
  have c6 := (h6.cell (p := ⟨w.heap.size, 0, none⟩) (World.block_lt_of_cell? _ _ c5)).trans c5
  clear c5
  go_wp2_with fail
  refine (rPath_no _ m s t _ (hr.below B6) hv hs ht hls).mono ?_
  rintro e w7 ⟨rfl, h7⟩
  have B7 := btr B6 h7
  have c7 := (h7.cell (p := ⟨w.heap.size, 0, none⟩) (World.block_lt_of_cell? _ _ c6)).trans c6
  clear c6
  go_wp2_with fail
  refine (same_nil _ _ (ints_nil _)).mono ?_
  rintro e w8 ⟨rfl, h8⟩
  have B8 := btr B7 h8
  have c8 := (h8.cell (p := ⟨w.heap.size, 0, none⟩) (World.block_lt_of_cell? _ _ c7)).trans c7
  clear c7
  have hTz := hTX.on B8
  go_wp2_with fail
  refine (awake2_any _ hTz).mono ?_
  rintro e wz ⟨rfl, hz⟩
  go_wp2
  go_ret
  exact ⟨rfl, btr hX (btr B8 hz)⟩
set_option maxRecDepth 100000 in
set_option maxHeartbeats 2000000 in
theorem paths_word_true (v : Value) (m : List (List Int)) (s t : Nat) (w : World) (hT : Tab w) (h : Rows w v m) (hv : validM m = true) (hc : connM m = true) (hs : s < m.length) (ht : t < m.length) (hb : reachB m s t = true) :
    Calls Tryd.prog 10 #[.agg #[v], .int .i64 s, .int .i64 t] w fun e w' => e = .returned (.bool true) ∧ Below w.heap.size w w' := by
  obtain ⟨j, hd⟩ : ∃ j, distP m s j t := by
    rcases lenF_spec hv (t := t) hs with ⟨_, h2⟩ | ⟨i, _, _, h3⟩
    · exact absurd ((reachB_iff hv hs t).1 hb) h2
    · exact ⟨i, h3⟩
  obtain ⟨W, HW⟩ : ∃ W, Hid (refW m t j s = W) := ⟨_, hid rfl⟩
  obtain ⟨A, cap, rfl, hml, -⟩ := id h
  have hX := bal (Below.refl _ w) (.cells #[.slice A m.length cap] 24)
  have hbx := (Boxed.new w 24 (.slice A m.length cap)).cell
  have hr := h.below hX
  have hTX := hT.on hX
  go_enter Tryd.func10, Tryd.ntmps10
  go_wp2_with fail
  refine (Connected_as _ m true _ hr hv hc).mono ?_
  rintro e w1 ⟨rfl, h1⟩
  have B1 := h1
  have c1 := (h1.cell (p := ⟨w.heap.size, 0, none⟩) (World.block_lt_of_cell? _ _ hbx)).trans hbx
  clear hbx
  go_wp2_with fail
  refine (Path_ref _ m s t j W _ (hr.below B1) hv hs ht hd HW).mono ?_
  rintro e w2 ⟨A2, q2, rfl, i2, h2⟩
  have B2 := btr B1 h2
  have c2 := (h2.cell (p := ⟨w.heap.size, 0, none⟩) (World.block_lt_of_cell? _ _ c1)).trans c1
  clear c1
  go_wp2_with fail
  refine (rValid_bool _ m true _ (hr.below B2) hv).mono ?_
  rintro e w3 ⟨rfl, h3⟩
  have B3 := btr B2 h3
  have c3 := (h3.cell (p := ⟨w.heap.size, 0, none⟩) (World.block_lt_of_cell? _ _ c2)).trans c2
  clear c2
  go_wp2_with fail
  refine (rConnected_bool _ m true _ (hr.below B3) hv hc).mono ?_
  rintro e w4 ⟨rfl, h4⟩
  have B4 := btr B3 h4
  have c4 := (h4.cell (p := ⟨w.heap.size, 0, none⟩) (World.block_lt_of_cell? _ _ c3)).trans c3
  clear c3
  go_wp2_with fail
  refine (rState_bool _ m s true _ (hr.below B4) (state_of hs)).mono ?_
  rintro e w5 ⟨rfl, h5⟩
  have B5 := btr B4 h5
  have c5 := (h5.cell (p := ⟨w.heap.size, 0, none⟩) (World.block_lt_of_cell? _ _ c4)).trans c4
  clear c4
  go_wp2_with fail
  refine (rState_bool _ m t true _ (hr.below B5) (state_of ht)).mono ?_
  rintro e w6 ⟨rfl, h6⟩
  have B6 := btr B5 h6
  have c6 := (h6.cell (p := ⟨w.heap.size, 0, none⟩) (World.block_lt_of_cell? _ _ c5)).trans c5
  clear c5
  go_wp2_with fail
  refine (rPath_ref _ m s t j W _ (hr.below B6) hv hs ht hd HW).mono ?_
  rintro e w7 ⟨A7, q7, rfl, i7, h7⟩
  have B7 := btr B6 h7
  have c7 := (h7.cell (p := ⟨w.heap.size, 0, none⟩) (World.block_lt_of_cell? _ _ c6)).trans c6
  clear c6
  have i27 := i2.below (btr h3 (btr h4 (btr h5 (btr h6 h7))))
  clear i2
  go_wp2_with fail
  refine (rSame_eq _ _ W _ i27 i7).mono ?_
  rintro e w8 ⟨rfl, h8⟩
  have B8 := btr B7 h8
  have c8 := (h8.cell (p := ⟨w.heap.size, 0, none⟩) (World.block_lt_of_cell? _ _ c7)).trans c7
  clear c7
  have hTz := hTX.on B8
  go_wp2_with fail
  refine (awake2_any _ hTz).mono ?_
  rintro e wz ⟨rfl, hz⟩
  go_wp2
  go_ret
  exact ⟨rfl, btr hX (btr B8 hz)⟩
set_option maxRecDepth 100000 in
set_option maxHeartbeats 2000000 in
theorem paths_arg1_false (v : Value) (m : List (List Int)) (s t : Int) (w : World) (hT : Tab w) (h : Rows w v m) (hv : validM m = true) (hc : connM m = false) (hs : stateM m s = false) :
    Calls Tryd.prog 10 #[.agg #[v], .int .i64 s, .int .i64 t] w fun e w' => e = .returned (.bool true) ∧ Below w.heap.size w w' := by
  have hst : (stateM m s && stateM m t) = false := by rw [hs]; rfl
  obtain ⟨A, cap, rfl, hml, -⟩ := id h
  have hX := bal (Below.refl _ w) (.cells #[.slice A m.length cap] 24)
  have hbx := (Boxed.new w 24 (.slice A m.length cap)).cell
  have hr := h.below hX
  have hTX := hT.on hX
  go_enter Tryd.func10, Tryd.ntmps10
  go_wp2_with fail
  refine (Connected_as _ m false _ hr hv hc).mono ?_
  rintro e w1 ⟨rfl, h1⟩
  have B1 := h1
  have c1 := (h1.cell (p := ⟨w.heap.size, 0, none⟩) (World.block_lt_of_cell? _ _ hbx)).trans hbx
  clear hbx
  go_wp2_with fail
  refine (Path_arg2 _ m s t _ (hr.below B1) hv hst).mono ?_
  rintro e w2 ⟨rfl, h2⟩
  have B2 := btr B1 h2
  have c2 := (h2.cell (p := ⟨w.heap.size, 0, none⟩) (World.block_lt_of_cell? _ _ c1)).trans c1
  clear c1
  go_wp2_with fail
  refine (rValid_bool _ m true _ (hr.below B2) hv).mono ?_
  rintro e w3 ⟨rfl, h3⟩
  have B3 := btr B2 h3
  have c3 := (h3.cell (p := ⟨w.heap.size, 0, none⟩) (World.block_lt_of_cell? _ _ c2)).trans c2
  clear c2
  go_wp2_with fail
  refine (rConnected_bool _ m false _ (hr.below B3) hv hc).mono ?_
  rintro e w4 ⟨rfl, h4⟩
  have B4 := btr B3 h4
  have c4 := (h4.cell (p := ⟨w.heap.size, 0, none⟩) (World.block_lt_of_cell? _ _ c3)).trans c3
  clear c3
  go_wp2_with fail
  refine (rState_bool _ m s false _ (hr.below B4) hs).mono ?_
  rintro e w5 ⟨rfl, h5⟩
  have B5 := btr B4 h5
  have c5 := (h5.cell (p := ⟨w.heap.size, 0, none⟩) (World.block_lt_of_cell? _ _ c4)).trans c4
  clear c4
  go_wp2_with fail
  refine (same_nil _ _ (ints_nil _)).mono ?_
  rintro e w6 ⟨rfl, h6⟩
  have B6 := btr B5 h6
  have c6 := (h6.cell (p := ⟨w.heap.size, 0, none⟩) (World.block_lt_of_cell? _ _ c5)).trans c5
  clear c5
  have hTz := hTX.on B6
  go_wp2_with fail
  refine (awake2_any _ hTz).mono ?_
  rintro e wz ⟨rfl, hz⟩
  go_wp2
  go_ret
  exact ⟨rfl, btr hX (btr B6 hz)⟩
set_option maxRecDepth 100000 in
set_option maxHeartbeats 2000000 in
theorem paths_arg2_false (v : Value) (m : List (List Int)) (s t : Int) (w : World) (hT : Tab w) (h : Rows w v m) (hv : validM m = true) (hc : connM m = false) (hs : stateM m s = true) (ht : stateM m t = false) :
    Calls Tryd.prog 10 #[.agg #[v], .int .i64 s, .int .i64 t] w fun e w' => e = .returned (.bool true) ∧ Below w.heap.size w w' := by
  have hst : (stateM m s && stateM m t) = false := by rw [ht, Bool.and_false]
  obtain ⟨A, cap, rfl, hml, -⟩ := id h
  have hX := bal (Below.refl _ w) (.cells #[.slice A m.length cap] 24)
  have hbx := (Boxed.new w 24 (.slice A m.length cap)).cell
  have hr := h.below hX
  have hTX := hT.on hX
  go_enter Tryd.func10, Tryd.ntmps10
  go_wp2_with fail
  refine (Connected_as _ m false _ hr hv hc).mono ?_
  rintro e w1 ⟨rfl, h1⟩
  have B1 := h1
  have c1 := (h1.cell (p := ⟨w.heap.size, 0, none⟩) (World.block_lt_of_cell? _ _ hbx)).trans hbx
  clear hbx
  go_wp2_with fail
  refine (Path_arg2 _ m s t _ (hr.below B1) hv hst).mono ?_
  rintro e w2 ⟨rfl, h2⟩
  have B2 := btr B1 h2
  have c2 := (h2.cell (p := ⟨w.heap.size, 0, none⟩) (World.block_lt_of_cell? _ _ c1)).trans c1
  clear c1
  go_wp2_with fail
  refine (rValid_bool _ m true _ (hr.below B2) hv).mono ?_
  rintro e w3 ⟨rfl, h3⟩
  have B3 := btr B2 h3
  have c3 := (h3.cell (p := ⟨w.heap.size, 0, none⟩) (World.block_lt_of_cell? _ _ c2)).trans c2
  clear c2
  go_wp2_with fail
  refine (rConnected_bool _ m false _ (hr.below B3) hv hc).mono ?_
  rintro e w4 ⟨rfl, h4⟩
  have B4 := btr B3 h4
  have c4 := (h4.cell (p := ⟨w.heap.size, 0, none⟩) (World.block_lt_of_cell? _ _ c3)).trans c3
  clear c3
  go_wp2_with fail
  refine (rState_bool _ m s true _ (hr.below B4) hs).mono ?_
  rintro e w5 ⟨rfl, h5⟩
  have B5 := btr B4 h5
  have c5 := (h5.cell (p := ⟨w.heap.size, 0, none⟩) (World.block_lt_of_cell? _ _ c4)).trans c4
  clear c4
  go_wp2_with fail
  refine (rState_bool _ m t false _ (hr.below B5) ht).mono ?_
  rintro e w6 ⟨rfl, h6⟩
  have B6 := btr B5 h6
  have c6 := (h6.cell (p := ⟨w.heap.size, 0, none⟩) (World.block_lt_of_cell? _ _ c5)).trans c5
  clear c5
  go_wp2_with fail
  refine (same_nil _ _ (ints_nil _)).mono ?_
  rintro e w7 ⟨rfl, h7⟩
  have B7 := btr B6 h7
  have c7 := (h7.cell (p := ⟨w.heap.size, 0, none⟩) (World.block_lt_of_cell? _ _ c6)).trans c6
  clear c6
  have hTz := hTX.on B7
  go_wp2_with fail
  refine (awake2_any _ hTz).mono ?_
  rintro e wz ⟨rfl, hz⟩
  go_wp2
  go_ret
  exact ⟨rfl, btr hX (btr B7 hz)⟩
set_option maxRecDepth 100000 in
set_option maxHeartbeats 2000000 in
theorem paths_none_false (v : Value) (m : List (List Int)) (s t : Nat) (w : World) (hT : Tab w) (h : Rows w v m) (hv : validM m = true) (hc : connM m = false) (hs : s < m.length) (ht : t < m.length) (hb : reachB m s t = false) :
    Calls Tryd.prog 10 #[.agg #[v], .int .i64 s, .int .i64 t] w fun e w' => e = .returned (.bool true) ∧ Below w.heap.size w w' := by
  have hls : lenF m t s = -1 := by
    rcases lenF_spec hv (t := t) hs with ⟨h1, _⟩ | ⟨i, _, _, h3⟩
    · exact h1
    · obtain ⟨u, a, _, b⟩ := h3.1
      have := (reachB_iff hv hs t).2 ⟨u, a, b⟩
      rw [hb] at this; cases this
  obtain ⟨A, cap, rfl, hml, -⟩ := id h
  have hX := bal (Below.refl _ w) (.cells #[.slice A m.length cap] 24)
  have hbx := (Boxed.new w 24 (.slice A m.length cap)).cell
  have hr := h.below hX
  have hTX := hT.on hX
  go_enter Tryd.func10, Tryd.ntmps10
  go_wp2_with fail
  refine (Connected_as _ m false _ hr hv hc).mono ?_
  rintro e w1 ⟨rfl, h1⟩
  have B1 := h1
  have c1 := (h1.cell (p := ⟨w.heap.size, 0, none⟩) (World.block_lt_of_cell? _ _ hbx)).trans hbx
  clear hbx
  go_wp2_with fail
  refine (Path_bad _ m s t _ (hr.below B1) hv hs ht hb).mono ?_
  rintro e w2 ⟨rfl, h2⟩
  have B2 := btr B1 h2
  have c2 := (h2.cell (p := ⟨w.heap.size, 0, none⟩) (World.block_lt_of_cell? _ _ c1)).trans c1
  clear c1
  go_wp2_with fail
  refine (rValid_bool _ m true _ (hr.below B2) hv).mono ?_
  rintro e w3 ⟨rfl, h3⟩
  have B3 := btr B2 h3
  have c3 := (h3.cell (p := ⟨w.heap.size, 0, none⟩) (World.block_lt_of_cell? _ _ c2)).trans c2
  clear c2
  go_wp2_with fail
  refine (rConnected_bool _ m false _ (hr.below B3) hv hc).mono ?_
  rintro e w4 ⟨rfl, h4⟩
  have B4 := btr B3 h4
  have c4 := (h4.cell (p := ⟨w.heap.size, 0, none⟩) (World.block_lt_of_cell? _ _ c3)).trans c3
  clear c3
  go_wp2_with fail
  refine (rState_bool _ m s true _ (hr.below B4) (state_of hs)).mono ?_
  rintro e w5 ⟨rfl, h5⟩
  have B5 := btr B4 h5
  have c5 := (h5.cell (p := ⟨w.heap.size, 0, none⟩) (World.block_lt_of_cell? _ _ c4)).trans c4
  clear c4
  go_wp2_with fail
  refine (rState_bool _ m t true _ (hr.below B5) (state_of ht)).mono ?_
  rintro e w6 ⟨rfl, h6⟩
  have B6 := btr B5 h6
  have c6 := (h6.cell (p := ⟨w.heap.size, 0, none⟩) (World.block_lt_of_cell? _ _ c5)).trans c5
  clear c5
  go_wp2_with fail
  refine (rPath_no _ m s t _ (hr.below B6) hv hs ht hls).mono ?_
  rintro e w7 ⟨rfl, h7⟩
  have B7 := btr B6 h7
  have c7 := (h7.cell (p := ⟨w.heap.size, 0, none⟩) (World.block_lt_of_cell? _ _ c6)).trans c6
  clear c6
  go_wp2_with fail
  refine (same_nil _ _ (ints_nil _)).mono ?_
  rintro e w8 ⟨rfl, h8⟩
  have B8 := btr B7 h8
  have c8 := (h8.cell (p := ⟨w.heap.size, 0, none⟩) (World.block_lt_of_cell? _ _ c7)).trans c7
  clear c7
  have hTz := hTX.on B8
  go_wp2_with fail
  refine (awake2_any _ hTz).mono ?_
  rintro e wz ⟨rfl, hz⟩
  go_wp2
  go_ret
  exact ⟨rfl, btr hX (btr B8 hz)⟩
set_option maxRecDepth 100000 in
set_option maxHeartbeats 2000000 in
theorem paths_word_false (v : Value) (m : List (List Int)) (s t : Nat) (w : World) (hT : Tab w) (h : Rows w v m) (hv : validM m = true) (hc : connM m = false) (hs : s < m.length) (ht : t < m.length) (hb : reachB m s t = true) :
    Calls Tryd.prog 10 #[.agg #[v], .int .i64 s, .int .i64 t] w fun e w' => e = .returned (.bool true) ∧ Below w.heap.size w w' := by
  obtain ⟨j, hd⟩ : ∃ j, distP m s j t := by
    rcases lenF_spec hv (t := t) hs with ⟨_, h2⟩ | ⟨i, _, _, h3⟩
    · exact absurd ((reachB_iff hv hs t).1 hb) h2
    · exact ⟨i, h3⟩
  obtain ⟨W, HW⟩ : ∃ W, Hid (refW m t j s = W) := ⟨_, hid rfl⟩
  obtain ⟨A, cap, rfl, hml, -⟩ := id h
  have hX := bal (Below.refl _ w) (.cells #[.slice A m.length cap] 24)
  have hbx := (Boxed.new w 24 (.slice A m.length cap)).cell
  have hr := h.below hX
  have hTX := hT.on hX
  go_enter Tryd.func10, Tryd.ntmps10
  go_wp2_with fail
  refine (Connected_as _ m false _ hr hv hc).mono ?_
  rintro e w1 ⟨rfl, h1⟩
  have B1 := h1
  have c1 := (h1.cell (p := ⟨w.heap.size, 0, none⟩) (World.block_lt_of_cell? _ _ hbx)).trans hbx
  clear hbx
  go_wp2_with fail
  refine (Path_ref _ m s t j W _ (hr.below B1) hv hs ht hd HW).mono ?_
  rintro e w2 ⟨A2, q2, rfl, i2, h2⟩
  have B2 := btr B1 h2
  have c2 := (h2.cell (p := ⟨w.heap.size, 0, none⟩) (World.block_lt_of_cell? _ _ c1)).trans c1
  clear c1
  go_wp2_with fail
  refine (rValid_bool _ m true _ (hr.below B2) hv).mono ?_
  rintro e w3 ⟨rfl, h3⟩
  have B3 := btr B2 h3
  have c3 := (h3.cell (p := ⟨w.heap.size, 0, none⟩) (World.block_lt_of_cell? _ _ c2)).trans c2
  clear c2
  go_wp2_with fail
  refine (rConnected_bool _ m false _ (hr.below B3) hv hc).mono ?_
  rintro e w4 ⟨rfl, h4⟩
  have B4 := btr B3 h4
  have c4 := (h4.cell (p := ⟨w.heap.size, 0, none⟩) (World.block_lt_of_cell? _ _ c3)).trans c3
  clear c3
  go_wp2_with fail
  refine (rState_bool _ m s true _ (hr.below B4) (state_of hs)).mono ?_
  rintro e w5 ⟨rfl, h5⟩
  have B5 := btr B4 h5
  have c5 := (h5.cell (p := ⟨w.heap.size, 0, none⟩) (World.block_lt_of_cell? _ _ c4)).trans c4
  clear c4
  go_wp2_with fail
  refine (rState_bool _ m t true _ (hr.below B5) (state_of ht)).mono ?_
  rintro e w6 ⟨rfl, h6⟩
  have B6 := btr B5 h6
  have c6 := (h6.cell (p := ⟨w.heap.size, 0, none⟩) (World.block_lt_of_cell? _ _ c5)).trans c5
  clear c5
  go_wp2_with fail
  refine (rPath_ref _ m s t j W _ (hr.below B6) hv hs ht hd HW).mono ?_
  rintro e w7 ⟨A7, q7, rfl, i7, h7⟩
  have B7 := btr B6 h7
  have c7 := (h7.cell (p := ⟨w.heap.size, 0, none⟩) (World.block_lt_of_cell? _ _ c6)).trans c6
  clear c6
  have i27 := i2.below (btr h3 (btr h4 (btr h5 (btr h6 h7))))
  clear i2
  go_wp2_with fail
  refine (rSame_eq _ _ W _ i27 i7).mono ?_
  rintro e w8 ⟨rfl, h8⟩
  have B8 := btr B7 h8
  have c8 := (h8.cell (p := ⟨w.heap.size, 0, none⟩) (World.block_lt_of_cell? _ _ c7)).trans c7
  clear c7
  have hTz := hTX.on B8
  go_wp2_with fail
  refine (awake2_any _ hTz).mono ?_
  rintro e wz ⟨rfl, hz⟩
  go_wp2
  go_ret
  exact ⟨rfl, btr hX (btr B8 hz)⟩
theorem netPaths_any (v : Value) (m : List (List Int)) (s t : Int) (w : World) (hT : Tab w) (h : Rows w v m) :
    Calls Tryd.prog 10 #[.agg #[v], .int .i64 s, .int .i64 t] w fun e w' => e = .returned (.bool true) ∧ Below w.heap.size w w' := by
  cases hv : validM m with
  | false => exact paths_form v m s t w hT h hv
  | true =>
    cases hs : stateM m s with
    | false =>
      cases hc : connM m with
      | true => exact paths_arg1_true v m s t w hT h hv hc hs
      | false => exact paths_arg1_false v m s t w hT h hv hc hs
    | true =>
      cases ht : stateM m t with
      | false =>
        cases hc : connM m with
        | true => exact paths_arg2_true v m s t w hT h hv hc hs ht
        | false => exact paths_arg2_false v m s t w hT h hv hc hs ht
      | true =>
        obtain ⟨i, rfl, hi⟩ := state_nat hs
        obtain ⟨j, rfl, hj⟩ := state_nat ht
        cases hb : reachB m i j with
        | false =>
          cases hc : connM m with
          | true => exact paths_none_true v m i j w hT h hv hc hi hj hb
          | false => exact paths_none_false v m i j w hT h hv hc hi hj hb
        | true =>
          cases hc : connM m with
          | true => exact paths_word_true v m i j w hT h hv hc hi hj hb
          | false => exact paths_word_false v m i j w hT h hv hc hi hj hb
end Go.Proofs.YtibaihchnbbokaaDoor
