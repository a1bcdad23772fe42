/-
  Texts that the proof of the law stands on: N5, R7, N28, L6, L8, K1, Z1, K2, Later, K4, K3, K8, Z4, Q9, Q11, D1, Tb, E1, Z5, Z6, Z10, R8, R9, Z11, Z12, Z7, Z8, Z13.
-/
import Derived.Test.YtlpfglkopnmlnaaDoorCbB
import Derived.Shelf.RegionOpen
import Derived.WalkMore
import Derived.Scope
import Derived.Deep.RegionWith
import Derived.Deep.CutRange
import Derived.BigQuiet
import Derived.Deep.QuietTactic
import Derived.Sort.OwnSortedInts
import Derived.Lib.OwnBridge
import Derived.Test.YtlpfglkopnmlnaaDoorShelf
import Derived.Deep.RegionHeld3
import Derived.Deep.AppendLies
import Derived.Deep.RegionLaw
set_option linter.unusedVariables false
set_option linter.unusedSimpArgs false
namespace Go.Proofs.YtlpfglkopnmlnaaDoor
open Go.RowKit Go.Shelf
attribute [local go_sem] Oper.semAt_some
/-- Whether a state is the first one of a sink. -/
noncomputable def sinkAt (m : List (List Int)) (s : Nat) : Bool := (elems (reachM m s)).all fun t => !(decide (t < s)) && decide (reachM m t = reachM m s)
noncomputable def sinksTo (m : List (List Int)) (k : Nat) : List (List Int) := ((List.range k).filter (sinkAt m)).map fun s => intsOf (elems (reachM m s))
/-- Where the search for sinks stands: the sinks so far; the marks of the loops that have been. -/
structure SkRel (m : List (List Int)) (X : World) (k : Nat) (v : Value) (ds : List Nat) (W : World) : Prop where
  le : k ≤ m.length
  rows : MRows W X.heap.size v (sinksTo m k)
  nodup : ds.Nodup
  marks : ∀ D ∈ ds, X.heap.size ≤ D ∧ W.heap[D]? = some (.deferred (some []))
  below : Below X.heap.size X W
theorem row_blk {w : World} {base : Nat} {e : TypeId} {s : Nat} {v : Value} {n : Nat} {xs : List Value} (h : w.ownsRow base e s v n xs) : ∀ g, v.ownBlock = some g → base ≤ g ∧ g < w.heap.size := by
  intro g hg
  rcases h.2 with ⟨rfl, _⟩ | ⟨g', cap, cur, rfl, hb, hh, _⟩
  · cases hg
  · cases hg; exact ⟨hb, lt_of_block hh⟩
theorem mark_ne {W : World} {base : Nat} {e : TypeId} {s : Nat} {v : Value} {n : Nat} {xs : List Value} {D : Nat} (h : W.ownsRow base e s v n xs) (hD : W.heap[D]? = some (.deferred (some []))) : some D ≠ v.ownBlock := by
  intro he
  rcases h.2 with ⟨rfl, _⟩ | ⟨g', cap, cur, rfl, hb, hh, _⟩
  · cases he
  · cases he
    rw [hD] at hh
    cases hh
theorem cell_kept {W W' : World} {p : Addr} {v : Value} (hk : ∀ (k : Nat) (o : Obj), W.heap[k]? = some o → o.isCells = true → W'.heap[k]? = some o) (h : W.cell? p = some v) : W'.cell? p = some v := by
  have hb : ∃ o, W.heap[p.block]? = some o ∧ o.isCells = true := by
    unfold World.cell? at h
    split at h
    · rename_i cs t fr he
      exact ⟨_, he, rfl⟩
    · cases h
  obtain ⟨o, ho, hc⟩ := hb
  rw [← h]
  exact World.cell?_of_block ((hk _ _ ho hc).trans ho.symm)
theorem MRows.marks {W W' : World} {base : Nat} {v : Value} {m : List (List Int)} (h : MRows W base v m) (hk : ∀ (k : Nat) (o : Obj), W.heap[k]? = some o → o.isCells = true → W'.heap[k]? = some o) : MRows W' base v m := by
  obtain ⟨xs, ho, hx⟩ := h
  refine ⟨xs, ownsRow_same ho fun g hg => ?_, fun i hi => ?_⟩
  · rcases ho.2 with ⟨rfl, _⟩ | ⟨g', cap, cur, rfl, hb, hh, _⟩
    · cases hg
    · cases hg
      exact (hk _ _ hh rfl).trans hh.symm
  · obtain ⟨A, cap, hv, hl, hc⟩ := hx i hi
    refine ⟨A, cap, hv, hl, fun j hj => ?_⟩
    obtain ⟨b, off, hA, h1, h2, h3⟩ := hc j hj
    exact ⟨b, off, hA, h1, h2, cell_kept hk h3⟩
theorem sinksTo_succ (m : List (List Int)) (k : Nat) : sinksTo m (k + 1) = if sinkAt m k = true then sinksTo m k ++ [intsOf (elems (reachM m k))] else sinksTo m k := by
  unfold sinksTo
  rw [List.range_succ, List.filter_append]
  by_cases h : sinkAt m k = true <;> simp [h]
theorem sinksTo_len (m : List (List Int)) (k : Nat) : (sinksTo m k).length ≤ k := by
  unfold sinksTo
  have := List.length_filter_le (sinkAt m) (List.range k)
  simpa using this
theorem reached_as (v : Value) (m : List (List Int)) (s S : Nat) (w : World) (h : Rows w v m) (hv : validM m = true) (hs : s < m.length) (he : Hid (reachM m s = S)) :
    Calls Tryd.prog 71 #[.agg #[v], .int .i64 s] w fun e w' => e = .returned (.int .u64 (S : Int)) ∧ Below w.heap.size w w' := by
  rw [← he.out]; exact reached_any v m s w h hv hs
set_option maxRecDepth 100000 in
set_option maxHeartbeats 4000000 in
theorem Sinks_ok (v : Value) (m : List (List Int)) (w : World) (hT : Tab w) (h : Rows w v m) (hv : validM m = true) :
    Calls Tryd.prog 34 #[.agg #[v]] w fun e w' => ∃ r, e = .returned (.tuple #[r, .int .i64 0]) ∧ Rows w' r (sinksTo m m.length) ∧ Below w.heap.size w w' := by
  obtain ⟨i0, hi, hz0, hz1, hz2⟩ := info_parts infoRow
  obtain ⟨p1, p2, p3, p4, p5⟩ := valid_parts hv
  have hfo := follows
  have hr := h.alloc (.cells #[v] 24)
  obtain ⟨A, cap, rfl, hml, hc⟩ := id h
  clear hc p5
  have hbx : (w.alloc (.cells #[.slice A m.length cap] 24)).cell? ⟨w.heap.size, 0, none⟩ = some (.slice A m.length cap) := by simp
  have hX := bal (Below.refl _ w) (.cells #[.slice A m.length cap] 24)
  refine (callsIn_wide (n := 0)).1 ?_
  refine callsIn_of_wp_marks Tryd.func34 rfl trivial ?_ rfl
  simp only [Tryd.ntmps34, List.size_toArray, List.length_cons, List.length_nil, Nat.reduceAdd, Nat.reduceSub, Array.replicate_succ, Array.replicate_zero, List.push_toArray, List.append_toArray, List.nil_append, List.cons_append]
  refine wpIn_wide.2 ?_
  go_wp2_with fail
  go_step3
  go_wp2_with fail
  refine (Valid_bool _ m true _ hr hv).mono ?_
  rintro e X ⟨rfl, hb1⟩
  have hc1 := (hb1.cell (p := ⟨w.heap.size, 0, none⟩) (by simp)).trans hbx
  have hwX := btr hX hb1
  have hlt0 : w.heap.size < X.heap.size := World.block_lt_of_cell? _ _ hc1
  have hTX := hT.on hwX
  have hrX := hr.below hb1
  clear hbx hX hb1 hr
  go_wp2_with fail
  go_step3
  go_wp2_with fail
  refine wp_loop (fun a' W => ∃ (k : Nat) (v : Value) (ds : List Nat) (u5 u6 u7 u14 u15 u16 u17 u18 u19 u20 u21 u22 u23 u24 u25 u26 u27 u28 u29 u30 u31 u32 u33 u34 u35 u36 u37 u38 : Value), SkRel m X k v ds W ∧ u14 = .int .i64 k ∧ a' = { tmps := #[.agg #[.slice A m.length cap], .pointer (some ⟨w.heap.size, 0, none⟩), .slice none 0 0, .int .i64 0, v, u5, u6, u7, .agg #[.slice A m.length cap], .bool true, .bool false, .pointer (some ⟨w.heap.size, 0, none⟩), .slice A m.length cap, .int .i64 m.length, u14, u15, u16, u17, u18, u19, u20, u21, u22, u23, u24, u25, u26, u27, u28, u29, u30, u31, u32, u33, u34, u35, u36, u37, u38, undef], defers := ds.map fun D => { target := .collected D, args := #[] } }) (fun a' _ => m.length - (intOf (a'.tmps.getD 14 undef)).toNat) ?start ?round
  case start => exact ⟨0, .slice none 0 0, [], undef, undef, undef, .int .i64 0, undef, undef, undef, undef, undef, undef, undef, undef, undef, undef, undef, undef, undef, undef, undef, undef, undef, undef, undef, undef, undef, undef, undef, undef, ⟨Nat.zero_le _, MRows.nil _ _, List.nodup_nil, fun D h => by simp at h, Below.refl _ _⟩, rfl, rfl⟩
  case round =>
    rintro a0 W ⟨k, v, ds, u5, u6, u7, u14, u15, u16, u17, u18, u19, u20, u21, u22, u23, u24, u25, u26, u27, u28, u29, u30, u31, u32, u33, u34, u35, u36, u37, u38, hR, hu14, rfl⟩
    subst hu14
    obtain ⟨hk, hM, hnd, hmk, hB⟩ := hR
    have hcw := (hB.cell (p := ⟨w.heap.size, 0, none⟩) hlt0).trans hc1
    have hrW := hrX.below hB
    have hTW := hTX.on hB
    have hsz := hB.size
    by_cases hlt : k < m.length
    · have hks : (k : Int) < m.length := by omega
      have B1 := bal (Below.refl _ W) (.cells #[.int .i64 k] 3)
      have c1 := (B1.cell (p := ⟨w.heap.size, 0, none⟩) (by show w.heap.size < W.heap.size; omega)).trans hcw
      have e1 : (W.alloc (.cells #[.int .i64 k] 3)).cell? ⟨W.heap.size, 0, none⟩ = some (.int .i64 k) := by simp
      have z1 : (W.alloc (.cells #[.int .i64 k] 3)).heap.size = W.heap.size + 1 := by simp
      have hr1 := hrW.below B1
      have HM := hid hM
      have Hmk := hid hmk
      clear hM hmk
      go_upto_region 7 with fail
      generalize hW1 : W.alloc (.cells #[.int .i64 k] 3) = W1 at *
      clear hW1
      go_wp2_with fail
      refine (reached_any _ m k _ hr1 hv hlt).mono ?_
      rintro e W2 ⟨rfl, h2⟩
      have hS := reachM_lt (m := m) (by omega) k
      have hS64 : reachM m k < 2 ^ 64 := Nat.lt_of_lt_of_le hS (Nat.pow_le_pow_right (by decide) (by omega))
      have hmemS : ∀ t, t ∈ elems (reachM m k) → t < m.length := fun t ht => elems_lt hS ht
      have Hsucc := hid (sinksTo_succ m k)
      have Hat := hid (show sinkAt m k = (elems (reachM m k)).all fun t => !(decide (t < k)) && decide (reachM m t = reachM m k) from rfl)
      have hself : k ∈ elems (reachM m k) := by
        rw [mem_elems]
        exact ⟨by omega, (reachM_bit m k k).2 ⟨hlt, reachP.refl m k⟩⟩
      have Hself := hid hself
      generalize reachM m k = S at *
      have B2 := btr B1 h2
      have B3 := bal B2 (.cells #[.int .u64 S] 79)
      have e3 : (W2.alloc (.cells #[.int .u64 S] 79)).cell? ⟨W2.heap.size, 0, none⟩ = some (.int .u64 S) := by simp
      have z3 : (W2.alloc (.cells #[.int .u64 S] 79)).heap.size = W2.heap.size + 1 := by simp
      have e2 := ((btr h2 (bal (Below.refl _ W2) (.cells #[.int .u64 S] 79))).cell (p := ⟨W.heap.size, 0, none⟩) (by show W.heap.size < W1.heap.size; omega)).trans e1
      have c3 := (B3.cell (p := ⟨w.heap.size, 0, none⟩) (by show w.heap.size < W.heap.size; omega)).trans hcw
      have hr3 := hrW.below B3
      have hT3 := hTW.on B3
      have z2 := h2.size
      clear hself h2 B1 B2 c1 e1 hr1
      go_wp2_with fail
      generalize hW3 : W2.alloc (.cells #[.int .u64 S] 79) = W3 at *
      clear hW3
      refine (wpIn_wide (n := 0)).1 ?_
      refine range_law (gf := 72) (fb := #[.int .u64 S]) (lb := #[]) rfl (enters_of Tryd.func72 (by kernel_rfl) rfl)
        (All_seq S hS64 W3.heap.size hT3.lt W3 (Nat.le_refl _) hT3) (fun _ _ _ _ _ _ => trivial) (Nat.le_refl _) (Below.refl _ _) (fun _ => rfl)
        (fun Xb pre Wb => (∀ x ∈ pre, ¬ x < k ∧ reachM m x = S) ∧ Base W3.heap.size W3 Xb Wb)
        (fun c Xb pre Wb => (c = .exit 1 ∧ ∃ x ∈ pre, x < k ∨ reachM m x ≠ S) ∧ Base W3.heap.size W3 Xb Wb)
        (Stable.and (stable_pure _ (fun pre : List Nat => ∀ x ∈ pre, ¬ x < k ∧ reachM m x = S)) (stable_base _ _ _ (Nat.le_refl _) (Nat.le_refl _)))
        (fun c => Stable.and (stable_pure _ (fun pre : List Nat => c = .exit 1 ∧ ∃ x ∈ pre, x < k ∨ reachM m x ≠ S)) (stable_base _ _ _ (Nat.le_refl _) (Nat.le_refl _)))
        ⟨fun x hx => by simp at hx, Base.start (Below.refl _ _)⟩
        (fun t a' _ => a' = { tmps := #[.agg #[.slice A m.length cap], .pointer (some ⟨w.heap.size, 0, none⟩), .slice none 0 0, .int .i64 0, v, .pointer (some ⟨W.heap.size, 0, none⟩), .pointer (some ⟨W2.heap.size, 0, none⟩), .int .i64 t, .agg #[.slice A m.length cap], .bool true, .bool false, .pointer (some ⟨w.heap.size, 0, none⟩), .slice A m.length cap, .int .i64 m.length, .int .i64 k, .bool true, .int .i64 k, .agg #[.slice A m.length cap], .int .i64 k, .int .u64 S, .int .u64 S, .func (.func 72) #[.int .u64 S] #[], .int .i64 t, u23, u24, u25, u26, u27, u28, u29, u30, u31, u32, u33, u34, u35, u36, u37, u38, undef], defers := [] })
        (fun _ _ _ _ _ _ _ hs _ _ _ _ _ _ => hs) ?assign ?body ?done ?stop
      case assign =>
        intro l Xb pre t Wb K hi hK
        gi_wp2
        exact hK _ _ (KeepsFrom.refl _ _) (Keep.refl _ _ _) hi rfl
      case body =>
        rintro l Xb pre t a' Wb hl hrec hXl hXs ⟨hpre, hBb⟩ _ rfl hsp
        have htm : t ∈ elems S := hsp.subset (by simp)
        have htn := hmemS t htm
        have hc4 := (hBb.2.cell (p := ⟨w.heap.size, 0, none⟩) (by show w.heap.size < W3.heap.size; omega)).trans c3
        have he2 := (hBb.2.cell (p := ⟨W.heap.size, 0, none⟩) (by show W.heap.size < W3.heap.size; omega)).trans e2
        have he3 := (hBb.2.cell (p := ⟨W2.heap.size, 0, none⟩) (by show W2.heap.size < W3.heap.size; omega)).trans e3
        have hrb := hr3.below hBb.2
        have hHs := hBb.2.size
        have HP := hid hpre
        clear hXs hsp hrec htm hpre hmemS
        by_cases ht : t < k
        · have hts : (t : Int) < k := by omega
          gi_wp2
          gi_region_with_o (refine ⟨trivial, ?_⟩)
          all_goals gi_wp2
          all_goals exact ⟨kf_drew _ _, (Keep.refl _ _ _).drew, ⟨rfl, t, by simp, .inl ht⟩, hBb.step ((Below.refl _ _).drew.mono hBb.2.size)⟩
        · have hts : ¬ (t : Int) < k := by omega
          by_cases hq : reachM m t = S
          · have Hq := hid hq
            clear hq
            gi_wp2
            gi_region_with_o (refine ⟨trivial, rfl, ?_⟩; gi_at_call 71; refine (inr l _ (reached_as _ m t S _ (hrb.below (by first | exact Below.refl _ _ | assumption | exact Below.drew (by first | exact Below.refl _ _ | assumption))) hv htn Hq)).mono ?_; rintro e wA ⟨rfl, hA⟩; have hBA : Below Wb.heap.size Wb wA := btr (by first | exact Below.refl _ _ | exact Below.drew (Below.refl _ _)) hA; have he3A := (hBA.cell (p := ⟨W2.heap.size, 0, none⟩) (by show W2.heap.size < Wb.heap.size; omega)).trans he3)
            all_goals gi_wp2
            all_goals first
              | exact ⟨kf_below hBA, Keep.of_below hBA, fun x hx => by
                  rcases List.mem_append.1 hx with h1 | h1
                  · exact HP.out x h1
                  · obtain rfl : x = t := by simpa using h1
                    exact ⟨ht, Hq.out⟩, hBb.step (hBA.mono hBb.2.size)⟩
              | exact ⟨kf_below hBA.drew, Keep.of_below hBA.drew, fun x hx => by
                  rcases List.mem_append.1 hx with h1 | h1
                  · exact HP.out x h1
                  · obtain rfl : x = t := by simpa using h1
                    exact ⟨ht, Hq.out⟩, hBb.step (hBA.drew.mono hBb.2.size)⟩
          · have hS' := reachM_lt (m := m) (by omega) t
            obtain ⟨S', Hq⟩ : ∃ S', Hid (reachM m t = S') := ⟨_, hid rfl⟩
            have hne : ((S' : Int) != (S : Int)) = true := by rw [← Hq.out]; simp; omega
            have HQ := hid hq
            clear hq hS'
            gi_wp2
            gi_region_with_o (refine ⟨trivial, rfl, ?_⟩; gi_at_call 71; refine (inr l _ (reached_as _ m t S' _ (hrb.below (by first | exact Below.refl _ _ | assumption | exact Below.drew (by first | exact Below.refl _ _ | assumption))) hv htn Hq)).mono ?_; rintro e wA ⟨rfl, hA⟩; have hBA : Below Wb.heap.size Wb wA := btr (by first | exact Below.refl _ _ | exact Below.drew (Below.refl _ _)) hA; have he3A := (hBA.cell (p := ⟨W2.heap.size, 0, none⟩) (by show W2.heap.size < Wb.heap.size; omega)).trans he3)
            all_goals gi_wp2
            all_goals first
              | exact ⟨kf_below hBA, Keep.of_below hBA, ⟨rfl, t, by simp, .inr HQ.out⟩, hBb.step (hBA.mono hBb.2.size)⟩
              | exact ⟨kf_below hBA.drew, Keep.of_below hBA.drew, ⟨rfl, t, by simp, .inr HQ.out⟩, hBb.step (hBA.drew.mono hBb.2.size)⟩
      case done =>
        rintro D Xb xs Wd hD rfl ⟨hpre, hBd⟩ hK
        have hs1 : sinkAt m k = true := by
          rw [Hat.out, List.all_eq_true]
          intro t ht
          obtain ⟨h1, h2⟩ := hpre t ht
          simp [h1, h2]
        have hsu := Hsucc.out
        rw [if_pos hs1] at hsu
        have Hsu := hid hsu
        have he3d := (hBd.2.cell (p := ⟨W2.heap.size, 0, none⟩) (by show W2.heap.size < W3.heap.size; omega)).trans e3
        have hTd := hT3.on hBd.2
        have hBWd : Below W.heap.size W Wd := B3.trans (hBd.2.mono (by omega))
        have HK := hid hK
        clear hpre hs1 hsu hK hBd hmemS e3 e2 c3 hr3 hT3
        go_wp2_with fail
        refine (List_own S _ hTd hS64).mono ?_
        rintro e W5 ⟨r, rfl, hr5, h5⟩
        have hBW5 : Below W.heap.size W W5 := hBWd.trans (h5.mono hBWd.size)
        have hz5 := hBW5.size
        have hz6 := h5.size
        have hM5 := HM.out.kept (W' := W5) (fun q _ hq => hBW5.block q hq)
        obtain ⟨xs, hxo, hxx⟩ := hM5
        have hvblk := row_blk (HM.out.choose_spec.1)
        have hlen := sinksTo_len m k
        obtain ⟨vA, vc, rfl⟩ : ∃ A c, v = .slice A (sinksTo m k).length c := by
          rcases hxo.2 with ⟨hu, h0⟩ | ⟨g, cap, cur, hu, hg, hh, _⟩
          · exact ⟨none, 0, by rw [hu, h0]⟩
          · exact ⟨_, cap, hu⟩
        obtain ⟨rA, rc, rfl⟩ : ∃ A c, r = .slice A (intsOf (elems S)).length c := by
          rcases hr5.2 with ⟨hu, h0⟩ | ⟨g, cap, cur, hu, hg, hh, _⟩
          · exact ⟨none, 0, by rw [hu, h0]⟩
          · exact ⟨_, cap, hu⟩
        have hil : (intsOf (elems S)).length ≤ 64 := by unfold intsOf; rw [List.length_map]; exact elems_length S
        have hoff : IntsOff W5 X.heap.size (Value.slice vA (sinksTo m k).length vc).ownBlock (.slice rA (intsOf (elems S)).length rc) (intsOf (elems S)) := by
          rcases hr5.2 with ⟨hu, h0⟩ | ⟨g, cap, cur, hu, hg, hh, _⟩
          · rw [hu]
            exact ⟨none, 0, by rw [h0], by rw [h0]; exact Nat.zero_le _, fun j hj => by omega⟩
          · rw [hu] at hr5 ⊢
            exact off_of_own hr5 rfl (by have := hBWd.size; omega) (fun e => by have := (hvblk g e.symm).2; have := hBWd.size; omega) (by unfold big; omega)
        have Hsu2 := hid hsz
        generalize hLL : sinksTo m k = LL at *
        have HLL := hid hLL
        generalize hII : intsOf (elems S) = II at *
        have HII := hid hII
        clear hLL hII
        go_wp2_with (at_builtin; refine wpList_append_own_at _ rfl _ _ 22 rfl X.heap.size 41 i0 (.slice none 0 0) 1 24 Tryd.underlying22 hi hz0 hz1 hz2 rfl (by decide) (.slice vA LL.length vc) LL.length xs rfl (hxo.alloc _) ⟨W5.heap.size, 0, none⟩ 1 1 [.slice rA II.length rc] rfl rfl (cell_one_new _ _ _) (by simp [Value.oneCell']) (by unfold maxLen; omega) (by omega) (by simp; omega) ?_; intro v' w6 hown' hgrow' _ hat)
        refine ⟨⟨k + 1, v', D :: ds, _, _, _, _, _, _, _, _, _, _, _, _, _, _, _, _, _, _, _, _, _, _, _, _, _, _, _, _, ?_, by go_num, rfl⟩, by simp [intOf]; omega⟩
        have hDd : W5.heap[D]? = some (.deferred (some [])) := (h5.block D (Array.getElem?_eq_some_iff.1 HK.out).1).trans HK.out
        have hds : ∀ D' ∈ ds, W5.heap[D']? = some (.deferred (some [])) := fun D' h' => (hBW5.block D' (Array.getElem?_eq_some_iff.1 (Hmk.out D' h').2).1).trans (Hmk.out D' h').2
        have hmark : ∀ D' : Nat, W5.heap[D']? = some (Obj.deferred (some [])) → w6.heap[D']? = some (Obj.deferred (some [])) := fun D' h' => by
          have hl' := (Array.getElem?_eq_some_iff.1 h').1
          rw [hgrow'.block D' (by simp; omega) (mark_ne hxo h'), Below.heap_alloc _ _ _ hl']
          exact h'
        refine ⟨by omega, ?_, List.nodup_cons.2 ⟨fun hm => ?_, hnd⟩, fun D' hD' => ?_, ?_⟩
        · rw [Hsu.out]
          exact MRows.appended (W := W5.alloc (.cells #[.slice rA II.length rc] 41)) (base := X.heap.size) (v := .slice vA LL.length vc) (m := LL) (l := II) (xs := xs) (u := .slice rA II.length rc)
            (fun i hi => (hxx i hi).kept (fun q _ hq _ => Below.heap_alloc _ _ _ hq) (fun _ _ h => h)) (by have := hxo.1; omega)
            (hoff.kept (fun q _ hq _ => Below.heap_alloc _ _ _ hq) (fun _ _ h => h)) hown' hgrow' hat
        · have := (Array.getElem?_eq_some_iff.1 (Hmk.out D hm).2).1
          omega
        · rcases List.mem_cons.1 hD' with rfl | h'
          · exact ⟨by omega, hmark _ hDd⟩
          · exact ⟨(Hmk.out D' h').1, hmark _ (hds D' h')⟩
        · exact ((hB.trans (hBW5.mono hsz)).alloc (by omega) _).grown hgrow' (by simp; omega) (fun q hq => (hvblk q hq).1)
      case stop =>
        rintro D Xb c pre Wd hD hsp ⟨⟨rfl, x, hx, hbad⟩, hBd⟩ hK
        have hxS : x ∈ elems S := hsp.subset hx
        have hs1 : sinkAt m k = false := by
          rw [Hat.out, List.all_eq_false]
          refine ⟨x, hxS, ?_⟩
          rcases hbad with h1 | h1
          · simp [h1]
          · simp [h1]
        have hsu := Hsucc.out
        rw [hs1] at hsu
        have Hsu := hid hsu
        have hBWd : Below W.heap.size W Wd := B3.trans (hBd.2.mono (by omega))
        have HK := hid hK
        clear hs1 hsu hK hbad hxS hmemS
        refine wpIn_wide.2 ?_
        go_wp2
        refine ⟨⟨k + 1, v, D :: ds, _, _, _, _, _, _, _, _, _, _, _, _, _, _, _, _, _, _, _, _, _, _, _, _, _, _, _, _, ?_, by go_num, rfl⟩, by simp [intOf]; omega⟩
        refine ⟨by omega, ?_, List.nodup_cons.2 ⟨fun hm => ?_, hnd⟩, fun D' hD' => ?_, hB.trans (hBWd.mono hsz)⟩
        · rw [show sinksTo m (k + 1) = sinksTo m k from Hsu.out]
          exact HM.out.kept (fun q _ hq => hBWd.block q hq)
        · have := (Array.getElem?_eq_some_iff.1 (Hmk.out D hm).2).1
          omega
        · rcases List.mem_cons.1 hD' with rfl | h'
          · exact ⟨by omega, HK.out⟩
          · exact ⟨(Hmk.out D' h').1, (hBWd.block D' (Array.getElem?_eq_some_iff.1 (Hmk.out D' h').2).1).trans (Hmk.out D' h').2⟩
    · obtain rfl : k = m.length := by omega
      have hks : ¬ ((m.length : Nat) : Int) < m.length := by omega
      have HM := hid hM
      have Hmk := hid hmk
      clear hM hmk
      go_wp2
      refine leaves_marks (v := .tuple #[v, .int .i64 0]) (fun W => ?_) X.heap.size ds W hsz hnd Hmk.out (fun W' hW' => ?_)
      · simp [results, Tryd.results34, go_sem]
      · refine ⟨v, rfl, ?_, hwX.trans ((hB.trans (hW'.1.mono (Nat.le_refl _))).mono hwX.size)⟩
        have hlen := sinksTo_len m m.length
        have hM := HM.out
        exact (MRows.marks hM hW'.2).rows (by unfold big; omega)
end Go.Proofs.YtlpfglkopnmlnaaDoor
namespace Go.Proofs.YtlpfglkopnmlnaaDoor
open Go.RowKit Go.Shelf
theorem take_eq_succ' {l m : List (List Int)} {k : Nat} (hk : k < l.length) (hl : l.length = m.length) (h : l.take k = m.take k) (hx : l.getD k [] = m.getD k []) : l.take (k + 1) = m.take (k + 1) := by
  have hk' : k < m.length := by omega
  rw [List.take_succ_eq_append_getElem hk, List.take_succ_eq_append_getElem hk', h]
  simp only [List.getD_eq_getElem?_getD, List.getElem?_eq_getElem hk, List.getElem?_eq_getElem hk', Option.getD_some] at hx
  rw [hx]
theorem rSame_bool (v u : Value) (l m : List Int) (b : Bool) (w : World) (h : Ints w v l) (hu : Ints w u m) (hb : decide (l = m) = b) :
    Calls Tryd.prog 33 #[v, u] w fun e w' => e = .returned (.bool b) ∧ Below w.heap.size w w' := by
  subst hb; exact rSame_any v u l m w h hu
set_option maxHeartbeats 2000000 in
theorem rSames_any (v u : Value) (l m : List (List Int)) (w : World) (h : Rows w v l) (hu : Rows w u m) :
    Calls Tryd.prog 15 #[v, u] w fun e w' => e = .returned (.bool (decide (l = m))) ∧ Below w.heap.size w w' := by
  obtain ⟨A, cap, rfl, hl, hc⟩ := h
  obtain ⟨Au, capu, rfl, hlu, hcu⟩ := hu
  unfold big at hl hlu
  by_cases hlen : l.length = m.length
  · have hne : ((l.length : Int) != (m.length : Int)) = false := by simp; omega
    have Hlen := hid hlen
    have Hc := hid hc
    have Hcu := hid hcu
    clear hlen hc hcu
    go_enter Tryd.func15, Tryd.ntmps15
    go_wp2
    go_loopw [5] (fun i wr => ∃ k : Nat, k ≤ l.length ∧ i = .int .i64 k ∧ l.take k = m.take k ∧ Below w.heap.size w wr) (fun i _ => l.length - (intOf i).toNat)
    case atStart => exact ⟨0, Nat.zero_le _, rfl, rfl, Below.refl _ _⟩
    case round =>
      obtain ⟨k, hk, rfl, htk, hB⟩ := hrel
      have Htk := hid htk
      clear htk
      by_cases hlt : k < l.length
      · have hle := Hlen.out
        obtain ⟨b, off, r, hA, hcell, hrow⟩ := Hc.out k hlt
        obtain ⟨b', off', r', hA', hcell', hrow'⟩ := Hcu.out k (by omega)
        subst hA
        subst hA'
        have c1 := (hB.cell (p := ⟨b, off + k, none⟩) (World.block_lt_of_cell? _ _ hcell)).trans hcell
        have c2 := (hB.cell (p := ⟨b', off' + k, none⟩) (World.block_lt_of_cell? _ _ hcell')).trans hcell'
        have i1 : (k : Int) < l.length := by omega
        have i2 : (k : Int) < m.length := by omega
        have hr1 := hrow.below hB
        have hr2 := hrow'.below hB
        have Hs := hid (fun hx => take_eq_succ' hlt Hlen.out Htk.out hx)
        have Hf : Hid (l.getD k [] ≠ m.getD k [] → decide (l = m) = false) := hid (fun hx => decide_eq_false (fun e => hx (by rw [e])))
        clear hcell hcell' hle hrow hrow'
        generalize l.getD k [] = x at *
        generalize m.getD k [] = y at *
        obtain ⟨Ax, cx, rfl, _⟩ := id hr1
        obtain ⟨Ay, cy, rfl, _⟩ := id hr2
        cases hxy : decide (x = y) with
        | true =>
          go_wp2_with fail
          go_region_with (go_at_call 33; refine (rSame_bool _ _ x y true _ (hr1.below (by first | exact Below.refl _ _ | exact Below.drew (Below.refl _ _))) (hr2.below (by first | exact Below.refl _ _ | exact Below.drew (Below.refl _ _))) hxy).mono ?_; rintro e wA ⟨rfl, hA⟩; have hBA : Below wr.heap.size wr wA := btr (by first | exact Below.refl _ _ | exact Below.drew (Below.refl _ _)) hA)
          all_goals go_wp2
          all_goals go_roundw
          all_goals first
            | exact ⟨k + 1, by omega, by go_num, Hs.out (of_decide_eq_true hxy), btr hB (by first | assumption | exact Below.drew (by assumption))⟩
            | (simp [intOf]; omega)
        | false =>
          go_wp2_with fail
          go_region_with (go_at_call 33; refine (rSame_bool _ _ x y false _ (hr1.below (by first | exact Below.refl _ _ | exact Below.drew (Below.refl _ _))) (hr2.below (by first | exact Below.refl _ _ | exact Below.drew (Below.refl _ _))) hxy).mono ?_; rintro e wA ⟨rfl, hA⟩; have hBA : Below wr.heap.size wr wA := btr (by first | exact Below.refl _ _ | exact Below.drew (Below.refl _ _)) hA)
          all_goals go_wp2
          all_goals go_ret
          all_goals exact ⟨ret_bool (Hf.out (of_decide_eq_false hxy)).symm, btr hB (by first | assumption | exact Below.drew (by assumption))⟩
      · go_wp2
        go_ret
        have h1 := Htk.out
        have h2 := Hlen.out
        rw [List.take_of_length_le (by omega), List.take_of_length_le (by omega)] at h1
        exact ⟨ret_bool (by rw [h1, decide_eq_true rfl]), hB⟩
  · have hne : ((l.length : Int) != (m.length : Int)) = true := by simp; omega
    have Hlen := hid hlen
    clear hlen hc hcu
    go_enter Tryd.func15, Tryd.ntmps15
    go_wp2
    go_ret
    exact ⟨ret_bool (decide_eq_false (fun e => Hlen.out (by rw [e]))).symm, Below.refl _ _⟩
end Go.Proofs.YtlpfglkopnmlnaaDoor
namespace Go.Proofs.YtlpfglkopnmlnaaDoor
open Go.RowKit Go.Shelf
def mR : List (List Int) := [[1, 1], [2, 2], [0, 0]]
theorem mR_valid : validM mR = true := by decide +kernel
theorem mR_conn : connM mR = true := by
  rw [connM_iff mR (by decide)]
  intro s t hs ht
  rw [← reachL_get mR_valid hs]
  have h : ∀ s : Fin 3, ∀ t : Fin 3, (reachL mR s).getD t false = true := by decide +kernel
  exact h ⟨s, hs⟩ ⟨t, ht⟩
theorem mR_per : perM mR = 3 := by decide +kernel
theorem rows3 (w : World) (a b c : List Int) (va vb vc : Value) (t : TypeId) (k : Nat) (hk : k = w.heap.size) (ha : Ints w va a) (hb : Ints w vb b) (hc : Ints w vc c) : Rows (w.alloc (.cells #[va, vb, vc] t)) (.slice (some ⟨k, 0, none⟩) 3 3) [a, b, c] := by
  subst hk
  refine ⟨_, 3, rfl, by unfold big; simp, fun i hi => ?_⟩
  have h3 : i = 0 ∨ i = 1 ∨ i = 2 := by simp at hi; omega
  rcases h3 with rfl | rfl | rfl
  · exact ⟨w.heap.size, 0, va, rfl, by simp, ha.alloc _⟩
  · exact ⟨w.heap.size, 0, vb, rfl, by simp, hb.alloc _⟩
  · exact ⟨w.heap.size, 0, vc, rfl, by simp, hc.alloc _⟩
theorem rows2 (w : World) (a b : List Int) (va vb : Value) (t : TypeId) (k : Nat) (hk : k = w.heap.size) (ha : Ints w va a) (hb : Ints w vb b) : Rows (w.alloc (.cells #[va, vb] t)) (.slice (some ⟨k, 0, none⟩) 2 2) [a, b] := by
  subst hk
  refine ⟨_, 2, rfl, by unfold big; simp, fun i hi => ?_⟩
  have h3 : i = 0 ∨ i = 1 := by simp at hi; omega
  rcases h3 with rfl | rfl
  · exact ⟨w.heap.size, 0, va, rfl, by simp, ha.alloc _⟩
  · exact ⟨w.heap.size, 0, vb, rfl, by simp, hb.alloc _⟩
theorem lit_rows (w : World) (a b c d e f : Int) : Rows ((((w.alloc (.cells #[.int .i64 a, .int .i64 b] 3)).alloc (.cells #[.int .i64 c, .int .i64 d] 3)).alloc (.cells #[.int .i64 e, .int .i64 f] 3)).alloc
    (.cells #[.slice (some ⟨w.heap.size, 0, none⟩) 2 2, .slice (some ⟨w.heap.size + 1, 0, none⟩) 2 2, .slice (some ⟨w.heap.size + 1 + 1, 0, none⟩) 2 2] 41)) (.slice (some ⟨w.heap.size + 1 + 1 + 1, 0, none⟩) 3 3) [[a, b], [c, d], [e, f]] :=
  rows3 _ _ _ _ _ _ _ _ _ (by simp) (((Ints.two' w a b _ _ rfl).alloc _).alloc _) ((Ints.two' _ c d _ _ (by simp)).alloc _) (Ints.two' _ e f _ _ (by simp))
theorem lit_mR (w : World) : Rows ((((w.alloc (.cells #[.int .i64 1, .int .i64 1] 3)).alloc (.cells #[.int .i64 2, .int .i64 2] 3)).alloc (.cells #[.int .i64 0, .int .i64 0] 3)).alloc
    (.cells #[.slice (some ⟨w.heap.size, 0, none⟩) 2 2, .slice (some ⟨w.heap.size + 1, 0, none⟩) 2 2, .slice (some ⟨w.heap.size + 1 + 1, 0, none⟩) 2 2] 41)) (.slice (some ⟨w.heap.size + 1 + 1 + 1, 0, none⟩) 3 3) mR := lit_rows w 1 1 2 2 0 0
theorem rSames_eq (v u : Value) (l : List (List Int)) (w : World) (h : Rows w v l) (hu : Rows w u l) : Calls Tryd.prog 15 #[v, u] w fun e w' => e = .returned (.bool true) ∧ Below w.heap.size w w' := by
  have hs := rSames_any v u l l w h hu
  rw [decide_eq_true rfl] at hs
  exact hs
end Go.Proofs.YtlpfglkopnmlnaaDoor
namespace Go.Proofs.YtlpfglkopnmlnaaDoor
open Go.RowKit Go.Shelf
theorem pick_mem {p : Nat → Bool} {n : Nat} {x : Int} : x ∈ pick p n ↔ ∃ t, t < n ∧ p t = true ∧ x = (t : Int) := by
  simp only [pick, List.mem_map, List.mem_filter, List.mem_range]
  constructor
  · rintro ⟨t, ⟨h1, h2⟩, rfl⟩; exact ⟨t, h1, h2, rfl⟩
  · rintro ⟨t, h1, h2, rfl⟩; exact ⟨t, ⟨h1, h2⟩, rfl⟩
theorem pick_set {m : List (List Int)} (p : Nat → Bool) : isSetM m (pick p m.length) = true := by
  refine isSetM_of_sorted (intsOf_sorted (List.Pairwise.filter _ List.pairwise_lt_range)) (fun x hx => ?_)
  obtain ⟨t, h1, _, rfl⟩ := pick_mem.1 hx
  omega
theorem pick_testBit (p : Nat → Bool) (n t : Nat) : (ofList (pick p n)).testBit t = (decide (t < n) && p t) := by
  rw [ofList_testBit, Bool.eq_iff_iff, List.any_eq_true, Bool.and_eq_true, decide_eq_true_eq]
  constructor
  · rintro ⟨x, hx, e⟩
    obtain ⟨q, h1, h2, rfl⟩ := pick_mem.1 hx
    have := of_decide_eq_true e
    rw [Int.toNat_natCast] at this
    subst this
    exact ⟨h1, h2⟩
  · rintro ⟨h1, h2⟩
    exact ⟨t, pick_mem.2 ⟨t, h1, h2, rfl⟩, by simp⟩
theorem hasB_testBit {l : List Int} (h : ∀ x ∈ l, 0 ≤ x) (t : Nat) : hasB l t = (ofList l).testBit t := by
  rw [ofList_testBit, hasB, Bool.eq_iff_iff, List.any_eq_true, List.any_eq_true]
  constructor
  · rintro ⟨x, hx, e⟩
    exact ⟨x, hx, by rw [beq_iff_eq] at e; simp [e]⟩
  · rintro ⟨x, hx, e⟩
    have h1 := of_decide_eq_true e
    have h2 := h x hx
    exact ⟨x, hx, by rw [beq_iff_eq]; omega⟩
theorem set_pos {m : List (List Int)} {l : List Int} (h : isSetM m l = true) : ∀ x ∈ l, 0 ≤ x := fun x hx => (isSetM_mem h x hx).1
theorem hasB_image {m : List (List Int)} (hv : validM m = true) {s u : List Int} (hs : isSetM m s = true) (hu : isWordM m u = true) (t : Nat) : hasB (imageM m s u) t = (imgWord m (ofList s) u).testBit t := by
  have hm : m.length ≤ 64 := by have := (valid_parts hv).2.1; omega
  have hu' := hu
  simp only [isWordM, Bool.and_eq_true] at hu'
  have hA := imgWord_lt hv u _ (ofList_lt m.length hm s (isSetM_mem hs)) hu'.2
  rw [hasB_testBit (set_pos (imageM_set hv hs hu)), imageM, ofList_elems (Nat.lt_of_lt_of_le hA (Nat.pow_le_pow_right (by decide) hm))]
end Go.Proofs.YtlpfglkopnmlnaaDoor
namespace Go.Proofs.YtlpfglkopnmlnaaDoor
open Go.RowKit Go.Shelf
theorem Image_as (v s u : Value) (m : List (List Int)) (sl ul L : List Int) (w : World) (hT : Tab w) (h : Rows w v m) (hs : Ints w s sl) (hu : Ints w u ul) (hv : validM m = true) (h1 : isSetM m sl = true) (h2 : isWordM m ul = true) (he : Hid (imageM m sl ul = L)) :
    Calls Tryd.prog 27 #[.agg #[v], s, u] w (ListOk w L) := by
  rw [← he.out]; exact Image_ok v s u m sl ul w hT h hs hu hv h1 h2
end Go.Proofs.YtlpfglkopnmlnaaDoor
namespace Go.Proofs.YtlpfglkopnmlnaaDoor
open Go.RowKit Go.Shelf
theorem mem_reach {m : List (List Int)} (hm : m.length ≤ 64) (s t : Nat) : t ∈ elems (reachM m s) ↔ t < m.length ∧ reachP m s t := by
  rw [mem_elems, reachM_bit]
  exact ⟨fun h => h.2, fun h => ⟨by omega, h⟩⟩
theorem sinkAt_iff {m : List (List Int)} (hm : m.length ≤ 64) (s : Nat) : sinkAt m s = true ↔ ∀ t, t < m.length → reachP m s t → ¬ t < s ∧ reachM m t = reachM m s := by
  unfold sinkAt
  rw [List.all_eq_true]
  constructor
  · intro h t ht hr
    have := h t ((mem_reach hm s t).2 ⟨ht, hr⟩)
    simpa using this
  · intro h t ht
    obtain ⟨h1, h2⟩ := (mem_reach hm s t).1 ht
    have := h t h1 h2
    simpa using this
/-- All states. -/
def allM (n : Nat) : List Int := pick (fun _ => true) n
theorem allM_set (m : List (List Int)) : isSetM m (allM m.length) = true := pick_set _
theorem hasB_all {m : List (List Int)} (hv : validM m = true) {u : List Int} (hu : isWordM m u = true) (t : Nat) : hasB (imageM m (allM m.length) u) t = true ↔ ∃ s, s < m.length ∧ runM m s u = t := by
  have hm : m.length ≤ 64 := by have := (valid_parts hv).2.1; omega
  rw [hasB_image hv (allM_set m) hu]
  have hu' := hu
  simp only [isWordM, Bool.and_eq_true] at hu'
  rw [imgWord_mem hv u _ t (ofList_lt m.length hm _ (isSetM_mem (allM_set m))) hu'.2]
  constructor
  · rintro ⟨q, h1, h2, h3⟩; exact ⟨q, h1, h3⟩
  · rintro ⟨q, h1, h3⟩
    refine ⟨q, h1, ?_, h3⟩
    rw [allM, pick_testBit]
    simp [h1]
theorem image_one {m : List (List Int)} (hv : validM m = true) {u : List Int} (hu : isWordM m u = true) {x : Int} (h : imageM m (allM m.length) u = [x]) : ∃ t : Nat, x = t ∧ ∀ s, s < m.length → runM m s u = t := by
  have h0 : 0 < m.length := by have := (valid_parts hv).1; omega
  have key : ∀ s, s < m.length → ((runM m s u : Nat) : Int) = x := fun s hs => by
    have := (hasB_all hv hu (runM m s u)).2 ⟨s, hs, rfl⟩
    rw [h] at this
    simp [hasB] at this
    exact this.symm
  exact ⟨runM m 0 u, (key 0 h0).symm, fun s hs => by have := key s hs; have := key 0 h0; omega⟩
end Go.Proofs.YtlpfglkopnmlnaaDoor
namespace Go.Proofs.YtlpfglkopnmlnaaDoor
open Go.RowKit Go.Shelf
/-- The same roads: each state is led to from each state by some letter in both or in neither. -/
def Alike (m k : List (List Int)) : Prop := k.length = m.length ∧ letters k = letters m ∧ ∀ s, s < m.length → ∀ t, (∃ x, x < letters m ∧ nx m s (x : Int) = t) ↔ ∃ x, x < letters m ∧ nx k s (x : Int) = t
theorem Alike.symm {m k : List (List Int)} (h : Alike m k) : Alike k m := by
  obtain ⟨h1, h2, h3⟩ := h
  refine ⟨h1.symm, h2.symm, fun s hs t => ?_⟩
  rw [h2]
  exact (h3 s (by omega) t).symm
theorem exactP_of {m k : List (List Int)} (hv : validM m = true) (h : Alike m k) : ∀ (j s t : Nat), s < m.length → exactP m s j t → exactP k s j t
  | 0, s, t, _, he => by
    obtain ⟨u, h1, h2, h3⟩ := he
    obtain rfl : u = [] := List.length_eq_zero_iff.1 h2
    exact ⟨[], rfl, rfl, h3⟩
  | j + 1, s, t, hs, he => by
    obtain ⟨x, hx, he⟩ := exactP_head he
    have hn := ldM_ok hv s x hs hx
    have ih := exactP_of hv h j _ t hn he
    obtain ⟨y, hy, hyx⟩ := (h.2.2 s hs _).1 ⟨x, hx, rfl⟩
    rw [← hyx] at ih
    exact exactP_cons (by rw [h.2.1]; exact hy) ih
theorem exactP_iff {m k : List (List Int)} (hv : validM m = true) (hk : validM k = true) (h : Alike m k) {j s t : Nat} (hs : s < m.length) : exactP m s j t ↔ exactP k s j t :=
  ⟨exactP_of hv h j s t hs, exactP_of hk h.symm j s t (by rw [h.1]; exact hs)⟩
theorem reachP_exact {m : List (List Int)} {s t : Nat} : reachP m s t ↔ ∃ j, exactP m s j t := by
  constructor
  · rintro ⟨u, h1, h2⟩; exact ⟨u.length, u, h1, rfl, h2⟩
  · rintro ⟨j, u, h1, -, h2⟩; exact ⟨u, h1, h2⟩
section
variable {m k : List (List Int)}
theorem reachP_alike (hv : validM m = true) (hk : validM k = true) (h : Alike m k) {s t : Nat} (hs : s < m.length) : reachP m s t ↔ reachP k s t := by
  rw [reachP_exact, reachP_exact]
  exact ⟨fun ⟨j, e⟩ => ⟨j, (exactP_iff hv hk h hs).1 e⟩, fun ⟨j, e⟩ => ⟨j, (exactP_iff hv hk h hs).2 e⟩⟩
theorem reachM_alike (hv : validM m = true) (hk : validM k = true) (h : Alike m k) {s : Nat} (hs : s < m.length) : reachM m s = reachM k s := by
  apply Nat.eq_of_testBit_eq
  intro t
  rw [Bool.eq_iff_iff, reachM_bit, reachM_bit, h.1, reachP_alike hv hk h hs]
theorem connM_alike (hv : validM m = true) (hk : validM k = true) (h : Alike m k) : connM m = connM k := by
  have h1 := (valid_parts hv).2.1
  rw [Bool.eq_iff_iff, connM_iff m (by omega), connM_iff k (by rw [h.1]; omega), h.1]
  exact ⟨fun a s t hs ht => (reachP_alike hv hk h hs).1 (a s t hs ht), fun a s t hs ht => (reachP_alike hv hk h hs).2 (a s t hs ht)⟩
theorem sinkAt_alike (hv : validM m = true) (hk : validM k = true) (h : Alike m k) {s : Nat} (hs : s < m.length) : sinkAt m s = sinkAt k s := by
  have h1 := (valid_parts hv).2.1
  rw [Bool.eq_iff_iff, sinkAt_iff (by omega), sinkAt_iff (by rw [h.1]; omega), h.1]
  constructor
  · intro a t ht hr
    have := a t ht ((reachP_alike hv hk h hs).2 hr)
    rw [← reachM_alike hv hk h ht, ← reachM_alike hv hk h hs]; exact this
  · intro a t ht hr
    have := a t ht ((reachP_alike hv hk h hs).1 hr)
    rw [reachM_alike hv hk h ht, reachM_alike hv hk h hs]; exact this
theorem sinksTo_alike (hv : validM m = true) (hk : validM k = true) (h : Alike m k) : sinksTo m m.length = sinksTo k k.length := by
  unfold sinksTo
  rw [h.1]
  have e1 : (List.range m.length).filter (sinkAt m) = (List.range m.length).filter (sinkAt k) := List.filter_congr fun s hs => sinkAt_alike hv hk h (List.mem_range.1 hs)
  rw [← e1]
  refine List.map_congr_left fun s hs => ?_
  rw [reachM_alike hv hk h (List.mem_range.1 (List.mem_filter.1 hs).1)]
theorem exactTo_alike (hv : validM m = true) (hk : validM k = true) (h : Alike m k) {s : Nat} (hs : s < m.length) (j : Nat) : exactTo m s j = exactTo k s j := by
  have hl1 := exactTo_len m s j
  have hl2 := exactTo_len k s j
  rw [h.1] at hl2
  apply List.ext_getElem (by rw [hl1, hl2])
  intro t h1 h2
  have g1 := exactTo_get hv hs j t
  have g2 := exactTo_get hk (show s < k.length by rw [h.1]; exact hs) j t
  rw [exactP_iff hv hk h hs, ← g2] at g1
  simp only [List.getD_eq_getElem?_getD, List.getElem?_eq_getElem h1, List.getElem?_eq_getElem h2, Option.getD_some] at g1
  exact Bool.eq_iff_iff.2 g1
theorem perR_alike (hv : validM m = true) (hk : validM k = true) (h : Alike m k) : ∀ K, perR m K = perR k K
  | 0 => rfl
  | K + 1 => by
    have h0 : 0 < m.length := (valid_parts hv).1
    simp only [perR, perR_alike hv hk h K, exactTo_alike hv hk h h0]
theorem perM_alike (hv : validM m = true) (hk : validM k = true) (h : Alike m k) (hc : connM m = true) : perM m = perM k := by
  have hc2 : connM k = true := by rw [← connM_alike hv hk h]; exact hc
  rw [← perR_eq hv hc, ← perR_eq hk hc2, h.1, perR_alike hv hk h]
theorem lensM_alike (hv : validM m = true) (hk : validM k = true) (h : Alike m k) (hc : connM m = true) : lensM m = lensM k := by
  have hc2 : connM k = true := by rw [← connM_alike hv hk h]; exact hc
  have hl1 := lensM_len m
  have hl2 := lensM_len k
  rw [h.1] at hl2
  have h0 : 0 < m.length := (valid_parts hv).1
  apply List.ext_getElem (by rw [hl1, hl2])
  intro s h1 h2
  rw [hl1] at h1
  obtain ⟨u, u1, u2, u3, -, u5⟩ := lensM_get hv hc h1
  obtain ⟨w, w1, w2, w3, -, w5⟩ := lensM_get hk hc2 (show s < k.length by rw [h.1]; exact h1)
  have a : exactP k 0 u.length s := (exactP_iff hv hk h h0).1 ⟨u, u1, rfl, u2⟩
  have b : exactP m 0 w.length s := (exactP_iff hv hk h h0).2 ⟨w, w1, rfl, w2⟩
  obtain ⟨u', a1, a2, a3⟩ := a
  obtain ⟨w', b1, b2, b3⟩ := b
  have c1 := w5 u' a1 a3
  have c2 := u5 w' b1 b3
  have e : u.length = w.length := by omega
  simp only [List.getD_eq_getElem?_getD, List.getElem?_eq_getElem (show s < (lensM m).length by omega), List.getElem?_eq_getElem (show s < (lensM k).length by omega), Option.getD_some] at u3 w3
  rw [u3, w3, e]
theorem clsM_alike (hv : validM m = true) (hk : validM k = true) (h : Alike m k) (hc : connM m = true) : clsM m = clsM k := by
  unfold clsM
  rw [lensM_alike hv hk h hc, perM_alike hv hk h hc, h.1]
end
/-- How many times a number occurs. -/
def timesL (l : List Int) (n : Int) : Nat := (l.filter fun x => x == n).length
theorem timesL_pos {l : List Int} {n : Int} : 0 < timesL l n ↔ n ∈ l := by
  unfold timesL
  rw [List.length_pos_iff_exists_mem]
  constructor
  · rintro ⟨x, hx⟩
    obtain ⟨h1, h2⟩ := List.mem_filter.1 hx
    rw [← beq_iff_eq.1 h2]; exact h1
  · intro h
    exact ⟨n, List.mem_filter.2 ⟨h, by simp⟩⟩
theorem timesL_perm {l k : List Int} (h : l.Perm k) (n : Int) : timesL l n = timesL k n := (h.filter _).length_eq
/-- Equal numbers of roads: the same roads. -/
def sameM (m k : List (List Int)) : Bool := decide (m.length = k.length) && decide (letters m = letters k) && (List.range m.length).all fun s => (List.range m.length).all fun t : Nat => timesL (m.getD s []) t == timesL (k.getD s []) t
theorem row_mem {m : List (List Int)} (hv : validM m = true) {s t : Nat} (hs : s < m.length) : (∃ x, x < letters m ∧ nx m s (x : Int) = t) ↔ (t : Int) ∈ m.getD s [] := by
  obtain ⟨p1, p2, p3, p4, p5⟩ := valid_parts hv
  have hl := (p5 s hs).1
  constructor
  · rintro ⟨x, hx, rfl⟩
    obtain ⟨h1, h2⟩ := nx_ok hv hs (x := (x : Int)) (by omega) (by omega)
    rw [Int.toNat_natCast] at h2
    rw [← h2]
    simp only [List.getD_eq_getElem?_getD] at hl ⊢
    rw [List.getElem?_eq_getElem (show x < (m[s]?.getD []).length by omega), Option.getD_some]
    exact List.getElem_mem _
  · intro h
    obtain ⟨x, hx, he⟩ := List.mem_iff_getElem.1 h
    refine ⟨x, by omega, ?_⟩
    unfold nx
    rw [Int.toNat_natCast, List.getD_eq_getElem?_getD (l := m.getD s []), List.getElem?_eq_getElem hx, Option.getD_some, he, Int.toNat_natCast]
theorem alike_of {m k : List (List Int)} (hv : validM m = true) (hk : validM k = true) (h : sameM m k = true) : Alike m k := by
  unfold sameM at h
  simp only [Bool.and_eq_true, decide_eq_true_eq] at h
  obtain ⟨⟨h1, h2⟩, h3⟩ := h
  refine ⟨h1.symm, h2.symm, fun s hs t => ?_⟩
  have hk2 : (∃ x, x < letters m ∧ nx k s (x : Int) = t) ↔ (t : Int) ∈ k.getD s [] := by
    rw [h2]; exact row_mem hk (by omega)
  rw [row_mem hv hs, hk2]
  by_cases ht : t < m.length
  · have := List.all_eq_true.1 (List.all_eq_true.1 h3 s (List.mem_range.2 hs)) t (List.mem_range.2 ht)
    rw [← timesL_pos, ← timesL_pos, beq_iff_eq.1 this]
  · have no : ∀ {q : List (List Int)}, validM q = true → s < q.length → ¬ t < q.length → ¬ (t : Int) ∈ q.getD s [] := fun hq hsq htq hm => by
      obtain ⟨x, hx, he⟩ := (row_mem hq hsq).2 hm
      have := (nx_ok hq hsq (x := (x : Int)) (by omega) (by omega)).1
      omega
    exact ⟨fun hm => absurd hm (no hv hs ht), fun hm => absurd hm (no hk (by omega) (by omega))⟩
end Go.Proofs.YtlpfglkopnmlnaaDoor
namespace Go.Proofs.YtlpfglkopnmlnaaDoor
open Go.RowKit Go.Shelf
theorem held_one {w1 w' : World} {p : Addr} {u : Value} (h1 : w1.cell? p = some u) (hb : Below w1.heap.size w1 w') : Below w1.heap.size w1 w' ∧ w'.cell? p = some u :=
  ⟨hb, (hb.cell (p := p) (World.block_lt_of_cell? _ _ h1)).trans h1⟩
theorem allM_succ (k : Nat) : (allM (k + 1)).map (fun x => Value.int .i64 x) = (allM k).map (fun x => Value.int .i64 x) ++ [.int .i64 (k : Int)] := by
  unfold allM; rw [pick_succ]; rfl
theorem allM_len (k : Nat) : (allM k).length = k := by
  unfold allM pick; rw [List.length_map, List.filter_eq_self.2 (fun _ _ => rfl), List.length_range]
set_option maxHeartbeats 400000 in
theorem rAll_any (n : Nat) (w : World) (hn : n ≤ 1000) :
    Calls Tryd.prog 28 #[.int .i64 n] w fun e w' => ∃ r, e = .returned r ∧ Ints w' r (allM n) ∧ Below w.heap.size w w' := by
  obtain ⟨j0, hj, hy0, hy1, hy2⟩ := info_parts infoInt
  go_enter Tryd.func28, Tryd.ntmps28
  go_wp2
  go_loopw [3, 4] (fun r i wr => ∃ k : Nat, k ≤ n ∧ i = .int .i64 k ∧ Below w.heap.size w wr ∧ wr.ownsRow w.heap.size 3 1 r k ((allM k).map fun x => .int .i64 x)) (fun _ i _ => n - (intOf i).toNat)
  case atStart => exact ⟨0, Nat.zero_le _, rfl, Below.refl _ _, ⟨rfl, .inl ⟨rfl, rfl⟩⟩⟩
  case round =>
    obtain ⟨k, hk, rfl, hB, ho⟩ := hrel
    have hsz := hB.size
    by_cases hlt' : k < n
    · have hkm : (k : Int) < n := by omega
      have Hs := hid (allM_succ k)
      generalize allM k = pk at *
      go_wp2_with (at_builtin; refine wpList_append_own_at _ rfl _ _ 41 rfl w.heap.size 3 j0 (.int .i64 0) 1 8 Tryd.underlying41 hj hy0 hy1 hy2 rfl (by decide) _ _ _ rfl (ho.alloc _) ⟨wr.heap.size, 0, none⟩ 1 1 [.int .i64 (k : Int)] rfl rfl (cell_one_new _ _ _) (by simp [Value.oneCell']) (by unfold maxLen; omega) (by omega) (by simp; omega) ?_; intro v' w5 hown' hgrow' _ hat)
      go_roundw
      case rel => exact ⟨k + 1, by omega, by go_num, appended_below hB ho hsz hgrow', by rw [Hs.out]; exact hown'⟩
      case measure => simp [intOf]; omega
    · obtain rfl : k = n := by omega
      have hl := allM_len k
      go_wp2
      go_ret
      exact ⟨_, rfl, Ints.of_own (n₀ := w.heap.size) (e := 3) (by rw [hl]; exact ho) (by unfold big; omega), hB⟩
end Go.Proofs.YtlpfglkopnmlnaaDoor
namespace Go.Proofs.YtlpfglkopnmlnaaDoor
open Go.RowKit
/-- A world behind another one: memory has been added. -/
structure LaterW (y : World) where
  world : World
  below : Below y.heap.size y world
instance (y : World) : Nonempty (LaterW y) := ⟨⟨y, Below.refl _ _⟩⟩
theorem wp_region_later {P : Program} {id : Nat} {Q : Exit → Act → World → Prop} {a : Act} {y : World} {l : List Oper} (hm : P.follows .mixedOrders = true) (hB : Region.lexB .any l.toArray = true)
    (h : wpQuiet P l.toArray (fun w' => ∃ z : LaterW y, w' = z.world) (fun a' => ∀ z : LaterW y, Q .normal a' z.world) l a) : (Code.region id l.toArray true).wp P Q a y := by
  refine wp_region_quiet (C := fun w' => ∃ z : LaterW y, w' = z.world) hm hB ⟨⟨y.drew, below_dr y 1⟩, rfl⟩ ?_
  have e : (fun a' => ∀ z : LaterW y, Q .normal a' z.world) = fun a' => ∀ w', (∃ z : LaterW y, w' = z.world) → Q .normal a' w' := by
    funext a'
    exact propext ⟨fun h w' ⟨z, hz⟩ => by rw [hz]; exact h z, fun h z => h _ ⟨z, rfl⟩⟩
  rw [← e]
  simpa using h
theorem later_call {P : Program} {f : FuncId} {args : Array Value} {y : World} {z : LaterW y} {v : Value} (h : ∀ w, Below y.heap.size y w → Calls P f args w fun e w' => e = .returned v ∧ Below w.heap.size w w') :
    Calls P f args z.world fun e w'' => e = .returned v ∧ ∃ z' : LaterW y, w'' = z'.world :=
  (h z.world z.below).mono fun _ w'' ⟨he, hb⟩ => ⟨he, ⟨w'', btr z.below hb⟩, rfl⟩
theorem later_cell {y : World} {p : Addr} {v : Value} (h : y.cell? p = some v) : ∀ z : LaterW y, z.world.cell? p = some v := fun z => (z.below.cell (World.block_lt_of_cell? _ _ h)).trans h
end Go.Proofs.YtlpfglkopnmlnaaDoor
namespace Go.Proofs.YtlpfglkopnmlnaaDoor
open Go.RowKit Go.Shelf
section
variable {m : List (List Int)} (hv : validM m = true) (hc : connM m = true)
include hv hc
theorem lens_zero : (lensM m).getD 0 0 = 0 := by
  have h0 : 0 < m.length := by have := (valid_parts hv).1; omega
  obtain ⟨u, h1, h2, h3, h4, h5⟩ := lensM_get hv hc h0
  have := h5 [] rfl rfl
  simp at this
  subst this
  simpa using h3
/-- A word of k letters leads k classes on. -/
theorem cls_step {s : Nat} (hs : s < m.length) {u : List Int} (hu : u.all (inB 0 ((letters m : Int) - 1)) = true) :
    (clsM m).getD (runM m s u) 0 = ((clsM m).getD s 0 + u.length) % (perM m : Int) := by
  have ht := runQ_lt hv hs hu
  have h := len_mod hv hc u s hs hu
  rw [clsM_get m ht, clsM_get m hs, Int.emod_add_emod]
  symm
  rw [Int.emod_eq_emod_iff_emod_sub_eq_zero]
  exact Int.emod_eq_zero_of_dvd h
theorem cls_all {k : Nat} (hk : k < perM m) : hasB (clsM m) k = true := by
  obtain ⟨p1, p2, p3, p4, p5⟩ := valid_parts hv
  have hall : (List.replicate k (0 : Int)).all (inB 0 ((letters m : Int) - 1)) = true := by
    rw [List.all_eq_true]
    intro x hx
    obtain ⟨_, rfl⟩ := List.mem_replicate.1 hx
    exact inB_true ⟨by omega, by omega⟩
  have h0 : 0 < m.length := by omega
  have ht := runQ_lt hv h0 hall
  have h := cls_step hv hc h0 hall
  rw [clsM_get m h0, lens_zero hv hc, List.length_replicate, Int.zero_emod, Int.zero_add, Int.emod_eq_of_lt (by omega) (by omega)] at h
  have hl : runM m 0 (List.replicate k 0) < (clsM m).length := by rw [clsM_len]; exact ht
  rw [List.getD_eq_getElem?_getD, List.getElem?_eq_getElem hl, Option.getD_some] at h
  unfold hasB
  rw [List.any_eq_true]
  exact ⟨_, List.getElem_mem hl, by rw [h]; simp⟩
end
theorem Period_any (v : Value) (m : List (List Int)) (p e : Int) (w : World) (h : Rows w v m) (hp : (connM m = true ∧ validM m = true ∧ p = perM m ∧ e = 0) ∨ (BadM m e ∧ p = 0)) :
    Calls Tryd.prog 26 #[.agg #[v]] w fun x w' => x = .returned (.tuple #[.int .i64 p, .int .i64 e]) ∧ Below w.heap.size w w' := by
  rcases hp with ⟨h1, h2, rfl, rfl⟩ | ⟨h1, rfl⟩
  · exact Period_ok v m w h h2 h1
  · exact Period_bad v m e w h h1
theorem Classes_as (v : Value) (m : List (List Int)) (C : List Int) (w : World) (h : Rows w v m) (hv : validM m = true) (hc : connM m = true) (hC : Hid (clsM m = C)) :
    Calls Tryd.prog 32 #[.agg #[v]] w fun e w' => ∃ A c, e = .returned (.tuple #[.slice A m.length c, .int .i64 0]) ∧ Ints w' (.slice A m.length c) C ∧ Below w.heap.size w w' := by
  rw [← hC.out]
  refine (Classes_ok v m w h hv hc).mono ?_
  rintro e w1 ⟨r, rfl, ho, hb⟩
  have hl := clsM_len m
  have p2 := (valid_parts hv).2.1
  have hi : Ints w1 r (clsM m) := Ints.of_own (n₀ := w.heap.size) (e := 3) (by rw [hl]; exact ho) (by rw [hl]; unfold big; omega)
  obtain ⟨A, c, rfl, _⟩ := id hi
  rw [hl] at hi ⊢
  exact ⟨A, c, rfl, hi, hb⟩
end Go.Proofs.YtlpfglkopnmlnaaDoor
namespace Go.Proofs.YtlpfglkopnmlnaaDoor
open Go.RowKit Go.Shelf
theorem rAll_as (n : Nat) (L : List Int) (w : World) (hn : n ≤ 1000) (hL : Hid (allM n = L)) :
    Calls Tryd.prog 28 #[.int .i64 n] w fun e w' => ∃ r, e = .returned r ∧ Ints w' r L ∧ Below w.heap.size w w' := by
  rw [← hL.out]; exact rAll_any n w hn
theorem Sinks_as (v : Value) (m L : List (List Int)) (w : World) (hT : Tab w) (h : Rows w v m) (hv : validM m = true) (hL : Hid (sinksTo m m.length = L)) :
    Calls Tryd.prog 34 #[.agg #[v]] w fun e w' => ∃ A c, e = .returned (.tuple #[.slice A L.length c, .int .i64 0]) ∧ Rows w' (.slice A L.length c) L ∧ Below w.heap.size w w' := by
  rw [← hL.out]
  refine (Sinks_ok v m w hT h hv).mono ?_
  rintro e w1 ⟨r, rfl, hr, hb⟩
  obtain ⟨A, c, rfl, _⟩ := id hr
  exact ⟨A, c, rfl, hr, hb⟩
end Go.Proofs.YtlpfglkopnmlnaaDoor
namespace Go.Proofs.YtlpfglkopnmlnaaDoor
open Go.RowKit Go.Shelf
theorem row_below {m : List (List Int)} (hv : validM m = true) {t : Nat} (ht : t < m.length) : (m.getD t []).all (inB 0 ((m.length : Int) - 1)) = true := by
  obtain ⟨h1, h2⟩ := (valid_parts hv).2.2.2.2 t ht
  rw [List.all_eq_true]
  intro x hx
  obtain ⟨j, hj, rfl⟩ := List.mem_iff_getElem.1 hx
  have := h2 j (by omega)
  rw [List.getD_eq_getElem?_getD, List.getElem?_eq_getElem hj, Option.getD_some] at this
  exact inB_true ⟨this.1, by omega⟩
end Go.Proofs.YtlpfglkopnmlnaaDoor
namespace Go.Proofs.YtlpfglkopnmlnaaDoor
open Go.RowKit Go.Shelf
def fct : Nat → Nat
  | 0 => 1
  | k + 1 => fct k * (k + 1)
theorem fct_pos : ∀ k, 0 < fct k
  | 0 => by decide
  | k + 1 => Nat.mul_pos (fct_pos k) (Nat.succ_pos k)
theorem fct_le {k : Nat} (h : k ≤ 6) : fct k ≤ 720 := by
  rcases (show k = 0 ∨ k = 1 ∨ k = 2 ∨ k = 3 ∨ k = 4 ∨ k = 5 ∨ k = 6 by omega) with rfl | rfl | rfl | rfl | rfl | rfl | rfl <;> decide
theorem fct_dvd : ∀ (n a b : Nat), a + b = n → fct a * fct b ∣ fct n
  | 0, a, b, h => by
    obtain rfl : a = 0 := by omega
    obtain rfl : b = 0 := by omega
    exact Nat.dvd_refl _
  | n + 1, a, b, h => by
    have e : fct (n + 1) = fct n * a + fct n * b := by rw [← Nat.mul_add, h]; rfl
    rw [e]
    refine Nat.dvd_add ?_ ?_
    · cases a with
      | zero => simp
      | succ a =>
        have ih := fct_dvd n a b (by omega)
        have e2 : fct (a + 1) * fct b = (fct a * fct b) * (a + 1) := by
          show fct a * (a + 1) * fct b = _
          rw [Nat.mul_assoc, Nat.mul_comm (a + 1), ← Nat.mul_assoc]
        rw [e2]
        exact Nat.mul_dvd_mul_right ih _
    · cases b with
      | zero => simp
      | succ b =>
        have ih := fct_dvd n a b (by omega)
        have e2 : fct a * fct (b + 1) = (fct a * fct b) * (b + 1) := by
          show fct a * (fct b * (b + 1)) = _
          rw [Nat.mul_assoc]
        rw [e2]
        exact Nat.mul_dvd_mul_right ih _
/-- The product over the states below n; how many elements are below n. -/
def prodT (l : List Int) : Nat → Nat
  | 0 => 1
  | t + 1 => prodT l t * fct (timesL l (t : Int))
def belowT (l : List Int) (n : Nat) : Nat := (l.filter fun x => decide (x < (n : Int))).length
theorem belowT_succ {l : List Int} (h : ∀ x ∈ l, 0 ≤ x) (n : Nat) : belowT l (n + 1) = belowT l n + timesL l (n : Int) := by
  unfold belowT timesL
  induction l with
  | nil => rfl
  | cons a l ih =>
    have ih := ih (fun x hx => h x (by simp [hx]))
    have ha := h a (by simp)
    simp only [List.filter_cons]
    by_cases h1 : a < (n : Int)
    · have h2 : a < ((n + 1 : Nat) : Int) := by omega
      have h3 : (a == (n : Int)) = false := beq_eq_false_iff_ne.2 (by omega)
      simp only [h1, h2, h3, decide_true, if_true, List.length_cons]
      simp only [if_neg (show ¬ (false = true) by decide)]
      omega
    · by_cases h2 : a = (n : Int)
      · have h3 : a < ((n + 1 : Nat) : Int) := by omega
        have h4 : (a == (n : Int)) = true := beq_iff_eq.2 h2
        simp only [h1, h3, h4, decide_true, decide_false, if_true, List.length_cons]
        simp only [if_neg (show ¬ (false = true) by decide)]
        omega
      · have h3 : ¬ a < ((n + 1 : Nat) : Int) := by omega
        have h4 : (a == (n : Int)) = false := beq_eq_false_iff_ne.2 h2
        simp only [h1, h3, h4, decide_false]
        simp only [if_neg (show ¬ (false = true) by decide)]
        exact ih
theorem prodT_dvd {l : List Int} (h : ∀ x ∈ l, 0 ≤ x) : ∀ n, prodT l n ∣ fct (belowT l n)
  | 0 => Nat.one_dvd _
  | n + 1 => by
    have ih := prodT_dvd h n
    rw [belowT_succ h]
    exact Nat.dvd_trans (Nat.mul_dvd_mul_right ih _) (fct_dvd _ _ _ rfl)
theorem belowT_all {l : List Int} {n : Nat} (h : ∀ x ∈ l, x < (n : Int)) : belowT l n = l.length := by
  unfold belowT
  rw [List.filter_eq_self.2 (fun x hx => decide_eq_true (h x hx))]
theorem prodT_pos (l : List Int) : ∀ n, 0 < prodT l n
  | 0 => Nat.one_pos
  | n + 1 => Nat.mul_pos (prodT_pos l n) (fct_pos _)
/-- How many different orders. -/
def ordN (l : List Int) (n : Nat) : Nat := fct l.length / prodT l n
theorem timesL_snoc (l : List Int) (x t : Int) : timesL (l ++ [x]) t = timesL l t + (if x = t then 1 else 0) := by
  unfold timesL
  rw [List.filter_append, List.length_append]
  by_cases h : x = t
  · subst h; simp
  · rw [if_neg h]
    have : (x == t) = false := beq_eq_false_iff_ne.2 h
    simp [this]
theorem prodT_snoc (l : List Int) (x : Nat) : ∀ n, prodT (l ++ [(x : Int)]) n = if x < n then prodT l n * (timesL l x + 1) else prodT l n
  | 0 => by simp [prodT]
  | n + 1 => by
    have ih := prodT_snoc l x n
    unfold prodT
    rw [ih, timesL_snoc]
    by_cases h : x = n
    · subst h
      rw [if_neg (by omega), if_pos rfl, if_pos (by omega)]
      show prodT l x * (fct (timesL l x) * (timesL l x + 1)) = prodT l x * fct (timesL l x) * (timesL l x + 1)
      rw [Nat.mul_assoc]
    · have e0 : timesL l (n : Int) + (if (x : Int) = (n : Int) then 1 else 0) = timesL l (n : Int) := by rw [if_neg (by omega)]; rfl
      rw [e0]
      by_cases h2 : x < n
      · rw [if_pos h2, if_pos (by omega), Nat.mul_assoc, Nat.mul_assoc, Nat.mul_comm (timesL l x + 1)]
      · rw [if_neg h2, if_neg (by omega)]
/-- One element more: as the program reckons. -/
theorem ordN_snoc {l : List Int} {n x : Nat} (h : ∀ y ∈ l, 0 ≤ y ∧ y < (n : Int)) (hx : x < n) : ordN (l ++ [(x : Int)]) n = ordN l n * (l.length + 1) / (timesL l x + 1) := by
  have hd : prodT l n ∣ fct l.length := by
    have := prodT_dvd (fun y hy => (h y hy).1) n
    rwa [belowT_all (fun y hy => (h y hy).2)] at this
  unfold ordN
  rw [prodT_snoc, if_pos hx, List.length_append, List.length_singleton]
  show fct l.length * (l.length + 1) / (prodT l n * (timesL l x + 1)) = _
  rw [← Nat.div_div_eq_div_mul, Nat.mul_comm (fct l.length), Nat.mul_div_assoc _ hd, Nat.mul_comm]
theorem ordN_le {l : List Int} {n : Nat} (h : l.length ≤ 6) : ordN l n ≤ 720 := Nat.le_trans (Nat.div_le_self _ _) (fct_le h)
theorem ordN_pos {l : List Int} {n : Nat} (h : ∀ y ∈ l, 0 ≤ y ∧ y < (n : Int)) : 0 < ordN l n := by
  have hd : prodT l n ∣ fct l.length := by
    have := prodT_dvd (fun y hy => (h y hy).1) n
    rwa [belowT_all (fun y hy => (h y hy).2)] at this
  exact Nat.div_pos (Nat.le_of_dvd (fct_pos _) hd) (prodT_pos l n)
theorem ordN_nil (n : Nat) : ordN [] n = 1 := by
  have : ∀ n, prodT [] n = 1 := fun n => by
    induction n with
    | zero => rfl
    | succ n ih => unfold prodT; rw [ih]; rfl
  unfold ordN
  rw [this]; rfl
/-- As the reference reckons: quotient by quotient. -/
def waysT (l : List Int) (t : Nat) : Nat := fct l.length / prodT l t
theorem waysT_zero (l : List Int) : waysT l 0 = fct l.length := by unfold waysT prodT; simp
theorem waysT_succ (l : List Int) (t : Nat) : waysT l (t + 1) = waysT l t / fct (timesL l t) := by
  unfold waysT
  rw [Nat.div_div_eq_div_mul]
  rfl
/-- The number of colourings, state by state, up to a limit. -/
def colTo (m : List (List Int)) (lim : Nat) : Nat → Option Nat
  | 0 => some 1
  | s + 1 => match colTo m lim s with
    | none => none
    | some c => if lim / ordN (m.getD s []) m.length < c then none else some (c * ordN (m.getD s []) m.length)
theorem colTo_none {m : List (List Int)} {lim s : Nat} (h : colTo m lim s = none) : ∀ k, colTo m lim (s + k) = none
  | 0 => h
  | k + 1 => by
    show (match colTo m lim (s + k) with | none => none | some c => _) = none
    rw [colTo_none h k]
theorem colTo_pos {m : List (List Int)} (hv : validM m = true) {lim : Nat} (hl : 1 ≤ lim) : ∀ {s c : Nat}, s ≤ m.length → colTo m lim s = some c → 1 ≤ c ∧ c ≤ lim
  | 0, c, _, h => by
    obtain rfl : 1 = c := by simpa [colTo] using h
    omega
  | s + 1, c, hs, h => by
    unfold colTo at h
    cases h1 : colTo m lim s with
    | none => rw [h1] at h; cases h
    | some c1 =>
      rw [h1] at h
      have ih := colTo_pos hv hl (by omega) h1
      have hrow : ∀ y ∈ m.getD s [], 0 ≤ y ∧ y < (m.length : Int) := fun y hy => by
        have := inB_iff.1 (List.all_eq_true.1 (row_below hv (t := s) (by omega)) y hy)
        omega
      have hp := ordN_pos hrow
      by_cases h2 : lim / ordN (m.getD s []) m.length < c1
      · simp only [if_pos h2] at h; cases h
      · simp only [if_neg h2, Option.some.injEq] at h
        subst h
        refine ⟨Nat.mul_pos (by omega) hp, ?_⟩
        exact Nat.le_trans (Nat.mul_le_mul_right _ (Nat.le_of_not_lt h2)) (Nat.div_mul_le_self _ _)
end Go.Proofs.YtlpfglkopnmlnaaDoor
namespace Go.Proofs.YtlpfglkopnmlnaaDoor
open Go.RowKit Go.Shelf
/-- A list by a function. -/
def Lf (n : Nat) (f : Nat → Int) : List Int := (List.range n).map f
theorem Lf_len (n : Nat) (f : Nat → Int) : (Lf n f).length = n := by simp [Lf]
theorem Lf_get {n : Nat} (f : Nat → Int) {i : Nat} (hi : i < n) : (Lf n f).getD i 0 = f i := by
  simp [Lf, List.getD_eq_getElem?_getD, List.getElem?_map, List.getElem?_range hi]
theorem Lf_congr {n : Nat} {f g : Nat → Int} (h : ∀ i, i < n → f i = g i) : Lf n f = Lf n g := List.map_congr_left fun i hi => h i (List.mem_range.1 hi)
theorem Lf_set {n : Nat} (f : Nat → Int) (s : Nat) (v : Int) : (Lf n f).set s v = Lf n (fun i => if i = s then v else f i) := by
  apply List.ext_getElem
  · simp [Lf]
  · intro i h1 h2
    rw [List.getElem_set]
    simp only [Lf, List.getElem_map, List.getElem_range]
    by_cases e : s = i
    · rw [if_pos e, if_pos e.symm]
    · rw [if_neg e, if_neg (fun h => e h.symm)]
theorem Lf_cell {n : Nat} (f : Nat → Int) {i : Nat} (hi : i < n) : ((Lf n f).map fun x => Value.int .i64 x)[i]? = some (.int .i64 (f i)) := by
  rw [getI_cell (by rw [Lf_len]; exact hi), Lf_get f hi]
end Go.Proofs.YtlpfglkopnmlnaaDoor
namespace Go.Proofs.YtlpfglkopnmlnaaDoor
open Go.RowKit Go.Shelf
theorem least_nat {p : Nat → Prop} : ∀ n, p n → ∃ k, p k ∧ k ≤ n ∧ ∀ j, p j → ¬ j < k := by
  intro n
  induction n using Nat.strongRecOn with
  | _ n ih =>
    intro hn
    by_cases h : ∃ j, p j ∧ j < n
    · obtain ⟨j, hj, hlt⟩ := h
      obtain ⟨k, h1, h2, h3⟩ := ih j hlt hj
      exact ⟨k, h1, by omega, h3⟩
    · exact ⟨n, hn, Nat.le_refl _, fun j hj hlt => h ⟨j, hj, hlt⟩⟩
theorem W_refl (m : List (List Int)) (s : Nat) : exactP m s 0 s := ⟨[], rfl, rfl, rfl⟩
theorem W_trans {m : List (List Int)} {a b c i j : Nat} (h : exactP m a i b) (k : exactP m b j c) : exactP m a (i + j) c := by
  obtain ⟨u, hu, rfl, rfl⟩ := h
  obtain ⟨v, hv, rfl, rfl⟩ := k
  exact ⟨u ++ v, all_append_ok hu hv, by simp, runQ_append m a u v⟩
theorem W_times {m : List (List Int)} {c b : Nat} (h : exactP m c b c) : ∀ N, exactP m c (b * N) c
  | 0 => W_refl m c
  | N + 1 => by rw [Nat.mul_succ]; exact W_trans (W_times h N) h
theorem W_some {m : List (List Int)} (hv : validM m = true) {s : Nat} (hs : s < m.length) (k : Nat) : ∃ t, t < m.length ∧ exactP m s k t := by
  obtain ⟨p1, p2, p3, p4, p5⟩ := valid_parts hv
  have hall : (List.replicate k (0 : Int)).all (inB 0 ((letters m : Int) - 1)) = true := by
    rw [List.all_eq_true]
    intro x hx
    obtain ⟨_, rfl⟩ := List.mem_replicate.1 hx
    exact inB_true ⟨by omega, by omega⟩
  exact ⟨_, runQ_lt hv hs hall, _, hall, by simp, rfl⟩
theorem allw_take {K : Nat} {u : List Int} (h : u.all (inB 0 ((K : Int) - 1)) = true) (i : Nat) : (u.take i).all (inB 0 ((K : Int) - 1)) = true := by
  rw [List.all_eq_true] at h ⊢
  exact fun x hx => h x (List.mem_of_mem_take hx)
theorem allw_drop {K : Nat} {u : List Int} (h : u.all (inB 0 ((K : Int) - 1)) = true) (i : Nat) : (u.drop i).all (inB 0 ((K : Int) - 1)) = true := by
  rw [List.all_eq_true] at h ⊢
  exact fun x hx => h x (List.mem_of_mem_drop hx)
theorem run_split (m : List (List Int)) (a : Nat) (u : List Int) (i : Nat) : runM m (runM m a (u.take i)) (u.drop i) = runM m a u := by
  rw [← runQ_append, List.take_append_drop]
/-- What lies between two places of a walk. -/
theorem run_between (m : List (List Int)) (a : Nat) (u : List Int) {i j : Nat} (hij : i ≤ j) : runM m (runM m a (u.take i)) ((u.drop i).take (j - i)) = runM m a (u.take j) := by
  rw [← runQ_append]
  congr 1
  have : u.take j = u.take (i + (j - i)) := by rw [show i + (j - i) = j by omega]
  rw [this, List.take_add]
theorem pigeon {n k : Nat} (f : Nat → Nat) (hf : ∀ i, i ≤ k → f i < n) (hk : n ≤ k) : ∃ i j, i < j ∧ j ≤ k ∧ f i = f j := by
  apply Classical.byContradiction
  intro hno
  have hnd : ((List.range (k + 1)).map fun i => ((f i : Nat) : Int)).Nodup := by
    unfold List.Nodup
    rw [List.pairwise_map]
    refine List.Pairwise.imp_of_mem (fun {i j} _ hj hlt e => hno ⟨i, j, hlt, ?_, by omega⟩) List.pairwise_lt_range
    have := List.mem_range.1 hj
    omega
  have := nodup_len n _ hnd (fun x hx => by
    obtain ⟨i, hi, rfl⟩ := List.mem_map.1 hx
    have h1 := List.mem_range.1 hi
    have h2 := hf i (by omega)
    omega)
  simp at this
  omega
/-- A walk by steps of q letters is made short. -/
theorem shorten {m : List (List Int)} (hv : validM m = true) {a b q : Nat} (ha : a < m.length) : ∀ j, exactP m a (q * j) b → ∃ j', j' + 1 ≤ m.length ∧ exactP m a (q * j') b := by
  intro j
  induction j using Nat.strongRecOn with
  | _ j ih =>
    intro h
    by_cases hj : j + 1 ≤ m.length
    · exact ⟨j, hj, h⟩
    · obtain ⟨u, hu, hl, hr⟩ := h
      obtain ⟨i, i', hlt, hle, he⟩ := pigeon (n := m.length) (k := j) (fun i => runM m a (u.take (q * i))) (fun i _ => runQ_lt hv ha (allw_take hu _)) (by omega)
      have h1 : q * i' ≤ q * j := Nat.mul_le_mul_left q hle
      have h2 : q * i ≤ q * i' := Nat.mul_le_mul_left q (by omega)
      refine ih (i + (j - i')) (by omega) ⟨u.take (q * i) ++ u.drop (q * i'), all_append_ok (allw_take hu _) (allw_drop hu _), ?_, ?_⟩
      · rw [List.length_append, List.length_take, List.length_drop, hl, Nat.mul_add, Nat.mul_sub]
        omega
      · rw [runQ_append, show runM m a (u.take (q * i)) = runM m a (u.take (q * i')) from he, run_split]
        exact hr
theorem closed_mult {m : List (List Int)} (hv : validM m = true) (hg : ∀ v, v < m.length → ∀ k, 1 ≤ k → k < m.length → ¬ exactP m v k v) : ∀ k v, v < m.length → exactP m v k v → m.length ∣ k := by
  intro k
  induction k using Nat.strongRecOn with
  | _ k ih =>
    intro v hvn h
    rcases Nat.eq_zero_or_pos k with e | e
    · rw [e]; exact Nat.dvd_zero _
    · by_cases hk : k < m.length
      · exact absurd h (hg v hvn k e hk)
      · obtain ⟨u, hu, hl, hr⟩ := h
        obtain ⟨i, j, hlt, hle, he⟩ := pigeon (n := m.length) (k := m.length) (fun i => runM m v (u.take i)) (fun i _ => runQ_lt hv hvn (allw_take hu _)) (Nat.le_refl _)
        have hcl : exactP m (runM m v (u.take i)) (j - i) (runM m v (u.take i)) := ⟨(u.drop i).take (j - i), allw_take (allw_drop hu _) _, by rw [List.length_take, List.length_drop, hl]; omega, by rw [run_between m v u (by omega)]; exact he.symm⟩
        have hji : ¬ j - i < m.length := fun h2 => hg _ (runQ_lt hv hvn (allw_take hu _)) (j - i) (by omega) h2 hcl
        have hi0 : i = 0 := by omega
        have hjn : j = m.length := by omega
        subst hi0 hjn
        have hv2 : runM m v (u.take m.length) = v := he.symm
        have hrest : exactP m v (k - m.length) v := ⟨u.drop m.length, allw_drop hu _, by rw [List.length_drop, hl], by
          have := run_split m v u m.length
          rw [hv2] at this
          rw [this]; exact hr⟩
        have hpos := (valid_parts hv).1
        have := ih (k - m.length) (by omega) v hvn hrest
        have h3 := Nat.dvd_add this (Nat.dvd_refl m.length)
        rwa [show k - m.length + m.length = k by omega] at h3
section
variable {m : List (List Int)} (hv : validM m = true) (hc : connM m = true) (hp : perM m = 1)
include hv hc hp
/-- Whatever divides the lengths of all ways round from some state is 1. -/
theorem only_one {c h : Nat} (hcn : c < m.length) (hh : ∀ b, exactP m c b c → h ∣ b) : h = 1 := by
  have h0 : 0 < m.length := by omega
  obtain ⟨u, u1, _, u3⟩ := short_way hv hc hcn h0
  obtain ⟨v, v1, _, v3⟩ := short_way hv hc h0 hcn
  have e1 : exactP m c u.length 0 := ⟨u, u1, rfl, u3⟩
  have e2 : exactP m 0 v.length c := ⟨v, v1, rfl, v3⟩
  have d1 := hh _ (W_trans e1 e2)
  have hd : h ∣ perR m (3 * m.length) := dvd_perR m _ fun k _ _ hk => by
    have e3 := (exactTo_get hv h0 _ _).1 hk
    have d2 := hh _ (W_trans e1 (W_trans e3 e2))
    have := Nat.dvd_sub d2 d1
    rwa [show u.length + (k + v.length) - (u.length + v.length) = k by omega] at this
  rw [perR_eq hv hc, hp] at hd
  exact Nat.dvd_one.1 hd
theorem wielandt {s t k : Nat} (hs : s < m.length) (ht : t < m.length) (hk : (m.length - 1) * (m.length - 1) + 1 ≤ k) : exactP m s k t := by
  obtain ⟨p1, p2, p3, p4, p5⟩ := valid_parts hv
  by_cases hn1 : m.length = 1
  · obtain ⟨t', ht', h⟩ := W_some hv hs k
    have : t' = t := by omega
    rw [← this]; exact h
  -- the shortest way round
  obtain ⟨g0, v, hg0, hg0n, hvn, hgw⟩ : ∃ g v, 1 ≤ g ∧ g < m.length ∧ v < m.length ∧ exactP m v g v := by
    apply Classical.byContradiction
    intro hno
    have hdiv := closed_mult hv (fun v hvn k h1 h2 h3 => hno ⟨k, v, h1, h2, hvn, h3⟩)
    have := only_one hv hc hp (c := 0) (by omega) (fun b hb => hdiv b 0 (by omega) hb)
    omega
  obtain ⟨g, ⟨hg1, c0, hc0, hcw⟩, hgle, hgmin⟩ := least_nat (p := fun g => 1 ≤ g ∧ ∃ v, v < m.length ∧ exactP m v g v) g0 ⟨hg0, v, hvn, hgw⟩
  obtain ⟨u0, hu0, hl0, hr0⟩ := hcw
  obtain ⟨C, hC⟩ : ∃ C : Nat → Nat, C = fun i => runM m c0 (u0.take i) := ⟨_, rfl⟩
  have hCi : ∀ i, C i = runM m c0 (u0.take i) := fun i => by rw [hC]
  have hCn : ∀ i, C i < m.length := fun i => by rw [hCi]; exact runQ_lt hv hc0 (allw_take hu0 _)
  have hC0 : C 0 = c0 := by rw [hCi]; rfl
  have hCg : C g = c0 := by rw [hCi, ← hl0, List.take_length]; exact hr0
  have hCd : ∀ i j, i < j → j < g → C i ≠ C j := fun i j hij hj e => by
    refine hgmin (j - i) ⟨by omega, C i, hCn i, (u0.drop i).take (j - i), allw_take (allw_drop hu0 _) _, by rw [List.length_take, List.length_drop, hl0]; omega, ?_⟩ (by omega)
    rw [hCi, run_between m c0 u0 (by omega), ← hCi, ← e, hCi]
  have hloop : ∀ i, i < g → exactP m (C i) g (C i) := fun i hi => by
    have a1 : exactP m (C i) (g - i) c0 := ⟨u0.drop i, allw_drop hu0 _, by rw [List.length_drop, hl0], by rw [hCi, run_split]; exact hr0⟩
    have a2 : exactP m c0 i (C i) := ⟨u0.take i, allw_take hu0 _, by rw [List.length_take, hl0]; omega, (hCi i).symm⟩
    have := W_trans a1 a2
    rwa [show g - i + i = g by omega] at this
  have hstep : ∀ i, i < g → ∃ i', i' < g ∧ exactP m (C i) 1 (C i') := fun i hi => by
    have a1 : exactP m (C i) 1 (C (i + 1)) := ⟨(u0.drop i).take 1, allw_take (allw_drop hu0 _) _, by rw [List.length_take, List.length_drop, hl0]; omega, by
      have := run_between m c0 u0 (i := i) (j := i + 1) (by omega)
      rw [show i + 1 - i = 1 by omega] at this
      rw [hCi, hCi, this]⟩
    by_cases e : i + 1 < g
    · exact ⟨i + 1, e, a1⟩
    · have e2 : i + 1 = g := by omega
      rw [e2, hCg, ← hC0] at a1
      exact ⟨0, by omega, a1⟩
  have hround : ∀ j i, i < g → ∃ i', i' < g ∧ exactP m (C i) j (C i') := by
    intro j
    induction j with
    | zero => exact fun i hi => ⟨i, hi, W_refl m _⟩
    | succ j ih =>
      intro i hi
      obtain ⟨i1, h1, w1⟩ := ih i hi
      obtain ⟨i2, h2, w2⟩ := hstep i1 h1
      exact ⟨i2, h2, W_trans w1 w2⟩
  have key : ∀ s, s < m.length → exactP m s (m.length - g + g * (m.length - 1)) t := by
    intro s hs
    -- from s into the ring
    obtain ⟨ku, hku⟩ : ∃ k, exactP m s k c0 := by
      obtain ⟨u, a1, _, a3⟩ := short_way hv hc hs hc0
      exact ⟨u.length, u, a1, rfl, a3⟩
    obtain ⟨k1, ⟨i1, hi1, hk1⟩, _, hk1min⟩ := least_nat (p := fun k => ∃ i, i < g ∧ exactP m s k (C i)) ku ⟨0, by omega, by rw [hC0]; exact hku⟩
    have hk1g : k1 + g ≤ m.length := by
      obtain ⟨u, hu, hl, hr⟩ := hk1
      have hnd : (((List.range k1).map fun i => ((runM m s (u.take i) : Nat) : Int)) ++ ((List.range g).map fun i => ((C i : Nat) : Int))).Nodup := by
        rw [List.nodup_append]
        refine ⟨?_, ?_, ?_⟩
        · unfold List.Nodup
          rw [List.pairwise_map]
          refine List.Pairwise.imp_of_mem (fun {i j} _ hj hlt e => ?_) List.pairwise_lt_range
          have hj' := List.mem_range.1 hj
          refine hk1min (i + (k1 - j)) ⟨i1, hi1, u.take i ++ u.drop j, all_append_ok (allw_take hu _) (allw_drop hu _), ?_, ?_⟩ (by omega)
          · rw [List.length_append, List.length_take, List.length_drop, hl]; omega
          · rw [runQ_append, show runM m s (u.take i) = runM m s (u.take j) by omega, run_split]; exact hr
        · unfold List.Nodup
          rw [List.pairwise_map]
          refine List.Pairwise.imp_of_mem (fun {i j} _ hj hlt e => hCd i j hlt (List.mem_range.1 hj) (by omega)) List.pairwise_lt_range
        · intro a ha b hb e
          obtain ⟨i, hi, rfl⟩ := List.mem_map.1 ha
          obtain ⟨j, hj, rfl⟩ := List.mem_map.1 hb
          have hi' := List.mem_range.1 hi
          exact hk1min i ⟨j, List.mem_range.1 hj, u.take i, allw_take hu _, by rw [List.length_take, hl]; omega, by omega⟩ hi'
      have := nodup_len m.length _ hnd (fun x hx => by
        rcases List.mem_append.1 hx with h1 | h1
        · obtain ⟨i, _, rfl⟩ := List.mem_map.1 h1
          have := runQ_lt hv hs (allw_take hu i)
          omega
        · obtain ⟨i, _, rfl⟩ := List.mem_map.1 h1
          have := hCn i
          omega)
      simpa using this
    obtain ⟨i2, hi2, hw2⟩ := hround (m.length - g - k1) i1 hi1
    have hin : exactP m s (m.length - g) (C i2) := by
      have := W_trans hk1 hw2
      rwa [show k1 + (m.length - g - k1) = m.length - g by omega] at this
    -- in the ring: each residue
    obtain ⟨c, hcc⟩ : ∃ c, c = C i2 := ⟨_, rfl⟩
    have hcn : c < m.length := by rw [hcc]; exact hCn i2
    have hcl : exactP m c g c := by rw [hcc]; exact hloop i2 hi2
    rw [← hcc] at hin
    obtain ⟨h, ⟨hh1, b1, hb1, hbm⟩, hhg, hhmin⟩ := least_nat (p := fun r => 1 ≤ r ∧ ∃ b, exactP m c b c ∧ b % g = r % g) g ⟨hg1, g, hcl, rfl⟩
    have hdvd : ∀ b, exactP m c b c → h ∣ b := fun b hb => by
      apply Classical.byContradiction
      intro hnd
      have hr : b % h ≠ 0 := fun e => hnd (Nat.dvd_of_mod_eq_zero e)
      have hlt : b % h < h := Nat.mod_lt _ (by omega)
      refine hhmin (b % h) ⟨by omega, b + b1 * ((g - 1) * (b / h)), W_trans hb (W_times hb1 _), ?_⟩ hlt
      have e1 : (b1 * ((g - 1) * (b / h))) % g = (h * ((g - 1) * (b / h))) % g := by
        rw [Nat.mul_mod, hbm, ← Nat.mul_mod]
      rw [Nat.add_mod, e1, ← Nat.add_mod]
      have e2 : b + h * ((g - 1) * (b / h)) = b % h + (h * (b / h)) * g := by
        have e3 := Nat.div_add_mod b h
        have e4 : h * ((g - 1) * (b / h)) + h * (b / h) = (h * (b / h)) * g := by
          rw [← Nat.mul_add, show (g - 1) * (b / h) + b / h = ((g - 1) + 1) * (b / h) from (Nat.succ_mul (g - 1) (b / h)).symm, show g - 1 + 1 = g by omega, Nat.mul_comm g (b / h), ← Nat.mul_assoc]
        omega
      rw [e2, Nat.add_mul_mod_self_right]
    have hone := only_one hv hc hp hcn hdvd
    subst hone
    -- from the ring to t by steps of g letters
    obtain ⟨u, a1, _, a3⟩ := short_way hv hc hcn ht
    have hmod : (b1 * ((g - 1) * u.length) + u.length) % g = 0 := by
      have e1 : (b1 * ((g - 1) * u.length)) % g = (1 * ((g - 1) * u.length)) % g := by rw [Nat.mul_mod, hbm, ← Nat.mul_mod]
      rw [Nat.add_mod, e1, ← Nat.add_mod, Nat.one_mul]
      have e2 : (g - 1) * u.length + u.length = g * u.length := by
        rw [← Nat.succ_mul, show (g - 1).succ = g by omega]
      rw [e2, Nat.mul_mod_right]
    obtain ⟨J, hJ⟩ := Nat.dvd_of_mod_eq_zero hmod
    have hway : exactP m c (g * J) t := by rw [← hJ]; exact W_trans (W_times hb1 _) ⟨u, a1, rfl, a3⟩
    obtain ⟨J', hJ1, hJ2⟩ := shorten hv hcn J hway
    have hfull : exactP m c (g * (m.length - 1)) t := by
      have := W_trans (W_times hcl (m.length - 1 - J')) hJ2
      rwa [← Nat.mul_add, show m.length - 1 - J' + J' = m.length - 1 by omega] at this
    exact W_trans hin hfull
  have hK : m.length - g + g * (m.length - 1) ≤ k := by
    obtain ⟨p, hp1⟩ : ∃ p, p = m.length - 1 := ⟨_, rfl⟩
    obtain ⟨e, he⟩ : ∃ e, p = g + e := ⟨p - g, by omega⟩
    have h1 : g * p + e * p = p * p := by rw [← Nat.add_mul, ← he]
    have h2 : e ≤ e * p := Nat.le_mul_of_pos_right _ (by omega)
    rw [← hp1] at hk ⊢
    omega
  obtain ⟨s', hs', h1⟩ := W_some hv hs (k - (m.length - g + g * (m.length - 1)))
  have := W_trans h1 (key s' hs')
  rwa [show k - (m.length - g + g * (m.length - 1)) + (m.length - g + g * (m.length - 1)) = k by omega] at this
end
end Go.Proofs.YtlpfglkopnmlnaaDoor
namespace Go.Proofs.YtlpfglkopnmlnaaDoor
open Go.RowKit Go.Shelf
/-- A word of k letters merges the two states. -/
def mergeP (m : List (List Int)) (p q k : Nat) : Prop := ∃ u : List Int, u.all (inB 0 ((letters m : Int) - 1)) = true ∧ u.length = k ∧ runM m p u = runM m q u
theorem mergeP_zero {m : List (List Int)} {p q : Nat} : mergeP m p q 0 ↔ p = q := by
  constructor
  · rintro ⟨u, _, h2, h3⟩
    obtain rfl : u = [] := List.length_eq_zero_iff.1 h2
    exact h3
  · rintro rfl; exact ⟨[], rfl, rfl, rfl⟩
theorem mergeP_cons {m : List (List Int)} {p q x k : Nat} (hx : x < letters m) (h : mergeP m (nx m p (x : Int)) (nx m q (x : Int)) k) : mergeP m p q (k + 1) := by
  obtain ⟨u, h1, h2, h3⟩ := h
  refine ⟨(x : Int) :: u, ?_, by simp [h2], h3⟩
  rw [List.all_cons, h1, Bool.and_true]
  exact inB_true ⟨by omega, by omega⟩
theorem mergeP_head {m : List (List Int)} {p q k : Nat} (h : mergeP m p q (k + 1)) : ∃ x, x < letters m ∧ mergeP m (nx m p (x : Int)) (nx m q (x : Int)) k := by
  obtain ⟨u, h1, h2, h3⟩ := h
  cases u with
  | nil => simp at h2
  | cons y u =>
    obtain ⟨hy, hu⟩ := all_cons_parts h1
    obtain ⟨x, rfl⟩ := Int.eq_ofNat_of_zero_le hy.1
    exact ⟨x, by omega, u, hu, by simpa using h2, h3⟩
theorem mergeP_symm {m : List (List Int)} {p q k : Nat} (h : mergeP m p q k) : mergeP m q p k := by
  obtain ⟨u, h1, h2, h3⟩ := h
  exact ⟨u, h1, h2, h3.symm⟩
/-- A shortest word that merges the two states has k letters. -/
def mdist (m : List (List Int)) (p q k : Nat) : Prop := mergeP m p q k ∧ ∀ i, i < k → ¬ mergeP m p q i
theorem mdist_symm {m : List (List Int)} {p q k : Nat} (h : mdist m p q k) : mdist m q p k := ⟨mergeP_symm h.1, fun i hi k => h.2 i hi (mergeP_symm k)⟩
theorem mdist_zero {m : List (List Int)} {p q : Nat} : mdist m p q 0 ↔ p = q := by
  constructor
  · exact fun h => mergeP_zero.1 h.1
  · exact fun h => ⟨mergeP_zero.2 h, fun i hi => by omega⟩
theorem mdist_unique {m : List (List Int)} {p q i j : Nat} (h : mdist m p q i) (k : mdist m p q j) : i = j := by
  rcases Nat.lt_trichotomy i j with e | e | e
  · exact absurd h.1 (k.2 i e)
  · exact e
  · exact absurd k.1 (h.2 j e)
theorem mdist_some {m : List (List Int)} {p q k : Nat} (h : mergeP m p q k) : ∃ j, j ≤ k ∧ mdist m p q j := by
  obtain ⟨j, h1, h2, h3⟩ := least_nat (p := mergeP m p q) k h
  exact ⟨j, h2, h1, fun i hi hp => h3 i hp hi⟩
theorem mdist_step {m : List (List Int)} {p q k : Nat} (h : mdist m p q (k + 1)) : ∃ x, x < letters m ∧ mdist m (nx m p (x : Int)) (nx m q (x : Int)) k := by
  obtain ⟨x, hx, he⟩ := mergeP_head h.1
  exact ⟨x, hx, he, fun i hi h2 => h.2 (i + 1) (by omega) (mergeP_cons hx h2)⟩
theorem mdist_up {m : List (List Int)} {p q x k : Nat} (hx : x < letters m) (h : mdist m (nx m p (x : Int)) (nx m q (x : Int)) k) (hn : ∀ i, i ≤ k → ¬ mergeP m p q i) : mdist m p q (k + 1) := ⟨mergeP_cons hx h.1, fun i hi => hn i (by omega)⟩
/-- Where there is a length, there are all the shorter ones. -/
theorem mdist_down {m : List (List Int)} (hv : validM m = true) : ∀ k p q, p < m.length → q < m.length → mdist m p q k → ∀ j, j ≤ k → ∃ p' q', p' < m.length ∧ q' < m.length ∧ mdist m p' q' j
  | 0, p, q, hp, hq, h, j, hj => ⟨p, q, hp, hq, by rw [show j = 0 by omega]; exact h⟩
  | k + 1, p, q, hp, hq, h, j, hj => by
    by_cases e : j = k + 1
    · subst e; exact ⟨p, q, hp, hq, h⟩
    · obtain ⟨x, hx, h2⟩ := mdist_step h
      exact mdist_down hv k _ _ (ldM_ok hv p x hp hx) (ldM_ok hv q x hq hx) h2 j (by omega)
theorem mdist_lt {m : List (List Int)} (hv : validM m = true) {p q k : Nat} (hp : p < m.length) (hq : q < m.length) (h : mdist m p q k) : k < m.length * m.length := by
  apply Classical.byContradiction
  intro hk
  have hf : ∀ j, ∃ c, j ≤ k → ∃ p' q', p' < m.length ∧ q' < m.length ∧ mdist m p' q' j ∧ c = p' * m.length + q' := fun j => by
    by_cases hj : j ≤ k
    · obtain ⟨p', q', h1, h2, h3⟩ := mdist_down hv k p q hp hq h j hj
      exact ⟨_, fun _ => ⟨p', q', h1, h2, h3, rfl⟩⟩
    · exact ⟨0, fun h => absurd h hj⟩
  obtain ⟨f, hf⟩ := Classical.axiomOfChoice hf
  obtain ⟨i, j, h1, h2, h3⟩ := pigeon (n := m.length * m.length) (k := k) f (fun i hi => by
    obtain ⟨p', q', a1, a2, _, a4⟩ := hf i hi
    rw [a4]
    have := Nat.mul_le_mul_right m.length (show p' + 1 ≤ m.length by omega)
    rw [Nat.succ_mul] at this
    omega) (by omega)
  obtain ⟨p1, q1, a1, a2, a3, a4⟩ := hf i (by omega)
  obtain ⟨p2, q2, b1, b2, b3, b4⟩ := hf j h2
  rw [a4, b4] at h3
  have e1 : p1 = p2 := by
    have := congrArg (· / m.length) h3
    simp only [Nat.add_comm (_ * _), Nat.add_mul_div_right _ _ (show 0 < m.length by omega), Nat.div_eq_of_lt a2, Nat.div_eq_of_lt b2] at this
    omega
  subst e1
  have e2 : q1 = q2 := by omega
  subst e2
  have := mdist_unique a3 b3
  omega
/-- Behind k rounds: the length of a shortest word, or -1. -/
def mlenAt (m : List (List Int)) : Nat → Nat → Nat → Int
  | 0, p, q => if p = q then 0 else -1
  | k + 1, p, q => if 0 ≤ mlenAt m k p q then mlenAt m k p q else if (List.range (letters m)).any (fun x : Nat => mlenAt m k (nx m p (x : Int)) (nx m q (x : Int)) == (k : Int)) then (k : Int) + 1 else -1
theorem mlenAt_spec (m : List (List Int)) : ∀ k p q, (mlenAt m k p q = -1 ∧ ∀ i, i ≤ k → ¬ mergeP m p q i) ∨ ∃ j : Nat, j ≤ k ∧ mlenAt m k p q = j ∧ mdist m p q j
  | 0, p, q => by
    by_cases e : p = q
    · exact .inr ⟨0, Nat.le_refl _, by simp [mlenAt, e], mdist_zero.2 e⟩
    · refine .inl ⟨by simp [mlenAt, e], fun i hi h => ?_⟩
      obtain rfl : i = 0 := by omega
      exact e (mergeP_zero.1 h)
  | k + 1, p, q => by
    have ih := mlenAt_spec m k
    rcases ih p q with ⟨h1, h2⟩ | ⟨j, h1, h2, h3⟩
    · have hneg : ¬ (0 : Int) ≤ mlenAt m k p q := by rw [h1]; omega
      cases hany : (List.range (letters m)).any (fun x : Nat => mlenAt m k (nx m p (x : Int)) (nx m q (x : Int)) == (k : Int)) with
      | true =>
        obtain ⟨x, hx, he⟩ := List.any_eq_true.1 hany
        have hx' := List.mem_range.1 hx
        have he' : mlenAt m k (nx m p (x : Int)) (nx m q (x : Int)) = (k : Int) := beq_iff_eq.1 he
        rcases ih (nx m p (x : Int)) (nx m q (x : Int)) with ⟨a1, _⟩ | ⟨j, a1, a2, a3⟩
        · omega
        · obtain rfl : j = k := by omega
          refine .inr ⟨j + 1, Nat.le_refl _, ?_, mdist_up hx' a3 h2⟩
          simp only [mlenAt]
          rw [if_neg hneg, if_pos hany]; rfl
      | false =>
        refine .inl ⟨?_, fun i hi h => ?_⟩
        · simp only [mlenAt]
          rw [if_neg hneg, hany]; rfl
        · by_cases e : i ≤ k
          · exact h2 i e h
          · obtain rfl : i = k + 1 := by omega
            obtain ⟨x, hx, hxe⟩ := mergeP_head h
            have hne := List.any_eq_false.1 hany x (List.mem_range.2 hx)
            rcases ih (nx m p (x : Int)) (nx m q (x : Int)) with ⟨a1, a2⟩ | ⟨j, a1, a2, a3⟩
            · exact a2 k (Nat.le_refl _) hxe
            · by_cases e2 : j = k
              · subst e2
                rw [a2] at hne
                simp at hne
              · exact h2 (j + 1) (by omega) (mergeP_cons hx a3.1)
    · refine .inr ⟨j, by omega, ?_, h3⟩
      simp only [mlenAt]
      rw [if_pos (by omega)]
      exact h2
theorem mlenAt_range (m : List (List Int)) (k p q : Nat) : -1 ≤ mlenAt m k p q ∧ mlenAt m k p q ≤ k := by
  rcases mlenAt_spec m k p q with ⟨h1, _⟩ | ⟨j, h1, h2, _⟩ <;> omega
/-- The length of a shortest word that merges, or -1. -/
def mlen (m : List (List Int)) (p q : Nat) : Int := mlenAt m (m.length * m.length) p q
theorem mlen_spec {m : List (List Int)} (hv : validM m = true) {p q : Nat} (hp : p < m.length) (hq : q < m.length) : (mlen m p q = -1 ∧ ∀ k, ¬ mergeP m p q k) ∨ ∃ j : Nat, j < m.length * m.length ∧ mlen m p q = j ∧ mdist m p q j := by
  rcases mlenAt_spec m (m.length * m.length) p q with ⟨h1, h2⟩ | ⟨j, h1, h2, h3⟩
  · refine .inl ⟨h1, fun k h => ?_⟩
    obtain ⟨j, hj, hd⟩ := mdist_some h
    exact h2 j (by have := mdist_lt hv hp hq hd; omega) hd.1
  · exact .inr ⟨j, mdist_lt hv hp hq h3, h2, h3⟩
theorem mlen_of {m : List (List Int)} (hv : validM m = true) {p q j : Nat} (hp : p < m.length) (hq : q < m.length) (h : mdist m p q j) : mlen m p q = j := by
  rcases mlen_spec hv hp hq with ⟨_, h2⟩ | ⟨i, h1, h2, h3⟩
  · exact absurd h.1 (h2 j)
  · rw [h2, mdist_unique h3 h]
theorem mlen_symm {m : List (List Int)} (hv : validM m = true) {p q : Nat} (hp : p < m.length) (hq : q < m.length) : mlen m p q = mlen m q p := by
  rcases mlen_spec hv hp hq with ⟨h1, h2⟩ | ⟨i, h1, h2, h3⟩
  · rcases mlen_spec hv hq hp with ⟨k1, k2⟩ | ⟨j, k1, k2, k3⟩
    · rw [h1, k1]
    · exact absurd (mergeP_symm k3.1) (h2 j)
  · rw [h2, mlen_of hv hq hp (mdist_symm h3)]
/-- The first letter that leads one nearer. -/
def mX (m : List (List Int)) (p q : Nat) : Nat := ((List.range (letters m)).find? fun x : Nat => mlen m (nx m p (x : Int)) (nx m q (x : Int)) == mlen m p q - 1).getD 0
/-- The word that is made so. -/
def mW (m : List (List Int)) : Nat → Nat → Nat → List Int
  | 0, _, _ => []
  | j + 1, p, q => (mX m p q : Int) :: mW m j (nx m p (mX m p q : Int)) (nx m q (mX m p q : Int))
theorem mX_spec {m : List (List Int)} (hv : validM m = true) {p q j : Nat} (hp : p < m.length) (hq : q < m.length) (h : mdist m p q (j + 1)) :
    mX m p q < letters m ∧ mdist m (nx m p (mX m p q : Int)) (nx m q (mX m p q : Int)) j ∧ mlen m (nx m p (mX m p q : Int)) (nx m q (mX m p q : Int)) = mlen m p q - 1 ∧ ∀ y, y < mX m p q → mlen m (nx m p (y : Int)) (nx m q (y : Int)) ≠ mlen m p q - 1 := by
  have hls := mlen_of hv hp hq h
  obtain ⟨x0, hx0, hd0⟩ := mdist_step h
  have hl0 := mlen_of hv (ldM_ok hv p x0 hp hx0) (ldM_ok hv q x0 hq hx0) hd0
  have hfind : ∃ x, (List.range (letters m)).find? (fun x : Nat => mlen m (nx m p (x : Int)) (nx m q (x : Int)) == mlen m p q - 1) = some x := by
    cases he : (List.range (letters m)).find? (fun x : Nat => mlen m (nx m p (x : Int)) (nx m q (x : Int)) == mlen m p q - 1) with
    | some x => exact ⟨x, rfl⟩
    | none =>
      have := List.find?_eq_none.1 he x0 (List.mem_range.2 hx0)
      rw [hl0, hls] at this
      exact absurd (by simp) this
  obtain ⟨x, hx⟩ := hfind
  have hrx : mX m p q = x := by rw [mX, hx]; rfl
  have hpx := List.find?_some hx
  have hmem := List.mem_of_find?_eq_some hx
  have hxl := List.mem_range.1 hmem
  have hp' : mlen m (nx m p (x : Int)) (nx m q (x : Int)) = mlen m p q - 1 := beq_iff_eq.1 hpx
  rw [hrx]
  refine ⟨hxl, ?_, hp', fun y hy => ?_⟩
  · rcases mlen_spec hv (ldM_ok hv p x hp hxl) (ldM_ok hv q x hq hxl) with ⟨a1, _⟩ | ⟨i, a1, a2, a3⟩
    · omega
    · obtain rfl : i = j := by omega
      exact a3
  · obtain ⟨xa, bs, hab, hno⟩ := (List.find?_eq_some_iff_append.1 hx).2
    have hy2 : y ∈ xa := by
      have hyr : y ∈ List.range (letters m) := List.mem_range.2 (by omega)
      rw [hab] at hyr
      rcases List.mem_append.1 hyr with h1 | h1
      · exact h1
      · have hsort : (List.range (letters m)).Pairwise (· < ·) := List.pairwise_lt_range
        rw [hab] at hsort
        have h2 := (List.pairwise_append.1 hsort).2.1
        rcases List.mem_cons.1 h1 with e | e
        · omega
        · have := (List.pairwise_cons.1 h2).1 y e
          omega
    have := hno y hy2
    intro e
    rw [e] at this
    simp at this
theorem mW_ok {m : List (List Int)} (hv : validM m = true) : ∀ j p q, p < m.length → q < m.length → mdist m p q j → (mW m j p q).all (inB 0 ((letters m : Int) - 1)) = true ∧ (mW m j p q).length = j ∧ runM m p (mW m j p q) = runM m q (mW m j p q)
  | 0, p, q, hp, hq, h => ⟨rfl, rfl, mergeP_zero.1 h.1⟩
  | j + 1, p, q, hp, hq, h => by
    obtain ⟨a1, a2, a3, a4⟩ := mX_spec hv hp hq h
    obtain ⟨b1, b2, b3⟩ := mW_ok hv j _ _ (ldM_ok hv p _ hp a1) (ldM_ok hv q _ hq a1) a2
    refine ⟨?_, by simp [mW, b2], b3⟩
    rw [mW, List.all_cons, b1, Bool.and_true]
    exact inB_true ⟨by omega, by omega⟩
theorem mX_symm {m : List (List Int)} (hv : validM m = true) {p q : Nat} (hp : p < m.length) (hq : q < m.length) : mX m p q = mX m q p := by
  have hs := mlen_symm hv hp hq
  have : ∀ l : List Nat, (∀ x ∈ l, x < letters m) → l.find? (fun x : Nat => mlen m (nx m p (x : Int)) (nx m q (x : Int)) == mlen m p q - 1) = l.find? (fun x : Nat => mlen m (nx m q (x : Int)) (nx m p (x : Int)) == mlen m q p - 1) := by
    intro l
    induction l with
    | nil => intro _; rfl
    | cons x l ih =>
      intro hl
      have hx := hl x (by simp)
      rw [List.find?_cons, List.find?_cons, ih fun y hy => hl y (by simp [hy]), mlen_symm hv (ldM_ok hv p x hp hx) (ldM_ok hv q x hq hx), hs]
  unfold mX
  rw [this _ fun x hx => List.mem_range.1 hx]
theorem mW_symm {m : List (List Int)} (hv : validM m = true) : ∀ j p q, p < m.length → q < m.length → mdist m p q j → mW m j p q = mW m j q p
  | 0, _, _, _, _, _ => rfl
  | j + 1, p, q, hp, hq, h => by
    obtain ⟨a1, a2, _, _⟩ := mX_spec hv hp hq h
    rw [mW, mW, ← mX_symm hv hp hq, mW_symm hv j _ _ (ldM_ok hv p _ hp a1) (ldM_ok hv q _ hq a1) a2]
end Go.Proofs.YtlpfglkopnmlnaaDoor
namespace Go.Proofs.YtlpfglkopnmlnaaDoor
open Go.RowKit Go.Shelf
/-- The value v is a list of k rows; row p lies in block B p and holds f p 0, .., f p (n - 1). -/
structure Tbl (W : World) (n₀ : Nat) (v : Value) (n k : Nat) (B : Nat → Nat) (f : Nat → Nat → Int) : Prop where
  outer : W.ownsRow n₀ 41 1 v k ((List.range k).map fun p => .slice (some ⟨B p, 0, none⟩) n n)
  inner : ∀ p, p < k → W.ownsRow n₀ 3 1 (.slice (some ⟨B p, 0, none⟩) n n) n ((Lf n (f p)).map fun x => .int .i64 x)
  apart : ∀ p, p < k → v.ownBlock ≠ some (B p)
  inj : ∀ p q, p < k → q < k → B p = B q → p = q
section
variable {W W' : World} {n₀ n k : Nat} {v : Value} {B : Nat → Nat} {f : Nat → Nat → Int}
theorem Tbl.kept (h : Tbl W n₀ v n k B f) (hk : ∀ b, n₀ ≤ b → b < W.heap.size → W'.heap[b]? = W.heap[b]?) : Tbl W' n₀ v n k B f :=
  ⟨owns_kept h.outer hk, fun p hp => owns_kept (h.inner p hp) hk, h.apart, h.inj⟩
theorem Tbl.below (h : Tbl W n₀ v n k B f) (hb : Below W.heap.size W W') : Tbl W' n₀ v n k B f := h.kept fun b _ hs => hb.block b hs
theorem Tbl.congr {g : Nat → Nat → Int} (h : Tbl W n₀ v n k B f) (e : ∀ p q, p < k → q < n → f p q = g p q) : Tbl W n₀ v n k B g :=
  ⟨h.outer, fun p hp => by rw [← Lf_congr (n := n) (f := f p) (g := g p) fun q hq => e p q hp hq]; exact h.inner p hp, h.apart, h.inj⟩
variable {g c : Nat}
theorem Tbl.cell (h : Tbl W n₀ (.slice (some ⟨g, 0, none⟩) k c) n k B f) {p : Nat} (hp : p < k) : W.cell? ⟨g, p, none⟩ = some (.slice (some ⟨B p, 0, none⟩) n n) := by
  rw [h.outer.cellAt p (by omega)]
  simp [List.getElem?_map, List.getElem?_range hp]
theorem Tbl.free (h : Tbl W n₀ v n k B f) {p : Nat} (hp : p < k) (q : Nat) : W.frozen? ⟨B p, q, none⟩ = false := (h.inner p hp).frozenAt q
theorem Tbl.ge (h : Tbl W n₀ v n k B f) {p : Nat} (hp : p < k) : n₀ ≤ B p ∧ B p < W.heap.size := ownq_lt (h.inner p hp)
/-- A number is stored. -/
theorem Tbl.set (h : Tbl W n₀ v n k B f) {p q : Nat} (hp : p < k) (x : Int) : Tbl (W.setCell ⟨B p, q, none⟩ (.int .i64 x)) n₀ v n k B (fun a b => if a = p ∧ b = q then x else f a b) := by
  obtain ⟨h1, h2⟩ := (h.inner p hp).stored q (.int .i64 x)
  refine ⟨h.outer.kept h2 (.inr (h.apart p hp)), fun a ha => ?_, h.apart, h.inj⟩
  by_cases e : a = p
  · subst e
    rw [← List.map_set (f := fun x => Value.int .i64 x), Lf_set] at h1
    refine cast ?_ h1
    congr 2
    exact Lf_congr fun i _ => by simp
  · have : (Lf n fun b => if a = p ∧ b = q then x else f a b) = Lf n (f a) := Lf_congr fun i _ => by rw [if_neg (fun h => e h.1)]
    rw [show (fun b => if a = p ∧ b = q then x else f a b) = fun b => (fun a b => if a = p ∧ b = q then x else f a b) a b from rfl] at this
    rw [this]
    refine (h.inner a ha).kept h2 (.inr ?_)
    intro e2
    simp only [Value.ownBlock, Option.some.injEq] at e2
    exact e (h.inj a p ha hp e2)
end
/-- The reference's table within round k + 1: the pairs before (p, q) are done. -/
def mixT (m : List (List Int)) (k p q a b : Nat) : Int := if a < p ∨ (a = p ∧ b < q) then mlenAt m (k + 1) a b else mlenAt m k a b
theorem mixT_step (m : List (List Int)) (k p q a b : Nat) : mixT m k p (q + 1) a b = if a = p ∧ b = q then mlenAt m (k + 1) p q else mixT m k p q a b := by
  unfold mixT
  by_cases e : a = p ∧ b = q
  · rw [if_pos e, if_pos (by omega), e.1, e.2]
  · rw [if_neg e]
    by_cases e2 : a < p ∨ (a = p ∧ b < q)
    · rw [if_pos e2, if_pos (by omega)]
    · rw [if_neg e2, if_neg (by omega)]
theorem mixT_row (m : List (List Int)) {n k p a b : Nat} (hb : b < n) : mixT m k p n a b = mixT m k (p + 1) 0 a b := by
  unfold mixT
  by_cases e2 : a < p ∨ (a = p ∧ b < n)
  · rw [if_pos e2, if_pos (by omega)]
  · rw [if_neg e2, if_neg (by omega)]
end Go.Proofs.YtlpfglkopnmlnaaDoor
namespace Go.Proofs.YtlpfglkopnmlnaaDoor
open Go.RowKit Go.Shelf
/-- Within round k + 1, before the pair (p, q): whether something has changed. -/
def moreB (m : List (List Int)) (k p q : Nat) (b : Bool) : Prop :=
  (b = true → ∃ a c, a < m.length ∧ c < m.length ∧ mdist m a c (k + 1)) ∧ (b = false → ∀ a c, a < m.length → c < m.length → mixT m k p q a c = mlenAt m k a c)
theorem moreB.same {m : List (List Int)} {k p q : Nat} {b : Bool} (h : moreB m k p q b) (hs : mlenAt m (k + 1) p q = mlenAt m k p q) : moreB m k p (q + 1) b := by
  refine ⟨h.1, fun hb a c ha hc => ?_⟩
  rw [mixT_step]
  by_cases e : a = p ∧ c = q
  · rw [if_pos e, hs, e.1, e.2]
  · rw [if_neg e]; exact h.2 hb a c ha hc
theorem moreB.row {m : List (List Int)} {k p : Nat} {b : Bool} (h : moreB m k p m.length b) : moreB m k (p + 1) 0 b :=
  ⟨h.1, fun hb a c ha hc => by rw [← mixT_row m hc]; exact h.2 hb a c ha hc⟩
end Go.Proofs.YtlpfglkopnmlnaaDoor
namespace Go.Proofs.YtlpfglkopnmlnaaDoor
open Go.RowKit Go.Shelf
theorem take_snocI {l : List Int} {k : Nat} (h : k < l.length) : l.take (k + 1) = l.take k ++ [l.getD k 0] := by
  rw [List.take_succ_eq_append_getElem h]
  simp [List.getD_eq_getElem?_getD, List.getElem?_eq_getElem h]
theorem timesL_le (l : List Int) (t : Int) : timesL l t ≤ l.length := List.length_filter_le _ _
set_option maxRecDepth 100000 in
set_option maxHeartbeats 1000000 in
theorem rTimes_any (v : Value) (l : List Int) (t : Int) (w : World) (h : Ints w v l) (hl6 : l.length ≤ 100) :
    Calls Tryd.prog 51 #[v, .int .i64 t] w fun e w' => e = .returned (.int .i64 (timesL l t : Nat)) ∧ w = w' := by
  obtain ⟨A, cap, rfl, hl, hc⟩ := h
  have Hc := hid hc
  have H0 := hid (show timesL (l.take 0) t = 0 from rfl)
  clear hc hl
  go_enter Tryd.func51, Tryd.ntmps51
  go_wp2
  go_loop [5, 6] (fun nv sv => ∃ k c : Nat, k ≤ l.length ∧ sv = .int .i64 k ∧ nv = .int .i64 c ∧ timesL (l.take k) t = c) (fun _ sv => l.length - (intOf sv).toNat)
  case atStart => exact ⟨0, 0, Nat.zero_le _, rfl, rfl, H0.out⟩
  case round =>
    clear H0
    obtain ⟨k, c, hk, rfl, rfl, hcode⟩ := hrel
    have hc4 : c ≤ 100 := by have := timesL_le (l.take k) t; simp at this; omega
    have Hcode := hid hcode
    clear hcode
    by_cases hlt : k < l.length
    · have hks : (k : Int) < l.length := by omega
      obtain ⟨b, off, hA, hcell⟩ := Hc.out k hlt
      subst hA
      have hs := timesL_snoc (l.take k) (l.getD k 0) t
      rw [← take_snocI hlt, Hcode.out] at hs
      generalize l.getD k 0 = x at *
      by_cases hx : x = t
      · have hb : (x == t) = true := beq_iff_eq.2 hx
        rw [if_pos hx] at hs
        have Hs := hid hs
        subst hx
        clear hs Hcode
        go_wp2
        go_round
        case rel => exact ⟨k + 1, c + 1, by omega, by go_num, by go_num, Hs.out⟩
        case measure => simp [intOf]; omega
      · have hb : (x == t) = false := beq_eq_false_iff_ne.2 hx
        rw [if_neg hx] at hs
        have Hs := hid hs
        clear hs Hcode
        go_wp2
        go_round
        case rel => exact ⟨k + 1, c, by omega, by go_num, rfl, Hs.out⟩
        case measure => simp [intOf]; omega
    · obtain rfl : k = l.length := by omega
      have hc2 := Hcode.out
      rw [List.take_length] at hc2
      have HC := hid hc2
      clear hc2 Hcode
      go_wp2
      go_ret
      exact ⟨ret_int (by rw [HC.out]), rfl⟩
set_option maxRecDepth 100000 in
set_option maxHeartbeats 1000000 in
theorem rProduct_any (n : Nat) (w : World) (hn : n ≤ 6) :
    Calls Tryd.prog 53 #[.int .i64 n] w fun e w' => e = .returned (.int .i64 (fct n : Nat)) ∧ w = w' := by
  go_enter Tryd.func53, Tryd.ntmps53
  go_wp2
  go_loop [3, 4] (fun ov kv => ∃ k c : Nat, 2 ≤ k ∧ (k ≤ n + 1 ∨ k = 2) ∧ kv = .int .i64 k ∧ ov = .int .i64 c ∧ fct (k - 1) = c) (fun _ kv => 8 - (intOf kv).toNat)
  case atStart => exact ⟨2, 1, by omega, .inr rfl, rfl, rfl, rfl⟩
  case round =>
    obtain ⟨k, c, hk2, hk, rfl, rfl, hf⟩ := hrel
    have hcl : c ≤ 720 := by rw [← hf]; exact fct_le (by omega)
    have Hf := hid hf
    clear hf
    by_cases hle : k ≤ n
    · have hks : (k : Int) ≤ n := by omega
      have hm : c * k ≤ 720 * 7 := Nat.mul_le_mul hcl (by omega)
      have hc2 : ((c : Int) * (k : Int)) = ((c * k : Nat) : Int) := by simp
      have hmul : IntKind.i64.wrap ((c : Int) * (k : Int)) = ((c * k : Nat) : Int) := by rw [hc2, IntWalk.i64_in _ (by omega)]
      have Hf2 := hid (show fct (k + 1 - 1) = c * k from by
        obtain ⟨j, rfl⟩ : ∃ j, k = j + 1 := ⟨k - 1, by omega⟩
        have := Hf.out
        simp only [Nat.add_sub_cancel] at this ⊢
        show fct j * (j + 1) = _
        rw [this])
      obtain ⟨d, hd⟩ : ∃ d, c * k = d := ⟨_, rfl⟩
      rw [hd] at hmul Hf2
      clear hc2 Hf hm hd
      go_wp2
      go_round
      case rel => exact ⟨k + 1, d, by omega, .inl (by omega), by go_num, rfl, Hf2.out⟩
      case measure => simp [intOf]; omega
    · have hks : ¬ (k : Int) ≤ n := by omega
      have HF := hid (show fct n = c from by
        rcases hk with h | h
        · have := Hf.out
          rw [show k - 1 = n by omega] at this
          exact this
        · have h1 := Hf.out
          rw [h] at h1
          rcases (show n = 0 ∨ n = 1 by omega) with rfl | rfl
          · rw [← h1]; rfl
          · rw [← h1])
      clear Hf
      go_wp2
      go_ret
      exact ⟨ret_int (by rw [HF.out]), rfl⟩
theorem own60 (w : World) (t : TypeId) : (w.alloc (.cells #[.int .i64 0, .int .i64 0, .int .i64 0, .int .i64 0, .int .i64 0, .int .i64 0, .int .i64 0, .int .i64 0, .int .i64 0, .int .i64 0, .int .i64 0, .int .i64 0, .int .i64 0, .int .i64 0, .int .i64 0, .int .i64 0, .int .i64 0, .int .i64 0, .int .i64 0, .int .i64 0, .int .i64 0, .int .i64 0, .int .i64 0, .int .i64 0, .int .i64 0, .int .i64 0, .int .i64 0, .int .i64 0, .int .i64 0, .int .i64 0, .int .i64 0, .int .i64 0, .int .i64 0, .int .i64 0, .int .i64 0, .int .i64 0, .int .i64 0, .int .i64 0, .int .i64 0, .int .i64 0, .int .i64 0, .int .i64 0, .int .i64 0, .int .i64 0, .int .i64 0, .int .i64 0, .int .i64 0, .int .i64 0, .int .i64 0, .int .i64 0, .int .i64 0, .int .i64 0, .int .i64 0, .int .i64 0, .int .i64 0, .int .i64 0, .int .i64 0, .int .i64 0, .int .i64 0, .int .i64 0] t)).ownsRow w.heap.size t 1 (.slice (some ⟨w.heap.size, 0, none⟩) 60 60) 60 ((Lf 60 (fun _ => 0)).map fun x => .int .i64 x) :=
  ⟨rfl, .inr ⟨w.heap.size, 60, #[.int .i64 0, .int .i64 0, .int .i64 0, .int .i64 0, .int .i64 0, .int .i64 0, .int .i64 0, .int .i64 0, .int .i64 0, .int .i64 0, .int .i64 0, .int .i64 0, .int .i64 0, .int .i64 0, .int .i64 0, .int .i64 0, .int .i64 0, .int .i64 0, .int .i64 0, .int .i64 0, .int .i64 0, .int .i64 0, .int .i64 0, .int .i64 0, .int .i64 0, .int .i64 0, .int .i64 0, .int .i64 0, .int .i64 0, .int .i64 0, .int .i64 0, .int .i64 0, .int .i64 0, .int .i64 0, .int .i64 0, .int .i64 0, .int .i64 0, .int .i64 0, .int .i64 0, .int .i64 0, .int .i64 0, .int .i64 0, .int .i64 0, .int .i64 0, .int .i64 0, .int .i64 0, .int .i64 0, .int .i64 0, .int .i64 0, .int .i64 0, .int .i64 0, .int .i64 0, .int .i64 0, .int .i64 0, .int .i64 0, .int .i64 0, .int .i64 0, .int .i64 0, .int .i64 0, .int .i64 0], rfl, Nat.le_refl _, World.alloc_heap_new _ _, Nat.le_refl _, by unfold maxLen; omega, rfl, rfl⟩⟩
set_option maxRecDepth 100000 in
set_option maxHeartbeats 4000000 in
theorem countOrders_any (v : Value) (l : List Int) (n : Nat) (w : World) (h : Ints w v l) (hl6 : l.length ≤ 6) (hn : n ≤ 60) (hr : ∀ x ∈ l, 0 ≤ x ∧ x < (n : Int)) :
    Calls Tryd.prog 52 #[v] w fun e w' => e = .returned (.int .i64 (ordN l n : Nat)) ∧ Below w.heap.size w w' := by
  obtain ⟨A, cap, rfl, hl, hc⟩ := h
  have Hc := hid hc
  have Hr := hid hr
  have H0 := hid (show ordN (l.take 0) n = 1 from ordN_nil n)
  have hX := bal (Below.refl _ w) (.cells #[.int .i64 0, .int .i64 0, .int .i64 0, .int .i64 0, .int .i64 0, .int .i64 0, .int .i64 0, .int .i64 0, .int .i64 0, .int .i64 0, .int .i64 0, .int .i64 0, .int .i64 0, .int .i64 0, .int .i64 0, .int .i64 0, .int .i64 0, .int .i64 0, .int .i64 0, .int .i64 0, .int .i64 0, .int .i64 0, .int .i64 0, .int .i64 0, .int .i64 0, .int .i64 0, .int .i64 0, .int .i64 0, .int .i64 0, .int .i64 0, .int .i64 0, .int .i64 0, .int .i64 0, .int .i64 0, .int .i64 0, .int .i64 0, .int .i64 0, .int .i64 0, .int .i64 0, .int .i64 0, .int .i64 0, .int .i64 0, .int .i64 0, .int .i64 0, .int .i64 0, .int .i64 0, .int .i64 0, .int .i64 0, .int .i64 0, .int .i64 0, .int .i64 0, .int .i64 0, .int .i64 0, .int .i64 0, .int .i64 0, .int .i64 0, .int .i64 0, .int .i64 0, .int .i64 0, .int .i64 0] 96)
  have hown := own60 w 96
  clear hc hl hr
  go_enter Tryd.func52, Tryd.ntmps52
  go_wp2_with fail
  generalize w.alloc (.cells #[.int .i64 0, .int .i64 0, .int .i64 0, .int .i64 0, .int .i64 0, .int .i64 0, .int .i64 0, .int .i64 0, .int .i64 0, .int .i64 0, .int .i64 0, .int .i64 0, .int .i64 0, .int .i64 0, .int .i64 0, .int .i64 0, .int .i64 0, .int .i64 0, .int .i64 0, .int .i64 0, .int .i64 0, .int .i64 0, .int .i64 0, .int .i64 0, .int .i64 0, .int .i64 0, .int .i64 0, .int .i64 0, .int .i64 0, .int .i64 0, .int .i64 0, .int .i64 0, .int .i64 0, .int .i64 0, .int .i64 0, .int .i64 0, .int .i64 0, .int .i64 0, .int .i64 0, .int .i64 0, .int .i64 0, .int .i64 0, .int .i64 0, .int .i64 0, .int .i64 0, .int .i64 0, .int .i64 0, .int .i64 0, .int .i64 0, .int .i64 0, .int .i64 0, .int .i64 0, .int .i64 0, .int .i64 0, .int .i64 0, .int .i64 0, .int .i64 0, .int .i64 0, .int .i64 0, .int .i64 0] 96) = X at *
  go_loopw [4, 9] (fun ov iv wr => ∃ i o : Nat, i ≤ l.length ∧ iv = .int .i64 i ∧ ov = .int .i64 o ∧ ordN (l.take i) n = o ∧ wr.ownsRow w.heap.size 96 1 (.slice (some ⟨w.heap.size, 0, none⟩) 60 60) 60 ((Lf 60 (fun t => (timesL (l.take i) (t : Int) : Int))).map fun x => .int .i64 x) ∧ Below w.heap.size w wr) (fun _ iv _ => l.length - (intOf iv).toNat)
  case atStart => exact ⟨0, 1, Nat.zero_le _, rfl, rfl, H0.out, hown, hX⟩
  case round =>
    clear hown hX H0
    obtain ⟨i, o, hi, rfl, rfl, ho, hO, hB⟩ := hrel
    have hol : o ≤ 720 := by rw [← ho]; exact ordN_le (by simp; omega)
    have Ho := hid ho
    have HO := hid hO
    clear ho hO
    by_cases hlt : i < l.length
    · have his : (i : Int) < l.length := by omega
      obtain ⟨b, off, hA, hcell⟩ := Hc.out i hlt
      subst hA
      have c1 := (hB.cell (p := ⟨b, off + i, none⟩) (World.block_lt_of_cell? _ _ hcell)).trans hcell
      have hx := Hr.out (l.getD i 0) (by simp [List.getD_eq_getElem?_getD, List.getElem?_eq_getElem hlt])
      have hsn := take_snocI hlt
      clear hcell
      generalize l.getD i 0 = x at *
      obtain ⟨t, rfl⟩ := Int.eq_ofNat_of_zero_le hx.1
      have ht : t < 60 := by omega
      have hti : (t : Int) < 60 := by omega
      have hcA := HO.out.cellAt t (by omega)
      have hfA := HO.out.frozenAt t
      rw [Lf_cell _ ht] at hcA
      have hSt := (HO.out.stored t (.int .i64 ((timesL (l.take i) (t : Int) : Int) + 1))).1
      rw [← List.map_set (f := fun x => Value.int .i64 x), Lf_set] at hSt
      have hfun : Lf 60 (fun j => if j = t then (timesL (l.take i) (t : Int) : Int) + 1 else (timesL (l.take i) (j : Int) : Int)) = Lf 60 (fun j => (timesL (l.take (i + 1)) (j : Int) : Int)) := Lf_congr fun j hj => by
        rw [hsn, timesL_snoc]
        by_cases e : j = t
        · subst e; rw [if_pos rfl, if_pos rfl]; omega
        · rw [if_neg e, if_neg (by omega)]; omega
      rw [hfun] at hSt
      have htl : timesL (l.take i) (t : Int) ≤ 6 := by have := timesL_le (l.take i) (t : Int); simp at this; omega
      have hord := ordN_snoc (l := l.take i) (n := n) (x := t) (fun y hy => Hr.out y (List.mem_of_mem_take hy)) (by omega)
      rw [← hsn, Ho.out, show (l.take i).length = i by simp; omega] at hord
      obtain ⟨c, hcc⟩ : ∃ c, timesL (l.take i) (t : Int) = c := ⟨_, rfl⟩
      rw [hcc] at hcA hSt hord htl
      have hp : o * (i + 1) ≤ 720 * 6 := Nat.mul_le_mul hol (by omega)
      have hpc : ((o : Int) * ((i : Int) + 1)) = ((o * (i + 1) : Nat) : Int) := by simp
      have hmul : IntKind.i64.wrap ((o : Int) * ((i : Int) + 1)) = ((o * (i + 1) : Nat) : Int) := by rw [hpc, IntWalk.i64_in _ (by omega)]
      obtain ⟨p, hpp⟩ : ∃ p, o * (i + 1) = p := ⟨_, rfl⟩
      rw [hpp] at hmul hord hp
      obtain ⟨q, hqq⟩ : ∃ q, p / (c + 1) = q := ⟨_, rfl⟩
      rw [hqq] at hord
      have hq1 : (p : Int) / ((c : Int) + 1) = (q : Int) := by rw [← hqq]; simp
      have hq2 : Int.tdiv (p : Int) ((c : Int) + 1) = (q : Int) := by rw [Int.tdiv_eq_ediv_of_nonneg (by omega)]; exact hq1
      have hqb : q ≤ 4320 := by rw [← hqq]; exact Nat.le_trans (Nat.div_le_self _ _) (by omega)
      have hc0 : ((c : Int) + 1) ≠ 0 := by omega
      have hcw : IntKind.i64.wrap ((c : Int) + 1) = (c : Int) + 1 := IntWalk.i64_in _ (by omega)
      have hiw : IntKind.i64.wrap ((i : Int) + 1) = (i : Int) + 1 := IntWalk.i64_in _ (by omega)
      have hqw : IntKind.i64.wrap (q : Int) = q := IntWalk.i64_in _ (by omega)
      have hcB : (wr.setCell ⟨w.heap.size, t, none⟩ (.int .i64 ((c : Int) + 1))).cell? ⟨w.heap.size, t, none⟩ = some (.int .i64 ((c : Int) + 1)) := by
        have := hSt.cellAt t (by omega)
        rw [Lf_cell _ ht, hsn, timesL_snoc, if_pos rfl, hcc] at this
        rw [this]; simp
      have HSt := hid hSt
      have Hord := hid hord
      have hBs := hid (hB.setCell (p := ⟨w.heap.size, t, none⟩) (Nat.le_refl _) (.int .i64 ((c : Int) + 1)))
      clear hSt hord hfun hsn hpc hpp hqq hcc HO Ho
      go_wp2_with fail
      go_roundw
      case rel => exact ⟨i + 1, q, by omega, by go_num, rfl, Hord.out, HSt.out, hBs.out⟩
      case measure => simp [intOf]; omega
    · obtain rfl : i = l.length := by omega
      have his : ¬ ((l.length : Nat) : Int) < l.length := by omega
      have ho2 := Ho.out
      rw [List.take_length] at ho2
      have Ho2 := hid ho2
      clear ho2 Ho
      go_wp2_with fail
      go_ret
      exact ⟨ret_int (by rw [Ho2.out]), hB⟩
end Go.Proofs.YtlpfglkopnmlnaaDoor
namespace Go.Proofs.YtlpfglkopnmlnaaDoor
open Go.RowKit Go.Shelf
theorem row_range {m : List (List Int)} (hv : validM m = true) {s : Nat} (hs : s < m.length) : ∀ y ∈ m.getD s [], 0 ≤ y ∧ y < (m.length : Int) := fun y hy => by
  have := inB_iff.1 (List.all_eq_true.1 (row_below hv hs) y hy)
  omega
def colN (r : Option Nat) : Nat := match r with | none => 0 | some c => c
def colE (r : Option Nat) : Int := match r with | none => 3 | some _ => 0
def colB (r : Option Nat) : Bool := match r with | none => false | some _ => true
theorem colTo_end {m : List (List Int)} {lim s : Nat} (hs : s ≤ m.length) (h : colTo m lim s = none) : colTo m lim m.length = none := by
  have := colTo_none h (m.length - s)
  rwa [show s + (m.length - s) = m.length by omega] at this
set_option maxRecDepth 100000 in
set_option maxHeartbeats 4000000 in
theorem Colorings_ok (v : Value) (m : List (List Int)) (r : Option Nat) (w : World) (h : Rows w v m) (hv : validM m = true) (hr : Hid (colTo m 1152921504606846976 m.length = r)) :
    Calls Tryd.prog 18 #[.agg #[v]] w fun e w' => e = .returned (.tuple #[.int .i64 (colN r : Nat), .int .i64 (colE r)]) ∧ Below w.heap.size w w' := by
  obtain ⟨p1, p2, p3, p4, p5⟩ := valid_parts hv
  obtain ⟨A, cap, rfl, hml, hcm⟩ := id h
  have Hcm := hid hcm
  have Hp5 := hid p5
  have hX := bal (Below.refl _ w) (.cells #[.slice A m.length cap] 24)
  have hbx := (Boxed.new w 24 (.slice A m.length cap)).cell
  have H0 := hid (show colTo m 1152921504606846976 0 = some 1 from rfl)
  clear hcm p5
  go_enter Tryd.func18, Tryd.ntmps18
  go_wp2_with fail
  have hrX := h.below hX
  generalize w.alloc (.cells #[.slice A m.length cap] 24) = X at *
  refine (Valid_bool _ m true _ hrX hv).mono ?_
  rintro e w1 ⟨rfl, h1⟩
  have c1 := (h1.cell (p := ⟨w.heap.size, 0, none⟩) (World.block_lt_of_cell? _ _ hbx)).trans hbx
  have hB1 := btr hX h1
  clear hX hbx h1 hrX
  go_wp2_with fail
  go_loopw [4, 14] (fun cv sv wr => ∃ s c : Nat, s ≤ m.length ∧ sv = .int .i64 s ∧ cv = .int .i64 c ∧ colTo m 1152921504606846976 s = some c ∧ Below w.heap.size w wr) (fun _ sv _ => m.length - (intOf sv).toNat)
  case atStart => exact ⟨0, 1, Nat.zero_le _, rfl, rfl, H0.out, hB1⟩
  case round =>
    clear hB1 H0 c1
    obtain ⟨s, c, hs, rfl, rfl, hc, hB⟩ := hrel
    obtain ⟨hc1, hc2⟩ := colTo_pos hv (lim := 1152921504606846976) (by decide) hs hc
    have Hc := hid hc
    clear hc
    by_cases hlt : s < m.length
    · have hss : (s : Int) < m.length := by omega
      obtain ⟨b, off, rv, hA, hcell, hrow⟩ := Hcm.out s hlt
      subst hA
      have c2 := (hB.cell (p := ⟨b, off + s, none⟩) (World.block_lt_of_cell? _ _ hcell)).trans hcell
      have hrl := (Hp5.out s hlt).1
      have hrr := row_range hv hlt
      have hrowB := hrow.below hB
      have hop := ordN_pos hrr
      have hol := ordN_le (l := m.getD s []) (n := m.length) (by omega)
      have hcall := countOrders_any rv (m.getD s []) m.length wr hrowB (by omega) (by omega) hrr
      have hstep : colTo m 1152921504606846976 (s + 1) = if 1152921504606846976 / ordN (m.getD s []) m.length < c then none else some (c * ordN (m.getD s []) m.length) := by
        show (match colTo m 1152921504606846976 s with | none => none | some c => _) = _
        rw [Hc.out]
      obtain ⟨Ar, cr, rfl, -, -⟩ := id hrow
      rw [hrl] at c2 hcall
      obtain ⟨o, hoe⟩ : ∃ o, ordN (m.getD s []) m.length = o := ⟨_, rfl⟩
      rw [hoe] at hop hol hcall hstep
      obtain ⟨q, hqe⟩ : ∃ q, 1152921504606846976 / o = q := ⟨_, rfl⟩
      have hq1 : (1152921504606846976 : Int) / (o : Int) = (q : Int) := by rw [← hqe]; simp
      have hq2 : Int.tdiv (1152921504606846976 : Int) (o : Int) = (q : Int) := by rw [Int.tdiv_eq_ediv_of_nonneg (by omega)]; exact hq1
      have hqb : q ≤ 1152921504606846976 := by rw [← hqe]; exact Nat.div_le_self _ _
      have hqw : IntKind.i64.wrap (q : Int) = q := IntWalk.i64_in _ (by omega)
      have ho0 : (o : Int) ≠ 0 := by omega
      have hmq : q * o ≤ 1152921504606846976 := by rw [← hqe]; exact Nat.div_mul_le_self _ _
      rw [hqe] at hstep
      have Hstep := hid hstep
      have Hcall := hid hcall
      clear hcell hrow hrowB hrr hoe hqe hcall hstep hrl
      by_cases hbig : q < c
      · have d1 : decide ((q : Int) < c) = true := by simp; omega
        have hnone := hid (show r = none from by rw [← hr.out]; exact colTo_end (s := s + 1) (by omega) (by rw [Hstep.out, if_pos hbig]))
        clear Hc
        go_wp2_with fail
        refine Hcall.out.mono ?_
        rintro e w2 ⟨rfl, h2⟩
        go_wp2_with fail
        go_ret2
        refine ⟨?_, btr hB h2⟩
        rw [hnone.out]; rfl
      · have d1 : decide ((q : Int) < c) = false := by simp; omega
        have hco : c * o ≤ 1152921504606846976 := Nat.le_trans (Nat.mul_le_mul_right _ (by omega)) hmq
        have hcc : ((c : Int) * (o : Int)) = ((c * o : Nat) : Int) := by simp
        have hmul : IntKind.i64.wrap ((c : Int) * (o : Int)) = ((c * o : Nat) : Int) := by rw [hcc, IntWalk.i64_in _ (by omega)]
        have Hn := hid (show colTo m 1152921504606846976 (s + 1) = some (c * o) from by rw [Hstep.out, if_neg hbig])
        obtain ⟨d, hd⟩ : ∃ d, c * o = d := ⟨_, rfl⟩
        rw [hd] at hmul Hn
        clear hcc hco hd Hc Hstep hmq
        go_wp2_with fail
        refine Hcall.out.mono ?_
        rintro e w2 ⟨rfl, h2⟩
        go_wp2_with fail
        go_roundw
        case rel => exact ⟨s + 1, d, by omega, by go_num, rfl, Hn.out, btr hB h2⟩
        case measure => simp [intOf]; omega
    · obtain rfl : s = m.length := by omega
      have hss : ¬ ((m.length : Nat) : Int) < m.length := by omega
      have hsome := hid (show r = some c from by rw [← hr.out]; exact Hc.out)
      clear Hc
      go_wp2_with fail
      go_ret2
      refine ⟨?_, hB⟩
      rw [hsome.out]; rfl
set_option maxRecDepth 100000 in
set_option maxHeartbeats 8000000 in
theorem rColorings_any (v : Value) (m : List (List Int)) (lim : Nat) (r : Option Nat) (w : World) (h : Rows w v m) (hv : validM m = true) (hl1 : 1 ≤ lim) (hl2 : lim ≤ 1152921504606846976) (hr : Hid (colTo m lim m.length = r)) :
    Calls Tryd.prog 19 #[.agg #[v], .int .i64 lim] w fun e w' => e = .returned (.tuple #[.int .i64 (colN r : Nat), .bool (colB r)]) ∧ Below w.heap.size w w' := by
  obtain ⟨p1, p2, p3, p4, p5⟩ := valid_parts hv
  obtain ⟨A, cap, rfl, hml, hcm⟩ := id h
  have Hcm := hid hcm
  have Hp5 := hid p5
  have hX := bal (Below.refl _ w) (.cells #[.slice A m.length cap] 24)
  have hbx := (Boxed.new w 24 (.slice A m.length cap)).cell
  have H0 := hid (show colTo m lim 0 = some 1 from rfl)
  clear hcm p5
  go_enter Tryd.func19, Tryd.ntmps19
  go_wp2_with fail
  go_loopw [6, 7] (fun cv sv wr => ∃ s c : Nat, s ≤ m.length ∧ sv = .int .i64 s ∧ cv = .int .i64 c ∧ colTo m lim s = some c ∧ Below w.heap.size w wr ∧ wr.cell? ⟨w.heap.size, 0, none⟩ = some (.slice A m.length cap)) (fun _ sv _ => m.length - (intOf sv).toNat)
  case atStart => exact ⟨0, 1, Nat.zero_le _, rfl, rfl, H0.out, hX, hbx⟩
  case round =>
    clear hX hbx H0
    obtain ⟨s, c, hs, rfl, rfl, hc, hB, hbx⟩ := hrel
    obtain ⟨hc1, hc2⟩ := colTo_pos hv hl1 hs hc
    have Hc := hid hc
    clear hc
    by_cases hlt : s < m.length
    · have hss : (s : Int) < m.length := by omega
      obtain ⟨b, off, rv, hA, hcell, hrow⟩ := Hcm.out s hlt
      subst hA
      have hrl := (Hp5.out s hlt).1
      have hrr := row_range hv hlt
      have hop := ordN_pos hrr
      have hol := ordN_le (l := m.getD s []) (n := m.length) (by omega)
      have hstep : colTo m lim (s + 1) = if lim / ordN (m.getD s []) m.length < c then none else some (c * ordN (m.getD s []) m.length) := by
        show (match colTo m lim s with | none => none | some c => _) = _
        rw [Hc.out]
      have hw0 : waysT (m.getD s []) 0 = fct (letters m) := by rw [waysT_zero, hrl]
      have hwn : waysT (m.getD s []) m.length = ordN (m.getD s []) m.length := rfl
      have hws := hid (fun t => waysT_succ (m.getD s []) t)
      have htl := hid (fun (t : Int) => timesL_le (m.getD s []) t)
      have hwle := hid (fun t => show waysT (m.getD s []) t ≤ 720 from Nat.le_trans (Nat.div_le_self _ _) (fct_le (by omega)))
      have htim := hid (fun (W : World) (hb : Below w.heap.size w W) (t : Nat) => rTimes_any rv (m.getD s []) (t : Int) W (hrow.below hb) (by omega))
      obtain ⟨Ar, cr, rfl, -, -⟩ := id hrow
      rw [hrl] at hcell htl htim
      rw [← hwn] at hop hol hstep
      generalize m.getD s [] = row at *
      have Hw0 := hid hw0
      have Hwn := hid hwn
      have Hstep := hid hstep
      clear hw0 hwn hstep hrr hrl hrow
      obtain ⟨wo, rfl⟩ : ∃ wo : World, wo = wr := ⟨_, rfl⟩
      go_wp2_with fail
      refine (rLetters_any _ m _ (h.below hB) hv).mono ?_
      rintro e w2 ⟨rfl, h2⟩
      have c2 := (h2.cell (p := ⟨w.heap.size, 0, none⟩) (World.block_lt_of_cell? _ _ hbx)).trans hbx
      have hB2 := btr hB h2
      go_wp2_with fail
      refine (rProduct_any (letters m) _ p4).mono ?_
      rintro e w2' ⟨rfl, rfl⟩
      go_wp2_with fail
      go_loopw [8, 9] (fun yv tv wr => ∃ t y : Nat, t ≤ m.length ∧ tv = .int .i64 t ∧ yv = .int .i64 y ∧ waysT row t = y ∧ Below w.heap.size w wr ∧ wr.cell? ⟨w.heap.size, 0, none⟩ = some (.slice (some ⟨b, off, none⟩) m.length cap)) (fun _ tv _ => m.length - (intOf tv).toNat)
      case atStart => exact ⟨0, fct (letters m), Nat.zero_le _, rfl, rfl, Hw0.out, hB2, c2⟩
      case round =>
        clear hB2 c2 Hw0
        obtain ⟨t, y, ht, rfl, rfl, hy, hB3, hbx3⟩ := hrel
        have hyl : y ≤ 720 := by rw [← hy]; exact hwle.out t
        have Hy := hid hy
        clear hy
        by_cases htlt : t < m.length
        · have hts : (t : Int) < m.length := by omega
          have c3 := (hB3.cell (p := ⟨b, off + s, none⟩) (World.block_lt_of_cell? _ _ hcell)).trans hcell
          have ht6 := htl.out (t : Int)
          have hcall := htim.out wr hB3 t
          have hnext := hws.out t
          rw [Hy.out] at hnext
          obtain ⟨k, hk⟩ : ∃ k, timesL row (t : Int) = k := ⟨_, rfl⟩
          rw [hk] at ht6 hcall hnext
          have hfp := fct_pos k
          obtain ⟨f, hf⟩ : ∃ f, fct k = f := ⟨_, rfl⟩
          have hprod := hid (fun W => rProduct_any k W (by omega))
          rw [hf] at hfp hprod hnext
          obtain ⟨q, hqe⟩ : ∃ q, y / f = q := ⟨_, rfl⟩
          rw [hqe] at hnext
          have hq1 : (y : Int) / (f : Int) = (q : Int) := by rw [← hqe]; simp
          have hq2 : Int.tdiv (y : Int) (f : Int) = (q : Int) := by rw [Int.tdiv_eq_ediv_of_nonneg (by omega)]; exact hq1
          have hqb : q ≤ 720 := by rw [← hqe]; exact Nat.le_trans (Nat.div_le_self _ _) hyl
          have hqw : IntKind.i64.wrap (q : Int) = q := IntWalk.i64_in _ (by omega)
          have hf0 : (f : Int) ≠ 0 := by omega
          have Hnext := hid hnext
          have Hcall := hid hcall
          clear hk hf hqe hnext hcall Hy
          go_wp2_with fail
          refine Hcall.out.mono ?_
          rintro e w4 ⟨rfl, rfl⟩
          go_wp2_with fail
          refine (hprod.out _).mono ?_
          rintro e w4 ⟨rfl, rfl⟩
          go_wp2_with fail
          go_roundw
          case rel => exact ⟨t + 1, q, by omega, by go_num, rfl, Hnext.out, hB3, hbx3⟩
          case measure => simp [intOf]; omega
        · obtain rfl : t = m.length := by omega
          have hts : ¬ ((m.length : Nat) : Int) < m.length := by omega
          rw [Hy.out] at hop hol Hstep
          obtain ⟨q, hqe⟩ : ∃ q, lim / y = q := ⟨_, rfl⟩
          have hq1 : (lim : Int) / (y : Int) = (q : Int) := by rw [← hqe]; simp
          have hq2 : Int.tdiv (lim : Int) (y : Int) = (q : Int) := by rw [Int.tdiv_eq_ediv_of_nonneg (by omega)]; exact hq1
          have hqb : q ≤ 1152921504606846976 := by rw [← hqe]; exact Nat.le_trans (Nat.div_le_self _ _) hl2
          have hqw : IntKind.i64.wrap (q : Int) = q := IntWalk.i64_in _ (by omega)
          have hy0 : (y : Int) ≠ 0 := by omega
          have hmq : q * y ≤ lim := by rw [← hqe]; exact Nat.div_mul_le_self _ _
          rw [hqe] at Hstep
          clear hqe Hy
          by_cases hbig : q < c
          · have d1 : decide ((q : Int) < c) = true := by simp; omega
            have hnone := hid (show r = none from by rw [← hr.out]; exact colTo_end (s := s + 1) (by omega) (by rw [Hstep.out, if_pos hbig]))
            clear Hc Hstep
            go_wp2_with fail
            go_ret2
            refine ⟨?_, hB3⟩
            rw [hnone.out]; rfl
          · have d1 : decide ((q : Int) < c) = false := by simp; omega
            have hco : c * y ≤ lim := Nat.le_trans (Nat.mul_le_mul_right _ (by omega)) hmq
            have hcc : ((c : Int) * (y : Int)) = ((c * y : Nat) : Int) := by simp
            have hmul : IntKind.i64.wrap ((c : Int) * (y : Int)) = ((c * y : Nat) : Int) := by rw [hcc, IntWalk.i64_in _ (by omega)]
            have Hn := hid (show colTo m lim (s + 1) = some (c * y) from by rw [Hstep.out, if_neg hbig])
            obtain ⟨d, hd⟩ : ∃ d, c * y = d := ⟨_, rfl⟩
            rw [hd] at hmul Hn
            clear hcc hco hd Hc Hstep hmq
            go_wp2_with fail
            go_roundw
            case rel => exact ⟨s + 1, d, by omega, by go_num, rfl, Hn.out, hB3, hbx3⟩
            case measure => simp [intOf]; omega
    · obtain rfl : s = m.length := by omega
      have hss : ¬ ((m.length : Nat) : Int) < m.length := by omega
      have hsome := hid (show r = some c from by rw [← hr.out]; exact Hc.out)
      clear Hc
      go_wp2_with fail
      go_ret2
      refine ⟨?_, hB⟩
      rw [hsome.out]; rfl
end Go.Proofs.YtlpfglkopnmlnaaDoor
namespace Go.Proofs.YtlpfglkopnmlnaaDoor
open Go.RowKit Go.Shelf
theorem all_range_next {f : Nat → Bool} {s : Nat} (h : (List.range s).all f = true) (hs : f s = true) : (List.range (s + 1)).all f = true := by
  rw [List.range_succ, List.all_append, h, Bool.true_and]; simp [hs]
theorem all_range_false {f : Nat → Bool} {n s : Nat} (h : s < n) (hs : f s = false) : (List.range n).all f = false := by
  cases hc : (List.range n).all f with
  | false => rfl
  | true =>
    rw [List.all_eq_true] at hc
    have := hc s (List.mem_range.2 h)
    rw [hs] at this; cases this
theorem rTimes_as (v : Value) (l : List Int) (t : Int) (x : Nat) (w : World) (h : Ints w v l) (hl : l.length ≤ 100) (hx : Hid (timesL l t = x)) :
    Calls Tryd.prog 51 #[v, .int .i64 t] w fun e w' => e = .returned (.int .i64 x) ∧ Below w.heap.size w w' := by
  rw [← hx.out]
  exact (rTimes_any v l t w h hl).mono fun e w1 he => ⟨he.1, by rw [← he.2]; exact Below.refl _ _⟩
/-- The rows of a state hold each number as often. -/
def sameAt (m k : List (List Int)) (s : Nat) : Bool := (List.range m.length).all fun t : Nat => timesL (m.getD s []) t == timesL (k.getD s []) t
set_option maxRecDepth 100000 in
set_option maxHeartbeats 1500000 in
theorem rSame_rest (v u : Value) (m k : List (List Int)) (w : World) (h : Rows w v m) (hu : Rows w u k) (hv : validM m = true) (hk : validM k = true) (hlen : m.length = k.length) (hlt : letters m = letters k) :
    Calls Tryd.prog 17 #[.agg #[v], .agg #[u]] w fun e w' => e = .returned (.bool ((List.range m.length).all (sameAt m k))) ∧ Below w.heap.size w w' := by
  obtain ⟨p1, p2, p3, p4, p5⟩ := valid_parts hv
  obtain ⟨q1, q2, q3, q4, q5⟩ := valid_parts hk
  obtain ⟨A, cap, rfl, -, hcm⟩ := id h
  obtain ⟨Ak, capk, rfl, -, hck⟩ := id hu
  have Hcm := hid hcm
  have Hck := hid hck
  have Hp5 := hid p5
  have Hq5 := hid q5
  obtain ⟨f0, f1⟩ := two_alloc w (.cells #[.slice A m.length cap] 24) (.cells #[.slice Ak k.length capk] 24)
  have hX := bal (bal (Below.refl _ w) (.cells #[.slice A m.length cap] 24)) (.cells #[.slice Ak k.length capk] 24)
  have Hx := hid hX
  have d0 : ((m.length : Int) != (k.length : Int)) = false := by simp; omega
  have d1 : ((letters m : Int) != (letters k : Int)) = false := by simp; omega
  have Hlen := hid hlen
  have H0 := hid (show (List.range 0).all (sameAt m k) = true from rfl)
  have HI := hid (fun s => show (List.range 0).all (fun t : Nat => timesL (m.getD s []) t == timesL (k.getD s []) t) = true from rfl)
  clear hcm hck p5 q5 hlen hlt
  go_enter Tryd.func17, Tryd.ntmps17
  go_wp2_with fail
  generalize hWX : (w.alloc (.cells #[.slice A m.length cap] 24)).alloc (.cells #[.slice Ak k.length capk] 24) = X at *
  clear hX hWX
  have hX := Hx.out
  have hl1 : w.heap.size + 1 < X.heap.size := lt_of_block f1
  have hl0 : w.heap.size < X.heap.size := lt_of_block f0
  have c0 := cell_of_one f0
  have c1 := cell_of_one f1
  have hr := h.below hX
  have hs := hu.below hX
  have hc0 := later_cell c0
  have hc1 := later_cell c1
  clear f0 f1
  refine wp_region_later (by kernel_rfl) (by kernel_rfl) ?_
  repeat (go_big_quiet_step ((go_at_call 50; first | exact later_call (fun w' hb => rLetters_any _ m _ (hr.below hb) hv) | exact later_call (fun w' hb => rLetters_any _ k _ (hs.below hb) hk))))
  refine wpQuiet_nil ?_
  intro z
  have hz := z.below
  generalize z.world = Z at *
  clear hc0 hc1
  have b0 := (hz.cell (p := ⟨w.heap.size, 0, none⟩) hl0).trans c0
  have b1 := (hz.cell (p := ⟨w.heap.size + 1, 0, none⟩) hl1).trans c1
  have hZ := btr hX hz
  clear c0 c1 hr hs hz
  go_wp2_with fail
  go_loopw [5] (fun sv wr => ∃ s : Nat, s ≤ m.length ∧ sv = .int .i64 s ∧ (List.range s).all (sameAt m k) = true ∧ Below w.heap.size w wr ∧ wr.cell? ⟨w.heap.size, 0, none⟩ = some (.slice A m.length cap) ∧ wr.cell? ⟨w.heap.size + 1, 0, none⟩ = some (.slice Ak k.length capk)) (fun sv _ => m.length - (intOf sv).toNat)
  case atStart => exact ⟨0, Nat.zero_le _, rfl, H0.out, hZ, b0, b1⟩
  case round =>
    clear hZ b0 b1 H0
    obtain ⟨s, hsl, rfl, hall, hB, b0, b1⟩ := hrel
    have Hall := hid hall
    clear hall
    by_cases hlt : s < m.length
    · have hss : (s : Int) < m.length := by omega
      have hsk : (s : Int) < k.length := by have := Hlen.out; omega
      obtain ⟨wo, rfl⟩ : ∃ wo : World, wo = wr := ⟨_, rfl⟩
      have hI := HI.out s
      go_wp2_with fail
      go_loopw [6] (fun tv wr => ∃ t : Nat, t ≤ m.length ∧ tv = .int .i64 t ∧ (List.range t).all (fun t : Nat => timesL (m.getD s []) t == timesL (k.getD s []) t) = true ∧ Below w.heap.size w wr ∧ wr.cell? ⟨w.heap.size, 0, none⟩ = some (.slice A m.length cap) ∧ wr.cell? ⟨w.heap.size + 1, 0, none⟩ = some (.slice Ak k.length capk)) (fun tv _ => m.length - (intOf tv).toNat)
      case atStart => exact ⟨0, Nat.zero_le _, rfl, hI, hB, b0, b1⟩
      case round =>
        clear hB b0 b1 hI
        obtain ⟨t, htl, rfl, hal, hB, b0, b1⟩ := hrel
        have Hal := hid hal
        clear hal
        by_cases htlt : t < m.length
        · have hts : (t : Int) < m.length := by omega
          obtain ⟨b, off, rv, hA, hcell, hrow⟩ := Hcm.out s hlt
          subst hA
          obtain ⟨bk, offk, rk, hAk, hcellk, hrowk⟩ := Hck.out s (by omega)
          subst hAk
          have c2 := (hB.cell (p := ⟨b, off + s, none⟩) (World.block_lt_of_cell? _ _ hcell)).trans hcell
          have c3 := (hB.cell (p := ⟨bk, offk + s, none⟩) (World.block_lt_of_cell? _ _ hcellk)).trans hcellk
          have hrl := (Hp5.out s hlt).1
          have hkl := (Hq5.out s (by omega)).1
          have hrB := hrow.below hB
          have hkB := hrowk.below hB
          have Hnext := hid (fun e => all_range_next (f := fun t : Nat => timesL (m.getD s []) t == timesL (k.getD s []) t) Hal.out e)
          have Hfail := hid (fun e => all_range_false (f := fun t : Nat => timesL (m.getD s []) t == timesL (k.getD s []) t) htlt e)
          have Hout := hid (fun e => all_range_false (f := sameAt m k) hlt e)
          have Hat := hid (show sameAt m k s = (List.range m.length).all fun t : Nat => timesL (m.getD s []) t == timesL (k.getD s []) t from rfl)
          obtain ⟨Ar, cr, rfl, -, -⟩ := id hrow
          obtain ⟨Ar2, cr2, rfl, -, -⟩ := id hrowk
          rw [hrl] at c2 hrB
          rw [hkl] at c3 hkB
          have hr6 : (m.getD s []).length ≤ 100 := by omega
          have hk6 : (k.getD s []).length ≤ 100 := by omega
          clear hcell hcellk hrow hrowk hrl hkl
          generalize m.getD s [] = row at *
          generalize k.getD s [] = rowk at *
          obtain ⟨x, hx⟩ : ∃ x, timesL row (t : Int) = x := ⟨_, rfl⟩
          obtain ⟨y, hy⟩ : ∃ y, timesL rowk (t : Int) = y := ⟨_, rfl⟩
          have Hxe := hid hx
          have Hye := hid hy
          have l0 := later_cell b0
          have l1 := later_cell b1
          have l2 := later_cell c2
          have l3 := later_cell c3
          by_cases hxy : x = y
          · have dxy : ((x : Int) != (y : Int)) = false := by simp; omega
            have hn := hid (Hnext.out (by show (timesL row (t : Int) == timesL rowk (t : Int)) = true; rw [hx, hy, hxy]; simp))
            clear Hnext Hfail Hout Hat hx hy hxy
            go_wp2_with fail
            refine wp_region_later (by kernel_rfl) (by kernel_rfl) ?_
            repeat (go_big_quiet_step ((go_at_call 51; exact later_call (fun w' hb => rTimes_as _ _ _ _ _ (by first | exact hrB.below hb | exact hkB.below hb) (by first | exact hr6 | exact hk6) (by first | exact Hxe | exact Hye)))))
            refine wpQuiet_nil ?_
            intro z
            have hz := z.below
            generalize z.world = Z2 at *
            have e0 := (hz.cell (p := ⟨w.heap.size, 0, none⟩) (World.block_lt_of_cell? _ _ b0)).trans b0
            have e1 := (hz.cell (p := ⟨w.heap.size + 1, 0, none⟩) (World.block_lt_of_cell? _ _ b1)).trans b1
            clear l0 l1 l2 l3
            go_wp2
            go_roundw
            case rel => exact ⟨t + 1, by omega, by go_num, hn.out, btr hB hz, e0, e1⟩
            case measure => simp [intOf]; omega
          · have dxy : ((x : Int) != (y : Int)) = true := by simp; omega
            have hn := hid (Hout.out (by rw [Hat.out]; exact Hfail.out (by show (timesL row (t : Int) == timesL rowk (t : Int)) = false; rw [hx, hy, beq_eq_false_iff_ne]; exact hxy)))
            clear Hnext Hfail Hout Hat hx hy hxy
            go_wp2_with fail
            refine wp_region_later (by kernel_rfl) (by kernel_rfl) ?_
            repeat (go_big_quiet_step ((go_at_call 51; exact later_call (fun w' hb => rTimes_as _ _ _ _ _ (by first | exact hrB.below hb | exact hkB.below hb) (by first | exact hr6 | exact hk6) (by first | exact Hxe | exact Hye)))))
            refine wpQuiet_nil ?_
            intro z
            have hz := z.below
            generalize z.world = Z2 at *
            clear l0 l1 l2 l3
            go_wp2
            go_ret
            exact ⟨ret_bool hn.out.symm, btr hB hz⟩
        · obtain rfl : t = m.length := by omega
          have hts : ¬ ((m.length : Nat) : Int) < m.length := by omega
          have hn := hid (all_range_next (f := sameAt m k) Hall.out Hal.out)
          go_wp2_with fail
          go_roundw
          case rel => exact ⟨s + 1, by omega, by go_num, hn.out, hB, b0, b1⟩
          case measure => simp [intOf]; omega
    · obtain rfl : s = m.length := by omega
      have hss : ¬ ((m.length : Nat) : Int) < m.length := by omega
      go_wp2_with fail
      go_ret
      exact ⟨ret_bool Hall.out.symm, hB⟩
set_option maxRecDepth 100000 in
set_option maxHeartbeats 1500000 in
theorem rSame_len (v u : Value) (m k : List (List Int)) (w : World) (h : Rows w v m) (hu : Rows w u k) (hv : validM m = true) (hk : validM k = true) (hlen : ¬ m.length = k.length) :
    Calls Tryd.prog 17 #[.agg #[v], .agg #[u]] w fun e w' => e = .returned (.bool false) ∧ Below w.heap.size w w' := by
  obtain ⟨p1, p2, p3, p4, p5⟩ := valid_parts hv
  obtain ⟨q1, q2, q3, q4, q5⟩ := valid_parts hk
  obtain ⟨A, cap, rfl, -, -⟩ := id h
  obtain ⟨Ak, capk, rfl, -, -⟩ := id hu
  obtain ⟨f0, f1⟩ := two_alloc w (.cells #[.slice A m.length cap] 24) (.cells #[.slice Ak k.length capk] 24)
  have hX := bal (bal (Below.refl _ w) (.cells #[.slice A m.length cap] 24)) (.cells #[.slice Ak k.length capk] 24)
  have Hx := hid hX
  have d0 : ((m.length : Int) != (k.length : Int)) = true := by simp; omega
  clear hlen
  clear p5 q5
  go_enter Tryd.func17, Tryd.ntmps17
  go_wp2_with fail
  generalize hWX : (w.alloc (.cells #[.slice A m.length cap] 24)).alloc (.cells #[.slice Ak k.length capk] 24) = X at *
  clear hX hWX
  have c0 := cell_of_one f0
  have c1 := cell_of_one f1
  have hr := h.below Hx.out
  have hs := hu.below Hx.out
  have hc0 := later_cell c0
  have hc1 := later_cell c1
  clear f0 f1
  refine wp_region_later (by kernel_rfl) (by kernel_rfl) ?_
  repeat (go_big_quiet_step ((go_at_call 50; first | exact later_call (fun w' hb => rLetters_any _ m _ (hr.below hb) hv) | exact later_call (fun w' hb => rLetters_any _ k _ (hs.below hb) hk))))
  refine wpQuiet_nil ?_
  intro z
  have hz := z.below
  go_wp2
  go_ret
  exact ⟨rfl, btr Hx.out hz⟩
set_option maxRecDepth 100000 in
set_option maxHeartbeats 1500000 in
theorem rSame_let (v u : Value) (m k : List (List Int)) (w : World) (h : Rows w v m) (hu : Rows w u k) (hv : validM m = true) (hk : validM k = true) (hlen : m.length = k.length) (hlt : ¬ letters m = letters k) :
    Calls Tryd.prog 17 #[.agg #[v], .agg #[u]] w fun e w' => e = .returned (.bool false) ∧ Below w.heap.size w w' := by
  obtain ⟨p1, p2, p3, p4, p5⟩ := valid_parts hv
  obtain ⟨q1, q2, q3, q4, q5⟩ := valid_parts hk
  obtain ⟨A, cap, rfl, -, -⟩ := id h
  obtain ⟨Ak, capk, rfl, -, -⟩ := id hu
  obtain ⟨f0, f1⟩ := two_alloc w (.cells #[.slice A m.length cap] 24) (.cells #[.slice Ak k.length capk] 24)
  have hX := bal (bal (Below.refl _ w) (.cells #[.slice A m.length cap] 24)) (.cells #[.slice Ak k.length capk] 24)
  have Hx := hid hX
  have d0 : ((m.length : Int) != (k.length : Int)) = false := by simp; omega
  have d1 : ((letters m : Int) != (letters k : Int)) = true := by simp; omega
  clear hlen hlt
  clear p5 q5
  go_enter Tryd.func17, Tryd.ntmps17
  go_wp2_with fail
  generalize hWX : (w.alloc (.cells #[.slice A m.length cap] 24)).alloc (.cells #[.slice Ak k.length capk] 24) = X at *
  clear hX hWX
  have c0 := cell_of_one f0
  have c1 := cell_of_one f1
  have hr := h.below Hx.out
  have hs := hu.below Hx.out
  have hc0 := later_cell c0
  have hc1 := later_cell c1
  clear f0 f1
  refine wp_region_later (by kernel_rfl) (by kernel_rfl) ?_
  repeat (go_big_quiet_step ((go_at_call 50; first | exact later_call (fun w' hb => rLetters_any _ m _ (hr.below hb) hv) | exact later_call (fun w' hb => rLetters_any _ k _ (hs.below hb) hk))))
  refine wpQuiet_nil ?_
  intro z
  have hz := z.below
  go_wp2
  go_ret
  exact ⟨rfl, btr Hx.out hz⟩
theorem rSameA_any (v u : Value) (m k : List (List Int)) (w : World) (h : Rows w v m) (hu : Rows w u k) (hv : validM m = true) (hk : validM k = true) :
    Calls Tryd.prog 17 #[.agg #[v], .agg #[u]] w fun e w' => e = .returned (.bool (sameM m k)) ∧ Below w.heap.size w w' := by
  by_cases h1 : m.length = k.length
  · by_cases h2 : letters m = letters k
    · have : sameM m k = (List.range m.length).all (sameAt m k) := by rw [sameM, decide_eq_true h1, decide_eq_true h2]; rfl
      rw [this]
      exact rSame_rest v u m k w h hu hv hk h1 h2
    · have : sameM m k = false := by rw [sameM, decide_eq_false h2]; simp
      rw [this]
      exact rSame_let v u m k w h hu hv hk h1 h2
  · have : sameM m k = false := by rw [sameM, decide_eq_false h1]; simp
    rw [this]
    exact rSame_len v u m k w h hu hv hk h1
theorem rSameA_bool (v u : Value) (m k : List (List Int)) (b : Bool) (w : World) (h : Rows w v m) (hu : Rows w u k) (hv : validM m = true) (hk : validM k = true) (hb : sameM m k = b) :
    Calls Tryd.prog 17 #[.agg #[v], .agg #[u]] w fun e w' => e = .returned (.bool b) ∧ Below w.heap.size w w' := by
  subst hb; exact rSameA_any v u m k w h hu hv hk
end Go.Proofs.YtlpfglkopnmlnaaDoor
namespace Go.Proofs.YtlpfglkopnmlnaaDoor
open Go.RowKit Go.Shelf
theorem MRows.mono_base {W : World} {base base' : Nat} {v : Value} {m : List (List Int)} (h : MRows W base v m) (hb : base' ≤ base) : MRows W base' v m := by
  obtain ⟨xs, ho, hx⟩ := h
  refine ⟨xs, ?_, fun i hi => ?_⟩
  · obtain ⟨h1, h2⟩ := ho
    refine ⟨h1, ?_⟩
    rcases h2 with h2 | ⟨g, cap, cur, hv, hg, r⟩
    · exact .inl h2
    · exact .inr ⟨g, cap, cur, hv, by omega, r⟩
  · obtain ⟨A, cap, hv, hl, hc⟩ := hx i hi
    refine ⟨A, cap, hv, hl, fun j hj => ?_⟩
    obtain ⟨b, off, hA, h1, h2⟩ := hc j hj
    exact ⟨b, off, hA, by omega, h2⟩
end Go.Proofs.YtlpfglkopnmlnaaDoor
namespace Go.Proofs.YtlpfglkopnmlnaaDoor
open Go.RowKit Go.Shelf
/-- A row of rows, all of them the call's own, no two in one block; P: what is known of the rows' blocks. -/
structure Jag (W : World) (base Z n cap : Nat) (xs : List Value) (L : Nat → List Int) (P : Nat → Prop) : Prop where
  outer : W.ownsRow base 41 1 (.slice (some ⟨Z, 0, none⟩) n cap) n xs
  row : ∀ i, i < n → W.ownsRow base 3 1 (xs.getD i .nilIface) (L i).length ((L i).map fun x => .int .i64 x)
  off : ∀ i, i < n → ∀ g, (xs.getD i .nilIface).ownBlock = some g → g ≠ Z ∧ P g
  apart : ∀ i j, i < n → j < n → i ≠ j → ∀ g, (xs.getD i .nilIface).ownBlock = some g → (xs.getD j .nilIface).ownBlock ≠ some g
theorem ownsRow_blk {w : World} {base : Nat} {e : TypeId} {s : Nat} {v : Value} {n : Nat} {xs : List Value} (h : w.ownsRow base e s v n xs) : ∀ g, v.ownBlock = some g → base ≤ g ∧ g < w.heap.size := by
  intro g hg
  rcases h.2 with ⟨rfl, _⟩ | ⟨g', cap, cur, rfl, hb, hh, _⟩
  · cases hg
  · cases hg; exact ⟨hb, lt_of_block hh⟩
theorem Jag.kept {W W' : World} {base Z n cap : Nat} {xs : List Value} {L : Nat → List Int} {P : Nat → Prop} (h : Jag W base Z n cap xs L P) (hk : ∀ k, k < W.heap.size → base ≤ k → k = Z ∨ P k → W'.heap[k]? = W.heap[k]?) : Jag W' base Z n cap xs L P := by
  refine ⟨ownsRow_same h.outer fun g hg => ?_, fun i hi => ownsRow_same (h.row i hi) fun g hg => ?_, h.off, h.apart⟩
  · have := ownsRow_blk h.outer g hg
    cases hg
    exact hk _ this.2 this.1 (.inl rfl)
  · have := ownsRow_blk (h.row i hi) g hg
    exact hk _ this.2 this.1 (.inr (h.off i hi g hg).2)
theorem getD_set_same {xs : List Value} {s : Nat} (v : Value) (h : s < xs.length) : (xs.set s v).getD s .nilIface = v := by simp [List.getD_eq_getElem?_getD, List.getElem?_set, h]
theorem getD_set_other {xs : List Value} {s i : Nat} (v : Value) (h : i ≠ s) : (xs.set s v).getD i .nilIface = xs.getD i .nilIface := by
  simp only [List.getD_eq_getElem?_getD]
  rw [List.getElem?_set_ne (fun e => h e.symm)]
/-- One row has grown, and its new value is stored. -/
theorem Jag.step {W W5 : World} {base Z n cap s g1 c1 kk : Nat} {xs : List Value} {L L' : Nat → List Int} {P : Nat → Prop} {x : Int} {o : Obj} {ls : List Int} (h : Jag W base Z n cap xs L P) (hs : s < n) (hls : L s = ls) (hkk : ls.length = kk)
    (hg : (W.alloc o).grownBy W5 (xs.getD s .nilIface).ownBlock)
    (ho : W5.ownsRow base 3 1 (.slice (some ⟨g1, 0, none⟩) (kk + 1) c1) (kk + 1) ((ls.map fun x => .int .i64 x) ++ [.int .i64 x]))
    (hat : (xs.getD s .nilIface).ownBlock = some g1 ∨ g1 = W.heap.size + 1) (hP : P (W.heap.size + 1)) (hL' : ∀ i, L' i = if i = s then ls ++ [x] else L i) :
    Jag (W5.setCell ⟨Z, s, none⟩ (.slice (some ⟨g1, 0, none⟩) (kk + 1) c1)) base Z n cap (xs.set s (.slice (some ⟨g1, 0, none⟩) (kk + 1) c1)) L' P := by
  subst hls
  subst hkk
  obtain rfl : L' = fun i => if i = s then L s ++ [x] else L i := funext hL'
  clear hL'
  have hxl : xs.length = n := by have := h.outer.1; omega
  have hZ := (ownsRow_blk h.outer Z rfl).2
  have hZ5 : W5.heap[Z]? = W.heap[Z]? := (hg.block Z (by simp; omega) (fun e => (h.off s hs Z e.symm).1 rfl)).trans (Below.heap_alloc _ _ _ hZ)
  have hO5 := owns_block h.outer hZ5
  have hg1 : g1 ≠ Z ∧ P g1 := by
    rcases hat with e | e
    · exact h.off s hs g1 e
    · subst e; exact ⟨by omega, hP⟩
  have hother : ∀ i, i < n → i ≠ s → ∀ g, (xs.getD i .nilIface).ownBlock = some g → g ≠ g1 ∧ (W5.setCell ⟨Z, s, none⟩ (.slice (some ⟨g1, 0, none⟩) ((L s).length + 1) c1)).heap[g]? = W.heap[g]? := by
    intro i hi his g he
    have hb := ownsRow_blk (h.row i hi) g he
    refine ⟨fun e => ?_, ?_⟩
    · subst e
      rcases hat with e | e
      · exact h.apart i s hi hs his g he e
      · omega
    · rw [Below.heap_setCell _ _ _ _ (by have := (h.off i hi g he).1; simpa using this), hg.block g (by simp; omega) (fun e => h.apart i s hi hs his g he e.symm), Below.heap_alloc _ _ _ hb.2]
  refine ⟨(hO5.stored s _).1, fun i hi => ?_, fun i hi g he => ?_, fun i j hi hj hij g he => ?_⟩
  · by_cases e : i = s
    · subst e
      rw [getD_set_same _ (by omega)]
      simp only [if_true, List.length_append, List.length_cons, List.length_nil, List.map_append, List.map_cons, List.map_nil]
      exact owns_block ho (Below.heap_setCell _ _ _ _ (by simpa using hg1.1))
    · rw [getD_set_other _ e]
      simp only [if_neg e]
      exact ownsRow_same (h.row i hi) fun g he => (hother i hi e g he).2
  · by_cases e : i = s
    · subst e
      rw [getD_set_same _ (by omega)] at he
      cases he
      exact hg1
    · rw [getD_set_other _ e] at he
      exact h.off i hi g he
  · by_cases e : i = s
    · subst e
      rw [getD_set_same _ (by omega)] at he
      cases he
      rw [getD_set_other _ (fun e => hij e.symm)]
      exact fun he' => (hother j hj (fun e => hij e.symm) _ he').1 rfl
    · rw [getD_set_other _ e] at he
      by_cases e2 : j = s
      · subst e2
        rw [getD_set_same _ (by omega)]
        intro he'
        cases he'
        exact (hother i hi e _ he).1 rfl
      · rw [getD_set_other _ e2]
        exact h.apart i j hi hj hij g he
/-- Such rows read as lists. -/
theorem Jag.mrows {W : World} {base Z n cap : Nat} {xs : List Value} {L : Nat → List Int} {P : Nat → Prop} {m : List (List Int)} (h : Jag W base Z n cap xs L P) (hm : m.length = n) (hL : ∀ i, i < n → L i = m.getD i [] ∧ (L i).length ≤ big) : MRows W base (.slice (some ⟨Z, 0, none⟩) n cap) m := by
  refine ⟨xs, by rw [hm]; exact h.outer, fun i hi => ?_⟩
  rw [hm] at hi
  rw [← (hL i hi).1]
  have hr := h.row i hi
  rcases hr.2 with ⟨hv, h0⟩ | ⟨g, c, cur, hv, hb, hh, _⟩
  · rw [hv]
    refine ⟨none, 0, by rw [h0], (hL i hi).2, fun j hj => by omega⟩
  · rw [hv] at hr ⊢
    exact off_of_own hr rfl hb (fun e => (h.off i hi g (by rw [hv]; rfl)).1 (by simpa [Value.ownBlock] using e)) (hL i hi).2
theorem Jag.congr {W : World} {base Z n cap : Nat} {xs : List Value} {L L' : Nat → List Int} {P : Nat → Prop} (h : Jag W base Z n cap xs L P) (hL : ∀ i, i < n → L i = L' i) : Jag W base Z n cap xs L' P :=
  ⟨h.outer, fun i hi => by rw [← hL i hi]; exact h.row i hi, h.off, h.apart⟩
/-- Rows that are all nil. -/
theorem Jag.start {W : World} {base Z n cap : Nat} {P : Nat → Prop} {L : Nat → List Int} (h : W.ownsRow base 41 1 (.slice (some ⟨Z, 0, none⟩) n cap) n (List.replicate n (.slice none 0 0))) (hL : ∀ i, L i = []) : Jag W base Z n cap (List.replicate n (.slice none 0 0)) L P := by
  have hget : ∀ i, i < n → (List.replicate n (Value.slice none 0 0)).getD i .nilIface = .slice none 0 0 := fun i hi => by simp [List.getD_eq_getElem?_getD, List.getElem?_replicate, hi]
  refine ⟨h, fun i hi => ?_, fun i hi g he => ?_, fun i j hi hj _ g he => ?_⟩
  · rw [hget i hi, hL i]; exact ⟨rfl, .inl ⟨rfl, rfl⟩⟩
  · rw [hget i hi] at he; cases he
  · rw [hget i hi] at he; cases he
end Go.Proofs.YtlpfglkopnmlnaaDoor
namespace Go.Proofs.YtlpfglkopnmlnaaDoor
open Go.RowKit Go.Shelf
/-- A copy of a row that is not empty: the call's own. -/
theorem clone_any (v : Value) (l : List Int) (w : World) (h : Ints w v l) (hp : 0 < l.length) (hl : l.length ≤ 100) :
    Calls Tryd.prog 80 #[v] w fun e w' => ∃ g c, e = .returned (.slice (some ⟨g, 0, none⟩) l.length c) ∧ w'.ownsRow w.heap.size 3 1 (.slice (some ⟨g, 0, none⟩) l.length c) l.length (l.map fun x => .int .i64 x) ∧ Below w.heap.size w w' := by
  obtain ⟨A, cap, rfl, -, hc⟩ := h
  obtain ⟨b, off, hA, -⟩ := hc 0 hp
  subst hA
  refine (Tryd.slices_Clone_int b off l.length cap l w (Nat.le_refl _) (by omega) (fun j hj => by
    obtain ⟨b', off', hA, hcell⟩ := hc j hj
    cases hA
    exact hcell)).mono ?_
  rintro e w' ⟨v', rfl, ho, hne, hb⟩
  rw [List.take_length] at ho
  obtain ⟨g, c, rfl, -⟩ := Go.Lib.holds_of_ownsRow (enc := Value.int .i64) ho hne
  exact ⟨g, c, rfl, ho, hb⟩
/-- A row in rising order. -/
def sortL (l : List Int) : List Int := l.mergeSort fun x y => decide (x ≤ y)
theorem sortL_length (l : List Int) : (sortL l).length = l.length := List.length_mergeSort _
set_option maxRecDepth 100000 in
set_option maxHeartbeats 1000000 in
theorem sorted_any (v : Value) (l : List Int) (w : World) (h : Ints w v l) (hp : 0 < l.length) (hl : l.length ≤ 100) :
    Calls Tryd.prog 47 #[v] w fun e w' => ∃ g c, e = .returned (.slice (some ⟨g, 0, none⟩) l.length c) ∧ w'.ownsRow w.heap.size 3 1 (.slice (some ⟨g, 0, none⟩) l.length c) l.length ((sortL l).map fun x => .int .i64 x) ∧ Below w.heap.size w w' := by
  go_enter Tryd.func47, Tryd.ntmps47
  go_wp2_with fail
  refine (clone_any v l w h hp hl).mono ?_
  rintro e w1 ⟨g, c, rfl, ho, hb⟩
  have hgz := ownsRow_blk ho g rfl
  obtain ⟨g', c', hv, -, hgl, hnc, hcm, hll, hH⟩ := Go.Lib.holds_of_ownsRow (enc := Value.int .i64) (zs := l) ho (by intro e; cases e)
  cases hv
  have HO := hid ho
  have HB := hid hb
  have hsort := hid (Tryd.slices_Sort_int g 0 c l w1 hH hgl (by omega))
  clear ho hb hH
  go_wp2_with fail
  refine hsort.out.mono ?_
  rintro e w2 ⟨rfl, n, os, hw2⟩
  have H2 := hid hw2
  clear hw2
  have hown : w2.ownsRow w.heap.size 3 1 (.slice (some ⟨g, 0, none⟩) l.length c) l.length ((sortL l).map fun x => .int .i64 x) := by
    rcases HO.out.2 with ⟨h0, _⟩ | ⟨g2, cap2, cur, hv, hb2, hcur, hn2, hcap2, hsz2, _⟩
    · cases h0
    · cases hv
      rw [H2.out]
      exact ownsRow_sortedI (ss := l) (sortL_length l) hb2 hcur hn2 hcap2 hsz2
  have hbel : Below w.heap.size w w2 := by
    rw [H2.out]
    exact HB.out.grown (grownBy_sortedI _) (by have := HB.out.size; omega) (fun q hq => by cases hq; exact hgz.1)
  have Hown := hid hown
  clear hown
  go_wp2
  go_ret
  exact ⟨g, c, rfl, Hown.out, hbel⟩
end Go.Proofs.YtlpfglkopnmlnaaDoor
namespace Go.Proofs.YtlpfglkopnmlnaaDoor
open Go.RowKit Go.Shelf
theorem timesL_count (l : List Int) (n : Int) : timesL l n = l.count n := by
  rw [timesL, List.count, List.countP_eq_length_filter]
theorem perm_of_times {a b : List Int} (h : ∀ t, timesL a t = timesL b t) : a.Perm b :=
  List.perm_iff_count.2 fun t => by rw [← timesL_count, ← timesL_count, h t]
theorem timesL_none {l : List Int} {n : Int} (h : n ∉ l) : timesL l n = 0 := by
  rcases Nat.eq_zero_or_pos (timesL l n) with e | e
  · exact e
  · exact absurd (timesL_pos.1 e) h
theorem sortL_perm (l : List Int) : (sortL l).Perm l := List.mergeSort_perm _ _
theorem sortL_sorted (l : List Int) : (sortL l).Pairwise fun x y => decide (x ≤ y) = true :=
  List.pairwise_mergeSort (fun a b c h1 h2 => by simp only [decide_eq_true_eq] at *; omega) (fun a b => by simp only [Bool.or_eq_true, decide_eq_true_eq]; omega) l
theorem sortL_eq {a b : List Int} : sortL a = sortL b ↔ a.Perm b := by
  constructor
  · intro h
    exact (sortL_perm a).symm.trans ((List.Perm.of_eq h).trans (sortL_perm b))
  · intro h
    exact List.Perm.eq_of_pairwise (le := fun x y => decide (x ≤ y) = true) (fun a b _ _ h1 h2 => by simp only [decide_eq_true_eq] at h1 h2; omega) (sortL_sorted a) (sortL_sorted b) ((sortL_perm a).trans (h.trans (sortL_perm b).symm))
/-- Sorted alike: each number below n as often. -/
theorem sort_times {a b : List Int} {n : Nat} (ha : ∀ y ∈ a, 0 ≤ y ∧ y < (n : Int)) (hb : ∀ y ∈ b, 0 ≤ y ∧ y < (n : Int)) :
    (sortL a == sortL b) = (List.range n).all fun t : Nat => timesL a t == timesL b t := by
  rw [Bool.eq_iff_iff, beq_iff_eq, sortL_eq, List.all_eq_true]
  constructor
  · intro h t _
    rw [beq_iff_eq]; exact timesL_perm h _
  · intro h
    refine perm_of_times fun t => ?_
    by_cases ht : 0 ≤ t ∧ t < (n : Int)
    · have := h t.toNat (List.mem_range.2 (by omega))
      rw [beq_iff_eq, Int.toNat_of_nonneg ht.1] at this
      exact this
    · rw [timesL_none (fun hm => ht (ha t hm)), timesL_none (fun hm => ht (hb t hm))]
theorem same_at {m k : List (List Int)} (hv : validM m = true) (hk : validM k = true) (hlen : m.length = k.length) {s : Nat} (hs : s < m.length) :
    sameAt m k s = (sortL (m.getD s []) == sortL (k.getD s [])) := by
  rw [sort_times (row_range hv hs) (by rw [hlen]; exact row_range hk (by omega))]; rfl
theorem all_congr_range {f g : Nat → Bool} {n : Nat} (h : ∀ s, s < n → f s = g s) : (List.range n).all f = (List.range n).all g := by
  rw [Bool.eq_iff_iff, List.all_eq_true, List.all_eq_true]
  constructor
  · intro hh s hs; rw [← h s (List.mem_range.1 hs)]; exact hh s hs
  · intro hh s hs; rw [h s (List.mem_range.1 hs)]; exact hh s hs
/-- Same, as the program finds it: the letters' number need not be looked at. -/
theorem sameM_sorted {m k : List (List Int)} (hv : validM m = true) (hk : validM k = true) (hlen : m.length = k.length) :
    sameM m k = (List.range m.length).all fun s => sortL (m.getD s []) == sortL (k.getD s []) := by
  have h1 := all_congr_range (n := m.length) (f := sameAt m k) (g := fun s => sortL (m.getD s []) == sortL (k.getD s [])) (fun s hs => same_at hv hk hlen hs)
  by_cases h2 : letters m = letters k
  · rw [sameM, decide_eq_true hlen, decide_eq_true h2, ← h1]; rfl
  · have hn := (valid_parts hv).1
    have : sameM m k = false := by rw [sameM, decide_eq_false h2]; simp
    rw [this]
    refine (all_range_false (s := 0) (by omega) ?_).symm
    rw [beq_eq_false_iff_ne]
    intro e
    have := congrArg List.length e
    rw [sortL_length, sortL_length] at this
    exact h2 this
end Go.Proofs.YtlpfglkopnmlnaaDoor
namespace Go.Proofs.YtlpfglkopnmlnaaDoor
open Go.RowKit Go.Shelf
theorem names_false_at {l : List Int} {n k : Nat} (hk : k < l.length) (h : ¬ (0 ≤ l.getD k 0 ∧ l.getD k 0 < (n : Int))) : namesM l n = false := by
  cases hc : namesM l n with
  | false => rfl
  | true => exact absurd (names_bound hc _ (mem_getD hk)) h
theorem inB_all_take {l : List Int} {n k : Nat} (hk : k < l.length) (h0 : (l.take k).all (inB 0 ((n : Int) - 1)) = true) (h : 0 ≤ l.getD k 0 ∧ l.getD k 0 < (n : Int)) : (l.take (k + 1)).all (inB 0 ((n : Int) - 1)) = true := by
  rw [take_snocI hk, List.all_append, h0, Bool.true_and]
  simp only [List.all_cons, List.all_nil, Bool.and_true]
  exact inB_true (by omega)
set_option maxRecDepth 100000 in
set_option maxHeartbeats 1000000 in
theorem permutes_any (v : Value) (l : List Int) (n : Nat) (w : World) (hn : n ≤ 60) (h : Ints w v l) :
    Calls Tryd.prog 45 #[v, .int .i64 n] w fun e w' => e = .returned (.bool (namesM l n)) ∧ w = w' := by
  obtain ⟨A, cap, rfl, hl, hc⟩ := h
  unfold big at hl
  by_cases hlen : l.length = n
  · have d0 : ((l.length : Int) != (n : Int)) = false := by simp; omega
    have Hc := hid hc
    have H0 := hid (show (l.take 0).all (inB 0 ((n : Int) - 1)) = true from rfl)
    have Hlen := hid hlen
    clear hc hlen
    go_enter Tryd.func45, Tryd.ntmps45
    go_wp2
    go_loop [5, 14] (fun S i => ∃ k : Nat, k ≤ l.length ∧ i = .int .i64 k ∧ S = .int .u64 (ofList (l.take k) : Nat) ∧ (l.take k).all (inB 0 ((n : Int) - 1)) = true) (fun _ i => l.length - (intOf i).toNat)
    case atStart => exact ⟨0, Nat.zero_le _, rfl, rfl, H0.out⟩
    case round =>
      clear H0
      obtain ⟨k, hk, rfl, rfl, hall⟩ := hrel
      have hS := ofList_lt 64 (by decide) (l.take k) (fun x hx => by have := inB_iff.1 (List.all_eq_true.1 hall x hx); omega)
      by_cases hlt : k < l.length
      · have hks : (k : Int) < l.length := by omega
        obtain ⟨b, off, hA, hcell⟩ := Hc.out k hlt
        subst hA
        have Hs := hid (ofList_snoc l k hlt)
        have Ha := hid (inB_all_take hlt hall)
        have Hf := hid (fun h => names_false_at (n := n) hlt h)
        clear hall
        generalize ofList (l.take k) = S at *
        generalize l.getD k 0 = x at *
        by_cases hx0 : x < 0
        · have d1 : decide (x < 0) = true := decide_eq_true hx0
          have hff := hid (Hf.out (by omega))
          clear Hf Ha Hs
          go_wp2
          go_ret
          exact ⟨ret_bool hff.out.symm, rfl⟩
        · have d1 : decide (x < 0) = false := decide_eq_false hx0
          by_cases hxn : (n : Int) ≤ x
          · have d2 : decide ((n : Int) ≤ x) = true := decide_eq_true hxn
            have hff := hid (Hf.out (by omega))
            clear Hf Ha Hs
            go_wp2
            go_ret
            exact ⟨ret_bool hff.out.symm, rfl⟩
          · have d2 : decide ((n : Int) ≤ x) = false := decide_eq_false hxn
            obtain ⟨xn, rfl⟩ := Int.eq_ofNat_of_zero_le (show 0 ≤ x by omega)
            rw [Int.toNat_natCast] at Hs
            have Haa := hid (Ha.out (by omega))
            clear Hf Ha
            go_wp2_with (go_at_call 79; refine (With_any S xn _ hS (by omega)).mono ?_; rintro e w' ⟨rfl, rfl⟩)
            go_round
            case rel => exact ⟨k + 1, by omega, by go_num, by rw [Hs.out], Haa.out⟩
            case measure => simp [intOf]; omega
      · obtain rfl : k = l.length := by omega
        have hks : ¬ ((l.length : Nat) : Int) < l.length := by omega
        have hi := names_iff (l := l) (n := n) (by omega)
        rw [List.take_length] at hall hS
        rw [hall, decide_eq_true Hlen.out, Bool.true_and, Bool.true_and] at hi
        rw [List.take_length]
        have Hi := hid hi
        clear hi hall
        generalize ofList l = S at *
        go_wp2_with fail
        refine (Below_any n _ hn).mono ?_
        rintro e w3 ⟨rfl, rfl⟩
        go_wp2_with fail
        go_ret
        refine ⟨ret_bool ?_, rfl⟩
        rw [Hi.out]
        by_cases e : S = 2 ^ n - 1
        · rw [decide_eq_true e, e]; simp
        · rw [decide_eq_false e]
          rw [beq_eq_false_iff_ne]
          omega
  · have d0 : ((l.length : Int) != (n : Int)) = true := by simp; omega
    have hf : namesM l n = false := by rw [namesM, decide_eq_false hlen, Bool.false_and]
    have Hf := hid hf
    clear hc hf hlen
    go_enter Tryd.func45, Tryd.ntmps45
    go_wp2
    go_ret
    exact ⟨ret_bool Hf.out.symm, rfl⟩
theorem permutes_bool (v : Value) (l : List Int) (n : Nat) (b : Bool) (w : World) (hn : n ≤ 60) (h : Ints w v l) (hb : namesM l n = b) :
    Calls Tryd.prog 45 #[v, .int .i64 n] w fun e w' => e = .returned (.bool b) ∧ w = w' := by
  subst hb; exact permutes_any v l n w hn h
/-- One list for each state, each of which contains each letter once. -/
def permsM (m p : List (List Int)) : Bool := decide (p.length = m.length) && p.all fun l => namesM l (letters m)
theorem rNamesP_bool (v : Value) (l : List Int) (n : Nat) (b : Bool) (w : World) (hn : n ≤ 60) (h : Ints w v l) (hb : namesM l n = b) :
    Calls Tryd.prog 49 #[v, .int .i64 n] w fun e w' => e = .returned (.bool b) ∧ w = w' := by
  subst hb; exact rNames_any v l n w hn h
theorem take_snocR {l : List (List Int)} {k : Nat} (h : k < l.length) : l.take (k + 1) = l.take k ++ [l.getD k []] := by
  rw [List.take_succ_eq_append_getElem h]
  simp [List.getD_eq_getElem?_getD, List.getElem?_eq_getElem h]
theorem all_false_at {l : List (List Int)} {f : List Int → Bool} {k : Nat} (hk : k < l.length) (h : f (l.getD k []) = false) : l.all f = false := by
  cases hc : l.all f with
  | false => rfl
  | true =>
    rw [List.all_eq_true] at hc
    have := hc (l.getD k []) (by simp [List.getD_eq_getElem?_getD, List.getElem?_eq_getElem hk])
    rw [h] at this; cases this
set_option maxRecDepth 100000 in
set_option maxHeartbeats 4000000 in
theorem rPerms_any (v u : Value) (m p : List (List Int)) (w : World) (h : Rows w v m) (hv : validM m = true) (hu : Rows w u p) :
    Calls Tryd.prog 13 #[.agg #[v], u] w fun e w' => e = .returned (.bool (permsM m p)) ∧ Below w.heap.size w w' := by
  obtain ⟨p1, p2, p3, p4, p5⟩ := valid_parts hv
  obtain ⟨A, cap, rfl, -⟩ := id h
  obtain ⟨Au, capu, rfl, hpl, hcu⟩ := id hu
  unfold big at hpl
  have Hcu := hid hcu
  have hX := bal (Below.refl _ w) (.cells #[.slice A m.length cap] 24)
  have hbx := (Boxed.new w 24 (.slice A m.length cap)).cell
  clear hcu p5
  by_cases hlen : p.length = m.length
  · have d0 : ((p.length : Int) != (m.length : Int)) = false := by simp; omega
    have Hp := hid (show permsM m p = p.all fun l => namesM l (letters m) from by rw [permsM, decide_eq_true hlen, Bool.true_and])
    have H0 := hid (show (p.take 0).all (fun l => namesM l (letters m)) = true from rfl)
    clear hlen
    go_enter Tryd.func13, Tryd.ntmps13
    go_wp2_with fail
    go_loopw [5] (fun sv wr => ∃ s : Nat, s ≤ p.length ∧ sv = .int .i64 s ∧ (p.take s).all (fun l => namesM l (letters m)) = true ∧ Below w.heap.size w wr ∧ wr.cell? ⟨w.heap.size, 0, none⟩ = some (.slice A m.length cap)) (fun sv _ => p.length - (intOf sv).toNat)
    case atStart => exact ⟨0, Nat.zero_le _, rfl, H0.out, hX, hbx⟩
    case round =>
      clear hX hbx H0
      obtain ⟨s, hs, rfl, hall, hB, hbx⟩ := hrel
      by_cases hlt : s < p.length
      · have hss : (s : Int) < p.length := by omega
        obtain ⟨b, off, rv, hA, hcell, hrow⟩ := Hcu.out s hlt
        subst hA
        have c2 := (hB.cell (p := ⟨b, off + s, none⟩) (World.block_lt_of_cell? _ _ hcell)).trans hcell
        have hsn := take_snocR hlt
        have Hfa := hid (fun h => all_false_at (f := fun l => namesM l (letters m)) hlt h)
        have Hstep := hid (show namesM (p.getD s []) (letters m) = true → (p.take (s + 1)).all (fun l => namesM l (letters m)) = true from fun e => by rw [hsn, List.all_append, hall, Bool.true_and]; show (namesM (p.getD s []) (letters m) && true) = true; rw [e]; rfl)
        have hrb := hrow.below hB
        obtain ⟨Ar, cr, rfl, -, -⟩ := id hrow
        generalize p.getD s [] = row at *
        clear hsn hall hcell hrow
        have hml := hid (h.below hB)
        cases hnm : namesM row (letters m) with
        | true =>
          have Ht := hid (Hstep.out hnm)
          clear Hstep Hfa
          go_wp2_with fail
          go_region_held3 (fun w' => Below wr.heap.size wr w' ∧ w'.cell? ⟨w.heap.size, 0, none⟩ = some (.slice A m.length cap) ∧ w'.cell? ⟨b, off + s, none⟩ = some (.slice Ar row.length cr)) (exact held_pair hbx c2 (by first | exact below_dr wr 1 | assumption)) (first
            | (go_at_call 49; have gd := kJ1; clear gd; go_must (refine (rNamesP_bool _ row (letters m) true _ (by omega) (hrb.below kJ1) hnm).mono ?_; rintro e w4 ⟨rfl, rfl⟩))
            | (go_at_call 50; go_must (refine (rLetters_any _ m _ (hml.out.below (by first | exact below_dr wr 1 | exact Below.refl _ _)) hv).mono ?_; rintro e w3 ⟨rfl, hb3⟩; have kJ1 : Below wr.heap.size wr w3 := btr (by first | exact below_dr wr 1 | exact Below.refl _ _) hb3)))
          all_goals go_wp2
          all_goals go_roundw
          all_goals first
            | exact ⟨s + 1, by omega, by go_num, Ht.out, btr hB kJ1, (kJ1.cell (p := ⟨w.heap.size, 0, none⟩) (World.block_lt_of_cell? _ _ hbx)).trans hbx⟩
            | (simp [intOf]; omega)
        | false =>
          have Hf := hid (Hfa.out hnm)
          clear Hstep Hfa
          go_wp2_with fail
          go_region_held3 (fun w' => Below wr.heap.size wr w' ∧ w'.cell? ⟨w.heap.size, 0, none⟩ = some (.slice A m.length cap) ∧ w'.cell? ⟨b, off + s, none⟩ = some (.slice Ar row.length cr)) (exact held_pair hbx c2 (by first | exact below_dr wr 1 | assumption)) (first
            | (go_at_call 49; have gd := kJ1; clear gd; go_must (refine (rNamesP_bool _ row (letters m) false _ (by omega) (hrb.below kJ1) hnm).mono ?_; rintro e w4 ⟨rfl, rfl⟩))
            | (go_at_call 50; go_must (refine (rLetters_any _ m _ (hml.out.below (by first | exact below_dr wr 1 | exact Below.refl _ _)) hv).mono ?_; rintro e w3 ⟨rfl, hb3⟩; have kJ1 : Below wr.heap.size wr w3 := btr (by first | exact below_dr wr 1 | exact Below.refl _ _) hb3)))
          all_goals go_wp2
          all_goals go_ret
          all_goals exact ⟨ret_bool (by rw [Hp.out, Hf.out]), btr hB kJ1⟩
      · obtain rfl : s = p.length := by omega
        have hss : ¬ ((p.length : Nat) : Int) < p.length := by omega
        rw [List.take_length] at hall
        have Ha := hid hall
        clear hall
        go_wp2_with fail
        go_ret
        exact ⟨ret_bool (by rw [Hp.out, Ha.out]), hB⟩
  · have d0 : ((p.length : Int) != (m.length : Int)) = true := by simp; omega
    have Hp := hid (show permsM m p = false from by rw [permsM, decide_eq_false hlen, Bool.false_and])
    clear hlen
    go_enter Tryd.func13, Tryd.ntmps13
    go_wp2
    go_ret
    exact ⟨ret_bool (by rw [Hp.out]), hX⟩
theorem rPerms_bool (v u : Value) (m p : List (List Int)) (b : Bool) (w : World) (h : Rows w v m) (hv : validM m = true) (hu : Rows w u p) (hb : permsM m p = b) :
    Calls Tryd.prog 13 #[.agg #[v], u] w fun e w' => e = .returned (.bool b) ∧ Below w.heap.size w w' := by
  subst hb; exact rPerms_any v u m p w h hv hu
end Go.Proofs.YtlpfglkopnmlnaaDoor
namespace Go.Proofs.YtlpfglkopnmlnaaDoor
open Go.RowKit Go.Shelf
theorem ownsA_lt {w : World} {B g n c k : Nat} {e : TypeId} {s : Nat} {xs : List Value} (h : w.ownsRow B e s (.slice (some ⟨g, 0, none⟩) n c) k xs) : g < w.heap.size := (ownsRow_blk h g rfl).2
/-- The row of a state whose letters are permuted; the automaton. -/
def colRow (m p : List (List Int)) (s : Nat) : List Int := (p.getD s []).map fun x => (m.getD s []).getD x.toNat 0
def colM (m p : List (List Int)) : List (List Int) := (List.range m.length).map fun s => colRow m p s
theorem colM_length (m p : List (List Int)) : (colM m p).length = m.length := by simp [colM]
theorem colM_get (m p : List (List Int)) (i : Nat) (h : i < m.length) : (colM m p).getD i [] = colRow m p i := by simp [colM, List.getD_eq_getElem?_getD, h]
theorem colRow_length (m p : List (List Int)) (s : Nat) : (colRow m p s).length = (p.getD s []).length := by rw [colRow, List.length_map]
theorem colRow_succ (m p : List (List Int)) (s k : Nat) (hk : k < (p.getD s []).length) : ((colRow m p s).take (k + 1)).map (fun x => Value.int .i64 x) = ((colRow m p s).take k).map (fun x => Value.int .i64 x) ++ [.int .i64 ((m.getD s []).getD ((p.getD s []).getD k 0).toNat 0)] := by
  have hk' : k < (colRow m p s).length := by rw [colRow_length]; exact hk
  rw [List.take_succ_eq_append_getElem hk', List.map_append, getD_elem (p.getD s []) k hk]
  simp [colRow]
set_option maxRecDepth 100000 in
set_option maxHeartbeats 1000000 in
theorem Colored_form (v u : Value) (m p : List (List Int)) (w : World) (h : Rows w v m) (hu : Rows w u p) (hv : validM m = false) :
    Calls Tryd.prog 10 #[.agg #[v], u] w (AutoErr w 1) := by
  obtain ⟨A, cap, rfl, _⟩ := id h
  obtain ⟨Au, capu, rfl, hlu, _⟩ := id hu
  unfold big at hlu
  obtain ⟨f0, f1⟩ := two_alloc w (.cells #[.slice A m.length cap] 24) (.cells #[.slice none 0 0] 24)
  have hX := bal (bal (Below.refl _ w) (.cells #[.slice A m.length cap] 24)) (.cells #[.slice none 0 0] 24)
  have Hx := hid hX
  go_enter Tryd.func10, Tryd.ntmps10
  go_wp2_with fail
  generalize hWX : (w.alloc (.cells #[.slice A m.length cap] 24)).alloc (.cells #[.slice none 0 0] 24) = X at *
  clear hX hWX
  have hX := Hx.out
  have hl1 : w.heap.size + 1 < X.heap.size := lt_of_block f1
  have hr := h.below hX
  have B0 := Below.refl X.heap.size X
  clear f0
  refine (Valid_bool _ m false _ (hr.below B0) hv).mono ?_
  rintro e w1 ⟨rfl, h1⟩
  have B1 := btr B0 h1
  have g5 := (B1.block _ hl1).trans f1
  have d1 := cell_of_one g5
  have d2 := free_of_one g5
  have d3 := store_res g5 (.slice none 0 0)
  have HB := hid (Below.setCell (btr hX B1) (p := ⟨w.heap.size + 1, 0, none⟩) (Nat.le_succ _) (.slice none 0 0))
  clear g5 f1
  go_wp2
  (try simp only [Exit.inBlock, Exit.then])
  refine bodyPost_ret (v := .tuple #[.agg #[.slice none 0 0], .int .i64 1]) ?_ rfl ⟨rfl, HB.out⟩
  rw [results_cell_tmp rfl]
  go_simp
set_option maxRecDepth 100000 in
set_option maxHeartbeats 1000000 in
theorem Colored_len (v u : Value) (m p : List (List Int)) (w : World) (h : Rows w v m) (hu : Rows w u p) (hv : validM m = true) (hlen : ¬ p.length = m.length) :
    Calls Tryd.prog 10 #[.agg #[v], u] w (AutoErr w 2) := by
  obtain ⟨A, cap, rfl, _⟩ := id h
  obtain ⟨Au, capu, rfl, hlu, _⟩ := id hu
  unfold big at hlu
  obtain ⟨f0, f1⟩ := two_alloc w (.cells #[.slice A m.length cap] 24) (.cells #[.slice none 0 0] 24)
  have hX := bal (bal (Below.refl _ w) (.cells #[.slice A m.length cap] 24)) (.cells #[.slice none 0 0] 24)
  have Hx := hid hX
  have d0 : ((p.length : Int) != (m.length : Int)) = true := by simp; omega
  have Hl := hid hlen
  clear hlen
  go_enter Tryd.func10, Tryd.ntmps10
  go_wp2_with fail
  generalize hWX : (w.alloc (.cells #[.slice A m.length cap] 24)).alloc (.cells #[.slice none 0 0] 24) = X at *
  clear hX hWX
  have hX := Hx.out
  have hl1 : w.heap.size + 1 < X.heap.size := lt_of_block f1
  have hl0 : w.heap.size < X.heap.size := lt_of_block f0
  have c0 := cell_of_one f0
  have hr := h.below hX
  have B0 := Below.refl X.heap.size X
  clear f0
  refine (Valid_bool _ m true _ (hr.below B0) hv).mono ?_
  rintro e w1 ⟨rfl, h1⟩
  have B1 := btr B0 h1
  have c1 := (B1.cell (p := ⟨w.heap.size, 0, none⟩) hl0).trans c0
  have g5 := (B1.block _ hl1).trans f1
  have d1 := cell_of_one g5
  have d2 := free_of_one g5
  have d3 := store_res g5 (.slice none 0 0)
  have HB := hid (Below.setCell (btr hX B1) (p := ⟨w.heap.size + 1, 0, none⟩) (Nat.le_succ _) (.slice none 0 0))
  clear g5 f1
  go_wp2
  (try simp only [Exit.inBlock, Exit.then])
  refine bodyPost_ret (v := .tuple #[.agg #[.slice none 0 0], .int .i64 2]) ?_ rfl ⟨rfl, HB.out⟩
  rw [results_cell_tmp rfl]
  go_simp
/-- The colouring, or an error where the lists don't permute. -/
def ColIs (m p : List (List Int)) (w : World) (e : Ending) (w' : World) : Prop := (permsM m p = true ∧ AutoOk w (colM m p) e w') ∨ (permsM m p = false ∧ AutoErr w 2 e w')
set_option maxRecDepth 100000 in
set_option maxHeartbeats 4000000 in
theorem Colored_same (v u : Value) (m p : List (List Int)) (w : World) (h : Rows w v m) (hu : Rows w u p) (hv : validM m = true) (hlen : p.length = m.length) :
    Calls Tryd.prog 10 #[.agg #[v], u] w (ColIs m p w) := by
  obtain ⟨A, cap, rfl, _, hcm⟩ := id h
  obtain ⟨Au, capu, rfl, hlu, hcu⟩ := id hu
  unfold big at hlu
  have hn1 := (valid_parts hv).1
  have hn := (valid_parts hv).2.1
  have hlm := (valid_parts hv).2.2.2.1
  have hlm1 := (valid_parts hv).2.2.1
  have Hcu := hid hcu
  have Hcm := hid hcm
  obtain ⟨i0, hi, hz0, hz1, hz2⟩ := info_parts infoRow
  obtain ⟨j0, hj, hy0, hy1, hy2⟩ := info_parts infoInt
  have d0 : ((p.length : Int) != (m.length : Int)) = false := by simp; omega
  have Hp := hid (show permsM m p = p.all fun l => namesM l (letters m) from by rw [permsM, decide_eq_true hlen, Bool.true_and])
  have H0 := hid (show (p.take 0).all (fun l => namesM l (letters m)) = true from rfl)
  clear hcu hcm
  obtain ⟨f0, f1⟩ := two_alloc w (.cells #[.slice A m.length cap] 24) (.cells #[.slice none 0 0] 24)
  have hX := bal (bal (Below.refl _ w) (.cells #[.slice A m.length cap] 24)) (.cells #[.slice none 0 0] 24)
  have Hx := hid hX
  have hp60 : p.length ≤ 60 := by omega
  have Hlen := hid hlen
  clear hlen
  go_enter Tryd.func10, Tryd.ntmps10
  go_wp2_with fail
  generalize hWX : (w.alloc (.cells #[.slice A m.length cap] 24)).alloc (.cells #[.slice none 0 0] 24) = X at *
  clear hX hWX
  have hX := Hx.out
  have hl1 : w.heap.size + 1 < X.heap.size := lt_of_block f1
  have hl0 : w.heap.size < X.heap.size := lt_of_block f0
  have c0 := cell_of_one f0
  have hr := h.below hX
  clear f0
  refine (Valid_bool _ m true _ hr hv).mono ?_
  rintro e Z ⟨rfl, h1⟩
  have cZ := (h1.cell (p := ⟨w.heap.size, 0, none⟩) hl0).trans c0
  have gZ := (h1.block _ hl1).trans f1
  have hlZ : w.heap.size + 1 < Z.heap.size := lt_of_block gZ
  have hZ := btr hX h1
  clear c0 f1 hr h1
  go_wp2_with (at_make; refine wpList_make_full _ rfl _ _ 22 rfl Z.heap.size 41 i0 (.slice none 0 0) 1 Tryd.underlying22 hi hz0 hz1 .i64 .i64 _ _ p.length rfl rfl rfl rfl (by rw [hz2]; omega) (by unfold maxLen; omega) (Nat.le_refl _) ?_; intro w3 hown hgrow; have hB3 : Below Z.heap.size Z w3 := (Below.refl _ _).grown hgrow (Nat.le_refl _) (fun q hq => by cases hq))
  have hs3 := ownsA_lt hown
  rw [show Value.cells (.slice none 0 0) = #[.slice none 0 0] from rfl, toList_madeCells_one, Nat.mul_one] at hown
  go_loopw [27] (fun i wr => ∃ (k : Nat) (xs : List Value), k ≤ p.length ∧ i = .int .i64 k ∧ wr.ownsRow Z.heap.size 41 1 (.slice (some ⟨Z.heap.size, 0, none⟩) p.length p.length) p.length xs ∧ (∀ s, s < k → IntsOff wr Z.heap.size (some Z.heap.size) (xs.getD s .nilIface) (colRow m p s)) ∧ (∀ i, k ≤ i → i < p.length → xs.getD i .nilIface = .slice none 0 0) ∧ (p.take k).all (fun l => namesM l (letters m)) = true ∧ Below Z.heap.size Z wr) (fun i _ => p.length - (intOf i).toNat)
  case atStart => exact ⟨0, _, Nat.zero_le _, rfl, hown, fun s hs => by omega, fun i _ hi => by simp [List.getD_eq_getElem?_getD, List.getElem?_replicate, hi], H0.out, hB3⟩
  case round =>
    clear hown hB3 hs3 H0
    obtain ⟨k, xs, hk, rfl, hO, hdone, hnil, hall, hBZ⟩ := hrel
    have hsz := ownsA_lt hO
    by_cases hlt : k < p.length
    · have hle := Hlen.out
      have hltm : k < m.length := by omega
      clear hle
      have hkp : (k : Int) < p.length := by omega
      have hkm : (k : Int) < m.length := by omega
      obtain ⟨wo, rfl⟩ : ∃ wo : World, wo = wr := ⟨_, rfl⟩
      have hxl : xs.length = p.length := by have := hO.1; omega
      have hBwo := btr hZ hBZ
      have cb := (hBZ.cell (p := ⟨w.heap.size, 0, none⟩) (by show w.heap.size < _; omega)).trans cZ
      obtain ⟨b, off, r, hA, hcell, hrow⟩ := Hcm.out k hltm
      subst hA
      have hcr := (hBwo.cell (p := ⟨b, off + k, none⟩) (World.block_lt_of_cell? _ _ hcell)).trans hcell
      have hrl := ((valid_parts hv).2.2.2.2 k hltm).1
      obtain ⟨bp, offp, rp, hAp, hcellp, hrowp⟩ := Hcu.out k hlt
      subst hAp
      have hcrp := (hBwo.cell (p := ⟨bp, offp + k, none⟩) (World.block_lt_of_cell? _ _ hcellp)).trans hcellp
      have hrowpB := hrowp.below hBwo
      have hsn := take_snocR hlt
      have Hfa := hid (fun h => all_false_at (f := fun l => namesM l (letters m)) hlt h)
      have Hstep := hid (show namesM (p.getD k []) (letters m) = true → (p.take (k + 1)).all (fun l => namesM l (letters m)) = true from fun e => by rw [hsn, List.all_append, hall, Bool.true_and]; show (namesM (p.getD k []) (letters m) && true) = true; rw [e]; rfl)
      obtain ⟨Ar, capr, rfl, _, hcr2⟩ := id hrow
      have Hcr2 := hid hcr2
      obtain ⟨Ap, capp, rfl, _, hcp2⟩ := id hrowp
      have Hcp2 := hid hcp2
      have Hrs := hid (fun j hj => colRow_succ m p k j hj)
      rw [hrl] at hcr
      have hcellm := hid hcell
      rw [hrl] at hcellm
      have Hnil := hid hnil
      clear hcell hrow hcr2 hcellp hrowp hcp2 hsn hall
      have Hrl0 := hid (colRow_length m p k)
      have hcall0 := hid (fun b hb => permutes_bool _ _ (letters m) b _ (show letters m ≤ 60 by omega) hrowpB hb)
      clear hrowpB
      generalize hPR : p.getD k [] = prow at *
      generalize hMR : m.getD k [] = mrow at *
      clear hPR hMR
      cases hnm : namesM prow (letters m) with
      | false =>
        have Hf := hid (Hfa.out hnm)
        clear Hstep Hfa
        go_wp2_with fail
        refine (hcall0.out false hnm).mono ?_
        rintro e w4 ⟨rfl, rfl⟩
        have g5 := (hBZ.block _ hlZ).trans gZ
        have d1 := cell_of_one g5
        have d2 := free_of_one g5
        have d3 := store_res g5 (.slice none 0 0)
        have HB := hid (Below.setCell (btr hZ hBZ) (p := ⟨w.heap.size + 1, 0, none⟩) (Nat.le_succ _) (.slice none 0 0))
        clear g5 gZ hdone hnil hO
        go_wp2
        (try simp only [Exit.inBlock, Exit.then])
        refine bodyPost_ret (v := .tuple #[.agg #[.slice none 0 0], .int .i64 2]) ?_ rfl (.inr ⟨by rw [Hp.out, Hf.out], rfl, HB.out⟩)
        rw [results_cell_tmp rfl]
        go_simp
      | true =>
        have Ha := hid (Hstep.out hnm)
        have hpl : prow.length = letters m := by have h := hnm; rw [namesM, Bool.and_eq_true, decide_eq_true_eq] at h; exact h.1
        have Hpb := hid (names_bound hnm)
        have Hrl := hid (show (colRow m p k).length = letters m from by rw [Hrl0.out, hpl])
        have hnilk : xs.getD k .nilIface = .slice none 0 0 := hnil k (Nat.le_refl _) hlt
        have hset0 : xs.set k (.slice none 0 0) = xs := by
          apply List.ext_getElem
          · simp
          · intro i h1 h2
            rw [List.getElem_set]
            by_cases e : k = i
            · subst e
              simp only [List.getD_eq_getElem?_getD, List.getElem?_eq_getElem h2, Option.getD_some] at hnilk
              rw [if_pos rfl, hnilk]
            · rw [if_neg e]
        have hcall := hid (hcall0.out true hnm)
        rw [hpl] at hcrp hcall
        clear hcall0 Hrl0
        have Hpl := hid hpl
        clear Hstep Hfa hpl hnm
        go_wp2_with fail
        refine hcall.out.mono ?_
        rintro e w4 ⟨rfl, rfl⟩
        go_wp2_with fail
        go_loopw [44] (fun i wi => ∃ (j : Nat) (u : Value), j ≤ letters m ∧ i = .int .i64 j ∧ wi.ownsRow Z.heap.size 41 1 (.slice (some ⟨Z.heap.size, 0, none⟩) p.length p.length) p.length (xs.set k u) ∧ wi.ownsRow wo.heap.size 3 1 u j (((colRow m p k).take j).map fun x => .int .i64 x) ∧ (∀ b, b < wo.heap.size → b ≠ Z.heap.size → wi.heap[b]? = wo.heap[b]?) ∧ wo.heap.size ≤ wi.heap.size ∧ Below Z.heap.size Z wi) (fun i _ => letters m - (intOf i).toNat)
        case atStart => exact ⟨0, .slice none 0 0, Nat.zero_le _, rfl, by rw [hset0]; exact hO, ⟨rfl, .inl ⟨rfl, rfl⟩⟩, fun _ _ _ => rfl, Nat.le_refl _, hBZ⟩
        case round =>
          clear hset0 hnil hnilk
          obtain ⟨j, uu, hjl, rfl, hOi, huu, hkeep, hszi, hBi⟩ := hrel
          by_cases hjlt : j < letters m
          · have hpl := Hpl.out
            obtain ⟨br, offr, hAr, hct⟩ := Hcp2.out j (by omega)
            subst hAr
            have hBw := btr hZ hBi
            have hct2 := (hBw.cell (p := ⟨br, offr + j, none⟩) (World.block_lt_of_cell? _ _ hct)).trans hct
            have htb := Hpb.out _ (mem_getD (show j < prow.length by omega))
            have Hs := hid (Hrs.out j (by omega))
            generalize prow.getD j 0 = tv at *
            obtain ⟨tn, rfl⟩ := Int.eq_ofNat_of_zero_le htb.1
            rw [Int.toNat_natCast] at Hs
            obtain ⟨bn, on, hAn, hct3⟩ := Hcr2.out tn (by omega)
            subst hAn
            have hct4 := (hBw.cell (p := ⟨bn, on + tn, none⟩) (World.block_lt_of_cell? _ _ hct3)).trans hct3
            have hcm4 := (hBw.cell (p := ⟨b, off + k, none⟩) (World.block_lt_of_cell? _ _ hcellm.out)).trans hcellm.out
            have hcb4 := (hBi.cell (p := ⟨w.heap.size, 0, none⟩) (by show w.heap.size < _; omega)).trans cZ
            have htn : (tn : Int) < letters m := by omega
            have hjs : (j : Int) < letters m := by omega
            generalize mrow.getD tn 0 = y at *
            obtain ⟨A1, c1, rfl, hA1⟩ : ∃ A c, uu = .slice A j c ∧ ∀ g', (Value.slice A j c).ownBlock = some g' → wo.heap.size ≤ g' := by
              rcases huu.2 with ⟨he, h0⟩ | ⟨g, cap, cur, he, hg, _⟩
              · exact ⟨none, 0, by rw [he, h0], fun g' h => by cases h⟩
              · exact ⟨_, cap, he, fun g' h => by cases h; exact hg⟩
            have hcx : wr.cell? ⟨Z.heap.size, k, none⟩ = some (.slice A1 j c1) := by rw [hOi.cellAt k (by omega)]; simp [List.getElem?_set, hxl, hlt]
            have hfn := hOi.frozenAt k
            have hGi : Z.heap.size < wr.heap.size := by omega
            have HO := hid hOi
            have HU := hid huu
            have HK := hid hkeep
            clear hkeep hOi huu hdone hO hBZ hct hct3
            go_wp2_with fail
            go_region_law (refine step_append_lies _ rfl _ _ 41 rfl wo.heap.size 3 j0 (.int .i64 0) 1 8 Tryd.underlying41 hj hy0 hy1 hy2 rfl (by decide) (.slice A1 j c1) j (((colRow m p k).take j).map fun x => .int .i64 x) rfl (by first | exact HU.out.alloc _ | exact (HU.out.alloc _).drew) ⟨wr.heap.size, 0, none⟩ 1 1 [.int .i64 y] rfl rfl (by first | exact cell_one_new _ _ _ | (intro j u hu; exact cell_one_new _ _ _ j u hu)) (by simp [Value.oneCell']) (by decide) (by unfold maxLen; omega) (by omega) (by simp; omega) _ rfl ?_; intro g1 cap1 w5 hown' hgrow' hat hlt1; have hgr : (wr.drew.alloc (.cells #[.int .i64 y] 3)).grownBy w5 (Value.slice A1 j c1).ownBlock := hgrow'; have hG5 : w5.heap[Z.heap.size]? = wr.heap[Z.heap.size]? := (hgr.block _ (by simp; omega) (fun e => by have := hA1 _ e.symm; omega)).trans (Below.heap_alloc wr.drew _ _ hGi); have O5 := owns_block HO.out hG5; have hcn5 : w5.cell? ⟨Z.heap.size, k, none⟩ = some (.slice A1 j c1) := (by rw [O5.cellAt k (by omega)]; simp [List.getElem?_set, hxl, hlt]); have hfn5 := O5.frozenAt k; have K := power_round (Z := Z) (wo := wo) (wr := wr) (w2 := wr.drew) hgr (fun q hq => ⟨hA1 q hq, by have := hA1 q hq; omega⟩) hown' O5 (Below.refl _ _).drew HK.out hBi hsz hszi hGi)
            all_goals go_wp2
            all_goals go_roundw
            all_goals first
              | exact ⟨j + 1, _, by omega, by go_num, K.1, by rw [Hs.out]; exact K.2.1, K.2.2.1, K.2.2.2.1, K.2.2.2.2⟩
              | (simp [intOf]; omega)
          · obtain rfl : j = letters m := by omega
            obtain ⟨g, cg, rfl, hgb⟩ : ∃ g c, uu = .slice (some ⟨g, 0, none⟩) (letters m) c ∧ wo.heap.size ≤ g := by
              rcases huu.2 with ⟨_, h0⟩ | ⟨g, cap, cur, he, hg, _⟩
              · omega
              · exact ⟨g, cap, he, hg⟩
            rw [List.take_of_length_le (by rw [Hrl.out]; omega)] at huu
            have hnew : IntsOff wr Z.heap.size (some Z.heap.size) (.slice (some ⟨g, 0, none⟩) (letters m) cg) (colRow m p k) := off_of_own huu Hrl.out (by omega) (fun e => by simp only [Option.some.injEq] at e; omega) (by unfold big; omega)
            have Hd : Hid (∀ s, s < k + 1 → IntsOff wr Z.heap.size (some Z.heap.size) ((xs.set k (.slice (some ⟨g, 0, none⟩) (letters m) cg)).getD s .nilIface) (colRow m p s)) := hid (by
              intro s hs'
              by_cases e : s = k
              · subst e
                rw [getD_set_same _ (by omega)]
                exact hnew
              · rw [getD_set_other _ e]
                exact (hdone s (by omega)).kept (fun b _ hs hne => hkeep b hs (fun h => hne (by rw [h]))) (fun _ _ h => h))
            have Hn : Hid (∀ i, k + 1 ≤ i → i < p.length → (xs.set k (.slice (some ⟨g, 0, none⟩) (letters m) cg)).getD i .nilIface = .slice none 0 0) := hid (by
              intro i h1 h2
              rw [getD_set_other _ (by omega)]
              exact Hnil.out i (by omega) h2)
            have HO := hid hOi
            clear hnew hkeep hdone hO huu hOi
            go_wp2
            go_roundw
            case rel => exact ⟨k + 1, _, by omega, by go_num, HO.out, Hd.out, Hn.out, Ha.out, hBi⟩
            case measure => simp [intOf]; omega
    · obtain rfl : k = p.length := by omega
      have hle := Hlen.out
      have hss : ¬ ((p.length : Nat) : Int) < p.length := by omega
      rw [List.take_length] at hall
      have Hall := hid hall
      have hM : MRows wr Z.heap.size (.slice (some ⟨Z.heap.size, 0, none⟩) p.length p.length) (colM m p) := ⟨xs, by rw [colM_length, ← hle]; exact hO, fun i hi => by
        rw [colM_length] at hi
        rw [colM_get m p i hi]
        exact hdone i (by omega)⟩
      have g5 := (hBZ.block _ hlZ).trans gZ
      have d1 := cell_of_one g5
      have d2 := free_of_one g5
      have d3 := store_res g5 (.slice (some ⟨Z.heap.size, 0, none⟩) p.length p.length)
      have HB := hid (Below.setCell (btr hZ hBZ) (p := ⟨w.heap.size + 1, 0, none⟩) (Nat.le_succ _) (.slice (some ⟨Z.heap.size, 0, none⟩) p.length p.length))
      have HR := hid ((hM.kept (W' := wr.setCell ⟨w.heap.size + 1, 0, none⟩ (.slice (some ⟨Z.heap.size, 0, none⟩) p.length p.length)) (fun q hq hs => Below.heap_setCell _ _ _ _ (by simp; omega))).rows (by rw [colM_length]; unfold big; omega))
      clear g5 gZ hM hdone hnil hO hall hle
      go_wp2
      (try simp only [Exit.inBlock, Exit.then])
      refine bodyPost_ret (v := .tuple #[.agg #[.slice (some ⟨Z.heap.size, 0, none⟩) p.length p.length], .int .i64 0]) ?_ rfl (.inl ⟨by rw [Hp.out, Hall.out], _, rfl, HR.out, HB.out⟩)
      rw [results_cell_tmp rfl]
      go_simp
end Go.Proofs.YtlpfglkopnmlnaaDoor
namespace Go.Proofs.YtlpfglkopnmlnaaDoor
open Go.RowKit Go.Shelf
theorem sorted_as (v : Value) (l : List Int) (n : Nat) (w : World) (h : Ints w v l) (hn : Hid (l.length = n)) (hp : 0 < n) (hl : n ≤ 100) :
    Calls Tryd.prog 47 #[v] w fun e w' => ∃ g c, e = .returned (.slice (some ⟨g, 0, none⟩) n c) ∧ w'.ownsRow w.heap.size 3 1 (.slice (some ⟨g, 0, none⟩) n c) n ((sortL l).map fun x => .int .i64 x) ∧ Below w.heap.size w w' := by
  obtain rfl := hn.out
  exact sorted_any v l w h hp hl
theorem own_cells {w : World} {B g n c : Nat} {xs : List Int} (h : w.ownsRow B 3 1 (.slice (some ⟨g, 0, none⟩) n c) n (xs.map fun x => .int .i64 x)) : xs.length = n ∧ ∀ j, j < xs.length → w.cell? ⟨g, 0 + j, none⟩ = some (.int .i64 (xs.getD j 0)) := by
  have hl : xs.length = n := by simpa using h.1
  refine ⟨hl, fun j hj => ?_⟩
  rw [Nat.zero_add, h.cellAt j (by omega)]
  simp [List.getElem?_map, List.getD_eq_getElem?_getD, List.getElem?_eq_getElem hj]
/-- slices.Equal of two rows of the call's own. -/
theorem equal_own (B1 B2 g1 c1 g2 c2 n1 n2 : Nat) (xs ys : List Int) (b : Bool) (w : World) (h1 : w.ownsRow B1 3 1 (.slice (some ⟨g1, 0, none⟩) n1 c1) n1 (xs.map fun x => .int .i64 x)) (h2 : w.ownsRow B2 3 1 (.slice (some ⟨g2, 0, none⟩) n2 c2) n2 (ys.map fun x => .int .i64 x)) (hb : Hid ((xs == ys) = b)) (hn1 : n1 ≤ 100) (hn2 : n2 ≤ 100) :
    Calls Tryd.prog 46 #[.slice (some ⟨g1, 0, none⟩) n1 c1, .slice (some ⟨g2, 0, none⟩) n2 c2] w fun e w' => e = .returned (.bool b) ∧ Below w.heap.size w w' := by
  obtain ⟨l1, k1⟩ := own_cells h1
  obtain ⟨l2, k2⟩ := own_cells h2
  refine (Tryd.slices_Equal_int g1 0 n1 c1 g2 0 n2 c2 xs ys w (by omega) (by omega) (by omega) (by omega) k1 k2).mono ?_
  rintro e w' ⟨rfl, q, rfl⟩
  rw [List.take_of_length_le (by omega), List.take_of_length_le (by omega), hb.out]
  exact ⟨rfl, below_dr w q⟩
theorem held_four {w1 w' : World} {p q r s : Addr} {a b c d : Value} (h1 : w1.cell? p = some a) (h2 : w1.cell? q = some b) (h3 : w1.cell? r = some c) (h4 : w1.cell? s = some d) (hb : Below w1.heap.size w1 w') : Below w1.heap.size w1 w' ∧ w'.cell? p = some a ∧ w'.cell? q = some b ∧ w'.cell? r = some c ∧ w'.cell? s = some d :=
  ⟨hb, (hb.cell (World.block_lt_of_cell? _ _ h1)).trans h1, (hb.cell (World.block_lt_of_cell? _ _ h2)).trans h2, (hb.cell (World.block_lt_of_cell? _ _ h3)).trans h3, (hb.cell (World.block_lt_of_cell? _ _ h4)).trans h4⟩
set_option maxRecDepth 100000 in
set_option maxHeartbeats 2000000 in
theorem Same_ok (v u : Value) (m k : List (List Int)) (w : World) (h : Rows w v m) (hu : Rows w u k) (hv : validM m = true) (hk : validM k = true) (hlen : m.length = k.length) :
    Calls Tryd.prog 11 #[.agg #[v], .agg #[u]] w fun e w' => e = .returned (.tuple #[.bool (sameM m k), .int .i64 0]) ∧ Below w.heap.size w w' := by
  obtain ⟨p1, p2, p3, p4, p5⟩ := valid_parts hv
  obtain ⟨q1, q2, q3, q4, q5⟩ := valid_parts hk
  obtain ⟨A, cap, rfl, -, hcm⟩ := id h
  obtain ⟨Ak, capk, rfl, -, hck⟩ := id hu
  have Hcm := hid hcm
  have Hck := hid hck
  have Hp5 := hid p5
  have Hq5 := hid q5
  obtain ⟨f0, f1⟩ := two_alloc w (.cells #[.slice A m.length cap] 24) (.cells #[.slice Ak k.length capk] 24)
  have hX := bal (bal (Below.refl _ w) (.cells #[.slice A m.length cap] 24)) (.cells #[.slice Ak k.length capk] 24)
  have Hx := hid hX
  have d0 : ((m.length : Int) != (k.length : Int)) = false := by simp; omega
  have Hlen := hid hlen
  have Hsm := hid (sameM_sorted hv hk hlen)
  have H0 := hid (show (List.range 0).all (fun s => sortL (m.getD s []) == sortL (k.getD s [])) = true from rfl)
  clear hcm hck p5 q5 hlen
  go_enter Tryd.func11, Tryd.ntmps11
  go_wp2_with fail
  generalize hWX : (w.alloc (.cells #[.slice A m.length cap] 24)).alloc (.cells #[.slice Ak k.length capk] 24) = X at *
  clear hX hWX
  have hX := Hx.out
  have hl1 : w.heap.size + 1 < X.heap.size := lt_of_block f1
  have hl0 : w.heap.size < X.heap.size := lt_of_block f0
  have c0 := cell_of_one f0
  have c1 := cell_of_one f1
  have hr := h.below hX
  have hs := hu.below hX
  clear f0 f1
  refine (Valid_bool _ m true _ hr hv).mono ?_
  rintro e w1 ⟨rfl, h1⟩
  have e0 := (h1.cell (p := ⟨w.heap.size, 0, none⟩) hl0).trans c0
  have e1 := (h1.cell (p := ⟨w.heap.size + 1, 0, none⟩) hl1).trans c1
  go_wp2_with fail
  refine (Valid_bool _ k true _ (hs.below h1) hk).mono ?_
  rintro e Z ⟨rfl, h2⟩
  have hz := btr h1 h2
  have b0 := (hz.cell (p := ⟨w.heap.size, 0, none⟩) hl0).trans c0
  have b1 := (hz.cell (p := ⟨w.heap.size + 1, 0, none⟩) hl1).trans c1
  have hZ := btr hX hz
  clear c0 c1 hr hs hz e0 e1 h1 h2
  go_wp2_with fail
  go_loopw [25] (fun sv wr => ∃ s : Nat, s ≤ m.length ∧ sv = .int .i64 s ∧ (List.range s).all (fun s => sortL (m.getD s []) == sortL (k.getD s [])) = true ∧ Below w.heap.size w wr ∧ wr.cell? ⟨w.heap.size, 0, none⟩ = some (.slice A m.length cap) ∧ wr.cell? ⟨w.heap.size + 1, 0, none⟩ = some (.slice Ak k.length capk)) (fun sv _ => m.length - (intOf sv).toNat)
  case atStart => exact ⟨0, Nat.zero_le _, rfl, H0.out, hZ, b0, b1⟩
  case round =>
    clear hZ b0 b1 H0
    obtain ⟨s, hsl, rfl, hall, hB, b0, b1⟩ := hrel
    have Hall := hid hall
    clear hall
    by_cases hlt : s < m.length
    · have hss : (s : Int) < m.length := by omega
      have hsk : (s : Int) < k.length := by have := Hlen.out; omega
      obtain ⟨b, off, rv, hA, hcell, hrow⟩ := Hcm.out s hlt
      subst hA
      obtain ⟨bk, offk, rk, hAk, hcellk, hrowk⟩ := Hck.out s (by omega)
      subst hAk
      have c2 := (hB.cell (p := ⟨b, off + s, none⟩) (World.block_lt_of_cell? _ _ hcell)).trans hcell
      have c3 := (hB.cell (p := ⟨bk, offk + s, none⟩) (World.block_lt_of_cell? _ _ hcellk)).trans hcellk
      have Hrl := hid (Hp5.out s hlt).1
      have Hkl := hid (Hq5.out s (by omega)).1
      have hrB := hrow.below hB
      have hkB := hrowk.below hB
      have Hnext := hid (fun e => all_range_next (f := fun s => sortL (m.getD s []) == sortL (k.getD s [])) Hall.out e)
      have Hfail := hid (fun e => all_range_false (f := fun s => sortL (m.getD s []) == sortL (k.getD s [])) hlt e)
      obtain ⟨Ar, cr, rfl, -, -⟩ := id hrow
      obtain ⟨Ar2, cr2, rfl, -, -⟩ := id hrowk
      rw [Hrl.out] at c2 hrB
      rw [Hkl.out] at c3 hkB
      clear hcell hcellk hrow hrowk
      obtain ⟨row, hrw⟩ : ∃ row, m.getD s [] = row := ⟨_, rfl⟩
      obtain ⟨rowk, hrwk⟩ : ∃ rowk, k.getD s [] = rowk := ⟨_, rfl⟩
      rw [hrw] at hrB Hrl
      rw [hrwk] at hkB Hkl
      obtain ⟨t, ht⟩ : ∃ t, (sortL row == sortL rowk) = t := ⟨_, rfl⟩
      have Ht := hid ht
      have Hres := hid (show (sortL (m.getD s []) == sortL (k.getD s [])) = t from by rw [hrw, hrwk]; exact ht)
      clear ht hrw hrwk
      cases t with
      | true =>
        have hn := hid (Hnext.out Hres.out)
        clear Hnext Hfail Hres
        go_wp2_with fail
        go_region_held3 (fun w' => Below wr.heap.size wr w' ∧ w'.cell? ⟨w.heap.size, 0, none⟩ = some (.slice (some ⟨b, off, none⟩) m.length cap) ∧ w'.cell? ⟨w.heap.size + 1, 0, none⟩ = some (.slice (some ⟨bk, offk, none⟩) k.length capk) ∧ w'.cell? ⟨b, off + s, none⟩ = some (.slice Ar (letters m) cr) ∧ w'.cell? ⟨bk, offk + s, none⟩ = some (.slice Ar2 (letters k) cr2)) (exact held_four b0 b1 c2 c3 (by first | exact below_dr wr 1 | assumption)) (first
          | (go_at_call 46; have gd := kJ2; clear gd; go_must (refine (equal_own _ _ _ _ _ _ _ _ _ _ true _ (by first | exact o1 | exact o2) (by first | exact o1 | exact o2) Ht (by omega) (by omega)).mono ?_; rintro e y3 ⟨rfl, hy3⟩; have kJ3 : Below wr.heap.size wr y3 := btr kJ2 hy3))
          | (go_at_call 47; have gd := kJ1; clear gd; go_must (refine (sorted_as _ _ _ _ (by first | exact hrB.below kJ1 | exact hkB.below kJ1) (by first | exact Hrl | exact Hkl) (by omega) (by omega)).mono ?_; rintro e y2 ⟨g2, cc2, rfl, o2, hy2⟩; have kJ2 : Below wr.heap.size wr y2 := btr kJ1 hy2; have o1 := owns_kept o1 (fun q _ hq => hy2.block q hq)))
          | (go_at_call 47; go_must (refine (sorted_as _ _ _ _ (by first | exact hrB.below (by first | exact below_dr wr 1 | exact Below.refl _ _) | exact hkB.below (by first | exact below_dr wr 1 | exact Below.refl _ _)) (by first | exact Hrl | exact Hkl) (by omega) (by omega)).mono ?_; rintro e y1 ⟨g1, cc1, rfl, o1, hy1⟩; have kJ1 : Below wr.heap.size wr y1 := btr (by first | exact below_dr wr 1 | exact Below.refl _ _) hy1)))
        all_goals go_wp2
        all_goals go_roundw
        all_goals first
          | exact ⟨s + 1, by omega, by go_num, hn.out, btr hB kJ3, (kJ3.cell (p := ⟨w.heap.size, 0, none⟩) (World.block_lt_of_cell? _ _ b0)).trans b0, (kJ3.cell (p := ⟨w.heap.size + 1, 0, none⟩) (World.block_lt_of_cell? _ _ b1)).trans b1⟩
          | (simp [intOf]; omega)
      | false =>
        have hn := hid (Hfail.out Hres.out)
        clear Hnext Hfail Hres
        go_wp2_with fail
        go_region_held3 (fun w' => Below wr.heap.size wr w' ∧ w'.cell? ⟨w.heap.size, 0, none⟩ = some (.slice (some ⟨b, off, none⟩) m.length cap) ∧ w'.cell? ⟨w.heap.size + 1, 0, none⟩ = some (.slice (some ⟨bk, offk, none⟩) k.length capk) ∧ w'.cell? ⟨b, off + s, none⟩ = some (.slice Ar (letters m) cr) ∧ w'.cell? ⟨bk, offk + s, none⟩ = some (.slice Ar2 (letters k) cr2)) (exact held_four b0 b1 c2 c3 (by first | exact below_dr wr 1 | assumption)) (first
          | (go_at_call 46; have gd := kJ2; clear gd; go_must (refine (equal_own _ _ _ _ _ _ _ _ _ _ false _ (by first | exact o1 | exact o2) (by first | exact o1 | exact o2) Ht (by omega) (by omega)).mono ?_; rintro e y3 ⟨rfl, hy3⟩; have kJ3 : Below wr.heap.size wr y3 := btr kJ2 hy3))
          | (go_at_call 47; have gd := kJ1; clear gd; go_must (refine (sorted_as _ _ _ _ (by first | exact hrB.below kJ1 | exact hkB.below kJ1) (by first | exact Hrl | exact Hkl) (by omega) (by omega)).mono ?_; rintro e y2 ⟨g2, cc2, rfl, o2, hy2⟩; have kJ2 : Below wr.heap.size wr y2 := btr kJ1 hy2; have o1 := owns_kept o1 (fun q _ hq => hy2.block q hq)))
          | (go_at_call 47; go_must (refine (sorted_as _ _ _ _ (by first | exact hrB.below (by first | exact below_dr wr 1 | exact Below.refl _ _) | exact hkB.below (by first | exact below_dr wr 1 | exact Below.refl _ _)) (by first | exact Hrl | exact Hkl) (by omega) (by omega)).mono ?_; rintro e y1 ⟨g1, cc1, rfl, o1, hy1⟩; have kJ1 : Below wr.heap.size wr y1 := btr (by first | exact below_dr wr 1 | exact Below.refl _ _) hy1)))
        all_goals go_wp2
        all_goals go_ret2
        all_goals exact ⟨by rw [Hsm.out, hn.out]; rfl, btr hB kJ3⟩
    · obtain rfl : s = m.length := by omega
      have hss : ¬ ((m.length : Nat) : Int) < m.length := by omega
      go_wp2_with fail
      go_ret2
      exact ⟨by rw [Hsm.out, Hall.out]; rfl, hB⟩
set_option maxRecDepth 100000 in
set_option maxHeartbeats 1000000 in
theorem Same_form1 (v u : Value) (m k : List (List Int)) (w : World) (h : Rows w v m) (hu : Rows w u k) (hv : validM m = false) :
    Calls Tryd.prog 11 #[.agg #[v], .agg #[u]] w fun e w' => e = .returned (.tuple #[.bool false, .int .i64 1]) ∧ Below w.heap.size w w' := by
  obtain ⟨A, cap, rfl, -, -⟩ := id h
  obtain ⟨Ak, capk, rfl, -, -⟩ := id hu
  obtain ⟨f0, f1⟩ := two_alloc w (.cells #[.slice A m.length cap] 24) (.cells #[.slice Ak k.length capk] 24)
  have hX := bal (bal (Below.refl _ w) (.cells #[.slice A m.length cap] 24)) (.cells #[.slice Ak k.length capk] 24)
  have Hx := hid hX
  go_enter Tryd.func11, Tryd.ntmps11
  go_wp2_with fail
  generalize hWX : (w.alloc (.cells #[.slice A m.length cap] 24)).alloc (.cells #[.slice Ak k.length capk] 24) = X at *
  clear hX hWX
  have hX := Hx.out
  have hl1 : w.heap.size + 1 < X.heap.size := lt_of_block f1
  have hl0 : w.heap.size < X.heap.size := lt_of_block f0
  have c0 := cell_of_one f0
  have c1 := cell_of_one f1
  have hr := h.below hX
  have hs := hu.below hX
  clear f0 f1
  refine (Valid_bool _ m false _ hr hv).mono ?_
  rintro e w1 ⟨rfl, h1⟩
  have e0 := (h1.cell (p := ⟨w.heap.size, 0, none⟩) hl0).trans c0
  have e1 := (h1.cell (p := ⟨w.heap.size + 1, 0, none⟩) hl1).trans c1
  go_wp2
  go_ret2
  exact ⟨rfl, btr hX h1⟩
set_option maxRecDepth 100000 in
set_option maxHeartbeats 1000000 in
theorem Same_form2 (v u : Value) (m k : List (List Int)) (w : World) (h : Rows w v m) (hu : Rows w u k) (hv : validM m = true) (hk : validM k = false) :
    Calls Tryd.prog 11 #[.agg #[v], .agg #[u]] w fun e w' => e = .returned (.tuple #[.bool false, .int .i64 1]) ∧ Below w.heap.size w w' := by
  obtain ⟨A, cap, rfl, -, -⟩ := id h
  obtain ⟨Ak, capk, rfl, -, -⟩ := id hu
  obtain ⟨f0, f1⟩ := two_alloc w (.cells #[.slice A m.length cap] 24) (.cells #[.slice Ak k.length capk] 24)
  have hX := bal (bal (Below.refl _ w) (.cells #[.slice A m.length cap] 24)) (.cells #[.slice Ak k.length capk] 24)
  have Hx := hid hX
  go_enter Tryd.func11, Tryd.ntmps11
  go_wp2_with fail
  generalize hWX : (w.alloc (.cells #[.slice A m.length cap] 24)).alloc (.cells #[.slice Ak k.length capk] 24) = X at *
  clear hX hWX
  have hX := Hx.out
  have hl1 : w.heap.size + 1 < X.heap.size := lt_of_block f1
  have hl0 : w.heap.size < X.heap.size := lt_of_block f0
  have c0 := cell_of_one f0
  have c1 := cell_of_one f1
  have hr := h.below hX
  have hs := hu.below hX
  clear f0 f1
  refine (Valid_bool _ m true _ hr hv).mono ?_
  rintro e w1 ⟨rfl, h1⟩
  have e0 := (h1.cell (p := ⟨w.heap.size, 0, none⟩) hl0).trans c0
  have e1 := (h1.cell (p := ⟨w.heap.size + 1, 0, none⟩) hl1).trans c1
  go_wp2_with fail
  refine (Valid_bool _ k false _ (hs.below h1) hk).mono ?_
  rintro e Z ⟨rfl, h2⟩
  have hz := btr h1 h2
  have b0 := (hz.cell (p := ⟨w.heap.size, 0, none⟩) hl0).trans c0
  have b1 := (hz.cell (p := ⟨w.heap.size + 1, 0, none⟩) hl1).trans c1
  go_wp2
  go_ret2
  exact ⟨rfl, btr hX hz⟩
set_option maxRecDepth 100000 in
set_option maxHeartbeats 1000000 in
theorem Same_len (v u : Value) (m k : List (List Int)) (w : World) (h : Rows w v m) (hu : Rows w u k) (hv : validM m = true) (hk : validM k = true) (hlen : ¬ m.length = k.length) :
    Calls Tryd.prog 11 #[.agg #[v], .agg #[u]] w fun e w' => e = .returned (.tuple #[.bool false, .int .i64 0]) ∧ Below w.heap.size w w' := by
  obtain ⟨A, cap, rfl, -, -⟩ := id h
  obtain ⟨Ak, capk, rfl, -, -⟩ := id hu
  obtain ⟨f0, f1⟩ := two_alloc w (.cells #[.slice A m.length cap] 24) (.cells #[.slice Ak k.length capk] 24)
  have hX := bal (bal (Below.refl _ w) (.cells #[.slice A m.length cap] 24)) (.cells #[.slice Ak k.length capk] 24)
  have Hx := hid hX
  have d0 : ((m.length : Int) != (k.length : Int)) = true := by simp; omega
  clear hlen
  go_enter Tryd.func11, Tryd.ntmps11
  go_wp2_with fail
  generalize hWX : (w.alloc (.cells #[.slice A m.length cap] 24)).alloc (.cells #[.slice Ak k.length capk] 24) = X at *
  clear hX hWX
  have hX := Hx.out
  have hl1 : w.heap.size + 1 < X.heap.size := lt_of_block f1
  have hl0 : w.heap.size < X.heap.size := lt_of_block f0
  have c0 := cell_of_one f0
  have c1 := cell_of_one f1
  have hr := h.below hX
  have hs := hu.below hX
  clear f0 f1
  refine (Valid_bool _ m true _ hr hv).mono ?_
  rintro e w1 ⟨rfl, h1⟩
  have e0 := (h1.cell (p := ⟨w.heap.size, 0, none⟩) hl0).trans c0
  have e1 := (h1.cell (p := ⟨w.heap.size + 1, 0, none⟩) hl1).trans c1
  go_wp2_with fail
  refine (Valid_bool _ k true _ (hs.below h1) hk).mono ?_
  rintro e Z ⟨rfl, h2⟩
  have hz := btr h1 h2
  have b0 := (hz.cell (p := ⟨w.heap.size, 0, none⟩) hl0).trans c0
  have b1 := (hz.cell (p := ⟨w.heap.size + 1, 0, none⟩) hl1).trans c1
  go_wp2
  go_ret2
  exact ⟨rfl, btr hX hz⟩
/-- Same of any two automata. -/
def sameOk (m k : List (List Int)) : Bool := validM m && (validM k && sameM m k)
def sameE (m k : List (List Int)) : Int := if (validM m && validM k) = true then 0 else 1
theorem Same_any (v u : Value) (m k : List (List Int)) (w : World) (h : Rows w v m) (hu : Rows w u k) :
    Calls Tryd.prog 11 #[.agg #[v], .agg #[u]] w fun e w' => e = .returned (.tuple #[.bool (sameOk m k), .int .i64 (sameE m k)]) ∧ Below w.heap.size w w' := by
  unfold sameOk sameE
  cases hv : validM m with
  | false => exact Same_form1 v u m k w h hu hv
  | true =>
    cases hk : validM k with
    | false => exact Same_form2 v u m k w h hu hv hk
    | true =>
      by_cases hl : m.length = k.length
      · exact Same_ok v u m k w h hu hv hk hl
      · have : sameM m k = false := by rw [sameM, decide_eq_false hl]; simp
        rw [this]
        exact Same_len v u m k w h hu hv hk hl
end Go.Proofs.YtlpfglkopnmlnaaDoor
