/-
  Texts that the proof of the law stands on: U8, U9, Z1, U10, U2, K6, K8, Z4, Z5, Z6, Z10, R9, Z2, Z20, Z22, Z24, Z26, Z30, Z47, U3, Y15, L4, U20, H2, H5, H7.
-/
import Derived.Test.YtphpablchlpagaaDoorDbC
import Derived.BigQuiet
import Derived.Deep.QuietTactic
import Derived.Deep.RegionHeld
import Derived.Maps.AppendAt
import Derived.Deep.AppendLies
import Derived.Deep.CutRange
set_option linter.unusedVariables false
set_option linter.unusedSimpArgs false
namespace Go.Proofs.YtphpablchlpagaaDoor
open Go.RowKit Go.Shelf
theorem KK.grownAt {mb : Nat} {w w' w5 : World} (h : KK mb w w') (hg : w'.grownBy w5 (some mb)) : KK mb w w5 :=
  ⟨Nat.le_trans h.1 hg.size, fun b hb hne => (hg.block b (Nat.lt_of_lt_of_le hb h.1) (fun e => hne (by simpa using e))).trans (h.2 b hb hne)⟩
/-- The facts that hold behind each step of the search. -/
structure Srch (m : List (List Int)) (S : Nat) (w : World) (bm base : Nat) (wo wr : World) (L x i : Nat) (tr : List Tr) (seen0 : List Nat) (v : Value) (seen : List Nat) (lg : List Tr) : Prop where
  mid : MidI m S L tr x (tr.take i) seen0 seen lg
  si : SeenI m.length seen
  map : SeenMapS wr bm seen.length (fun T => decide (T ∈ seen))
  row : MTr wr base bm v lg
  len : seen0.length + lg.length = seen.length
  below : Below w.heap.size w wr
  kk : KK bm wo wr
theorem LvlT.elem {W : World} {mb n c i : Nat} {A : Option Addr} {L : List Tr} (h : LvlT W mb (.slice A n c) L) (hi : i < L.length) : ∃ b off p, A = some ⟨b, off, none⟩ ∧ b ≠ mb ∧ W.cell? ⟨b, off + i, none⟩ = some p ∧ TrailP W (fun b => b ≠ mb) (L.getD i (0, [])).2 p (L.getD i (0, [])).1 := by
  obtain ⟨A', c', hv, hc⟩ := h
  simp only [Value.slice.injEq] at hv
  obtain ⟨rfl, -, -⟩ := hv
  exact hc i hi
theorem take_split (L : List Tr) {i : Nat} (hi : i < L.length) : L.take i ++ L.getD i (0, []) :: L.drop (i + 1) = L ∧ L.take (i + 1) = L.take i ++ [L.getD i (0, [])] := by
  have e : L.getD i (0, []) = L[i] := by simp [List.getD_eq_getElem?_getD, hi]
  rw [e]
  exact ⟨by rw [← List.drop_eq_getElem_cons hi, List.take_append_drop], List.take_succ_eq_append_getElem hi⟩
/-- What the search promises. -/
def ExtIs (m : List (List Int)) (S : Nat) (w : World) (e : Ending) (w' : World) : Prop :=
  ((∃ u p T, FirstBig m S u ∧ u.length ≤ 4096 ∧ e = .returned p ∧ TrailP w' (fun _ => True) u p T) ∨ ((∀ u, WDm m u → ¬ szS S < szS (preWord m S u)) ∧ e = .returned (.pointer none))) ∧ Below w.heap.size w w'
set_option maxRecDepth 100000 in
set_option maxHeartbeats 8000000 in
theorem extended_any (v : Value) (m : List (List Int)) (S : Nat) (w : World) (h : Rows w v m) (hv : validM m = true) (h12 : m.length ≤ 12) (hS : S < 2 ^ m.length) :
    Calls Tryd.prog 40 #[.agg #[v], .int .u64 S] w (ExtIs m S w) := by
  obtain ⟨p1, p2, p3, p4, -⟩ := valid_parts hv
  have hr := h
  obtain ⟨A, cap, rfl, hml, hc⟩ := h
  obtain ⟨b0, off0, r0, hA, hc0, A0, cap0, hr0, -, -⟩ := hc 0 (by omega)
  subst hA
  subst hr0
  have hc0 : w.cell? ⟨b0, off0, none⟩ = some (.slice A0 (letters m) cap0) := hc0
  unfold big at hml
  clear hc
  have hpow : 2 ^ m.length ≤ 2 ^ 12 := Nat.pow_le_pow_right (by decide) h12
  have hN4 : 2 ^ m.length ≤ 4096 := hpow
  have hS6 : S < 1000000 := by omega
  have hS64 : S < 18446744073709551616 := by omega
  clear hpow
  obtain ⟨W0, hW0⟩ : ∃ W0, W0 = w.alloc (.cells #[.slice (some ⟨b0, off0, none⟩) m.length cap] 24) := ⟨_, rfl⟩
  have hs0 : W0.heap.size = w.heap.size + 1 := by rw [hW0]; simp
  have hX : Below w.heap.size w W0 := by rw [hW0]; exact bal (Below.refl _ w) _
  obtain ⟨w1, hput, hmap, hgr⟩ := (SeenMapS.made W0).put (by decide) S hS6
  rw [hs0] at hput hmap hgr
  rw [hW0] at hput
  have hmm := @run_makeMap Tryd.prog
  have hgs := hgr.size
  have hB1 : Below w.heap.size w w1 := (hX.alloc (by omega) _).grown hgr (by simp; omega) (fun q hq => by cases hq; omega)
  have hbx : W0.cell? ⟨w.heap.size, 0, none⟩ = some (.slice (some ⟨b0, off0, none⟩) m.length cap) := by rw [hW0]; simp [go_sem]
  have hbx1 : w1.cell? ⟨w.heap.size, 0, none⟩ = some (.slice (some ⟨b0, off0, none⟩) m.length cap) := (World.cell?_of_block ((hgr.block w.heap.size (by simp; omega) (by simp)).trans (Below.heap_alloc _ _ _ (by omega)))).trans hbx
  have hbm1 : w.heap.size + 1 < w1.heap.size := hmap.lt
  have HM := hid hmap
  have HB1 := hid hB1
  clear hmap hgr hbx hX hB1 hgs hs0
  subst hW0
  go_enter Tryd.func40, Tryd.ntmps40
  go_wp2_with fail
  have HL1 := hid (show LvlT ((w1.alloc (.cells #[.int .u64 S, .int .i64 0, .pointer none] 88)).alloc (.cells #[.pointer (some ⟨w1.heap.size, 0, none⟩)] 58)) (w.heap.size + 1) (.slice (some ⟨w1.heap.size + 1, 0, none⟩) 1 1) [(S, [])] from by
    refine ⟨_, 1, rfl, fun i hi => ?_⟩
    obtain rfl : i = 0 := by simpa using hi
    refine ⟨w1.heap.size + 1, 0, .pointer (some ⟨w1.heap.size, 0, none⟩), rfl, by omega, ?_, ⟨w1.heap.size, rfl, by omega, ?_, ?_⟩⟩
    · simp [go_sem]
    · simp [go_sem]
    · simp [go_sem])
  have HB3 := hid (bal (bal HB1.out (.cells #[.int .u64 S, .int .i64 0, .pointer none] 88)) (.cells #[.pointer (some ⟨w1.heap.size, 0, none⟩)] 58))
  have HM3 := hid (show SeenMapS ((w1.alloc (.cells #[.int .u64 S, .int .i64 0, .pointer none] 88)).alloc (.cells #[.pointer (some ⟨w1.heap.size, 0, none⟩)] 58)) (w.heap.size + 1) 1 (fun T => decide (T ∈ [S])) from by
    have e : (fun q : Nat => decide (q = S) || (fun _ => false) q) = fun T => decide (T ∈ [S]) := by funext q; simp
    rw [← e]
    exact HM.out.kept ((Below.heap_alloc _ _ _ (by simp; omega)).trans (Below.heap_alloc _ _ _ hbm1)))
  have hbx3 : ((w1.alloc (.cells #[.int .u64 S, .int .i64 0, .pointer none] 88)).alloc (.cells #[.pointer (some ⟨w1.heap.size, 0, none⟩)] 58)).cell? ⟨w.heap.size, 0, none⟩ = some (.slice (some ⟨b0, off0, none⟩) m.length cap) :=
    (World.cell?_of_block ((Below.heap_alloc _ _ _ (by simp; omega)).trans (Below.heap_alloc _ _ _ (by show w.heap.size < w1.heap.size; omega)))).trans hbx1
  generalize (w1.alloc (.cells #[.int .u64 S, .int .i64 0, .pointer none] 88)).alloc (.cells #[.pointer (some ⟨w1.heap.size, 0, none⟩)] 58) = w3 at *
  have Hr := hid hr
  clear hput hbx1 hr
  go_loopg [6] 4098 (fun k tv wr => ∃ (L : Nat) (tr : List Tr) (seen : List Nat), L + k = 4098 ∧ LvlT wr (w.heap.size + 1) tv tr ∧ LevI m S L seen tr ∧ SeenI m.length seen ∧ SeenMapS wr (w.heap.size + 1) seen.length (fun T => decide (T ∈ seen)) ∧ (tr ≠ [] → L + 1 ≤ seen.length) ∧ tr.length ≤ seen.length ∧ Below w.heap.size w wr ∧ wr.cell? ⟨w.heap.size, 0, none⟩ = some (.slice (some ⟨b0, off0, none⟩) m.length cap))
  case atStart => exact ⟨0, [(S, [])], [S], rfl, HL1.out, LevI.start m S, ⟨by simp, fun T hT => by rw [List.mem_singleton.1 hT]; exact hS⟩, HM3.out, fun _ => by simp, by simp, HB3.out, hbx3⟩
  case round =>
    clear HL1 HB3 HM3 hbx3 HM HB1
    obtain ⟨L, tr, seen0, hLk, hLv, hLev, hsi, hmp, hne, htl, hB, hbx⟩ := hrel
    have hsl := hsi.len
    obtain ⟨A6, c6, rfl⟩ : ∃ A c, u6 = .slice A tr.length c := by obtain ⟨A6, c6, hu, _⟩ := id hLv; exact ⟨A6, c6, hu⟩
    have HLv := hid hLv
    have HLev := hid hLev
    have Hsi := hid hsi
    have Hmp := hid hmp
    have Hne := hid hne
    have HLk := hid hLk
    have hmo := hmp.lt
    have HB := hid hB
    have hcb := (hB.cell (p := ⟨b0, off0, none⟩) (World.block_lt_of_cell? _ _ hc0)).trans hc0
    obtain ⟨wo, rfl⟩ : ∃ wo : World, wo = wr := ⟨_, rfl⟩
    clear hLv hLev hsi hmp hne hLk
    by_cases ht0 : tr.length = 0
    · have d1 : ¬ (0 : Int) < tr.length := by omega
      have d2 : decide ((0 : Int) < tr.length) = false := decide_eq_false d1
      have d3 : decide (0 < tr.length) = false := decide_eq_false (by omega)
      go_wp2_with fail
      go_ret
      obtain rfl : tr = [] := List.eq_nil_of_length_eq_zero ht0
      exact ⟨.inr ⟨HLev.out.none, rfl⟩, HB.out⟩
    · have d1 : (0 : Int) < tr.length := by omega
      have d2 : decide ((0 : Int) < tr.length) = true := decide_eq_true d1
      have d3 : decide (0 < tr.length) = true := decide_eq_true (by omega)
      have d4 : 0 < tr.length := by omega
      have hL1 : L + 1 ≤ seen0.length := Hne.out (fun e => by rw [e] at ht0; simp at ht0)
      go_wp2_with fail
      go_loopw [7, 27] (fun lv xv wx => ∃ (x : Nat) (seen : List Nat) (lg : List Tr), x ≤ letters m ∧ xv = .int .i64 x ∧ Srch m S w (w.heap.size + 1) wo.heap.size wo wx L x 0 tr seen0 lv seen lg) (fun _ xv _ => letters m - (intOf xv).toNat)
      case atStart => exact ⟨0, seen0, [], Nat.zero_le _, rfl, ⟨MidI.start m S L tr seen0, Hsi.out, Hmp.out, MTr.nil _ _ _, by simp, HB.out, KK.refl _ _⟩⟩
      case round =>
        obtain ⟨x, seen, lg, hx, rfl, hS1⟩ := hrel
        have HS1 := hid hS1
        obtain ⟨A7, c7, rfl, -⟩ := hS1.row.slice
        clear hS1
        by_cases hxl : x < letters m
        · have e1 : (x : Int) < letters m := by omega
          have e2 : decide (x < letters m) = true := decide_eq_true hxl
          obtain ⟨wx, rfl⟩ : ∃ wx : World, wx = wr := ⟨_, rfl⟩
          go_wp2_with fail
          go_loopw [7, 32] (fun lv iv wi => ∃ (i : Nat) (seen : List Nat) (lg : List Tr), i ≤ tr.length ∧ iv = .int .i64 i ∧ Srch m S w (w.heap.size + 1) wo.heap.size wo wi L x i tr seen0 lv seen lg) (fun _ iv _ => tr.length - (intOf iv).toNat)
          case atStart => exact ⟨0, seen, lg, Nat.zero_le _, rfl, HS1.out⟩
          case round =>
            clear HS1
            obtain ⟨i, seen, lg, hi, rfl, hS1⟩ := hrel
            have HS1 := hid hS1
            obtain ⟨A7, c7, rfl, hown⟩ := hS1.row.slice
            have hsil := hS1.si.len
            have hlen := hS1.len
            have hkk := hS1.kk
            have hbl := hS1.below
            have hmpl := hS1.map.lt
            clear hS1
            by_cases hil : i < tr.length
            · have f1 : (i : Int) < tr.length := by omega
              have f2 : decide (i < tr.length) = true := decide_eq_true hil
              obtain ⟨b, off, p, hA6, hbm, c1, hTr⟩ := HLv.out.elem hil
              subst hA6
              obtain ⟨hsp, htk⟩ := take_split tr hil
              obtain ⟨T, u, hTu⟩ : ∃ T u, tr.getD i (0, []) = (T, u) := ⟨_, _, rfl⟩
              rw [hTu] at hTr hsp htk
              simp only at hTr
              obtain ⟨c, rfl, hcm, hcl, c2⟩ := hTr.ptr
              have hmem : (T, u) ∈ tr := by rw [← hsp]; simp
              obtain ⟨o1, o2, o3⟩ := HLev.out.ok _ hmem
              simp only at o1 o2 o3
              have hTlt : T < 2 ^ m.length := by rw [o3]; exact preWord_lt hv hS u
              have hT64 : T < 2 ^ 64 := by omega
              obtain ⟨q, hq⟩ : ∃ q, preSet m T (x : Int) = q := ⟨_, rfl⟩
              have hqlt : q < 2 ^ m.length := by rw [← hq]; exact preSet_lt hv T x
              have hq64 : q < 18446744073709551616 := by omega
              have hq6 : q < 1000000 := by omega
              have Hq := hid hq
              have g1 := hkk.cell c1 hbm
              have g2 := hkk.cell c2 hcm
              have g3 := hkk.cell hbx (by show w.heap.size ≠ w.heap.size + 1; omega)
              have hrr := Hr.out.below hbl
              have HTr := hid hTr
              have Hsp := hid hsp
              have Htk := hid htk
              have Ho2 := hid o2
              have Hown := hid hown
              have Hkk := hid hkk
              clear c1 c2 hTr hsp htk hmem o1 o2 o3 hTu hq hown
              obtain ⟨wi, rfl⟩ : ∃ wi : World, wi = wr := ⟨_, rfl⟩
              have HPre := hid (fun n : Nat => (show Calls Tryd.prog 54 #[.int .u64 T, .slice (some ⟨b0, off0, none⟩) m.length cap, .int .i64 x] (wi.drewN n) fun e w' => e = .returned (.int .u64 (q : Nat)) ∧ w' = wi.drewN n from
                (SetPreimage_any _ m T x _ (hrr.drewN _) hv hT64 hxl).mono fun _ _ ⟨h1, h2⟩ => ⟨h1.trans (by rw [← Hq.out]; rfl), h2.symm⟩))
              clear hrr
              go_wp2_with fail
              go_quiet ((go_at_call 54; exact Calls.quiet_of_same (HPre.out _)))
              have bq : Below wi.heap.size wi (wi.drewN nq) := bdr (Below.refl _ _) nq
              have hZ : Srch m S w (w.heap.size + 1) wo.heap.size wo (wi.drewN nq) L x i tr seen0 (.slice A7 lg.length c7) seen lg := by
                have h1 := HS1.out
                exact ⟨h1.mid, h1.si, h1.map.kept (bq.block _ hmpl), h1.row.kk hmo (KK.below bq rfl), h1.len, btr hbl bq, Hkk.out.step bq⟩
              generalize wi.drewN nq = Z at *
              have HZ := hid hZ
              have hmz := hZ.map.lt
              have hbz := hZ.below
              have hlook := hZ.map.look q hq6
              obtain ⟨cq, hcq⟩ : ∃ c, (elems q).length = c := ⟨_, rfl⟩
              obtain ⟨cS, hcS⟩ : ∃ c, (elems S).length = c := ⟨_, rfl⟩
              have hz1 := Size_any q Z hq64
              have hz2 := Size_any S Z hS64
              rw [hcq] at hz1
              rw [hcS] at hz2
              have Hz1 := hid hz1
              have Hz2 := hid hz2
              have Hcq := hid hcq
              have HcS := hid hcS
              have hcq64 : cq ≤ 64 := by rw [← hcq]; exact elems_length q
              have hcS64 : cS ≤ 64 := by rw [← hcS]; exact elems_length S
              have hwiZ := bq.size
              clear HS1 hkk hbl hZ hcq hcS hz1 hz2 g1 g2 g3 HPre hmpl bq
              by_cases hbig : cS < cq
              · have k1 : (cS : Int) < cq := by omega
                have k2 : decide ((cS : Int) < cq) = true := decide_eq_true k1
                have k3 : decide (cS < cq) = true := decide_eq_true hbig
                go_wp2_with fail
                refine Hz1.out.mono ?_
                rintro e w' ⟨rfl, rfl⟩
                go_wp2_with fail
                refine Hz2.out.mono ?_
                rintro e w' ⟨rfl, rfl⟩
                go_wp2_with fail
                go_ret
                have K8 : KK (w.heap.size + 1) wo (Z.alloc (.cells #[.int .u64 q, .int .i64 x, .pointer (some ⟨c, 0, none⟩)] 88)) := HZ.out.kk.step (bal (Below.refl _ Z) _)
                refine ⟨.inl ⟨(x : Int) :: u, _, q, MidI.big HLev.out hxl Hsp.out HZ.out.mid (by rw [Hq.out]; unfold szS; rw [Hcq.out, HcS.out]; exact hbig), by have := Ho2.out; simp; omega, rfl, ⟨Z.heap.size, .pointer (some ⟨c, 0, none⟩), T, rfl, trivial, ?_, ?_, ?_, HTr.out.kept (fun b hb hs => K8.2 b hs hb) (fun _ _ _ => trivial)⟩⟩, bal hbz _⟩
                · simp [go_sem]
                · simp [go_sem]
                · simp [go_sem]
              · have k1 : ¬ (cS : Int) < cq := by omega
                have k2 : decide ((cS : Int) < cq) = false := decide_eq_false k1
                have k3 : decide (cS < cq) = false := decide_eq_false hbig
                cases hse : decide (q ∈ seen) with
                | true =>
                  rw [hse] at hlook
                  go_wp2_with fail
                  refine Hz1.out.mono ?_
                  rintro e w' ⟨rfl, rfl⟩
                  go_wp2_with fail
                  refine Hz2.out.mono ?_
                  rintro e w' ⟨rfl, rfl⟩
                  go_wp2_with fail
                  go_roundw
                  case rel =>
                    have h1 := HZ.out
                    refine ⟨i + 1, seen, lg, by omega, by go_num, ⟨?_, h1.si, h1.map, h1.row, h1.len, h1.below, h1.kk⟩⟩
                    rw [Htk.out]
                    exact MidI.old HLev.out Hsp.out h1.mid (by rw [Hq.out]; unfold szS; rw [Hcq.out, HcS.out]; exact hbig) (by rw [Hq.out]; exact of_decide_eq_true hse)
                  case measure => simp [intOf]; omega
                | false =>
                  rw [hse] at hlook
                  have hno : q ∉ seen := of_decide_eq_false hse
                  obtain ⟨w5, hput5, hmp5, hgr5⟩ := HZ.out.map.put (by have := Hsi.out.len; omega) q hq6
                  have hs5 := hgr5.size
                  have K5 : KK (w.heap.size + 1) wo w5 := HZ.out.kk.grownAt hgr5
                  have K6 : KK (w.heap.size + 1) wo (w5.alloc (.cells #[.int .u64 q, .int .i64 x, .pointer (some ⟨c, 0, none⟩)] 88)) := K5.step (bal (Below.refl _ w5) _)
                  have HMT := hid (HZ.out.row.kk hmo (((KK.refl (w.heap.size + 1) Z).grownAt hgr5).step (bal (Below.refl _ w5) (.cells #[.int .u64 q, .int .i64 x, .pointer (some ⟨c, 0, none⟩)] 88))))
                  have HTP := hid (show TrailP (w5.alloc (.cells #[.int .u64 q, .int .i64 x, .pointer (some ⟨c, 0, none⟩)] 88)) (fun b => b ≠ w.heap.size + 1 ∧ some b ≠ (Value.slice A7 lg.length c7).ownBlock) ((x : Int) :: u) (.pointer (some ⟨w5.heap.size, 0, none⟩)) q from by
                    refine ⟨w5.heap.size, .pointer (some ⟨c, 0, none⟩), T, rfl, ⟨by omega, fun e => by have := (Hown.out _ e.symm).2; omega⟩, ?_, ?_, ?_, HTr.out.kept (fun b hb hs => K6.2 b hs hb) (fun b hb hs => ⟨hb, fun e => by have := (Hown.out _ e.symm).1; omega⟩)⟩
                    · simp [go_sem]
                    · simp [go_sem]
                    · simp [go_sem])
                  have hB5 : Below w.heap.size w w5 := hbz.grown hgr5 (by have := hbz.size; omega) (fun g hg => by
                    have : w.heap.size + 1 = g := by simpa using hg
                    omega)
                  have hwo5 : wo.heap.size ≤ w5.heap.size := K5.1
                  have HK6 := hid K6
                  have HB5 := hid hB5
                  have Hmp5 := hid hmp5
                  clear hgr5 K5 K6 hB5 hmp5
                  go_wp2_with fail
                  refine Hz1.out.mono ?_
                  rintro e w' ⟨rfl, rfl⟩
                  go_wp2_with fail
                  refine Hz2.out.mono ?_
                  rintro e w' ⟨rfl, rfl⟩
                  go_wp2_with (at_builtin; go_must (refine wpList_append_trail rfl _ _ rfl wo.heap.size (w.heap.size + 1) (.slice A7 lg.length c7) (.pointer (some ⟨w5.heap.size, 0, none⟩)) lg (q, (x : Int) :: u) 58 (w5.alloc (.cells #[.int .u64 q, .int .i64 x, .pointer (some ⟨c, 0, none⟩)] 88)) rfl (w5.heap.size + 1) (by simp) rfl HMT.out rfl HTP.out (by simp; omega) (by omega) ?_); intro A8 c8 w8 hM8 hB8 hs8)
                  go_roundw
                  case rel =>
                    have h1 := HZ.out
                    refine ⟨i + 1, q :: seen, lg ++ [(q, (x : Int) :: u)], by omega, by go_num, ⟨?_, h1.si.add hqlt hno, ?_, by simpa using hM8, by simp; omega, ?_, ⟨Nat.le_trans HK6.out.1 hB8.size, fun b hb hne => (hB8.block b hb).trans (HK6.out.2 b hb hne)⟩⟩⟩
                    · rw [Htk.out]
                      have := MidI.add HLev.out hxl Hsp.out h1.mid (by rw [Hq.out]; unfold szS; rw [Hcq.out, HcS.out]; exact hbig)
                      rw [Hq.out] at this
                      exact this
                    · have e : (fun q' : Nat => decide (q' = q) || decide (q' ∈ seen)) = fun T => decide (T ∈ q :: seen) := by funext q'; simp
                      rw [← e]
                      exact Hmp5.out.kept ((hB8.block _ hmo).trans (Below.heap_alloc _ _ _ (by omega)))
                    · exact (bal HB5.out _).trans (hB8.mono (by omega))
                  case measure => simp [intOf]; omega
            · have f1 : ¬ (i : Int) < tr.length := by omega
              have f2 : decide (i < tr.length) = false := decide_eq_false hil
              obtain rfl : i = tr.length := by omega
              go_wp2_with fail
              go_roundw
              case rel =>
                have h1 := HS1.out
                have hm := h1.mid
                rw [List.take_length] at hm
                exact ⟨x + 1, seen, lg, by omega, by go_num, ⟨hm.next, h1.si, h1.map, h1.row, h1.len, h1.below, h1.kk⟩⟩
              case measure => simp [intOf]; omega
        · have e1 : ¬ (x : Int) < letters m := by omega
          have e2 : decide (x < letters m) = false := decide_eq_false hxl
          obtain rfl : x = letters m := by omega
          go_wp2_with fail
          go_roundg (4098 - (L + 1))
          case measure => have := HLk.out; omega
          case rel =>
            have h1 := HS1.out
            exact ⟨L + 1, lg, seen, by omega, h1.row.lvl hmo, MidI.lev HLev.out h1.mid, h1.si, h1.map, fun e => by
              have := h1.len
              have : 0 < lg.length := List.length_pos_iff.2 e
              omega, by have := h1.len; omega, h1.below, h1.kk.cell hbx (by show w.heap.size ≠ w.heap.size + 1; omega)⟩
end Go.Proofs.YtphpablchlpagaaDoor
namespace Go.Proofs.YtphpablchlpagaaDoor
open Go.RowKit Go.Shelf
theorem ints_nilU (w : World) : Ints w (.slice none 0 0) [] := ⟨none, 0, rfl, by simp [big], fun i hi => by simp at hi⟩
theorem nil_word {m : List (List Int)} : isWordM m [] = true := by simp [isWordM]
def ExtP (m : List (List Int)) (S : Nat) (w : World) (p : Value) : Prop :=
  (∃ u T, FirstBig m S u ∧ u.length ≤ 4096 ∧ TrailP w (fun _ => True) u p T) ∨ ((∀ u, WDm m u → ¬ szS S < szS (preWord m S u)) ∧ p = .pointer none)
theorem extended_as (v : Value) (m : List (List Int)) (S : Nat) (w : World) (h : Rows w v m) (hv : validM m = true) (h12 : m.length ≤ 12) (hS : S < 2 ^ m.length) :
    Calls Tryd.prog 40 #[.agg #[v], .int .u64 S] w fun e w' => ∃ p, e = .returned p ∧ ExtP m S w' p ∧ Below w.heap.size w w' := by
  refine (extended_any v m S w h hv h12 hS).mono ?_
  rintro e w' ⟨⟨u, p, T, h1, h2, rfl, h3⟩ | ⟨h1, rfl⟩, hb⟩
  · exact ⟨p, rfl, .inl ⟨u, T, h1, h2, h3⟩, hb⟩
  · exact ⟨_, rfl, .inr ⟨h1, rfl⟩, hb⟩
/-- What Extend returns of an automaton and a set that may be searched. -/
def ExtendIs (m : List (List Int)) (S : Nat) (w : World) (e : Ending) (w' : World) : Prop :=
  ((∃ u r, FirstBig m S u ∧ u.length ≤ 4096 ∧ e = .returned (.tuple #[r, .int .i64 0]) ∧ w'.ownsRow w.heap.size 3 1 r u.length (u.map fun x => .int .i64 x)) ∨
    ((∀ u, WDm m u → ¬ szS S < szS (preWord m S u)) ∧ e = .returned (.tuple #[.slice none 0 0, .int .i64 4]))) ∧ Below w.heap.size w w'
set_option maxRecDepth 100000 in
set_option maxHeartbeats 4000000 in
theorem Extend_ok (v s : Value) (m : List (List Int)) (sl : List Int) (w : World) (hT : Tab w) (h : Rows w v m) (hs : Ints w s sl) (hv : validM m = true) (ha : isSetM m sl = true) (h12 : m.length ≤ 12) :
    Calls Tryd.prog 17 #[.agg #[v], s] w (ExtendIs m (ofList sl) w) := by
  obtain ⟨p1, p2, -⟩ := valid_parts hv
  obtain ⟨A, cap, rfl, hml, -⟩ := id h
  obtain ⟨As, caps, rfl, hls, -⟩ := id hs
  have hSlt := ofList_lt m.length (by omega) sl (isSetM_mem ha)
  have h64 : ∀ x ∈ sl, 0 ≤ x ∧ x < 64 := fun x hx => by have := isSetM_mem ha x hx; omega
  obtain ⟨S, hS⟩ : ∃ S, ofList sl = S := ⟨_, rfl⟩
  rw [hS] at hSlt ⊢
  have HS := hid hS
  clear hS
  have hB := bal (Below.refl _ w) (.cells #[.slice A m.length cap] 24)
  have hbx : (w.alloc (.cells #[.slice A m.length cap] 24)).cell? ⟨w.heap.size, 0, none⟩ = some (.slice A m.length cap) := by simp [go_sem]
  have d1 : ¬ (12 : Int) < m.length := by omega
  have d2 : decide ((12 : Int) < m.length) = false := decide_eq_false d1
  have d3 : decide (12 < m.length) = false := decide_eq_false (by omega)
  go_enter Tryd.func17, Tryd.ntmps17
  go_wp2_with fail
  refine (Preimage_ok _ _ _ m sl [] _ (hT.on hB) (h.below hB) (hs.below hB) (ints_nilU _) hv ha nil_word).mono ?_
  rintro e w1 ⟨r, rfl, hr, h1⟩
  have hb1 := (h1.cell (p := ⟨w.heap.size, 0, none⟩) (World.block_lt_of_cell? _ _ hbx)).trans hbx
  have hB1 := btr hB h1
  have hr1 := h.below hB1
  have hs1 := hs.below hB1
  have HOf := hid (fun (W : World) (hW : Below w.heap.size w W) => (show Calls Tryd.prog 41 #[.slice As sl.length caps] W fun e w' => e = .returned (.int .u64 (S : Nat)) ∧ W = w' from by
    rw [← HS.out]; exact Of_any _ sl W (hs.below hW) h64))
  have hlt1 := World.block_lt_of_cell? _ _ hb1
  clear hr h hs hbx hB h1 hs1
  go_upto_region 6 with fail
  go_cut [8] from 22 to 25 (fun p wc => ExtP m S wc p ∧ Below w1.heap.size w1 wc)
  case first =>
    go_region_held (fun w' => Below w1.heap.size w1 w' ∧ w'.cell? ⟨w.heap.size, 0, none⟩ = some (.slice A m.length cap)) (exact held_one hb1 (by first | exact below_dr w1 1 | assumption)) (first
      | (go_at_call 41; go_must (refine (HOf.out _ (btr hB1 (by first | exact below_dr w1 1 | exact Below.refl _ _))).mono ?_; rintro e y1 ⟨rfl, hy1⟩; have k1 : Below w1.heap.size w1 y1 := (by rw [← hy1]; first | exact below_dr w1 1 | exact Below.refl _ _); clear hy1))
      | (go_at_call 40; go_must (refine (extended_as _ m S _ (hr1.below (by first | exact k1 | exact bdr k1 1)) hv h12 hSlt).mono ?_; rintro e y2 ⟨p8, rfl, hE, hy2⟩; have HE := hid hE; have k2 : Below w1.heap.size w1 y2 := btr (by first | exact k1 | exact bdr k1 1) hy2; clear hE)))
    all_goals (go_wp2_with fail; go_meet; exact ⟨HE.out, k2⟩)
  case rest =>
    obtain ⟨hE, C0⟩ := hcut
    rcases hE with ⟨u, T, hF, hl, hTP⟩ | ⟨hno, rfl⟩
    · obtain ⟨b, rfl, -, -, -⟩ := id hTP.ptr
      have HTP := hid hTP
      have HF := hid hF
      clear hTP hF
      go_wp2_with fail
      refine (word_any _ T u _ HTP.out (by omega)).mono ?_
      rintro e y3 ⟨r3, rfl, ho, hy3⟩
      go_wp2_with fail
      go_ret2
      exact ⟨.inl ⟨u, r3, HF.out, hl, rfl, row_mono ho (by have := hB1.size; have := C0.size; omega)⟩, btr (btr hB1 C0) hy3⟩
    · have Hno := hid hno
      clear hno
      go_wp2_with fail
      go_ret2
      exact ⟨.inr ⟨Hno.out, rfl⟩, btr hB1 C0⟩
end Go.Proofs.YtphpablchlpagaaDoor
namespace Go.Proofs.YtphpablchlpagaaDoor
open Go.RowKit Go.Shelf
/-- The same roads: each state is led to from each state by some letter in both or in neither. -/
def Alike (m k : List (List Int)) : Prop := k.length = m.length ∧ letters k = letters m ∧ ∀ s, s < m.length → ∀ t, (∃ x, x < letters m ∧ nx m s (x : Int) = t) ↔ ∃ x, x < letters m ∧ nx k s (x : Int) = t
theorem Alike.symm {m k : List (List Int)} (h : Alike m k) : Alike k m := by
  obtain ⟨h1, h2, h3⟩ := h
  refine ⟨h1.symm, h2.symm, fun s hs t => ?_⟩
  rw [h2]
  exact (h3 s (by omega) t).symm
section
variable {m k : List (List Int)}
end
/-- How many times a number occurs. -/
def timesL (l : List Int) (n : Int) : Nat := (l.filter fun x => x == n).length
theorem timesL_perm {l k : List Int} (h : l.Perm k) (n : Int) : timesL l n = timesL k n := (h.filter _).length_eq
/-- Equal numbers of roads: the same roads. -/
def sameM (m k : List (List Int)) : Bool := decide (m.length = k.length) && decide (letters m = letters k) && (List.range m.length).all fun s => (List.range m.length).all fun t : Nat => timesL (m.getD s []) t == timesL (k.getD s []) t
end Go.Proofs.YtphpablchlpagaaDoor
namespace Go.Proofs.YtphpablchlpagaaDoor
open Go.RowKit Go.Shelf
/-- The numbers of the rows below s, and the first y of row s. -/
def flatTo (m : List (List Int)) (s y : Nat) : List Int := (m.take s).flatten ++ (m.getD s []).take y
theorem flatTo_next {m : List (List Int)} {s y : Nat} (hy : y < (m.getD s []).length) : flatTo m s (y + 1) = flatTo m s y ++ [(m.getD s []).getD y 0] := by
  unfold flatTo
  generalize m.getD s [] = r at *
  rw [List.take_succ_eq_append_getElem hy, ← List.append_assoc]
  simp [List.getD_eq_getElem?_getD, hy]
theorem flatTo_row {m : List (List Int)} {s k : Nat} (hs : s < m.length) (hk : (m.getD s []).length = k) : flatTo m (s + 1) 0 = flatTo m s k := by
  unfold flatTo
  rw [List.take_zero, List.append_nil, List.take_succ_eq_append_getElem hs, List.flatten_append, ← hk, List.take_length]
  simp [List.getD_eq_getElem?_getD, hs]
theorem flatTo_end (m : List (List Int)) : flatTo m m.length 0 = m.flatten := by unfold flatTo; simp
theorem timesL_snocU (l : List Int) (x n : Int) : timesL (l ++ [x]) n = timesL l n + if x = n then 1 else 0 := by
  unfold timesL
  rw [List.filter_append, List.length_append]
  by_cases e : x = n
  · simp [e]
  · simp [e]
theorem flat_six {k : Nat} : ∀ (m : List (List Int)), (∀ r ∈ m, r.length ≤ k) → m.flatten.length ≤ k * m.length
  | [], _ => by simp
  | r :: m, h => by
    have h1 := h r (by simp)
    have h2 := flat_six m (fun r hr => h r (by simp [hr]))
    rw [List.flatten_cons, List.length_append, List.length_cons, Nat.mul_succ]; omega
theorem row_six {m : List (List Int)} (hv : validM m = true) {r : List Int} (hr : r ∈ m) : r.length ≤ 6 := by
  obtain ⟨i, hi, rfl⟩ := List.mem_iff_getElem.1 hr
  obtain ⟨-, -, -, p4, p5⟩ := valid_parts hv
  have := (p5 i hi).1
  simp only [List.getD_eq_getElem?_getD, List.getElem?_eq_getElem hi, Option.getD_some] at this
  omega
theorem flatTo_len {m : List (List Int)} (hv : validM m = true) {s y : Nat} (hs : s < m.length) : (flatTo m s y).length ≤ 400 := by
  obtain ⟨p1, p2, p3, p4, p5⟩ := valid_parts hv
  have h1 := flat_six (k := 6) (m.take s) (fun r hr => row_six hv (List.mem_of_mem_take hr))
  have h2 := (p5 s hs).1
  unfold flatTo
  rw [List.length_append, List.length_take]
  rw [List.length_take] at h1
  have : min s m.length ≤ 60 := by omega
  have := Nat.mul_le_mul_left 6 this
  omega
theorem timesL_len (l : List Int) (n : Int) : timesL l n ≤ l.length := List.length_filter_le _ _
/-- Counts of the numbers below n. -/
def Lc (n : Nat) (c : Nat → Nat) : List Value := (List.range n).map fun t => .int .i64 (c t : Nat)
theorem Lc_cell {n i : Nat} (c : Nat → Nat) (h : i < n) : (Lc n c)[i]? = some (.int .i64 (c i : Nat)) := by simp [Lc, h]
theorem Lc_set {n i : Nat} (c : Nat → Nat) (v : Nat) : (Lc n c).set i (.int .i64 (v : Nat)) = Lc n (fun t => if t = i then v else c t) := by
  apply List.ext_getElem
  · simp [Lc]
  · intro j h1 h2
    simp only [Lc, List.length_set, List.length_map, List.length_range] at h1
    rw [List.getElem_set]
    by_cases e : i = j
    · subst e; simp [Lc]
    · simp [Lc, e, show ¬ j = i from fun h => e h.symm]
theorem Lc_congr {n : Nat} {c d : Nat → Nat} (h : ∀ t, t < n → c t = d t) : Lc n c = Lc n d := by
  unfold Lc
  exact List.map_congr_left fun t ht => by rw [h t (by simpa using ht)]
def eulB (m : List (List Int)) : Bool := (List.range m.length).all fun t : Nat => timesL m.flatten (t : Int) == letters m
theorem eulB_false {m : List (List Int)} {t : Nat} (ht : t < m.length) (h : timesL m.flatten (t : Int) ≠ letters m) : eulB m = false := by
  unfold eulB
  rw [List.all_eq_false]
  exact ⟨t, List.mem_range.2 ht, by simpa using h⟩
theorem eulB_true {m : List (List Int)} (h : ∀ t, t < m.length → timesL m.flatten (t : Int) = letters m) : eulB m = true := by
  unfold eulB
  rw [List.all_eq_true]
  exact fun t ht => by rw [h t (List.mem_range.1 ht)]; simp
theorem eulB_iff {m : List (List Int)} : eulB m = true ↔ ∀ t, t < m.length → timesL m.flatten (t : Int) = letters m := by
  refine ⟨fun h t ht => ?_, eulB_true⟩
  apply Classical.byContradiction
  intro hn
  rw [eulB_false ht hn] at h
  cases h
set_option maxRecDepth 100000 in
set_option maxHeartbeats 4000000 in
theorem eulerian_any (v : Value) (m : List (List Int)) (w : World) (h : Rows w v m) (hv : validM m = true) :
    Calls Tryd.prog 32 #[.agg #[v]] w fun e w' => e = .returned (.bool (eulB m)) ∧ Below w.heap.size w w' := by
  obtain ⟨j0, hj, hy0, hy1, hy2⟩ := info_parts infoInt
  obtain ⟨p1, p2, p3, p4, p5⟩ := valid_parts hv
  have hr := h
  obtain ⟨A, cap, rfl, hml, hc⟩ := h
  obtain ⟨b0, off0, r0, hA, hc0, A0, cap0, hr0, -, -⟩ := hc 0 (by omega)
  subst hA
  subst hr0
  have hc0 : w.cell? ⟨b0, off0, none⟩ = some (.slice A0 (letters m) cap0) := hc0
  unfold big at hml
  have hX := bal (Below.refl _ w) (.cells #[.slice (some ⟨b0, off0, none⟩) m.length cap] 24)
  have Hc := hid hc
  clear hc
  go_enter Tryd.func32, Tryd.ntmps32
  go_wp2_with (at_make; go_must (refine wpList_make_full _ rfl _ _ 34 rfl (w.heap.size + 1) 3 j0 (.int .i64 0) 1 Tryd.underlying34 hj hy0 hy1 .i64 .i64 _ _ m.length rfl rfl rfl rfl (by rw [hy2]; omega) (by unfold maxLen; omega) (by simp) ?_); intro w1 hown hgrow; rw [show Value.cells (.int .i64 0) = #[.int .i64 0] from rfl, toList_madeCells_one, Nat.mul_one] at hown; simp only [World.size_alloc] at hown; have bx : w1.cell? ⟨w.heap.size, 0, none⟩ = some (.slice (some ⟨b0, off0, none⟩) m.length cap) := (World.cell?_of_block (hgrow.block w.heap.size (by simp) (by simp))).trans (by simp [go_sem]))
  have hB1 := hX.grown hgrow (by simp) (fun q hq => by cases hq)
  have hown0 : w1.ownsRow (w.heap.size + 1) 3 1 (.slice (some ⟨w.heap.size + 1, 0, none⟩) m.length m.length) m.length (Lc m.length fun t => timesL (flatTo m 0 0) t) := by
    have e : (Lc m.length fun t => timesL (flatTo m 0 0) t) = List.replicate m.length (.int .i64 0) := by
      apply List.ext_getElem
      · simp [Lc]
      · intro i h1 h2; simp [Lc, flatTo, timesL]
    rw [e]; simpa using hown
  have Hr := hid hr
  clear hown hgrow hX hr
  go_loopw [17] (fun sv wr => ∃ (s : Nat), s ≤ m.length ∧ sv = .int .i64 s ∧ wr.ownsRow (w.heap.size + 1) 3 1 (.slice (some ⟨w.heap.size + 1, 0, none⟩) m.length m.length) m.length (Lc m.length fun t => timesL (flatTo m s 0) t) ∧ Below w.heap.size w wr ∧ wr.cell? ⟨w.heap.size, 0, none⟩ = some (.slice (some ⟨b0, off0, none⟩) m.length cap)) (fun sv _ => m.length - (intOf sv).toNat)
  case atStart => exact ⟨0, Nat.zero_le _, rfl, hown0, hB1, bx⟩
  case round =>
    clear hown0 hB1 bx
    obtain ⟨s, hs, rfl, hO, hB, hbx⟩ := hrel
    have HO := hid hO
    clear hO
    by_cases hlt : s < m.length
    · have hss : (s : Int) < m.length := by omega
      have hsd : decide (s < m.length) = true := decide_eq_true hlt
      obtain ⟨b, off, r, hA, hcell, hI⟩ := Hc.out s hlt
      simp only [Option.some.injEq, Addr.mk.injEq, and_true] at hA
      obtain ⟨rfl, rfl⟩ := hA
      obtain ⟨As, caps, rfl, hls, hcs⟩ := hI
      obtain ⟨hrl, hrv⟩ := p5 s hlt
      have hcell' := (hB.cell (p := ⟨b0, off0 + s, none⟩) (World.block_lt_of_cell? _ _ hcell)).trans hcell
      have Hnx := hid (fun y (hy : y < letters m) => nx_ok hv hlt (x := (y : Int)) (by omega) (by omega))
      have hfn := fun y => flatTo_next (m := m) (s := s) (y := y)
      have hfr := flatTo_row hlt hrl
      have hfl := fun y => flatTo_len hv (s := s) (y := y) hlt
      rw [hrl] at hls
      obtain ⟨row, hrow⟩ : ∃ r, m.getD s [] = r := ⟨_, rfl⟩
      rw [hrow] at hcell' hcs hrl hfn
      have Hrl := hid hrl
      have Hrow := hid hrow
      rw [hrl] at hcell' hcs
      have Hcs := hid hcs
      have Hfn := hid hfn
      have Hfr := hid hfr
      have Hfl := hid hfl
      clear hcell hcs hrl hrow hrv hfn hfr hfl
      obtain ⟨wo, rfl⟩ : ∃ wo : World, wo = wr := ⟨_, rfl⟩
      go_wp2_with fail
      go_loopw [23] (fun yv wr => ∃ (y : Nat), y ≤ letters m ∧ yv = .int .i64 y ∧ wr.ownsRow (w.heap.size + 1) 3 1 (.slice (some ⟨w.heap.size + 1, 0, none⟩) m.length m.length) m.length (Lc m.length fun t => timesL (flatTo m s y) t) ∧ Below w.heap.size w wr ∧ wr.cell? ⟨w.heap.size, 0, none⟩ = some (.slice (some ⟨b0, off0, none⟩) m.length cap)) (fun yv _ => letters m - (intOf yv).toNat)
      case atStart => exact ⟨0, Nat.zero_le _, rfl, HO.out, hB, hbx⟩
      case round =>
        clear HO hB hbx hcell'
        obtain ⟨y, hy, rfl, hO, hB, hbx⟩ := hrel
        by_cases hyl : y < letters m
        · have hyy : (y : Int) < letters m := by omega
          have hyd : decide (y < letters m) = true := decide_eq_true hyl
          obtain ⟨bs, offs, hAs, hce⟩ := Hcs.out y hyl
          subst hAs
          obtain ⟨q, hq⟩ : ∃ q, nx m s (y : Int) = q := ⟨_, rfl⟩
          obtain ⟨n1, n2⟩ := Hnx.out y hyl
          rw [hq] at n1 n2
          rw [Int.toNat_natCast, Hrow.out] at n2
          rw [n2] at hce
          have hce' := (hB.cell (p := ⟨bs, offs + y, none⟩) (World.block_lt_of_cell? _ _ hce)).trans hce
          have hqq : (q : Int) < m.length := by omega
          have hcA := hO.cellAt q (by omega)
          rw [Lc_cell _ n1] at hcA
          have hfA := hO.frozenAt q
          obtain ⟨c, hcc⟩ : ∃ c, timesL (flatTo m s y) (q : Int) = c := ⟨_, rfl⟩
          have hc400 : c ≤ 400 := by rw [← hcc]; exact Nat.le_trans (timesL_len _ _) (Hfl.out y)
          rw [hcc] at hcA
          have hSt := (hO.stored q (.int .i64 ((c + 1 : Nat) : Int))).1
          have hfun : (Lc m.length fun t => if t = q then c + 1 else timesL (flatTo m s y) t) = Lc m.length fun t => timesL (flatTo m s (y + 1)) t := Lc_congr fun t _ => by
            rw [Hfn.out y (by rw [Hrl.out]; exact hyl), timesL_snocU, n2]
            by_cases e : t = q
            · subst e; rw [if_pos rfl, if_pos rfl, hcc]
            · rw [if_neg e, if_neg (by omega)]; rfl
          rw [Lc_set, hfun] at hSt
          have HSt := hid hSt
          have hBs := hid (hB.setCell (p := ⟨w.heap.size + 1, q, none⟩) (by show w.heap.size ≤ w.heap.size + 1; omega) (.int .i64 ((c + 1 : Nat) : Int)))
          have hbxs : (wr.setCell ⟨w.heap.size + 1, q, none⟩ (.int .i64 ((c + 1 : Nat) : Int))).cell? ⟨w.heap.size, 0, none⟩ = some (.slice (some ⟨b0, off0, none⟩) m.length cap) := (World.cell?_of_block (Below.heap_setCell _ _ _ _ (by simp))).trans hbx
          rw [show ((c + 1 : Nat) : Int) = (c : Int) + 1 from rfl] at HSt hBs hbxs
          clear hSt hfun hO hce hcc n2 hq
          go_wp2_with fail
          go_roundw
          case rel => exact ⟨y + 1, by omega, by go_num, HSt.out, hBs.out, hbxs⟩
          case measure => simp [intOf]; omega
        · have hyy : ¬ (y : Int) < letters m := by omega
          have hyd : decide (y < letters m) = false := decide_eq_false hyl
          obtain rfl : y = letters m := by omega
          have HO := hid hO
          clear hO
          go_wp2_with fail
          go_roundw
          case rel => exact ⟨s + 1, by omega, by go_num, by rw [Hfr.out]; exact HO.out, hB, hbx⟩
          case measure => simp [intOf]; omega
    · have hss : ¬ (s : Int) < m.length := by omega
      have hsd : decide (s < m.length) = false := decide_eq_false hlt
      obtain rfl : s = m.length := by omega
      have hO := HO.out
      rw [flatTo_end] at hO
      have HO := hid hO
      clear hO
      go_wp2_with fail
      go_loopw [37] (fun tv wr => ∃ (t : Nat), t ≤ m.length ∧ tv = .int .i64 t ∧ (∀ t', t' < t → timesL m.flatten (t' : Int) = letters m) ∧ wr.ownsRow (w.heap.size + 1) 3 1 (.slice (some ⟨w.heap.size + 1, 0, none⟩) m.length m.length) m.length (Lc m.length fun t => timesL m.flatten t) ∧ Below w.heap.size w wr ∧ wr.cell? ⟨w.heap.size, 0, none⟩ = some (.slice (some ⟨b0, off0, none⟩) m.length cap)) (fun tv _ => m.length - (intOf tv).toNat)
      case atStart => exact ⟨0, Nat.zero_le _, rfl, fun t' h => by omega, HO.out, hB, hbx⟩
      case round =>
        clear HO hB hbx
        obtain ⟨t, ht, rfl, hpre, hO, hB, hbx⟩ := hrel
        have Hpre := hid hpre
        clear hpre
        by_cases hlt2 : t < m.length
        · have htt : (t : Int) < m.length := by omega
          have htd : decide (t < m.length) = true := decide_eq_true hlt2
          have hcA := hO.cellAt t (by omega)
          rw [Lc_cell _ hlt2] at hcA
          have hc0' := (hB.cell (p := ⟨b0, off0, none⟩) (World.block_lt_of_cell? _ _ hc0)).trans hc0
          obtain ⟨c, hcc⟩ : ∃ c, timesL m.flatten (t : Int) = c := ⟨_, rfl⟩
          rw [hcc] at hcA
          have HO := hid hO
          have Hcc := hid hcc
          clear hO hcc
          by_cases hcl : c = letters m
          · subst hcl
            go_wp2_with fail
            go_roundw
            case rel => exact ⟨t + 1, by omega, by go_num, fun t' h' => by
              by_cases e : t' = t
              · subst e; exact Hcc.out
              · exact Hpre.out t' (by omega), HO.out, hB, hbx⟩
            case measure => simp [intOf]; omega
          · have hne : ¬ ((c : Int) = letters m) := by omega
            have hnd : decide ((c : Int) = letters m) = false := decide_eq_false hne
            have hnb : ((c : Int) == letters m) = false := by simpa using hne
            go_wp2_with fail
            go_ret
            rw [eulB_false hlt2 (by rw [Hcc.out]; exact hcl)]
            exact ⟨rfl, hB⟩
        · have htt : ¬ (t : Int) < m.length := by omega
          have htd : decide (t < m.length) = false := decide_eq_false hlt2
          obtain rfl : t = m.length := by omega
          clear hO
          go_wp2_with fail
          go_ret
          rw [eulB_true Hpre.out]
          exact ⟨rfl, hB⟩
end Go.Proofs.YtphpablchlpagaaDoor
namespace Go.Proofs.YtphpablchlpagaaDoor
def sumI (f : Nat → Int) : Nat → Int
  | 0 => 0
  | t + 1 => sumI f t + f t
theorem sumI_congr {f g : Nat → Int} : ∀ {n : Nat}, (∀ t, t < n → f t = g t) → sumI f n = sumI g n
  | 0, _ => rfl
  | n + 1, h => by show sumI f n + f n = sumI g n + g n; rw [sumI_congr fun t ht => h t (by omega), h n (by omega)]
theorem sumI_add (f g : Nat → Int) : ∀ n, sumI (fun t => f t + g t) n = sumI f n + sumI g n
  | 0 => rfl
  | n + 1 => by show sumI (fun t => f t + g t) n + (f n + g n) = sumI f n + f n + (sumI g n + g n); rw [sumI_add f g n]; omega
theorem sumI_mul (c : Int) (f : Nat → Int) : ∀ n, sumI (fun t => c * f t) n = c * sumI f n
  | 0 => by simp [sumI]
  | n + 1 => by show sumI (fun t => c * f t) n + c * f n = c * (sumI f n + f n); rw [sumI_mul c f n, Int.mul_add]
theorem sumI_const (c : Int) : ∀ n : Nat, sumI (fun _ => c) n = n * c
  | 0 => by simp [sumI]
  | n + 1 => by show sumI (fun _ => c) n + c = ((n + 1 : Nat) : Int) * c; rw [sumI_const c n]; grind
/-- A sum of multiples of vectors. -/
def comb : List (Int × (Nat → Int)) → Nat → Int
  | [], _ => 0
  | (a, u) :: l, t => a * u t + comb l t
theorem comb_append : ∀ (l k : List (Int × (Nat → Int))) (t : Nat), comb (l ++ k) t = comb l t + comb k t
  | [], k, t => by simp [comb]
  | (a, u) :: l, k, t => by show a * u t + comb (l ++ k) t = a * u t + comb l t + comb k t; rw [comb_append l k t, Int.add_assoc]
theorem comb_scale (c : Int) : ∀ (l : List (Int × (Nat → Int))) (t : Nat), comb (l.map fun p => (c * p.1, p.2)) t = c * comb l t
  | [], t => by simp [comb]
  | (a, u) :: l, t => by show c * a * u t + comb _ t = c * (a * u t + comb l t); rw [comb_scale c l t]; grind
/-- v is a combination of vectors of P, on the first n places, up to a factor. -/
def SpanI (n : Nat) (P : (Nat → Int) → Prop) (v : Nat → Int) : Prop := ∃ (c : Int) (l : List (Int × (Nat → Int))), c ≠ 0 ∧ (∀ p ∈ l, P p.2) ∧ ∀ t, t < n → c * v t = comb l t
theorem SpanI.of {n : Nat} {P : (Nat → Int) → Prop} {v : Nat → Int} (h : P v) : SpanI n P v := ⟨1, [(1, v)], by decide, fun p hp => by
  obtain rfl : p = (1, v) := by simpa using hp
  exact h, fun t _ => by simp [comb]⟩
theorem SpanI.mono {n : Nat} {P Q : (Nat → Int) → Prop} {v : Nat → Int} (h : SpanI n P v) (hPQ : ∀ u, P u → Q u) : SpanI n Q v := by
  obtain ⟨c, l, h1, h2, h3⟩ := h
  exact ⟨c, l, h1, fun p hp => hPQ _ (h2 p hp), h3⟩
/-- Combinations of combinations. -/
theorem SpanI.comb {n : Nat} {P : (Nat → Int) → Prop} : ∀ (l : List (Int × (Nat → Int))), (∀ p ∈ l, SpanI n P p.2) → SpanI n P (comb l)
  | [], _ => ⟨1, [], by decide, fun p hp => by simp at hp, fun t _ => by simp [Go.Proofs.YtphpablchlpagaaDoor.comb]⟩
  | (a, u) :: l, h => by
    obtain ⟨c, k, h1, h2, h3⟩ := h (a, u) (by simp)
    obtain ⟨d, j, g1, g2, g3⟩ := SpanI.comb l (fun p hp => h p (by simp [hp]))
    refine ⟨c * d, k.map (fun p => (a * d * p.1, p.2)) ++ j.map (fun p => (c * p.1, p.2)), Int.mul_ne_zero h1 g1, fun p hp => ?_, fun t ht => ?_⟩
    · rcases List.mem_append.1 hp with hp | hp
      · obtain ⟨q, hq, rfl⟩ := List.mem_map.1 hp
        exact h2 q hq
      · obtain ⟨q, hq, rfl⟩ := List.mem_map.1 hp
        exact g2 q hq
    · rw [comb_append, comb_scale, comb_scale, ← h3 t ht, ← g3 t ht]
      show c * d * (a * u t + Go.Proofs.YtphpablchlpagaaDoor.comb l t) = _
      simp only
      grind
theorem SpanI.trans {n : Nat} {P Q : (Nat → Int) → Prop} {v : Nat → Int} (h : SpanI n P v) (hPQ : ∀ u, P u → SpanI n Q u) : SpanI n Q v := by
  obtain ⟨c, l, h1, h2, h3⟩ := h
  obtain ⟨d, k, g1, g2, g3⟩ := SpanI.comb l (fun p hp => hPQ _ (h2 p hp))
  exact ⟨d * c, k, Int.mul_ne_zero g1 h1, g2, fun t ht => by rw [← g3 t ht, ← h3 t ht, Int.mul_assoc]⟩
/-- More vectors than places are dependent. -/
theorem dependent : ∀ (n : Nat) (L : List (Nat → Int)), n < L.length → ∃ A : List Int, A.length = L.length ∧ (∃ a ∈ A, a ≠ 0) ∧ ∀ t, t < n → comb (A.zip L) t = 0
  | 0, L, h => ⟨List.replicate L.length 1, by simp, ⟨1, List.mem_replicate.2 ⟨by omega, rfl⟩, by decide⟩, fun t ht => by omega⟩
  | n + 1, L, h => by
    by_cases hz : ∀ u ∈ L, u n = 0
    · obtain ⟨A, h1, h2, h3⟩ := dependent n L (by omega)
      refine ⟨A, h1, h2, fun t ht => ?_⟩
      by_cases e : t = n
      · subst e
        have key : ∀ (A : List Int) (L : List (Nat → Int)), (∀ u ∈ L, u t = 0) → comb (A.zip L) t = 0 := by
          intro A
          induction A with
          | nil => intro L _; rfl
          | cons a A ih =>
            intro L hL
            cases L with
            | nil => rfl
            | cons u L =>
              show a * u t + comb (A.zip L) t = 0
              rw [hL u (by simp), ih L (fun v hv => hL v (by simp [hv]))]
              simp
        exact key A L hz
      · exact h3 t (by omega)
    · obtain ⟨p, hp, hpn⟩ : ∃ p, p ∈ L ∧ p n ≠ 0 := by
        apply Classical.byContradiction
        intro h2
        exact hz fun u hu => Classical.byContradiction fun h3 => h2 ⟨u, hu, h3⟩
      obtain ⟨B, C, rfl⟩ := List.append_of_mem hp
      obtain ⟨A, h1, ⟨a, ha, ha0⟩, h3⟩ := dependent n ((B ++ C).map fun u t => p n * u t - u n * p t) (by simp at h ⊢; omega)
      rw [List.length_map, List.length_append] at h1
      -- the coefficients: those of B, that of p, those of C
      have hcomb : ∀ (A : List Int) (K : List (Nat → Int)), A.length = K.length → ∃ e : Int, ∀ t, comb (A.zip (K.map fun u t => p n * u t - u n * p t)) t = p n * comb (A.zip K) t - e * p t ∧ comb (A.zip K) n = e := by
        intro A
        induction A with
        | nil => intro K _; exact ⟨0, fun t => by simp [comb]⟩
        | cons a A ih =>
          intro K hK
          cases K with
          | nil => simp at hK
          | cons u K =>
            obtain ⟨e, he⟩ := ih K (by simpa using hK)
            refine ⟨a * u n + e, fun t => ⟨?_, ?_⟩⟩
            · show a * (p n * u t - u n * p t) + comb (A.zip (K.map _)) t = p n * (a * u t + comb (A.zip K) t) - (a * u n + e) * p t
              rw [(he t).1]; grind
            · show a * u n + comb (A.zip K) n = a * u n + e
              rw [(he t).2]
      obtain ⟨e, he⟩ := hcomb A (B ++ C) (by rw [List.length_append]; exact h1)
      have hAs : A = A.take B.length ++ A.drop B.length := (List.take_append_drop _ _).symm
      have hz1 : A.zip (B ++ C) = (A.take B.length).zip B ++ (A.drop B.length).zip C := by
        conv => lhs; rw [hAs]
        exact List.zip_append (by rw [List.length_take]; omega)
      refine ⟨(A.take B.length).map (fun x => p n * x) ++ (-e) :: (A.drop B.length).map (fun x => p n * x), by simp; omega, ⟨p n * a, ?_, Int.mul_ne_zero hpn ha0⟩, fun t ht => ?_⟩
      · rw [hAs] at ha
        rcases List.mem_append.1 ha with ha | ha
        · exact List.mem_append_left _ (List.mem_map.2 ⟨a, ha, rfl⟩)
        · exact List.mem_append_right _ (List.mem_cons_of_mem _ (List.mem_map.2 ⟨a, ha, rfl⟩))
      · have hzz : ((A.take B.length).map (fun x => p n * x) ++ (-e) :: (A.drop B.length).map (fun x => p n * x)).zip (B ++ p :: C) = ((A.take B.length).zip B).map (fun q => (p n * q.1, q.2)) ++ (-e, p) :: ((A.drop B.length).zip C).map (fun q => (p n * q.1, q.2)) := by
          rw [List.zip_append (by simp; omega), List.zip_cons_cons, List.zip_map_left, List.zip_map_left]
          rfl
        rw [hzz, comb_append]
        show comb _ t + (-e * p t + comb _ t) = 0
        rw [comb_scale, comb_scale]
        have h4 := (he t).1
        rw [hz1, comb_append] at h4
        by_cases e2 : t = n
        · subst e2
          have h5 := (he t).2
          rw [hz1, comb_append] at h5
          grind
        · rw [h3 t (by omega)] at h4
          grind
/-- A row of vectors, each of which is no combination of those before it, has no more of them than places. -/
theorem indep_len {n : Nat} {L : List (Nat → Int)} (h : ∀ i, i < L.length → ¬ SpanI n (fun u => u ∈ L.take i) (L.getD i fun _ => 0)) : L.length ≤ n := by
  apply Classical.byContradiction
  intro hlt
  obtain ⟨A, h1, ⟨a, ha, ha0⟩, h3⟩ := dependent n L (by omega)
  -- the last coefficient that is not 0
  have key : ∀ (d : Nat) (A : List Int) (L : List (Nat → Int)), L.length = d → A.length = L.length → (∃ a ∈ A, a ≠ 0) → (∀ t, t < n → comb (A.zip L) t = 0) → ∃ i, i < L.length ∧ SpanI n (fun u => u ∈ L.take i) (L.getD i fun _ => 0) := by
    intro d
    induction d with
    | zero =>
      intro A L hd hA ⟨a, ha, _⟩ _
      rw [List.eq_nil_of_length_eq_zero (by omega : A.length = 0)] at ha
      simp at ha
    | succ d ih =>
      intro A L hd hA ⟨a, ha, ha0⟩ hc
      have hAne : A ≠ [] := fun e => by rw [e] at hA; simp at hA; omega
      have hLne : L ≠ [] := fun e => by rw [e] at hd; simp at hd
      obtain ⟨A', b, rfl⟩ : ∃ A' b, A = A' ++ [b] := ⟨_, _, (List.dropLast_concat_getLast hAne).symm⟩
      obtain ⟨L', u, rfl⟩ : ∃ L' u, L = L' ++ [u] := ⟨_, _, (List.dropLast_concat_getLast hLne).symm⟩
      simp only [List.length_append, List.length_cons, List.length_nil] at hd hA
      have hzip : (A' ++ [b]).zip (L' ++ [u]) = A'.zip L' ++ [(b, u)] := by rw [List.zip_append (by omega)]; rfl
      rw [hzip] at hc
      have hcv : ∀ t, t < n → comb (A'.zip L') t + b * u t = 0 := fun t ht => by
        have := hc t ht
        rw [comb_append] at this
        simpa [comb] using this
      by_cases hb : b = 0
      · have ha' : ∃ a ∈ A', a ≠ 0 := by
          rcases List.mem_append.1 ha with ha | ha
          · exact ⟨a, ha, ha0⟩
          · obtain rfl : a = b := by simpa using ha
            exact absurd hb ha0
        obtain ⟨i, hi, hs⟩ := ih A' L' (by omega) (by omega) ha' (fun t ht => by have := hcv t ht; rw [hb] at this; simpa using this)
        refine ⟨i, by simp; omega, ?_⟩
        rw [List.take_append_of_le_length (by omega)]
        have e : (L' ++ [u]).getD i (fun _ => 0) = L'.getD i (fun _ => 0) := by simp [List.getD_eq_getElem?_getD, List.getElem?_append_left hi]
        rw [e]; exact hs
      · refine ⟨L'.length, by simp, ?_⟩
        have e : (L' ++ [u]).getD L'.length (fun _ => 0) = u := by simp [List.getD_eq_getElem?_getD]
        rw [e, List.take_left]
        refine ⟨-b, A'.zip L', by omega, fun p hp => (List.of_mem_zip hp).2, fun t ht => ?_⟩
        have := hcv t ht
        have e3 : -b * u t = - (b * u t) := Int.neg_mul _ _
        omega
  obtain ⟨i, hi, hs⟩ := key L.length A L rfl h1 ⟨a, ha, ha0⟩ h3
  exact h i hi hs
/-- The vector of a word: how the weights lie before it, less their mean. -/
def vecW (E : Nat → Nat → Nat) (n : Nat) (f : Nat → Int) (w : List Nat) (q : Nat) : Int := n * f (runE E q w) - sumI f n
theorem vecW_cons (E : Nat → Nat → Nat) (n : Nat) (f : Nat → Int) (x : Nat) (w : List Nat) (q : Nat) : vecW E n f (x :: w) q = vecW E n f w (E q x) := rfl
theorem vecW_sum (E : Nat → Nat → Nat) (n : Nat) (f : Nat → Int) (w : List Nat) : sumI (vecW E n f w) n = n * (sumI (fun q => f (runE E q w)) n - sumI f n) := by
  have e : sumI (vecW E n f w) n = sumI (fun q => n * f (runE E q w) + -(sumI f n)) n := sumI_congr fun t _ => by unfold vecW; omega
  rw [e, sumI_add, sumI_mul, sumI_const]
  grind
/-- Sums that vanish: the last place follows from the others. -/
theorem span_drop {n : Nat} {P : (Nat → Int) → Prop} {v : Nat → Int} (hP : ∀ u, P u → sumI u (n + 1) = 0) (hv : sumI v (n + 1) = 0) (h : SpanI n P v) : SpanI (n + 1) P v := by
  obtain ⟨c, l, h1, h2, h3⟩ := h
  refine ⟨c, l, h1, h2, fun t ht => ?_⟩
  by_cases e : t < n
  · exact h3 t e
  obtain rfl : t = n := by omega
  have hs : sumI (comb l) (t + 1) = 0 := by
    have key : ∀ l : List (Int × (Nat → Int)), (∀ p ∈ l, P p.2) → sumI (comb l) (t + 1) = 0 := by
      intro l
      induction l with
      | nil => intro _; have : sumI (comb []) (t + 1) = sumI (fun _ => 0) (t + 1) := sumI_congr fun _ _ => rfl; rw [this, sumI_const]; simp
      | cons p l ih =>
        intro hp
        obtain ⟨a, u⟩ := p
        have : sumI (comb ((a, u) :: l)) (t + 1) = sumI (fun s => a * u s + comb l s) (t + 1) := sumI_congr fun _ _ => rfl
        rw [this, sumI_add, sumI_mul, hP u (hp (a, u) (by simp)), ih (fun q hq => hp q (by simp [hq]))]
        simp
    exact key l h2
  have hs2 : sumI (fun s => c * v s) (t + 1) = 0 := by rw [sumI_mul, hv]; simp
  have h4 : sumI (fun s => c * v s) t = sumI (comb l) t := sumI_congr h3
  have h5 : sumI (fun s => c * v s) t + c * v t = 0 := hs2
  have h6 : sumI (comb l) t + comb l t = 0 := hs
  omega
/-- KARI: where no word of fewer than n letters turns the weight, none does. -/
theorem kari_lin {n k : Nat} {E : Nat → Nat → Nat} (hE : Ok n k E) {f : Nat → Int} (hne : ∃ p q, p < n ∧ q < n ∧ f p ≠ f q) (hs : ∀ w, Wd k w → w.length < n → sumI (fun q => f (runE E q w)) n = sumI f n) : ∀ w, Wd k w → sumI (fun q => f (runE E q w)) n = sumI f n := by
  obtain ⟨p0, q0, hp0, hq0, hf⟩ := hne
  have hn : 0 < n := by omega
  have hzero : ∀ w, Wd k w → w.length < n → sumI (vecW E n f w) n = 0 := fun w hw hl => by rw [vecW_sum, hs w hw hl]; simp
  -- some length brings nothing new
  obtain ⟨d, hd, hdn⟩ : ∃ d, d < n ∧ ∀ w, Wd k w → w.length = d → SpanI n (fun u => ∃ v, Wd k v ∧ v.length < d ∧ u = vecW E n f v) (vecW E n f w) := by
    apply Classical.byContradiction
    intro hno
    have hnew : ∀ d, ∃ w, d < n → Wd k w ∧ w.length = d ∧ ¬ SpanI n (fun u => ∃ v, Wd k v ∧ v.length < d ∧ u = vecW E n f v) (vecW E n f w) := fun d => by
      by_cases h : d < n
      · apply Classical.byContradiction
        intro h2
        exact hno ⟨d, h, fun w hw hl => Classical.byContradiction fun h3 => h2 ⟨w, fun _ => ⟨hw, hl, h3⟩⟩⟩
      · exact ⟨[], fun h2 => absurd h2 h⟩
    obtain ⟨ω, hω⟩ := Classical.axiomOfChoice hnew
    obtain ⟨m, rfl⟩ : ∃ m, n = m + 1 := ⟨n - 1, by omega⟩
    have := indep_len (n := m) (L := (List.range (m + 1)).map fun d => vecW E (m + 1) f (ω d)) (fun i hi hsp => by
      have him : i < m + 1 := by simpa using hi
      obtain ⟨a1, a2, a3⟩ := hω i him
      apply a3
      have e1 : ((List.range (m + 1)).map fun d => vecW E (m + 1) f (ω d)).getD i (fun _ => 0) = vecW E (m + 1) f (ω i) := by simp [List.getD_eq_getElem?_getD, him]
      rw [e1] at hsp
      refine span_drop (fun u hu => ?_) (hzero _ a1 (by omega)) (hsp.mono fun u hu => ?_)
      · obtain ⟨v, v1, v2, rfl⟩ := hu
        exact hzero v v1 (by omega)
      · rw [← List.map_take, List.take_range, List.mem_map] at hu
        obtain ⟨j, hj, rfl⟩ := hu
        have hj := List.mem_range.1 hj
        obtain ⟨b1, b2, _⟩ := hω j (by omega)
        exact ⟨ω j, b1, by omega, rfl⟩)
    simp at this
    omega
  -- all longer words bring nothing new
  have hall : ∀ (N : Nat) (w : List Nat), w.length = N → Wd k w → SpanI n (fun u => ∃ v, Wd k v ∧ v.length < d ∧ u = vecW E n f v) (vecW E n f w) := by
    intro N
    induction N with
    | zero =>
      intro w hl hw
      by_cases h0 : 0 < d
      · exact SpanI.of ⟨w, hw, by omega, rfl⟩
      · exact hdn w hw (by omega)
    | succ N ih =>
      intro w hl hw
      rcases Nat.lt_trichotomy (N + 1) d with h | h | h
      · exact SpanI.of ⟨w, hw, by omega, rfl⟩
      · exact hdn w hw (by omega)
      · cases w with
        | nil => simp at hl
        | cons x w =>
          have hx := hw x (by simp)
          obtain ⟨c, l, h1, h2, h3⟩ := ih w (by simpa using hl) (fun z hz => hw z (by simp [hz]))
          have hstep : SpanI n (fun u => ∃ v, Wd k v ∧ v.length < d + 1 ∧ u = vecW E n f v) (vecW E n f (x :: w)) := by
            refine ⟨c, l.map (fun p => (p.1, fun q => p.2 (E q x))), h1, fun p hp => ?_, fun t ht => ?_⟩
            · obtain ⟨q, hq, rfl⟩ := List.mem_map.1 hp
              obtain ⟨v, v1, v2, v3⟩ := h2 q hq
              exact ⟨x :: v, v1.cons hx, by simp; omega, by funext s; show q.2 (E s x) = _; rw [v3]; rfl⟩
            · rw [vecW_cons, h3 _ (hE t x ht hx)]
              clear h2 h3
              induction l with
              | nil => rfl
              | cons p l ihl => show p.1 * p.2 (E t x) + comb l (E t x) = p.1 * p.2 (E t x) + comb _ t; rw [ihl]
          refine hstep.trans fun u hu => ?_
          obtain ⟨v, v1, v2, rfl⟩ := hu
          by_cases e : v.length = d
          · exact hdn v v1 e
          · exact SpanI.of ⟨v, v1, by omega, rfl⟩
  intro w hw
  obtain ⟨c, l, h1, h2, h3⟩ := hall _ w rfl hw
  have hz : sumI (comb l) n = 0 := by
    clear h3
    induction l with
    | nil => have : sumI (comb []) n = sumI (fun _ => 0) n := sumI_congr fun _ _ => rfl; rw [this, sumI_const]; simp
    | cons p l ih =>
      obtain ⟨a, u⟩ := p
      have e : sumI (comb ((a, u) :: l)) n = sumI (fun s => a * u s + comb l s) n := sumI_congr fun _ _ => rfl
      obtain ⟨v, v1, v2, v3⟩ := h2 (a, u) (by simp)
      simp only at v3
      rw [e, sumI_add, sumI_mul, v3, hzero v v1 (by omega), ih (fun q hq => h2 q (by simp [hq]))]
      simp
  have h5 : c * sumI (vecW E n f w) n = 0 := by rw [← sumI_mul, sumI_congr h3, hz]
  have h6 : sumI (vecW E n f w) n = 0 := by
    rcases Int.mul_eq_zero.1 h5 with h | h
    · exact absurd h h1
    · exact h
  rw [vecW_sum] at h6
  rcases Int.mul_eq_zero.1 h6 with h | h
  · omega
  · omega
end Go.Proofs.YtphpablchlpagaaDoor
namespace Go.Proofs.YtphpablchlpagaaDoor
open Go.RowKit Go.Shelf
theorem getI_of {w : World} {A : Option Addr} {n c : Nat} {l : List Int} (h : Ints w (.slice A n c) l) {i : Nat} (hi : i < l.length) : ∃ b o, A = some ⟨b, o, none⟩ ∧ w.cell? ⟨b, o + i, none⟩ = some (.int .i64 (l.getD i 0)) := by
  obtain ⟨A', c', hA, _, hc⟩ := h
  cases hA
  exact hc i hi
end Go.Proofs.YtphpablchlpagaaDoor
namespace Go.Proofs.YtphpablchlpagaaDoor
open Go.RowKit Go.Shelf
theorem getR_of {w : World} {A : Option Addr} {n c : Nat} {l : List (List Int)} (h : Rows w (.slice A n c) l) {i : Nat} (hi : i < l.length) : ∃ b o A' c', A = some ⟨b, o, none⟩ ∧ w.cell? ⟨b, o + i, none⟩ = some (.slice A' (l.getD i []).length c') ∧ Ints w (.slice A' (l.getD i []).length c') (l.getD i []) := by
  obtain ⟨A', c', hA, _, hc⟩ := h
  cases hA
  obtain ⟨b, o, r, hA, h1, h2⟩ := hc i hi
  obtain ⟨A2, c2, rfl, _⟩ := id h2
  exact ⟨b, o, A2, c2, hA, h1, h2⟩
theorem row_below {m : List (List Int)} (hv : validM m = true) {t : Nat} (ht : t < m.length) : (m.getD t []).all (inB 0 ((m.length : Int) - 1)) = true := by
  obtain ⟨h1, h2⟩ := (valid_parts hv).2.2.2.2 t ht
  rw [List.all_eq_true]
  intro x hx
  obtain ⟨j, hj, rfl⟩ := List.mem_iff_getElem.1 hx
  have := h2 j (by omega)
  rw [List.getD_eq_getElem?_getD, List.getElem?_eq_getElem hj, Option.getD_some] at this
  exact inB_true ⟨this.1, by omega⟩
end Go.Proofs.YtphpablchlpagaaDoor
namespace Go.Proofs.YtphpablchlpagaaDoor
open Go.RowKit Go.Shelf
theorem timesL_snoc (l : List Int) (x t : Int) : timesL (l ++ [x]) t = timesL l t + (if x = t then 1 else 0) := by
  unfold timesL
  rw [List.filter_append, List.length_append]
  by_cases h : x = t
  · subst h; simp
  · rw [if_neg h]
    have : (x == t) = false := beq_eq_false_iff_ne.2 h
    simp [this]
end Go.Proofs.YtphpablchlpagaaDoor
namespace Go.Proofs.YtphpablchlpagaaDoor
open Go.RowKit Go.Shelf
theorem take_snocI {l : List Int} {k : Nat} (h : k < l.length) : l.take (k + 1) = l.take k ++ [l.getD k 0] := by
  rw [List.take_succ_eq_append_getElem h]
  simp [List.getD_eq_getElem?_getD, List.getElem?_eq_getElem h]
theorem timesL_le (l : List Int) (t : Int) : timesL l t ≤ l.length := List.length_filter_le _ _
set_option maxRecDepth 100000 in
set_option maxHeartbeats 1000000 in
theorem rTimes_any (v : Value) (l : List Int) (t : Int) (w : World) (h : Ints w v l) (hl6 : l.length ≤ 100) :
    Calls Tryd.prog 37 #[v, .int .i64 t] w fun e w' => e = .returned (.int .i64 (timesL l t : Nat)) ∧ w = w' := by
  obtain ⟨A, cap, rfl, hl, hc⟩ := h
  have Hc := hid hc
  have H0 := hid (show timesL (l.take 0) t = 0 from rfl)
  clear hc hl
  go_enter Tryd.func37, Tryd.ntmps37
  go_wp2
  go_loop [5, 6] (fun nv sv => ∃ k c : Nat, k ≤ l.length ∧ sv = .int .i64 k ∧ nv = .int .i64 c ∧ timesL (l.take k) t = c) (fun _ sv => l.length - (intOf sv).toNat)
  case atStart => exact ⟨0, 0, Nat.zero_le _, rfl, rfl, H0.out⟩
  case round =>
    clear H0
    obtain ⟨k, c, hk, rfl, rfl, hcode⟩ := hrel
    have hc4 : c ≤ 100 := by have := timesL_le (l.take k) t; simp at this; omega
    have Hcode := hid hcode
    clear hcode
    by_cases hlt : k < l.length
    · have hks : (k : Int) < l.length := by omega
      obtain ⟨b, off, hA, hcell⟩ := Hc.out k hlt
      subst hA
      have hs := timesL_snoc (l.take k) (l.getD k 0) t
      rw [← take_snocI hlt, Hcode.out] at hs
      generalize l.getD k 0 = x at *
      by_cases hx : x = t
      · have hb : (x == t) = true := beq_iff_eq.2 hx
        rw [if_pos hx] at hs
        have Hs := hid hs
        subst hx
        clear hs Hcode
        go_wp2
        go_round
        case rel => exact ⟨k + 1, c + 1, by omega, by go_num, by go_num, Hs.out⟩
        case measure => simp [intOf]; omega
      · have hb : (x == t) = false := beq_eq_false_iff_ne.2 hx
        rw [if_neg hx] at hs
        have Hs := hid hs
        clear hs Hcode
        go_wp2
        go_round
        case rel => exact ⟨k + 1, c, by omega, by go_num, rfl, Hs.out⟩
        case measure => simp [intOf]; omega
    · obtain rfl : k = l.length := by omega
      have hc2 := Hcode.out
      rw [List.take_length] at hc2
      have HC := hid hc2
      clear hc2 Hcode
      go_wp2
      go_ret
      exact ⟨ret_int (by rw [HC.out]), rfl⟩
end Go.Proofs.YtphpablchlpagaaDoor
namespace Go.Proofs.YtphpablchlpagaaDoor
open Go.RowKit Go.Shelf
theorem row_range {m : List (List Int)} (hv : validM m = true) {s : Nat} (hs : s < m.length) : ∀ y ∈ m.getD s [], 0 ≤ y ∧ y < (m.length : Int) := fun y hy => by
  have := inB_iff.1 (List.all_eq_true.1 (row_below hv hs) y hy)
  omega
end Go.Proofs.YtphpablchlpagaaDoor
namespace Go.Proofs.YtphpablchlpagaaDoor
open Go.RowKit Go.Shelf
theorem rTimes_as (v : Value) (l : List Int) (t : Int) (x : Nat) (w : World) (h : Ints w v l) (hl : l.length ≤ 100) (hx : Hid (timesL l t = x)) :
    Calls Tryd.prog 37 #[v, .int .i64 t] w fun e w' => e = .returned (.int .i64 x) ∧ Below w.heap.size w w' := by
  rw [← hx.out]
  exact (rTimes_any v l t w h hl).mono fun e w1 he => ⟨he.1, by rw [← he.2]; exact Below.refl _ _⟩
/-- The rows of a state hold each number as often. -/
def sameAt (m k : List (List Int)) (s : Nat) : Bool := (List.range m.length).all fun t : Nat => timesL (m.getD s []) t == timesL (k.getD s []) t
end Go.Proofs.YtphpablchlpagaaDoor
namespace Go.Proofs.YtphpablchlpagaaDoor
open Go.RowKit Go.Shelf
/-- A row of rows, all of them the call's own, no two in one block; P: what is known of the rows' blocks. -/
structure Jag (W : World) (base Z n cap : Nat) (xs : List Value) (L : Nat → List Int) (P : Nat → Prop) : Prop where
  outer : W.ownsRow base 34 1 (.slice (some ⟨Z, 0, none⟩) n cap) n xs
  row : ∀ i, i < n → W.ownsRow base 3 1 (xs.getD i .nilIface) (L i).length ((L i).map fun x => .int .i64 x)
  off : ∀ i, i < n → ∀ g, (xs.getD i .nilIface).ownBlock = some g → g ≠ Z ∧ P g
  apart : ∀ i j, i < n → j < n → i ≠ j → ∀ g, (xs.getD i .nilIface).ownBlock = some g → (xs.getD j .nilIface).ownBlock ≠ some g
theorem ownsRow_blk {w : World} {base : Nat} {e : TypeId} {s : Nat} {v : Value} {n : Nat} {xs : List Value} (h : w.ownsRow base e s v n xs) : ∀ g, v.ownBlock = some g → base ≤ g ∧ g < w.heap.size := by
  intro g hg
  rcases h.2 with ⟨rfl, _⟩ | ⟨g', cap, cur, rfl, hb, hh, _⟩
  · cases hg
  · cases hg; exact ⟨hb, lt_of_block hh⟩
theorem Jag.kept {W W' : World} {base Z n cap : Nat} {xs : List Value} {L : Nat → List Int} {P : Nat → Prop} (h : Jag W base Z n cap xs L P) (hk : ∀ k, k < W.heap.size → base ≤ k → k = Z ∨ P k → W'.heap[k]? = W.heap[k]?) : Jag W' base Z n cap xs L P := by
  refine ⟨ownsRow_same h.outer fun g hg => ?_, fun i hi => ownsRow_same (h.row i hi) fun g hg => ?_, h.off, h.apart⟩
  · have := ownsRow_blk h.outer g hg
    cases hg
    exact hk _ this.2 this.1 (.inl rfl)
  · have := ownsRow_blk (h.row i hi) g hg
    exact hk _ this.2 this.1 (.inr (h.off i hi g hg).2)
theorem getD_set_same {xs : List Value} {s : Nat} (v : Value) (h : s < xs.length) : (xs.set s v).getD s .nilIface = v := by simp [List.getD_eq_getElem?_getD, List.getElem?_set, h]
theorem getD_set_other {xs : List Value} {s i : Nat} (v : Value) (h : i ≠ s) : (xs.set s v).getD i .nilIface = xs.getD i .nilIface := by
  simp only [List.getD_eq_getElem?_getD]
  rw [List.getElem?_set_ne (fun e => h e.symm)]
/-- One row has grown, and its new value is stored. -/
theorem Jag.step {W W5 : World} {base Z n cap s g1 c1 kk : Nat} {xs : List Value} {L L' : Nat → List Int} {P : Nat → Prop} {x : Int} {o : Obj} {ls : List Int} (h : Jag W base Z n cap xs L P) (hs : s < n) (hls : L s = ls) (hkk : ls.length = kk)
    (hg : (W.alloc o).grownBy W5 (xs.getD s .nilIface).ownBlock)
    (ho : W5.ownsRow base 3 1 (.slice (some ⟨g1, 0, none⟩) (kk + 1) c1) (kk + 1) ((ls.map fun x => .int .i64 x) ++ [.int .i64 x]))
    (hat : (xs.getD s .nilIface).ownBlock = some g1 ∨ g1 = W.heap.size + 1) (hP : P (W.heap.size + 1)) (hL' : ∀ i, L' i = if i = s then ls ++ [x] else L i) :
    Jag (W5.setCell ⟨Z, s, none⟩ (.slice (some ⟨g1, 0, none⟩) (kk + 1) c1)) base Z n cap (xs.set s (.slice (some ⟨g1, 0, none⟩) (kk + 1) c1)) L' P := by
  subst hls
  subst hkk
  obtain rfl : L' = fun i => if i = s then L s ++ [x] else L i := funext hL'
  clear hL'
  have hxl : xs.length = n := by have := h.outer.1; omega
  have hZ := (ownsRow_blk h.outer Z rfl).2
  have hZ5 : W5.heap[Z]? = W.heap[Z]? := (hg.block Z (by simp; omega) (fun e => (h.off s hs Z e.symm).1 rfl)).trans (Below.heap_alloc _ _ _ hZ)
  have hO5 := owns_block h.outer hZ5
  have hg1 : g1 ≠ Z ∧ P g1 := by
    rcases hat with e | e
    · exact h.off s hs g1 e
    · subst e; exact ⟨by omega, hP⟩
  have hother : ∀ i, i < n → i ≠ s → ∀ g, (xs.getD i .nilIface).ownBlock = some g → g ≠ g1 ∧ (W5.setCell ⟨Z, s, none⟩ (.slice (some ⟨g1, 0, none⟩) ((L s).length + 1) c1)).heap[g]? = W.heap[g]? := by
    intro i hi his g he
    have hb := ownsRow_blk (h.row i hi) g he
    refine ⟨fun e => ?_, ?_⟩
    · subst e
      rcases hat with e | e
      · exact h.apart i s hi hs his g he e
      · omega
    · rw [Below.heap_setCell _ _ _ _ (by have := (h.off i hi g he).1; simpa using this), hg.block g (by simp; omega) (fun e => h.apart i s hi hs his g he e.symm), Below.heap_alloc _ _ _ hb.2]
  refine ⟨(hO5.stored s _).1, fun i hi => ?_, fun i hi g he => ?_, fun i j hi hj hij g he => ?_⟩
  · by_cases e : i = s
    · subst e
      rw [getD_set_same _ (by omega)]
      simp only [if_true, List.length_append, List.length_cons, List.length_nil, List.map_append, List.map_cons, List.map_nil]
      exact owns_block ho (Below.heap_setCell _ _ _ _ (by simpa using hg1.1))
    · rw [getD_set_other _ e]
      simp only [if_neg e]
      exact ownsRow_same (h.row i hi) fun g he => (hother i hi e g he).2
  · by_cases e : i = s
    · subst e
      rw [getD_set_same _ (by omega)] at he
      cases he
      exact hg1
    · rw [getD_set_other _ e] at he
      exact h.off i hi g he
  · by_cases e : i = s
    · subst e
      rw [getD_set_same _ (by omega)] at he
      cases he
      rw [getD_set_other _ (fun e => hij e.symm)]
      exact fun he' => (hother j hj (fun e => hij e.symm) _ he').1 rfl
    · rw [getD_set_other _ e] at he
      by_cases e2 : j = s
      · subst e2
        rw [getD_set_same _ (by omega)]
        intro he'
        cases he'
        exact (hother i hi e _ he).1 rfl
      · rw [getD_set_other _ e2]
        exact h.apart i j hi hj hij g he
theorem Jag.congr {W : World} {base Z n cap : Nat} {xs : List Value} {L L' : Nat → List Int} {P : Nat → Prop} (h : Jag W base Z n cap xs L P) (hL : ∀ i, i < n → L i = L' i) : Jag W base Z n cap xs L' P :=
  ⟨h.outer, fun i hi => by rw [← hL i hi]; exact h.row i hi, h.off, h.apart⟩
/-- Rows that are all nil. -/
theorem Jag.start {W : World} {base Z n cap : Nat} {P : Nat → Prop} {L : Nat → List Int} (h : W.ownsRow base 34 1 (.slice (some ⟨Z, 0, none⟩) n cap) n (List.replicate n (.slice none 0 0))) (hL : ∀ i, L i = []) : Jag W base Z n cap (List.replicate n (.slice none 0 0)) L P := by
  have hget : ∀ i, i < n → (List.replicate n (Value.slice none 0 0)).getD i .nilIface = .slice none 0 0 := fun i hi => by simp [List.getD_eq_getElem?_getD, List.getElem?_replicate, hi]
  refine ⟨h, fun i hi => ?_, fun i hi g he => ?_, fun i j hi hj _ g he => ?_⟩
  · rw [hget i hi, hL i]; exact ⟨rfl, .inl ⟨rfl, rfl⟩⟩
  · rw [hget i hi] at he; cases he
  · rw [hget i hi] at he; cases he
end Go.Proofs.YtphpablchlpagaaDoor
namespace Go.Proofs.YtphpablchlpagaaDoor
def pivI (l : List Int) : Nat → Nat
  | 0 => 0
  | i + 1 => if l.getD (i + 1) 0 ≤ l.getD i 0 then pivI l i else i + 1
def pivot (l : List Int) : Nat := pivI l (l.length - 1)
def findJ (r : List Int) (a : Int) : Nat → Nat → Nat
  | 0, j => j
  | f + 1, j => if r.getD j 0 ≤ a then findJ r a f (j + 1) else j
def turned (l : List Int) (i : Nat) : List Int := l.take i ++ (l.drop i).reverse
def swapL (r : List Int) (p j : Nat) : List Int := (r.set p (r.getD j 0)).set j (r.getD p 0)
def nextP (l : List Int) : List Int :=
  if pivot l = 0 then turned l 0 else swapL (turned l (pivot l)) (pivot l - 1) (findJ (turned l (pivot l)) ((turned l (pivot l)).getD (pivot l - 1) 0) l.length (pivot l))
def iterP : Nat → List Int → List Int
  | 0, l => l
  | n + 1, l => iterP n (nextP l)
end Go.Proofs.YtphpablchlpagaaDoor
namespace Go.Proofs.YtphpablchlpagaaDoor
open Go.RowKit Go.Shelf
/-- After how many steps a row comes back. -/
def perGo (l : List Int) : Nat → List Int → Nat → Nat
  | 0, _, i => i
  | f + 1, q, i => if q = l then i else perGo l f (nextP q) (i + 1)
def perP (l : List Int) : Nat := perGo l 721 (nextP l) 1
def rowsP (l : List Int) (i : Nat) : List (List Int) := (List.range i).map fun j => iterP j l
/-- All orders of a row, the row itself first. -/
def orbP (l : List Int) : List (List Int) := rowsP l (perP l)
/-- A list of one row, made by the call. -/
theorem MRows.one {w : World} {base : Nat} {u : Value} {l : List Int} (hu : IntsOff w base none u l) (hb : base ≤ w.heap.size) : MRows (w.alloc (.cells #[u] 34)) base (.slice (some ⟨w.heap.size, 0, none⟩) 1 1) [l] := by
  refine ⟨[u], ?_, fun i hi => ?_⟩
  · exact World.ownsRow_lit (e := 34) w #[u] 1 hb (by unfold maxLen; omega) rfl
  · obtain rfl : i = 0 := by simpa using hi
    refine IntsOff.kept (g := none) (W := w) hu (fun k _ hk _ => Below.heap_alloc _ _ _ hk) (fun k hk _ e => ?_)
    have e2 := Option.some.inj e
    simp at e2
    omega
end Go.Proofs.YtphpablchlpagaaDoor
namespace Go.Proofs.YtphpablchlpagaaDoor
open Go.RowKit Go.Shelf
theorem IntsOff.mono {W : World} {base base' : Nat} {g : Option Nat} {v : Value} {l : List Int} (h : IntsOff W base g v l) (hb : base' ≤ base) : IntsOff W base' g v l := by
  obtain ⟨A, cap, hv, hl, hc⟩ := h
  refine ⟨A, cap, hv, hl, fun i hi => ?_⟩
  obtain ⟨b, off, hA, h1, h2⟩ := hc i hi
  exact ⟨b, off, hA, by omega, h2⟩
theorem MRows.mono {W : World} {base base' : Nat} {v : Value} {m : List (List Int)} (h : MRows W base v m) (hb : base' ≤ base) : MRows W base' v m := by
  obtain ⟨xs, ho, hx⟩ := h
  exact ⟨xs, row_mono ho hb, fun i hi => (hx i hi).mono hb⟩
/-- The orders of the first s states. -/
def OrdT (W : World) (base g : Nat) (m : List (List Int)) (s : Nat) : Prop :=
  ∃ xs : List Value, W.ownsRow base 22 1 (.slice (some ⟨g, 0, none⟩) m.length m.length) m.length xs ∧ ∀ j, j < s → MRows W (g + 1) (xs.getD j .nilIface) (orbP (m.getD j []))
theorem OrdT.lt {W : World} {base g s : Nat} {m : List (List Int)} (h : OrdT W base g m s) : base ≤ g ∧ g < W.heap.size := by
  obtain ⟨xs, ho, _⟩ := h
  exact ownsRow_blk ho g rfl
theorem OrdT.kept {W W' : World} {base g s : Nat} {m : List (List Int)} (h : OrdT W base g m s) (hk : ∀ k, g ≤ k → k < W.heap.size → W'.heap[k]? = W.heap[k]?) : OrdT W' base g m s := by
  obtain ⟨xs, ho, hx⟩ := h
  have hl := ownsRow_blk ho g rfl
  exact ⟨xs, owns_block ho (hk g (Nat.le_refl _) hl.2), fun j hj => (hx j hj).kept fun k h1 h2 => hk k (by omega) h2⟩
theorem OrdT.below {W W' : World} {base g s : Nat} {m : List (List Int)} (h : OrdT W base g m s) (hb : Below W.heap.size W W') : OrdT W' base g m s := h.kept fun k _ hk => hb.block k hk
theorem OrdT.put {W W' : World} {base g k n1 : Nat} {m : List (List Int)} {u : Value} (h : OrdT W base g m k) (hb : Below W.heap.size W W') (hM : MRows W' n1 u (orbP (m.getD k []))) (hn : g < n1) (hk : k < m.length) : OrdT (W'.setCell ⟨g, k, none⟩ u) base g m (k + 1) := by
  obtain ⟨xs, ho, hx⟩ := h.below hb
  have hxl : xs.length = m.length := by have := ho.1; omega
  refine ⟨xs.set k u, (World.ownsRow.stored ho k u).1, fun j hj => ?_⟩
  have hsame : ∀ q, g + 1 ≤ q → q < W'.heap.size → (W'.setCell ⟨g, k, none⟩ u).heap[q]? = W'.heap[q]? := fun q hq _ => Below.heap_setCell _ _ _ _ (by simp; omega)
  by_cases e : j = k
  · subst e
    rw [getD_set_same _ (by omega)]
    exact (hM.mono (by omega)).kept hsame
  · rw [getD_set_other _ e]
    exact (hx j (by omega)).kept hsame
theorem OrdT.free {W : World} {base g s : Nat} {m : List (List Int)} (h : OrdT W base g m s) (j : Nat) : W.frozen? ⟨g, j, none⟩ = false := by
  obtain ⟨xs, ho, _⟩ := h
  exact World.ownsRow.frozenAt ho j
theorem OrdT.cell {W : World} {base g s : Nat} {m : List (List Int)} (h : OrdT W base g m s) {j : Nat} (hj : j < m.length) : ∃ u, W.cell? ⟨g, j, none⟩ = some u ∧ (j < s → MRows W (g + 1) u (orbP (m.getD j []))) := by
  obtain ⟨xs, ho, hx⟩ := h
  have hxl : xs.length = m.length := by have := ho.1; omega
  refine ⟨xs.getD j .nilIface, ?_, fun hs => hx j hs⟩
  rw [ho.cellAt j (by omega)]
  simp [List.getD_eq_getElem?_getD, List.getElem?_eq_getElem (show j < xs.length by omega)]
end Go.Proofs.YtphpablchlpagaaDoor
namespace Go.Proofs.YtphpablchlpagaaDoor
open Go.RowKit Go.Shelf
theorem Turn.below {X : Blocks} {W W' : World} {n : Nat} (h : Turn X W W') (hX : ∀ k, X k → n ≤ k) (hn : n ≤ W.heap.size) : Below n W W' :=
  ⟨h.os, h.tape, h.output, h.size, fun k hk => h.block k (by omega) (fun hx => by have := hX k hx; omega)⟩
end Go.Proofs.YtphpablchlpagaaDoor
namespace Go.Proofs.YtphpablchlpagaaDoor
open Go.RowKit Go.Shelf
attribute [local go_sem] Oper.semAt_some
def NumG (N : Nat) (X : Blocks) (x : Value × List (List Int)) (W : World) : Prop :=
  ∃ nb W1, N ≤ nb ∧ MRows W1 nb x.1 x.2 ∧ W1.heap.size ≤ W.heap.size ∧ ∀ k, nb ≤ k → k < W1.heap.size → X k ∧ W.heap[k]? = W1.heap[k]?
theorem NumG.keep {N : Nat} {X : Blocks} {x : Value × List (List Int)} {n₀ : Nat} {W W' : World} (h : NumG N X x W) (k : Keep n₀ X W W') : NumG N X x W' := by
  obtain ⟨nb, W1, h0, h1, h2, h3⟩ := h
  exact ⟨nb, W1, h0, h1, Nat.le_trans h2 k.size, fun q hq hs => ⟨(h3 q hq hs).1, (k.block q (by omega) (.inr (h3 q hq hs).1)).trans (h3 q hq hs).2⟩⟩
end Go.Proofs.YtphpablchlpagaaDoor
namespace Go.Proofs.YtphpablchlpagaaDoor
/-- The rows of one automaton are orders of those of another one. -/
def PermR (m k : List (List Int)) : Prop := k.length = m.length ∧ ∀ s, s < m.length → (k.getD s []).Perm (m.getD s [])
theorem PermR.lets {m k : List (List Int)} (h : PermR m k) (hv : validM m = true) : letters k = letters m := by
  obtain ⟨p1, p2, p3, p4, p5⟩ := valid_parts hv
  show (k.getD 0 []).length = letters m
  rw [(h.2 0 (by omega)).length_eq, (p5 0 (by omega)).1]
theorem PermR.valid {m k : List (List Int)} (h : PermR m k) (hv : validM m = true) : validM k = true := by
  obtain ⟨p1, p2, p3, p4, p5⟩ := valid_parts hv
  have hl := h.1
  rw [validM, Bool.and_eq_true, Bool.and_eq_true, h.lets hv, hl]
  refine ⟨inB_true (by omega), inB_true (by omega), ?_⟩
  rw [List.all_eq_true]
  intro r hr
  obtain ⟨s, hs, rfl⟩ := List.mem_iff_getElem.1 hr
  have hs' : s < m.length := by omega
  have hpm := h.2 s hs'
  rw [show k.getD s [] = k[s] by simp [List.getD_eq_getElem?_getD, List.getElem?_eq_getElem hs]] at hpm
  rw [rowOk, Bool.and_eq_true, decide_eq_true_eq, h.lets hv, hl]
  refine ⟨by rw [hpm.length_eq]; exact (p5 s hs').1, ?_⟩
  rw [List.all_eq_true]
  intro x hx
  have := row_range hv hs' x (hpm.mem_iff.1 hx)
  exact inB_true (by omega)
theorem PermR.same {m k : List (List Int)} (h : PermR m k) (hv : validM m = true) : sameM m k = true := by
  rw [sameM, decide_eq_true h.1.symm, decide_eq_true (h.lets hv).symm, Bool.true_and, Bool.true_and, List.all_eq_true]
  intro s hs
  rw [List.all_eq_true]
  intro t _
  rw [beq_iff_eq]
  exact timesL_perm (h.2 s (List.mem_range.1 hs)).symm _
end Go.Proofs.YtphpablchlpagaaDoor
namespace Go.Proofs.YtphpablchlpagaaDoor
def roadsE (m : List (List Int)) (s x : Nat) : Nat := nx m s (x : Int)
theorem roads_run (m : List (List Int)) : ∀ (w : List Nat) (s : Nat), runE (roadsE m) s w = runM m s (w.map fun x : Nat => (x : Int))
  | [], _ => rfl
  | x :: w, s => roads_run m w (nx m s (x : Int))
theorem roads_ok {m : List (List Int)} (hv : validM m = true) : Ok m.length (letters m) (roadsE m) := fun s x hs hx => (nx_ok hv hs (x := (x : Int)) (by omega) (by omega)).1
end Go.Proofs.YtphpablchlpagaaDoor
namespace Go.Proofs.YtphpablchlpagaaDoor
theorem sumI_swap (f : Nat → Nat → Int) (n : Nat) : ∀ k, sumI (fun x => sumI (fun q => f x q) n) k = sumI (fun q => sumI (fun x => f x q) k) n
  | 0 => by
    show (0 : Int) = sumI (fun _ => 0) n
    rw [sumI_const]; simp
  | k + 1 => by
    show sumI (fun x => sumI (fun q => f x q) n) k + sumI (fun q => f k q) n = sumI (fun q => sumI (fun x => f x q) k + f k q) n
    rw [sumI_swap f n k, sumI_add]
theorem sumI_one (g : Nat → Int) (t : Nat) : ∀ n, sumI (fun s => if t = s then g s else 0) n = if t < n then g t else 0
  | 0 => rfl
  | n + 1 => by
    show sumI (fun s => if t = s then g s else 0) n + (if t = n then g n else 0) = _
    rw [sumI_one g t n]
    by_cases h : t = n
    · subst h; simp
    · by_cases h2 : t < n
      · simp [h, h2, show t < n + 1 by omega]
      · simp [h, h2, show ¬ t < n + 1 by omega]
theorem sumI_le {f g : Nat → Int} : ∀ {n : Nat}, (∀ t, t < n → f t ≤ g t) → sumI f n ≤ sumI g n
  | 0, _ => Int.le_refl _
  | n + 1, h => by
    show sumI f n + f n ≤ sumI g n + g n
    have := sumI_le (n := n) (fun t ht => h t (by omega)); have := h n (by omega); omega
theorem sumI_lt {f g : Nat → Int} {s : Nat} : ∀ {n : Nat}, s < n → f s < g s → (∀ t, t < n → f t ≤ g t) → sumI f n < sumI g n
  | n + 1, hs, hl, h => by
    show sumI f n + f n < sumI g n + g n
    by_cases e : s = n
    · subst e
      have := sumI_le (n := s) (f := f) (g := g) (fun t ht => h t (by omega)); omega
    · have := sumI_lt (n := n) (by omega) hl (fun t ht => h t (by omega)); have := h n (by omega); omega
/-- 1 in the set, 0 beside it. -/
def bitI (S q : Nat) : Int := if S.testBit q = true then 1 else 0
theorem filter_sum (p : Nat → Bool) : ∀ n, ((((List.range n).filter p).length : Nat) : Int) = sumI (fun q => if p q = true then 1 else 0) n
  | 0 => rfl
  | n + 1 => by
    rw [List.range_succ, List.filter_append, List.length_append]
    show _ = sumI (fun q => if p q = true then 1 else 0) n + (if p n = true then 1 else 0)
    rw [← filter_sum p n]
    by_cases h : p n = true
    · simp [h]
    · simp [h]
theorem szS_sum {n S : Nat} (hS : S < 2 ^ n) (hn : n ≤ 64) : (szS S : Int) = sumI (bitI S) n := by
  unfold szS; rw [elems_range hS hn, filter_sum]; rfl
theorem szS_le {n S : Nat} (hS : S < 2 ^ n) (hn : n ≤ 64) : szS S ≤ n := by
  unfold szS; rw [elems_range hS hn]
  exact Nat.le_trans (List.length_filter_le _ _) (by simp)
theorem WDm.all {m : List (List Int)} {u : List Int} (h : WDm m u) : u.all (inB 0 ((letters m : Int) - 1)) = true := List.all_eq_true.2 fun x hx => inB_true (by have := h x hx; omega)
theorem WDm.of_all {m : List (List Int)} {u : List Int} (h : u.all (inB 0 ((letters m : Int) - 1)) = true) : WDm m u := fun x hx => by
  have := inB_iff.1 (List.all_eq_true.1 h x hx); omega
theorem WDm.ofNat {m : List (List Int)} {w : List Nat} (h : Wd (letters m) w) : WDm m (w.map fun x : Nat => (x : Int)) := fun x hx => by
  obtain ⟨y, hy, rfl⟩ := List.mem_map.1 hx
  have := h y hy; omega
theorem WDm.toNat {m : List (List Int)} : ∀ {u : List Int}, WDm m u → ∃ w, Wd (letters m) w ∧ w.length = u.length ∧ u = w.map fun x : Nat => (x : Int)
  | [], _ => ⟨[], fun x hx => by simp at hx, rfl, rfl⟩
  | x :: u, h => by
    have hx := h x (by simp)
    obtain ⟨y, rfl⟩ := Int.eq_ofNat_of_zero_le hx.1
    obtain ⟨w, h1, h2, h3⟩ := WDm.toNat (u := u) fun z hz => h z (by simp [hz])
    refine ⟨y :: w, fun z hz => ?_, by simp [h2], by rw [h3]; rfl⟩
    rcases List.mem_cons.1 hz with e | e
    · subst e; omega
    · exact h1 z e
theorem pre_sum {m : List (List Int)} (hv : validM m = true) {S : Nat} (hS : S < 2 ^ m.length) {w : List Nat} (hw : Wd (letters m) w) : (szS (preWord m S (w.map fun x : Nat => (x : Int))) : Int) = sumI (fun q => bitI S (runE (roadsE m) q w)) m.length := by
  have hn : m.length ≤ 64 := by have := (valid_parts hv).2.1; omega
  rw [szS_sum (preWord_lt hv hS _) hn]
  refine sumI_congr fun q hq => ?_
  unfold bitI
  rw [preWord_testBit hv S _ q hq (WDm.ofNat hw).all, roads_run]
/-- As many roads lead to each state as there are letters. -/
def inR (m : List (List Int)) (t : Nat) : Int := sumI (fun q => sumI (fun x => if roadsE m q x = t then 1 else 0) (letters m)) m.length
def eulM (m : List (List Int)) : Prop := ∀ t, t < m.length → inR m t = letters m
theorem in_sum {m : List (List Int)} (hv : validM m = true) (g : Nat → Int) : sumI (fun x => sumI (fun q => g (roadsE m q x)) m.length) (letters m) = sumI (fun t => g t * inR m t) m.length := by
  rw [sumI_swap]
  have h1 : sumI (fun q => sumI (fun x => g (roadsE m q x)) (letters m)) m.length = sumI (fun q => sumI (fun t => sumI (fun x => if roadsE m q x = t then g t else 0) (letters m)) m.length) m.length := by
    refine sumI_congr fun q hq => ?_
    rw [← sumI_swap (fun x t => if roadsE m q x = t then g t else 0)]
    refine sumI_congr fun x hx => ?_
    rw [sumI_one g (roadsE m q x), if_pos (roads_ok hv q x hq hx)]
  rw [h1, sumI_swap]
  refine sumI_congr fun t ht => ?_
  unfold inR
  rw [← sumI_mul]
  refine sumI_congr fun q hq => ?_
  rw [← sumI_mul]
  refine sumI_congr fun x hx => ?_
  by_cases e : roadsE m q x = t
  · simp [e]
  · simp [e]
theorem eul_sum {m : List (List Int)} (hv : validM m = true) (he : eulM m) (g : Nat → Int) : sumI (fun x => sumI (fun q => g (roadsE m q x)) m.length) (letters m) = letters m * sumI g m.length := by
  rw [in_sum hv, ← sumI_mul]
  exact sumI_congr fun t ht => by rw [he t ht, Int.mul_comm]
/-- The sizes of the preimages by all letters. -/
theorem pre_one {m : List (List Int)} (hv : validM m = true) {S x : Nat} (hS : S < 2 ^ m.length) (hx : x < letters m) : (szS (preSet m S (x : Int)) : Int) = sumI (fun q => bitI S (roadsE m q x)) m.length :=
  pre_sum hv hS (w := [x]) (fun y hy => by obtain rfl : y = x := by simpa using hy
                                           exact hx)
theorem eul_size {m : List (List Int)} (hv : validM m = true) (he : eulM m) {S : Nat} (hS : S < 2 ^ m.length) : sumI (fun x : Nat => (szS (preSet m S (x : Int)) : Int)) (letters m) = letters m * szS S := by
  have hn : m.length ≤ 64 := by have := (valid_parts hv).2.1; omega
  rw [szS_sum hS hn, ← eul_sum hv he]
  exact sumI_congr fun x hx => pre_one hv hS hx
theorem reset_toU {m : List (List Int)} (hv : validM m = true) (hall : allMerge m) : ∃ t, t < m.length ∧ ∀ s, s < m.length → runM m s (resetW m) = t := by
  obtain ⟨p1, p2, -⟩ := valid_parts hv
  obtain ⟨c1, c2, -⟩ := resetW_ok hv hall
  have hpow := Nat.two_pow_pos m.length
  have hn : m.length ≤ 64 := by omega
  have hS : 2 ^ m.length - 1 < 2 ^ m.length := by omega
  have hel := elems_range (imgWord_lt hv (resetW m) _ hS c1) hn
  have hmem : ∀ s, s < m.length → runM m s (resetW m) ∈ elems (imgWord m (2 ^ m.length - 1) (resetW m)) := fun s hs => by
    have ht : (imgWord m (2 ^ m.length - 1) (resetW m)).testBit (runM m s (resetW m)) = true := (imgWord_mem hv (resetW m) _ _ hS c1).2 ⟨s, hs, by rw [testBit_below]; simpa using hs, rfl⟩
    rw [mem_elems]
    refine ⟨?_, ht⟩
    apply Classical.byContradiction
    intro hge
    have : imgWord m (2 ^ m.length - 1) (resetW m) < 2 ^ runM m s (resetW m) := Nat.lt_of_lt_of_le (imgWord_lt hv (resetW m) _ hS c1) (Nat.pow_le_pow_right (by decide) (by omega))
    rw [Nat.testBit_lt_two_pow this] at ht
    simp at ht
  match hl : elems (imgWord m (2 ^ m.length - 1) (resetW m)), c2 with
  | [t], _ =>
    have key : ∀ s, s < m.length → runM m s (resetW m) = t := fun s hs => by
      have := hmem s hs
      rw [hl] at this
      simpa using this
    refine ⟨t, ?_, key⟩
    have h0 := hmem 0 (by omega)
    have := elems_lt (imgWord_lt hv (resetW m) _ hS c1) h0
    rw [key 0 (by omega)] at this
    exact this
/-- KARI. -/
theorem kari_more {m : List (List Int)} (hv : validM m = true) (he : eulM m) (hall : allMerge m) {S : Nat} (hS : S < 2 ^ m.length) (h0 : 0 < szS S) (h1 : szS S < m.length) :
    ∃ w, WDm m w ∧ w.length + 1 ≤ m.length ∧ szS S < szS (preWord m S w) := by
  obtain ⟨p1, p2, p3, -⟩ := valid_parts hv
  have hn : m.length ≤ 64 := by omega
  have hsz := szS_sum hS hn
  -- some word changes the size
  have hsome : ∃ w, Wd (letters m) w ∧ w.length < m.length ∧ sumI (fun q => bitI S (runE (roadsE m) q w)) m.length ≠ sumI (bitI S) m.length := by
    apply Classical.byContradiction
    intro hno
    have hk := kari_lin (roads_ok hv) (f := bitI S) (by
      apply Classical.byContradiction
      intro hc
      have hcon : ∀ q, q < m.length → bitI S q = bitI S 0 := fun q hq => Classical.byContradiction fun h => hc ⟨q, 0, hq, by omega, h⟩
      have : sumI (bitI S) m.length = sumI (fun _ => bitI S 0) m.length := sumI_congr hcon
      rw [sumI_const] at this
      unfold bitI at this
      by_cases hb : S.testBit 0 = true
      · rw [if_pos hb] at this; unfold bitI at hsz; omega
      · rw [if_neg hb] at this; unfold bitI at hsz; omega) (fun w hw hl => Classical.byContradiction fun h => hno ⟨w, hw, hl, h⟩)
    obtain ⟨t, ht, hr⟩ := reset_toU hv hall
    obtain ⟨w, w1, w2, w3⟩ := (WDm.of_all (resetW_ok hv hall).1).toNat
    have := hk w w1
    have e : sumI (fun q => bitI S (runE (roadsE m) q w)) m.length = sumI (fun _ => bitI S t) m.length := sumI_congr fun q hq => by rw [roads_run, ← w3, hr q hq]
    rw [e, sumI_const] at this
    unfold bitI at this
    by_cases hb : S.testBit t = true
    · rw [if_pos hb] at this; unfold bitI at hsz; omega
    · rw [if_neg hb] at this; unfold bitI at hsz; omega
  obtain ⟨L, ⟨w, hw, hlL, hl, hd⟩, hmin⟩ := least_natR (P := fun L => ∃ w, Wd (letters m) w ∧ w.length = L ∧ w.length < m.length ∧ sumI (fun q => bitI S (runE (roadsE m) q w)) m.length ≠ sumI (bitI S) m.length) (by
    obtain ⟨w, a, b, c⟩ := hsome
    exact ⟨_, w, a, rfl, b, c⟩)
  cases w with
  | nil => exact absurd rfl hd
  | cons x v =>
    have hx := hw x (by simp)
    have hvw : Wd (letters m) v := fun z hz => hw z (by simp [hz])
    simp only [List.length_cons] at hlL hl
    have hv0 : sumI (fun q => bitI S (runE (roadsE m) q v)) m.length = sumI (bitI S) m.length := Classical.byContradiction fun h => hmin v.length (by omega) ⟨v, hvw, rfl, by omega, h⟩
    have hT : (szS (preWord m S (v.map fun x : Nat => (x : Int))) : Int) = szS S := by rw [pre_sum hv hS hvw, hv0, hsz]
    have hTl := preWord_lt hv hS (v.map fun x : Nat => (x : Int))
    have hx0 : (szS (preSet m (preWord m S (v.map fun x : Nat => (x : Int))) (x : Int)) : Int) ≠ szS S := by
      have := pre_sum hv hS hw
      rw [← hsz, ← this] at hd
      exact hd
    have hav := eul_size hv he hTl
    rw [hT] at hav
    apply Classical.byContradiction
    intro hno
    have hle : ∀ y, y < letters m → (szS (preSet m (preWord m S (v.map fun x : Nat => (x : Int))) (y : Int)) : Int) ≤ szS S := fun y hy => by
      apply Classical.byContradiction
      intro h
      exact hno ⟨(y : Int) :: v.map (fun x : Nat => (x : Int)), (WDm.ofNat hvw).cons hy, by simp; omega, by rw [preWord_cons]; omega⟩
    have := sumI_lt (f := fun y : Nat => (szS (preSet m (preWord m S (v.map fun x : Nat => (x : Int))) (y : Int)) : Int)) (g := fun _ => (szS S : Int)) hx (by have := hle x hx; omega) hle
    rw [hav, sumI_const] at this
    omega
end Go.Proofs.YtphpablchlpagaaDoor
namespace Go.Proofs.YtphpablchlpagaaDoor
open Go.RowKit Go.Shelf
theorem Ints.off {W : World} {b o n c k o' : Nat} {l : List Int} {x : Value} (h : Ints W (.slice (some ⟨b, o, none⟩) n c) l) (hk : b ≠ k) : Ints (W.setCell ⟨k, o', none⟩ x) (.slice (some ⟨b, o, none⟩) n c) l := by
  obtain ⟨A, cap, hv, hl, hc⟩ := h
  refine ⟨A, cap, hv, hl, fun i hi => ?_⟩
  obtain ⟨b', off, hA, hcell⟩ := hc i hi
  refine ⟨b', off, hA, ?_⟩
  simp only [Value.slice.injEq] at hv
  rw [← hv.1] at hA
  simp only [Option.some.injEq, Addr.mk.injEq, and_true] at hA
  obtain ⟨rfl, rfl⟩ := hA
  exact (World.cell?_of_block (Below.heap_setCell _ _ _ _ hk)).trans hcell
/-- The rows of a table that is being made, each of two numbers: the first k are there. -/
def rowsC (n k : Nat) (B : Nat → Nat) : List Value := (List.range n).map fun p => if p < k then .slice (some ⟨B p, 0, none⟩) 2 2 else .slice none 0 0
structure RTb (W : World) (n₀ g n k : Nat) (B : Nat → Nat) (f : Nat → List Int) : Prop where
  outer : W.ownsRow n₀ 34 1 (.slice (some ⟨g, 0, none⟩) n n) n (rowsC n k B)
  inner : ∀ p, p < k → Ints W (.slice (some ⟨B p, 0, none⟩) 2 2) (f p)
  apart : ∀ p, p < k → B p ≠ g ∧ n₀ ≤ B p
section
variable {W W' : World} {n₀ g n k : Nat} {B : Nat → Nat} {f : Nat → List Int}
theorem RTb.new (h : W.ownsRow n₀ 34 1 (.slice (some ⟨g, 0, none⟩) n n) n (List.replicate n (.slice none 0 0))) : RTb W n₀ g n 0 B f := by
  refine ⟨?_, fun p hp => by omega, fun p hp => by omega⟩
  have e : rowsC n 0 B = List.replicate n (.slice none 0 0) := by
    apply List.ext_getElem
    · simp [rowsC]
    · intro i h1 h2; simp [rowsC]
  rw [e]; exact h
theorem RTb.below (h : RTb W n₀ g n k B f) (hb : Below W.heap.size W W') : RTb W' n₀ g n k B f :=
  ⟨owns_kept h.outer fun b _ hs => hb.block b hs, fun p hp => (h.inner p hp).below hb, h.apart⟩
theorem RTb.lt (h : RTb W n₀ g n k B f) : n₀ ≤ g ∧ g < W.heap.size := ownq_lt h.outer
/-- A row is stored: the next one, or in the place of one that was there. -/
theorem RTb.row {p b k' : Nat} {l : List Int} (h : RTb W n₀ g n k B f) (hp : p ≤ k) (hk' : k' = if p = k then k + 1 else k) (hb : b ≠ g ∧ n₀ ≤ b) (hl : Ints W (.slice (some ⟨b, 0, none⟩) 2 2) l) :
    RTb (W.setCell ⟨g, p, none⟩ (.slice (some ⟨b, 0, none⟩) 2 2)) n₀ g n k' (fun i => if i = p then b else B i) (fun i => if i = p then l else f i) := by
  obtain ⟨s1, -⟩ := h.outer.stored p (.slice (some ⟨b, 0, none⟩) 2 2)
  have hlt : ∀ i, i < k' → i ≠ p → i < k := fun i hi hne => by
    by_cases e : p = k
    · rw [if_pos e] at hk'; omega
    · rw [if_neg e] at hk'; omega
  refine ⟨?_, fun i hi => ?_, fun i hi => ?_⟩
  · refine cast ?_ s1
    congr 1
    apply List.ext_getElem
    · simp [rowsC]
    · intro i h1 h2
      rw [List.getElem_set]
      by_cases e : p = i
      · subst e
        have : p < k' := by
          by_cases e2 : p = k
          · rw [if_pos e2] at hk'; omega
          · rw [if_neg e2] at hk'; omega
        simp [rowsC, this]
      · rw [if_neg e]
        simp only [rowsC, List.getElem_map, List.getElem_range]
        have e' : ¬ i = p := fun h => e h.symm
        simp only [e', if_false]
        by_cases e2 : i < k
        · rw [if_pos e2, if_pos (by
            by_cases e3 : p = k
            · rw [if_pos e3] at hk'; omega
            · rw [if_neg e3] at hk'; omega)]
        · rw [if_neg e2, if_neg (fun h3 => e2 (hlt i h3 e'))]
  · by_cases e : i = p
    · subst e; simp only [if_true]; exact hl.off hb.1
    · simp only [if_neg e]; exact (h.inner i (hlt i hi e)).off (h.apart i (hlt i hi e)).1
  · by_cases e : i = p
    · subst e; simp only [if_true]; exact hb
    · simp only [if_neg e]; exact h.apart i (hlt i hi e)
theorem RTb.other {c : Nat} {u : Value} (h : RTb W n₀ g n k B f) (hc : c < n₀) : RTb (W.setCell ⟨c, 0, none⟩ u) n₀ g n k B f :=
  ⟨owns_block h.outer (Below.heap_setCell _ _ _ _ (by have := h.lt; simp; omega)), fun p hp => (h.inner p hp).off (by have := (h.apart p hp).2; omega), h.apart⟩
theorem RTb.cell (h : RTb W n₀ g n k B f) {p : Nat} (hp : p < n) : W.cell? ⟨g, p, none⟩ = some (if p < k then .slice (some ⟨B p, 0, none⟩) 2 2 else .slice none 0 0) := by
  rw [h.outer.cellAt p (by omega)]
  simp [rowsC, List.getElem?_map, List.getElem?_range hp]
theorem RTb.free (h : RTb W n₀ g n k B f) (p : Nat) : W.frozen? ⟨g, p, none⟩ = false := h.outer.frozenAt p
theorem RTb.rows (h : RTb W n₀ g n n B f) (hn : n ≤ 1000) : Rows W (.slice (some ⟨g, 0, none⟩) n n) ((List.range n).map f) := by
  refine ⟨some ⟨g, 0, none⟩, n, by simp, by unfold big; simp; omega, fun i hi => ?_⟩
  simp only [List.length_map, List.length_range] at hi
  refine ⟨g, 0, .slice (some ⟨B i, 0, none⟩) 2 2, rfl, ?_, ?_⟩
  · rw [Nat.zero_add, h.cell hi, if_pos hi]
  · have e : ((List.range n).map f).getD i [] = f i := by simp [List.getD_eq_getElem?_getD, List.getElem?_map, List.getElem?_range hi]
    rw [e]; exact h.inner i hi
end
end Go.Proofs.YtphpablchlpagaaDoor
namespace Go.Proofs.YtphpablchlpagaaDoor
open Go.RowKit Go.Shelf
theorem Ints.nil (w : World) : Ints w (.slice none 0 0) [] := ⟨none, 0, rfl, by simp, fun i hi => by simp at hi⟩
end Go.Proofs.YtphpablchlpagaaDoor
namespace Go.Proofs.YtphpablchlpagaaDoor
/-- The sum of φ over all words of N letters whose letters other than a are, in their order, those of M. -/
def sW (a : Nat) : Nat → List Nat → (List Nat → Int) → Int
  | N, [], φ => φ (List.replicate N a)
  | 0, _ :: _, _ => 0
  | N + 1, b :: M, φ => sW a N (b :: M) (fun w => φ (a :: w)) + sW a N M (fun w => φ (b :: w))
theorem sW_nil (a N : Nat) (φ : List Nat → Int) : sW a N [] φ = φ (List.replicate N a) := by cases N <;> rfl
theorem sW_zero (a b : Nat) (M : List Nat) (φ : List Nat → Int) : sW a 0 (b :: M) φ = 0 := rfl
theorem sW_cons (a b N : Nat) (M : List Nat) (φ : List Nat → Int) : sW a (N + 1) (b :: M) φ = sW a N (b :: M) (fun w => φ (a :: w)) + sW a N M (fun w => φ (b :: w)) := rfl
theorem sW_zero' (a c : Nat) (M : List Nat) (φ : List Nat → Int) : sW a 0 (M ++ [c]) φ = 0 := by cases M <;> rfl
/-- The same from the words' ends. -/
theorem sW_last (a c : Nat) : ∀ (N : Nat) (M : List Nat) (φ : List Nat → Int), sW a (N + 1) (M ++ [c]) φ = sW a N (M ++ [c]) (fun w => φ (w ++ [a])) + sW a N M (fun w => φ (w ++ [c]))
  | 0, [], φ => by simp [sW_cons, sW_nil, sW_zero]
  | 0, b :: M, φ => by
    rw [List.cons_append, sW_cons, sW_zero, sW_zero', sW_zero, sW_zero]
  | N + 1, [], φ => by
    rw [List.nil_append, sW_cons, sW_nil]
    have ih := sW_last a c N [] (fun w => φ (a :: w))
    rw [List.nil_append, sW_nil] at ih
    rw [ih, sW_cons a c N [] (fun w => φ (w ++ [a])), sW_nil, sW_nil]
    have e1 : (c :: List.replicate N a) ++ [a] = c :: List.replicate (N + 1) a := by rw [List.replicate_succ', List.cons_append]
    have e2 : a :: (List.replicate N a ++ [c]) = List.replicate (N + 1) a ++ [c] := by rw [List.replicate_succ, List.cons_append]
    simp only [List.cons_append] at e1 ⊢
    rw [e1, e2]; omega
  | N + 1, b :: M, φ => by
    rw [List.cons_append, sW_cons]
    have i1 := sW_last a c N (b :: M) (fun w => φ (a :: w))
    have i2 := sW_last a c N M (fun w => φ (b :: w))
    rw [List.cons_append] at i1
    rw [i1, i2, sW_cons a b N (M ++ [c]), sW_cons a b N M]
    simp only [List.cons_append]
    omega
theorem sW_congr {a : Nat} : ∀ {N : Nat} {M : List Nat} {φ ψ : List Nat → Int}, (∀ w, φ w = ψ w) → sW a N M φ = sW a N M ψ := fun h => by
  rw [funext h]
theorem sW_const0 (a : Nat) : ∀ (N : Nat) (M : List Nat), sW a N M (fun _ => 0) = 0
  | N, [] => by rw [sW_nil]
  | 0, b :: M => rfl
  | N + 1, b :: M => by rw [sW_cons, sW_const0 a N (b :: M), sW_const0 a N M]; rfl
theorem sW_add (a : Nat) : ∀ (N : Nat) (M : List Nat) (φ ψ : List Nat → Int), sW a N M (fun w => φ w + ψ w) = sW a N M φ + sW a N M ψ
  | N, [], φ, ψ => by rw [sW_nil, sW_nil, sW_nil]
  | 0, b :: M, φ, ψ => rfl
  | N + 1, b :: M, φ, ψ => by
    rw [sW_cons, sW_cons, sW_cons, sW_add a N (b :: M), sW_add a N M]; omega
theorem sW_sum (a N : Nat) (M : List Nat) (φ : Nat → List Nat → Int) : ∀ k, sW a N M (fun w => sumI (fun i => φ i w) k) = sumI (fun i => sW a N M (φ i)) k
  | 0 => sW_const0 a N M
  | k + 1 => by
    show sW a N M (fun w => sumI (fun i => φ i w) k + φ k w) = sumI (fun i => sW a N M (φ i)) k + sW a N M (φ k)
    rw [sW_add, sW_sum a N M φ k]
/-- Where no term is positive, the sum is not, and if it is 0, they all are. -/
theorem sW_le {a : Nat} : ∀ (N : Nat) (M : List Nat) (φ : List Nat → Int), (∀ b ∈ M, b ≠ a) → (∀ w, w.length = N → w.filter (· != a) = M → φ w ≤ 0) →
    sW a N M φ ≤ 0 ∧ ∀ w, w.length = N → w.filter (· != a) = M → φ w < 0 → sW a N M φ < 0
  | N, [], φ, _, h => by
    rw [sW_nil]
    refine ⟨h _ (by simp) (by simp), fun w hl hf hw => ?_⟩
    have e : w = List.replicate N a := by
      rw [List.eq_replicate_iff]
      refine ⟨hl, fun b hb => ?_⟩
      have := (List.filter_eq_nil_iff.1 hf) b hb
      simpa using this
    rw [← e]; exact hw
  | 0, b :: M, φ, _, _ => ⟨Int.le_refl _, fun w hl hf _ => by
      rw [List.eq_nil_of_length_eq_zero hl] at hf
      simp at hf⟩
  | N + 1, b :: M, φ, hM, h => by
    have hb : b ≠ a := hM b (by simp)
    have hb' : (b != a) = true := by simpa using hb
    obtain ⟨p1, p2⟩ := sW_le N (b :: M) (fun w => φ (a :: w)) hM (fun w hl hf => h _ (by simp [hl]) (by simpa using hf))
    obtain ⟨q1, q2⟩ := sW_le N M (fun w => φ (b :: w)) (fun c hc => hM c (by simp [hc])) (fun w hl hf => h _ (by simp [hl]) (by rw [List.filter_cons_of_pos (p := fun x => x != a) hb', hf]))
    rw [sW_cons]
    refine ⟨by omega, fun w hl hf hw => ?_⟩
    cases w with
    | nil => simp at hl
    | cons x w =>
      by_cases e : x = a
      · subst e
        have := p2 w (by simpa using hl) (by simpa using hf) hw
        omega
      · have hx : (x != a) = true := by simpa using e
        rw [List.filter_cons_of_pos (p := fun x => x != a) hx] at hf
        injection hf with h1 h2
        subst h1
        have := q2 w (by simpa using hl) h2 hw
        omega
/-- How many letters are other than a. -/
def cnt (a : Nat) (w : List Nat) : Nat := (w.filter (· != a)).length
theorem cnt_append (a : Nat) (u v : List Nat) : cnt a (u ++ v) = cnt a u + cnt a v := by simp [cnt]
theorem cnt_rep (a j : Nat) : cnt a (List.replicate j a) = 0 := by simp [cnt]
theorem cnt_one {a b : Nat} (h : b ≠ a) : cnt a [b] = 1 := by simp [cnt, h]
/-- What Dubuc's words sum up to. -/
theorem dubuc_sum {n a t : Nat} (hn : 0 < n) {val : List Nat → Int} (h1 : ∀ u w, val (u ++ (List.replicate n a ++ w)) = val (u ++ w))
    (h2 : ∀ m : List Nat, ∃ k : Nat → Nat, ∀ u w, sumI (fun i => val (u ++ (List.replicate i a ++ (m ++ (List.replicate (n - i) a ++ w))))) n = sumI (fun i => val (u ++ (List.replicate (k i) a ++ w))) n)
    (h3 : ∀ w, cnt a w < t → val w = 0) : ∀ (l : Nat) (M : List Nat), M.length = l + 1 → (∀ b ∈ M, b ≠ a) → ∀ u w, cnt a u + (l + 1) + cnt a w ≤ t → sW a n M (fun m => val (u ++ (m ++ w))) = 0 := by
  intro l
  induction l with
  | zero =>
    intro M hl hM u w hc
    obtain ⟨b, rfl⟩ : ∃ b, M = [b] := List.length_eq_one_iff.1 hl
    have step : ∀ u w, sW a n [b] (fun m => val (u ++ (a :: (m ++ w)))) = sW a n [b] (fun m => val (u ++ (m ++ (a :: w)))) := fun u w => by
      have e1 := sW_cons a b n [] (fun m => val (u ++ (m ++ w)))
      have e2 := sW_last a b n [] (fun m => val (u ++ (m ++ w)))
      rw [List.nil_append, sW_nil] at e2
      rw [sW_nil] at e1
      have k1 : val (u ++ ((b :: List.replicate n a) ++ w)) = val (u ++ (b :: w)) := by
        have := h1 (u ++ [b]) w
        simpa using this
      have k2 : val (u ++ ((List.replicate n a ++ [b]) ++ w)) = val (u ++ (b :: w)) := by
        have := h1 u (b :: w)
        simpa using this
      simp only [List.cons_append, List.append_assoc, List.nil_append] at e1 e2 k1 k2
      omega
    have iter : ∀ i, i ≤ n → sW a n [b] (fun m => val (u ++ (List.replicate i a ++ (m ++ (List.replicate (n - i) a ++ w))))) = sW a n [b] (fun m => val (u ++ (m ++ w))) := by
      intro i
      induction i with
      | zero =>
        intro _
        refine sW_congr fun m => ?_
        have := h1 (u ++ m) w
        simpa using this
      | succ i ih =>
        intro hi
        rw [← ih (by omega)]
        have e := step (u ++ List.replicate i a) (List.replicate (n - (i + 1)) a ++ w)
        have e2 : List.replicate (n - i) a = a :: List.replicate (n - (i + 1)) a := by rw [show n - i = (n - (i + 1)) + 1 by omega, List.replicate_succ]
        rw [e2, List.replicate_succ']
        simp only [List.append_assoc, List.cons_append, List.nil_append] at e ⊢
        exact e
    have tot : sumI (fun i => sW a n [b] (fun m => val (u ++ (List.replicate i a ++ (m ++ (List.replicate (n - i) a ++ w)))))) n = n * sW a n [b] (fun m => val (u ++ (m ++ w))) := by
      rw [← sumI_const]
      exact sumI_congr fun i hi => iter i (by omega)
    have tot2 : sumI (fun i => sW a n [b] (fun m => val (u ++ (List.replicate i a ++ (m ++ (List.replicate (n - i) a ++ w)))))) n = 0 := by
      rw [← sW_sum a n [b] (fun i m => val (u ++ (List.replicate i a ++ (m ++ (List.replicate (n - i) a ++ w)))))]
      rw [← sW_const0 a n [b]]
      refine sW_congr fun m => ?_
      obtain ⟨k, hk⟩ := h2 m
      rw [hk u w]
      have : sumI (fun i => val (u ++ (List.replicate (k i) a ++ w))) n = sumI (fun _ => 0) n := sumI_congr fun i _ => h3 _ (by rw [cnt_append, cnt_append, cnt_rep]; omega)
      rw [this, sumI_const]; simp
    rw [tot] at tot2
    rcases Int.mul_eq_zero.1 tot2 with h | h
    · omega
    · exact h
  | succ l ihl =>
    intro M hl hM u w hc
    have step : ∀ u w, cnt a u + (l + 1 + 1) + cnt a w ≤ t → sW a n M (fun m => val (u ++ (a :: (m ++ w)))) = sW a n M (fun m => val (u ++ (m ++ (a :: w)))) := fun u w hc => by
      obtain ⟨b, M2, rfl⟩ : ∃ b M2, M = b :: M2 := by
        cases M with
        | nil => simp at hl
        | cons b M2 => exact ⟨b, M2, rfl⟩
      obtain ⟨M1, c, hMc⟩ : ∃ M1 c, b :: M2 = M1 ++ [c] := ⟨_, _, (List.dropLast_concat_getLast (by simp)).symm⟩
      have hl1 : M1.length = l + 1 := by
        have := congrArg List.length hMc
        rw [hl, List.length_append] at this
        simpa using this.symm
      have e1 := sW_cons a b n M2 (fun m => val (u ++ (m ++ w)))
      have e2 := sW_last a c n M1 (fun m => val (u ++ (m ++ w)))
      have hcb : c ≠ a := hM c (by rw [hMc]; simp)
      have k1 := ihl M2 (by simpa using hl) (fun x hx => hM x (by simp [hx])) (u ++ [b]) w (by rw [cnt_append, cnt_one (hM b (by simp))]; omega)
      have k2 := ihl M1 hl1 (fun x hx => hM x (by rw [hMc]; simp [hx])) u (c :: w) (by
        have : cnt a (c :: w) = cnt a [c] + cnt a w := by rw [← cnt_append]; rfl
        rw [this, cnt_one hcb]; omega)
      rw [← hMc] at e2
      simp only [List.cons_append, List.append_assoc, List.nil_append] at e1 e2 k1 k2
      omega
    have iter : ∀ i, i ≤ n → sW a n M (fun m => val (u ++ (List.replicate i a ++ (m ++ (List.replicate (n - i) a ++ w))))) = sW a n M (fun m => val (u ++ (m ++ w))) := by
      intro i
      induction i with
      | zero =>
        intro _
        refine sW_congr fun m => ?_
        have := h1 (u ++ m) w
        simpa using this
      | succ i ih =>
        intro hi
        rw [← ih (by omega)]
        have e := step (u ++ List.replicate i a) (List.replicate (n - (i + 1)) a ++ w) (by rw [cnt_append, cnt_append, cnt_rep, cnt_rep]; omega)
        have e2 : List.replicate (n - i) a = a :: List.replicate (n - (i + 1)) a := by rw [show n - i = (n - (i + 1)) + 1 by omega, List.replicate_succ]
        rw [e2, List.replicate_succ']
        simp only [List.append_assoc, List.cons_append, List.nil_append] at e ⊢
        exact e
    have tot : sumI (fun i => sW a n M (fun m => val (u ++ (List.replicate i a ++ (m ++ (List.replicate (n - i) a ++ w)))))) n = n * sW a n M (fun m => val (u ++ (m ++ w))) := by
      rw [← sumI_const]
      exact sumI_congr fun i hi => iter i (by omega)
    have tot2 : sumI (fun i => sW a n M (fun m => val (u ++ (List.replicate i a ++ (m ++ (List.replicate (n - i) a ++ w)))))) n = 0 := by
      rw [← sW_sum a n M (fun i m => val (u ++ (List.replicate i a ++ (m ++ (List.replicate (n - i) a ++ w)))))]
      rw [← sW_const0 a n M]
      refine sW_congr fun m => ?_
      obtain ⟨k, hk⟩ := h2 m
      rw [hk u w]
      have : sumI (fun i => val (u ++ (List.replicate (k i) a ++ w))) n = sumI (fun _ => 0) n := sumI_congr fun i _ => h3 _ (by rw [cnt_append, cnt_append, cnt_rep]; omega)
      rw [this, sumI_const]; simp
    rw [tot] at tot2
    rcases Int.mul_eq_zero.1 tot2 with h | h
    · omega
    · exact h
theorem sumI_first (h : Nat → Int) : ∀ n, sumI (fun i => h (i + 1)) n = sumI h n + h n - h 0
  | 0 => by simp [sumI]
  | n + 1 => by
    show sumI (fun i => h (i + 1)) n + h (n + 1) = sumI h n + h n + h (n + 1) - h 0
    rw [sumI_first h n]; omega
theorem sumI_turn {n : Nat} (h : Nat → Int) (hp : ∀ i, h (i + n) = h i) : ∀ j, sumI (fun i => h (i + j)) n = sumI h n
  | 0 => rfl
  | j + 1 => by
    have e := sumI_first (fun i => h (i + j)) n
    have e2 : sumI (fun i => h (i + (j + 1))) n = sumI (fun i => h (i + 1 + j)) n := sumI_congr fun i _ => by rw [show i + (j + 1) = i + 1 + j by omega]
    rw [e2, e, sumI_turn h hp j]
    have := hp j
    simp only [Nat.zero_add]
    rw [Nat.add_comm n j]; omega
end Go.Proofs.YtphpablchlpagaaDoor
namespace Go.Proofs.YtphpablchlpagaaDoor
open Go.RowKit Go.Shelf
set_option maxRecDepth 100000 in
set_option maxHeartbeats 2000000 in
theorem tValid_any (v : Value) (m : List (List Int)) (w : World) (h : Rows w v m) :
    Calls Tryd.prog 27 #[.agg #[v]] w fun e w' => e = .returned (.bool (validM m)) ∧ Below w.heap.size w w' := by
  obtain ⟨A, cap, rfl, hl, hc⟩ := h
  unfold big at hl
  by_cases h0 : m.length = 0
  · have d0 : decide ((m.length : Int) < 1) = true := by simp [h0]
    clear hc
    go_enter Tryd.func27, Tryd.ntmps27
    go_wp2
    go_ret
    exact ⟨ret_bool (by simp [validM, inB, h0]), bal (Below.refl _ _) _⟩
  have d0 : decide ((m.length : Int) < 1) = false := by simp; omega
  by_cases h1 : 60 < m.length
  · have d1 : decide ((60 : Int) < m.length) = true := by simp; omega
    clear hc
    go_enter Tryd.func27, Tryd.ntmps27
    go_wp2
    go_ret
    have e1 : inB 1 60 m.length = false := inB_false (.inr (by omega))
    exact ⟨ret_bool (by simp [validM, e1]), bal (Below.refl _ _) _⟩
  have d1 : decide ((60 : Int) < m.length) = false := by simp; omega
  obtain ⟨b, off, r0, hA, hcell0, hr0⟩ := hc 0 (by omega)
  subst hA
  obtain ⟨A0, cap0, rfl, hl0, hc0⟩ := hr0
  unfold big at hl0
  rw [Nat.add_zero] at hcell0
  have hbl : b < w.heap.size := World.block_lt_of_cell? _ _ hcell0
  have hlet : (m.getD 0 []).length = letters m := rfl
  rw [hlet] at hcell0 hl0
  have hin : (0 : Int) < m.length := by omega
  clear hc0 hlet
  have Hc := hid hc
  have hX := bal (Below.refl _ w) (.cells #[.slice (some ⟨b, off, none⟩) m.length cap] 24)
  have hbx := (Boxed.new w 24 (.slice (some ⟨b, off, none⟩) m.length cap)).cell
  have hcX := (hX.cell (p := ⟨b, off, none⟩) hbl).trans hcell0
  have Hv := hid (show (1 ≤ letters m ∧ letters m ≤ 6) → validM m = m.all (rowOk m) by
    rintro ⟨a1, a2⟩
    have e1 : inB 1 60 m.length = true := inB_true (by omega)
    have e2 : inB 1 6 (letters m) = true := inB_true (by omega)
    simp [validM, e1, e2])
  have Hn := hid (show ¬ (1 ≤ letters m ∧ letters m ≤ 6) → validM m = false by
    intro a
    have e2 : inB 1 6 (letters m) = false := by
      by_cases h3 : 1 ≤ letters m
      · exact inB_false (.inr (by omega))
      · exact inB_false (.inl (by omega))
    simp [validM, e2])
  clear hc
  go_enter Tryd.func27, Tryd.ntmps27
  go_wp2_with fail
  go_loopw [4] (fun i wr => ∃ k : Nat, k ≤ m.length ∧ i = .int .i64 k ∧ (m.take k).all (rowOk m) = true ∧ (0 < k → 1 ≤ letters m ∧ letters m ≤ 6) ∧ Below w.heap.size w wr ∧ wr.cell? ⟨w.heap.size, 0, none⟩ = some (.slice (some ⟨b, off, none⟩) m.length cap)) (fun i _ => m.length - (intOf i).toNat)
  case atStart => exact ⟨0, Nat.zero_le _, rfl, rfl, fun h => by omega, hX, hbx⟩
  case round =>
    clear hX hbx hcX
    obtain ⟨k, hk, rfl, hall, hlk, hB, hbox⟩ := hrel
    by_cases hlt : k < m.length
    · have hks : (k : Int) < m.length := by omega
      obtain ⟨b', off', r, hA', hcell, hrow⟩ := Hc.out k hlt
      cases hA'
      have hrowc : wr.cell? ⟨b, off + k, none⟩ = some r := (hB.cell (p := ⟨b, off + k, none⟩) hbl).trans hcell
      have Hs := hid (all_snoc_take (rowOk m) m [] k hlt)
      have Hf := hid (all_false_of (rowOk m) m [] k hlt)
      have Hall := hid hall
      clear hcell hall
      generalize m.getD k [] = row at *
      obtain ⟨Ar, capr, rfl, hlr, hcr⟩ := id hrow
      unfold big at hlr
      by_cases hlen : row.length = letters m
      · by_cases hlo : 1 ≤ letters m
        · by_cases hhi : letters m ≤ 6
          · have e1 : ((row.length : Int) != (letters m : Int)) = false := by simp [hlen]
            have e2 : decide ((letters m : Int) < 1) = false := by simp; omega
            have e3 : decide ((6 : Int) < letters m) = false := by simp; omega
            have Hcr := hid hcr
            have HL := hid hlen
            have HV := hid (Hv.out ⟨hlo, hhi⟩)
            have hok := hid (fun (hx : row.all (inB 0 ((m.length : Int) - 1)) = true) => show rowOk m row = true by simp [rowOk, hlen, hx])
            have hno := hid (fun (hx : row.all (inB 0 ((m.length : Int) - 1)) = false) => show rowOk m row = false by simp [rowOk, hx])
            clear hcr hlen hlk hrow
            obtain ⟨wk, rfl⟩ : ∃ wk : World, wk = wr := ⟨_, rfl⟩
            go_wp2_with fail
            go_loopw [5] (fun i wr => ∃ j : Nat, j ≤ letters m ∧ i = .int .i64 j ∧ (row.take j).all (inB 0 ((m.length : Int) - 1)) = true ∧ Below w.heap.size w wr ∧ wr.cell? ⟨w.heap.size, 0, none⟩ = some (.slice (some ⟨b, off, none⟩) m.length cap) ∧ wr.cell? ⟨b, off + k, none⟩ = some (.slice Ar row.length capr)) (fun i _ => letters m - (intOf i).toNat)
            case atStart => exact ⟨0, Nat.zero_le _, rfl, rfl, hB, hbox, hrowc⟩
            case round =>
              clear hB hbox hrowc
              obtain ⟨j, hj, rfl, hrall, hB, hbox, hrowc⟩ := hrel
              by_cases hjl : j < letters m
              · have hjs : (j : Int) < letters m := by omega
                have hjr : j < row.length := by have := HL.out; omega
                have hjr2 : (j : Int) < row.length := by omega
                obtain ⟨br, offr, hAr, hct⟩ := Hcr.out j hjr
                subst hAr
                have c3 := (hB.cell (p := ⟨br, offr + j, none⟩) (World.block_lt_of_cell? _ _ hct)).trans hct
                have hs2 := all_snoc_take (inB 0 ((m.length : Int) - 1)) row 0 j hjr
                rw [hrall, Bool.true_and] at hs2
                have Hs2 := hid hs2
                have Hf2 := hid (all_false_of (inB 0 ((m.length : Int) - 1)) row 0 j hjr)
                clear hct hs2 hrall
                generalize row.getD j 0 = x at *
                by_cases hx0 : x < 0
                · have f1 : decide (x < 0) = true := by simp [hx0]
                  have Hbad := hid (Hf.out (hno.out (Hf2.out (inB_false (.inl hx0)))))
                  go_wp2_with fail
                  go_quiet (fail)
                  go_wp2
                  go_ret
                  exact ⟨ret_bool (by rw [HV.out, Hbad.out]), bdr hB nq⟩
                · have f1 : decide (x < 0) = false := by simp; omega
                  by_cases hx1 : (m.length : Int) ≤ x
                  · have f2 : decide ((m.length : Int) ≤ x) = true := by simp [hx1]
                    have Hbad := hid (Hf.out (hno.out (Hf2.out (inB_false (.inr (by omega))))))
                    go_wp2_with fail
                    go_quiet (fail)
                    go_wp2
                    go_ret
                    exact ⟨ret_bool (by rw [HV.out, Hbad.out]), bdr hB nq⟩
                  · have f2 : decide ((m.length : Int) ≤ x) = false := by simp; omega
                    have hin2 := hid (show inB 0 ((m.length : Int) - 1) x = true from inB_true (by omega))
                    go_wp2_with fail
                    go_quiet (fail)
                    go_wp2
                    go_roundw
                    case rel => exact ⟨j + 1, by omega, by go_num, by rw [Hs2.out]; exact hin2.out, bdr hB nq, ((below_dr _ nq).cell (p := ⟨w.heap.size, 0, none⟩) (World.block_lt_of_cell? _ _ hbox)).trans hbox, ((below_dr _ nq).cell (p := ⟨b, off + k, none⟩) (World.block_lt_of_cell? _ _ hrowc)).trans hrowc⟩
                    case measure => simp [intOf]; omega
              · have hjs : ¬ (j : Int) < letters m := by omega
                have hrow2 : row.all (inB 0 ((m.length : Int) - 1)) = true := by
                  rw [List.take_of_length_le (by have := HL.out; omega)] at hrall
                  exact hrall
                have Hrow := hid (hok.out hrow2)
                clear hrall hrow2
                go_wp2_with fail
                go_roundw
                case rel => exact ⟨k + 1, by omega, by go_num, by rw [Hs.out, Hall.out, Hrow.out]; rfl, fun _ => ⟨hlo, hhi⟩, hB, hbox⟩
                case measure => simp [intOf]; omega
          · have e1 : ((row.length : Int) != (letters m : Int)) = false := by simp [hlen]
            have e2 : decide ((letters m : Int) < 1) = false := by simp; omega
            have e3 : decide ((6 : Int) < letters m) = true := by simp; omega
            have HN := hid (Hn.out (fun a => hhi a.2))
            clear hcr hlen
            go_wp2_with fail
            go_ret
            exact ⟨ret_bool HN.out.symm, hB⟩
        · have e1 : ((row.length : Int) != (letters m : Int)) = false := by simp [hlen]
          have e2 : decide ((letters m : Int) < 1) = true := by simp; omega
          have HN := hid (Hn.out (fun a => hlo a.1))
          clear hcr hlen
          go_wp2_with fail
          go_ret
          exact ⟨ret_bool HN.out.symm, hB⟩
      · have e1 : ((row.length : Int) != (letters m : Int)) = true := by simp; omega
        have hbad : rowOk m row = false := by simp [rowOk, hlen]
        have HN : Hid (validM m = false) := hid (by
          by_cases hh : 1 ≤ letters m ∧ letters m ≤ 6
          · rw [Hv.out hh]; exact Hf.out hbad
          · exact Hn.out hh)
        clear hcr hlen hbad
        go_wp2_with fail
        go_ret
        exact ⟨ret_bool HN.out.symm, hB⟩
    · obtain rfl : k = m.length := by omega
      have hks : ¬ ((m.length : Nat) : Int) < m.length := by omega
      have hh := hall
      rw [List.take_length] at hh
      have HV := hid ((Hv.out (hlk (by omega))).trans hh)
      clear hall hh
      go_wp2_with fail
      go_ret
      exact ⟨ret_bool HV.out.symm, hB⟩
theorem tValid_bool (v : Value) (m : List (List Int)) (b : Bool) (w : World) (h : Rows w v m) (hb : validM m = b) :
    Calls Tryd.prog 27 #[.agg #[v]] w fun e w' => e = .returned (.bool b) ∧ Below w.heap.size w w' := by
  subst hb; exact tValid_any v m w h
end Go.Proofs.YtphpablchlpagaaDoor
namespace Go.Proofs.YtphpablchlpagaaDoor
open Go.RowKit Go.Shelf
/-- Two lists, just laid one beside the other; three. -/
theorem LRows.below {w w' : World} {g n : Nat} {vs : Nat → Value} {ls : List (List Int)} (h : LRows w g n vs ls) (hb : Below w.heap.size w w') : LRows w' g n vs ls :=
  ⟨h.1, fun i hi => ⟨(hb.cell (p := ⟨g, i, none⟩) (World.block_lt_of_cell? _ _ (h.2 i hi).1)).trans (h.2 i hi).1, (h.2 i hi).2.below hb⟩⟩
end Go.Proofs.YtphpablchlpagaaDoor
namespace Go.Proofs.YtphpablchlpagaaDoor
open Go.RowKit Go.Shelf
theorem tLead_as (v u : Value) (m : List (List Int)) (s t : Nat) (l : List Int) (w : World) (h : Rows w v m) (hu : Ints w u l) (hv : validM m = true) (hs : s < m.length) (hw : l.all (inB 0 ((letters m : Int) - 1)) = true) (ht : Hid (runM m s l = t)) :
    Calls Tryd.prog 30 #[.agg #[v], .int .i64 s, u] w fun e w' => e = .returned (.int .i64 t) ∧ Below w.heap.size w w' := by
  rw [← ht.out]; exact tLead_any v u m s l w h hu hv hs hw
end Go.Proofs.YtphpablchlpagaaDoor
