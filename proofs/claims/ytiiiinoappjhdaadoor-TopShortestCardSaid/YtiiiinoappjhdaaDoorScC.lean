/-
  Texts that the proof of the law stands on: E7, E8, K2, E9, RangeIn, PairEq, E11, E12, E15, E16, Y16, Y17, L4, MApp, H3, G5, H4, H2, Y26.
-/
import Derived.Test.YtiiiinoappjhdaaDoorScB
import Derived.RegionTactic
import Derived.ChangeAlike
import Derived.Deep.DeepMust
import Derived.ChangeKeysEq
import Derived.Laws.StructEq
import Derived.Shelf.RegionOpen
import Derived.Deep.RegionHeld3
import Derived.Deep.CutRange
import Derived.Maps.AppendAt
import Derived.Deep.AppendLies
namespace Go.Proofs.YtiiiinoappjhdaaDoor
open Go.RowKit Go.Shelf
theorem infoPair : (Tryd.prog.info? 80).map (fun i => (i.zero, i.size, i.bytes)) = some (some (.agg #[.int .i64 0, .int .i64 0]), 2, 16) := by kernel_rfl
theorem add_block (a : Addr) (k : Nat) : (a.add k).block = a.block := by unfold Addr.add; split <;> rfl
theorem pair_new (w : World) (t : TypeId) (u v : Value) (B : Nat) (hB : w.heap.size = B) : ∀ k x, [u, v][k]? = some x → (w.alloc (.cells #[u, v] t)).cell? ((⟨B, 0, none⟩ : Addr).add k) = some x := by
  subst hB
  intro k x hx
  have hk : k < 2 := by
    have := (List.getElem?_eq_some_iff.1 hx).1
    simpa using this
  have h2 : k = 0 ∨ k = 1 := by omega
  rcases h2 with rfl | rfl <;> simp at hx <;> subst hx <;> simp [Addr.add]
set_option maxRecDepth 100000 in
set_option maxHeartbeats 8000000 in
theorem mergers_any (v : Value) (m : List (List Int)) (w : World) (h : Rows w v m) (hv : validM m = true) :
    Calls Tryd.prog 50 #[.agg #[v]] w fun e w' => ∃ B, e = .returned (.map (some B)) ∧ LenMap m w' B ∧ Below w.heap.size w w' := by
  obtain ⟨i0, hi, hz0, hz1, hz2⟩ := info_parts infoPair
  obtain ⟨p1, p2, p3, p4, p5⟩ := valid_parts hv
  obtain ⟨A, cap, rfl, hml, hcm⟩ := id h
  have Hcm := hid hcm
  have Hp5 := hid p5
  have hX := bal (bal (Below.refl _ w) (.cells #[.slice A m.length cap] 24)) (.map #[] 0)
  have hbx := (Boxed.new w 24 (.slice A m.length cap)).cell
  have hbx1 := ((bal (Below.refl _ _) (.map #[] 0)).cell (p := ⟨w.heap.size, 0, none⟩) (World.block_lt_of_cell? _ _ hbx)).trans hbx
  have hG0 := Grp.made (w.alloc (.cells #[.slice A m.length cap] 24)) (w.heap.size + 1)
  rw [World.size_alloc] at hG0
  have hmm := @run_makeMap Tryd.prog
  clear p5 hcm hbx
  go_enter Tryd.func50, Tryd.ntmps50
  go_wp2_with fail
  generalize hWX : (w.alloc (.cells #[.slice A m.length cap] 24)).alloc (.map #[] 0) = X at *
  clear hWX
  go_loopw [20] (fun pv wr => ∃ (p N : Nat) (V : Nat → Nat → Value) (L : Nat → Nat → List (Nat × Nat)), p ≤ m.length ∧ pv = .int .i64 (p : Nat) ∧ N ≤ p * 3600 ∧ Grp wr (w.heap.size + 1) (w.heap.size + 1) N V L ∧ LB m p (p + 1) 0 L ∧ (∀ a d, (L a d).length ≤ N) ∧ Below w.heap.size w wr ∧ wr.cell? ⟨w.heap.size, 0, none⟩ = some (.slice A m.length cap)) (fun pv _ => m.length - (intOf pv).toNat)
  case atStart => exact ⟨0, 0, _, _, Nat.zero_le _, rfl, Nat.le_refl _, hG0, LB.start m, fun _ _ => Nat.le_refl _, hX, hbx1⟩
  case round =>
    clear hG0 hX hbx1
    obtain ⟨p, N, V, L, hp, rfl, hN, hG, hL, hLN, hB, hbx⟩ := hrel
    by_cases hpl : p < m.length
    · have hps : (p : Int) < m.length := by omega
      obtain ⟨b1, o1, r1, hA, hcell, hrow⟩ := Hcm.out p hpl
      subst hA
      have hrl := (Hp5.out p hpl).1
      obtain ⟨Ar, capr, rfl, -, -⟩ := id hrow
      rw [hrl] at hcell
      have HG := hid hG
      have HL := hid hL
      have HLN := hid hLN
      clear hG hL hLN hrow
      obtain ⟨wo, rfl⟩ : ∃ wo : World, wo = wr := ⟨_, rfl⟩
      go_wp2_with fail
      go_loopw [5] (fun qv wr => ∃ (q N : Nat) (V : Nat → Nat → Value) (L : Nat → Nat → List (Nat × Nat)), p + 1 ≤ q ∧ q ≤ m.length ∧ qv = .int .i64 (q : Nat) ∧ N ≤ p * 3600 + q * 60 ∧ Grp wr (w.heap.size + 1) (w.heap.size + 1) N V L ∧ LB m p q 0 L ∧ (∀ a d, (L a d).length ≤ N) ∧ Below w.heap.size w wr ∧ wr.cell? ⟨w.heap.size, 0, none⟩ = some (.slice (some ⟨b1, o1, none⟩) m.length cap)) (fun qv _ => m.length - (intOf qv).toNat)
      case atStart => exact ⟨p + 1, N, V, L, Nat.le_refl _, by omega, by go_num, by omega, HG.out, HL.out, HLN.out, hB, hbx⟩
      case round =>
        clear HG HL HLN hB hbx
        obtain ⟨q, N, V, L, hpq, hq, rfl, hN, hG, hL, hLN, hB, hbx⟩ := hrel
        by_cases hql : q < m.length
        · have hqs : (q : Int) < m.length := by omega
          have HG := hid hG
          have HL := hid hL
          have HLN := hid hLN
          have hcell1 := (hB.cell (p := ⟨b1, o1 + p, none⟩) (World.block_lt_of_cell? _ _ hcell)).trans hcell
          clear hG hL hLN
          obtain ⟨wo2, rfl⟩ : ∃ wo : World, wo = wr := ⟨_, rfl⟩
          go_wp2_with fail
          go_loopw [38] (fun xv wr => ∃ (x N : Nat) (V : Nat → Nat → Value) (L : Nat → Nat → List (Nat × Nat)), x ≤ letters m ∧ xv = .int .i64 (x : Nat) ∧ N ≤ p * 3600 + q * 60 + x ∧ Grp wr (w.heap.size + 1) (w.heap.size + 1) N V L ∧ LB m p q x L ∧ (∀ a d, (L a d).length ≤ N) ∧ Below w.heap.size w wr ∧ wr.cell? ⟨w.heap.size, 0, none⟩ = some (.slice (some ⟨b1, o1, none⟩) m.length cap)) (fun xv _ => letters m - (intOf xv).toNat)
          case atStart => exact ⟨0, N, V, L, Nat.zero_le _, rfl, by omega, HG.out, HL.out, HLN.out, hB, hbx⟩
          case round =>
            clear HG HL HLN hB hbx
            obtain ⟨x, N, V, L, hx, rfl, hN, hG, hL, hLN, hB, hbx⟩ := hrel
            by_cases hxl : x < letters m
            · have hxs : (x : Int) < letters m := by omega
              have HG := hid hG
              have HL := hid hL
              have HLN := hid hLN
              clear hG hL hLN
              obtain ⟨hn1, -⟩ := nx_ok hv (s := p) hpl (x := (x : Int)) (by omega) (by omega)
              obtain ⟨hq1, -⟩ := nx_ok hv (s := q) hql (x := (x : Int)) (by omega) (by omega)
              have hHb := h.below hB
              go_wp2_with fail
              refine (lead_pair _ m p q x _ hHb hv hpl hql hxl).mono ?_
              rintro e y1 ⟨rfl, hy1⟩
              have hcl := canon_le (nx m p (x : Int)) (nx m q (x : Int))
              have hct := canon_lt hn1 hq1
              obtain ⟨i, j, hij⟩ : ∃ i j, canon (nx m p (x : Int)) (nx m q (x : Int)) = (i, j) := ⟨_, _, rfl⟩
              have HIJ := hid hij
              simp only [hij] at hcl hct ⊢
              clear hij
              have hB1 := btr hB hy1
              have hZ : Below wr.heap.size wr ((y1.alloc (.cells #[.int .i64 i, .int .i64 j] 80)).alloc (.cells #[.int .i64 p, .int .i64 q] 80)) := bal (bal hy1 _) _
              have hGZ := HG.out.below hZ
              obtain ⟨T0, c0, hm0⟩ := hGZ.map
              obtain ⟨st, W1, he1, he2, he3, he4⟩ := hm0.entry Tryd.underlying89 zeroPairs (by unfold maxLen; omega) (p := i) (q := j) (by omega) (by omega)
              have hbl := hm0.lt
              obtain ⟨_, _, hm9⟩ := HG.out.map
              have hbl0 := hm9.lt
              clear hm9
              have hrow1 := (hGZ.rows i j).kept he2 (.inr (hGZ.off i j))
              have hnews := fun k u (hu : [Value.int .i64 (p : Nat), .int .i64 (q : Nat)][k]? = some u) => he2.cell (pair_new (y1.alloc (.cells #[.int .i64 i, .int .i64 j] 80)) 80 _ _ _ (World.size_alloc _ _) k u hu) (by
                have := hy1.size
                rw [add_block]
                intro e
                injection e with e
                simp only at e
                omega)
              have hNij := HLN.out i j
              have hbxZ := (hZ.cell (p := ⟨w.heap.size, 0, none⟩) (World.block_lt_of_cell? _ _ hbx)).trans hbx
              have hBZ := btr hB hZ
              have Hfin := hid (fun (w' w3 : World) (h2 : W1.grownBy w' (V i j).ownBlock) (h3 : w'.grownBy w3 (some (w.heap.size + 1))) => hGZ.turned rfl (Nat.lt_succ_self _) hBZ he2 h2 h3)
              have Hstep := hid (fun (w' w3 : World) (v' : Value) (T : Nat → Nat → Bool) (c' : Nat) (ho) (h2) (hat) (hm) (h3) => hGZ.step (w' := w') (w3 := w3) (i := i) (j := j) (p := p) (q := q) (c' := c') (T := T) (v' := v') he2 he3 ho h2 hat hm h3)
              have Hoff := hid (hGZ.off i j)
              have Hrow1 := hid hrow1
              have Hnews := hid hnews
              have Hhe4 := hid he4
              have hs1 : W1.heap.size = y1.heap.size + 1 + 1 := by rw [he3]; simp
              have hsz1 := hB1.size
              have Hs1 := hid hs1
              have Hbx := hid (hbxZ)
              have HBl := hid hbl
              clear hrow1 hnews he4 hGZ hm0 hbl hZ hBZ hs1 hy1 hHb hbx hbxZ he2 he3
              go_wp2_with (at_builtin; refine wpList_append_own_at _ rfl _ _ 91 rfl (w.heap.size + 1) 80 i0 (.agg #[.int .i64 0, .int .i64 0]) 2 16 Tryd.underlying91 hi hz0 hz1 hz2 rfl (by decide) _ _ _ rfl Hrow1.out ⟨y1.heap.size + 1, 0, none⟩ 1 1 [.int .i64 p, .int .i64 q] rfl rfl Hnews.out (by simp [Value.oneCell']) (by unfold maxLen; omega) (by omega) (by rw [Hs1.out]; omega) ?_; intro v' w5 hown' hgrow' _ hat; obtain ⟨w3, c', k1, k2, k3⟩ := Hhe4.out w5 v' (hgrow'.block _ (by rw [Hs1.out]; omega) (fun e => Hoff.out e.symm)); have k1' : (Instr.entryStore 89 (.map (some (w.heap.size + 1))) (.int .i64 st) v').run Tryd.prog w5 = .ok () w3 := k1; have HG3 := hid (Hstep.out w5 w3 v' _ c' hown' hgrow' hat k2 k3); have HF3 := hid (Hfin.out w5 w3 hgrow' k3); clear k1 k2 k3 hown' hgrow' hat)
              go_roundw
              case rel =>
                obtain ⟨f1, _, f3⟩ := HF3.out
                exact ⟨x + 1, N + 1, _, _, by omega, by go_num, by omega, HG3.out, HL.out.add (by omega) hql hxl HIJ.out, upd_len HLN.out, f1, f3 _ Hbx.out⟩
              case measure => simp [intOf]; omega
            · obtain rfl : x = letters m := by omega
              have hxs : ¬ ((letters m : Nat) : Int) < letters m := by omega
              have HG := hid hG
              have HL := hid hL
              have HLN := hid hLN
              clear hG hL hLN
              go_wp2_with fail
              go_roundw
              case rel => exact ⟨q + 1, N, V, L, by omega, by omega, by go_num, by omega, HG.out, HL.out.nextq, HLN.out, hB, hbx⟩
              case measure => simp [intOf]; omega
        · obtain rfl : q = m.length := by omega
          have hqs : ¬ ((m.length : Nat) : Int) < m.length := by omega
          have HG := hid hG
          have HL := hid hL
          have HLN := hid hLN
          clear hG hL hLN
          go_wp2_with fail
          go_roundw
          case rel => exact ⟨p + 1, N, V, L, by omega, by go_num, by omega, HG.out, HL.out.nextp, HLN.out, hB, hbx⟩
          case measure => simp [intOf]; omega
    · obtain rfl : p = m.length := by omega
      have hps : ¬ ((m.length : Nat) : Int) < m.length := by omega
      have HG := hid hG
      have HLd := hid hL.done
      have HLN := hid hLN
      clear hG hL hLN
      have hlb := World.block_lt_of_cell? _ _ hbx
      simp only at hlb
      have hbx2 := ((bal (Below.refl _ wr) (.map #[] 0)).cell (p := ⟨w.heap.size, 0, none⟩) hlb).trans hbx
      have hM0 := hid (LMap.made wr)
      go_wp2_with fail
      obtain ⟨W0, rfl⟩ : ∃ wo : World, wo = wr := ⟨_, rfl⟩
      have hB0 := bal (Below.refl _ W0) (.map #[] 0)
      have HB := hid hB
      have Hbx := hid hbx
      go_loopw [9, 63] (fun fv sv wr => ∃ s : Nat, s ≤ m.length ∧ sv = .int .i64 (s : Nat) ∧ LMap wr W0.heap.size (diag0 s) ∧ PRow wr (W0.heap.size + 1) fv (keysF (diag0 s)) ∧ Below W0.heap.size W0 wr) (fun _ sv _ => m.length - (intOf sv).toNat)
      case atStart => exact ⟨0, Nat.zero_le _, rfl, hM0.out, World.ownsRow_nil _ _ _ _, hB0⟩
      case round =>
        clear hM0 hB0 hbx2 hB hbx
        obtain ⟨s, hs, rfl, hM, hP, hB⟩ := hrel
        by_cases hsl : s < m.length
        · have hss : (s : Int) < m.length := by omega
          have hkl : (keysF (diag0 s)).length = s := by rw [keysF_len, diag0_len]
          obtain ⟨w2, g1, g2, g3⟩ := hM.put (by rw [diag0_len]; omega) (p := s) (q := s) (by omega) (by omega) 0 (inF_diag s)
          have g1' : (Instr.mapUpdate 75 (.map (some W0.heap.size)) (.agg #[.int .i64 s, .int .i64 s]) (.int .i64 0)).run Tryd.prog wr = .ok () w2 := g1
          obtain ⟨B2, P2⟩ := found_stored hB hP g3
          have P2' : w2.ownsRow (W0.heap.size + 1) 80 2 u9 s (pairCells (keysF (diag0 s))) := by have := P2; unfold PRow at this; rwa [hkl] at this
          have Hfin := hid (fun (w5 : World) (v' : Value) (o : Obj) (hown : w5.ownsRow (W0.heap.size + 1) 80 2 v' (s + 1) (pairCells (keysF (diag0 s)) ++ [.int .i64 s, .int .i64 s])) (hgrow : (w2.alloc o).grownBy w5 u9.ownBlock) =>
            found_pushed (p := s) (q := s) o B2 P2 g2 (by rw [hkl]; exact hown) hgrow)
          have hw2 := B2.size
          have HP2 := hid (P2'.alloc (.cells #[.int .i64 s, .int .i64 s] 80))
          clear hM hP g1 g2 g3 B2 P2 P2' hB
          go_wp2_with (at_builtin; refine wpList_append_own_at _ rfl _ _ 91 rfl (W0.heap.size + 1) 80 i0 (.agg #[.int .i64 0, .int .i64 0]) 2 16 Tryd.underlying91 hi hz0 hz1 hz2 rfl (by decide) _ _ _ rfl HP2.out ⟨w2.heap.size, 0, none⟩ 1 1 [.int .i64 s, .int .i64 s] rfl rfl (pair_new w2 80 _ _ _ rfl) (by simp [Value.oneCell']) (by unfold maxLen; omega) (by omega) (by simp; omega) ?_; intro v' w5 hown' hgrow' _ hat; have HF := hid (Hfin.out w5 v' _ hown' hgrow'); clear hown' hgrow' hat)
          go_roundw
          case rel =>
            obtain ⟨f1, f2, f3⟩ := HF.out
            refine ⟨s + 1, by omega, by go_num, ?_, ?_, f1⟩
            · rw [diag0_succ]; exact f2
            · rw [diag0_succ, keysF_snoc]; exact f3
          case measure => simp [intOf]; omega
        · obtain rfl : s = m.length := by omega
          have hss : ¬ ((m.length : Nat) : Int) < m.length := by omega
          have HM := hid hM
          have HP := hid hP
          clear hM hP
          go_wp2_with fail
          have hmm60 : m.length * m.length ≤ 3600 := Nat.mul_le_mul (show m.length ≤ 60 by omega) (show m.length ≤ 60 by omega)
          go_loopw [9, 11] (fun fv iv wr => ∃ (i : Nat) (F : List (Nat × Nat × Nat)), i ≤ F.length ∧ iv = .int .i64 (i : Nat) ∧ MB m F i ∧ LMap wr W0.heap.size F ∧ PRow wr (W0.heap.size + 1) fv (keysF F) ∧ Below W0.heap.size W0 wr) (fun _ iv _ => 3600 - (intOf iv).toNat)
          case atStart => exact ⟨0, _, Nat.zero_le _, rfl, MB.start m, HM.out, HP.out, hB⟩
          case round =>
            clear HM HP hB
            obtain ⟨i, F, hi', rfl, hMB, hM, hP, hB⟩ := hrel
            have hFl := hMB.len
            have HM := hid hM
            have HMB := hid hMB
            obtain ⟨fA, fcap, hfv⟩ := ownsRow_slice hP
            rw [keysF_len] at hfv
            subst hfv
            by_cases hil : i < F.length
            · have his : (i : Int) < F.length := by omega
              obtain ⟨e, he⟩ : ∃ e, F[i]? = some e := ⟨_, List.getElem?_eq_getElem hil⟩
              obtain ⟨e1, e2, el⟩ := e
              have hee := hMB.ok _ (List.mem_of_getElem? he)
              simp only at hee
              have hP' := hP
              unfold PRow at hP'
              obtain ⟨g, cg, hgs⟩ := ownsRow_pos' hP' (by rw [keysF_len]; omega)
              simp only [Value.slice.injEq] at hgs
              obtain ⟨rfl, -, rfl⟩ := hgs
              have hc := hP.cell (keysF_get he)
              simp only at hc
              obtain ⟨c1, c2⟩ := hc
              have hGr := HG.out.below hB
              obtain ⟨T0, c0, hm0⟩ := hGr.map
              have hlk := hm0.look Tryd.underlying89 (zeroPairs wr) (p := e1) (q := e2) (by omega) (by omega)
              have hrow := hGr.rows e1 e2
              unfold PRow at hrow
              obtain ⟨LA, lcap, hVs⟩ := ownsRow_slice hrow
              rw [hVs] at hlk hrow
              have Hrow := hid hrow
              have HVs := hid hVs
              have He := hid he
              have HP := hid hP
              have HLd2 := hid (fun x => HLd.out e1 e2 x)
              have hln := HLN.out e1 e2
              clear hVs hrow hm0 hGr hP hP' he hM hMB
              obtain ⟨wo, rfl⟩ : ∃ wo : World, wo = wr := ⟨_, rfl⟩
              go_wp2_with fail
              go_loopw [9, 90] (fun fv kv wr => ∃ (k : Nat) (F : List (Nat × Nat × Nat)), k ≤ (L e1 e2).length ∧ kv = .int .i64 (k : Nat) ∧ MB m F i ∧ F[i]? = some (e1, e2, el) ∧ (∀ j, j < k → ∀ d, (L e1 e2)[j]? = some d → ∃ l, (d.1, d.2, l) ∈ F) ∧ LMap wr W0.heap.size F ∧ PRow wr (W0.heap.size + 1) fv (keysF F) ∧ Below W0.heap.size W0 wr) (fun _ kv _ => (L e1 e2).length - (intOf kv).toNat)
              case atStart => exact ⟨0, F, Nat.zero_le _, rfl, HMB.out, He.out, fun j hj => by omega, HM.out, HP.out, hB⟩
              case round =>
                clear HMB He HM HP hB hlk c1 c2
                obtain ⟨k, F, hk, rfl, hMB, he, hcl, hM, hP, hB⟩ := hrel
                have hFl := hMB.len
                have hil := (List.getElem?_eq_some_iff.1 he).1
                have his : (i : Int) < F.length := by omega
                have hee := hMB.ok _ (List.mem_of_getElem? he)
                simp only at hee
                have hel := mdist_lt hv (by omega) hee.2.1 hee.2.2
                have hP' := hP
                unfold PRow at hP'
                obtain ⟨g, fcap, rfl⟩ := ownsRow_pos' hP' (by rw [keysF_len]; omega)
                rw [keysF_len] at hP hP' ⊢
                have HP := hid hP
                have HMB := hid hMB
                have He := hid he
                have Hcl := hid hcl
                by_cases hkl : k < (L e1 e2).length
                · have hks : (k : Int) < (L e1 e2).length := by omega
                  obtain ⟨d, hd⟩ : ∃ d, (L e1 e2)[k]? = some d := ⟨_, List.getElem?_eq_getElem hkl⟩
                  have hdm := (HLd2.out d).1 (List.mem_of_getElem? hd)
                  obtain ⟨p, q⟩ := d
                  simp only at hdm
                  obtain ⟨hpq, hq, x', hx', hcan⟩ := hdm
                  have hGr := HG.out.below hB
                  have hrow := hGr.rows e1 e2
                  unfold PRow at hrow
                  rw [HVs.out] at hrow
                  obtain ⟨g2, cg2, hgs⟩ := ownsRow_pos' hrow (by omega)
                  simp only [Value.slice.injEq] at hgs
                  obtain ⟨rfl, -, rfl⟩ := hgs
                  have hc := PRow.cell hrow hd
                  simp only at hc
                  obtain ⟨c1, c2⟩ := hc
                  have hMZ : LMap (wr.alloc (.cells #[.int .i64 p, .int .i64 q] 80)) W0.heap.size F := hM.kept (Below.heap_alloc _ _ _ (PMap.lt hM))
                  have hlk := PMap.look_ok hMZ Tryd.underlying75 (zeroInt _) (p := p) (q := q) (by omega) (by omega)
                  have Hd := hid hd
                  clear hrow hGr hd hP' hMB he hcl
                  cases hin : inF F p q with
                  | true =>
                    rw [hin] at hlk
                    have HMZ := hid hMZ
                    have Hin := hid hin
                    have hBZ := bal hB (.cells #[.int .i64 p, .int .i64 q] 80)
                    have HPZ := hid (World.ownsRow.alloc hP (.cells #[.int .i64 p, .int .i64 q] 80))
                    clear hM hMZ hP hin hB HP
                    go_wp2_with fail
                    go_roundw
                    case rel =>
                      refine ⟨k + 1, F, by omega, by go_num, HMB.out, He.out, fun j hj d hd => ?_, HMZ.out, HPZ.out, hBZ⟩
                      by_cases e : j = k
                      · subst e
                        rw [Hd.out] at hd
                        cases hd
                        exact inF_iff.1 Hin.out
                      · exact Hcl.out j (by omega) d hd
                    case measure => simp [intOf]; omega
                  | false =>
                    rw [hin] at hlk
                    have hBZ := bal hB (.cells #[.int .i64 p, .int .i64 q] 80)
                    have hPZ : PRow (wr.alloc (.cells #[.int .i64 p, .int .i64 q] 80)) (W0.heap.size + 1) (.slice (some ⟨g, 0, none⟩) F.length fcap) (keysF F) := World.ownsRow.alloc hP _
                    have k1 : (wr.alloc (.cells #[.int .i64 p, .int .i64 q] 80)).cell? ⟨wr.heap.size, 0, none⟩ = some (.int .i64 p) := new_cell wr #[.int .i64 p, .int .i64 q] 80 0 _ rfl
                    have k2 : (wr.alloc (.cells #[.int .i64 p, .int .i64 q] 80)).cell? ⟨wr.heap.size, 1, none⟩ = some (.int .i64 q) := new_cell wr #[.int .i64 p, .int .i64 q] 80 1 _ rfl
                    have hsz := hB.size
                    have hM1 := PMap.lt hM
                    go_wp2_with fail
                    generalize hWZ : wr.alloc (.cells #[.int .i64 p, .int .i64 q] 80) = Z at *
                    have hMD : LMap Z.drew W0.heap.size F := hMZ
                    have hPD : PRow Z.drew (W0.heap.size + 1) (.slice (some ⟨g, 0, none⟩) F.length fcap) (keysF F) := hPZ
                    have hBD : Below W0.heap.size W0 Z.drew := bdrew hBZ
                    have hlk2 := PMap.look hMD Tryd.underlying75 (zeroInt _) (p := e1) (q := e2) (by omega) (by omega)
                    have hle : lenIn F e1 e2 = el := lenIn_mem HMB.out (List.mem_of_getElem? He.out)
                    rw [hle] at hlk2
                    have hcF := hPD.cell (keysF_get He.out)
                    simp only at hcF
                    obtain ⟨c3, c4⟩ := hcF
                    obtain ⟨w2, g1, g2, g3⟩ := hMD.put (by omega) (p := p) (q := q) (by omega) (by omega) (el + 1) hin
                    have g1' : (Instr.mapUpdate 75 (.map (some W0.heap.size)) (.agg #[.int .i64 p, .int .i64 q]) (.int .i64 ((el : Int) + 1))).run Tryd.prog Z.drew = .ok () w2 := g1
                    obtain ⟨B2, P2⟩ := found_stored hBD hPD g3
                    have hkl2 := keysF_len F
                    have P2' : w2.ownsRow (W0.heap.size + 1) 80 2 (.slice (some ⟨g, 0, none⟩) F.length fcap) F.length (pairCells (keysF F)) := by have := P2; unfold PRow at this; rwa [hkl2] at this
                    have Hfin := hid (fun (w5 : World) (v' : Value) (o : Obj) (hown : w5.ownsRow (W0.heap.size + 1) 80 2 v' (F.length + 1) (pairCells (keysF F) ++ [.int .i64 p, .int .i64 q])) (hgrow : (w2.alloc o).grownBy w5 (Value.slice (some ⟨g, 0, none⟩) F.length fcap).ownBlock) =>
                      found_pushed (p := p) (q := q) o B2 P2 g2 (by rw [hkl2]; exact hown) hgrow)
                    have hw2 := B2.size
                    have HP2 := hid (P2'.alloc (.cells #[.int .i64 p, .int .i64 q] 80))
                    have k3 : w2.cell? ⟨wr.heap.size, 0, none⟩ = some (.int .i64 p) := g3.cell (a := ⟨wr.heap.size, 0, none⟩) k1 (by simp; omega)
                    have k4 : w2.cell? ⟨wr.heap.size, 1, none⟩ = some (.int .i64 q) := g3.cell (a := ⟨wr.heap.size, 1, none⟩) k2 (by simp; omega)
                    have Hadd := hid (MB.add hv HMB.out He.out hpq hq hx' hcan (inF_false hin))
                    simp only at Hadd
                    have c3' := c3
                    have c4' := c4
                    clear hM hMZ hP HP hPZ hMD hPD hBD hBZ g1 g2 g3 B2 P2 P2' hkl2 hle hB hWZ hlk hin hcan c1 c2
                    go_region
                    go_wp2_with (at_builtin; refine wpList_append_own_at _ rfl _ _ 91 rfl (W0.heap.size + 1) 80 i0 (.agg #[.int .i64 0, .int .i64 0]) 2 16 Tryd.underlying91 hi hz0 hz1 hz2 rfl (by decide) _ _ _ rfl HP2.out ⟨w2.heap.size, 0, none⟩ 1 1 [.int .i64 p, .int .i64 q] rfl rfl (pair_new w2 80 _ _ _ rfl) (by simp [Value.oneCell']) (by unfold maxLen; omega) (by omega) (by simp; omega) ?_; intro v' w5 hown' hgrow' _ hat; have HF := hid (Hfin.out w5 v' _ hown' hgrow'); clear hown' hgrow' hat)
                    go_roundw
                    case rel =>
                      obtain ⟨f1, f2, f3⟩ := HF.out
                      refine ⟨k + 1, F ++ [(p, q, el + 1)], by omega, by go_num, Hadd.out, by rw [List.getElem?_append_left hil]; exact He.out, fun j hj d hd => ?_, f2, by rw [keysF_snoc]; exact f3, f1⟩
                      by_cases e : j = k
                      · subst e
                        rw [Hd.out] at hd
                        cases hd
                        exact ⟨el + 1, List.mem_append_right _ (by simp)⟩
                      · obtain ⟨l, hl⟩ := Hcl.out j (by omega) d hd
                        exact ⟨l, List.mem_append_left _ hl⟩
                    case measure => simp [intOf]; omega
                · obtain rfl : k = (L e1 e2).length := by omega
                  have hks : ¬ (((L e1 e2).length : Nat) : Int) < (L e1 e2).length := by omega
                  have HM := hid hM
                  clear hM hP hP' hMB he hcl
                  go_wp2_with fail
                  go_roundw
                  case rel =>
                    refine ⟨i + 1, F, by omega, by go_num, HMB.out.next He.out fun p q x a1 a2 a3 a4 => ?_, HM.out, HP.out, hB⟩
                    have hmem := (HLd2.out (p, q)).2 ⟨a1, a2, x, a3, a4⟩
                    obtain ⟨j, hj, hje⟩ := List.mem_iff_getElem.1 hmem
                    exact Hcl.out j hj (p, q) (by rw [List.getElem?_eq_getElem hj, hje])
                  case measure => simp [intOf]; omega
            · obtain rfl : i = F.length := by omega
              have his : ¬ ((F.length : Nat) : Int) < F.length := by omega
              have HLM := hid (LMap.done hv p2 hM hMB)
              have HBB := hid ((HB.out).trans (hB.mono HB.out.size))
              clear hM hMB hP
              go_wp2_with fail
              go_ret
              exact ⟨_, rfl, HLM.out, HBB.out⟩
end Go.Proofs.YtiiiinoappjhdaaDoor
namespace Go.Proofs.YtiiiinoappjhdaaDoor
open Go.RowKit Go.Shelf
/-- How many elements a slice has. -/
def sliceLen : Value → Nat
  | .slice _ n _ => n
  | _ => 0
theorem LenMap.find {m : List (List Int)} {w : World} {B : Nat} (hv : validM m = true) (hL : LenMap m w B) {p q r : Nat} (hpq : p ≤ q) (hq : q < m.length) (hd : mdist m p q r) :
    (Instr.lookup 75 (.map (some B)) (.agg #[.int .i64 p, .int .i64 q]) false).run Tryd.prog w = .ok (.int .i64 r) w := by
  obtain ⟨p1, p2, -⟩ := valid_parts hv
  obtain ⟨n, V, T, c, h1, h2, -⟩ := hL
  rw [h1.look Tryd.underlying75 (zeroInt _) (p := p) (q := q) (by omega) (by omega), (h2 p q hpq hq).1]
  have := mlen_of hv (by omega) hq hd
  rw [len0, this, if_pos (by omega)]
theorem LenMap.ask {m : List (List Int)} {w : World} {B : Nat} (hv : validM m = true) (hL : LenMap m w B) {p q : Nat} (hpq : p ≤ q) (hq : q < m.length) :
    (Instr.lookup 75 (.map (some B)) (.agg #[.int .i64 p, .int .i64 q]) true).run Tryd.prog w = .ok (.tuple #[.int .i64 (len0 m p q), .bool (decide (0 ≤ mlen m p q))]) w := by
  obtain ⟨p1, p2, -⟩ := valid_parts hv
  obtain ⟨n, V, T, c, h1, h2, -⟩ := hL
  rw [h1.look_ok Tryd.underlying75 (zeroInt _) (p := p) (q := q) (by omega) (by omega), (h2 p q hpq hq).1, (h2 p q hpq hq).2]
theorem one_new (w : World) (t : TypeId) (u : Value) (B : Nat) (hB : w.heap.size = B) : ∀ k x, [u][k]? = some x → (w.alloc (.cells #[u] t)).cell? ((⟨B, 0, none⟩ : Addr).add k) = some x := by
  subst hB
  exact cell_one_new w u t
theorem BZ_block {wo Z : World} (h : Below wo.heap.size wo Z) {base : Nat} {e : TypeId} {s n : Nat} {v : Value} {xs : List Value} (hO : wo.ownsRow base e s v n xs) {g : Nat} (hg : v.ownBlock = some g) : Z.heap[g]? = wo.heap[g]? := h.block g (hO.lt g hg).2
/-- Behind the append to the word. -/
theorem merger_grown {w wo Z w5 : World} {sv bx u1 u2 : Value} {a b n N : Nat} {t tE : TypeId} {xs : List Value} (o : Obj) (hO : wo.ownsRow (w.heap.size + 1 + 1) tE 1 sv n xs) (hBZ : Below wo.heap.size wo Z) (hBwZ : Below w.heap.size w Z)
    (hpb : Z.heap[w.heap.size + 1]? = some (.cells #[.int .i64 a, .int .i64 b] t (0, 0))) (hbx : Z.cell? ⟨w.heap.size, 0, none⟩ = some bx) (hnew : Z.heap[N]? = some (.cells #[u1, u2] t (0, 0))) (hN : wo.heap.size ≤ N) (hgrow : (Z.alloc o).grownBy w5 sv.ownBlock) :
    w5.heap[N]? = some (.cells #[u1, u2] t (0, 0)) ∧ w5.heap[w.heap.size + 1]? = some (.cells #[.int .i64 a, .int .i64 b] t (0, 0)) ∧ w5.cell? ⟨w.heap.size, 0, none⟩ = some bx ∧ Below w.heap.size w w5 := by
  have hlt := fun k hk => hO.lt k hk
  have k1 := (Array.getElem?_eq_some_iff.1 hnew).1
  have k2 := (Array.getElem?_eq_some_iff.1 hpb).1
  have k3 := World.block_lt_of_cell? _ _ hbx
  simp only at k3
  refine ⟨?_, ?_, ?_, ?_⟩
  · rw [hgrow.block N (by simp; omega) (fun e => by have := (hlt _ e.symm).2; omega), Below.heap_alloc _ _ _ k1, hnew]
  · rw [hgrow.block (w.heap.size + 1) (by simp; omega) (fun e => by have := (hlt _ e.symm).1; omega), Below.heap_alloc _ _ _ k2, hpb]
  · exact (World.cell?_of_block (a := ⟨w.heap.size, 0, none⟩) ((hgrow.block w.heap.size (by simp; omega) (fun e => by have := (hlt _ e.symm).1; omega)).trans (Below.heap_alloc _ _ _ k3))).trans hbx
  · exact (bal hBwZ o).grown hgrow (by have := hBwZ.size; simp; omega) (fun k hk => by have := (hlt k hk).1; omega)
/-- .. and behind the store of the pair. -/
theorem merger_stored {w w5 : World} {v' bx : Value} {a b i j n : Nat} {t tE : TypeId} {xs : List Value} (hown : w5.ownsRow (w.heap.size + 1 + 1) tE 1 v' n xs) (hpb : w5.heap[w.heap.size + 1]? = some (.cells #[.int .i64 a, .int .i64 b] t (0, 0))) (hbx : w5.cell? ⟨w.heap.size, 0, none⟩ = some bx) (hB : Below w.heap.size w w5) :
    ∀ w6, w6 = (w5.setCell ⟨w.heap.size + 1, 0, none⟩ (.int .i64 i)).setCell ⟨w.heap.size + 1, 1, none⟩ (.int .i64 j) →
    w6.ownsRow (w.heap.size + 1 + 1) tE 1 v' n xs ∧ Below w.heap.size w w6 ∧ w6.cell? ⟨w.heap.size, 0, none⟩ = some bx ∧ w6.heap[w.heap.size + 1]? = some (.cells #[.int .i64 i, .int .i64 j] t (0, 0)) ∧ w6.heap.size = w5.heap.size := by
  rintro w6 rfl
  refine ⟨ownsRow_same hown fun g hg => ?_, ?_, ?_, pair_stored hpb _ _, by simp [World.setCell]⟩
  · have := (hown.lt g hg).1
    rw [Below.heap_setCell _ _ _ _ (by show g ≠ w.heap.size + 1; omega), Below.heap_setCell _ _ _ _ (by show g ≠ w.heap.size + 1; omega)]
  · exact (hB.setCell (p := ⟨w.heap.size + 1, 0, none⟩) (by show w.heap.size ≤ w.heap.size + 1; omega) _).setCell (p := ⟨w.heap.size + 1, 1, none⟩) (by show w.heap.size ≤ w.heap.size + 1; omega) _
  · refine (World.cell?_of_block (a := ⟨w.heap.size, 0, none⟩) ?_).trans hbx
    rw [Below.heap_setCell _ _ _ _ (by show w.heap.size ≠ w.heap.size + 1; omega), Below.heap_setCell _ _ _ _ (by show w.heap.size ≠ w.heap.size + 1; omega)]
theorem infoIntE : (Tryd.prog.info? 3).map (fun i => (i.zero, i.size, i.bytes)) = some (some (.int .i64 0), 1, 8) := by kernel_rfl
set_option maxRecDepth 100000 in
set_option maxHeartbeats 8000000 in
theorem merger_any (v : Value) (m : List (List Int)) (p q j B : Nat) (w : World) (h : Rows w v m) (hv : validM m = true) (hpq : p ≤ q) (hq : q < m.length) (hd : mdist m p q j) (hL : LenMap m w B) :
    Calls Tryd.prog 52 #[.agg #[v], .map (some B), .agg #[.int .i64 p, .int .i64 q]] w fun e w' => ∃ r, e = .returned r ∧ w'.ownsRow w.heap.size 3 1 r j ((mW m j p q).map fun x => .int .i64 x) ∧ Below w.heap.size w w' := by
  obtain ⟨i0, hi, hz0, hz1, hz2⟩ := info_parts infoIntE
  obtain ⟨p1, p2, p3, p4, p5⟩ := valid_parts hv
  obtain ⟨A, cap, rfl, hml, hcm⟩ := id h
  have Hcm := hid hcm
  have Hp5 := hid p5
  have hX := bal (bal (Below.refl _ w) (.cells #[.slice A m.length cap] 24)) (.cells #[.int .i64 p, .int .i64 q] 80)
  have hbx := (Boxed.new w 24 (.slice A m.length cap)).cell
  have hbx1 := ((bal (Below.refl _ _) (.cells #[.int .i64 p, .int .i64 q] 80)).cell (p := ⟨w.heap.size, 0, none⟩) (World.block_lt_of_cell? _ _ hbx)).trans hbx
  have hpb : ((w.alloc (.cells #[.slice A m.length cap] 24)).alloc (.cells #[.int .i64 p, .int .i64 q] 80)).heap[w.heap.size + 1]? = some (.cells #[.int .i64 p, .int .i64 q] 80 (0, 0)) := by
    have := World.alloc_heap_new (w.alloc (.cells #[.slice A m.length cap] 24)) (.cells #[.int .i64 p, .int .i64 q] 80)
    rwa [World.size_alloc] at this
  have hj := mdist_lt hv (by omega) hq hd
  have hmm60 : m.length * m.length ≤ 3600 := Nat.mul_le_mul (show m.length ≤ 60 by omega) (show m.length ≤ 60 by omega)
  have Hd := hid hd
  have hBl : B < w.heap.size := by
    obtain ⟨n, V, T, c, h1, -⟩ := hL
    exact PMap.lt h1
  clear p5 hcm hbx hd
  go_enter Tryd.func52, Tryd.ntmps52
  go_wp2_with fail
  generalize hWX : (w.alloc (.cells #[.slice A m.length cap] 24)).alloc (.cells #[.int .i64 p, .int .i64 q] 80) = X at *
  have hXs : X.heap.size = w.heap.size + 1 + 1 := by rw [← hWX]; simp
  clear hWX
  go_loopw [7] (fun sv wr => ∃ (a b r : Nat) (pre : List Int), a ≤ b ∧ b < m.length ∧ mdist m a b r ∧ mW m j p q = pre ++ mW m r a b ∧ pre.length + r = j ∧ wr.ownsRow (w.heap.size + 1 + 1) 3 1 sv pre.length (pre.map fun x => .int .i64 x) ∧ Below w.heap.size w wr ∧ wr.cell? ⟨w.heap.size, 0, none⟩ = some (.slice A m.length cap) ∧ wr.heap[w.heap.size + 1]? = some (.cells #[.int .i64 a, .int .i64 b] 80 (0, 0)) ∧ w.heap.size + 1 + 1 ≤ wr.heap.size) (fun sv _ => j - sliceLen sv)
  case atStart => exact ⟨p, q, j, [], hpq, hq, Hd.out, rfl, by simp, World.ownsRow_nil _ _ _ _, hX, hbx1, hpb, by omega⟩
  case round =>
    clear hpb hX hbx1 hXs
    obtain ⟨a, b, r, pre, hab, hb, hd, hmw, hpl, hO, hB, hbx, hpb, hsz⟩ := hrel
    obtain ⟨c1, c2, f1, f2⟩ := pair_block hpb
    have hLr := hL.below hB
    have hlk := hLr.find hv hab hb hd
    have Hmw := hid hmw
    have Hd0 := hid hd
    have Hpb := hid hpb
    obtain ⟨sA, scap, rfl⟩ := ownsRow_slice hO
    have HO := hid hO
    have hpl2 := hid hpl
    have hprj : pre.length ≤ 3600 := by omega
    have hrj : r ≤ 3600 := by omega
    have hlenr := mlen_of hv (by omega) hb hd
    by_cases hr : r = 0
    · subst hr
      have HR := hid (show wr.ownsRow w.heap.size 3 1 (.slice sA pre.length scap) j ((mW m j p q).map fun x => .int .i64 x) from by
        rw [Hmw.out, show mW m 0 a b = [] from rfl, List.append_nil]
        have e : pre.length = j := by have := hpl2.out; omega
        rw [← e]
        exact row_mono hO (by omega))
      clear hmw hd hpl hpb hO hlenr
      go_wp2_with fail
      go_ret
      exact ⟨_, rfl, HR.out, hB⟩
    · have hr0 : (0 : Int) < r := by omega
      obtain ⟨b1, o1, r1, hA, hcell, hrow⟩ := Hcm.out a (by omega)
      subst hA
      have hrl := (Hp5.out a (by omega)).1
      obtain ⟨Ar, capr, rfl, -, -⟩ := id hrow
      rw [hrl] at hcell
      have hcellr := (hB.cell (p := ⟨b1, o1 + a, none⟩) (World.block_lt_of_cell? _ _ hcell)).trans hcell
      have has : (a : Int) < m.length := by omega
      obtain ⟨r', rfl⟩ : ∃ r', r = r' + 1 := ⟨r - 1, by omega⟩
      have hmX := mX_spec hv (by omega) hb hd
      obtain ⟨x1, x2, x3, x4⟩ := hmX
      have X2 := hid x2
      have X3 := hid x3
      have X4 := hid x4
      have hms : mW m (r' + 1) a b = (mX m a b : Int) :: mW m r' (nx m a (mX m a b : Int)) (nx m b (mX m a b : Int)) := rfl
      have Hms := hid hms
      have Hlenr := hid hlenr
      have hBr0 := hid hB
      clear hmw hd hpl hpb hO hrow hcell x2 x3 x4 hms hlenr
      obtain ⟨wo, rfl⟩ : ∃ wo : World, wo = wr := ⟨_, rfl⟩
      go_wp2_with fail
      go_loopw [7, 23] (fun sv xv wr => ∃ x : Nat, x ≤ mX m a b ∧ xv = .int .i64 (x : Nat) ∧ sv = .slice sA pre.length scap ∧ Below wo.heap.size wo wr) (fun _ xv _ => letters m - (intOf xv).toNat)
      case atStart => exact ⟨0, Nat.zero_le _, rfl, rfl, Below.refl _ _⟩
      case round =>
        obtain ⟨x, hx, rfl, rfl, hBi⟩ := hrel
        have hxl : x < letters m := by omega
        have hxs : (x : Int) < letters m := by omega
        have hBw := btr hB hBi
        have hHb := h.below hBw
        have hbx2 := (hBi.cell (p := ⟨w.heap.size, 0, none⟩) (World.block_lt_of_cell? _ _ hbx)).trans hbx
        have hpb2 := (hBi.block _ (Array.getElem?_eq_some_iff.1 Hpb.out).1).trans Hpb.out
        obtain ⟨d1, d2, f3, f4⟩ := pair_block hpb2
        obtain ⟨hn1, -⟩ := nx_ok hv (s := a) (by omega) (x := (x : Int)) (by omega) (by omega)
        obtain ⟨hn2, -⟩ := nx_ok hv (s := b) hb (x := (x : Int)) (by omega) (by omega)
        have Hpb2 := hid hpb2
        have hLi := hLr.below hBi
        have hszi := hBi.size
        clear hbx hpb2 c1 c2 f1 f2 hcellr hlk
        go_wp2_with fail
        refine (lead_pair _ m a b x _ hHb hv (by omega) hb hxl).mono ?_
        rintro e y1 ⟨rfl, hy1⟩
        have hcl := canon_le (nx m a (x : Int)) (nx m b (x : Int))
        have hct := canon_lt hn1 hn2
        have hml2 := mlen_canon hv hn1 hn2
        have hmw2 := fun (j : Nat) (hd : mdist m (nx m a (x : Int)) (nx m b (x : Int)) j) => mW_canon hv hn1 hn2 hd
        have hcd := fun (k : Nat) => canon_mdist (m := m) (p := nx m a (x : Int)) (q := nx m b (x : Int)) (k := k)
        obtain ⟨i, j', hij⟩ : ∃ i j', canon (nx m a (x : Int)) (nx m b (x : Int)) = (i, j') := ⟨_, _, rfl⟩
        simp only [hij] at hcl hct hml2 hmw2 hcd ⊢
        clear hij
        have hZ : Below wr.heap.size wr (y1.alloc (.cells #[.int .i64 i, .int .i64 j'] 80)) := bal hy1 _
        have e1 := (hZ.cell (p := ⟨w.heap.size, 0, none⟩) (World.block_lt_of_cell? _ _ hbx2)).trans hbx2
        have hpbZ := (hZ.block _ (Array.getElem?_eq_some_iff.1 Hpb2.out).1).trans Hpb2.out
        obtain ⟨g1, g2, g3, g4⟩ := pair_block hpbZ
        have hLZ := hLi.below hZ
        have hask := hLZ.ask hv hcl hct
        have hfind := hLZ.find hv hab hb Hd0.out
        have hy1s := hy1.size
        have hBZ := hid (btr hBi hZ)
        have hBwZ := hid (btr hBw hZ)
        have HpbZ := hid hpbZ
        have Hml2 := hid hml2
        have Hmw2 := hid hmw2
        have Hcd := hid hcd
        clear hbx2 hZ hpbZ hLZ hy1 hLi hHb d1 d2 f3 f4 hml2 hmw2 hcd hBi hBw
        by_cases hxe : x = mX m a b
        · have hml : mlen m i j' = (r' : Int) := by
            have := X3.out
            rw [← hxe] at this
            rw [Hml2.out, this, Hlenr.out]
            omega
          rw [show decide (0 ≤ mlen m i j') = true from decide_eq_true (by omega), show len0 m i j' = (r' : Int) from by rw [len0, hml, if_pos (by omega)]] at hask
          have Hxe := hid hxe
          clear hml hxe
          have hnew : (y1.alloc (.cells #[.int .i64 i, .int .i64 j'] 80)).heap[y1.heap.size]? = some (.cells #[.int .i64 i, .int .i64 j'] 80 (0, 0)) := World.alloc_heap_new _ _
          have hOZ := hid ((ownsRow_same HO.out fun g hg => BZ_block hBZ.out HO.out hg).alloc (.cells #[.int .i64 x] 3))
          have hszw := hid (show wo.heap.size ≤ y1.heap.size by omega)
          have Hgr := hid (fun (w5 : World) (o : Obj) (hgrow : ((y1.alloc (.cells #[.int .i64 i, .int .i64 j'] 80)).alloc o).grownBy w5 (Value.slice sA pre.length scap).ownBlock) => merger_grown o HO.out hBZ.out hBwZ.out HpbZ.out e1 hnew hszw.out hgrow)
          go_wp2_with (at_builtin; refine wpList_append_own_at _ rfl _ _ 25 rfl (w.heap.size + 1 + 1) 3 i0 (.int .i64 0) 1 8 Tryd.underlying25 hi hz0 hz1 hz2 rfl (by decide) _ _ _ rfl hOZ.out ⟨y1.heap.size + 1, 0, none⟩ 1 1 [.int .i64 x] rfl rfl (one_new _ _ _ _ (World.size_alloc _ _)) (by simp [Value.oneCell']) (by unfold maxLen; omega) (by omega) (by simp; omega) ?_; intro v' w5 hown' hgrow' _ hat; obtain ⟨vA, vcap, rfl⟩ := ownsRow_slice hown'; obtain ⟨q1, q2, q3, q4⟩ := Hgr.out w5 _ hgrow'; obtain ⟨s1, s2, -, -⟩ := pair_block q1; obtain ⟨s3, s4, s5, s6⟩ := pair_block q2; have HS := hid (merger_stored (i := i) (j := j') hown' q2 q3 q4); have hgs := hgrow'.size; simp only [World.size_alloc] at hgs; clear q1 q2 q3 q4 hown' hgrow' hat)
          generalize hW6 : (w5.setCell ⟨w.heap.size + 1, 0, none⟩ (.int .i64 i)).setCell ⟨w.heap.size + 1, 1, none⟩ (.int .i64 j') = w6
          obtain ⟨t1, t2, t3, t4, t5⟩ := HS.out w6 hW6.symm
          have T1 := hid t1
          have T4 := hid t4
          clear t1 t4 hW6 HS s1 s2 s3 s4 s5 s6
          go_roundw
          case rel =>
            refine ⟨i, j', r', pre ++ [(x : Int)], hcl, hct, (Hcd.out _).2 (by rw [Hxe.out]; exact X2.out), ?_, by have := hpl2.out; rw [List.length_append, List.length_singleton]; omega, ?_, t2, t3, T4.out, by omega⟩
            · rw [Hmw.out, Hms.out, ← Hxe.out, List.append_assoc, Hmw2.out r' (by rw [Hxe.out]; exact X2.out)]
              rfl
            · rw [List.length_append, List.map_append]
              exact T1.out
          case measure => have := hpl2.out; simp [sliceLen]; omega
        · have hlt : x < mX m a b := by omega
          have hne : mlen m i j' ≠ (r' : Int) := by
            have := X4.out x hlt
            rw [Hlenr.out] at this
            rw [Hml2.out]
            omega
          have hrg := mlenAt_range m (m.length * m.length) i j'
          have hsp : mlen m i j' = -1 ∨ ∃ t : Nat, mlen m i j' = (t : Int) ∧ t ≠ r' ∧ t ≤ 3600 := by
            rcases mlen_spec hv (p := i) (q := j') (by omega) hct with ⟨h1, _⟩ | ⟨t, h1, h2, _⟩
            · exact .inl h1
            · exact .inr ⟨t, h2, by omega, by omega⟩
          clear hne hrg hxe
          rcases hsp with hm1 | ⟨t, hm1, htr, ht⟩
          · rw [show decide (0 ≤ mlen m i j') = false from decide_eq_false (by omega)] at hask
            have Hm1 := hid hm1
            clear hm1
            generalize len0 m i j' = z at *
            go_wp2_with fail
            go_roundw
            case rel => exact ⟨x + 1, by omega, by go_num, rfl, hBZ.out⟩
            case measure => simp [intOf]; omega
          · rw [show decide (0 ≤ mlen m i j') = true from decide_eq_true (by omega), show len0 m i j' = (t : Int) from by rw [len0, hm1, if_pos (by omega)]] at hask
            have hne : ((t : Int) == (r' : Int)) = false := by rw [beq_eq_false_iff_ne]; omega
            clear hm1
            go_wp2_with fail
            go_roundw
            case rel => exact ⟨x + 1, by omega, by go_num, rfl, hBZ.out⟩
            case measure => simp [intOf]; omega
end Go.Proofs.YtiiiinoappjhdaaDoor
namespace Go.Proofs.YtiiiinoappjhdaaDoor
open Go.RowKit Go.Shelf
theorem held_one {w1 w' : World} {p : Addr} {u : Value} (h1 : w1.cell? p = some u) (hb : Below w1.heap.size w1 w') : Below w1.heap.size w1 w' ∧ w'.cell? p = some u :=
  ⟨hb, (hb.cell (p := p) (World.block_lt_of_cell? _ _ h1)).trans h1⟩
end Go.Proofs.YtiiiinoappjhdaaDoor
namespace Go.Proofs.YtiiiinoappjhdaaDoor
open Go.RowKit Go.Shelf
/-- A word of the call's own, and no error. -/
def WordIs (w : World) (u : List Int) (e : Ending) (w' : World) : Prop := ∃ r, e = .returned (.tuple #[r, .int .i64 0]) ∧ w'.ownsRow w.heap.size 3 1 r u.length (u.map fun x => .int .i64 x) ∧ Below w.heap.size w w'
end Go.Proofs.YtiiiinoappjhdaaDoor
namespace Go.Proofs.YtiiiinoappjhdaaDoor
open Go.RowKit Go.Shelf
/-- THE STATEMENT 'for .. := range f { .. }' within a round of loop l₀. -/
theorem range_law_in {α : Type} {g : Operand} {ps : Array Tmp} {assign body : Code} {Q : Exit → Act → World → Prop} {a : Act} {w : World} {gf l₀ : Nat} {fb lb : Array Value} (hl₀ : ∃ r₀, w.heap[l₀]? = some (.loop r₀))
    (hg : a.eval g = .func (.func gf) fb lb) (eg : ∀ args w, (callFunc gf args).run Tryd.prog w = .ok (.enter gf args) w)
    {encs : α → Array Value} {n₀ : Nat} {G : Blocks → α → World → Prop} {S Sp : List α → Prop} {w0 : World} (hseq : SeqX gf fb lb encs n₀ G S Sp w0)
    (hG : ∀ X x W W', G X x W → Keep n₀ X W W' → G X x W') (hn : n₀ ≤ w.heap.size) (hb0 : Below w0.heap.size w0 w) (hps : ∀ x, (encs x).size = ps.size)
    (I : Blocks → List α → World → Prop) (Ix : Code → Blocks → List α → World → Prop) (hI : Stable w.heap.size I) (hIx : ∀ c, Stable w.heap.size (Ix c)) (h0 : I (fun _ => False) [] w)
    (Ax : α → Act → World → Prop) (hAx : ∀ x a', Stable w.heap.size (fun _ (_ : Unit) W => Ax x a' W))
    (hassign : ∀ (l : Nat) (X : Blocks) (pre : List α) (x : α) (W : World) (K : Act → World → Prop), I X pre W → (∀ a' W', KeepsFrom w.heap.size W W' → Keep n₀ X W W' → I X pre W' → Ax x a' W' → K a' W') →
      assign.wpIn (Fence.wide.inRound l) 0 Tryd.prog (Exit.then K (fun _ _ _ => False)) { tmps := (ps.zip (encs x)).foldl (fun t (p, v) => t.setIfInBounds p v) a.tmps, defers := [] } W)
    (hbody : ∀ (l : Nat) (X : Blocks) (pre : List α) (x : α) (a' : Act) (W : World), w.heap.size ≤ l → (∃ r, W.heap[l]? = some (.loop r)) → ¬ X l → (∀ k, X k → k < W.heap.size) → I X pre W → G X x W → Ax x a' W → Sp (pre ++ [x]) →
      body.wpIn (Fence.wide.inRound l) 0 Tryd.prog (postX w.heap.size n₀ I Ix X (pre ++ [x]) W) a' W)
    (hdone : ∀ (X : Blocks) (xs : List α) (W : World), S xs → I X xs W → Q .normal a W)
    (hstop : ∀ (X : Blocks) (c : Code) (pre : List α) (W : World), Sp pre → Ix c X pre W → c.wpIn (Fence.wide.inRound l₀) 0 Tryd.prog Q a W) :
    (Code.rangeFunc g ps assign body).wpIn (Fence.wide.inRound l₀) 0 Tryd.prog Q a w := by
  refine wpIn_rangeFunc ?_
  intro fn hfn
  obtain ⟨r₀, hr₀⟩ := hl₀
  obtain ⟨rec, hrec⟩ : ∃ rec : LoopState → Option Code → Loop, rec = fun st pe => { state := st, pending := pe, fn, tmps := a.tmps, params := ps, assign, body, defers := r₀.defers } := ⟨_, rfl⟩
  obtain ⟨W1, hW1⟩ : ∃ W1, w.alloc (.loop (rec .ready none)) = W1 := ⟨_, rfl⟩
  have hL1 : W1.heap[w.heap.size]? = some (.loop (rec .ready none)) := by rw [← hW1]; exact World.alloc_heap_new w _
  have hI1 : I (fun _ => False) [] W1 := by rw [← hW1]; exact hI.new _ h0
  have hb1 : Below w0.heap.size w0 W1 := by
    rw [← hW1]; exact hb0.trans (((Below.refl _ w).alloc (Nat.le_refl _) _).mono hb0.size)
  refine ⟨w.heap.size, [], W1, { target := .fn (.func gf) lb, args := fb ++ #[.func (.yield w.heap.size) #[] #[]] }, W1, gf,
    (fb ++ #[.func (.yield w.heap.size) #[] #[]]) ++ lb, W1, ?_, ?_, fun f' _ => trivial, ?_, fun h => by simp [Fence.wide, Fence.inRound] at h, ?_⟩
  · rw [← hW1, hrec]; exact run_enterLoop_inner hr₀ _ _ _ _ _
  · simp only [resolve, hg]
    simp [go_sem, Deferred.ofValue]
  · simp [invoke, go_sem, eg]
  · refine CallsIn.inRound l₀ (callsIn_wide.2 ?_)
    refine (hseq w.heap.size
      (fun X pre W => I X pre W ∧ ¬ X w.heap.size ∧ W.heap[w.heap.size]? = some (.loop (rec .ready none)))
      (fun X pre W => ∃ c, Ix c X pre W ∧ ¬ X w.heap.size ∧ W.heap[w.heap.size]? = some (.loop (rec .done (some c))))
      W1 hb1 ?_ ?_ ?_ ⟨hI1, fun h => h, hL1⟩).mono ?_
    · rintro X X' s A B ⟨h1, h2, h4⟩ ht hX
      have l4 := (Array.getElem?_eq_some_iff.1 h4).1
      refine ⟨hI X X' s A B h1 ht.os ht.tape ht.output ht.size (fun k o hk hx _ => (ht.block k (Array.getElem?_eq_some_iff.1 hk).1 hx).trans hk) hX, fun h => ?_, (ht.block _ l4 h2).trans h4⟩
      · rcases hX _ h with h | h
        · exact h2 h
        · omega
    · rintro X X' s A B ⟨c, h1, h2, h4⟩ ht hX
      have l4 := (Array.getElem?_eq_some_iff.1 h4).1
      refine ⟨c, hIx c X X' s A B h1 ht.os ht.tape ht.output ht.size (fun k o hk hx _ => (ht.block k (Array.getElem?_eq_some_iff.1 hk).1 hx).trans hk) hX, fun h => ?_, (ht.block _ l4 h2).trans h4⟩
      · rcases hX _ h with h | h
        · exact h2 h
        · omega
    · -- one round
      rintro X pre x W hXs ⟨hi, hXl, hl⟩ hgx hsp
      have hy := run_yield (P := Tryd.prog) (args := encs x) hl (by rw [hrec]; exact hps x)
      rw [hrec] at hy
      refine ⟨fn, _, assign, body, hy, roundIn_of_wpIn trivial (hassign _ X pre x W _ hi ?_)⟩
      clear hy
      intro a' Wa hkfa hkpa hia hax
      have hl' := hkfa.same _ _ (Nat.le_refl _) hl rfl
      have hlt := (Array.getElem?_eq_some_iff.1 hl').1
      refine ⟨_, run_beginRound hl' (by rw [hrec]), ?_⟩
      have hl2 : (Wa.putObj w.heap.size (.loop { rec .ready none with state := .busy })).heap[w.heap.size]? = some (.loop { rec .ready none with state := .busy }) := World.putObj_heap_same hlt
      have hkp2 : Keep n₀ X Wa (Wa.putObj w.heap.size (.loop { rec .ready none with state := .busy })) := keep_put _ (by omega) hXl
      refine wpIn_mono (hbody _ X pre x a' _ (Nat.le_refl _) ⟨_, hl2⟩ hXl (fun k hk => by have h1 := hXs k hk; have h2 := hkpa.size; simp; omega) (hI.put _ hia (Nat.le_refl _) hl' rfl) (hG _ _ _ _ hgx (hkpa.trans hkp2)) ((hAx x a').put (X := X) (s := ()) _ hax (Nat.le_refl _) hl' rfl) hsp) ?_
      have fin : ∀ (jump : Option Code) (W3 : World), KeepsFrom w.heap.size (Wa.putObj w.heap.size (.loop { rec .ready none with state := .busy })) W3 →
          (Instr.endRound w.heap.size jump).run Tryd.prog W3 = .ok (.bool jump.isNone) (W3.putObj w.heap.size (.loop (rec (if jump.isNone then .ready else .done) jump))) ∧
          W3.heap[w.heap.size]? = some (.loop { rec .ready none with state := .busy }) ∧
          (W3.putObj w.heap.size (.loop (rec (if jump.isNone then .ready else .done) jump))).heap[w.heap.size]? = some (.loop (rec (if jump.isNone then .ready else .done) jump)) := fun jump W3 hk3 => by
        have hl3 := hk3.same _ _ (Nat.le_refl _) hl2 rfl
        have := run_endRound (P := Tryd.prog) jump hl3
        rw [hrec] at this ⊢
        exact ⟨this, by rw [hrec] at hl3; exact hl3, World.putObj_heap_same (Array.getElem?_eq_some_iff.1 hl3).1⟩
      have kp : ∀ (W3 : World) (o : Obj), Keep n₀ X (Wa.putObj w.heap.size (.loop { rec .ready none with state := .busy })) W3 → Keep n₀ X W (W3.putObj w.heap.size o) := fun W3 o h3 =>
        ((hkpa.trans hkp2).trans h3).trans (keep_put _ (by omega) hXl)
      rintro e a3 W3 hp
      cases e with
      | normal =>
        obtain ⟨hk3, hkp3, hi3⟩ := hp
        obtain ⟨hr, hl3, hl4⟩ := fin none W3 hk3
        exact ⟨_, _, hr, .inl ⟨rfl, hI.put _ hi3 (Nat.le_refl _) hl3 rfl, hXl, hl4⟩, kp _ _ hkp3⟩
      | ret =>
        obtain ⟨hk3, hkp3, hi3⟩ := hp
        obtain ⟨hr, hl3, hl4⟩ := fin (some .ret) W3 hk3
        exact ⟨_, _, hr, .inr ⟨rfl, .ret, (hIx _).put _ hi3 (Nat.le_refl _) hl3 rfl, hXl, hl4⟩, kp _ _ hkp3⟩
      | exit id =>
        obtain ⟨hk3, hkp3, hi3⟩ := hp
        obtain ⟨hr, hl3, hl4⟩ := fin (some (.exit id)) W3 hk3
        exact ⟨_, _, hr, .inr ⟨rfl, .exit id, (hIx _).put _ hi3 (Nat.le_refl _) hl3 rfl, hXl, hl4⟩, kp _ _ hkp3⟩
      | goto t =>
        obtain ⟨hk3, hkp3, hi3⟩ := hp
        obtain ⟨hr, hl3, hl4⟩ := fin (some (.goto t)) W3 hk3
        exact ⟨_, _, hr, .inr ⟨rfl, .goto t, (hIx _).put _ hi3 (Nat.le_refl _) hl3 rfl, hXl, hl4⟩, kp _ _ hkp3⟩
      | panic ch => exact hp.elim
      | outgrown => exact hp.elim
    · -- behind the iterator
      rintro e W2 ⟨⟨v, rfl⟩, (⟨X, xs, hS, hi, _, hl⟩ | ⟨X, pre, hSp, c, hi, _, hl⟩)⟩
      · exact ⟨none, _, by have := run_endLoop (P := Tryd.prog) hl (by rw [hrec]; simp); rw [hrec] at this; exact this, hdone X xs _ hS (hI.put _ hi (Nat.le_refl _) hl rfl)⟩
      · exact ⟨some c, _, by have := run_endLoop (P := Tryd.prog) hl (by rw [hrec]; simp); rw [hrec] at this; exact this, hstop X c pre _ hSp ((hIx c).put _ hi (Nat.le_refl _) hl rfl)⟩
/-- THE STATEMENT 'for .. := range f { .. }' whose variable lies in a box of its own. -/
theorem range_law2 {α : Type} {g : Operand} {ps : Array Tmp} {assign body : Code} {Q : Exit → Act → World → Prop} {a : Act} {w : World} {gf : Nat} {fb lb : Array Value}
    (hg : a.eval g = .func (.func gf) fb lb) (eg : ∀ args w, (callFunc gf args).run Tryd.prog w = .ok (.enter gf args) w)
    {encs : α → Array Value} {n₀ : Nat} {G : Blocks → α → World → Prop} {S Sp : List α → Prop} {w0 : World} (hseq : SeqX gf fb lb encs n₀ G S Sp w0)
    (hG : ∀ X x W W', G X x W → Keep n₀ X W W' → G X x W') (hn : n₀ ≤ w.heap.size) (hb0 : Below w0.heap.size w0 w) (hps : ∀ x, (encs x).size = ps.size)
    (I : Blocks → List α → World → Prop) (Ix : Code → Blocks → List α → World → Prop) (hI : Stable w.heap.size I) (hIx : ∀ c, Stable w.heap.size (Ix c)) (h0 : I (fun _ => False) [] w)
    (Ax : Blocks → α → Act → World → Prop) (hAx : ∀ X x a' W l o o', Ax X x a' W → w.heap.size ≤ l → W.heap[l]? = some o → o.isCells = false → Ax X x a' (W.putObj l o'))
    (hassign : ∀ (l : Nat) (X : Blocks) (pre : List α) (x : α) (W : World) (K : Act → World → Prop), (∀ k, X k → k < W.heap.size) → I X pre W → (∀ a' W', KeepsFrom w.heap.size W W' → Keep n₀ X W W' → I X pre W' → Ax X x a' W' → K a' W') →
      assign.wpIn (Fence.wide.inRound l) 0 Tryd.prog (Exit.then K (fun _ _ _ => False)) { tmps := (ps.zip (encs x)).foldl (fun t (p, v) => t.setIfInBounds p v) a.tmps, defers := [] } W)
    (hbody : ∀ (l : Nat) (X : Blocks) (pre : List α) (x : α) (a' : Act) (W : World), w.heap.size ≤ l → (∃ r, W.heap[l]? = some (.loop r)) → ¬ X l → (∀ k, X k → k < W.heap.size) → I X pre W → G X x W → Ax X x a' W → Sp (pre ++ [x]) →
      body.wpIn (Fence.wide.inRound l) 0 Tryd.prog (postX w.heap.size n₀ I Ix X (pre ++ [x]) W) a' W)
    (hdone : ∀ (D : Nat) (X : Blocks) (xs : List α) (W : World), w.heap.size ≤ D → S xs → I X xs W → W.heap[D]? = some (.deferred (some [])) → Q .normal { a with defers := { target := .collected D, args := #[] } :: a.defers } W)
    (hstop : ∀ (D : Nat) (X : Blocks) (c : Code) (pre : List α) (W : World), w.heap.size ≤ D → Sp pre → Ix c X pre W → W.heap[D]? = some (.deferred (some [])) → c.wpIn Fence.wide 0 Tryd.prog Q { a with defers := { target := .collected D, args := #[] } :: a.defers } W) :
    (Code.rangeFunc g ps assign body).wpIn Fence.wide 0 Tryd.prog Q a w := by
  refine wpIn_rangeFunc ?_
  intro fn hfn
  obtain ⟨rec, hrec⟩ : ∃ rec : LoopState → Option Code → Loop, rec = fun st pe => { state := st, pending := pe, fn, tmps := a.tmps, params := ps, assign, body, defers := w.heap.size } := ⟨_, rfl⟩
  obtain ⟨W1, hW1⟩ : ∃ W1, (w.alloc (.deferred (some []))).alloc (.loop (rec .ready none)) = W1 := ⟨_, rfl⟩
  have hL1 : W1.heap[w.heap.size + 1]? = some (.loop (rec .ready none)) := by
    rw [← hW1]; have := World.alloc_heap_new (w.alloc (.deferred (some []))) (.loop (rec .ready none)); rwa [World.size_alloc] at this
  have hK1 : W1.heap[w.heap.size]? = some (.deferred (some [])) := by
    rw [← hW1]; exact (Below.heap_alloc _ _ _ (by simp)).trans (World.alloc_heap_new w _)
  have hI1 : I (fun _ => False) [] W1 := by rw [← hW1]; exact hI.new _ (hI.new _ h0)
  have hb1 : Below w0.heap.size w0 W1 := by
    rw [← hW1]; exact hb0.trans ((((Below.refl _ w).alloc (Nat.le_refl _) _).alloc (by simp) _).mono hb0.size)
  refine ⟨w.heap.size + 1, [{ target := .collected w.heap.size, args := #[] }], W1, { target := .fn (.func gf) lb, args := fb ++ #[.func (.yield (w.heap.size + 1)) #[] #[]] }, W1, gf,
    (fb ++ #[.func (.yield (w.heap.size + 1)) #[] #[]]) ++ lb, W1, ?_, ?_, fun f' _ => trivial, ?_, fun h => by simp [Fence.wide] at h, ?_⟩
  · rw [← hW1, hrec]; exact run_enterLoop_outer _ _ _ _ _
  · simp only [resolve, hg]
    simp [go_sem, Deferred.ofValue]
  · simp [invoke, go_sem, eg]
  · refine callsIn_wide.2 ?_
    refine (hseq (w.heap.size + 1)
      (fun X pre W => I X pre W ∧ ¬ X (w.heap.size + 1) ∧ ¬ X w.heap.size ∧ W.heap[w.heap.size + 1]? = some (.loop (rec .ready none)) ∧ W.heap[w.heap.size]? = some (.deferred (some [])))
      (fun X pre W => ∃ c, Ix c X pre W ∧ ¬ X (w.heap.size + 1) ∧ ¬ X w.heap.size ∧ W.heap[w.heap.size + 1]? = some (.loop (rec .done (some c))) ∧ W.heap[w.heap.size]? = some (.deferred (some [])))
      W1 hb1 ?_ ?_ ?_ ⟨hI1, fun h => h, fun h => h, hL1, hK1⟩).mono ?_
    · rintro X X' s A B ⟨h1, h2, h3, h4, h5⟩ ht hX
      have l4 := (Array.getElem?_eq_some_iff.1 h4).1
      refine ⟨hI X X' s A B h1 ht.os ht.tape ht.output ht.size (fun k o hk hx _ => (ht.block k (Array.getElem?_eq_some_iff.1 hk).1 hx).trans hk) hX, fun h => ?_, fun h => ?_, (ht.block _ l4 h2).trans h4, (ht.block _ (by omega) h3).trans h5⟩
      · rcases hX _ h with h | h
        · exact h2 h
        · omega
      · rcases hX _ h with h | h
        · exact h3 h
        · omega
    · rintro X X' s A B ⟨c, h1, h2, h3, h4, h5⟩ ht hX
      have l4 := (Array.getElem?_eq_some_iff.1 h4).1
      refine ⟨c, hIx c X X' s A B h1 ht.os ht.tape ht.output ht.size (fun k o hk hx _ => (ht.block k (Array.getElem?_eq_some_iff.1 hk).1 hx).trans hk) hX, fun h => ?_, fun h => ?_, (ht.block _ l4 h2).trans h4, (ht.block _ (by omega) h3).trans h5⟩
      · rcases hX _ h with h | h
        · exact h2 h
        · omega
      · rcases hX _ h with h | h
        · exact h3 h
        · omega
    · -- one round
      rintro X pre x W hXs ⟨hi, hXl, hXd, hl, hk⟩ hgx hsp
      have hy := run_yield (P := Tryd.prog) (args := encs x) hl (by rw [hrec]; exact hps x)
      rw [hrec] at hy
      refine ⟨fn, _, assign, body, hy, roundIn_of_wpIn trivial (hassign _ X pre x W _ hXs hi ?_)⟩
      clear hy
      intro a' Wa hkfa hkpa hia hax
      have hl' := hkfa.same _ _ (by omega) hl rfl
      have hk' := hkfa.same _ _ (Nat.le_refl _) hk rfl
      have hlt := (Array.getElem?_eq_some_iff.1 hl').1
      refine ⟨_, run_beginRound hl' (by rw [hrec]), ?_⟩
      have hl2 : (Wa.putObj (w.heap.size + 1) (.loop { rec .ready none with state := .busy })).heap[w.heap.size + 1]? = some (.loop { rec .ready none with state := .busy }) := World.putObj_heap_same hlt
      have hk2 : (Wa.putObj (w.heap.size + 1) (.loop { rec .ready none with state := .busy })).heap[w.heap.size]? = some (.deferred (some [])) := (World.putObj_heap_other (by omega)).trans hk'
      have hkp2 : Keep n₀ X Wa (Wa.putObj (w.heap.size + 1) (.loop { rec .ready none with state := .busy })) := keep_put _ (by omega) hXl
      refine wpIn_mono (hbody _ X pre x a' _ (by omega) ⟨_, hl2⟩ hXl (fun k hk => by have h1 := hXs k hk; have h2 := hkpa.size; simp; omega) (hI.put _ hia (by omega) hl' rfl) (hG _ _ _ _ hgx (hkpa.trans hkp2)) (hAx X x a' _ _ _ _ hax (by omega) hl' rfl) hsp) ?_
      have fin : ∀ (jump : Option Code) (W3 : World), KeepsFrom w.heap.size (Wa.putObj (w.heap.size + 1) (.loop { rec .ready none with state := .busy })) W3 →
          (Instr.endRound (w.heap.size + 1) jump).run Tryd.prog W3 = .ok (.bool jump.isNone) (W3.putObj (w.heap.size + 1) (.loop (rec (if jump.isNone then .ready else .done) jump))) ∧
          W3.heap[w.heap.size + 1]? = some (.loop { rec .ready none with state := .busy }) ∧
          (W3.putObj (w.heap.size + 1) (.loop (rec (if jump.isNone then .ready else .done) jump))).heap[w.heap.size + 1]? = some (.loop (rec (if jump.isNone then .ready else .done) jump)) ∧
          (W3.putObj (w.heap.size + 1) (.loop (rec (if jump.isNone then .ready else .done) jump))).heap[w.heap.size]? = some (.deferred (some [])) := fun jump W3 hk3 => by
        have hl3 := hk3.same _ _ (by omega) hl2 rfl
        have := run_endRound (P := Tryd.prog) jump hl3
        rw [hrec] at this ⊢
        exact ⟨this, by rw [hrec] at hl3; exact hl3, World.putObj_heap_same (Array.getElem?_eq_some_iff.1 hl3).1, (World.putObj_heap_other (by omega)).trans (hk3.same _ _ (Nat.le_refl _) hk2 rfl)⟩
      have kp : ∀ (W3 : World) (o : Obj), Keep n₀ X (Wa.putObj (w.heap.size + 1) (.loop { rec .ready none with state := .busy })) W3 → Keep n₀ X W (W3.putObj (w.heap.size + 1) o) := fun W3 o h3 =>
        ((hkpa.trans hkp2).trans h3).trans (keep_put _ (by omega) hXl)
      rintro e a3 W3 hp
      cases e with
      | normal =>
        obtain ⟨hk3, hkp3, hi3⟩ := hp
        obtain ⟨hr, hl3, hl4, hk4⟩ := fin none W3 hk3
        exact ⟨_, _, hr, .inl ⟨rfl, hI.put _ hi3 (by omega) hl3 rfl, hXl, hXd, hl4, hk4⟩, kp _ _ hkp3⟩
      | ret =>
        obtain ⟨hk3, hkp3, hi3⟩ := hp
        obtain ⟨hr, hl3, hl4, hk4⟩ := fin (some .ret) W3 hk3
        exact ⟨_, _, hr, .inr ⟨rfl, .ret, (hIx _).put _ hi3 (by omega) hl3 rfl, hXl, hXd, hl4, hk4⟩, kp _ _ hkp3⟩
      | exit id =>
        obtain ⟨hk3, hkp3, hi3⟩ := hp
        obtain ⟨hr, hl3, hl4, hk4⟩ := fin (some (.exit id)) W3 hk3
        exact ⟨_, _, hr, .inr ⟨rfl, .exit id, (hIx _).put _ hi3 (by omega) hl3 rfl, hXl, hXd, hl4, hk4⟩, kp _ _ hkp3⟩
      | goto t =>
        obtain ⟨hk3, hkp3, hi3⟩ := hp
        obtain ⟨hr, hl3, hl4, hk4⟩ := fin (some (.goto t)) W3 hk3
        exact ⟨_, _, hr, .inr ⟨rfl, .goto t, (hIx _).put _ hi3 (by omega) hl3 rfl, hXl, hXd, hl4, hk4⟩, kp _ _ hkp3⟩
      | panic ch => exact hp.elim
      | outgrown => exact hp.elim
    · -- behind the iterator
      rintro e W2 ⟨⟨v, rfl⟩, (⟨X, xs, hS, hi, _, _, hl, hk⟩ | ⟨X, pre, hSp, c, hi, _, _, hl, hk⟩)⟩
      · exact ⟨none, _, by have := run_endLoop (P := Tryd.prog) hl (by rw [hrec]; simp); rw [hrec] at this; exact this, hdone _ X xs _ (Nat.le_refl _) hS (hI.put _ hi (by omega) hl rfl) ((World.putObj_heap_other (by omega)).trans hk)⟩
      · exact ⟨some c, _, by have := run_endLoop (P := Tryd.prog) hl (by rw [hrec]; simp); rw [hrec] at this; exact this, hstop _ X c pre _ (Nat.le_refl _) hSp ((hIx c).put _ hi (by omega) hl rfl) ((World.putObj_heap_other (by omega)).trans hk)⟩
end Go.Proofs.YtiiiinoappjhdaaDoor
namespace Go.Proofs.YtiiiinoappjhdaaDoor
open Go.RowKit Go.Shelf Go.Maps Go.WideAt Go.WideMaps
theorem plainInt : Tryd.prog.plainKey 3 = true := by kernel_rfl
theorem cellsInt : Tryd.prog.cellsOf 3 = 1 := by kernel_rfl
theorem equalIn_pair {t : TypeId} (ht : Tryd.prog.underlying t = some (.array 2 3)) (a b c d : Int) (w : World) : (Op.equalIn 10000 t (.agg #[.int .i64 a, .int .i64 b]) (.agg #[.int .i64 c, .int .i64 d])).run Tryd.prog w = .ok (a == c && b == d) w := by
  obtain ⟨i, hi, -⟩ := info_parts infoInt
  rw [show (10000 : Nat) = 9999 + 1 from rfl, run_equalIn_array w 9999 _ _ ht hi, cellsInt, show List.range 2 = [0, 1] from rfl]
  have p0 : (part 3 #[.int .i64 a, .int .i64 b] (0 * 1)).run Tryd.prog w = .ok (.int .i64 a) w := run_part_plain w plainInt rfl
  have p1 : (part 3 #[.int .i64 a, .int .i64 b] (1 * 1)).run Tryd.prog w = .ok (.int .i64 b) w := run_part_plain w plainInt rfl
  have q0 : (part 3 #[.int .i64 c, .int .i64 d] (0 * 1)).run Tryd.prog w = .ok (.int .i64 c) w := run_part_plain w plainInt rfl
  have q1 : (part 3 #[.int .i64 c, .int .i64 d] (1 * 1)).run Tryd.prog w = .ok (.int .i64 d) w := run_part_plain w plainInt rfl
  have e0 : (Op.equalIn 9999 3 (.int .i64 a) (.int .i64 c)).run Tryd.prog w = .ok (a == c) w := run_equalIn_int w 9998 _ _ _ _ _ Tryd.underlying3
  have e1 : (Op.equalIn 9999 3 (.int .i64 b) (.int .i64 d)).run Tryd.prog w = .ok (b == d) w := run_equalIn_int w 9998 _ _ _ _ _ Tryd.underlying3
  unfold Op.eqItems
  rw [Sem.run_bind, p0, Result.andThen_ok, Sem.run_bind, q0, Result.andThen_ok, Sem.run_bind, e0, Result.andThen_ok]
  cases h : a == c with
  | false => simp
  | true =>
    unfold Op.eqItems
    simp only [Bool.not_true, Bool.false_eq_true, if_false]
    rw [Sem.run_bind, p1, Result.andThen_ok, Sem.run_bind, q1, Result.andThen_ok, Sem.run_bind, e1, Result.andThen_ok]
    cases h2 : b == d <;> simp [Op.eqItems]
theorem noGuard1 : Tryd.prog.eqGuardType Tryd.prog.depth 80 = false := by kernel_rfl
end Go.Proofs.YtiiiinoappjhdaaDoor
namespace Go.Proofs.YtiiiinoappjhdaaDoor
open Go.RowKit Go.Shelf
attribute [local go_sem] Oper.semAt_some
/-- What hangs on the blocks below N alone. -/
def Dep (N : Nat) {β : Type} (J : β → World → Prop) : Prop :=
  ∀ s W W', J s W → W'.os = W.os → W'.tape = W.tape → W'.output = W.output → W.heap.size ≤ W'.heap.size → N ≤ W.heap.size → (∀ k, k < N → W'.heap[k]? = W.heap[k]?) → J s W'
theorem stable_dep {N : Nat} {β : Type} {J : β → World → Prop} (h : Dep N J) : Stable N (fun X s W => ((∀ k, X k → N ≤ k) ∧ N ≤ W.heap.size) ∧ J s W) := by
  rintro X X' s W W' ⟨⟨h1, h2⟩, h3⟩ a1 a2 a3 a4 he hX'
  refine ⟨⟨fun k hk => ?_, by omega⟩, h s W W' h3 a1 a2 a3 a4 h2 fun k hk => ?_⟩
  · rcases hX' k hk with h | h
    · exact h1 k h
    · omega
  · have hx : W.heap[k]? = some W.heap[k] := Array.getElem?_eq_getElem (by omega)
    rw [he k _ hx (fun h => by have := h1 k h; omega) (.inl hk), ← hx]
/-- The pairs that were looked at. -/
def seenQ (C pre : List Nat) : List (Nat × Nat) := pre.flatMap fun p => C.map fun q => (p, q)
theorem seenQ_snoc (C pre : List Nat) (p : Nat) : seenQ C (pre ++ [p]) = seenQ C pre ++ C.map fun q => (p, q) := by simp [seenQ, List.flatMap_append]
theorem seenQ_all (C : List Nat) : seenQ C C = prodL C := rfl
/-- The four boxes of the function. -/
structure SoonB (w : World) (S B : Nat) (best : Nat × Nat) (W : World) : Prop where
  set : W.heap[w.heap.size]? = some (.cells #[.int .u64 S] 57 (0, 0))
  map : W.heap[w.heap.size + 1]? = some (.cells #[.map (some B)] 75 (0, 0))
  res : W.heap[w.heap.size + 1 + 1]? = some (.cells #[.int .i64 0, .int .i64 0] 80 (0, 0))
  best : W.heap[w.heap.size + 1 + 1 + 1]? = some (.cells #[.int .i64 best.1, .int .i64 best.2] 80 (0, 0))
  below : Below w.heap.size w W
theorem SoonB.keep {w W W' : World} {S B : Nat} {best : Nat × Nat} (h : SoonB w S B best W) (a1 : W'.os = W.os) (a2 : W'.tape = W.tape) (a3 : W'.output = W.output) (a4 : W.heap.size ≤ W'.heap.size) (hk : ∀ k, k < w.heap.size + 1 + 1 + 1 + 1 → W'.heap[k]? = W.heap[k]?) : SoonB w S B best W' := by
  obtain ⟨h1, h2, h3, h4, h5⟩ := h
  refine ⟨(hk _ (by omega)).trans h1, (hk _ (by omega)).trans h2, (hk _ (by omega)).trans h3, (hk _ (by omega)).trans h4, ⟨a1.trans h5.os, a2.trans h5.tape, a3.trans h5.output, Nat.le_trans h5.size a4, fun k hk2 => (hk k (by omega)).trans (h5.block k hk2)⟩⟩
theorem SoonB.set_best {w W : World} {S B : Nat} {best : Nat × Nat} (h : SoonB w S B best W) (p q : Nat) : SoonB w S B (p, q) ((W.setCell ⟨w.heap.size + 1 + 1 + 1, 0, none⟩ (.int .i64 p)).setCell ⟨w.heap.size + 1 + 1 + 1, 1, none⟩ (.int .i64 q)) := by
  obtain ⟨h1, h2, h3, h4, h5⟩ := h
  have hk : ∀ k, k ≠ w.heap.size + 1 + 1 + 1 → ((W.setCell ⟨w.heap.size + 1 + 1 + 1, 0, none⟩ (.int .i64 p)).setCell ⟨w.heap.size + 1 + 1 + 1, 1, none⟩ (.int .i64 q)).heap[k]? = W.heap[k]? := fun k hk => by
    rw [Below.heap_setCell _ _ _ _ hk, Below.heap_setCell _ _ _ _ hk]
  exact ⟨(hk _ (by omega)).trans h1, (hk _ (by omega)).trans h2, (hk _ (by omega)).trans h3, pair_stored h4 _ _, (h5.setCell (p := ⟨w.heap.size + 1 + 1 + 1, 0, none⟩) (by show w.heap.size ≤ w.heap.size + 1 + 1 + 1; omega) _).setCell (p := ⟨w.heap.size + 1 + 1 + 1, 1, none⟩) (by show w.heap.size ≤ w.heap.size + 1 + 1 + 1; omega) _⟩
theorem one_block {w : World} {b : Nat} {t : TypeId} {v : Value} (h : w.heap[b]? = some (.cells #[v] t (0, 0))) : w.cell? ⟨b, 0, none⟩ = some v ∧ w.frozen? ⟨b, 0, none⟩ = false := by
  constructor <;> simp [World.cell?, World.frozen?, h]
theorem soon_start (w : World) (S B : Nat) : SoonB w S B (0, 0) ((((w.alloc (.cells #[.int .u64 S] 57)).alloc (.cells #[.map (some B)] 75)).alloc (.cells #[.int .i64 0, .int .i64 0] 80)).alloc (.cells #[.int .i64 0, .int .i64 0] 80)) := by
  have h1 := World.alloc_heap_new w (.cells #[.int .u64 S] 57)
  have h2 := World.alloc_heap_new (w.alloc (.cells #[.int .u64 S] 57)) (.cells #[.map (some B)] 75)
  have h3 := World.alloc_heap_new ((w.alloc (.cells #[.int .u64 S] 57)).alloc (.cells #[.map (some B)] 75)) (.cells #[.int .i64 0, .int .i64 0] 80)
  have h4 := World.alloc_heap_new (((w.alloc (.cells #[.int .u64 S] 57)).alloc (.cells #[.map (some B)] 75)).alloc (.cells #[.int .i64 0, .int .i64 0] 80)) (.cells #[.int .i64 0, .int .i64 0] 80)
  simp only [World.size_alloc] at h2 h3 h4
  refine ⟨?_, ?_, ?_, h4, bal (bal (bal (bal (Below.refl _ _) _) _) _) _⟩
  · rw [Below.heap_alloc _ _ _ (by simp only [World.size_alloc]; omega), Below.heap_alloc _ _ _ (by simp only [World.size_alloc]; omega), Below.heap_alloc _ _ _ (by simp only [World.size_alloc]; omega), h1]
  · rw [Below.heap_alloc _ _ _ (by simp only [World.size_alloc]; omega), Below.heap_alloc _ _ _ (by simp only [World.size_alloc]; omega), h2]
  · rw [Below.heap_alloc _ _ _ (by simp only [World.size_alloc]; omega), h3]
theorem dep_soon (w : World) (S B : Nat) {β : Type} (f : β → Nat × Nat) : Dep (w.heap.size + 1 + 1 + 1 + 1) (fun s W => SoonB w S B (f s) W) :=
  fun _ _ _ hs a1 a2 a3 a4 _ hk => hs.keep a1 a2 a3 a4 hk
/-- What the inner loop's rounds keep of the outer one's. -/
structure SoonI (w : World) (S B p bp N : Nat) (Xo : Blocks) (Wb : World) (best : Nat × Nat) (W : World) : Prop where
  boxes : SoonB w S B best W
  pbox : W.heap[bp]? = some (.cells #[.int .i64 p] 3 (0, 0))
  kf : KeepsFrom (w.heap.size + 1 + 1 + 1 + 1) Wb W
  kp : Keep w.heap.size Xo Wb W
theorem dep_soonI (w : World) (S B p bp N : Nat) (Xo : Blocks) (Wb : World) (hN : Wb.heap.size ≤ N) (hb : bp < N) (h4 : w.heap.size + 1 + 1 + 1 + 1 ≤ N) {β : Type} (f : β → Nat × Nat) : Dep N (fun s W => SoonI w S B p bp N Xo Wb (f s) W) := by
  rintro s W W' ⟨h1, h2, h3, h5⟩ a1 a2 a3 a4 a5 hk
  refine ⟨h1.keep a1 a2 a3 a4 fun k hk2 => hk k (by omega), (hk _ hb).trans h2, ?_, ⟨a1.trans h5.os, a2.trans h5.tape, a3.trans h5.output, Nat.le_trans h5.size a4, fun k hk2 hc => (hk k (by omega)).trans (h5.block k hk2 hc)⟩⟩
  exact ⟨Nat.le_trans h3.size a4, fun k o hk1 hk2 ho => (hk k (by have := (Array.getElem?_eq_some_iff.1 hk2).1; omega)).trans (h3.same k o hk1 hk2 ho)⟩
theorem kf_drewN (B : Nat) (W : World) (n : Nat) : KeepsFrom B W (W.drewN n) := kf_below (below_dr W n)
theorem SoonI.drew {w : World} {S B p bp N : Nat} {Xo : Blocks} {Wb W : World} {best : Nat × Nat} (h : SoonI w S B p bp N Xo Wb best W) (n : Nat) : SoonI w S B p bp N Xo Wb best (W.drewN n) :=
  ⟨h.boxes.keep rfl rfl rfl (Nat.le_refl _) fun _ _ => rfl, h.pbox, h.kf.trans (kf_drewN _ _ _), h.kp.trans (Keep.of_below (below_dr W n))⟩
theorem SoonI.set_best {w : World} {S B p bp N : Nat} {Xo : Blocks} {Wb W : World} {best : Nat × Nat} (h : SoonI w S B p bp N Xo Wb best W) (hX : ¬ Xo (w.heap.size + 1 + 1 + 1)) (hb : bp ≠ w.heap.size + 1 + 1 + 1) (a d : Nat) :
    SoonI w S B p bp N Xo Wb (a, d) ((W.setCell ⟨w.heap.size + 1 + 1 + 1, 0, none⟩ (.int .i64 a)).setCell ⟨w.heap.size + 1 + 1 + 1, 1, none⟩ (.int .i64 d)) := by
  refine ⟨h.boxes.set_best a d, ?_, (h.kf.trans (kf_set _ _ _ _)).trans (kf_set _ _ _ _), (h.kp.trans (keep_set_at _ _ _ _ (by omega) hX)).trans (keep_set_at _ _ _ _ (by omega) hX)⟩
  rw [Below.heap_setCell _ _ _ _ hb, Below.heap_setCell _ _ _ _ hb, h.pbox]
set_option maxRecDepth 100000 in
set_option maxHeartbeats 4000000 in
theorem soonest_any (m : List (List Int)) (S B : Nat) (w : World) (hT : Tab w) (hv : validM m = true) (hS : S < 2 ^ m.length) (hL : LenMap m w B) (hall : ∀ p q, p < q → q < m.length → ∃ k, mergeP m p q k) :
    Calls Tryd.prog 53 #[.int .u64 S, .map (some B)] w fun e w' => e = .returned (.agg #[.int .i64 ((soonOf m (prodL (elems S))).1 : Nat), .int .i64 ((soonOf m (prodL (elems S))).2 : Nat)]) ∧ Below w.heap.size w w' := by
  obtain ⟨p1, p2, p3, p4, -⟩ := valid_parts hv
  have hS64 : S < 2 ^ 64 := Nat.lt_of_lt_of_le hS (Nat.pow_le_pow_right (by decide) (by omega))
  have hfo := follows
  refine (callsIn_wide (n := 0)).1 ?_
  refine callsIn_of_wp_marks Tryd.func53 rfl trivial ?_ rfl
  simp only [Tryd.ntmps53, List.size_toArray, List.length_cons, List.length_nil, Nat.reduceAdd, Nat.reduceSub, Array.replicate_succ, Array.replicate_zero, List.push_toArray, List.append_toArray, List.nil_append, List.cons_append]
  gi_wp2
  have hst := soon_start w S B
  have hsz : ((((w.alloc (.cells #[.int .u64 S] 57)).alloc (.cells #[.map (some B)] 75)).alloc (.cells #[.int .i64 0, .int .i64 0] 80)).alloc (.cells #[.int .i64 0, .int .i64 0] 80)).heap.size = w.heap.size + 1 + 1 + 1 + 1 := by simp
  generalize ((((w.alloc (.cells #[.int .u64 S] 57)).alloc (.cells #[.map (some B)] 75)).alloc (.cells #[.int .i64 0, .int .i64 0] 80)).alloc (.cells #[.int .i64 0, .int .i64 0] 80)) = w1 at *
  have hT1 := hT.on hst.below
  have hstI := stable_dep (dep_soon w S B (fun pre : List Nat => soonOf m (seenQ (elems S) pre)))
  rw [← hsz] at hstI
  refine range_law2 (gf := 65) (fb := #[.int .u64 S]) (lb := #[]) rfl (enters_of Tryd.func65 (by kernel_rfl) rfl)
    (All_seq S hS64 w.heap.size hT.lt w1 (by omega) hT1) (fun _ _ _ _ _ _ => trivial) (by omega) (Below.refl _ _) (fun _ => rfl)
    (fun X pre W => ((∀ k, X k → w1.heap.size ≤ k) ∧ w1.heap.size ≤ W.heap.size) ∧ SoonB w S B (soonOf m (seenQ (elems S) pre)) W)
    (fun _ _ _ _ => False) hstI (fun _ _ _ _ _ _ hs _ _ _ _ _ _ => hs) ⟨⟨fun _ h => h.elim, Nat.le_refl _⟩, hst⟩
    (fun X p a' W => ∃ bp, a' = { tmps := #[.int .u64 S, .map (some B), .pointer (some ⟨w.heap.size, 0, none⟩), .pointer (some ⟨w.heap.size + 1, 0, none⟩), .pointer (some ⟨w.heap.size + 1 + 1, 0, none⟩), .pointer (some ⟨w.heap.size + 1 + 1 + 1, 0, none⟩), .pointer (some ⟨bp, 0, none⟩), undef, .int .u64 S, .func (.func 65) #[.int .u64 S] #[], .int .i64 p, undef, undef, undef, undef, undef, undef, undef, undef, undef, undef, undef, undef, undef, undef, undef, undef, undef, undef, undef, undef, undef, undef, undef, undef, undef, undef], defers := [] } ∧
      W.heap[bp]? = some (.cells #[.int .i64 p] 3 (0, 0)) ∧ w1.heap.size ≤ bp ∧ ¬ X bp)
    ?ax ?assign ?body ?done ?stop
  case ax =>
    rintro X p a' W l o o' ⟨bp, h1, h2, h3, h4⟩ _ hl hc
    refine ⟨bp, h1, (World.putObj_heap_other (fun e => ?_)).trans h2, h3, h4⟩
    subst e
    rw [hl] at h2
    cases h2
    cases hc
  case assign =>
    intro l X pre p W K hXs hi hK
    obtain ⟨⟨hX1, hX2⟩, hB⟩ := hi
    gi_wp2
    refine hK _ _ (kf_below (bal (Below.refl _ _) _)) (Keep.of_below (bal (Below.refl _ _) _)) ⟨⟨hX1, by simp; omega⟩, hB.keep rfl rfl rfl (by simp) fun k hk => Below.heap_alloc _ _ _ (by omega)⟩ ⟨_, rfl, ?_, hX2, fun h => by have := hXs _ h; omega⟩
    exact World.alloc_heap_new _ _
  case body =>
    rintro l X pre p a' Wb hl hrec hXl hXs ⟨⟨hX1, hX2⟩, hB⟩ _ ⟨bp, rfl, hpb, hbp1, hbp2⟩ hsp
    obtain ⟨c1, -⟩ := one_block hB.set
    gi_wp2
    have hbl := (Array.getElem?_eq_some_iff.1 hpb).1
    have hTb := hT.on hB.below
    have hstJ := stable_dep (dep_soonI w S B p bp Wb.heap.size X Wb (Nat.le_refl _) hbl (by omega) (fun preI : List Nat => soonOf m (seenQ (elems S) pre ++ preI.map fun q => (p, q))))
    refine range_law_in (gf := 65) (fb := #[.int .u64 S]) (lb := #[]) hrec rfl (enters_of Tryd.func65 (by kernel_rfl) rfl)
      (All_seq S hS64 w.heap.size hT.lt Wb (by omega) hTb) (fun _ _ _ _ _ _ => trivial) (by omega) (Below.refl _ _) (fun _ => rfl)
      (fun Y preI W => ((∀ k, Y k → Wb.heap.size ≤ k) ∧ Wb.heap.size ≤ W.heap.size) ∧ SoonI w S B p bp Wb.heap.size X Wb (soonOf m (seenQ (elems S) pre ++ preI.map fun q => (p, q))) W)
      (fun _ _ _ _ => False) hstJ (fun _ _ _ _ _ _ hs _ _ _ _ _ _ => hs) ⟨⟨fun _ h => h.elim, Nat.le_refl _⟩, by rw [List.map_nil, List.append_nil]; exact ⟨hB, hpb, KeepsFrom.refl _ _, Keep.refl _ _ _⟩⟩
      (fun q a' _ => a' = { tmps := #[.int .u64 S, .map (some B), .pointer (some ⟨w.heap.size, 0, none⟩), .pointer (some ⟨w.heap.size + 1, 0, none⟩), .pointer (some ⟨w.heap.size + 1 + 1, 0, none⟩), .pointer (some ⟨w.heap.size + 1 + 1 + 1, 0, none⟩), .pointer (some ⟨bp, 0, none⟩), .int .i64 q, .int .u64 S, .func (.func 65) #[.int .u64 S] #[], .int .i64 p, .int .u64 S, .func (.func 65) #[.int .u64 S] #[], .int .i64 q, undef, undef, undef, undef, undef, undef, undef, undef, undef, undef, undef, undef, undef, undef, undef, undef, undef, undef, undef, undef, undef, undef, undef], defers := [] })
      (fun _ _ _ _ _ _ _ hs _ _ _ _ _ _ => hs) ?assign2 ?body2 ?done2 ?stop2
    case assign2 =>
      intro l' Y preI q W K hi hK
      gi_wp2
      exact hK _ _ (KeepsFrom.refl _ _) (Keep.refl _ _ _) hi rfl
    case body2 =>
      rintro l' Y preI q a' W hl' hrec' hYl hYs ⟨⟨hY1, hY2⟩, hJ⟩ _ rfl hspq
      obtain ⟨hSB, hpbW, hkf, hkp⟩ := hJ
      have hq : q < m.length := elems_lt hS (hspq.subset (by simp))
      have hp : p < m.length := elems_lt hS (hsp.subset (by simp))
      have hQ : ∀ e ∈ seenQ (elems S) pre ++ preI.map (fun q => (p, q)), e.2 < m.length := by
        intro e he
        rcases List.mem_append.1 he with h1 | h1
        · obtain ⟨a, _, h2⟩ := List.mem_flatMap.1 h1
          obtain ⟨d, hd, rfl⟩ := List.mem_map.1 h2
          exact elems_lt hS hd
        · obtain ⟨d, hd, rfl⟩ := List.mem_map.1 h1
          exact elems_lt hS (hspq.subset (by simp [hd]))
      have hok := soonOf_ok m (seenQ (elems S) pre ++ preI.map fun q => (p, q))
      have hsn := soonOf_snoc m (seenQ (elems S) pre ++ preI.map fun q => (p, q)) (p, q)
      rw [show seenQ (elems S) pre ++ preI.map (fun q => (p, q)) ++ [(p, q)] = seenQ (elems S) pre ++ (preI ++ [q]).map (fun q => (p, q)) from by simp] at hsn
      have Hsn := hid hsn
      obtain ⟨bst, hbst⟩ : ∃ b, soonOf m (seenQ (elems S) pre ++ preI.map fun q => (p, q)) = b := ⟨_, rfl⟩
      rw [hbst] at hSB hok
      have Hbst := hid hbst
      have HI := hid (fun nq => SoonI.drew (N := Wb.heap.size) ⟨hSB, hpbW, hkf, hkp⟩ nq)
      have HLD := hid (fun nq => show LenMap m (W.drewN nq) B from (hL.below (hSB.below)).below (below_dr W nq))
      obtain ⟨m1, -⟩ := one_block hSB.map
      obtain ⟨pb1, -⟩ := one_block hpbW
      have hXn : ¬ X (w.heap.size + 1 + 1 + 1) := fun h => by have := hX1 _ h; omega
      have hYn : ¬ Y (w.heap.size + 1 + 1 + 1) := fun h => by have := hY1 _ h; omega
      have hWl := hSB.below.size
      obtain ⟨b1, b2⟩ := bst
      obtain ⟨t1, t2, t3, t4⟩ := pair_block hSB.best
      simp only at t1 t2
      have Hend := hid (fun nq => show Keep w.heap.size Y W (((W.drewN nq).setCell ⟨w.heap.size + 1 + 1 + 1, 0, none⟩ (.int .i64 p)).setCell ⟨w.heap.size + 1 + 1 + 1, 1, none⟩ (.int .i64 q)) from ((Keep.of_below (below_dr W nq)).trans (keep_set_at _ _ _ _ (by omega) hYn)).trans (keep_set_at _ _ _ _ (by omega) hYn))
      have Hkf := hid (fun nq => show KeepsFrom Wb.heap.size W (((W.drewN nq).setCell ⟨w.heap.size + 1 + 1 + 1, 0, none⟩ (.int .i64 p)).setCell ⟨w.heap.size + 1 + 1 + 1, 1, none⟩ (.int .i64 q)) from ((kf_drewN _ _ _).trans (kf_set _ _ _ _)).trans (kf_set _ _ _ _))
      have Hset := hid (fun nq => (HI.out nq).set_best hXn (by omega) p q)
      have HsetEnd := hid (fun (hs : soonStep m (b1, b2) (p, q) = (p, q)) => show soonOf m (seenQ (elems S) pre ++ (preI ++ [q]).map fun q => (p, q)) = (p, q) from by rw [Hsn.out, Hbst.out, hs])
      have HsameEnd := hid (fun (hs : soonStep m (b1, b2) (p, q) = (b1, b2)) => show soonOf m (seenQ (elems S) pre ++ (preI ++ [q]).map fun q => (p, q)) = (b1, b2) from by rw [Hsn.out, Hbst.out, hs])
      clear hsn hbst hSB hpbW hkf hkp hspq hYs hrec'
      dsimp only
      by_cases hlt : p < q
      · have hlt2 : decide (p < q) = true := by simp; omega
        have hlt3 : (p : Int) < q := by omega
        have hYsz : ∀ nq, Wb.heap.size ≤ (((W.drewN nq).setCell ⟨w.heap.size + 1 + 1 + 1, 0, none⟩ (.int .i64 p)).setCell ⟨w.heap.size + 1 + 1 + 1, 1, none⟩ (.int .i64 q)).heap.size := fun nq => by simp [World.setCell]; omega
        have HYsz := hid hYsz
        have hng := noGuard1
        have heq := fun a b c d w => equalIn_pair Tryd.underlying80 a b c d w
        clear hYsz
        rcases hok with ⟨hb0, -⟩ | ⟨hbm, hb12, -⟩
        · simp only [Prod.mk.injEq] at hb0
          obtain ⟨rfl, rfl⟩ := hb0
          have Hs := hid (HsetEnd.out (by unfold soonStep; rw [if_pos ⟨hlt, .inl rfl⟩]))
          clear HsameEnd HsetEnd hQ
          gi_wp2
          refine wp_region_round l' (by kernel_rfl) (by kernel_rfl) (by kernel_rfl) ?_
          repeat (go_big_quiet_step (fail))
          refine wpQuiet_nil ?_
          intro nq
          gi_wp2
          exact ⟨Hkf.out nq, Hend.out nq, ⟨hY1, HYsz.out nq⟩, by rw [Hs.out]; exact Hset.out nq⟩
        · have hb2 := hQ _ hbm
          simp only at hb2 hb12
          obtain ⟨k1, hk1⟩ := hall p q hlt hq
          obtain ⟨j1, -, hd1⟩ := mdist_some hk1
          obtain ⟨k2, hk2⟩ := hall b1 b2 hb12 hb2
          obtain ⟨j2, -, hd2⟩ := mdist_some hk2
          have hf1 := fun nq => (HLD.out nq).find hv (Nat.le_of_lt hlt) hq hd1
          have hf2 := fun nq => (HLD.out nq).find hv (Nat.le_of_lt hb12) hb2 hd2
          have hz1 : ((b2 : Int) == 0) = false := by rw [beq_eq_false_iff_ne]; omega
          have hz2 : (((b1 : Int) == 0) && ((b2 : Int) == 0)) = false := by rw [hz1, Bool.and_false]
          have hl1 := mlen_of hv hp hq hd1
          have hl2 := mlen_of hv (by omega) hb2 hd2
          by_cases hj : j1 < j2
          · have hj2 : decide (j1 < j2) = true := by simp; omega
            have hj3 : (j1 : Int) < j2 := by omega
            have Hs := hid (HsetEnd.out (by unfold soonStep; rw [if_pos ⟨hlt, .inr (by simp only; rw [hl1, hl2]; omega)⟩]))
            clear HsameEnd HsetEnd hQ hbm hl1 hl2 hk1 hk2 hd1 hd2
            gi_wp2
            refine wp_region_round l' (by kernel_rfl) (by kernel_rfl) (by kernel_rfl) ?_
            repeat (go_big_quiet_step (fail))
            refine wpQuiet_nil ?_
            intro nq
            gi_wp2
            exact ⟨Hkf.out nq, Hend.out nq, ⟨hY1, HYsz.out nq⟩, by rw [Hs.out]; exact Hset.out nq⟩
          · have hj2 : decide (j1 < j2) = false := by simp; omega
            have hj3 : ¬ (j1 : Int) < j2 := by omega
            have Hs := hid (HsameEnd.out (by unfold soonStep; rw [if_neg (fun h => by
              rcases h.2 with h1 | h1
              · simp only [Prod.mk.injEq] at h1; omega
              · simp only at h1; rw [hl1, hl2] at h1; omega)]))
            clear HsameEnd HsetEnd hQ hbm hl1 hl2 hk1 hk2 hd1 hd2
            gi_wp2
            refine wp_region_round l' (by kernel_rfl) (by kernel_rfl) (by kernel_rfl) ?_
            repeat (go_big_quiet_step (fail))
            refine wpQuiet_nil ?_
            intro nq
            gi_wp2
            exact ⟨kf_drewN _ _ _, Keep.of_below (below_dr W nq), ⟨hY1, hY2⟩, by rw [Hs.out]; exact HI.out nq⟩
      · have hnl : decide ((p : Int) < q) = false := by simp; omega
        have hnl2 : decide (p < q) = false := by simp; omega
        have hnl3 : ¬ (p : Int) < q := by omega
        have Hs := hid (HsameEnd.out (by unfold soonStep; rw [if_neg (fun h => hlt h.1)]))
        clear HsameEnd HsetEnd hok hQ
        gi_wp2
        refine wp_region_round l' (by kernel_rfl) (by kernel_rfl) (by kernel_rfl) ?_
        repeat (go_big_quiet_step (fail))
        refine wpQuiet_nil ?_
        intro nq
        gi_wp2
        exact ⟨kf_drewN _ _ _, Keep.of_below (below_dr W nq), ⟨hY1, hY2⟩, by rw [Hs.out]; exact HI.out nq⟩
    case done2 =>
      rintro Y xs W rfl ⟨⟨hY1, hY2⟩, hSB, hpbW, hkf, hkp⟩
      gi_wp2
      refine ⟨?_, ?_, ⟨hX1, by omega⟩, ?_⟩
      · rw [hsz]; exact hkf
      · exact hkp
      · rw [seenQ_snoc]; exact hSB
    case stop2 =>
      rintro Y c preI W _ h
      exact h.elim
  case done =>
    rintro D X xs W hD rfl ⟨⟨hX1, hX2⟩, hB⟩ hK
    rw [seenQ_all] at hB
    obtain ⟨r, hr⟩ : ∃ r, soonOf m (prodL (elems S)) = r := ⟨_, rfl⟩
    rw [hr] at hB
    have Hr := hid hr
    clear hr
    obtain ⟨r1, r2⟩ := r
    obtain ⟨c1, c2, -, -⟩ := pair_block hB.best
    obtain ⟨-, -, c3, c4⟩ := pair_block hB.res
    obtain ⟨d1, d2, -, -⟩ := pair_block hB.res
    gi_wp2
    have hst2 := pair_stored hB.res (.int .i64 (r1 : Nat)) (.int .i64 (r2 : Nat))
    have hBs := (hB.below.setCell (p := ⟨w.heap.size + 1 + 1, 0, none⟩) (by show w.heap.size ≤ w.heap.size + 1 + 1; omega) (.int .i64 (r1 : Nat))).setCell (p := ⟨w.heap.size + 1 + 1, 1, none⟩) (by show w.heap.size ≤ w.heap.size + 1 + 1; omega) (.int .i64 (r2 : Nat))
    have hDn : D ≠ w.heap.size + 1 + 1 := by omega
    have hK2 : ((W.setCell ⟨w.heap.size + 1 + 1, 0, none⟩ (.int .i64 (r1 : Nat))).setCell ⟨w.heap.size + 1 + 1, 1, none⟩ (.int .i64 (r2 : Nat))).heap[D]? = some (.deferred (some [])) := by
      rw [Below.heap_setCell _ _ _ _ hDn, Below.heap_setCell _ _ _ _ hDn, hK]
    generalize (W.setCell ⟨w.heap.size + 1 + 1, 0, none⟩ (.int .i64 (r1 : Nat))).setCell ⟨w.heap.size + 1 + 1, 1, none⟩ (.int .i64 (r2 : Nat)) = Y at *
    have hYb := belowK_b (w := w) (Nat.le_refl _) Y D (.deferred (some [])) (.deferred none) (by omega) hK2 rfl rfl
    have hst3 : (Y.putObj D (.deferred none)).heap[w.heap.size + 1 + 1]? = some (.cells #[.int .i64 (r1 : Nat), .int .i64 (r2 : Nat)] 80 (0, 0)) := (World.putObj_heap_other (by omega)).trans hst2
    obtain ⟨e1, e2, -, -⟩ := pair_block hst3
    refine ⟨by simp, .inl ⟨_, _, rfl, run_takeDeferred hK2, ?_⟩⟩
    refine ⟨.agg #[.int .i64 (r1 : Nat), .int .i64 (r2 : Nat)], by simp [results, Tryd.results53, go_sem, e1, e2], by rw [Hr.out], hBs.trans hYb⟩
  case stop =>
    rintro D X c pre W _ _ h _
    exact h.elim
end Go.Proofs.YtiiiinoappjhdaaDoor
namespace Go.Proofs.YtiiiinoappjhdaaDoor
open Go.RowKit Go.Shelf
theorem LenMap.len {m : List (List Int)} {w : World} {B : Nat} (hL : LenMap m w B) : ∃ c : Nat, (∀ ty, (Builtin.len_ #[75] ty #[.map (some B)]).run Tryd.prog w = .ok (.int .i64 c) w) ∧ (m.length * (m.length + 1) ≤ 2 * c ↔ allMerge m) ∧ c ≤ 3600 := by
  obtain ⟨n, V, T, c, h1, h2, h3, h4⟩ := hL
  exact ⟨c, fun ty => h1.len Tryd.underlying75 ty, h3, h4⟩
set_option maxRecDepth 100000 in
set_option maxHeartbeats 1000000 in
theorem Reset_none (v : Value) (m : List (List Int)) (w : World) (h : Rows w v m) (hv : validM m = true) (hno : ¬ allMerge m) :
    Calls Tryd.prog 26 #[.agg #[v]] w (NoWord w 4) := by
  obtain ⟨p1, p2, -⟩ := valid_parts hv
  obtain ⟨A, cap, rfl, hml, -⟩ := id h
  have hX := bal (Below.refl _ w) (.cells #[.slice A m.length cap] 24)
  have Hx := hid hX
  have hbx := (Boxed.new w 24 (.slice A m.length cap)).cell
  go_enter Tryd.func26, Tryd.ntmps26
  go_wp2_with fail
  generalize w.alloc (.cells #[.slice A m.length cap] 24) = X at *
  clear hX
  have hX := Hx.out
  have hr := h.below hX
  refine (Valid_bool _ m true _ hr hv).mono ?_
  rintro e w1 ⟨rfl, h1⟩
  have e0 := (h1.cell (p := ⟨w.heap.size, 0, none⟩) (World.block_lt_of_cell? _ _ hbx)).trans hbx
  have hr1 := hr.below h1
  go_wp2_with fail
  refine (mergers_any _ m _ hr1 hv).mono ?_
  rintro e w2 ⟨B, rfl, hL, h2⟩
  obtain ⟨c, hc, hiff, hc2⟩ := hL.len
  have HB := hid (btr (btr hX h1) h2)
  have hlt : 2 * c < m.length * (m.length + 1) := Nat.lt_of_not_le fun e => hno (hiff.1 e)
  have hmm : m.length * (m.length + 1) ≤ 60 * 61 := Nat.mul_le_mul p2 (by omega)
  have hK : (m.length : Int) * ((m.length : Int) + 1) = ((m.length * (m.length + 1) : Nat) : Int) := by push_cast; rfl
  have hb1 : (m.length : Int) * ((m.length : Int) + 1) ≤ 3660 := by rw [hK]; omega
  have hb0 : 0 ≤ (m.length : Int) * ((m.length : Int) + 1) := by rw [hK]; omega
  have ht : (c : Int) < (m.length : Int) * ((m.length : Int) + 1) / 2 := by
    have hm2 : m.length * (m.length + 1) % 2 = 0 := by
      rw [Nat.mul_mod]
      rcases Nat.mod_two_eq_zero_or_one m.length with h | h
      · rw [h]; simp
      · rw [Nat.add_mod, h]
    rw [hK]; omega
  clear hbx hr h Hx e0 hL h1 h2 hX hr1 hK hlt hiff hmm
  go_wp2
  go_ret2
  exact ⟨rfl, HB.out⟩
/-- The measure of the search: how many states are left. -/
def setLeft (v : Value) : Nat := (elems (intOf v).toNat).length
theorem imgWord_take (m : List (List Int)) (S : Nat) (u : List Int) {k : Nat} (hk : k < u.length) {x : Nat} (hx : u.getD k 0 = (x : Int)) : imgWord m S (u.take (k + 1)) = imgTo m (x : Int) (elems (imgWord m S (u.take k))) := by
  rw [imgWord_snoc m S u k hk, hx]; rfl
set_option maxRecDepth 100000 in
set_option maxHeartbeats 4000000 in
theorem Reset_ok (v : Value) (m : List (List Int)) (w : World) (hT : Tab w) (h : Rows w v m) (hv : validM m = true) (hall : allMerge m) :
    Calls Tryd.prog 26 #[.agg #[v]] w (WordIs w (resetW m)) := by
  obtain ⟨i0, hi, hz0, hz1, hz2⟩ := info_parts infoIntE
  obtain ⟨p1, p2, p3, p4, -⟩ := valid_parts hv
  obtain ⟨A, cap, rfl, hml, -⟩ := id h
  have hX := bal (Below.refl _ w) (.cells #[.slice A m.length cap] 24)
  have Hx := hid hX
  have hbx := (Boxed.new w 24 (.slice A m.length cap)).cell
  have hXs : (w.alloc (.cells #[.slice A m.length cap] 24)).heap.size = w.heap.size + 1 := World.size_alloc _ _
  go_enter Tryd.func26, Tryd.ntmps26
  go_wp2_with fail
  generalize w.alloc (.cells #[.slice A m.length cap] 24) = X at *
  clear hX
  have hX := Hx.out
  have hr := h.below hX
  refine (Valid_bool _ m true _ hr hv).mono ?_
  rintro e w1 ⟨rfl, h1⟩
  have e0 := (h1.cell (p := ⟨w.heap.size, 0, none⟩) (World.block_lt_of_cell? _ _ hbx)).trans hbx
  have hr1 := hr.below h1
  go_wp2_with fail
  refine (mergers_any _ m _ hr1 hv).mono ?_
  rintro e w2 ⟨B, rfl, hL, h2⟩
  obtain ⟨c, hc, hiff, hc2⟩ := hL.len
  have HB := hid (btr (btr hX h1) h2)
  have e1 := (h2.cell (p := ⟨w.heap.size, 0, none⟩) (World.block_lt_of_cell? _ _ e0)).trans e0
  have hlt : m.length * (m.length + 1) ≤ 2 * c := hiff.2 hall
  have hmm : m.length * (m.length + 1) ≤ 60 * 61 := Nat.mul_le_mul p2 (by omega)
  have hK : (m.length : Int) * ((m.length : Int) + 1) = ((m.length * (m.length + 1) : Nat) : Int) := by push_cast; rfl
  have hb1 : (m.length : Int) * ((m.length : Int) + 1) ≤ 3660 := by rw [hK]; omega
  have hb0 : 0 ≤ (m.length : Int) * ((m.length : Int) + 1) := by rw [hK]; omega
  have ht : ¬ (c : Int) < (m.length : Int) * ((m.length : Int) + 1) / 2 := by rw [hK]; omega
  have hr2 := hr1.below h2
  have hT2 := hT.on HB.out
  have hw2 : w.heap.size < w2.heap.size := World.block_lt_of_cell? _ _ e1
  clear hbx hr h Hx e0 h1 h2 hX hr1 hK hlt hiff hmm hXs
  go_wp2_with (go_at_call 51; refine (Below_any m.length _ p2).mono ?_; rintro e w' ⟨rfl, rfl⟩)
  have hpow := Nat.two_pow_pos m.length
  have hpow2 : 2 ^ m.length ≤ 2 ^ 60 := Nat.pow_le_pow_right (by decide) p2
  have hel := elems_below m.length (by omega)
  have HRW := hid (show resetW m = greedyW m m.length (2 ^ m.length - 1) from rfl)
  have hrl := (resetW_ok hv hall).2.2
  have hcube : m.length * m.length * m.length ≤ 60 * 60 * 60 := Nat.mul_le_mul (Nat.mul_le_mul p2 p2) p2
  have hrl2 : (resetW m).length ≤ 36000 := by omega
  have hS0 : 2 ^ m.length - 1 < 2 ^ m.length := by omega
  have hE1 : 1 ≤ (elems (2 ^ m.length - 1)).length := by rw [hel]; simpa using p1
  have hE2 : (elems (2 ^ m.length - 1)).length ≤ m.length + 1 := by rw [hel]; simp
  generalize 2 ^ m.length - 1 = S0 at *
  generalize resetW m = RW at *
  clear hrl hcube hel hb1 hb0 ht hc
  go_loopw [6, 7] (fun rv sv wr => ∃ (S f : Nat) (pre : List Int), sv = .int .u64 (S : Nat) ∧ S < 2 ^ m.length ∧ 1 ≤ (elems S).length ∧ (elems S).length ≤ f + 1 ∧ RW = pre ++ greedyW m f S ∧ wr.ownsRow w2.heap.size 3 1 rv pre.length (pre.map fun x => .int .i64 x) ∧ Below w2.heap.size w2 wr ∧ wr.cell? ⟨w.heap.size, 0, none⟩ = some (.slice A m.length cap)) (fun _ sv _ => setLeft sv)
  case atStart => exact ⟨S0, m.length, [], rfl, hS0, hE1, hE2, HRW.out, World.ownsRow_nil _ _ _ _, Below.refl _ _, e1⟩
  case round =>
    clear e1 HRW hS0 hE1 hE2
    obtain ⟨S, f, pre, rfl, hS, hE1, hE2, hRW, hO, hB, hbx⟩ := hrel
    have hS64 : S < 18446744073709551616 := by omega
    have hbl := World.block_lt_of_cell? _ _ hbx
    by_cases hle : (elems S).length ≤ 1
    · have hng : ¬ (1 : Int) < (elems S).length := by omega
      have HO := hid (show wr.ownsRow w.heap.size 3 1 u6 RW.length (RW.map fun x => .int .i64 x) from by
        rw [hRW, greedy_end hle, List.append_nil]
        exact row_mono hO (by omega))
      have HBB := hid (btr HB.out hB)
      clear hO hRW
      go_wp2_with (go_at_call 36; refine (Size_any S _ hS64).mono ?_; rintro e w' ⟨rfl, rfl⟩)
      go_ret2
      exact ⟨_, rfl, HO.out, HBB.out⟩
    · have hng : (1 : Int) < (elems S).length := by omega
      obtain ⟨f, rfl⟩ : ∃ f', f = f' + 1 := ⟨f - 1, by omega⟩
      obtain ⟨t, r, b1, b2, b3, b4, b5, b6, b7, b8, b9, b10, b11, b12⟩ := greedy_step hv hall hS (by omega)
      have hgm := greedy_more (m := m) (f := f) hle
      rw [hgm] at hRW
      have hRl : pre.length + t ≤ 36000 := by
        rw [hRW, List.length_append, List.length_append, b6] at hrl2
        omega
      have ht0 : 1 ≤ t := by
        rcases Nat.eq_zero_or_pos t with e | e
        · subst e
          have hmz := mdist_zero.1 b4
          have hsk := soonOf_ok m (prodL (elems S))
          rw [b1] at hsk
          exfalso
          rcases hsk with ⟨_, h2⟩ | ⟨_, h2, _⟩
          · have hp0 := greedy_pair hv (elems_nodup S) (fun c hc => elems_lt hS hc) (by omega) hall
            obtain ⟨_, _, _, h4, _⟩ := hp0
            rw [b1] at h4
            omega
          · omega
        · exact e
      have hsoon := fun (w' : World) (hb : Below w2.heap.size w2 w') => soonest_any m S B w' (hT2.on hb) hv hS (hL.below hb) hall
      rw [b1] at hsoon
      have hmerg := fun (w' : World) (hb : Below w2.heap.size w2 w') => merger_any _ m r.1 r.2 t B w' (hr2.below hb) hv b2 b3 b4 (hL.below hb)
      rw [← b5] at hmerg
      have HSW := hid b6
      have HS7 := hid b7
      have HS9 := hid b9
      have H10 := hid b10
      have H11 := hid b11
      have HRw := hid hRW
      have HO := hid hO
      have HSN := hid hsoon
      have HMG := hid hmerg
      have hdef := hid (fun (k : Nat) (hk : k < (stepW m S).length) (x : Nat) (hx : (stepW m S).getD k 0 = (x : Int)) => imgWord_take m S (stepW m S) hk hx)
      obtain ⟨r1, r2⟩ := r
      clear hO hRW hgm b1 b4 b5 b6 b7 b8 b9 b10 b11 hsoon hmerg
      generalize hSWW : stepW m S = u at *
      have HSWW := hid hSWW
      clear hSWW
      simp only at b2 b3
      go_wp2_with (go_at_call 36; refine (Size_any S _ hS64).mono ?_; rintro e w' ⟨rfl, rfl⟩)
      have hBf := hid hB
      have hrw := hid (fun (w' : World) (hb : Below w2.heap.size w2 w') => hr2.below hb)
      go_region_held3 (fun w' => Below wr.heap.size wr w' ∧ w'.cell? ⟨w.heap.size, 0, none⟩ = some (.slice A m.length cap)) (exact held_one hbx (by first | exact below_dr wr 1 | assumption)) (first
        | (go_at_call 53; go_must (refine (HSN.out _ (btr hBf.out (by first | exact below_dr wr 1 | exact Below.refl _ _))).mono ?_; rintro e y1 ⟨rfl, hy1⟩; have k1 : Below wr.heap.size wr y1 := btr (by first | exact below_dr wr 1 | exact Below.refl _ _) hy1))
        | (go_at_call 52; go_must (refine (HMG.out _ (btr hBf.out k1)).mono ?_; rintro e y2 ⟨rv, rfl, ho, hy2⟩; have k2 : Below wr.heap.size wr y2 := btr k1 hy2; have HO2 := hid ho; have hk1 := k1.size; clear ho)))
      rename_i hheld
      obtain ⟨-, hbx2⟩ := hheld
      obtain ⟨g, gc, rfl⟩ := ownsRow_pos' HO2.out ht0
      have HK2 := hid k2
      clear hy1 hbx hB
      go_wp2_with fail
      go_loopw [7, 40] (fun sv kv wq => ∃ k : Nat, k ≤ t ∧ kv = .int .i64 (k : Nat) ∧ sv = .int .u64 (imgWord m S (u.take k) : Nat) ∧ imgWord m S (u.take k) < 2 ^ m.length ∧ Below y2.heap.size y2 wq) (fun _ kv _ => t - (intOf kv).toNat)
      case atStart => exact ⟨0, Nat.zero_le _, rfl, rfl, hS, Below.refl _ _⟩
      case round =>
        obtain ⟨k, hk, rfl, rfl, hSk, hBk⟩ := hrel
        have hbx3 := (hBk.cell (p := ⟨w.heap.size, 0, none⟩) (World.block_lt_of_cell? _ _ hbx2)).trans hbx2
        have hBw := btr hBf.out (btr HK2.out hBk)
        by_cases hkt : k < t
        · have hks : (k : Int) < t := by omega
          have hul : k < u.length := by rw [HSW.out]; exact hkt
          have hux := HS7.out
          have hin := inB_iff.1 (all_getD _ u 0 hux k hul)
          obtain ⟨x, hx⟩ := Int.eq_ofNat_of_zero_le hin.1
          have hcA : y2.cell? ⟨g, k, none⟩ = some (.int .i64 (u.getD k 0)) := by
            rw [HO2.out.cellAt k (by omega), getI_cell hul]
          rw [hx] at hcA
          have hcB := (hBk.cell (p := ⟨g, k, none⟩) (World.block_lt_of_cell? _ _ hcA)).trans hcA
          have hd := hdef.out k hul x hx
          have Hd := hid hd
          have hxl : x < letters m := by have := hin.2; rw [hx] at this; omega
          have hTk := hT2.on hBw
          have hrk := hr2.below hBw
          have hSk2 := hid (show imgTo m (x : Int) (elems (imgWord m S (u.take k))) < 2 ^ m.length from imgTo_lt m _ m.length _ (fun s hs => (nx_ok hv (elems_lt hSk hs) (by omega) (by omega)).1))
          clear hd hux hcA hbx2 hx
          generalize imgWord m S (u.take k) = Sk at *
          go_wp2_with fail
          refine (SetImage_any _ m Sk x _ hTk hrk hv hSk hxl).mono ?_
          rintro e w3 ⟨rfl, h3⟩
          have hB3 := hid (btr hBk h3)
          clear hbx3 hcB hTk hrk
          go_wp2
          go_roundw
          case rel => exact ⟨k + 1, by omega, by go_num, by rw [Hd.out], by rw [Hd.out]; exact hSk2.out, hB3.out⟩
          case measure => simp [intOf]; omega
        · obtain rfl : k = t := by omega
          have hks : ¬ (k : Int) < k := by omega
          have hut : u.take k = u := List.take_of_length_le (by rw [HSW.out]; exact Nat.le_refl _)
          rw [hut] at hSk ⊢
          have hOr := hid (ownsRow_same HO.out fun q hq => (btr HK2.out hBk).block q (HO.out.lt q hq).2)
          have hnews := hid (fun j x (hx : (u.map fun x => Value.int .i64 x)[j]? = some x) => show wr.cell? ((⟨g, 0, none⟩ : Addr).add j) = some x from by
            have h1 := World.ownsRow.cells HO2.out (g := g) rfl j x hx
            exact (hBk.cell (p := (⟨g, 0, none⟩ : Addr).add j) (World.block_lt_of_cell? _ _ h1)).trans h1)
          have hlu := hid (show (u.map fun x => Value.int .i64 x).length = k * 1 from by rw [List.length_map, HSW.out, Nat.mul_one])
          have hone := hid (show ∀ x ∈ (u.map fun x => Value.int .i64 x), x.oneCell' = true from fun x hx => by obtain ⟨y, _, rfl⟩ := List.mem_map.1 hx; rfl)
          have hBB := hid hBw
          have hbz := hBw.size
          have hlt6 := hid (fun q hq => (HO.out.lt q hq).1)
          clear hbx2
          go_wp2_with (at_builtin; refine wpList_append_own_at _ rfl _ _ 25 rfl w2.heap.size 3 i0 (.int .i64 0) 1 8 Tryd.underlying25 hi hz0 hz1 hz2 rfl (by decide) _ _ _ rfl hOr.out ⟨g, 0, none⟩ k gc (u.map fun x => .int .i64 x) rfl hlu.out hnews.out hone.out (by unfold maxLen; omega) (by omega) (by omega) ?_; intro v' w5 hown' hgrow' _ hat; have HN := hid hown'; have HG := hid hgrow'; have hc5 := hgrow'.cell hbx3 (fun e => by have := hlt6.out _ e.symm; simp at this; omega); clear hown' hgrow' hat)
          go_roundw
          case rel =>
            refine ⟨imgWord m S u, f, pre ++ u, rfl, hSk, H11.out, by have := H10.out; omega, by rw [HRw.out, List.append_assoc], ?_, hBB.out.grown HG.out (by omega) (fun q hq => hlt6.out q hq), hc5⟩
            rw [List.length_append, List.map_append, HSW.out]
            exact HN.out
          case measure =>
            have := H10.out
            simp [setLeft, intOf]
            exact this
end Go.Proofs.YtiiiinoappjhdaaDoor
namespace Go.Proofs.YtiiiinoappjhdaaDoor
open Go.RowKit Go.Shelf
theorem ofList_all {n : Nat} (hn : n ≤ 64) : ofList (allM n) = 2 ^ n - 1 := by
  have hp : (2 : Nat) ^ n ≤ 2 ^ 64 := Nat.pow_le_pow_right (by decide) hn
  have h0 := Nat.two_pow_pos n
  have hm : ∀ x ∈ allM n, 0 ≤ x ∧ x < n := fun x hx => by
    unfold allM pick at hx
    simp at hx
    obtain ⟨a, ha, rfl⟩ := hx
    omega
  refine eq_of_elems _ _ (Nat.lt_of_lt_of_le (ofList_lt n hn _ hm) hp) (by omega) fun i _ => ?_
  rw [testBit_below, allM, pick_testBit]
  simp
theorem image_len {m : List (List Int)} (hm : m.length ≤ 64) (u : List Int) : (imageM m (allM m.length) u).length = (elems (imgWord m (2 ^ m.length - 1) u)).length := by
  rw [imageM, ofList_all hm, intsOf, List.length_map]
end Go.Proofs.YtiiiinoappjhdaaDoor
namespace Go.Proofs.YtiiiinoappjhdaaDoor
open Go.RowKit Go.Shelf
theorem lit2_rows (w : World) (a b c d : Int) : Rows (((w.alloc (.cells #[.int .i64 a, .int .i64 b] 3)).alloc (.cells #[.int .i64 c, .int .i64 d] 3)).alloc
    (.cells #[.slice (some ⟨w.heap.size, 0, none⟩) 2 2, .slice (some ⟨w.heap.size + 1, 0, none⟩) 2 2] 25)) (.slice (some ⟨w.heap.size + 1 + 1, 0, none⟩) 2 2) [[a, b], [c, d]] :=
  rows2 _ _ _ _ _ _ _ (by simp) ((Ints.two' w a b _ _ rfl).alloc _) (Ints.two' _ c d _ _ (by simp))
end Go.Proofs.YtiiiinoappjhdaaDoor
namespace Go.Proofs.YtiiiinoappjhdaaDoor
open Go.RowKit Go.Shelf
theorem c3_valid : validM (cernyM 3) = true := by decide +kernel
theorem c3_rows : cernyM 3 = [[1, 0], [2, 1], [0, 0]] := by decide +kernel
theorem c3_first : ((List.range 8).all fun i => !(decide (i < (imgF (cernyM 3)).length) && (szB (imgF (cernyM 3)) i == 1 && (List.range i).all (fun j => szB (imgF (cernyM 3)) j != 1))) || wordB (imgF (cernyM 3)) i == [1, 0, 0, 1]) = true := by decide +kernel
theorem c3_some : ((List.range 8).any fun i => decide (i < (imgF (cernyM 3)).length) && szB (imgF (cernyM 3)) i == 1) = true := by decide +kernel
theorem m3b_valid4 : validM [[1, 1], [0, 0]] = true := by decide +kernel
theorem m3b_rank : rkS (imgF [[1, 1], [0, 0]]) 2 (imgF [[1, 1], [0, 0]]).length = (2, []) := by decide +kernel
theorem shortest_c3 (v : Value) (w : World) (hT : Tab w) (h : Rows w v (cernyM 3)) : Calls Tryd.prog 11 #[.agg #[v]] w fun e w' => ∃ A c, e = .returned (.tuple #[.slice A 4 c, .int .i64 0]) ∧ Ints w' (.slice A 4 c) [1, 0, 0, 1] ∧ Below w.heap.size w w' := by
  refine (Shortest_ok v (cernyM 3) w hT h c3_valid (by decide)).mono ?_
  have hl : (imgF (cernyM 3)).length ≤ 8 := (imgF_good c3_valid).len
  rintro e w1 ⟨⟨i, r, hi, hs, hn, rfl, ho⟩ | ⟨hn, _⟩, hb⟩
  · have h1 := List.all_eq_true.1 c3_first i (List.mem_range.2 (by omega))
    have h2 : ((List.range i).all fun j => szB (imgF (cernyM 3)) j != 1) = true := by
      rw [List.all_eq_true]
      intro j hj
      have := hn j (List.mem_range.1 hj)
      simpa using this
    have hw : wordB (imgF (cernyM 3)) i = [1, 0, 0, 1] := by
      rw [h2, hs, decide_eq_true hi] at h1
      simpa using h1
    rw [hw] at ho
    have hI : Ints w1 r [1, 0, 0, 1] := Ints.of_own ho (by decide)
    obtain ⟨A, c, rfl, -, -⟩ := id hI
    exact ⟨A, c, rfl, hI, hb⟩
  · obtain ⟨i, hi, h2⟩ := List.any_eq_true.1 c3_some
    simp only [Bool.and_eq_true, decide_eq_true_eq, beq_iff_eq] at h2
    exact absurd h2.2 (hn i h2.1)
theorem rank_m3b (v : Value) (w : World) (hT : Tab w) (h : Rows w v [[1, 1], [0, 0]]) : Calls Tryd.prog 17 #[.agg #[v]] w fun e w' => ∃ A c, e = .returned (.tuple #[.int .i64 2, .slice A 0 c, .int .i64 0]) ∧ Below w.heap.size w w' := by
  refine (Rank_ok v [[1, 1], [0, 0]] w hT h m3b_valid4 (by decide)).mono ?_
  rintro e w1 ⟨r, rfl, ho, hb⟩
  rw [show ([[1, 1], [0, 0]] : List (List Int)).length = 2 from rfl, m3b_rank] at ho ⊢
  obtain ⟨A, c, rfl⟩ := ownsRow_slice ho
  exact ⟨A, c, rfl, hb⟩
theorem Ints.four' (w : World) (x y z u : Int) (t : TypeId) (k : Nat) (hk : k = w.heap.size) : Ints (w.alloc (.cells #[.int .i64 x, .int .i64 y, .int .i64 z, .int .i64 u] t)) (.slice (some ⟨k, 0, none⟩) 4 4) [x, y, z, u] := by
  subst hk
  refine ⟨_, 4, rfl, by unfold big; simp, fun i hi => ⟨w.heap.size, 0, rfl, ?_⟩⟩
  have h2 : i = 0 ∨ i = 1 ∨ i = 2 ∨ i = 3 := by simp at hi; omega
  rcases h2 with rfl | rfl | rfl | rfl <;> simp
set_option maxRecDepth 100000 in
set_option maxHeartbeats 2000000 in
theorem awake4_any (w : World) (hT : Tab w) :
    Calls Tryd.prog 16 #[] w fun e w' => e = .returned (.bool true) ∧ Below w.heap.size w w' := by
  go_enter Tryd.func16, Tryd.ntmps16
  go_wp2_with fail
  refine (Cerny_any 3 w (by decide) (by decide)).mono ?_
  rintro e w1 ⟨r1, rfl, i1, h1⟩
  obtain ⟨A1, k1, rfl⟩ : ∃ A c, r1 = .slice A 3 c := by obtain ⟨A, c, hv, _⟩ := id i1; exact ⟨A, c, hv⟩
  have hX := bal (Below.refl _ w1) (.cells #[.slice A1 3 k1] 24)
  have q1 := Boxed.new w1 24 (.slice A1 3 k1)
  have i1X := i1.below hX
  have B1 := btr h1 hX
  have c1 := q1.cell
  go_wp2_with fail
  generalize w1.alloc (.cells #[.slice A1 3 k1] 24) = X at *
  refine (shortest_c3 _ X (hT.on B1) i1X).mono ?_
  rintro e w2 ⟨A2, k2, rfl, i2, h2⟩
  have c2 := (h2.cell (p := ⟨w1.heap.size, 0, none⟩) (World.block_lt_of_cell? _ _ c1)).trans c1
  have B2 := btr B1 h2
  have i12 := i1X.below h2
  have hR2 := lit2_rows w2 1 1 0 0
  have hX2 := bal (bal (bal (Below.refl _ w2) (.cells #[.int .i64 1, .int .i64 1] 3)) (.cells #[.int .i64 0, .int .i64 0] 3)) (.cells #[.slice (some ⟨w2.heap.size, 0, none⟩) 2 2, .slice (some ⟨w2.heap.size + 1, 0, none⟩) 2 2] 25)
  clear hX q1 i1X i1 h1 c1 h2
  go_wp2_with fail
  refine (rank_m3b _ _ (hT.on (btr B2 hX2)) hR2).mono ?_
  rintro e w3 ⟨A3, k3, rfl, h3⟩
  have b3 := btr hX2 h3
  have c3 := (b3.cell (p := ⟨w1.heap.size, 0, none⟩) (World.block_lt_of_cell? _ _ c2)).trans c2
  have B3 := btr B2 b3
  have i13 := i12.below b3
  have i23 := i2.below b3
  have hX3 := bal (bal (bal (bal (Below.refl _ w3) (.cells #[.int .i64 1, .int .i64 0] 3)) (.cells #[.int .i64 2, .int .i64 1] 3)) (.cells #[.int .i64 0, .int .i64 0] 3)) (.cells #[.slice (some ⟨w3.heap.size, 0, none⟩) 2 2, .slice (some ⟨w3.heap.size + 1, 0, none⟩) 2 2, .slice (some ⟨w3.heap.size + 1 + 1, 0, none⟩) 2 2] 25)
  have hR3 := lit_rows w3 1 0 2 1 0 0
  have i14 := i13.below hX3
  rw [c3_rows] at i14
  have i24 := i23.below hX3
  have B4 := btr B3 hX3
  clear hR2 hX2 h3 b3 c2 i12 i2 B2 i13 i23
  go_wp2_with fail
  refine (rSames_eq _ _ [[1, 0], [2, 1], [0, 0]] _ i14 hR3).mono ?_
  rintro e w4 ⟨rfl, h4⟩
  have i25 := (i24.below h4).alloc (.cells #[.int .i64 1, .int .i64 0, .int .i64 0, .int .i64 1] 3)
  have B5 := btr B4 h4
  have B6 := bal B5 (.cells #[.int .i64 1, .int .i64 0, .int .i64 0, .int .i64 1] 3)
  clear hR3 i14 hX3 c3
  go_wp2_with fail
  refine (rSame_eq _ _ [1, 0, 0, 1] _ i25 (Ints.four' w4 1 0 0 1 3 _ rfl)).mono ?_
  rintro e w5 ⟨rfl, h5⟩
  go_wp2
  go_ret
  exact ⟨rfl, btr B6 h5⟩
end Go.Proofs.YtiiiinoappjhdaaDoor
namespace Go.Proofs.YtiiiinoappjhdaaDoor
open Go.RowKit Go.Shelf
theorem foldl_set (m : List (List Int)) : ∀ (u : List Int) (S : Nat), u.all (inB 0 ((letters m : Int) - 1)) = true → imgWord m S u = (u.map Int.toNat).foldl (imgS m) S
  | [], _, _ => rfl
  | x :: u, S, h => by
    rw [List.all_cons, Bool.and_eq_true] at h
    have h0 : 0 ≤ x := by
      have h1 := h.1
      unfold inB at h1
      simp at h1; omega
    have ih := foldl_set m u (imgSet m S x) h.2
    unfold imgWord at ih ⊢
    have e : imgS m S x.toNat = imgSet m S x := by unfold imgS imgSet; rw [Int.toNat_of_nonneg h0]
    rw [List.foldl_cons, List.map_cons, List.foldl_cons, ih, e]
section
variable {m : List (List Int)}
theorem full_lt (m : List (List Int)) : 2 ^ m.length - 1 < 2 ^ m.length := by have := Nat.two_pow_pos m.length; omega
/-- Where a word leads from all states the search comes by a word that is no longer, nor later. -/
theorem imgF_has (hv : validM m = true) {u : List Int} (hu : u.all (inB 0 ((letters m : Int) - 1)) = true) :
    ∃ j, j < (imgF m).length ∧ plB (imgF m) j = ((imgWord m (2 ^ m.length - 1) u : Nat) : Int) ∧ SLe (wordB (imgF m) j) u := by
  obtain ⟨-, -, -, p4, -⟩ := valid_parts hv
  obtain ⟨j, h1, h2, h3⟩ := word_least (full_lt m) (by omega : letters m ≤ 1000) (fun p x hp hx => imgS_lt hv hp hx) _ (u.map Int.toNat) rfl (nat_word hu)
  rw [← foldl_set m u _ hu] at h2
  have e : ((u.map Int.toNat).map fun x : Nat => (x : Int)) = u := by
    rw [List.map_map]
    refine (List.map_congr_left fun x hx => ?_).trans (List.map_id u)
    have h4 := List.all_eq_true.1 hu x hx
    unfold inB at h4
    simp at h4
    simp; omega
  rw [e] at h3
  exact ⟨j, h1, h2, h3⟩
theorem imgF_word (hv : validM m = true) {j : Nat} (hj : j < (imgF m).length) :
    (wordB (imgF m) j).all (inB 0 ((letters m : Int) - 1)) = true ∧ plB (imgF m) j = ((imgWord m (2 ^ m.length - 1) (wordB (imgF m) j) : Nat) : Int) := by
  obtain ⟨-, -, -, p4, -⟩ := valid_parts hv
  have hg := imgF_good hv
  have hw := word_letters hg.tree (LetB.bfs (imgS m) (letters m) (2 ^ m.length - 1) (2 ^ m.length)) j hj
  refine ⟨hw, ?_⟩
  have h := word_leads (full_lt m) (by omega : letters m ≤ 1000) (fun p x hp hx => imgS_lt hv hp hx) j hj
  rw [foldl_set m _ _ hw]
  exact h
theorem imgF_len (hv : validM m = true) (h12 : m.length ≤ 12) {j : Nat} (hj : j < (imgF m).length) : (wordB (imgF m) j).length ≤ 4096 := by
  have h1 := wordB_len (imgF_good hv).tree j hj
  have h2 := (imgF_good hv).len
  have h3 : 2 ^ m.length ≤ 2 ^ 12 := Nat.pow_le_pow_right (by decide) h12
  omega
theorem imgF_isWord (hv : validM m = true) (h12 : m.length ≤ 12) {j : Nat} (hj : j < (imgF m).length) : isWordM m (wordB (imgF m) j) = true := by
  have h1 := imgF_len hv h12 hj
  simp only [isWordM, Bool.and_eq_true, decide_eq_true_eq]
  exact ⟨by omega, (imgF_word hv hj).1⟩
theorem szB_image (hv : validM m = true) (h12 : m.length ≤ 12) {j : Nat} (hj : j < (imgF m).length) {u : List Int} (hp : plB (imgF m) j = ((imgWord m (2 ^ m.length - 1) u : Nat) : Int)) : (imageM m (allM m.length) u).length = szB (imgF m) j := by
  rw [image_len (by omega), szB, hp, Int.toNat_natCast]
theorem szB_pos (hv : validM m = true) (h12 : m.length ≤ 12) {j : Nat} (hj : j < (imgF m).length) : 1 ≤ szB (imgF m) j := by
  obtain ⟨p1, -⟩ := valid_parts hv
  have hw := imgF_isWord hv h12 hj
  rw [← szB_image hv h12 hj (imgF_word hv hj).2]
  have h := (hasB_all hv hw (t := runM m 0 (wordB (imgF m) j))).2 ⟨0, by omega, rfl⟩
  cases hi : imageM m (allM m.length) (wordB (imgF m) j) with
  | nil => rw [hi] at h; simp [hasB] at h
  | cons a l => simp
theorem imgF_rise (hv : validM m = true) {j k : Nat} (hjk : j < k) (hk : k < (imgF m).length) : SL (wordB (imgF m) j) (wordB (imgF m) k) :=
  words_rise (imgF_good hv).tree (OrdB.bfs (imgS m) (letters m) (2 ^ m.length - 1) (2 ^ m.length)) k j hjk hk
/-- The rank after k sets. -/
theorem rkS_spec {F : Steps} {n : Nat} (h0 : szB F 0 = n) (hw : wordB F 0 = []) : ∀ k, ∃ i, (i < k ∨ i = 0) ∧ (rkS F n k).1 = szB F i ∧ (rkS F n k).2 = wordB F i ∧ (∀ j, j < k → szB F i ≤ szB F j) ∧ ∀ j, j < i → szB F i < szB F j
  | 0 => ⟨0, .inr rfl, h0.symm, hw.symm, fun j hj => by omega, fun j hj => by omega⟩
  | k + 1 => by
    obtain ⟨i, h1, h2, h3, h4, h5⟩ := rkS_spec h0 hw k
    by_cases h : szB F k < (rkS F n k).1
    · have e : rkS F n (k + 1) = (szB F k, wordB F k) := by show (if szB F k < (rkS F n k).1 then _ else _) = _; rw [if_pos h]
      refine ⟨k, .inl (Nat.lt_succ_self k), by rw [e], by rw [e], fun j hj => ?_, fun j hj => ?_⟩
      · by_cases ej : j = k
        · subst ej; exact Nat.le_refl _
        · have := h4 j (by omega); omega
      · have := h4 j hj; omega
    · have e : rkS F n (k + 1) = rkS F n k := by show (if szB F k < (rkS F n k).1 then _ else _) = _; rw [if_neg h]
      refine ⟨i, by omega, by rw [e]; exact h2, by rw [e]; exact h3, fun j hj => ?_, h5⟩
      by_cases ej : j = k
      · subst ej; omega
      · exact h4 j (by omega)
theorem imgF_zero (hv : validM m = true) : 0 < (imgF m).length ∧ szB (imgF m) 0 = m.length ∧ wordB (imgF m) 0 = [] := by
  obtain ⟨p1, p2, -⟩ := valid_parts hv
  obtain ⟨h1, h2⟩ := bfs_zero (imgS m) (letters m) (2 ^ m.length - 1) (2 ^ m.length)
  refine ⟨h1, ?_, wordB_root (imgF_good hv).tree⟩
  unfold szB
  rw [show plB (imgF m) 0 = ((2 ^ m.length - 1 : Nat) : Int) from h2, Int.toNat_natCast, elems_below m.length (by omega)]
  simp
/-- The rank and its word. -/
theorem rank_spec (hv : validM m = true) : ∃ i, i < (imgF m).length ∧ (rkS (imgF m) m.length (imgF m).length).1 = szB (imgF m) i ∧ (rkS (imgF m) m.length (imgF m).length).2 = wordB (imgF m) i ∧
    (∀ j, j < (imgF m).length → szB (imgF m) i ≤ szB (imgF m) j) ∧ ∀ j, j < i → szB (imgF m) i < szB (imgF m) j := by
  obtain ⟨z1, z2, z3⟩ := imgF_zero hv
  obtain ⟨i, h1, h2⟩ := rkS_spec z2 z3 (imgF m).length
  exact ⟨i, by rcases h1 with h1 | h1 <;> omega, h2⟩
end
end Go.Proofs.YtiiiinoappjhdaaDoor
namespace Go.Proofs.YtiiiinoappjhdaaDoor
open Go.RowKit Go.Shelf
theorem Ints.nil (w : World) : Ints w (.slice none 0 0) [] := ⟨none, 0, rfl, by simp, fun i hi => by simp at hi⟩
end Go.Proofs.YtiiiinoappjhdaaDoor
namespace Go.Proofs.YtiiiinoappjhdaaDoor
open Go.RowKit Go.Shelf
theorem MRows.slice {W : World} {base : Nat} {v : Value} {m : List (List Int)} (h : MRows W base v m) : ∃ A c, v = .slice A m.length c ∧ ∀ g, v.ownBlock = some g → base ≤ g ∧ g < W.heap.size := by
  obtain ⟨xs, ho, _⟩ := h
  rcases ho.2 with ⟨hu, h0⟩ | ⟨g, cap, cur, hu, hg, hh, _⟩
  · exact ⟨none, 0, by rw [hu, h0], fun g' h => by rw [hu] at h; cases h⟩
  · exact ⟨_, cap, hu, fun g' h => by rw [hu] at h; cases h; exact ⟨hg, lt_of_block hh⟩⟩
/-- 'append(rows, row)': the row lies beside. -/
theorem wpList_append_mrow {W : World} {ops : Array Oper} {rest : List Oper} {o : Oper} {a : Act} {Q : Exit → Act → World → Prop} (hgd : o.guard = none) (s x : Operand)
    (ho : o.op = .call { callee := .builtin .append, args := #[s, x], argTypes := #[22, 22] }) (base : Nat) (v u : Value) (m : List (List Int)) (l : List Int) (t : TypeId) (w0 : World) (hW : W = w0.alloc (.cells #[u] t)) (k : Nat) (hk : k = w0.heap.size)
    (hs : a.eval s = v) (hM : MRows w0 base v m) (hx : a.eval x = .slice (some ⟨k, 0, none⟩) 1 1) (hu : IntsOff w0 base v.ownBlock u l) (hb : base ≤ w0.heap.size) (hlen : m.length ≤ 100000)
    (h : ∀ A c w', MRows w' base (.slice A (m.length + 1) c) (m ++ [l]) → Below base w0 w' → wpList Tryd.prog ops Q rest (a.put o.dst (.slice A (m.length + 1) c)) w') :
    wpList Tryd.prog ops Q (o :: rest) a W := by
  subst hk
  subst hW
  obtain ⟨i0, hi, hz0, hz1, hz2⟩ := info_parts infoRow
  obtain ⟨A0, c0, rfl, hblk⟩ := hM.slice
  obtain ⟨xs, hxo, hxx⟩ := id hM
  have hone : ∀ u' ∈ [u], u'.oneCell' = true := by
    obtain ⟨A, c, rfl, _⟩ := hu
    simp [Value.oneCell']
  refine wpList_append_own_at _ hgd s x 22 ho base 25 i0 (.slice none 0 0) 1 24 Tryd.underlying22 hi hz0 hz1 hz2 rfl (by decide) _ _ _ hs (hxo.alloc _) ⟨w0.heap.size, 0, none⟩ 1 1 [u] hx rfl (cell_one_new _ _ _) hone (by unfold maxLen; omega) (by omega) (by simp; omega) ?_
  intro v' w5 hown' hgrow' _ hat
  obtain ⟨g', cap', rfl⟩ := ownsRow_succ hown'
  refine h _ _ _ ?_ (((Below.refl _ _).alloc hb _).grown hgrow' (by simp; omega) (fun q hq => (hblk q hq).1))
  exact MRows.appended (W := w0.alloc (.cells #[u] t)) (base := base) (v := .slice A0 m.length c0) (m := m) (l := l) (xs := xs) (u := u)
    (fun i hi => (hxx i hi).kept (fun q _ hq _ => Below.heap_alloc _ _ _ hq) (fun _ _ h => h)) (by have := hxo.1; omega)
    (hu.kept (fun q _ hq _ => Below.heap_alloc _ _ _ hq) (fun _ _ h => h)) hown' hgrow' hat
/-- A row of the call's own, made behind the rows, lies beside them. -/
theorem MRows.beside {W W' : World} {base n0 : Nat} {v u : Value} {m : List (List Int)} {l : List Int} (h : MRows W base v m) (hn : W.heap.size ≤ n0) (hb : base ≤ n0) (hu : W'.ownsRow n0 3 1 u l.length (l.map fun x => .int .i64 x)) (hl : l.length ≤ big) : IntsOff W' base v.ownBlock u l := by
  obtain ⟨A, c, hv, hblk⟩ := h.slice
  rcases hu.2 with ⟨rfl, h0⟩ | ⟨g, cap, cur, rfl, hg, hh, r⟩
  · exact ⟨none, 0, by rw [h0], hl, fun i hi => by omega⟩
  · refine ⟨some ⟨g, 0, none⟩, cap, rfl, hl, fun i hi => ⟨g, 0, rfl, by omega, fun e => ?_, ?_⟩⟩
    · have := (hblk g e.symm).2; omega
    · have := hu.cellAt i (by omega)
      rw [Nat.zero_add, this]
      simp [List.getElem?_map, List.getD_eq_getElem?_getD, List.getElem?_eq_getElem hi]
end Go.Proofs.YtiiiinoappjhdaaDoor
namespace Go.Proofs.YtiiiinoappjhdaaDoor
open Go.RowKit Go.Shelf
/-- A list is returned, in memory of its own or as it came. -/
def FreshL (w : World) (L : List Int) (e : Ending) (w' : World) : Prop := ∃ A c, e = .returned (.slice A L.length c) ∧ (A = none → c = 0) ∧ Ints w' (.slice A L.length c) L ∧ Below w.heap.size w w'
theorem own_nil_room {w : World} {b : Nat} {e : TypeId} {s n c k : Nat} {A : Option Addr} {xs : List Value} (h : w.ownsRow b e s (.slice A n c) k xs) : A = none → c = 0 := by
  intro hA
  subst hA
  rcases h.2 with ⟨hu, _⟩ | ⟨g, cap, cur, hu, _⟩
  · simp only [Value.slice.injEq] at hu; exact hu.2.2
  · cases hu
/-- The letters of a word made of any numbers, at most 2000 of them. -/
def properM (m : List (List Int)) (l : List Int) : List Int := (l.take 2000).map fun x => x % (letters m : Int)
theorem properM_len (m : List (List Int)) (l : List Int) : (properM m l).length = min 2000 l.length := by simp [properM]
theorem properM_all {m : List (List Int)} (hv : validM m = true) (l : List Int) : (properM m l).all (inB 0 ((letters m : Int) - 1)) = true := by
  obtain ⟨-, -, p3, -, -⟩ := valid_parts hv
  rw [List.all_eq_true]
  intro y hy
  obtain ⟨x, _, rfl⟩ := List.mem_map.1 hy
  have h1 := Int.emod_nonneg x (show (letters m : Int) ≠ 0 by omega)
  have h2 := Int.emod_lt_of_pos x (show (0 : Int) < letters m by omega)
  exact inB_true (by omega)
theorem properM_get {m : List (List Int)} {l : List Int} {k : Nat} (hk : k < (properM m l).length) : (properM m l).take (k + 1) = (properM m l).take k ++ [l.getD k 0 % (letters m : Int)] := by
  rw [List.take_succ_eq_append_getElem hk]
  congr 2
  have hl : k < l.length := by rw [properM_len] at hk; omega
  simp [properM, List.getD_eq_getElem?_getD, List.getElem?_eq_getElem hl]
set_option maxRecDepth 100000 in
set_option maxHeartbeats 2000000 in
theorem tProper_any (v u : Value) (m : List (List Int)) (l : List Int) (w : World) (h : Rows w v m) (hu : Ints w u l) (hv : validM m = true) :
    Calls Tryd.prog 29 #[.agg #[v], u] w (FreshL w (properM m l)) := by
  obtain ⟨j0, hj, hy0, hy1, hy2⟩ := info_parts infoIntE
  obtain ⟨p1, p2, p3, p4, -⟩ := valid_parts hv
  obtain ⟨A, cap, rfl, hml, -⟩ := id h
  obtain ⟨b, off, A0, cap0, hA, hrow0⟩ := row_zero h hv
  subst hA
  obtain ⟨Au, capu, rfl, hlu, hcu⟩ := hu
  unfold big at hlu
  have hX := bal (Below.refl _ w) (.cells #[.slice (some ⟨b, off, none⟩) m.length cap] 24)
  have hbx := (Boxed.new w 24 (.slice (some ⟨b, off, none⟩) m.length cap)).cell
  have Hcu := hid hcu
  have hin : (0 : Int) < m.length := by omega
  have hLlen := properM_len m l
  have hget := hid (fun k (hk : k < (properM m l).length) => properM_get (m := m) (l := l) hk)
  generalize properM m l = L at *
  have HLL := hid hLlen
  have hLb : L.length ≤ 2000 := by omega
  have hLl : L.length ≤ l.length := by omega
  clear hcu hLlen
  go_enter Tryd.func29, Tryd.ntmps29
  go_wp2_with fail
  go_loopw [5, 6] (fun ov iv wr => ∃ k : Nat, k ≤ L.length ∧ iv = .int .i64 k ∧ wr.ownsRow (w.heap.size + 1) 3 1 ov k ((L.take k).map fun x => .int .i64 x) ∧ Below w.heap.size w wr ∧ wr.cell? ⟨w.heap.size, 0, none⟩ = some (.slice (some ⟨b, off, none⟩) m.length cap)) (fun _ iv _ => L.length - (intOf iv).toNat)
  case atStart => exact ⟨0, Nat.zero_le _, rfl, World.ownsRow_nil _ _ _ _, hX, hbx⟩
  case round =>
    clear hX hbx
    obtain ⟨k, hk, rfl, hO, hB, hbx⟩ := hrel
    obtain ⟨A1, c1, rfl⟩ := ownsRow_slice hO
    have HO := hid hO
    by_cases hlt : k < L.length
    · have hkl : k < l.length := by omega
      have hks : (k : Int) < l.length := by omega
      have d1 : decide ((k : Int) < (l.length : Int)) = true := by simp; omega
      have d2 : decide ((k : Int) < 2000) = true := by simp; omega
      have hk0 : (0 : Int) ≤ k := by omega
      obtain ⟨bu, ou, hAu, hcell⟩ := Hcu.out k hkl
      subst hAu
      have c1' := (hB.cell (p := ⟨bu, ou + k, none⟩) (World.block_lt_of_cell? _ _ hcell)).trans hcell
      have c2' := (hB.cell (p := ⟨b, off, none⟩) (World.block_lt_of_cell? _ _ hrow0)).trans hrow0
      have hsn := hid (hget.out k hlt)
      have hcw := hid hcell
      have hin2 : 0 < m.length := by omega
      clear hcell hO
      generalize l.getD k 0 = x at *
      have keep0 := hid (fun (w' : World) (hb : Below w.heap.size w w') (hc : w'.cell? ⟨w.heap.size, 0, none⟩ = some (.slice (some ⟨b, off, none⟩) m.length cap)) => show w'.cell? ⟨bu, ou + k, none⟩ = some (.int .i64 x) ∧ w'.cell? ⟨w.heap.size, 0, none⟩ = some (.slice (some ⟨b, off, none⟩) m.length cap) ∧ w'.cell? ⟨b, off, none⟩ = some (.slice A0 (letters m) cap0) from ⟨(hb.cell (p := ⟨bu, ou + k, none⟩) (World.block_lt_of_cell? _ _ hcw.out)).trans hcw.out, hc, (hb.cell (p := ⟨b, off, none⟩) (World.block_lt_of_cell? _ _ hrow0)).trans hrow0⟩)
      have keep := hid (fun (w' : World) (hb : Below wr.heap.size wr w') => show w'.cell? ⟨bu, ou + k, none⟩ = some (.int .i64 x) ∧ w'.cell? ⟨w.heap.size, 0, none⟩ = some (.slice (some ⟨b, off, none⟩) m.length cap) ∧ w'.cell? ⟨b, off, none⟩ = some (.slice A0 (letters m) cap0) from ⟨(hb.cell (p := ⟨bu, ou + k, none⟩) (World.block_lt_of_cell? _ _ c1')).trans c1', (hb.cell (p := ⟨w.heap.size, 0, none⟩) (World.block_lt_of_cell? _ _ hbx)).trans hbx, (hb.cell (p := ⟨b, off, none⟩) (World.block_lt_of_cell? _ _ c2')).trans c2'⟩)
      have hbl := World.block_lt_of_cell? _ _ hbx
      simp only at hbl
      obtain ⟨y, hy⟩ : ∃ y, x % (letters m : Int) = y := ⟨_, rfl⟩
      have Hy := hid hy
      have hcy := fun w => (tCycle_any x (letters m : Int) w (by omega))
      rw [hy] at hcy hsn
      have Hcy := hid hcy
      clear hy hcy
      have hge : ∀ q, (Value.slice A1 k c1).ownBlock = some q → w.heap.size + 1 ≤ q ∧ q < wr.heap.size := fun q hq => HO.out.lt q hq
      have KK : Hid (∀ (g1 cap1 : Nat) (w5 : World), w5.ownsRow (w.heap.size + 1) 3 1 (.slice (some ⟨g1, 0, none⟩) (k + 1) cap1) (k + 1) (((L.take k).map fun x => .int .i64 x) ++ [.int .i64 y]) → (wr.drew.alloc (.cells #[.int .i64 y] 3)).grownBy w5 (Value.slice A1 k c1).ownBlock →
          w5.ownsRow (w.heap.size + 1) 3 1 (.slice (some ⟨g1, 0, none⟩) (k + 1) cap1) (k + 1) ((L.take (k + 1)).map fun x => .int .i64 x) ∧ Below w.heap.size w w5 ∧ w5.cell? ⟨w.heap.size, 0, none⟩ = some (.slice (some ⟨b, off, none⟩) m.length cap)) := hid (fun g1 cap1 w5 h1 h2 => ⟨by rw [hsn.out, List.map_append]; exact h1, ((hB.drew).alloc (by have := hB.size; simpa using this) _).grown h2 (by have := hB.size; simp; omega) (fun q hq => by have := hge q hq; omega), (World.cell?_of_block ((h2.block w.heap.size (by simp; omega) (fun e => by have := hge _ e.symm; omega)).trans (Below.heap_alloc wr.drew _ _ (by simpa using hbl)))).trans hbx⟩)
      go_wp2_with fail
      go_region_held3 (fun w' => w'.cell? ⟨bu, ou + k, none⟩ = some (.int .i64 x) ∧ w'.cell? ⟨w.heap.size, 0, none⟩ = some (.slice (some ⟨b, off, none⟩) m.length cap) ∧ w'.cell? ⟨b, off, none⟩ = some (.slice A0 (letters m) cap0)) (first | exact keep.out _ (below_dr wr 1) | exact keep.out _ (bal (below_dr wr 1) _) | exact keep0.out _ K5.2.1 K5.2.2 | assumption)
        (first
          | (go_at_call 33; go_must (refine (Hcy.out _).mono ?_; rintro e y1 ⟨rfl, rfl⟩))
          | (refine step_append_lies _ rfl _ _ 25 rfl (w.heap.size + 1) 3 j0 (.int .i64 0) 1 8 Tryd.underlying25 hj hy0 hy1 hy2 rfl (by decide) (.slice A1 k c1) k ((L.take k).map fun x => .int .i64 x) rfl (by first | exact HO.out.alloc _ | exact (HO.out.alloc _).drew | exact (HO.out.drew).alloc _) ⟨wr.heap.size, 0, none⟩ 1 1 [.int .i64 y] rfl rfl (by first | exact cell_one_new _ _ _ | (intro j u hu; exact cell_one_new _ _ _ j u hu)) (by simp [Value.oneCell']) (by decide) (by unfold maxLen; omega) (by omega) (by simp; omega) _ rfl ?_; intro g1 cap1 w5 hown' hgrow' hat hlt1; have K5 := KK.out g1 cap1 w5 hown' hgrow'))
      all_goals go_wp2
      all_goals go_roundw
      case rel => exact ⟨k + 1, by omega, by go_num, K5.1, K5.2.1, K5.2.2⟩
      case measure => simp [intOf]; omega
    · obtain rfl : k = L.length := by omega
      have hO2 := HO.out
      rw [List.take_length] at hO2
      have hI := Ints.of_own hO2 (by unfold big; omega)
      have hn := own_nil_room hO2
      have HI := hid hI
      have Hn := hid hn
      by_cases hll : L.length < l.length
      · have d1 : decide ((L.length : Int) < (l.length : Int)) = true := by simp; omega
        have d2 : decide ((L.length : Int) < 2000) = false := by have := HLL.out; simp; omega
        clear hI hn hO2 HO hO
        go_wp2_with fail
        go_ret
        exact ⟨A1, c1, rfl, Hn.out, HI.out, hB⟩
      · have d1 : decide ((L.length : Int) < (l.length : Int)) = false := by simp; omega
        clear hI hn hO2 HO hO
        go_wp2_with fail
        go_ret
        exact ⟨A1, c1, rfl, Hn.out, HI.out, hB⟩
end Go.Proofs.YtiiiinoappjhdaaDoor
namespace Go.Proofs.YtiiiinoappjhdaaDoor
open Go.RowKit Go.Shelf
def Lb (n : Nat) (f : Nat → Bool) : List Bool := (List.range n).map f
theorem Lb_congr {n : Nat} {f g : Nat → Bool} (h : ∀ i, i < n → f i = g i) : Lb n f = Lb n g := List.map_congr_left fun i hi => h i (List.mem_range.1 hi)
theorem Lb_set {n : Nat} (f : Nat → Bool) (s : Nat) (v : Bool) : (Lb n f).set s v = Lb n (fun i => if i = s then v else f i) := by
  apply List.ext_getElem
  · simp [Lb]
  · intro i h1 h2
    rw [List.getElem_set]
    by_cases e : s = i
    · subst e; simp [Lb]
    · rw [if_neg e]; simp [Lb, Ne.symm e]
theorem Lb_cell {n : Nat} (f : Nat → Bool) {i : Nat} (hi : i < n) : ((Lb n f).map fun x => Value.bool x)[i]? = some (.bool (f i)) := by
  simp [Lb, List.getElem?_map, List.getElem?_range hi]
/-- The rows of a table that is being made: the first k are there. -/
def rowsB (n k : Nat) (B : Nat → Nat) : List Value := (List.range n).map fun p => if p < k then .slice (some ⟨B p, 0, none⟩) n n else .slice none 0 0
theorem rowsB_get {n k : Nat} (B : Nat → Nat) {p : Nat} (hp : p < n) : (rowsB n k B)[p]? = some (if p < k then .slice (some ⟨B p, 0, none⟩) n n else .slice none 0 0) := by
  simp [rowsB, List.getElem?_map, List.getElem?_range hp]
/-- The block g holds n rows, the first k of them in blocks of their own; row p holds f p 0, .., f p (n - 1). -/
structure BTb (W : World) (n₀ g n k : Nat) (B : Nat → Nat) (f : Nat → Nat → Bool) : Prop where
  outer : W.ownsRow n₀ 63 1 (.slice (some ⟨g, 0, none⟩) n n) n (rowsB n k B)
  inner : ∀ p, p < k → W.ownsRow n₀ 4 1 (.slice (some ⟨B p, 0, none⟩) n n) n ((Lb n (f p)).map fun x => .bool x)
  apart : ∀ p, p < k → g ≠ B p
  inj : ∀ p q, p < k → q < k → B p = B q → p = q
section
variable {W W' : World} {n₀ g n k : Nat} {B : Nat → Nat} {f : Nat → Nat → Bool}
theorem BTb.new (h : W.ownsRow n₀ 63 1 (.slice (some ⟨g, 0, none⟩) n n) n (List.replicate n (.slice none 0 0))) : BTb W n₀ g n 0 B f := by
  refine ⟨?_, fun p hp => by omega, fun p hp => by omega, fun p q hp => by omega⟩
  have e : rowsB n 0 B = List.replicate n (.slice none 0 0) := by
    apply List.ext_getElem
    · simp [rowsB]
    · intro i h1 h2; simp [rowsB]
  rw [e]; exact h
theorem BTb.kept (h : BTb W n₀ g n k B f) (hk : ∀ b, n₀ ≤ b → b < W.heap.size → W'.heap[b]? = W.heap[b]?) : BTb W' n₀ g n k B f :=
  ⟨owns_kept h.outer hk, fun p hp => owns_kept (h.inner p hp) hk, h.apart, h.inj⟩
theorem BTb.below (h : BTb W n₀ g n k B f) (hb : Below W.heap.size W W') : BTb W' n₀ g n k B f := h.kept fun b _ hs => hb.block b hs
theorem BTb.congr {e : Nat → Nat → Bool} (h : BTb W n₀ g n k B f) (he : ∀ p q, p < k → q < n → f p q = e p q) : BTb W n₀ g n k B e :=
  ⟨h.outer, fun p hp => by rw [← Lb_congr (n := n) (f := f p) (g := e p) fun q hq => he p q hp hq]; exact h.inner p hp, h.apart, h.inj⟩
theorem BTb.ge (h : BTb W n₀ g n k B f) {p : Nat} (hp : p < k) : n₀ ≤ B p ∧ B p < W.heap.size := ownq_lt (h.inner p hp)
theorem BTb.lt (h : BTb W n₀ g n k B f) : n₀ ≤ g ∧ g < W.heap.size := ownq_lt h.outer
/-- A row is made and stored. -/
theorem BTb.row {b : Nat} (h : BTb W n₀ g n k B f) (hk : k < n) (hg : ∀ c, n₀ ≤ c → c < W.heap.size → W'.heap[c]? = W.heap[c]?) (hb : W.heap.size ≤ b)
    (hr : W'.ownsRow n₀ 4 1 (.slice (some ⟨b, 0, none⟩) n n) n ((Lb n (f k)).map fun x => .bool x)) : BTb (W'.setCell ⟨g, k, none⟩ (.slice (some ⟨b, 0, none⟩) n n)) n₀ g n (k + 1) (fun p => if p = k then b else B p) f := by
  have h' := h.kept hg
  have hgb : g ≠ b := by have := h.lt; omega
  have hBb : ∀ p, p < k → B p ≠ b := fun p hp => by have := h.ge hp; omega
  obtain ⟨s1, s2⟩ := h'.outer.stored k (.slice (some ⟨b, 0, none⟩) n n)
  refine ⟨?_, fun p hp => ?_, fun p hp => ?_, fun p q hp hq e => ?_⟩
  · refine cast ?_ s1
    congr 1
    apply List.ext_getElem
    · simp [rowsB]
    · intro i h1 h2
      rw [List.getElem_set]
      by_cases e : k = i
      · subst e; simp [rowsB]
      · rw [if_neg e]
        simp only [rowsB, List.getElem_map, List.getElem_range]
        by_cases e2 : i < k
        · rw [if_pos e2, if_pos (by omega), if_neg (by omega)]
        · rw [if_neg e2, if_neg (by omega)]
  · by_cases e : p = k
    · subst e; simp only [if_true]
      exact hr.kept s2 (.inr (by simp [Value.ownBlock]; exact fun e => hgb e.symm))
    · simp only [if_neg e]
      exact (h'.inner p (by omega)).kept s2 (.inr (by simp [Value.ownBlock]; exact fun e => h.apart p (by omega) e.symm))
  · by_cases e : p = k
    · subst e; simp only [if_true]; exact hgb
    · simp only [if_neg e]; exact h.apart p (by omega)
  · by_cases e1 : p = k <;> by_cases e2 : q = k
    · omega
    · simp only [if_pos e1, if_neg e2] at e; exact absurd e.symm (hBb q (by omega))
    · simp only [if_neg e1, if_pos e2] at e; exact absurd e (hBb p (by omega))
    · simp only [if_neg e1, if_neg e2] at e; exact h.inj p q (by omega) (by omega) e
theorem BTb.cell (h : BTb W n₀ g n k B f) {p : Nat} (hp : p < n) : W.cell? ⟨g, p, none⟩ = some (if p < k then .slice (some ⟨B p, 0, none⟩) n n else .slice none 0 0) := by
  rw [h.outer.cellAt p (by omega), rowsB_get B hp]
theorem BTb.at (h : BTb W n₀ g n n B f) {p : Nat} (hp : p < n) : W.cell? ⟨g, p, none⟩ = some (.slice (some ⟨B p, 0, none⟩) n n) := by
  rw [h.cell hp, if_pos hp]
theorem BTb.free (h : BTb W n₀ g n k B f) {p : Nat} (hp : p < k) (q : Nat) : W.frozen? ⟨B p, q, none⟩ = false := (h.inner p hp).frozenAt q
/-- A truth value is stored. -/
theorem BTb.set (h : BTb W n₀ g n k B f) {p q : Nat} (hp : p < k) (x : Bool) : BTb (W.setCell ⟨B p, q, none⟩ (.bool x)) n₀ g n k B (fun a b => if a = p ∧ b = q then x else f a b) := by
  obtain ⟨h1, h2⟩ := (h.inner p hp).stored q (.bool x)
  refine ⟨h.outer.kept h2 (.inr (by simp [Value.ownBlock]; exact fun e => h.apart p hp e)), fun a ha => ?_, h.apart, h.inj⟩
  by_cases e : a = p
  · subst e
    rw [← List.map_set_bool, Lb_set] at h1
    refine cast ?_ h1
    congr 2
    exact Lb_congr fun i _ => by simp
  · have : (Lb n fun b => if a = p ∧ b = q then x else f a b) = Lb n (f a) := Lb_congr fun i _ => by rw [if_neg (fun h => e h.1)]
    rw [show (fun b => if a = p ∧ b = q then x else f a b) = fun b => (fun a b => if a = p ∧ b = q then x else f a b) a b from rfl] at this
    rw [this]
    refine (h.inner a ha).kept h2 (.inr ?_)
    intro e2
    simp only [Value.ownBlock, Option.some.injEq] at e2
    exact e (h.inj a p ha hp e2)
end
end Go.Proofs.YtiiiinoappjhdaaDoor
namespace Go.Proofs.YtiiiinoappjhdaaDoor
open Go.RowKit Go.Shelf
/-- A list that came in or was made: if it is nil it has no room. -/
def Room (w : World) (v : Value) (l : List Int) : Prop := ∃ A c, v = .slice A l.length c ∧ (A = none → c = 0) ∧ Ints w v l
theorem Room.below {w w' : World} {v : Value} {l : List Int} (h : Room w v l) (hb : Below w.heap.size w w') : Room w' v l := by
  obtain ⟨A, c, h1, h2, h3⟩ := h
  exact ⟨A, c, h1, h2, h3.below hb⟩
end Go.Proofs.YtiiiinoappjhdaaDoor
namespace Go.Proofs.YtiiiinoappjhdaaDoor
open Go.RowKit Go.Shelf
set_option maxRecDepth 100000 in
set_option maxHeartbeats 2000000 in
theorem tValid_any (v : Value) (m : List (List Int)) (w : World) (h : Rows w v m) :
    Calls Tryd.prog 27 #[.agg #[v]] w fun e w' => e = .returned (.bool (validM m)) ∧ Below w.heap.size w w' := by
  obtain ⟨A, cap, rfl, hl, hc⟩ := h
  unfold big at hl
  by_cases h0 : m.length = 0
  · have d0 : decide ((m.length : Int) < 1) = true := by simp [h0]
    clear hc
    go_enter Tryd.func27, Tryd.ntmps27
    go_wp2
    go_ret
    exact ⟨ret_bool (by simp [validM, inB, h0]), bal (Below.refl _ _) _⟩
  have d0 : decide ((m.length : Int) < 1) = false := by simp; omega
  by_cases h1 : 60 < m.length
  · have d1 : decide ((60 : Int) < m.length) = true := by simp; omega
    clear hc
    go_enter Tryd.func27, Tryd.ntmps27
    go_wp2
    go_ret
    have e1 : inB 1 60 m.length = false := inB_false (.inr (by omega))
    exact ⟨ret_bool (by simp [validM, e1]), bal (Below.refl _ _) _⟩
  have d1 : decide ((60 : Int) < m.length) = false := by simp; omega
  obtain ⟨b, off, r0, hA, hcell0, hr0⟩ := hc 0 (by omega)
  subst hA
  obtain ⟨A0, cap0, rfl, hl0, hc0⟩ := hr0
  unfold big at hl0
  rw [Nat.add_zero] at hcell0
  have hbl : b < w.heap.size := World.block_lt_of_cell? _ _ hcell0
  have hlet : (m.getD 0 []).length = letters m := rfl
  rw [hlet] at hcell0 hl0
  have hin : (0 : Int) < m.length := by omega
  clear hc0 hlet
  have Hc := hid hc
  have hX := bal (Below.refl _ w) (.cells #[.slice (some ⟨b, off, none⟩) m.length cap] 24)
  have hbx := (Boxed.new w 24 (.slice (some ⟨b, off, none⟩) m.length cap)).cell
  have hcX := (hX.cell (p := ⟨b, off, none⟩) hbl).trans hcell0
  have Hv := hid (show (1 ≤ letters m ∧ letters m ≤ 6) → validM m = m.all (rowOk m) by
    rintro ⟨a1, a2⟩
    have e1 : inB 1 60 m.length = true := inB_true (by omega)
    have e2 : inB 1 6 (letters m) = true := inB_true (by omega)
    simp [validM, e1, e2])
  have Hn := hid (show ¬ (1 ≤ letters m ∧ letters m ≤ 6) → validM m = false by
    intro a
    have e2 : inB 1 6 (letters m) = false := by
      by_cases h3 : 1 ≤ letters m
      · exact inB_false (.inr (by omega))
      · exact inB_false (.inl (by omega))
    simp [validM, e2])
  clear hc
  go_enter Tryd.func27, Tryd.ntmps27
  go_wp2_with fail
  go_loopw [4] (fun i wr => ∃ k : Nat, k ≤ m.length ∧ i = .int .i64 k ∧ (m.take k).all (rowOk m) = true ∧ (0 < k → 1 ≤ letters m ∧ letters m ≤ 6) ∧ Below w.heap.size w wr ∧ wr.cell? ⟨w.heap.size, 0, none⟩ = some (.slice (some ⟨b, off, none⟩) m.length cap)) (fun i _ => m.length - (intOf i).toNat)
  case atStart => exact ⟨0, Nat.zero_le _, rfl, rfl, fun h => by omega, hX, hbx⟩
  case round =>
    clear hX hbx hcX
    obtain ⟨k, hk, rfl, hall, hlk, hB, hbox⟩ := hrel
    by_cases hlt : k < m.length
    · have hks : (k : Int) < m.length := by omega
      obtain ⟨b', off', r, hA', hcell, hrow⟩ := Hc.out k hlt
      cases hA'
      have hrowc : wr.cell? ⟨b, off + k, none⟩ = some r := (hB.cell (p := ⟨b, off + k, none⟩) hbl).trans hcell
      have Hs := hid (all_snoc_take (rowOk m) m [] k hlt)
      have Hf := hid (all_false_of (rowOk m) m [] k hlt)
      have Hall := hid hall
      clear hcell hall
      generalize m.getD k [] = row at *
      obtain ⟨Ar, capr, rfl, hlr, hcr⟩ := id hrow
      unfold big at hlr
      by_cases hlen : row.length = letters m
      · by_cases hlo : 1 ≤ letters m
        · by_cases hhi : letters m ≤ 6
          · have e1 : ((row.length : Int) != (letters m : Int)) = false := by simp [hlen]
            have e2 : decide ((letters m : Int) < 1) = false := by simp; omega
            have e3 : decide ((6 : Int) < letters m) = false := by simp; omega
            have Hcr := hid hcr
            have HL := hid hlen
            have HV := hid (Hv.out ⟨hlo, hhi⟩)
            have hok := hid (fun (hx : row.all (inB 0 ((m.length : Int) - 1)) = true) => show rowOk m row = true by simp [rowOk, hlen, hx])
            have hno := hid (fun (hx : row.all (inB 0 ((m.length : Int) - 1)) = false) => show rowOk m row = false by simp [rowOk, hx])
            clear hcr hlen hlk hrow
            obtain ⟨wk, rfl⟩ : ∃ wk : World, wk = wr := ⟨_, rfl⟩
            go_wp2_with fail
            go_loopw [5] (fun i wr => ∃ j : Nat, j ≤ letters m ∧ i = .int .i64 j ∧ (row.take j).all (inB 0 ((m.length : Int) - 1)) = true ∧ Below w.heap.size w wr ∧ wr.cell? ⟨w.heap.size, 0, none⟩ = some (.slice (some ⟨b, off, none⟩) m.length cap) ∧ wr.cell? ⟨b, off + k, none⟩ = some (.slice Ar row.length capr)) (fun i _ => letters m - (intOf i).toNat)
            case atStart => exact ⟨0, Nat.zero_le _, rfl, rfl, hB, hbox, hrowc⟩
            case round =>
              clear hB hbox hrowc
              obtain ⟨j, hj, rfl, hrall, hB, hbox, hrowc⟩ := hrel
              by_cases hjl : j < letters m
              · have hjs : (j : Int) < letters m := by omega
                have hjr : j < row.length := by have := HL.out; omega
                have hjr2 : (j : Int) < row.length := by omega
                obtain ⟨br, offr, hAr, hct⟩ := Hcr.out j hjr
                subst hAr
                have c3 := (hB.cell (p := ⟨br, offr + j, none⟩) (World.block_lt_of_cell? _ _ hct)).trans hct
                have hs2 := all_snoc_take (inB 0 ((m.length : Int) - 1)) row 0 j hjr
                rw [hrall, Bool.true_and] at hs2
                have Hs2 := hid hs2
                have Hf2 := hid (all_false_of (inB 0 ((m.length : Int) - 1)) row 0 j hjr)
                clear hct hs2 hrall
                generalize row.getD j 0 = x at *
                by_cases hx0 : x < 0
                · have f1 : decide (x < 0) = true := by simp [hx0]
                  have Hbad := hid (Hf.out (hno.out (Hf2.out (inB_false (.inl hx0)))))
                  go_wp2_with fail
                  go_quiet (fail)
                  go_wp2
                  go_ret
                  exact ⟨ret_bool (by rw [HV.out, Hbad.out]), bdr hB nq⟩
                · have f1 : decide (x < 0) = false := by simp; omega
                  by_cases hx1 : (m.length : Int) ≤ x
                  · have f2 : decide ((m.length : Int) ≤ x) = true := by simp [hx1]
                    have Hbad := hid (Hf.out (hno.out (Hf2.out (inB_false (.inr (by omega))))))
                    go_wp2_with fail
                    go_quiet (fail)
                    go_wp2
                    go_ret
                    exact ⟨ret_bool (by rw [HV.out, Hbad.out]), bdr hB nq⟩
                  · have f2 : decide ((m.length : Int) ≤ x) = false := by simp; omega
                    have hin2 := hid (show inB 0 ((m.length : Int) - 1) x = true from inB_true (by omega))
                    go_wp2_with fail
                    go_quiet (fail)
                    go_wp2
                    go_roundw
                    case rel => exact ⟨j + 1, by omega, by go_num, by rw [Hs2.out]; exact hin2.out, bdr hB nq, ((below_dr _ nq).cell (p := ⟨w.heap.size, 0, none⟩) (World.block_lt_of_cell? _ _ hbox)).trans hbox, ((below_dr _ nq).cell (p := ⟨b, off + k, none⟩) (World.block_lt_of_cell? _ _ hrowc)).trans hrowc⟩
                    case measure => simp [intOf]; omega
              · have hjs : ¬ (j : Int) < letters m := by omega
                have hrow2 : row.all (inB 0 ((m.length : Int) - 1)) = true := by
                  rw [List.take_of_length_le (by have := HL.out; omega)] at hrall
                  exact hrall
                have Hrow := hid (hok.out hrow2)
                clear hrall hrow2
                go_wp2_with fail
                go_roundw
                case rel => exact ⟨k + 1, by omega, by go_num, by rw [Hs.out, Hall.out, Hrow.out]; rfl, fun _ => ⟨hlo, hhi⟩, hB, hbox⟩
                case measure => simp [intOf]; omega
          · have e1 : ((row.length : Int) != (letters m : Int)) = false := by simp [hlen]
            have e2 : decide ((letters m : Int) < 1) = false := by simp; omega
            have e3 : decide ((6 : Int) < letters m) = true := by simp; omega
            have HN := hid (Hn.out (fun a => hhi a.2))
            clear hcr hlen
            go_wp2_with fail
            go_ret
            exact ⟨ret_bool HN.out.symm, hB⟩
        · have e1 : ((row.length : Int) != (letters m : Int)) = false := by simp [hlen]
          have e2 : decide ((letters m : Int) < 1) = true := by simp; omega
          have HN := hid (Hn.out (fun a => hlo a.1))
          clear hcr hlen
          go_wp2_with fail
          go_ret
          exact ⟨ret_bool HN.out.symm, hB⟩
      · have e1 : ((row.length : Int) != (letters m : Int)) = true := by simp; omega
        have hbad : rowOk m row = false := by simp [rowOk, hlen]
        have HN : Hid (validM m = false) := hid (by
          by_cases hh : 1 ≤ letters m ∧ letters m ≤ 6
          · rw [Hv.out hh]; exact Hf.out hbad
          · exact Hn.out hh)
        clear hcr hlen hbad
        go_wp2_with fail
        go_ret
        exact ⟨ret_bool HN.out.symm, hB⟩
    · obtain rfl : k = m.length := by omega
      have hks : ¬ ((m.length : Nat) : Int) < m.length := by omega
      have hh := hall
      rw [List.take_length] at hh
      have HV := hid ((Hv.out (hlk (by omega))).trans hh)
      clear hall hh
      go_wp2_with fail
      go_ret
      exact ⟨ret_bool HV.out.symm, hB⟩
theorem tValid_bool (v : Value) (m : List (List Int)) (b : Bool) (w : World) (h : Rows w v m) (hb : validM m = b) :
    Calls Tryd.prog 27 #[.agg #[v]] w fun e w' => e = .returned (.bool b) ∧ Below w.heap.size w w' := by
  subst hb; exact tValid_any v m w h
end Go.Proofs.YtiiiinoappjhdaaDoor
namespace Go.Proofs.YtiiiinoappjhdaaDoor
open Go.RowKit Go.Shelf
/-- Whether one of the first s states is led to t. -/
def metP (m : List (List Int)) (l : List Int) (s t : Nat) : Bool := (List.range s).any fun s' => runM m s' l == t
theorem metP_succ (m : List (List Int)) (l : List Int) (s t : Nat) : metP m l (s + 1) t = (metP m l s t || runM m s l == t) := by
  simp [metP, List.range_succ]
def cntP (n : Nat) (f : Nat → Bool) : Nat := ((List.range n).filter f).length
theorem cntP_add : ∀ (n : Nat) (f : Nat → Bool) (t : Nat), cntP n (fun i => f i || t == i) = cntP n f + (if t < n ∧ f t = false then 1 else 0)
  | 0, f, t => by simp [cntP]
  | n + 1, f, t => by
    have ih := cntP_add n f t
    have e : ∀ g : Nat → Bool, cntP (n + 1) g = cntP n g + (if g n = true then 1 else 0) := fun g => by
      unfold cntP
      rw [List.range_succ, List.filter_append, List.length_append]
      cases hg : g n <;> simp [hg]
    rw [e, e, ih]
    by_cases h : t = n
    · subst h
      cases hf : f t <;> simp
    · have h2 : (t == n) = false := beq_eq_false_iff_ne.2 h
      rw [h2, Bool.or_false]
      have e3 : (if t < n + 1 ∧ f t = false then 1 else 0) = (if t < n ∧ f t = false then 1 else 0) := by
        by_cases h3 : t < n ∧ f t = false
        · rw [if_pos h3, if_pos ⟨by omega, h3.2⟩]
        · rw [if_neg h3, if_neg (fun h4 => h3 ⟨by omega, h4.2⟩)]
      rw [e3]
      generalize (if t < n ∧ f t = false then 1 else 0) = z
      generalize (if f n = true then 1 else 0) = y
      omega
theorem cntP_le (n : Nat) (f : Nat → Bool) : cntP n f ≤ n := by
  unfold cntP
  have := List.length_filter_le f (List.range n)
  simpa using this
/-- In the end: as many as there are states to which the word leads. -/
theorem cntP_image {m : List (List Int)} (hv : validM m = true) {l : List Int} (hw : isWordM m l = true) : cntP m.length (metP m l m.length) = (imageM m (allM m.length) l).length := by
  rw [← image_pick hv (allM_set m) hw]
  unfold cntP pick
  rw [List.length_map]
  congr 1
  refine List.filter_congr fun t ht => ?_
  rw [Bool.eq_iff_iff, hasB_mem]
  unfold metP thereM allM pick
  rw [List.any_eq_true]
  constructor
  · rintro ⟨s, hs, he⟩
    refine List.mem_map.2 ⟨(s : Int), List.mem_map.2 ⟨s, by simpa using hs, rfl⟩, ?_⟩
    rw [Int.toNat_natCast, beq_iff_eq.1 he]
  · intro h
    obtain ⟨x, hx, he⟩ := List.mem_map.1 h
    obtain ⟨s, hs, rfl⟩ := List.mem_map.1 hx
    refine ⟨s, by simpa using hs, ?_⟩
    rw [Int.toNat_natCast] at he
    exact beq_iff_eq.2 (by omega)
set_option maxRecDepth 100000 in
set_option maxHeartbeats 2000000 in
theorem tSpread_any (v u : Value) (m : List (List Int)) (l : List Int) (w : World) (h : Rows w v m) (hu : Ints w u l) (hv : validM m = true) (hw : l.all (inB 0 ((letters m : Int) - 1)) = true) :
    Calls Tryd.prog 31 #[.agg #[v], u] w fun e w' => e = .returned (.int .i64 (cntP m.length (metP m l m.length) : Nat)) ∧ Below w.heap.size w w' := by
  obtain ⟨j0, hj, hy0, hy1, hy2⟩ := info_parts infoBool
  obtain ⟨p1, p2, -⟩ := valid_parts hv
  obtain ⟨A, cap, rfl, hml, -⟩ := id h
  obtain ⟨Au, capu, rfl, -, -⟩ := id hu
  have hX := bal (Below.refl _ w) (.cells #[.slice A m.length cap] 24)
  have Hw := hid hw
  clear hw
  go_enter Tryd.func31, Tryd.ntmps31
  go_wp2_with (at_make; go_must (refine wpList_make_full _ rfl _ _ 63 rfl (w.heap.size + 1) 4 j0 (.bool false) 1 Tryd.underlying63 hj hy0 hy1 .i64 .i64 _ _ m.length rfl rfl rfl rfl (by rw [hy2]; omega) (by unfold maxLen; omega) (by simp) ?_); intro w1 hown hgrow; rw [show Value.cells (.bool false) = #[.bool false] from rfl, toList_madeCells_one, Nat.mul_one] at hown; simp only [World.size_alloc] at hown)
  have hB1 := hX.grown hgrow (by simp) (fun q hq => by cases hq)
  have bx : w1.cell? ⟨w.heap.size, 0, none⟩ = some (.slice A m.length cap) := (World.cell?_of_block (hgrow.block w.heap.size (by simp) (by simp))).trans (by simp [go_sem])
  have hown0 : w1.ownsRow (w.heap.size + 1) 4 1 (.slice (some ⟨w.heap.size + 1, 0, none⟩) m.length m.length) m.length ((Lb m.length (metP m l 0)).map fun x => .bool x) := by
    have e : ((Lb m.length (metP m l 0)).map fun x => Value.bool x) = List.replicate m.length (.bool false) := by
      apply List.ext_getElem
      · simp [Lb]
      · intro i h1 h2; simp [Lb, metP]
    rw [e]; simpa using hown
  have hc0 : cntP m.length (metP m l 0) = 0 := by simp [cntP, metP]
  have Hc0 := hid hc0
  clear hown hgrow hc0
  go_loopw [6, 7] (fun nv sv wr => ∃ (s c : Nat), s ≤ m.length ∧ sv = .int .i64 s ∧ nv = .int .i64 c ∧ cntP m.length (metP m l s) = c ∧ wr.ownsRow (w.heap.size + 1) 4 1 (.slice (some ⟨w.heap.size + 1, 0, none⟩) m.length m.length) m.length ((Lb m.length (metP m l s)).map fun x => .bool x) ∧ Below w.heap.size w wr ∧ wr.cell? ⟨w.heap.size, 0, none⟩ = some (.slice A m.length cap)) (fun _ sv _ => m.length - (intOf sv).toNat)
  case atStart => exact ⟨0, 0, Nat.zero_le _, rfl, rfl, Hc0.out, hown0, hB1, bx⟩
  case round =>
    clear hown0 hB1 bx Hc0
    obtain ⟨s, c, hs, rfl, rfl, hc, hO, hB, hbx⟩ := hrel
    have HO := hid hO
    have hcl := cntP_le m.length (metP m l s)
    rw [hc] at hcl
    have Hc := hid hc
    clear hO hc
    by_cases hlt : s < m.length
    · have hss : (s : Int) < m.length := by omega
      have hrl := runM_lt hv l s hlt Hw.out
      go_wp2_with fail
      refine (tLead_any _ _ m s l _ (h.below hB) (hu.below hB) hv hlt Hw.out).mono ?_
      rintro e y ⟨rfl, hy⟩
      have hBy := btr hB hy
      have hbxy := (hy.cell (p := ⟨w.heap.size, 0, none⟩) (World.block_lt_of_cell? _ _ hbx)).trans hbx
      have hOy := owns_block HO.out (hy.block _ (ownq_lt HO.out).2)
      have hfun : (fun i => if i = runM m s l then true else metP m l s i) = metP m l (s + 1) := by
        funext i
        rw [metP_succ]
        by_cases e : i = runM m s l
        · rw [if_pos e, e]; simp
        · rw [if_neg e, beq_eq_false_iff_ne.2 (fun h => e h.symm), Bool.or_false]
      have hcnt : cntP m.length (metP m l (s + 1)) = c + (if runM m s l < m.length ∧ metP m l s (runM m s l) = false then 1 else 0) := by
        rw [← Hc.out, ← cntP_add]
        congr 1
        funext i
        rw [metP_succ]
      generalize runM m s l = t at *
      have hts : (t : Int) < m.length := by omega
      have hcA := hOy.cellAt t (by omega)
      have hfA := hOy.frozenAt t
      rw [Lb_cell _ hrl] at hcA
      have hSt := (hOy.stored t (.bool true)).1
      rw [← List.map_set_bool, Lb_set, hfun] at hSt
      have HSt := hid hSt
      have hBs := hid (hBy.setCell (p := ⟨w.heap.size + 1, t, none⟩) (by show w.heap.size ≤ w.heap.size + 1; omega) (.bool true))
      have hbxs : (y.setCell ⟨w.heap.size + 1, t, none⟩ (.bool true)).cell? ⟨w.heap.size, 0, none⟩ = some (.slice A m.length cap) := (World.cell?_of_block (Below.heap_setCell _ _ _ _ (by simp))).trans hbxy
      clear hSt hOy hfun
      have Hcnt := hid hcnt
      clear hcnt
      cases hmt : metP m l s t with
      | false =>
        rw [hmt] at hcA
        have hcn := hid (show cntP m.length (metP m l (s + 1)) = c + 1 by rw [Hcnt.out, if_pos ⟨hrl, hmt⟩])
        clear hmt Hcnt Hc
        go_wp2_with fail
        go_roundw
        case rel => exact ⟨s + 1, c + 1, by omega, by go_num, by go_num, hcn.out, HSt.out, hBs.out, hbxs⟩
        case measure => simp [intOf]; omega
      | true =>
        rw [hmt] at hcA
        have hcn := hid (show cntP m.length (metP m l (s + 1)) = c by rw [Hcnt.out, if_neg (fun h => by rw [hmt] at h; cases h.2)]; omega)
        clear hmt Hcnt Hc
        go_wp2_with fail
        go_roundw
        case rel => exact ⟨s + 1, c, by omega, by go_num, rfl, hcn.out, HSt.out, hBs.out, hbxs⟩
        case measure => simp [intOf]; omega
    · have hss : ¬ (s : Int) < m.length := by omega
      obtain rfl : s = m.length := by omega
      go_wp2_with fail
      go_ret
      exact ⟨ret_int (by rw [Hc.out]), hB⟩
theorem tSpread_as (v u : Value) (m : List (List Int)) (l : List Int) (k : Nat) (w : World) (h : Rows w v m) (hu : Ints w u l) (hv : validM m = true) (hw : isWordM m l = true) (hk : Hid ((imageM m (allM m.length) l).length = k)) :
    Calls Tryd.prog 31 #[.agg #[v], u] w fun e w' => e = .returned (.int .i64 k) ∧ Below w.heap.size w w' := by
  refine (tSpread_any v u m l w h hu hv (isWordM_all hw)).mono ?_
  rintro e w1 ⟨rfl, h1⟩
  rw [cntP_image hv hw, hk.out]
  exact ⟨rfl, h1⟩
end Go.Proofs.YtiiiinoappjhdaaDoor
