/-
  Texts that the proof of the law stands on: E7, E8, E9, RangeIn, Round, PairEq, F1, F2, D4, E11, D5, E12, Z29, Z16, Z30, Z31, E10, E15, E16, L4, G2, Z9, Z15, Z17.
-/
import Derived.Test.YtlpfglkopnmlnaaDoorCbD
import Derived.RegionTactic
import Derived.ChangeAlike
import Derived.Deep.DeepMust
import Derived.OrdersIn
import Derived.Deep.Quiet
import Derived.BigQuiet
import Derived.Deep.QuietTactic
import Derived.ChangeKeysEq
import Derived.Laws.StructEq
import Derived.Test.YtlpfglkopnmlnaaDoorProg
import Derived.Shelf.RegionOpen
import Derived.Deep.RegionHeld3
import Derived.Deep.CutRange
set_option linter.unusedVariables false
set_option linter.unusedSimpArgs false
namespace Go.Proofs.YtlpfglkopnmlnaaDoor
open Go.RowKit Go.Shelf
theorem infoPair : (Tryd.prog.info? 88).map (fun i => (i.zero, i.size, i.bytes)) = some (some (.agg #[.int .i64 0, .int .i64 0]), 2, 16) := by kernel_rfl
theorem add_block (a : Addr) (k : Nat) : (a.add k).block = a.block := by unfold Addr.add; split <;> rfl
theorem pair_new (w : World) (t : TypeId) (u v : Value) (B : Nat) (hB : w.heap.size = B) : ∀ k x, [u, v][k]? = some x → (w.alloc (.cells #[u, v] t)).cell? ((⟨B, 0, none⟩ : Addr).add k) = some x := by
  subst hB
  intro k x hx
  have hk : k < 2 := by
    have := (List.getElem?_eq_some_iff.1 hx).1
    simpa using this
  have h2 : k = 0 ∨ k = 1 := by omega
  rcases h2 with rfl | rfl <;> simp at hx <;> subst hx <;> simp [Addr.add]
set_option maxRecDepth 100000 in
set_option maxHeartbeats 8000000 in
theorem mergers_any (v : Value) (m : List (List Int)) (w : World) (h : Rows w v m) (hv : validM m = true) :
    Calls Tryd.prog 65 #[.agg #[v]] w fun e w' => ∃ B, e = .returned (.map (some B)) ∧ LenMap m w' B ∧ Below w.heap.size w w' := by
  obtain ⟨i0, hi, hz0, hz1, hz2⟩ := info_parts infoPair
  obtain ⟨p1, p2, p3, p4, p5⟩ := valid_parts hv
  obtain ⟨A, cap, rfl, hml, hcm⟩ := id h
  have Hcm := hid hcm
  have Hp5 := hid p5
  have hX := bal (bal (Below.refl _ w) (.cells #[.slice A m.length cap] 24)) (.map #[] 0)
  have hbx := (Boxed.new w 24 (.slice A m.length cap)).cell
  have hbx1 := ((bal (Below.refl _ _) (.map #[] 0)).cell (p := ⟨w.heap.size, 0, none⟩) (World.block_lt_of_cell? _ _ hbx)).trans hbx
  have hG0 := Grp.made (w.alloc (.cells #[.slice A m.length cap] 24)) (w.heap.size + 1)
  rw [World.size_alloc] at hG0
  have hmm := @run_makeMap Tryd.prog
  clear p5 hcm hbx
  go_enter Tryd.func65, Tryd.ntmps65
  go_wp2_with fail
  generalize hWX : (w.alloc (.cells #[.slice A m.length cap] 24)).alloc (.map #[] 0) = X at *
  clear hWX
  go_loopw [20] (fun pv wr => ∃ (p N : Nat) (V : Nat → Nat → Value) (L : Nat → Nat → List (Nat × Nat)), p ≤ m.length ∧ pv = .int .i64 (p : Nat) ∧ N ≤ p * 3600 ∧ Grp wr (w.heap.size + 1) (w.heap.size + 1) N V L ∧ LB m p (p + 1) 0 L ∧ (∀ a d, (L a d).length ≤ N) ∧ Below w.heap.size w wr ∧ wr.cell? ⟨w.heap.size, 0, none⟩ = some (.slice A m.length cap)) (fun pv _ => m.length - (intOf pv).toNat)
  case atStart => exact ⟨0, 0, _, _, Nat.zero_le _, rfl, Nat.le_refl _, hG0, LB.start m, fun _ _ => Nat.le_refl _, hX, hbx1⟩
  case round =>
    clear hG0 hX hbx1
    obtain ⟨p, N, V, L, hp, rfl, hN, hG, hL, hLN, hB, hbx⟩ := hrel
    by_cases hpl : p < m.length
    · have hps : (p : Int) < m.length := by omega
      obtain ⟨b1, o1, r1, hA, hcell, hrow⟩ := Hcm.out p hpl
      subst hA
      have hrl := (Hp5.out p hpl).1
      obtain ⟨Ar, capr, rfl, -, -⟩ := id hrow
      rw [hrl] at hcell
      have HG := hid hG
      have HL := hid hL
      have HLN := hid hLN
      clear hG hL hLN hrow
      obtain ⟨wo, rfl⟩ : ∃ wo : World, wo = wr := ⟨_, rfl⟩
      go_wp2_with fail
      go_loopw [5] (fun qv wr => ∃ (q N : Nat) (V : Nat → Nat → Value) (L : Nat → Nat → List (Nat × Nat)), p + 1 ≤ q ∧ q ≤ m.length ∧ qv = .int .i64 (q : Nat) ∧ N ≤ p * 3600 + q * 60 ∧ Grp wr (w.heap.size + 1) (w.heap.size + 1) N V L ∧ LB m p q 0 L ∧ (∀ a d, (L a d).length ≤ N) ∧ Below w.heap.size w wr ∧ wr.cell? ⟨w.heap.size, 0, none⟩ = some (.slice (some ⟨b1, o1, none⟩) m.length cap)) (fun qv _ => m.length - (intOf qv).toNat)
      case atStart => exact ⟨p + 1, N, V, L, Nat.le_refl _, by omega, by go_num, by omega, HG.out, HL.out, HLN.out, hB, hbx⟩
      case round =>
        clear HG HL HLN hB hbx
        obtain ⟨q, N, V, L, hpq, hq, rfl, hN, hG, hL, hLN, hB, hbx⟩ := hrel
        by_cases hql : q < m.length
        · have hqs : (q : Int) < m.length := by omega
          have HG := hid hG
          have HL := hid hL
          have HLN := hid hLN
          have hcell1 := (hB.cell (p := ⟨b1, o1 + p, none⟩) (World.block_lt_of_cell? _ _ hcell)).trans hcell
          clear hG hL hLN
          obtain ⟨wo2, rfl⟩ : ∃ wo : World, wo = wr := ⟨_, rfl⟩
          go_wp2_with fail
          go_loopw [38] (fun xv wr => ∃ (x N : Nat) (V : Nat → Nat → Value) (L : Nat → Nat → List (Nat × Nat)), x ≤ letters m ∧ xv = .int .i64 (x : Nat) ∧ N ≤ p * 3600 + q * 60 + x ∧ Grp wr (w.heap.size + 1) (w.heap.size + 1) N V L ∧ LB m p q x L ∧ (∀ a d, (L a d).length ≤ N) ∧ Below w.heap.size w wr ∧ wr.cell? ⟨w.heap.size, 0, none⟩ = some (.slice (some ⟨b1, o1, none⟩) m.length cap)) (fun xv _ => letters m - (intOf xv).toNat)
          case atStart => exact ⟨0, N, V, L, Nat.zero_le _, rfl, by omega, HG.out, HL.out, HLN.out, hB, hbx⟩
          case round =>
            clear HG HL HLN hB hbx
            obtain ⟨x, N, V, L, hx, rfl, hN, hG, hL, hLN, hB, hbx⟩ := hrel
            by_cases hxl : x < letters m
            · have hxs : (x : Int) < letters m := by omega
              have HG := hid hG
              have HL := hid hL
              have HLN := hid hLN
              clear hG hL hLN
              obtain ⟨hn1, -⟩ := nx_ok hv (s := p) hpl (x := (x : Int)) (by omega) (by omega)
              obtain ⟨hq1, -⟩ := nx_ok hv (s := q) hql (x := (x : Int)) (by omega) (by omega)
              have hHb := h.below hB
              go_wp2_with fail
              refine (lead_pair _ m p q x _ hHb hv hpl hql hxl).mono ?_
              rintro e y1 ⟨rfl, hy1⟩
              have hcl := canon_le (nx m p (x : Int)) (nx m q (x : Int))
              have hct := canon_lt hn1 hq1
              obtain ⟨i, j, hij⟩ : ∃ i j, canon (nx m p (x : Int)) (nx m q (x : Int)) = (i, j) := ⟨_, _, rfl⟩
              have HIJ := hid hij
              simp only [hij] at hcl hct ⊢
              clear hij
              have hB1 := btr hB hy1
              have hZ : Below wr.heap.size wr ((y1.alloc (.cells #[.int .i64 i, .int .i64 j] 88)).alloc (.cells #[.int .i64 p, .int .i64 q] 88)) := bal (bal hy1 _) _
              have hGZ := HG.out.below hZ
              obtain ⟨T0, c0, hm0⟩ := hGZ.map
              obtain ⟨st, W1, he1, he2, he3, he4⟩ := hm0.entry Tryd.underlying106 zeroPairs (by unfold maxLen; omega) (p := i) (q := j) (by omega) (by omega)
              have hbl := hm0.lt
              obtain ⟨_, _, hm9⟩ := HG.out.map
              have hbl0 := hm9.lt
              clear hm9
              have hrow1 := (hGZ.rows i j).kept he2 (.inr (hGZ.off i j))
              have hnews := fun k u (hu : [Value.int .i64 (p : Nat), .int .i64 (q : Nat)][k]? = some u) => he2.cell (pair_new (y1.alloc (.cells #[.int .i64 i, .int .i64 j] 88)) 88 _ _ _ (World.size_alloc _ _) k u hu) (by
                have := hy1.size
                rw [add_block]
                intro e
                injection e with e
                simp only at e
                omega)
              have hNij := HLN.out i j
              have hbxZ := (hZ.cell (p := ⟨w.heap.size, 0, none⟩) (World.block_lt_of_cell? _ _ hbx)).trans hbx
              have hBZ := btr hB hZ
              have Hfin := hid (fun (w' w3 : World) (h2 : W1.grownBy w' (V i j).ownBlock) (h3 : w'.grownBy w3 (some (w.heap.size + 1))) => hGZ.turned rfl (Nat.lt_succ_self _) hBZ he2 h2 h3)
              have Hstep := hid (fun (w' w3 : World) (v' : Value) (T : Nat → Nat → Bool) (c' : Nat) (ho) (h2) (hat) (hm) (h3) => hGZ.step (w' := w') (w3 := w3) (i := i) (j := j) (p := p) (q := q) (c' := c') (T := T) (v' := v') he2 he3 ho h2 hat hm h3)
              have Hoff := hid (hGZ.off i j)
              have Hrow1 := hid hrow1
              have Hnews := hid hnews
              have Hhe4 := hid he4
              have hs1 : W1.heap.size = y1.heap.size + 1 + 1 := by rw [he3]; simp
              have hsz1 := hB1.size
              have Hs1 := hid hs1
              have Hbx := hid (hbxZ)
              have HBl := hid hbl
              clear hrow1 hnews he4 hGZ hm0 hbl hZ hBZ hs1 hy1 hHb hbx hbxZ he2 he3
              go_wp2_with (at_builtin; refine wpList_append_own_at _ rfl _ _ 108 rfl (w.heap.size + 1) 88 i0 (.agg #[.int .i64 0, .int .i64 0]) 2 16 Tryd.underlying108 hi hz0 hz1 hz2 rfl (by decide) _ _ _ rfl Hrow1.out ⟨y1.heap.size + 1, 0, none⟩ 1 1 [.int .i64 p, .int .i64 q] rfl rfl Hnews.out (by simp [Value.oneCell']) (by unfold maxLen; omega) (by omega) (by rw [Hs1.out]; omega) ?_; intro v' w5 hown' hgrow' _ hat; obtain ⟨w3, c', k1, k2, k3⟩ := Hhe4.out w5 v' (hgrow'.block _ (by rw [Hs1.out]; omega) (fun e => Hoff.out e.symm)); have k1' : (Instr.entryStore 106 (.map (some (w.heap.size + 1))) (.int .i64 st) v').run Tryd.prog w5 = .ok () w3 := k1; have HG3 := hid (Hstep.out w5 w3 v' _ c' hown' hgrow' hat k2 k3); have HF3 := hid (Hfin.out w5 w3 hgrow' k3); clear k1 k2 k3 hown' hgrow' hat)
              go_roundw
              case rel =>
                obtain ⟨f1, _, f3⟩ := HF3.out
                exact ⟨x + 1, N + 1, _, _, by omega, by go_num, by omega, HG3.out, HL.out.add (by omega) hql hxl HIJ.out, upd_len HLN.out, f1, f3 _ Hbx.out⟩
              case measure => simp [intOf]; omega
            · obtain rfl : x = letters m := by omega
              have hxs : ¬ ((letters m : Nat) : Int) < letters m := by omega
              have HG := hid hG
              have HL := hid hL
              have HLN := hid hLN
              clear hG hL hLN
              go_wp2_with fail
              go_roundw
              case rel => exact ⟨q + 1, N, V, L, by omega, by omega, by go_num, by omega, HG.out, HL.out.nextq, HLN.out, hB, hbx⟩
              case measure => simp [intOf]; omega
        · obtain rfl : q = m.length := by omega
          have hqs : ¬ ((m.length : Nat) : Int) < m.length := by omega
          have HG := hid hG
          have HL := hid hL
          have HLN := hid hLN
          clear hG hL hLN
          go_wp2_with fail
          go_roundw
          case rel => exact ⟨p + 1, N, V, L, by omega, by go_num, by omega, HG.out, HL.out.nextp, HLN.out, hB, hbx⟩
          case measure => simp [intOf]; omega
    · obtain rfl : p = m.length := by omega
      have hps : ¬ ((m.length : Nat) : Int) < m.length := by omega
      have HG := hid hG
      have HLd := hid hL.done
      have HLN := hid hLN
      clear hG hL hLN
      have hlb := World.block_lt_of_cell? _ _ hbx
      simp only at hlb
      have hbx2 := ((bal (Below.refl _ wr) (.map #[] 0)).cell (p := ⟨w.heap.size, 0, none⟩) hlb).trans hbx
      have hM0 := hid (LMap.made wr)
      go_wp2_with fail
      obtain ⟨W0, rfl⟩ : ∃ wo : World, wo = wr := ⟨_, rfl⟩
      have hB0 := bal (Below.refl _ W0) (.map #[] 0)
      have HB := hid hB
      have Hbx := hid hbx
      go_loopw [9, 63] (fun fv sv wr => ∃ s : Nat, s ≤ m.length ∧ sv = .int .i64 (s : Nat) ∧ LMap wr W0.heap.size (diag0 s) ∧ PRow wr (W0.heap.size + 1) fv (keysF (diag0 s)) ∧ Below W0.heap.size W0 wr) (fun _ sv _ => m.length - (intOf sv).toNat)
      case atStart => exact ⟨0, Nat.zero_le _, rfl, hM0.out, World.ownsRow_nil _ _ _ _, hB0⟩
      case round =>
        clear hM0 hB0 hbx2 hB hbx
        obtain ⟨s, hs, rfl, hM, hP, hB⟩ := hrel
        by_cases hsl : s < m.length
        · have hss : (s : Int) < m.length := by omega
          have hkl : (keysF (diag0 s)).length = s := by rw [keysF_len, diag0_len]
          obtain ⟨w2, g1, g2, g3⟩ := hM.put (by rw [diag0_len]; omega) (p := s) (q := s) (by omega) (by omega) 0 (inF_diag s)
          have g1' : (Instr.mapUpdate 82 (.map (some W0.heap.size)) (.agg #[.int .i64 s, .int .i64 s]) (.int .i64 0)).run Tryd.prog wr = .ok () w2 := g1
          obtain ⟨B2, P2⟩ := found_stored hB hP g3
          have P2' : w2.ownsRow (W0.heap.size + 1) 88 2 u9 s (pairCells (keysF (diag0 s))) := by have := P2; unfold PRow at this; rwa [hkl] at this
          have Hfin := hid (fun (w5 : World) (v' : Value) (o : Obj) (hown : w5.ownsRow (W0.heap.size + 1) 88 2 v' (s + 1) (pairCells (keysF (diag0 s)) ++ [.int .i64 s, .int .i64 s])) (hgrow : (w2.alloc o).grownBy w5 u9.ownBlock) =>
            found_pushed (p := s) (q := s) o B2 P2 g2 (by rw [hkl]; exact hown) hgrow)
          have hw2 := B2.size
          have HP2 := hid (P2'.alloc (.cells #[.int .i64 s, .int .i64 s] 88))
          clear hM hP g1 g2 g3 B2 P2 P2' hB
          go_wp2_with (at_builtin; refine wpList_append_own_at _ rfl _ _ 108 rfl (W0.heap.size + 1) 88 i0 (.agg #[.int .i64 0, .int .i64 0]) 2 16 Tryd.underlying108 hi hz0 hz1 hz2 rfl (by decide) _ _ _ rfl HP2.out ⟨w2.heap.size, 0, none⟩ 1 1 [.int .i64 s, .int .i64 s] rfl rfl (pair_new w2 88 _ _ _ rfl) (by simp [Value.oneCell']) (by unfold maxLen; omega) (by omega) (by simp; omega) ?_; intro v' w5 hown' hgrow' _ hat; have HF := hid (Hfin.out w5 v' _ hown' hgrow'); clear hown' hgrow' hat)
          go_roundw
          case rel =>
            obtain ⟨f1, f2, f3⟩ := HF.out
            refine ⟨s + 1, by omega, by go_num, ?_, ?_, f1⟩
            · rw [diag0_succ]; exact f2
            · rw [diag0_succ, keysF_snoc]; exact f3
          case measure => simp [intOf]; omega
        · obtain rfl : s = m.length := by omega
          have hss : ¬ ((m.length : Nat) : Int) < m.length := by omega
          have HM := hid hM
          have HP := hid hP
          clear hM hP
          go_wp2_with fail
          have hmm60 : m.length * m.length ≤ 3600 := Nat.mul_le_mul (show m.length ≤ 60 by omega) (show m.length ≤ 60 by omega)
          go_loopw [9, 11] (fun fv iv wr => ∃ (i : Nat) (F : List (Nat × Nat × Nat)), i ≤ F.length ∧ iv = .int .i64 (i : Nat) ∧ MB m F i ∧ LMap wr W0.heap.size F ∧ PRow wr (W0.heap.size + 1) fv (keysF F) ∧ Below W0.heap.size W0 wr) (fun _ iv _ => 3600 - (intOf iv).toNat)
          case atStart => exact ⟨0, _, Nat.zero_le _, rfl, MB.start m, HM.out, HP.out, hB⟩
          case round =>
            clear HM HP hB
            obtain ⟨i, F, hi', rfl, hMB, hM, hP, hB⟩ := hrel
            have hFl := hMB.len
            have HM := hid hM
            have HMB := hid hMB
            obtain ⟨fA, fcap, hfv⟩ := ownsRow_slice hP
            rw [keysF_len] at hfv
            subst hfv
            by_cases hil : i < F.length
            · have his : (i : Int) < F.length := by omega
              obtain ⟨e, he⟩ : ∃ e, F[i]? = some e := ⟨_, List.getElem?_eq_getElem hil⟩
              obtain ⟨e1, e2, el⟩ := e
              have hee := hMB.ok _ (List.mem_of_getElem? he)
              simp only at hee
              have hP' := hP
              unfold PRow at hP'
              obtain ⟨g, cg, hgs⟩ := ownsRow_pos' hP' (by rw [keysF_len]; omega)
              simp only [Value.slice.injEq] at hgs
              obtain ⟨rfl, -, rfl⟩ := hgs
              have hc := hP.cell (keysF_get he)
              simp only at hc
              obtain ⟨c1, c2⟩ := hc
              have hGr := HG.out.below hB
              obtain ⟨T0, c0, hm0⟩ := hGr.map
              have hlk := hm0.look Tryd.underlying106 (zeroPairs wr) (p := e1) (q := e2) (by omega) (by omega)
              have hrow := hGr.rows e1 e2
              unfold PRow at hrow
              obtain ⟨LA, lcap, hVs⟩ := ownsRow_slice hrow
              rw [hVs] at hlk hrow
              have Hrow := hid hrow
              have HVs := hid hVs
              have He := hid he
              have HP := hid hP
              have HLd2 := hid (fun x => HLd.out e1 e2 x)
              have hln := HLN.out e1 e2
              clear hVs hrow hm0 hGr hP hP' he hM hMB
              obtain ⟨wo, rfl⟩ : ∃ wo : World, wo = wr := ⟨_, rfl⟩
              go_wp2_with fail
              go_loopw [9, 90] (fun fv kv wr => ∃ (k : Nat) (F : List (Nat × Nat × Nat)), k ≤ (L e1 e2).length ∧ kv = .int .i64 (k : Nat) ∧ MB m F i ∧ F[i]? = some (e1, e2, el) ∧ (∀ j, j < k → ∀ d, (L e1 e2)[j]? = some d → ∃ l, (d.1, d.2, l) ∈ F) ∧ LMap wr W0.heap.size F ∧ PRow wr (W0.heap.size + 1) fv (keysF F) ∧ Below W0.heap.size W0 wr) (fun _ kv _ => (L e1 e2).length - (intOf kv).toNat)
              case atStart => exact ⟨0, F, Nat.zero_le _, rfl, HMB.out, He.out, fun j hj => by omega, HM.out, HP.out, hB⟩
              case round =>
                clear HMB He HM HP hB hlk c1 c2
                obtain ⟨k, F, hk, rfl, hMB, he, hcl, hM, hP, hB⟩ := hrel
                have hFl := hMB.len
                have hil := (List.getElem?_eq_some_iff.1 he).1
                have his : (i : Int) < F.length := by omega
                have hee := hMB.ok _ (List.mem_of_getElem? he)
                simp only at hee
                have hel := mdist_lt hv (by omega) hee.2.1 hee.2.2
                have hP' := hP
                unfold PRow at hP'
                obtain ⟨g, fcap, rfl⟩ := ownsRow_pos' hP' (by rw [keysF_len]; omega)
                rw [keysF_len] at hP hP' ⊢
                have HP := hid hP
                have HMB := hid hMB
                have He := hid he
                have Hcl := hid hcl
                by_cases hkl : k < (L e1 e2).length
                · have hks : (k : Int) < (L e1 e2).length := by omega
                  obtain ⟨d, hd⟩ : ∃ d, (L e1 e2)[k]? = some d := ⟨_, List.getElem?_eq_getElem hkl⟩
                  have hdm := (HLd2.out d).1 (List.mem_of_getElem? hd)
                  obtain ⟨p, q⟩ := d
                  simp only at hdm
                  obtain ⟨hpq, hq, x', hx', hcan⟩ := hdm
                  have hGr := HG.out.below hB
                  have hrow := hGr.rows e1 e2
                  unfold PRow at hrow
                  rw [HVs.out] at hrow
                  obtain ⟨g2, cg2, hgs⟩ := ownsRow_pos' hrow (by omega)
                  simp only [Value.slice.injEq] at hgs
                  obtain ⟨rfl, -, rfl⟩ := hgs
                  have hc := PRow.cell hrow hd
                  simp only at hc
                  obtain ⟨c1, c2⟩ := hc
                  have hMZ : LMap (wr.alloc (.cells #[.int .i64 p, .int .i64 q] 88)) W0.heap.size F := hM.kept (Below.heap_alloc _ _ _ (PMap.lt hM))
                  have hlk := PMap.look_ok hMZ Tryd.underlying82 (zeroInt _) (p := p) (q := q) (by omega) (by omega)
                  have Hd := hid hd
                  clear hrow hGr hd hP' hMB he hcl
                  cases hin : inF F p q with
                  | true =>
                    rw [hin] at hlk
                    have HMZ := hid hMZ
                    have Hin := hid hin
                    have hBZ := bal hB (.cells #[.int .i64 p, .int .i64 q] 88)
                    have HPZ := hid (World.ownsRow.alloc hP (.cells #[.int .i64 p, .int .i64 q] 88))
                    clear hM hMZ hP hin hB HP
                    go_wp2_with fail
                    go_roundw
                    case rel =>
                      refine ⟨k + 1, F, by omega, by go_num, HMB.out, He.out, fun j hj d hd => ?_, HMZ.out, HPZ.out, hBZ⟩
                      by_cases e : j = k
                      · subst e
                        rw [Hd.out] at hd
                        cases hd
                        exact inF_iff.1 Hin.out
                      · exact Hcl.out j (by omega) d hd
                    case measure => simp [intOf]; omega
                  | false =>
                    rw [hin] at hlk
                    have hBZ := bal hB (.cells #[.int .i64 p, .int .i64 q] 88)
                    have hPZ : PRow (wr.alloc (.cells #[.int .i64 p, .int .i64 q] 88)) (W0.heap.size + 1) (.slice (some ⟨g, 0, none⟩) F.length fcap) (keysF F) := World.ownsRow.alloc hP _
                    have k1 : (wr.alloc (.cells #[.int .i64 p, .int .i64 q] 88)).cell? ⟨wr.heap.size, 0, none⟩ = some (.int .i64 p) := new_cell wr #[.int .i64 p, .int .i64 q] 88 0 _ rfl
                    have k2 : (wr.alloc (.cells #[.int .i64 p, .int .i64 q] 88)).cell? ⟨wr.heap.size, 1, none⟩ = some (.int .i64 q) := new_cell wr #[.int .i64 p, .int .i64 q] 88 1 _ rfl
                    have hsz := hB.size
                    have hM1 := PMap.lt hM
                    go_wp2_with fail
                    generalize hWZ : wr.alloc (.cells #[.int .i64 p, .int .i64 q] 88) = Z at *
                    have hMD : LMap Z.drew W0.heap.size F := hMZ
                    have hPD : PRow Z.drew (W0.heap.size + 1) (.slice (some ⟨g, 0, none⟩) F.length fcap) (keysF F) := hPZ
                    have hBD : Below W0.heap.size W0 Z.drew := bdrew hBZ
                    have hlk2 := PMap.look hMD Tryd.underlying82 (zeroInt _) (p := e1) (q := e2) (by omega) (by omega)
                    have hle : lenIn F e1 e2 = el := lenIn_mem HMB.out (List.mem_of_getElem? He.out)
                    rw [hle] at hlk2
                    have hcF := hPD.cell (keysF_get He.out)
                    simp only at hcF
                    obtain ⟨c3, c4⟩ := hcF
                    obtain ⟨w2, g1, g2, g3⟩ := hMD.put (by omega) (p := p) (q := q) (by omega) (by omega) (el + 1) hin
                    have g1' : (Instr.mapUpdate 82 (.map (some W0.heap.size)) (.agg #[.int .i64 p, .int .i64 q]) (.int .i64 ((el : Int) + 1))).run Tryd.prog Z.drew = .ok () w2 := g1
                    obtain ⟨B2, P2⟩ := found_stored hBD hPD g3
                    have hkl2 := keysF_len F
                    have P2' : w2.ownsRow (W0.heap.size + 1) 88 2 (.slice (some ⟨g, 0, none⟩) F.length fcap) F.length (pairCells (keysF F)) := by have := P2; unfold PRow at this; rwa [hkl2] at this
                    have Hfin := hid (fun (w5 : World) (v' : Value) (o : Obj) (hown : w5.ownsRow (W0.heap.size + 1) 88 2 v' (F.length + 1) (pairCells (keysF F) ++ [.int .i64 p, .int .i64 q])) (hgrow : (w2.alloc o).grownBy w5 (Value.slice (some ⟨g, 0, none⟩) F.length fcap).ownBlock) =>
                      found_pushed (p := p) (q := q) o B2 P2 g2 (by rw [hkl2]; exact hown) hgrow)
                    have hw2 := B2.size
                    have HP2 := hid (P2'.alloc (.cells #[.int .i64 p, .int .i64 q] 88))
                    have k3 : w2.cell? ⟨wr.heap.size, 0, none⟩ = some (.int .i64 p) := g3.cell (a := ⟨wr.heap.size, 0, none⟩) k1 (by simp; omega)
                    have k4 : w2.cell? ⟨wr.heap.size, 1, none⟩ = some (.int .i64 q) := g3.cell (a := ⟨wr.heap.size, 1, none⟩) k2 (by simp; omega)
                    have Hadd := hid (MB.add hv HMB.out He.out hpq hq hx' hcan (inF_false hin))
                    simp only at Hadd
                    have c3' := c3
                    have c4' := c4
                    clear hM hMZ hP HP hPZ hMD hPD hBD hBZ g1 g2 g3 B2 P2 P2' hkl2 hle hB hWZ hlk hin hcan c1 c2
                    go_region
                    go_wp2_with (at_builtin; refine wpList_append_own_at _ rfl _ _ 108 rfl (W0.heap.size + 1) 88 i0 (.agg #[.int .i64 0, .int .i64 0]) 2 16 Tryd.underlying108 hi hz0 hz1 hz2 rfl (by decide) _ _ _ rfl HP2.out ⟨w2.heap.size, 0, none⟩ 1 1 [.int .i64 p, .int .i64 q] rfl rfl (pair_new w2 88 _ _ _ rfl) (by simp [Value.oneCell']) (by unfold maxLen; omega) (by omega) (by simp; omega) ?_; intro v' w5 hown' hgrow' _ hat; have HF := hid (Hfin.out w5 v' _ hown' hgrow'); clear hown' hgrow' hat)
                    go_roundw
                    case rel =>
                      obtain ⟨f1, f2, f3⟩ := HF.out
                      refine ⟨k + 1, F ++ [(p, q, el + 1)], by omega, by go_num, Hadd.out, by rw [List.getElem?_append_left hil]; exact He.out, fun j hj d hd => ?_, f2, by rw [keysF_snoc]; exact f3, f1⟩
                      by_cases e : j = k
                      · subst e
                        rw [Hd.out] at hd
                        cases hd
                        exact ⟨el + 1, List.mem_append_right _ (by simp)⟩
                      · obtain ⟨l, hl⟩ := Hcl.out j (by omega) d hd
                        exact ⟨l, List.mem_append_left _ hl⟩
                    case measure => simp [intOf]; omega
                · obtain rfl : k = (L e1 e2).length := by omega
                  have hks : ¬ (((L e1 e2).length : Nat) : Int) < (L e1 e2).length := by omega
                  have HM := hid hM
                  clear hM hP hP' hMB he hcl
                  go_wp2_with fail
                  go_roundw
                  case rel =>
                    refine ⟨i + 1, F, by omega, by go_num, HMB.out.next He.out fun p q x a1 a2 a3 a4 => ?_, HM.out, HP.out, hB⟩
                    have hmem := (HLd2.out (p, q)).2 ⟨a1, a2, x, a3, a4⟩
                    obtain ⟨j, hj, hje⟩ := List.mem_iff_getElem.1 hmem
                    exact Hcl.out j hj (p, q) (by rw [List.getElem?_eq_getElem hj, hje])
                  case measure => simp [intOf]; omega
            · obtain rfl : i = F.length := by omega
              have his : ¬ ((F.length : Nat) : Int) < F.length := by omega
              have HLM := hid (LMap.done hv p2 hM hMB)
              have HBB := hid ((HB.out).trans (hB.mono HB.out.size))
              clear hM hMB hP
              go_wp2_with fail
              go_ret
              exact ⟨_, rfl, HLM.out, HBB.out⟩
end Go.Proofs.YtlpfglkopnmlnaaDoor
namespace Go.Proofs.YtlpfglkopnmlnaaDoor
open Go.RowKit Go.Shelf
/-- How many elements a slice has. -/
def sliceLen : Value → Nat
  | .slice _ n _ => n
  | _ => 0
theorem LenMap.find {m : List (List Int)} {w : World} {B : Nat} (hv : validM m = true) (hL : LenMap m w B) {p q r : Nat} (hpq : p ≤ q) (hq : q < m.length) (hd : mdist m p q r) :
    (Instr.lookup 82 (.map (some B)) (.agg #[.int .i64 p, .int .i64 q]) false).run Tryd.prog w = .ok (.int .i64 r) w := by
  obtain ⟨p1, p2, -⟩ := valid_parts hv
  obtain ⟨n, V, T, c, h1, h2, -⟩ := hL
  rw [h1.look Tryd.underlying82 (zeroInt _) (p := p) (q := q) (by omega) (by omega), (h2 p q hpq hq).1]
  have := mlen_of hv (by omega) hq hd
  rw [len0, this, if_pos (by omega)]
theorem LenMap.ask {m : List (List Int)} {w : World} {B : Nat} (hv : validM m = true) (hL : LenMap m w B) {p q : Nat} (hpq : p ≤ q) (hq : q < m.length) :
    (Instr.lookup 82 (.map (some B)) (.agg #[.int .i64 p, .int .i64 q]) true).run Tryd.prog w = .ok (.tuple #[.int .i64 (len0 m p q), .bool (decide (0 ≤ mlen m p q))]) w := by
  obtain ⟨p1, p2, -⟩ := valid_parts hv
  obtain ⟨n, V, T, c, h1, h2, -⟩ := hL
  rw [h1.look_ok Tryd.underlying82 (zeroInt _) (p := p) (q := q) (by omega) (by omega), (h2 p q hpq hq).1, (h2 p q hpq hq).2]
theorem one_new (w : World) (t : TypeId) (u : Value) (B : Nat) (hB : w.heap.size = B) : ∀ k x, [u][k]? = some x → (w.alloc (.cells #[u] t)).cell? ((⟨B, 0, none⟩ : Addr).add k) = some x := by
  subst hB
  exact cell_one_new w u t
theorem BZ_block {wo Z : World} (h : Below wo.heap.size wo Z) {base : Nat} {e : TypeId} {s n : Nat} {v : Value} {xs : List Value} (hO : wo.ownsRow base e s v n xs) {g : Nat} (hg : v.ownBlock = some g) : Z.heap[g]? = wo.heap[g]? := h.block g (hO.lt g hg).2
/-- Behind the append to the word. -/
theorem merger_grown {w wo Z w5 : World} {sv bx u1 u2 : Value} {a b n N : Nat} {t tE : TypeId} {xs : List Value} (o : Obj) (hO : wo.ownsRow (w.heap.size + 1 + 1) tE 1 sv n xs) (hBZ : Below wo.heap.size wo Z) (hBwZ : Below w.heap.size w Z)
    (hpb : Z.heap[w.heap.size + 1]? = some (.cells #[.int .i64 a, .int .i64 b] t (0, 0))) (hbx : Z.cell? ⟨w.heap.size, 0, none⟩ = some bx) (hnew : Z.heap[N]? = some (.cells #[u1, u2] t (0, 0))) (hN : wo.heap.size ≤ N) (hgrow : (Z.alloc o).grownBy w5 sv.ownBlock) :
    w5.heap[N]? = some (.cells #[u1, u2] t (0, 0)) ∧ w5.heap[w.heap.size + 1]? = some (.cells #[.int .i64 a, .int .i64 b] t (0, 0)) ∧ w5.cell? ⟨w.heap.size, 0, none⟩ = some bx ∧ Below w.heap.size w w5 := by
  have hlt := fun k hk => hO.lt k hk
  have k1 := (Array.getElem?_eq_some_iff.1 hnew).1
  have k2 := (Array.getElem?_eq_some_iff.1 hpb).1
  have k3 := World.block_lt_of_cell? _ _ hbx
  simp only at k3
  refine ⟨?_, ?_, ?_, ?_⟩
  · rw [hgrow.block N (by simp; omega) (fun e => by have := (hlt _ e.symm).2; omega), Below.heap_alloc _ _ _ k1, hnew]
  · rw [hgrow.block (w.heap.size + 1) (by simp; omega) (fun e => by have := (hlt _ e.symm).1; omega), Below.heap_alloc _ _ _ k2, hpb]
  · exact (World.cell?_of_block (a := ⟨w.heap.size, 0, none⟩) ((hgrow.block w.heap.size (by simp; omega) (fun e => by have := (hlt _ e.symm).1; omega)).trans (Below.heap_alloc _ _ _ k3))).trans hbx
  · exact (bal hBwZ o).grown hgrow (by have := hBwZ.size; simp; omega) (fun k hk => by have := (hlt k hk).1; omega)
/-- .. and behind the store of the pair. -/
theorem merger_stored {w w5 : World} {v' bx : Value} {a b i j n : Nat} {t tE : TypeId} {xs : List Value} (hown : w5.ownsRow (w.heap.size + 1 + 1) tE 1 v' n xs) (hpb : w5.heap[w.heap.size + 1]? = some (.cells #[.int .i64 a, .int .i64 b] t (0, 0))) (hbx : w5.cell? ⟨w.heap.size, 0, none⟩ = some bx) (hB : Below w.heap.size w w5) :
    ∀ w6, w6 = (w5.setCell ⟨w.heap.size + 1, 0, none⟩ (.int .i64 i)).setCell ⟨w.heap.size + 1, 1, none⟩ (.int .i64 j) →
    w6.ownsRow (w.heap.size + 1 + 1) tE 1 v' n xs ∧ Below w.heap.size w w6 ∧ w6.cell? ⟨w.heap.size, 0, none⟩ = some bx ∧ w6.heap[w.heap.size + 1]? = some (.cells #[.int .i64 i, .int .i64 j] t (0, 0)) ∧ w6.heap.size = w5.heap.size := by
  rintro w6 rfl
  refine ⟨ownsRow_same hown fun g hg => ?_, ?_, ?_, pair_stored hpb _ _, by simp [World.setCell]⟩
  · have := (hown.lt g hg).1
    rw [Below.heap_setCell _ _ _ _ (by show g ≠ w.heap.size + 1; omega), Below.heap_setCell _ _ _ _ (by show g ≠ w.heap.size + 1; omega)]
  · exact (hB.setCell (p := ⟨w.heap.size + 1, 0, none⟩) (by show w.heap.size ≤ w.heap.size + 1; omega) _).setCell (p := ⟨w.heap.size + 1, 1, none⟩) (by show w.heap.size ≤ w.heap.size + 1; omega) _
  · refine (World.cell?_of_block (a := ⟨w.heap.size, 0, none⟩) ?_).trans hbx
    rw [Below.heap_setCell _ _ _ _ (by show w.heap.size ≠ w.heap.size + 1; omega), Below.heap_setCell _ _ _ _ (by show w.heap.size ≠ w.heap.size + 1; omega)]
theorem infoIntE : (Tryd.prog.info? 3).map (fun i => (i.zero, i.size, i.bytes)) = some (some (.int .i64 0), 1, 8) := by kernel_rfl
set_option maxRecDepth 100000 in
set_option maxHeartbeats 8000000 in
theorem merger_any (v : Value) (m : List (List Int)) (p q j B : Nat) (w : World) (h : Rows w v m) (hv : validM m = true) (hpq : p ≤ q) (hq : q < m.length) (hd : mdist m p q j) (hL : LenMap m w B) :
    Calls Tryd.prog 68 #[.agg #[v], .map (some B), .agg #[.int .i64 p, .int .i64 q]] w fun e w' => ∃ r, e = .returned r ∧ w'.ownsRow w.heap.size 3 1 r j ((mW m j p q).map fun x => .int .i64 x) ∧ Below w.heap.size w w' := by
  obtain ⟨i0, hi, hz0, hz1, hz2⟩ := info_parts infoIntE
  obtain ⟨p1, p2, p3, p4, p5⟩ := valid_parts hv
  obtain ⟨A, cap, rfl, hml, hcm⟩ := id h
  have Hcm := hid hcm
  have Hp5 := hid p5
  have hX := bal (bal (Below.refl _ w) (.cells #[.slice A m.length cap] 24)) (.cells #[.int .i64 p, .int .i64 q] 88)
  have hbx := (Boxed.new w 24 (.slice A m.length cap)).cell
  have hbx1 := ((bal (Below.refl _ _) (.cells #[.int .i64 p, .int .i64 q] 88)).cell (p := ⟨w.heap.size, 0, none⟩) (World.block_lt_of_cell? _ _ hbx)).trans hbx
  have hpb : ((w.alloc (.cells #[.slice A m.length cap] 24)).alloc (.cells #[.int .i64 p, .int .i64 q] 88)).heap[w.heap.size + 1]? = some (.cells #[.int .i64 p, .int .i64 q] 88 (0, 0)) := by
    have := World.alloc_heap_new (w.alloc (.cells #[.slice A m.length cap] 24)) (.cells #[.int .i64 p, .int .i64 q] 88)
    rwa [World.size_alloc] at this
  have hj := mdist_lt hv (by omega) hq hd
  have hmm60 : m.length * m.length ≤ 3600 := Nat.mul_le_mul (show m.length ≤ 60 by omega) (show m.length ≤ 60 by omega)
  have Hd := hid hd
  have hBl : B < w.heap.size := by
    obtain ⟨n, V, T, c, h1, -⟩ := hL
    exact PMap.lt h1
  clear p5 hcm hbx hd
  go_enter Tryd.func68, Tryd.ntmps68
  go_wp2_with fail
  generalize hWX : (w.alloc (.cells #[.slice A m.length cap] 24)).alloc (.cells #[.int .i64 p, .int .i64 q] 88) = X at *
  have hXs : X.heap.size = w.heap.size + 1 + 1 := by rw [← hWX]; simp
  clear hWX
  go_loopw [7] (fun sv wr => ∃ (a b r : Nat) (pre : List Int), a ≤ b ∧ b < m.length ∧ mdist m a b r ∧ mW m j p q = pre ++ mW m r a b ∧ pre.length + r = j ∧ wr.ownsRow (w.heap.size + 1 + 1) 3 1 sv pre.length (pre.map fun x => .int .i64 x) ∧ Below w.heap.size w wr ∧ wr.cell? ⟨w.heap.size, 0, none⟩ = some (.slice A m.length cap) ∧ wr.heap[w.heap.size + 1]? = some (.cells #[.int .i64 a, .int .i64 b] 88 (0, 0)) ∧ w.heap.size + 1 + 1 ≤ wr.heap.size) (fun sv _ => j - sliceLen sv)
  case atStart => exact ⟨p, q, j, [], hpq, hq, Hd.out, rfl, by simp, World.ownsRow_nil _ _ _ _, hX, hbx1, hpb, by omega⟩
  case round =>
    clear hpb hX hbx1 hXs
    obtain ⟨a, b, r, pre, hab, hb, hd, hmw, hpl, hO, hB, hbx, hpb, hsz⟩ := hrel
    obtain ⟨c1, c2, f1, f2⟩ := pair_block hpb
    have hLr := hL.below hB
    have hlk := hLr.find hv hab hb hd
    have Hmw := hid hmw
    have Hd0 := hid hd
    have Hpb := hid hpb
    obtain ⟨sA, scap, rfl⟩ := ownsRow_slice hO
    have HO := hid hO
    have hpl2 := hid hpl
    have hprj : pre.length ≤ 3600 := by omega
    have hrj : r ≤ 3600 := by omega
    have hlenr := mlen_of hv (by omega) hb hd
    by_cases hr : r = 0
    · subst hr
      have HR := hid (show wr.ownsRow w.heap.size 3 1 (.slice sA pre.length scap) j ((mW m j p q).map fun x => .int .i64 x) from by
        rw [Hmw.out, show mW m 0 a b = [] from rfl, List.append_nil]
        have e : pre.length = j := by have := hpl2.out; omega
        rw [← e]
        exact row_mono hO (by omega))
      clear hmw hd hpl hpb hO hlenr
      go_wp2_with fail
      go_ret
      exact ⟨_, rfl, HR.out, hB⟩
    · have hr0 : (0 : Int) < r := by omega
      obtain ⟨b1, o1, r1, hA, hcell, hrow⟩ := Hcm.out a (by omega)
      subst hA
      have hrl := (Hp5.out a (by omega)).1
      obtain ⟨Ar, capr, rfl, -, -⟩ := id hrow
      rw [hrl] at hcell
      have hcellr := (hB.cell (p := ⟨b1, o1 + a, none⟩) (World.block_lt_of_cell? _ _ hcell)).trans hcell
      have has : (a : Int) < m.length := by omega
      obtain ⟨r', rfl⟩ : ∃ r', r = r' + 1 := ⟨r - 1, by omega⟩
      have hmX := mX_spec hv (by omega) hb hd
      obtain ⟨x1, x2, x3, x4⟩ := hmX
      have X2 := hid x2
      have X3 := hid x3
      have X4 := hid x4
      have hms : mW m (r' + 1) a b = (mX m a b : Int) :: mW m r' (nx m a (mX m a b : Int)) (nx m b (mX m a b : Int)) := rfl
      have Hms := hid hms
      have Hlenr := hid hlenr
      have hBr0 := hid hB
      clear hmw hd hpl hpb hO hrow hcell x2 x3 x4 hms hlenr
      obtain ⟨wo, rfl⟩ : ∃ wo : World, wo = wr := ⟨_, rfl⟩
      go_wp2_with fail
      go_loopw [7, 23] (fun sv xv wr => ∃ x : Nat, x ≤ mX m a b ∧ xv = .int .i64 (x : Nat) ∧ sv = .slice sA pre.length scap ∧ Below wo.heap.size wo wr) (fun _ xv _ => letters m - (intOf xv).toNat)
      case atStart => exact ⟨0, Nat.zero_le _, rfl, rfl, Below.refl _ _⟩
      case round =>
        obtain ⟨x, hx, rfl, rfl, hBi⟩ := hrel
        have hxl : x < letters m := by omega
        have hxs : (x : Int) < letters m := by omega
        have hBw := btr hB hBi
        have hHb := h.below hBw
        have hbx2 := (hBi.cell (p := ⟨w.heap.size, 0, none⟩) (World.block_lt_of_cell? _ _ hbx)).trans hbx
        have hpb2 := (hBi.block _ (Array.getElem?_eq_some_iff.1 Hpb.out).1).trans Hpb.out
        obtain ⟨d1, d2, f3, f4⟩ := pair_block hpb2
        obtain ⟨hn1, -⟩ := nx_ok hv (s := a) (by omega) (x := (x : Int)) (by omega) (by omega)
        obtain ⟨hn2, -⟩ := nx_ok hv (s := b) hb (x := (x : Int)) (by omega) (by omega)
        have Hpb2 := hid hpb2
        have hLi := hLr.below hBi
        have hszi := hBi.size
        clear hbx hpb2 c1 c2 f1 f2 hcellr hlk
        go_wp2_with fail
        refine (lead_pair _ m a b x _ hHb hv (by omega) hb hxl).mono ?_
        rintro e y1 ⟨rfl, hy1⟩
        have hcl := canon_le (nx m a (x : Int)) (nx m b (x : Int))
        have hct := canon_lt hn1 hn2
        have hml2 := mlen_canon hv hn1 hn2
        have hmw2 := fun (j : Nat) (hd : mdist m (nx m a (x : Int)) (nx m b (x : Int)) j) => mW_canon hv hn1 hn2 hd
        have hcd := fun (k : Nat) => canon_mdist (m := m) (p := nx m a (x : Int)) (q := nx m b (x : Int)) (k := k)
        obtain ⟨i, j', hij⟩ : ∃ i j', canon (nx m a (x : Int)) (nx m b (x : Int)) = (i, j') := ⟨_, _, rfl⟩
        simp only [hij] at hcl hct hml2 hmw2 hcd ⊢
        clear hij
        have hZ : Below wr.heap.size wr (y1.alloc (.cells #[.int .i64 i, .int .i64 j'] 88)) := bal hy1 _
        have e1 := (hZ.cell (p := ⟨w.heap.size, 0, none⟩) (World.block_lt_of_cell? _ _ hbx2)).trans hbx2
        have hpbZ := (hZ.block _ (Array.getElem?_eq_some_iff.1 Hpb2.out).1).trans Hpb2.out
        obtain ⟨g1, g2, g3, g4⟩ := pair_block hpbZ
        have hLZ := hLi.below hZ
        have hask := hLZ.ask hv hcl hct
        have hfind := hLZ.find hv hab hb Hd0.out
        have hy1s := hy1.size
        have hBZ := hid (btr hBi hZ)
        have hBwZ := hid (btr hBw hZ)
        have HpbZ := hid hpbZ
        have Hml2 := hid hml2
        have Hmw2 := hid hmw2
        have Hcd := hid hcd
        clear hbx2 hZ hpbZ hLZ hy1 hLi hHb d1 d2 f3 f4 hml2 hmw2 hcd hBi hBw
        by_cases hxe : x = mX m a b
        · have hml : mlen m i j' = (r' : Int) := by
            have := X3.out
            rw [← hxe] at this
            rw [Hml2.out, this, Hlenr.out]
            omega
          rw [show decide (0 ≤ mlen m i j') = true from decide_eq_true (by omega), show len0 m i j' = (r' : Int) from by rw [len0, hml, if_pos (by omega)]] at hask
          have Hxe := hid hxe
          clear hml hxe
          have hnew : (y1.alloc (.cells #[.int .i64 i, .int .i64 j'] 88)).heap[y1.heap.size]? = some (.cells #[.int .i64 i, .int .i64 j'] 88 (0, 0)) := World.alloc_heap_new _ _
          have hOZ := hid ((ownsRow_same HO.out fun g hg => BZ_block hBZ.out HO.out hg).alloc (.cells #[.int .i64 x] 3))
          have hszw := hid (show wo.heap.size ≤ y1.heap.size by omega)
          have Hgr := hid (fun (w5 : World) (o : Obj) (hgrow : ((y1.alloc (.cells #[.int .i64 i, .int .i64 j'] 88)).alloc o).grownBy w5 (Value.slice sA pre.length scap).ownBlock) => merger_grown o HO.out hBZ.out hBwZ.out HpbZ.out e1 hnew hszw.out hgrow)
          go_wp2_with (at_builtin; refine wpList_append_own_at _ rfl _ _ 41 rfl (w.heap.size + 1 + 1) 3 i0 (.int .i64 0) 1 8 Tryd.underlying41 hi hz0 hz1 hz2 rfl (by decide) _ _ _ rfl hOZ.out ⟨y1.heap.size + 1, 0, none⟩ 1 1 [.int .i64 x] rfl rfl (one_new _ _ _ _ (World.size_alloc _ _)) (by simp [Value.oneCell']) (by unfold maxLen; omega) (by omega) (by simp; omega) ?_; intro v' w5 hown' hgrow' _ hat; obtain ⟨vA, vcap, rfl⟩ := ownsRow_slice hown'; obtain ⟨q1, q2, q3, q4⟩ := Hgr.out w5 _ hgrow'; obtain ⟨s1, s2, -, -⟩ := pair_block q1; obtain ⟨s3, s4, s5, s6⟩ := pair_block q2; have HS := hid (merger_stored (i := i) (j := j') hown' q2 q3 q4); have hgs := hgrow'.size; simp only [World.size_alloc] at hgs; clear q1 q2 q3 q4 hown' hgrow' hat)
          generalize hW6 : (w5.setCell ⟨w.heap.size + 1, 0, none⟩ (.int .i64 i)).setCell ⟨w.heap.size + 1, 1, none⟩ (.int .i64 j') = w6
          obtain ⟨t1, t2, t3, t4, t5⟩ := HS.out w6 hW6.symm
          have T1 := hid t1
          have T4 := hid t4
          clear t1 t4 hW6 HS s1 s2 s3 s4 s5 s6
          go_roundw
          case rel =>
            refine ⟨i, j', r', pre ++ [(x : Int)], hcl, hct, (Hcd.out _).2 (by rw [Hxe.out]; exact X2.out), ?_, by have := hpl2.out; rw [List.length_append, List.length_singleton]; omega, ?_, t2, t3, T4.out, by omega⟩
            · rw [Hmw.out, Hms.out, ← Hxe.out, List.append_assoc, Hmw2.out r' (by rw [Hxe.out]; exact X2.out)]
              rfl
            · rw [List.length_append, List.map_append]
              exact T1.out
          case measure => have := hpl2.out; simp [sliceLen]; omega
        · have hlt : x < mX m a b := by omega
          have hne : mlen m i j' ≠ (r' : Int) := by
            have := X4.out x hlt
            rw [Hlenr.out] at this
            rw [Hml2.out]
            omega
          have hrg := mlenAt_range m (m.length * m.length) i j'
          have hsp : mlen m i j' = -1 ∨ ∃ t : Nat, mlen m i j' = (t : Int) ∧ t ≠ r' ∧ t ≤ 3600 := by
            rcases mlen_spec hv (p := i) (q := j') (by omega) hct with ⟨h1, _⟩ | ⟨t, h1, h2, _⟩
            · exact .inl h1
            · exact .inr ⟨t, h2, by omega, by omega⟩
          clear hne hrg hxe
          rcases hsp with hm1 | ⟨t, hm1, htr, ht⟩
          · rw [show decide (0 ≤ mlen m i j') = false from decide_eq_false (by omega)] at hask
            have Hm1 := hid hm1
            clear hm1
            generalize len0 m i j' = z at *
            go_wp2_with fail
            go_roundw
            case rel => exact ⟨x + 1, by omega, by go_num, rfl, hBZ.out⟩
            case measure => simp [intOf]; omega
          · rw [show decide (0 ≤ mlen m i j') = true from decide_eq_true (by omega), show len0 m i j' = (t : Int) from by rw [len0, hm1, if_pos (by omega)]] at hask
            have hne : ((t : Int) == (r' : Int)) = false := by rw [beq_eq_false_iff_ne]; omega
            clear hm1
            go_wp2_with fail
            go_roundw
            case rel => exact ⟨x + 1, by omega, by go_num, rfl, hBZ.out⟩
            case measure => simp [intOf]; omega
end Go.Proofs.YtlpfglkopnmlnaaDoor
namespace Go.Proofs.YtlpfglkopnmlnaaDoor
open Go.RowKit Go.Shelf
/-- A word of the call's own, and no error. -/
def WordIs (w : World) (u : List Int) (e : Ending) (w' : World) : Prop := ∃ r, e = .returned (.tuple #[r, .int .i64 0]) ∧ w'.ownsRow w.heap.size 3 1 r u.length (u.map fun x => .int .i64 x) ∧ Below w.heap.size w w'
end Go.Proofs.YtlpfglkopnmlnaaDoor
namespace Go.Proofs.YtlpfglkopnmlnaaDoor
open Go.RowKit Go.Shelf
/-- THE STATEMENT 'for .. := range f { .. }' within a round of loop l₀. -/
theorem range_law_in {α : Type} {g : Operand} {ps : Array Tmp} {assign body : Code} {Q : Exit → Act → World → Prop} {a : Act} {w : World} {gf l₀ : Nat} {fb lb : Array Value} (hl₀ : ∃ r₀, w.heap[l₀]? = some (.loop r₀))
    (hg : a.eval g = .func (.func gf) fb lb) (eg : ∀ args w, (callFunc gf args).run Tryd.prog w = .ok (.enter gf args) w)
    {encs : α → Array Value} {n₀ : Nat} {G : Blocks → α → World → Prop} {S Sp : List α → Prop} {w0 : World} (hseq : SeqX gf fb lb encs n₀ G S Sp w0)
    (hG : ∀ X x W W', G X x W → Keep n₀ X W W' → G X x W') (hn : n₀ ≤ w.heap.size) (hb0 : Below w0.heap.size w0 w) (hps : ∀ x, (encs x).size = ps.size)
    (I : Blocks → List α → World → Prop) (Ix : Code → Blocks → List α → World → Prop) (hI : Stable w.heap.size I) (hIx : ∀ c, Stable w.heap.size (Ix c)) (h0 : I (fun _ => False) [] w)
    (Ax : α → Act → World → Prop) (hAx : ∀ x a', Stable w.heap.size (fun _ (_ : Unit) W => Ax x a' W))
    (hassign : ∀ (l : Nat) (X : Blocks) (pre : List α) (x : α) (W : World) (K : Act → World → Prop), I X pre W → (∀ a' W', KeepsFrom w.heap.size W W' → Keep n₀ X W W' → I X pre W' → Ax x a' W' → K a' W') →
      assign.wpIn (Fence.wide.inRound l) 0 Tryd.prog (Exit.then K (fun _ _ _ => False)) { tmps := (ps.zip (encs x)).foldl (fun t (p, v) => t.setIfInBounds p v) a.tmps, defers := [] } W)
    (hbody : ∀ (l : Nat) (X : Blocks) (pre : List α) (x : α) (a' : Act) (W : World), w.heap.size ≤ l → (∃ r, W.heap[l]? = some (.loop r)) → ¬ X l → (∀ k, X k → k < W.heap.size) → I X pre W → G X x W → Ax x a' W → Sp (pre ++ [x]) →
      body.wpIn (Fence.wide.inRound l) 0 Tryd.prog (postX w.heap.size n₀ I Ix X (pre ++ [x]) W) a' W)
    (hdone : ∀ (X : Blocks) (xs : List α) (W : World), S xs → I X xs W → Q .normal a W)
    (hstop : ∀ (X : Blocks) (c : Code) (pre : List α) (W : World), Sp pre → Ix c X pre W → c.wpIn (Fence.wide.inRound l₀) 0 Tryd.prog Q a W) :
    (Code.rangeFunc g ps assign body).wpIn (Fence.wide.inRound l₀) 0 Tryd.prog Q a w := by
  refine wpIn_rangeFunc ?_
  intro fn hfn
  obtain ⟨r₀, hr₀⟩ := hl₀
  obtain ⟨rec, hrec⟩ : ∃ rec : LoopState → Option Code → Loop, rec = fun st pe => { state := st, pending := pe, fn, tmps := a.tmps, params := ps, assign, body, defers := r₀.defers } := ⟨_, rfl⟩
  obtain ⟨W1, hW1⟩ : ∃ W1, w.alloc (.loop (rec .ready none)) = W1 := ⟨_, rfl⟩
  have hL1 : W1.heap[w.heap.size]? = some (.loop (rec .ready none)) := by rw [← hW1]; exact World.alloc_heap_new w _
  have hI1 : I (fun _ => False) [] W1 := by rw [← hW1]; exact hI.new _ h0
  have hb1 : Below w0.heap.size w0 W1 := by
    rw [← hW1]; exact hb0.trans (((Below.refl _ w).alloc (Nat.le_refl _) _).mono hb0.size)
  refine ⟨w.heap.size, [], W1, { target := .fn (.func gf) lb, args := fb ++ #[.func (.yield w.heap.size) #[] #[]] }, W1, gf,
    (fb ++ #[.func (.yield w.heap.size) #[] #[]]) ++ lb, W1, ?_, ?_, fun f' _ => trivial, ?_, fun h => by simp [Fence.wide, Fence.inRound] at h, ?_⟩
  · rw [← hW1, hrec]; exact run_enterLoop_inner hr₀ _ _ _ _ _
  · simp only [resolve, hg]
    simp [go_sem, Deferred.ofValue]
  · simp [invoke, go_sem, eg]
  · refine CallsIn.inRound l₀ (callsIn_wide.2 ?_)
    refine (hseq w.heap.size
      (fun X pre W => I X pre W ∧ ¬ X w.heap.size ∧ W.heap[w.heap.size]? = some (.loop (rec .ready none)))
      (fun X pre W => ∃ c, Ix c X pre W ∧ ¬ X w.heap.size ∧ W.heap[w.heap.size]? = some (.loop (rec .done (some c))))
      W1 hb1 ?_ ?_ ?_ ⟨hI1, fun h => h, hL1⟩).mono ?_
    · rintro X X' s A B ⟨h1, h2, h4⟩ ht hX
      have l4 := (Array.getElem?_eq_some_iff.1 h4).1
      refine ⟨hI X X' s A B h1 ht.os ht.tape ht.output ht.size (fun k o hk hx _ => (ht.block k (Array.getElem?_eq_some_iff.1 hk).1 hx).trans hk) hX, fun h => ?_, (ht.block _ l4 h2).trans h4⟩
      · rcases hX _ h with h | h
        · exact h2 h
        · omega
    · rintro X X' s A B ⟨c, h1, h2, h4⟩ ht hX
      have l4 := (Array.getElem?_eq_some_iff.1 h4).1
      refine ⟨c, hIx c X X' s A B h1 ht.os ht.tape ht.output ht.size (fun k o hk hx _ => (ht.block k (Array.getElem?_eq_some_iff.1 hk).1 hx).trans hk) hX, fun h => ?_, (ht.block _ l4 h2).trans h4⟩
      · rcases hX _ h with h | h
        · exact h2 h
        · omega
    · -- one round
      rintro X pre x W hXs ⟨hi, hXl, hl⟩ hgx hsp
      have hy := run_yield (P := Tryd.prog) (args := encs x) hl (by rw [hrec]; exact hps x)
      rw [hrec] at hy
      refine ⟨fn, _, assign, body, hy, roundIn_of_wpIn trivial (hassign _ X pre x W _ hi ?_)⟩
      clear hy
      intro a' Wa hkfa hkpa hia hax
      have hl' := hkfa.same _ _ (Nat.le_refl _) hl rfl
      have hlt := (Array.getElem?_eq_some_iff.1 hl').1
      refine ⟨_, run_beginRound hl' (by rw [hrec]), ?_⟩
      have hl2 : (Wa.putObj w.heap.size (.loop { rec .ready none with state := .busy })).heap[w.heap.size]? = some (.loop { rec .ready none with state := .busy }) := World.putObj_heap_same hlt
      have hkp2 : Keep n₀ X Wa (Wa.putObj w.heap.size (.loop { rec .ready none with state := .busy })) := keep_put _ (by omega) hXl
      refine wpIn_mono (hbody _ X pre x a' _ (Nat.le_refl _) ⟨_, hl2⟩ hXl (fun k hk => by have h1 := hXs k hk; have h2 := hkpa.size; simp; omega) (hI.put _ hia (Nat.le_refl _) hl' rfl) (hG _ _ _ _ hgx (hkpa.trans hkp2)) ((hAx x a').put (X := X) (s := ()) _ hax (Nat.le_refl _) hl' rfl) hsp) ?_
      have fin : ∀ (jump : Option Code) (W3 : World), KeepsFrom w.heap.size (Wa.putObj w.heap.size (.loop { rec .ready none with state := .busy })) W3 →
          (Instr.endRound w.heap.size jump).run Tryd.prog W3 = .ok (.bool jump.isNone) (W3.putObj w.heap.size (.loop (rec (if jump.isNone then .ready else .done) jump))) ∧
          W3.heap[w.heap.size]? = some (.loop { rec .ready none with state := .busy }) ∧
          (W3.putObj w.heap.size (.loop (rec (if jump.isNone then .ready else .done) jump))).heap[w.heap.size]? = some (.loop (rec (if jump.isNone then .ready else .done) jump)) := fun jump W3 hk3 => by
        have hl3 := hk3.same _ _ (Nat.le_refl _) hl2 rfl
        have := run_endRound (P := Tryd.prog) jump hl3
        rw [hrec] at this ⊢
        exact ⟨this, by rw [hrec] at hl3; exact hl3, World.putObj_heap_same (Array.getElem?_eq_some_iff.1 hl3).1⟩
      have kp : ∀ (W3 : World) (o : Obj), Keep n₀ X (Wa.putObj w.heap.size (.loop { rec .ready none with state := .busy })) W3 → Keep n₀ X W (W3.putObj w.heap.size o) := fun W3 o h3 =>
        ((hkpa.trans hkp2).trans h3).trans (keep_put _ (by omega) hXl)
      rintro e a3 W3 hp
      cases e with
      | normal =>
        obtain ⟨hk3, hkp3, hi3⟩ := hp
        obtain ⟨hr, hl3, hl4⟩ := fin none W3 hk3
        exact ⟨_, _, hr, .inl ⟨rfl, hI.put _ hi3 (Nat.le_refl _) hl3 rfl, hXl, hl4⟩, kp _ _ hkp3⟩
      | ret =>
        obtain ⟨hk3, hkp3, hi3⟩ := hp
        obtain ⟨hr, hl3, hl4⟩ := fin (some .ret) W3 hk3
        exact ⟨_, _, hr, .inr ⟨rfl, .ret, (hIx _).put _ hi3 (Nat.le_refl _) hl3 rfl, hXl, hl4⟩, kp _ _ hkp3⟩
      | exit id =>
        obtain ⟨hk3, hkp3, hi3⟩ := hp
        obtain ⟨hr, hl3, hl4⟩ := fin (some (.exit id)) W3 hk3
        exact ⟨_, _, hr, .inr ⟨rfl, .exit id, (hIx _).put _ hi3 (Nat.le_refl _) hl3 rfl, hXl, hl4⟩, kp _ _ hkp3⟩
      | goto t =>
        obtain ⟨hk3, hkp3, hi3⟩ := hp
        obtain ⟨hr, hl3, hl4⟩ := fin (some (.goto t)) W3 hk3
        exact ⟨_, _, hr, .inr ⟨rfl, .goto t, (hIx _).put _ hi3 (Nat.le_refl _) hl3 rfl, hXl, hl4⟩, kp _ _ hkp3⟩
      | panic ch => exact hp.elim
      | outgrown => exact hp.elim
    · -- behind the iterator
      rintro e W2 ⟨⟨v, rfl⟩, (⟨X, xs, hS, hi, _, hl⟩ | ⟨X, pre, hSp, c, hi, _, hl⟩)⟩
      · exact ⟨none, _, by have := run_endLoop (P := Tryd.prog) hl (by rw [hrec]; simp); rw [hrec] at this; exact this, hdone X xs _ hS (hI.put _ hi (Nat.le_refl _) hl rfl)⟩
      · exact ⟨some c, _, by have := run_endLoop (P := Tryd.prog) hl (by rw [hrec]; simp); rw [hrec] at this; exact this, hstop X c pre _ hSp ((hIx c).put _ hi (Nat.le_refl _) hl rfl)⟩
/-- THE STATEMENT 'for .. := range f { .. }' whose variable lies in a box of its own. -/
theorem range_law2 {α : Type} {g : Operand} {ps : Array Tmp} {assign body : Code} {Q : Exit → Act → World → Prop} {a : Act} {w : World} {gf : Nat} {fb lb : Array Value}
    (hg : a.eval g = .func (.func gf) fb lb) (eg : ∀ args w, (callFunc gf args).run Tryd.prog w = .ok (.enter gf args) w)
    {encs : α → Array Value} {n₀ : Nat} {G : Blocks → α → World → Prop} {S Sp : List α → Prop} {w0 : World} (hseq : SeqX gf fb lb encs n₀ G S Sp w0)
    (hG : ∀ X x W W', G X x W → Keep n₀ X W W' → G X x W') (hn : n₀ ≤ w.heap.size) (hb0 : Below w0.heap.size w0 w) (hps : ∀ x, (encs x).size = ps.size)
    (I : Blocks → List α → World → Prop) (Ix : Code → Blocks → List α → World → Prop) (hI : Stable w.heap.size I) (hIx : ∀ c, Stable w.heap.size (Ix c)) (h0 : I (fun _ => False) [] w)
    (Ax : Blocks → α → Act → World → Prop) (hAx : ∀ X x a' W l o o', Ax X x a' W → w.heap.size ≤ l → W.heap[l]? = some o → o.isCells = false → Ax X x a' (W.putObj l o'))
    (hassign : ∀ (l : Nat) (X : Blocks) (pre : List α) (x : α) (W : World) (K : Act → World → Prop), (∀ k, X k → k < W.heap.size) → I X pre W → (∀ a' W', KeepsFrom w.heap.size W W' → Keep n₀ X W W' → I X pre W' → Ax X x a' W' → K a' W') →
      assign.wpIn (Fence.wide.inRound l) 0 Tryd.prog (Exit.then K (fun _ _ _ => False)) { tmps := (ps.zip (encs x)).foldl (fun t (p, v) => t.setIfInBounds p v) a.tmps, defers := [] } W)
    (hbody : ∀ (l : Nat) (X : Blocks) (pre : List α) (x : α) (a' : Act) (W : World), w.heap.size ≤ l → (∃ r, W.heap[l]? = some (.loop r)) → ¬ X l → (∀ k, X k → k < W.heap.size) → I X pre W → G X x W → Ax X x a' W → Sp (pre ++ [x]) →
      body.wpIn (Fence.wide.inRound l) 0 Tryd.prog (postX w.heap.size n₀ I Ix X (pre ++ [x]) W) a' W)
    (hdone : ∀ (D : Nat) (X : Blocks) (xs : List α) (W : World), w.heap.size ≤ D → S xs → I X xs W → W.heap[D]? = some (.deferred (some [])) → Q .normal { a with defers := { target := .collected D, args := #[] } :: a.defers } W)
    (hstop : ∀ (D : Nat) (X : Blocks) (c : Code) (pre : List α) (W : World), w.heap.size ≤ D → Sp pre → Ix c X pre W → W.heap[D]? = some (.deferred (some [])) → c.wpIn Fence.wide 0 Tryd.prog Q { a with defers := { target := .collected D, args := #[] } :: a.defers } W) :
    (Code.rangeFunc g ps assign body).wpIn Fence.wide 0 Tryd.prog Q a w := by
  refine wpIn_rangeFunc ?_
  intro fn hfn
  obtain ⟨rec, hrec⟩ : ∃ rec : LoopState → Option Code → Loop, rec = fun st pe => { state := st, pending := pe, fn, tmps := a.tmps, params := ps, assign, body, defers := w.heap.size } := ⟨_, rfl⟩
  obtain ⟨W1, hW1⟩ : ∃ W1, (w.alloc (.deferred (some []))).alloc (.loop (rec .ready none)) = W1 := ⟨_, rfl⟩
  have hL1 : W1.heap[w.heap.size + 1]? = some (.loop (rec .ready none)) := by
    rw [← hW1]; have := World.alloc_heap_new (w.alloc (.deferred (some []))) (.loop (rec .ready none)); rwa [World.size_alloc] at this
  have hK1 : W1.heap[w.heap.size]? = some (.deferred (some [])) := by
    rw [← hW1]; exact (Below.heap_alloc _ _ _ (by simp)).trans (World.alloc_heap_new w _)
  have hI1 : I (fun _ => False) [] W1 := by rw [← hW1]; exact hI.new _ (hI.new _ h0)
  have hb1 : Below w0.heap.size w0 W1 := by
    rw [← hW1]; exact hb0.trans ((((Below.refl _ w).alloc (Nat.le_refl _) _).alloc (by simp) _).mono hb0.size)
  refine ⟨w.heap.size + 1, [{ target := .collected w.heap.size, args := #[] }], W1, { target := .fn (.func gf) lb, args := fb ++ #[.func (.yield (w.heap.size + 1)) #[] #[]] }, W1, gf,
    (fb ++ #[.func (.yield (w.heap.size + 1)) #[] #[]]) ++ lb, W1, ?_, ?_, fun f' _ => trivial, ?_, fun h => by simp [Fence.wide] at h, ?_⟩
  · rw [← hW1, hrec]; exact run_enterLoop_outer _ _ _ _ _
  · simp only [resolve, hg]
    simp [go_sem, Deferred.ofValue]
  · simp [invoke, go_sem, eg]
  · refine callsIn_wide.2 ?_
    refine (hseq (w.heap.size + 1)
      (fun X pre W => I X pre W ∧ ¬ X (w.heap.size + 1) ∧ ¬ X w.heap.size ∧ W.heap[w.heap.size + 1]? = some (.loop (rec .ready none)) ∧ W.heap[w.heap.size]? = some (.deferred (some [])))
      (fun X pre W => ∃ c, Ix c X pre W ∧ ¬ X (w.heap.size + 1) ∧ ¬ X w.heap.size ∧ W.heap[w.heap.size + 1]? = some (.loop (rec .done (some c))) ∧ W.heap[w.heap.size]? = some (.deferred (some [])))
      W1 hb1 ?_ ?_ ?_ ⟨hI1, fun h => h, fun h => h, hL1, hK1⟩).mono ?_
    · rintro X X' s A B ⟨h1, h2, h3, h4, h5⟩ ht hX
      have l4 := (Array.getElem?_eq_some_iff.1 h4).1
      refine ⟨hI X X' s A B h1 ht.os ht.tape ht.output ht.size (fun k o hk hx _ => (ht.block k (Array.getElem?_eq_some_iff.1 hk).1 hx).trans hk) hX, fun h => ?_, fun h => ?_, (ht.block _ l4 h2).trans h4, (ht.block _ (by omega) h3).trans h5⟩
      · rcases hX _ h with h | h
        · exact h2 h
        · omega
      · rcases hX _ h with h | h
        · exact h3 h
        · omega
    · rintro X X' s A B ⟨c, h1, h2, h3, h4, h5⟩ ht hX
      have l4 := (Array.getElem?_eq_some_iff.1 h4).1
      refine ⟨c, hIx c X X' s A B h1 ht.os ht.tape ht.output ht.size (fun k o hk hx _ => (ht.block k (Array.getElem?_eq_some_iff.1 hk).1 hx).trans hk) hX, fun h => ?_, fun h => ?_, (ht.block _ l4 h2).trans h4, (ht.block _ (by omega) h3).trans h5⟩
      · rcases hX _ h with h | h
        · exact h2 h
        · omega
      · rcases hX _ h with h | h
        · exact h3 h
        · omega
    · -- one round
      rintro X pre x W hXs ⟨hi, hXl, hXd, hl, hk⟩ hgx hsp
      have hy := run_yield (P := Tryd.prog) (args := encs x) hl (by rw [hrec]; exact hps x)
      rw [hrec] at hy
      refine ⟨fn, _, assign, body, hy, roundIn_of_wpIn trivial (hassign _ X pre x W _ hXs hi ?_)⟩
      clear hy
      intro a' Wa hkfa hkpa hia hax
      have hl' := hkfa.same _ _ (by omega) hl rfl
      have hk' := hkfa.same _ _ (Nat.le_refl _) hk rfl
      have hlt := (Array.getElem?_eq_some_iff.1 hl').1
      refine ⟨_, run_beginRound hl' (by rw [hrec]), ?_⟩
      have hl2 : (Wa.putObj (w.heap.size + 1) (.loop { rec .ready none with state := .busy })).heap[w.heap.size + 1]? = some (.loop { rec .ready none with state := .busy }) := World.putObj_heap_same hlt
      have hk2 : (Wa.putObj (w.heap.size + 1) (.loop { rec .ready none with state := .busy })).heap[w.heap.size]? = some (.deferred (some [])) := (World.putObj_heap_other (by omega)).trans hk'
      have hkp2 : Keep n₀ X Wa (Wa.putObj (w.heap.size + 1) (.loop { rec .ready none with state := .busy })) := keep_put _ (by omega) hXl
      refine wpIn_mono (hbody _ X pre x a' _ (by omega) ⟨_, hl2⟩ hXl (fun k hk => by have h1 := hXs k hk; have h2 := hkpa.size; simp; omega) (hI.put _ hia (by omega) hl' rfl) (hG _ _ _ _ hgx (hkpa.trans hkp2)) (hAx X x a' _ _ _ _ hax (by omega) hl' rfl) hsp) ?_
      have fin : ∀ (jump : Option Code) (W3 : World), KeepsFrom w.heap.size (Wa.putObj (w.heap.size + 1) (.loop { rec .ready none with state := .busy })) W3 →
          (Instr.endRound (w.heap.size + 1) jump).run Tryd.prog W3 = .ok (.bool jump.isNone) (W3.putObj (w.heap.size + 1) (.loop (rec (if jump.isNone then .ready else .done) jump))) ∧
          W3.heap[w.heap.size + 1]? = some (.loop { rec .ready none with state := .busy }) ∧
          (W3.putObj (w.heap.size + 1) (.loop (rec (if jump.isNone then .ready else .done) jump))).heap[w.heap.size + 1]? = some (.loop (rec (if jump.isNone then .ready else .done) jump)) ∧
          (W3.putObj (w.heap.size + 1) (.loop (rec (if jump.isNone then .ready else .done) jump))).heap[w.heap.size]? = some (.deferred (some [])) := fun jump W3 hk3 => by
        have hl3 := hk3.same _ _ (by omega) hl2 rfl
        have := run_endRound (P := Tryd.prog) jump hl3
        rw [hrec] at this ⊢
        exact ⟨this, by rw [hrec] at hl3; exact hl3, World.putObj_heap_same (Array.getElem?_eq_some_iff.1 hl3).1, (World.putObj_heap_other (by omega)).trans (hk3.same _ _ (Nat.le_refl _) hk2 rfl)⟩
      have kp : ∀ (W3 : World) (o : Obj), Keep n₀ X (Wa.putObj (w.heap.size + 1) (.loop { rec .ready none with state := .busy })) W3 → Keep n₀ X W (W3.putObj (w.heap.size + 1) o) := fun W3 o h3 =>
        ((hkpa.trans hkp2).trans h3).trans (keep_put _ (by omega) hXl)
      rintro e a3 W3 hp
      cases e with
      | normal =>
        obtain ⟨hk3, hkp3, hi3⟩ := hp
        obtain ⟨hr, hl3, hl4, hk4⟩ := fin none W3 hk3
        exact ⟨_, _, hr, .inl ⟨rfl, hI.put _ hi3 (by omega) hl3 rfl, hXl, hXd, hl4, hk4⟩, kp _ _ hkp3⟩
      | ret =>
        obtain ⟨hk3, hkp3, hi3⟩ := hp
        obtain ⟨hr, hl3, hl4, hk4⟩ := fin (some .ret) W3 hk3
        exact ⟨_, _, hr, .inr ⟨rfl, .ret, (hIx _).put _ hi3 (by omega) hl3 rfl, hXl, hXd, hl4, hk4⟩, kp _ _ hkp3⟩
      | exit id =>
        obtain ⟨hk3, hkp3, hi3⟩ := hp
        obtain ⟨hr, hl3, hl4, hk4⟩ := fin (some (.exit id)) W3 hk3
        exact ⟨_, _, hr, .inr ⟨rfl, .exit id, (hIx _).put _ hi3 (by omega) hl3 rfl, hXl, hXd, hl4, hk4⟩, kp _ _ hkp3⟩
      | goto t =>
        obtain ⟨hk3, hkp3, hi3⟩ := hp
        obtain ⟨hr, hl3, hl4, hk4⟩ := fin (some (.goto t)) W3 hk3
        exact ⟨_, _, hr, .inr ⟨rfl, .goto t, (hIx _).put _ hi3 (by omega) hl3 rfl, hXl, hXd, hl4, hk4⟩, kp _ _ hkp3⟩
      | panic ch => exact hp.elim
      | outgrown => exact hp.elim
    · -- behind the iterator
      rintro e W2 ⟨⟨v, rfl⟩, (⟨X, xs, hS, hi, _, _, hl, hk⟩ | ⟨X, pre, hSp, c, hi, _, _, hl, hk⟩)⟩
      · exact ⟨none, _, by have := run_endLoop (P := Tryd.prog) hl (by rw [hrec]; simp); rw [hrec] at this; exact this, hdone _ X xs _ (Nat.le_refl _) hS (hI.put _ hi (by omega) hl rfl) ((World.putObj_heap_other (by omega)).trans hk)⟩
      · exact ⟨some c, _, by have := run_endLoop (P := Tryd.prog) hl (by rw [hrec]; simp); rw [hrec] at this; exact this, hstop _ X c pre _ (Nat.le_refl _) hSp ((hIx c).put _ hi (by omega) hl rfl) ((World.putObj_heap_other (by omega)).trans hk)⟩
end Go.Proofs.YtlpfglkopnmlnaaDoor
namespace Go.Proofs.YtlpfglkopnmlnaaDoor
open Go.RowKit
/-- No operation defers a call. -/
def noDefer (ops : List Oper) : Bool := ops.all fun o => match o.op with
  | .defer _ => false
  | _ => true
theorem noDefer_of {ops : List Oper} (h : noDefer ops = true) {o : Oper} (ho : o ∈ ops) : ∀ c, o.op ≠ .defer c := fun c e => by
  have := List.all_eq_true.1 h o ho
  rw [e] at this
  cases this
section
variable {P : Program} {ops : Array Oper} {md : Region.Mode} {C : World → Prop} (l : Nat)
theorem quiet_round {o : Oper} (hd : ∀ c, o.op ≠ .defer c) {a : Act} {K : Act → Prop} {K' : Act → World → Prop} {Q' : Exit → Act → World → Prop} {w : World} (hw : C w) (h : ∀ a w', C w' → K a → K' a w') (hh : o.quiet P a C K) : o.wpIn (Fence.wide.inRound l) 0 P a w K' Q' := by
  obtain ⟨v, h1, h2⟩ := hh
  have h3 := h1 w hw
  unfold Oper.quietAt at h3
  refine ⟨fun _ _ => trivial, ?_⟩
  rw [show (Fence.wide.inRound l).round = some l from rfl, Oper.semAt_some l _ _ hd]
  generalize (execOp a.eval o).run P w = r at *
  cases r with
  | ok n w' =>
    cases n <;> simp only [Oper.quietUpon] at h3 <;> simp only [Oper.uponIn]
    case value u =>
      obtain ⟨e1, e2⟩ := h3
      rw [e1, e2]
      exact h _ _ hw h2
    case skip =>
      obtain ⟨e1, e2⟩ := h3
      rw [e1, ← e2]
      exact h _ _ hw h2
    case enter f args =>
      obtain ⟨e1, hc⟩ := h3
      rw [e1]
      exact ⟨fun h => by simp [Fence.wide] at h, CallsIn.inRound l (callsIn_wide.2 (hc.mono fun e w'' ⟨he, hw''⟩ => by subst he; exact h _ _ hw'' h2))⟩
  | halt x w' => simp only [Oper.quietUpon] at h3
theorem qOp_round (hd : noDefer ops.toList = true) {i : Nat} {a : Act} {K : Act → Prop} {K' : Act → World → Prop} {Q' : Exit → Act → World → Prop} {w : World} (hC : C w) (h : ∀ a w', C w' → K a → K' a w') (hh : qOp P ops C i K a) : wpOpIn (Fence.wide.inRound l) 0 P ops Q' i K' a w := by
  unfold qOp at hh
  unfold wpOpIn
  split
  · rename_i ho; simp only [ho] at hh; exact h _ _ hC hh
  · rename_i o ho
    simp only [ho] at hh
    have hm : o ∈ ops.toList := Array.mem_toList_iff.2 (Array.mem_of_getElem? ho)
    split
    · rename_i hw; simp only [hw, if_true] at hh; exact quiet_round l (noDefer_of hd hm) hC h hh
    · rename_i hw; simp only [hw] at hh; exact ⟨fun _ _ => trivial, h _ _ hC hh⟩
theorem wpAny_round (hd : noDefer ops.toList = true) {Q : Act → Prop} {Q' : Exit → Act → World → Prop} (hQ : ∀ a w, C w → Q a → Q' .normal a w) : ∀ (fuel : Nat) (listed : Array Bool) (a : Act) (w : World), C w →
    wpAnyQ P md ops C Q fuel listed a → wpAnyIn (Fence.wide.inRound l) 0 P md ops Q' fuel listed a w
  | 0, _, _, _, hw, h => ⟨h.1, hQ _ _ hw h.2⟩
  | fuel + 1, _, _, _, hw, h => ⟨fun h0 => hQ _ _ hw (h.1 h0), fun i hi => qOp_round l hd hw (fun a' w' hw' => wpAny_round hd hQ fuel _ a' w' hw') (h.2 i hi)⟩
theorem wp_region_round {id : Nat} {Q : Exit → Act → World → Prop} {a : Act} {w : World} {rs : List Oper} (hm : P.follows .mixedOrders = true) (hB : Region.lexB .any rs.toArray = true) (hd : noDefer rs = true)
    (h : wpQuiet P rs.toArray (fun w' => ∃ n, w' = w.drewN n) (fun a' => ∀ nq, Q .normal a' (w.drewN nq)) rs a) : (Code.region id rs.toArray true).wpIn (Fence.wide.inRound l) 0 P Q a w := by
  simp only [Region.lexB, Bool.and_eq_true] at hB
  refine wpIn_region_any hm (wpAny_round (C := fun w' => ∃ n, w' = w.drewN n) (Q := fun a' => ∀ nq, Q .normal a' (w.drewN nq)) l (by simpa using hd) (fun a' w' ⟨n, hn⟩ h => by rw [hn]; exact h n) _ _ _ _ ⟨1, rfl⟩ ?_)
  have := wpAnyQ_lex (P := P) (C := fun w' => ∃ n, w' = w.drewN n) (md := .any) hB.1 rs 0 (Array.replicate rs.length false) a (by simp) (by simpa using hB.2) h
  simpa using this
end
end Go.Proofs.YtlpfglkopnmlnaaDoor
namespace Go.Proofs.YtlpfglkopnmlnaaDoor
open Go.RowKit Go.Shelf Go.Maps Go.WideAt Go.WideMaps
theorem plainInt : Tryd.prog.plainKey 3 = true := by kernel_rfl
theorem cellsInt : Tryd.prog.cellsOf 3 = 1 := by kernel_rfl
theorem equalIn_pair {t : TypeId} (ht : Tryd.prog.underlying t = some (.array 2 3)) (a b c d : Int) (w : World) : (Op.equalIn 10000 t (.agg #[.int .i64 a, .int .i64 b]) (.agg #[.int .i64 c, .int .i64 d])).run Tryd.prog w = .ok (a == c && b == d) w := by
  obtain ⟨i, hi, -⟩ := info_parts infoInt
  rw [show (10000 : Nat) = 9999 + 1 from rfl, run_equalIn_array w 9999 _ _ ht hi, cellsInt, show List.range 2 = [0, 1] from rfl]
  have p0 : (part 3 #[.int .i64 a, .int .i64 b] (0 * 1)).run Tryd.prog w = .ok (.int .i64 a) w := run_part_plain w plainInt rfl
  have p1 : (part 3 #[.int .i64 a, .int .i64 b] (1 * 1)).run Tryd.prog w = .ok (.int .i64 b) w := run_part_plain w plainInt rfl
  have q0 : (part 3 #[.int .i64 c, .int .i64 d] (0 * 1)).run Tryd.prog w = .ok (.int .i64 c) w := run_part_plain w plainInt rfl
  have q1 : (part 3 #[.int .i64 c, .int .i64 d] (1 * 1)).run Tryd.prog w = .ok (.int .i64 d) w := run_part_plain w plainInt rfl
  have e0 : (Op.equalIn 9999 3 (.int .i64 a) (.int .i64 c)).run Tryd.prog w = .ok (a == c) w := run_equalIn_int w 9998 _ _ _ _ _ Tryd.underlying3
  have e1 : (Op.equalIn 9999 3 (.int .i64 b) (.int .i64 d)).run Tryd.prog w = .ok (b == d) w := run_equalIn_int w 9998 _ _ _ _ _ Tryd.underlying3
  unfold Op.eqItems
  rw [Sem.run_bind, p0, Result.andThen_ok, Sem.run_bind, q0, Result.andThen_ok, Sem.run_bind, e0, Result.andThen_ok]
  cases h : a == c with
  | false => simp
  | true =>
    unfold Op.eqItems
    simp only [Bool.not_true, Bool.false_eq_true, if_false]
    rw [Sem.run_bind, p1, Result.andThen_ok, Sem.run_bind, q1, Result.andThen_ok, Sem.run_bind, e1, Result.andThen_ok]
    cases h2 : b == d <;> simp [Op.eqItems]
theorem noGuard1 : Tryd.prog.eqGuardType Tryd.prog.depth 88 = false := by kernel_rfl
end Go.Proofs.YtlpfglkopnmlnaaDoor
namespace Go.Proofs.YtlpfglkopnmlnaaDoor
def dotS {K : Type} (S : List K) (a b : K → Int) : Int := (S.map fun x => a x * b x).sum
theorem dotS_cons {K : Type} (x : K) (S : List K) (a b : K → Int) : dotS (x :: S) a b = a x * b x + dotS S a b := by simp [dotS]
theorem dotS_erase {K : Type} [DecidableEq K] {c : K} {S : List K} (h : c ∈ S) (a b : K → Int) : dotS S a b = a c * b c + dotS (S.erase c) a b := by
  induction S with
  | nil => cases h
  | cons x S ih =>
    rw [List.erase_cons]
    by_cases e : x = c
    · subst e; simp [dotS_cons]
    · have hm : c ∈ S := by
        rcases List.mem_cons.1 h with h | h
        · exact absurd h.symm e
        · exact h
      rw [if_neg (by simpa using e), dotS_cons, dotS_cons, ih hm]
      omega
theorem dotS_zero {K : Type} {S : List K} {a : K → Int} (b : K → Int) (h : ∀ x ∈ S, a x = 0) : dotS S a b = 0 := by
  induction S with
  | nil => rfl
  | cons x S ih => rw [dotS_cons, h x (by simp), ih fun y hy => h y (by simp [hy])]; simp
theorem dotS_lin {K : Type} (S : List K) (u v : Int) (a a' b : K → Int) : dotS S (fun x => u * a x - v * a' x) b = u * dotS S a b - v * dotS S a' b := by
  induction S with
  | nil => simp [dotS]
  | cons x S ih => rw [dotS_cons, dotS_cons, dotS_cons, ih]; grind
/-- A triangle of t rows wants t coordinates. -/
theorem triangle {K : Type} [DecidableEq K] : ∀ (N t : Nat) (S : List K) (a b : Nat → K → Int), S.length = N → (∀ i, i < t → dotS S (a i) (b i) ≠ 0) → (∀ j i, j < i → i < t → dotS S (a j) (b i) = 0) → t ≤ N
  | N, 0, _, _, _, _, _, _ => Nat.zero_le _
  | 0, t + 1, S, a, b, hS, h1, _ => by
    obtain rfl := List.length_eq_zero_iff.1 hS
    exact absurd rfl (h1 0 (by omega))
  | N + 1, t + 1, S, a, b, hS, h1, h2 => by
    have hc : ∃ c, c ∈ S ∧ a 0 c ≠ 0 := by
      apply Classical.byContradiction
      intro hno
      exact h1 0 (by omega) (dotS_zero (b 0) fun x hx => Classical.byContradiction fun hne => hno ⟨x, hx, hne⟩)
    obtain ⟨c, hc, hne⟩ := hc
    have hred : ∀ j i, i < t → dotS (S.erase c) (fun x => a 0 c * a (j + 1) x - a (j + 1) c * a 0 x) (b (i + 1)) = a 0 c * dotS S (a (j + 1)) (b (i + 1)) := fun j i hi => by
      have e1 := dotS_erase hc (fun x => a 0 c * a (j + 1) x - a (j + 1) c * a 0 x) (b (i + 1))
      rw [dotS_lin, h2 0 (i + 1) (by omega) (by omega)] at e1
      have e2 : a 0 c * a (j + 1) c - a (j + 1) c * a 0 c = 0 := by grind
      simp only [e2] at e1
      omega
    have := triangle N t (S.erase c) (fun j x => a 0 c * a (j + 1) x - a (j + 1) c * a 0 x) (fun i => b (i + 1)) (by rw [List.length_erase_of_mem hc]; omega)
      (fun i hi => by
        rw [hred i i hi]
        exact Int.mul_ne_zero hne (h1 (i + 1) (by omega)))
      (fun j i hji hi => by
        rw [hred j i hi, h2 (j + 1) (i + 1) (by omega) (by omega), Int.mul_zero])
    omega
/-- Polynomials in two letters as lists of terms. -/
def mono (s u : Int) (k : Nat × Nat) : Int := s ^ k.1 * u ^ k.2
def evL (L : List (Int × Nat × Nat)) (s u : Int) : Int := (L.map fun x => x.1 * mono s u x.2).sum
def mulL (e : Int) : List (Int × Nat × Nat) → List (Int × Nat × Nat)
  | [] => []
  | x :: L => (e * e * x.1, x.2.1, x.2.2) :: (-e * x.1, x.2.1 + 1, x.2.2) :: (x.1, x.2.1, x.2.2 + 1) :: mulL e L
theorem evL_cons (x : Int × Nat × Nat) (L : List (Int × Nat × Nat)) (s u : Int) : evL (x :: L) s u = x.1 * mono s u x.2 + evL L s u := by simp [evL]
theorem evL_mul (e : Int) (s u : Int) : ∀ L, evL (mulL e L) s u = (e * e - e * s + u) * evL L s u
  | [] => by simp [mulL, evL]
  | x :: L => by
    rw [mulL, evL_cons, evL_cons, evL_cons, evL_cons, evL_mul e s u L]
    simp only [mono, Int.pow_succ]
    grind
def polyD : List Nat → List (Int × Nat × Nat)
  | [] => [(1, 0, 0)]
  | e :: D => mulL e (polyD D)
/-- The product over a set of states. -/
def prodD (p q : Int) : List Nat → Int
  | [] => 1
  | e :: D => ((e : Int) - p) * ((e : Int) - q) * prodD p q D
theorem evL_polyD (p q : Int) : ∀ D, evL (polyD D) (p + q) (p * q) = prodD p q D
  | [] => by simp [polyD, evL, mono, prodD]
  | e :: D => by rw [polyD, evL_mul, evL_polyD p q D, prodD]; grind
theorem mulL_deg {e : Int} {d : Nat} : ∀ {L : List (Int × Nat × Nat)}, (∀ x ∈ L, x.2.1 + x.2.2 ≤ d) → ∀ x ∈ mulL e L, x.2.1 + x.2.2 ≤ d + 1
  | [], _, x, hx => by simp [mulL] at hx
  | y :: L, h, x, hx => by
    have hy := h y (by simp)
    rw [mulL] at hx
    rcases List.mem_cons.1 hx with rfl | hx
    · simp only; omega
    rcases List.mem_cons.1 hx with rfl | hx
    · simp only; omega
    rcases List.mem_cons.1 hx with rfl | hx
    · simp only; omega
    exact mulL_deg (fun z hz => h z (by simp [hz])) x hx
theorem polyD_deg : ∀ D : List Nat, ∀ x ∈ polyD D, x.2.1 + x.2.2 ≤ D.length
  | [], x, hx => by simp [polyD] at hx; subst hx; simp
  | e :: D, x, hx => mulL_deg (polyD_deg D) x hx
/-- The coefficients. -/
def coefL (L : List (Int × Nat × Nat)) (k : Nat × Nat) : Int := (L.map fun x => if x.2 = k then x.1 else 0).sum
theorem coefL_cons (x : Int × Nat × Nat) (L : List (Int × Nat × Nat)) (k : Nat × Nat) : coefL (x :: L) k = (if x.2 = k then x.1 else 0) + coefL L k := by simp [coefL]
theorem ne_of_erase {K : Type} [DecidableEq K] {S : List K} (hS : S.Nodup) {x k : K} (h : x ∈ S.erase k) : x ≠ k := ((List.Nodup.mem_erase_iff hS).1 h).1
theorem dot_single {S : List (Nat × Nat)} (hS : S.Nodup) (c : Int) {k : Nat × Nat} (hk : k ∈ S) (b : Nat × Nat → Int) : dotS S (fun x => if k = x then c else 0) b = c * b k := by
  rw [dotS_erase hk, dotS_zero]
  · simp
  · intro x hx
    rw [if_neg (Ne.symm (ne_of_erase hS hx))]
theorem dotS_add {K : Type} (S : List K) (a a' b : K → Int) : dotS S (fun x => a x + a' x) b = dotS S a b + dotS S a' b := by
  induction S with
  | nil => rfl
  | cons x S ih => rw [dotS_cons, dotS_cons, dotS_cons, ih]; grind
theorem dot_evL {S : List (Nat × Nat)} (hS : S.Nodup) (s u : Int) : ∀ L : List (Int × Nat × Nat), (∀ x ∈ L, x.2 ∈ S) → dotS S (coefL L) (mono s u) = evL L s u
  | [], _ => by
    exact dotS_zero (a := coefL []) (mono s u) (fun x _ => rfl)
  | x :: L, h => by
    have e : coefL (x :: L) = fun k => (if x.2 = k then x.1 else 0) + coefL L k := funext fun k => coefL_cons x L k
    rw [e, dotS_add, dot_single hS x.1 (h x (by simp)), dot_evL hS s u L fun y hy => h y (by simp [hy]), evL_cons]
/-- The exponents of degree d and less. -/
def expo : Nat → List (Nat × Nat)
  | 0 => [(0, 0)]
  | d + 1 => expo d ++ (List.range (d + 2)).map fun i => (i, d + 1 - i)
theorem expo_mem : ∀ d k, k ∈ expo d ↔ k.1 + k.2 ≤ d
  | 0, k => by
    rw [expo, List.mem_singleton]
    constructor
    · rintro rfl; simp
    · intro h; exact Prod.ext (by simp; omega) (by simp; omega)
  | d + 1, k => by
    rw [expo, List.mem_append, expo_mem d k, List.mem_map]
    constructor
    · rintro (h | ⟨i, hi, rfl⟩)
      · omega
      · have := List.mem_range.1 hi
        simp only; omega
    · intro h
      by_cases e : k.1 + k.2 ≤ d
      · exact .inl e
      · exact .inr ⟨k.1, List.mem_range.2 (by omega), Prod.ext rfl (by simp only; omega)⟩
theorem expo_nodup : ∀ d, (expo d).Nodup
  | 0 => by simp [expo]
  | d + 1 => by
    rw [expo, List.nodup_append]
    refine ⟨expo_nodup d, ?_, ?_⟩
    · unfold List.Nodup
      rw [List.pairwise_map]
      refine List.Pairwise.imp (fun {a b} hlt e => ?_) List.pairwise_lt_range
      have := congrArg Prod.fst e
      simp only at this
      omega
    · rintro a ha b hb rfl
      have h1 := (expo_mem d a).1 ha
      obtain ⟨i, hi, rfl⟩ := List.mem_map.1 hb
      have := List.mem_range.1 hi
      simp only at h1
      omega
theorem expo_len : ∀ d, 2 * (expo d).length = (d + 1) * (d + 2)
  | 0 => by simp [expo]
  | d + 1 => by
    rw [expo, List.length_append, List.length_map, List.length_range, Nat.mul_add, expo_len d]
    grind
theorem prodD_zero {p q : Int} : ∀ {D : List Nat}, (∃ e ∈ D, (e : Int) = p ∨ (e : Int) = q) → prodD p q D = 0
  | [], h => by obtain ⟨e, he, _⟩ := h; cases he
  | y :: D, h => by
    obtain ⟨e, he, h2⟩ := h
    rw [prodD]
    rcases List.mem_cons.1 he with rfl | he
    · rcases h2 with h2 | h2
      · rw [h2, Int.sub_self, Int.zero_mul, Int.zero_mul]
      · rw [h2, Int.sub_self, Int.mul_zero, Int.zero_mul]
    · rw [prodD_zero ⟨e, he, h2⟩, Int.mul_zero]
theorem prodD_ne {p q : Int} : ∀ {D : List Nat}, (∀ e ∈ D, (e : Int) ≠ p ∧ (e : Int) ≠ q) → prodD p q D ≠ 0
  | [], _ => by simp [prodD]
  | y :: D, h => by
    rw [prodD]
    have h1 := h y (by simp)
    exact Int.mul_ne_zero (Int.mul_ne_zero (by omega) (by omega)) (prodD_ne fun e he => h e (by simp [he]))
/-- The bound: pairs P i and sets D i of d states; P i meets each earlier D j, and not its own. -/
theorem pairs_bound {d t : Nat} (D : Nat → List Nat) (p q : Nat → Nat) (hd : ∀ i, i < t → (D i).length ≤ d) (h1 : ∀ i, i < t → p i ∉ D i ∧ q i ∉ D i) (h2 : ∀ j i, j < i → i < t → p i ∈ D j ∨ q i ∈ D j) : 2 * t ≤ (d + 1) * (d + 2) := by
  have hev : ∀ j i, j < t → dotS (expo d) (coefL (polyD (D j))) (mono ((p i : Int) + q i) ((p i : Int) * q i)) = prodD (p i) (q i) (D j) := fun j i hj => by
    rw [dot_evL (expo_nodup d) _ _ _ fun x hx => (expo_mem d x.2).2 (Nat.le_trans (polyD_deg (D j) x hx) (hd j hj)), evL_polyD]
  have := triangle (expo d).length t (expo d) (fun j => coefL (polyD (D j))) (fun i => mono ((p i : Int) + q i) ((p i : Int) * q i)) rfl
    (fun i hi => by
      rw [hev i i hi]
      refine prodD_ne fun e he => ⟨fun h => (h1 i hi).1 ?_, fun h => (h1 i hi).2 ?_⟩
      · rwa [← show e = p i by omega]
      · rwa [← show e = q i by omega])
    (fun j i hji hi => by
      rw [hev j i (by omega)]
      rcases h2 j i hji hi with h | h
      · exact prodD_zero ⟨_, h, .inl rfl⟩
      · exact prodD_zero ⟨_, h, .inr rfl⟩)
  have := expo_len d
  omega
end Go.Proofs.YtlpfglkopnmlnaaDoor
namespace Go.Proofs.YtlpfglkopnmlnaaDoor
open Go.RowKit Go.Shelf
theorem merge_bound {m : List (List Int)} (hv : validM m = true) {C : List Nat} (hC : C.Nodup) (hlt : ∀ c ∈ C, c < m.length) {p q t : Nat} (hp : p ∈ C) (hq : q ∈ C) (hpq : p ≠ q) (hd : mergeP m p q t)
    (hmin : ∀ a ∈ C, ∀ b ∈ C, a ≠ b → ∀ j, j < t → ¬ mergeP m a b j) : 2 * t ≤ (m.length - C.length + 1) * (m.length - C.length + 2) := by
  obtain ⟨u, hu, hul, hur⟩ := hd
  have hinj : ∀ i, i < t → ∀ a ∈ C, ∀ b ∈ C, a ≠ b → runM m a (u.take i) ≠ runM m b (u.take i) := fun i hi a ha b hb hab e =>
    hmin a ha b hb hab i hi ⟨u.take i, allw_take hu i, by rw [List.length_take]; omega, e⟩
  obtain ⟨I, hI⟩ : ∃ I : Nat → List Nat, I = fun i => C.map fun c => runM m c (u.take i) := ⟨_, rfl⟩
  have hIi : ∀ i, I i = C.map fun c => runM m c (u.take i) := fun i => by rw [hI]
  have hIm : ∀ i x, x ∈ I i ↔ ∃ c ∈ C, runM m c (u.take i) = x := fun i x => by rw [hIi, List.mem_map]
  obtain ⟨D, hD⟩ : ∃ D : Nat → List Nat, D = fun i => (List.range m.length).filter fun s => decide (s ∉ I i) := ⟨_, rfl⟩
  have hDm : ∀ i x, x ∈ D i ↔ x < m.length ∧ x ∉ I i := fun i x => by rw [hD]; simp [List.mem_filter]
  refine pairs_bound (d := m.length - C.length) D (fun i => runM m p (u.take i)) (fun i => runM m q (u.take i)) ?_ ?_ ?_
  · intro i hi
    have hnd : ((I i ++ D i).map fun x : Nat => (x : Int)).Nodup := by
      have h0 : (I i ++ D i).Nodup := by
        rw [List.nodup_append]
        refine ⟨?_, ?_, ?_⟩
        · rw [hIi]
          unfold List.Nodup
          rw [List.pairwise_map]
          exact List.Pairwise.imp_of_mem (fun {a b} ha hb hab => hinj i hi a ha b hb hab) hC
        · rw [hD]
          exact List.Pairwise.filter _ (List.nodup_range)
        · rintro a ha b hb rfl
          exact ((hDm i a).1 hb).2 ha
      unfold List.Nodup at h0 ⊢
      rw [List.pairwise_map]
      exact List.Pairwise.imp (fun {a b} hab e => hab (by omega)) h0
    have := nodup_len m.length _ hnd (fun x hx => by
      obtain ⟨y, hy, rfl⟩ := List.mem_map.1 hx
      have : y < m.length := by
        rcases List.mem_append.1 hy with h | h
        · obtain ⟨c, hc, rfl⟩ := (hIm i y).1 h
          exact runQ_lt hv (hlt c hc) (allw_take hu i)
        · exact ((hDm i y).1 h).1
      omega)
    rw [List.length_map, List.length_append, hIi, List.length_map] at this
    omega
  · intro i hi
    exact ⟨fun h => ((hDm i _).1 h).2 ((hIm i _).2 ⟨p, hp, rfl⟩), fun h => ((hDm i _).1 h).2 ((hIm i _).2 ⟨q, hq, rfl⟩)⟩
  · intro j i hji hi
    apply Classical.byContradiction
    intro hno
    have hpl := runQ_lt hv (hlt p hp) (allw_take hu i)
    have hql := runQ_lt hv (hlt q hq) (allw_take hu i)
    have hpI : runM m p (u.take i) ∈ I j := Classical.byContradiction fun h => hno (.inl ((hDm j _).2 ⟨hpl, h⟩))
    have hqI : runM m q (u.take i) ∈ I j := Classical.byContradiction fun h => hno (.inr ((hDm j _).2 ⟨hql, h⟩))
    obtain ⟨a, ha, ea⟩ := (hIm j _).1 hpI
    obtain ⟨b, hb, eb⟩ := (hIm j _).1 hqI
    have hab : a ≠ b := fun e => by
      subst e
      exact hinj i hi p hp q hq hpq (ea.symm.trans eb)
    refine hmin a ha b hb hab (j + (t - i)) (by omega) ⟨u.take j ++ u.drop i, all_append_ok (allw_take hu j) (allw_drop hu i), ?_, ?_⟩
    · rw [List.length_append, List.length_take, List.length_drop]; omega
    · rw [runQ_append, runQ_append, ea, eb, run_split, run_split]
      exact hur
/-- Summed over the sizes. -/
theorem steps_sum {n k k' len t : Nat} (h : 6 * len ≤ (n - k) * (n - k + 1) * (n - k + 2)) (ht : 2 * t ≤ (n - k + 1) * (n - k + 2)) (hk : k' < k) (hkn : k ≤ n) : 6 * (len + t) ≤ (n - k') * (n - k' + 1) * (n - k' + 2) := by
  obtain ⟨d, hd⟩ : ∃ d, d = n - k := ⟨_, rfl⟩
  rw [← hd] at h ht
  have h1 : (d + 1) * (d + 1 + 1) * (d + 1 + 2) ≤ (n - k') * (n - k' + 1) * (n - k' + 2) :=
    Nat.mul_le_mul (Nat.mul_le_mul (by omega) (by omega)) (by omega)
  have h2 : (d + 1) * (d + 1 + 1) * (d + 1 + 2) = d * (d + 1) * (d + 2) + 3 * ((d + 1) * (d + 2)) := by grind
  omega
theorem steps_most {n len : Nat} (hn : 1 ≤ n) (h : 6 * len ≤ (n - 1) * (n - 1 + 1) * (n - 1 + 2)) : len ≤ (n * n * n - n) / 6 := by
  obtain ⟨d, rfl⟩ : ∃ d, n = d + 1 := ⟨n - 1, by omega⟩
  have h2 : (d + 1) * (d + 1) * (d + 1) = (d + 1 - 1) * (d + 1 - 1 + 1) * (d + 1 - 1 + 2) + (d + 1) := by
    rw [show d + 1 - 1 = d by omega]; grind
  omega
end Go.Proofs.YtlpfglkopnmlnaaDoor
namespace Go.Proofs.YtlpfglkopnmlnaaDoor
open Go.RowKit Go.Shelf
def soonStep (m : List (List Int)) (best x : Nat × Nat) : Nat × Nat := if x.1 < x.2 ∧ (best = (0, 0) ∨ mlen m x.1 x.2 < mlen m best.1 best.2) then x else best
/-- The first of the pairs whose shortest words are shortest; (0, 0): there is no pair. -/
def soonOf (m : List (List Int)) (Q : List (Nat × Nat)) : Nat × Nat := Q.foldl (soonStep m) (0, 0)
def soonOk (m : List (List Int)) (Q : List (Nat × Nat)) (r : Nat × Nat) : Prop := (r = (0, 0) ∧ ∀ x ∈ Q, ¬ x.1 < x.2) ∨ (r ∈ Q ∧ r.1 < r.2 ∧ ∀ x ∈ Q, x.1 < x.2 → mlen m r.1 r.2 ≤ mlen m x.1 x.2)
theorem soonOk_step {m : List (List Int)} {Q : List (Nat × Nat)} {r : Nat × Nat} (h : soonOk m Q r) (x : Nat × Nat) : soonOk m (Q ++ [x]) (soonStep m r x) := by
  unfold soonStep
  by_cases e : x.1 < x.2 ∧ (r = (0, 0) ∨ mlen m x.1 x.2 < mlen m r.1 r.2)
  · rw [if_pos e]
    refine .inr ⟨by simp, e.1, fun y hy hlt => ?_⟩
    rcases List.mem_append.1 hy with hy | hy
    · rcases h with ⟨_, h2⟩ | ⟨_, h2, h3⟩
      · exact absurd hlt (h2 y hy)
      · have := h3 y hy hlt
        rcases e.2 with e2 | e2
        · rw [e2] at h2; exact absurd h2 (Nat.lt_irrefl _)
        · omega
    · obtain rfl := List.mem_singleton.1 hy
      exact Int.le_refl _
  · rw [if_neg e]
    rcases h with ⟨h1, h2⟩ | ⟨h1, h2, h3⟩
    · refine .inl ⟨h1, fun y hy => ?_⟩
      rcases List.mem_append.1 hy with hy | hy
      · exact h2 y hy
      · obtain rfl := List.mem_singleton.1 hy
        exact fun hlt => e ⟨hlt, .inl h1⟩
    · refine .inr ⟨List.mem_append_left _ h1, h2, fun y hy hlt => ?_⟩
      rcases List.mem_append.1 hy with hy | hy
      · exact h3 y hy hlt
      · obtain rfl := List.mem_singleton.1 hy
        exact Int.not_lt.1 fun hl => e ⟨hlt, .inr hl⟩
theorem soonOf_snoc (m : List (List Int)) (Q : List (Nat × Nat)) (x : Nat × Nat) : soonOf m (Q ++ [x]) = soonStep m (soonOf m Q) x := by simp [soonOf, List.foldl_append]
theorem soonOf_ok (m : List (List Int)) (Q : List (Nat × Nat)) : soonOk m Q (soonOf m Q) := by
  have : ∀ (Q : List (Nat × Nat)) (k : Nat), k ≤ Q.length → soonOk m (Q.take k) (soonOf m (Q.take k)) := by
    intro Q k
    induction k with
    | zero => exact fun _ => .inl ⟨rfl, fun x hx => by simp at hx⟩
    | succ k ih =>
      intro hk
      rw [List.take_succ_eq_append_getElem (by omega), soonOf_snoc]
      exact soonOk_step (ih (by omega)) _
  have h := this Q Q.length (Nat.le_refl _)
  rwa [List.take_length] at h
/-- All pairs of a list, row by row. -/
def prodL (C : List Nat) : List (Nat × Nat) := C.flatMap fun p => C.map fun q => (p, q)
theorem prodL_mem {C : List Nat} {x : Nat × Nat} : x ∈ prodL C ↔ x.1 ∈ C ∧ x.2 ∈ C := by
  unfold prodL
  simp only [List.mem_flatMap, List.mem_map]
  constructor
  · rintro ⟨p, hp, q, hq, rfl⟩; exact ⟨hp, hq⟩
  · rintro ⟨h1, h2⟩; exact ⟨x.1, h1, x.2, h2, rfl⟩
section
variable {m : List (List Int)} (hv : validM m = true) {C : List Nat} (hC : C.Nodup) (hlt : ∀ c ∈ C, c < m.length) (h2 : 2 ≤ C.length)
include hv hC hlt h2
/-- The pair is one of the set, its word merges it, and is short. -/
theorem greedy_pair (hall : ∀ p q, p < q → q < m.length → ∃ k, mergeP m p q k) : ∃ t, (soonOf m (prodL C)).1 ∈ C ∧ (soonOf m (prodL C)).2 ∈ C ∧ (soonOf m (prodL C)).1 < (soonOf m (prodL C)).2 ∧ mdist m (soonOf m (prodL C)).1 (soonOf m (prodL C)).2 t ∧ 2 * t ≤ (m.length - C.length + 1) * (m.length - C.length + 2) := by
  generalize hr : soonOf m (prodL C) = r
  have hok := soonOf_ok m (prodL C)
  rw [hr] at hok
  rcases hok with ⟨_, hno⟩ | ⟨h3, h4, h5⟩
  · exfalso
    match C, hC, h2 with
    | a :: b :: l, hC, _ =>
      have hne : a ≠ b := fun e => by
        subst e
        exact (List.nodup_cons.1 hC).1 (by simp)
      have := hno (a, b) (prodL_mem.2 ⟨by simp, by simp⟩)
      have := hno (b, a) (prodL_mem.2 ⟨by simp, by simp⟩)
      simp only at *
      omega
  · obtain ⟨a1, a2⟩ := prodL_mem.1 h3
    obtain ⟨k, hk⟩ := hall r.1 r.2 h4 (hlt _ a2)
    obtain ⟨t, _, hd⟩ := mdist_some hk
    refine ⟨t, a1, a2, h4, hd, merge_bound hv hC hlt a1 a2 (by omega) hd.1 fun a ha b hb hab j hj hm => ?_⟩
    have hle : mlen m r.1 r.2 ≤ mlen m a b := by
      rcases Nat.lt_or_ge a b with h | h
      · exact h5 (a, b) (prodL_mem.2 ⟨ha, hb⟩) h
      · rw [mlen_symm hv (hlt a ha) (hlt b hb)]
        exact h5 (b, a) (prodL_mem.2 ⟨hb, ha⟩) (by simp only; omega)
    obtain ⟨i, hi, hdi⟩ := mdist_some hm
    rw [mlen_of hv (hlt _ a1) (hlt _ a2) hd, mlen_of hv (hlt a ha) (hlt b hb) hdi] at hle
    omega
end
/-- A word that merges two states of a set leads to fewer states. -/
theorem image_less {m : List (List Int)} {C C' : List Nat} (hC' : C'.Nodup) {u : List Int} (him : ∀ x ∈ C', ∃ c ∈ C, runM m c u = x) {p q : Nat} (hp : p ∈ C) (hq : q ∈ C) (hpq : p ≠ q) (hu : runM m p u = runM m q u) : C'.length < C.length := by
  have h1 := nodup_sub (A := C') (B := (C.erase q).map fun c => runM m c u) hC' fun x hx => by
    obtain ⟨c, hc, rfl⟩ := him x hx
    by_cases e : c = q
    · subst e
      exact List.mem_map.2 ⟨p, (List.mem_erase_of_ne hpq).2 hp, hu⟩
    · exact List.mem_map.2 ⟨c, (List.mem_erase_of_ne e).2 hc, rfl⟩
  rw [List.length_map, List.length_erase_of_mem hq] at h1
  have := List.length_pos_of_mem hq
  omega
end Go.Proofs.YtlpfglkopnmlnaaDoor
namespace Go.Proofs.YtlpfglkopnmlnaaDoor
open Go.RowKit Go.Shelf
attribute [local go_sem] Oper.semAt_some
/-- What hangs on the blocks below N alone. -/
def Dep (N : Nat) {β : Type} (J : β → World → Prop) : Prop :=
  ∀ s W W', J s W → W'.os = W.os → W'.tape = W.tape → W'.output = W.output → W.heap.size ≤ W'.heap.size → N ≤ W.heap.size → (∀ k, k < N → W'.heap[k]? = W.heap[k]?) → J s W'
theorem stable_dep {N : Nat} {β : Type} {J : β → World → Prop} (h : Dep N J) : Stable N (fun X s W => ((∀ k, X k → N ≤ k) ∧ N ≤ W.heap.size) ∧ J s W) := by
  rintro X X' s W W' ⟨⟨h1, h2⟩, h3⟩ a1 a2 a3 a4 he hX'
  refine ⟨⟨fun k hk => ?_, by omega⟩, h s W W' h3 a1 a2 a3 a4 h2 fun k hk => ?_⟩
  · rcases hX' k hk with h | h
    · exact h1 k h
    · omega
  · have hx : W.heap[k]? = some W.heap[k] := Array.getElem?_eq_getElem (by omega)
    rw [he k _ hx (fun h => by have := h1 k h; omega) (.inl hk), ← hx]
/-- The pairs that were looked at. -/
def seenQ (C pre : List Nat) : List (Nat × Nat) := pre.flatMap fun p => C.map fun q => (p, q)
theorem seenQ_snoc (C pre : List Nat) (p : Nat) : seenQ C (pre ++ [p]) = seenQ C pre ++ C.map fun q => (p, q) := by simp [seenQ, List.flatMap_append]
theorem seenQ_all (C : List Nat) : seenQ C C = prodL C := rfl
/-- The four boxes of the function. -/
structure SoonB (w : World) (S B : Nat) (best : Nat × Nat) (W : World) : Prop where
  set : W.heap[w.heap.size]? = some (.cells #[.int .u64 S] 79 (0, 0))
  map : W.heap[w.heap.size + 1]? = some (.cells #[.map (some B)] 82 (0, 0))
  res : W.heap[w.heap.size + 1 + 1]? = some (.cells #[.int .i64 0, .int .i64 0] 88 (0, 0))
  best : W.heap[w.heap.size + 1 + 1 + 1]? = some (.cells #[.int .i64 best.1, .int .i64 best.2] 88 (0, 0))
  below : Below w.heap.size w W
theorem SoonB.keep {w W W' : World} {S B : Nat} {best : Nat × Nat} (h : SoonB w S B best W) (a1 : W'.os = W.os) (a2 : W'.tape = W.tape) (a3 : W'.output = W.output) (a4 : W.heap.size ≤ W'.heap.size) (hk : ∀ k, k < w.heap.size + 1 + 1 + 1 + 1 → W'.heap[k]? = W.heap[k]?) : SoonB w S B best W' := by
  obtain ⟨h1, h2, h3, h4, h5⟩ := h
  refine ⟨(hk _ (by omega)).trans h1, (hk _ (by omega)).trans h2, (hk _ (by omega)).trans h3, (hk _ (by omega)).trans h4, ⟨a1.trans h5.os, a2.trans h5.tape, a3.trans h5.output, Nat.le_trans h5.size a4, fun k hk2 => (hk k (by omega)).trans (h5.block k hk2)⟩⟩
theorem SoonB.set_best {w W : World} {S B : Nat} {best : Nat × Nat} (h : SoonB w S B best W) (p q : Nat) : SoonB w S B (p, q) ((W.setCell ⟨w.heap.size + 1 + 1 + 1, 0, none⟩ (.int .i64 p)).setCell ⟨w.heap.size + 1 + 1 + 1, 1, none⟩ (.int .i64 q)) := by
  obtain ⟨h1, h2, h3, h4, h5⟩ := h
  have hk : ∀ k, k ≠ w.heap.size + 1 + 1 + 1 → ((W.setCell ⟨w.heap.size + 1 + 1 + 1, 0, none⟩ (.int .i64 p)).setCell ⟨w.heap.size + 1 + 1 + 1, 1, none⟩ (.int .i64 q)).heap[k]? = W.heap[k]? := fun k hk => by
    rw [Below.heap_setCell _ _ _ _ hk, Below.heap_setCell _ _ _ _ hk]
  exact ⟨(hk _ (by omega)).trans h1, (hk _ (by omega)).trans h2, (hk _ (by omega)).trans h3, pair_stored h4 _ _, (h5.setCell (p := ⟨w.heap.size + 1 + 1 + 1, 0, none⟩) (by show w.heap.size ≤ w.heap.size + 1 + 1 + 1; omega) _).setCell (p := ⟨w.heap.size + 1 + 1 + 1, 1, none⟩) (by show w.heap.size ≤ w.heap.size + 1 + 1 + 1; omega) _⟩
theorem one_block {w : World} {b : Nat} {t : TypeId} {v : Value} (h : w.heap[b]? = some (.cells #[v] t (0, 0))) : w.cell? ⟨b, 0, none⟩ = some v ∧ w.frozen? ⟨b, 0, none⟩ = false := by
  constructor <;> simp [World.cell?, World.frozen?, h]
theorem soon_start (w : World) (S B : Nat) : SoonB w S B (0, 0) ((((w.alloc (.cells #[.int .u64 S] 79)).alloc (.cells #[.map (some B)] 82)).alloc (.cells #[.int .i64 0, .int .i64 0] 88)).alloc (.cells #[.int .i64 0, .int .i64 0] 88)) := by
  have h1 := World.alloc_heap_new w (.cells #[.int .u64 S] 79)
  have h2 := World.alloc_heap_new (w.alloc (.cells #[.int .u64 S] 79)) (.cells #[.map (some B)] 82)
  have h3 := World.alloc_heap_new ((w.alloc (.cells #[.int .u64 S] 79)).alloc (.cells #[.map (some B)] 82)) (.cells #[.int .i64 0, .int .i64 0] 88)
  have h4 := World.alloc_heap_new (((w.alloc (.cells #[.int .u64 S] 79)).alloc (.cells #[.map (some B)] 82)).alloc (.cells #[.int .i64 0, .int .i64 0] 88)) (.cells #[.int .i64 0, .int .i64 0] 88)
  simp only [World.size_alloc] at h2 h3 h4
  refine ⟨?_, ?_, ?_, h4, bal (bal (bal (bal (Below.refl _ _) _) _) _) _⟩
  · rw [Below.heap_alloc _ _ _ (by simp only [World.size_alloc]; omega), Below.heap_alloc _ _ _ (by simp only [World.size_alloc]; omega), Below.heap_alloc _ _ _ (by simp only [World.size_alloc]; omega), h1]
  · rw [Below.heap_alloc _ _ _ (by simp only [World.size_alloc]; omega), Below.heap_alloc _ _ _ (by simp only [World.size_alloc]; omega), h2]
  · rw [Below.heap_alloc _ _ _ (by simp only [World.size_alloc]; omega), h3]
theorem dep_soon (w : World) (S B : Nat) {β : Type} (f : β → Nat × Nat) : Dep (w.heap.size + 1 + 1 + 1 + 1) (fun s W => SoonB w S B (f s) W) :=
  fun _ _ _ hs a1 a2 a3 a4 _ hk => hs.keep a1 a2 a3 a4 hk
/-- What the inner loop's rounds keep of the outer one's. -/
structure SoonI (w : World) (S B p bp N : Nat) (Xo : Blocks) (Wb : World) (best : Nat × Nat) (W : World) : Prop where
  boxes : SoonB w S B best W
  pbox : W.heap[bp]? = some (.cells #[.int .i64 p] 3 (0, 0))
  kf : KeepsFrom (w.heap.size + 1 + 1 + 1 + 1) Wb W
  kp : Keep w.heap.size Xo Wb W
theorem dep_soonI (w : World) (S B p bp N : Nat) (Xo : Blocks) (Wb : World) (hN : Wb.heap.size ≤ N) (hb : bp < N) (h4 : w.heap.size + 1 + 1 + 1 + 1 ≤ N) {β : Type} (f : β → Nat × Nat) : Dep N (fun s W => SoonI w S B p bp N Xo Wb (f s) W) := by
  rintro s W W' ⟨h1, h2, h3, h5⟩ a1 a2 a3 a4 a5 hk
  refine ⟨h1.keep a1 a2 a3 a4 fun k hk2 => hk k (by omega), (hk _ hb).trans h2, ?_, ⟨a1.trans h5.os, a2.trans h5.tape, a3.trans h5.output, Nat.le_trans h5.size a4, fun k hk2 hc => (hk k (by omega)).trans (h5.block k hk2 hc)⟩⟩
  exact ⟨Nat.le_trans h3.size a4, fun k o hk1 hk2 ho => (hk k (by have := (Array.getElem?_eq_some_iff.1 hk2).1; omega)).trans (h3.same k o hk1 hk2 ho)⟩
theorem kf_drewN (B : Nat) (W : World) (n : Nat) : KeepsFrom B W (W.drewN n) := kf_below (below_dr W n)
theorem SoonI.drew {w : World} {S B p bp N : Nat} {Xo : Blocks} {Wb W : World} {best : Nat × Nat} (h : SoonI w S B p bp N Xo Wb best W) (n : Nat) : SoonI w S B p bp N Xo Wb best (W.drewN n) :=
  ⟨h.boxes.keep rfl rfl rfl (Nat.le_refl _) fun _ _ => rfl, h.pbox, h.kf.trans (kf_drewN _ _ _), h.kp.trans (Keep.of_below (below_dr W n))⟩
theorem SoonI.set_best {w : World} {S B p bp N : Nat} {Xo : Blocks} {Wb W : World} {best : Nat × Nat} (h : SoonI w S B p bp N Xo Wb best W) (hX : ¬ Xo (w.heap.size + 1 + 1 + 1)) (hb : bp ≠ w.heap.size + 1 + 1 + 1) (a d : Nat) :
    SoonI w S B p bp N Xo Wb (a, d) ((W.setCell ⟨w.heap.size + 1 + 1 + 1, 0, none⟩ (.int .i64 a)).setCell ⟨w.heap.size + 1 + 1 + 1, 1, none⟩ (.int .i64 d)) := by
  refine ⟨h.boxes.set_best a d, ?_, (h.kf.trans (kf_set _ _ _ _)).trans (kf_set _ _ _ _), (h.kp.trans (keep_set_at _ _ _ _ (by omega) hX)).trans (keep_set_at _ _ _ _ (by omega) hX)⟩
  rw [Below.heap_setCell _ _ _ _ hb, Below.heap_setCell _ _ _ _ hb, h.pbox]
set_option maxRecDepth 100000 in
set_option maxHeartbeats 4000000 in
theorem soonest_any (m : List (List Int)) (S B : Nat) (w : World) (hT : Tab w) (hv : validM m = true) (hS : S < 2 ^ m.length) (hL : LenMap m w B) (hall : ∀ p q, p < q → q < m.length → ∃ k, mergeP m p q k) :
    Calls Tryd.prog 69 #[.int .u64 S, .map (some B)] w fun e w' => e = .returned (.agg #[.int .i64 ((soonOf m (prodL (elems S))).1 : Nat), .int .i64 ((soonOf m (prodL (elems S))).2 : Nat)]) ∧ Below w.heap.size w w' := by
  obtain ⟨p1, p2, p3, p4, -⟩ := valid_parts hv
  have hS64 : S < 2 ^ 64 := Nat.lt_of_lt_of_le hS (Nat.pow_le_pow_right (by decide) (by omega))
  have hfo := follows
  refine (callsIn_wide (n := 0)).1 ?_
  refine callsIn_of_wp_marks Tryd.func69 rfl trivial ?_ rfl
  simp only [Tryd.ntmps69, List.size_toArray, List.length_cons, List.length_nil, Nat.reduceAdd, Nat.reduceSub, Array.replicate_succ, Array.replicate_zero, List.push_toArray, List.append_toArray, List.nil_append, List.cons_append]
  gi_wp2
  have hst := soon_start w S B
  have hsz : ((((w.alloc (.cells #[.int .u64 S] 79)).alloc (.cells #[.map (some B)] 82)).alloc (.cells #[.int .i64 0, .int .i64 0] 88)).alloc (.cells #[.int .i64 0, .int .i64 0] 88)).heap.size = w.heap.size + 1 + 1 + 1 + 1 := by simp
  generalize ((((w.alloc (.cells #[.int .u64 S] 79)).alloc (.cells #[.map (some B)] 82)).alloc (.cells #[.int .i64 0, .int .i64 0] 88)).alloc (.cells #[.int .i64 0, .int .i64 0] 88)) = w1 at *
  have hT1 := hT.on hst.below
  have hstI := stable_dep (dep_soon w S B (fun pre : List Nat => soonOf m (seenQ (elems S) pre)))
  rw [← hsz] at hstI
  refine range_law2 (gf := 72) (fb := #[.int .u64 S]) (lb := #[]) rfl (enters_of Tryd.func72 (by kernel_rfl) rfl)
    (All_seq S hS64 w.heap.size hT.lt w1 (by omega) hT1) (fun _ _ _ _ _ _ => trivial) (by omega) (Below.refl _ _) (fun _ => rfl)
    (fun X pre W => ((∀ k, X k → w1.heap.size ≤ k) ∧ w1.heap.size ≤ W.heap.size) ∧ SoonB w S B (soonOf m (seenQ (elems S) pre)) W)
    (fun _ _ _ _ => False) hstI (fun _ _ _ _ _ _ hs _ _ _ _ _ _ => hs) ⟨⟨fun _ h => h.elim, Nat.le_refl _⟩, hst⟩
    (fun X p a' W => ∃ bp, a' = { tmps := #[.int .u64 S, .map (some B), .pointer (some ⟨w.heap.size, 0, none⟩), .pointer (some ⟨w.heap.size + 1, 0, none⟩), .pointer (some ⟨w.heap.size + 1 + 1, 0, none⟩), .pointer (some ⟨w.heap.size + 1 + 1 + 1, 0, none⟩), .pointer (some ⟨bp, 0, none⟩), undef, .int .u64 S, .func (.func 72) #[.int .u64 S] #[], .int .i64 p, undef, undef, undef, undef, undef, undef, undef, undef, undef, undef, undef, undef, undef, undef, undef, undef, undef, undef, undef, undef, undef, undef, undef, undef, undef, undef], defers := [] } ∧
      W.heap[bp]? = some (.cells #[.int .i64 p] 3 (0, 0)) ∧ w1.heap.size ≤ bp ∧ ¬ X bp)
    ?ax ?assign ?body ?done ?stop
  case ax =>
    rintro X p a' W l o o' ⟨bp, h1, h2, h3, h4⟩ _ hl hc
    refine ⟨bp, h1, (World.putObj_heap_other (fun e => ?_)).trans h2, h3, h4⟩
    subst e
    rw [hl] at h2
    cases h2
    cases hc
  case assign =>
    intro l X pre p W K hXs hi hK
    obtain ⟨⟨hX1, hX2⟩, hB⟩ := hi
    gi_wp2
    refine hK _ _ (kf_below (bal (Below.refl _ _) _)) (Keep.of_below (bal (Below.refl _ _) _)) ⟨⟨hX1, by simp; omega⟩, hB.keep rfl rfl rfl (by simp) fun k hk => Below.heap_alloc _ _ _ (by omega)⟩ ⟨_, rfl, ?_, hX2, fun h => by have := hXs _ h; omega⟩
    exact World.alloc_heap_new _ _
  case body =>
    rintro l X pre p a' Wb hl hrec hXl hXs ⟨⟨hX1, hX2⟩, hB⟩ _ ⟨bp, rfl, hpb, hbp1, hbp2⟩ hsp
    obtain ⟨c1, -⟩ := one_block hB.set
    gi_wp2
    have hbl := (Array.getElem?_eq_some_iff.1 hpb).1
    have hTb := hT.on hB.below
    have hstJ := stable_dep (dep_soonI w S B p bp Wb.heap.size X Wb (Nat.le_refl _) hbl (by omega) (fun preI : List Nat => soonOf m (seenQ (elems S) pre ++ preI.map fun q => (p, q))))
    refine range_law_in (gf := 72) (fb := #[.int .u64 S]) (lb := #[]) hrec rfl (enters_of Tryd.func72 (by kernel_rfl) rfl)
      (All_seq S hS64 w.heap.size hT.lt Wb (by omega) hTb) (fun _ _ _ _ _ _ => trivial) (by omega) (Below.refl _ _) (fun _ => rfl)
      (fun Y preI W => ((∀ k, Y k → Wb.heap.size ≤ k) ∧ Wb.heap.size ≤ W.heap.size) ∧ SoonI w S B p bp Wb.heap.size X Wb (soonOf m (seenQ (elems S) pre ++ preI.map fun q => (p, q))) W)
      (fun _ _ _ _ => False) hstJ (fun _ _ _ _ _ _ hs _ _ _ _ _ _ => hs) ⟨⟨fun _ h => h.elim, Nat.le_refl _⟩, by rw [List.map_nil, List.append_nil]; exact ⟨hB, hpb, KeepsFrom.refl _ _, Keep.refl _ _ _⟩⟩
      (fun q a' _ => a' = { tmps := #[.int .u64 S, .map (some B), .pointer (some ⟨w.heap.size, 0, none⟩), .pointer (some ⟨w.heap.size + 1, 0, none⟩), .pointer (some ⟨w.heap.size + 1 + 1, 0, none⟩), .pointer (some ⟨w.heap.size + 1 + 1 + 1, 0, none⟩), .pointer (some ⟨bp, 0, none⟩), .int .i64 q, .int .u64 S, .func (.func 72) #[.int .u64 S] #[], .int .i64 p, .int .u64 S, .func (.func 72) #[.int .u64 S] #[], .int .i64 q, undef, undef, undef, undef, undef, undef, undef, undef, undef, undef, undef, undef, undef, undef, undef, undef, undef, undef, undef, undef, undef, undef, undef], defers := [] })
      (fun _ _ _ _ _ _ _ hs _ _ _ _ _ _ => hs) ?assign2 ?body2 ?done2 ?stop2
    case assign2 =>
      intro l' Y preI q W K hi hK
      gi_wp2
      exact hK _ _ (KeepsFrom.refl _ _) (Keep.refl _ _ _) hi rfl
    case body2 =>
      rintro l' Y preI q a' W hl' hrec' hYl hYs ⟨⟨hY1, hY2⟩, hJ⟩ _ rfl hspq
      obtain ⟨hSB, hpbW, hkf, hkp⟩ := hJ
      have hq : q < m.length := elems_lt hS (hspq.subset (by simp))
      have hp : p < m.length := elems_lt hS (hsp.subset (by simp))
      have hQ : ∀ e ∈ seenQ (elems S) pre ++ preI.map (fun q => (p, q)), e.2 < m.length := by
        intro e he
        rcases List.mem_append.1 he with h1 | h1
        · obtain ⟨a, _, h2⟩ := List.mem_flatMap.1 h1
          obtain ⟨d, hd, rfl⟩ := List.mem_map.1 h2
          exact elems_lt hS hd
        · obtain ⟨d, hd, rfl⟩ := List.mem_map.1 h1
          exact elems_lt hS (hspq.subset (by simp [hd]))
      have hok := soonOf_ok m (seenQ (elems S) pre ++ preI.map fun q => (p, q))
      have hsn := soonOf_snoc m (seenQ (elems S) pre ++ preI.map fun q => (p, q)) (p, q)
      rw [show seenQ (elems S) pre ++ preI.map (fun q => (p, q)) ++ [(p, q)] = seenQ (elems S) pre ++ (preI ++ [q]).map (fun q => (p, q)) from by simp] at hsn
      have Hsn := hid hsn
      obtain ⟨bst, hbst⟩ : ∃ b, soonOf m (seenQ (elems S) pre ++ preI.map fun q => (p, q)) = b := ⟨_, rfl⟩
      rw [hbst] at hSB hok
      have Hbst := hid hbst
      have HI := hid (fun nq => SoonI.drew (N := Wb.heap.size) ⟨hSB, hpbW, hkf, hkp⟩ nq)
      have HLD := hid (fun nq => show LenMap m (W.drewN nq) B from (hL.below (hSB.below)).below (below_dr W nq))
      obtain ⟨m1, -⟩ := one_block hSB.map
      obtain ⟨pb1, -⟩ := one_block hpbW
      have hXn : ¬ X (w.heap.size + 1 + 1 + 1) := fun h => by have := hX1 _ h; omega
      have hYn : ¬ Y (w.heap.size + 1 + 1 + 1) := fun h => by have := hY1 _ h; omega
      have hWl := hSB.below.size
      obtain ⟨b1, b2⟩ := bst
      obtain ⟨t1, t2, t3, t4⟩ := pair_block hSB.best
      simp only at t1 t2
      have Hend := hid (fun nq => show Keep w.heap.size Y W (((W.drewN nq).setCell ⟨w.heap.size + 1 + 1 + 1, 0, none⟩ (.int .i64 p)).setCell ⟨w.heap.size + 1 + 1 + 1, 1, none⟩ (.int .i64 q)) from ((Keep.of_below (below_dr W nq)).trans (keep_set_at _ _ _ _ (by omega) hYn)).trans (keep_set_at _ _ _ _ (by omega) hYn))
      have Hkf := hid (fun nq => show KeepsFrom Wb.heap.size W (((W.drewN nq).setCell ⟨w.heap.size + 1 + 1 + 1, 0, none⟩ (.int .i64 p)).setCell ⟨w.heap.size + 1 + 1 + 1, 1, none⟩ (.int .i64 q)) from ((kf_drewN _ _ _).trans (kf_set _ _ _ _)).trans (kf_set _ _ _ _))
      have Hset := hid (fun nq => (HI.out nq).set_best hXn (by omega) p q)
      have HsetEnd := hid (fun (hs : soonStep m (b1, b2) (p, q) = (p, q)) => show soonOf m (seenQ (elems S) pre ++ (preI ++ [q]).map fun q => (p, q)) = (p, q) from by rw [Hsn.out, Hbst.out, hs])
      have HsameEnd := hid (fun (hs : soonStep m (b1, b2) (p, q) = (b1, b2)) => show soonOf m (seenQ (elems S) pre ++ (preI ++ [q]).map fun q => (p, q)) = (b1, b2) from by rw [Hsn.out, Hbst.out, hs])
      clear hsn hbst hSB hpbW hkf hkp hspq hYs hrec'
      dsimp only
      by_cases hlt : p < q
      · have hlt2 : decide (p < q) = true := by simp; omega
        have hlt3 : (p : Int) < q := by omega
        have hYsz : ∀ nq, Wb.heap.size ≤ (((W.drewN nq).setCell ⟨w.heap.size + 1 + 1 + 1, 0, none⟩ (.int .i64 p)).setCell ⟨w.heap.size + 1 + 1 + 1, 1, none⟩ (.int .i64 q)).heap.size := fun nq => by simp [World.setCell]; omega
        have HYsz := hid hYsz
        have hng := noGuard1
        have heq := fun a b c d w => equalIn_pair Tryd.underlying88 a b c d w
        clear hYsz
        rcases hok with ⟨hb0, -⟩ | ⟨hbm, hb12, -⟩
        · simp only [Prod.mk.injEq] at hb0
          obtain ⟨rfl, rfl⟩ := hb0
          have Hs := hid (HsetEnd.out (by unfold soonStep; rw [if_pos ⟨hlt, .inl rfl⟩]))
          clear HsameEnd HsetEnd hQ
          gi_wp2
          refine wp_region_round l' (by kernel_rfl) (by kernel_rfl) (by kernel_rfl) ?_
          repeat (go_big_quiet_step (fail))
          refine wpQuiet_nil ?_
          intro nq
          gi_wp2
          exact ⟨Hkf.out nq, Hend.out nq, ⟨hY1, HYsz.out nq⟩, by rw [Hs.out]; exact Hset.out nq⟩
        · have hb2 := hQ _ hbm
          simp only at hb2 hb12
          obtain ⟨k1, hk1⟩ := hall p q hlt hq
          obtain ⟨j1, -, hd1⟩ := mdist_some hk1
          obtain ⟨k2, hk2⟩ := hall b1 b2 hb12 hb2
          obtain ⟨j2, -, hd2⟩ := mdist_some hk2
          have hf1 := fun nq => (HLD.out nq).find hv (Nat.le_of_lt hlt) hq hd1
          have hf2 := fun nq => (HLD.out nq).find hv (Nat.le_of_lt hb12) hb2 hd2
          have hz1 : ((b2 : Int) == 0) = false := by rw [beq_eq_false_iff_ne]; omega
          have hz2 : (((b1 : Int) == 0) && ((b2 : Int) == 0)) = false := by rw [hz1, Bool.and_false]
          have hl1 := mlen_of hv hp hq hd1
          have hl2 := mlen_of hv (by omega) hb2 hd2
          by_cases hj : j1 < j2
          · have hj2 : decide (j1 < j2) = true := by simp; omega
            have hj3 : (j1 : Int) < j2 := by omega
            have Hs := hid (HsetEnd.out (by unfold soonStep; rw [if_pos ⟨hlt, .inr (by simp only; rw [hl1, hl2]; omega)⟩]))
            clear HsameEnd HsetEnd hQ hbm hl1 hl2 hk1 hk2 hd1 hd2
            gi_wp2
            refine wp_region_round l' (by kernel_rfl) (by kernel_rfl) (by kernel_rfl) ?_
            repeat (go_big_quiet_step (fail))
            refine wpQuiet_nil ?_
            intro nq
            gi_wp2
            exact ⟨Hkf.out nq, Hend.out nq, ⟨hY1, HYsz.out nq⟩, by rw [Hs.out]; exact Hset.out nq⟩
          · have hj2 : decide (j1 < j2) = false := by simp; omega
            have hj3 : ¬ (j1 : Int) < j2 := by omega
            have Hs := hid (HsameEnd.out (by unfold soonStep; rw [if_neg (fun h => by
              rcases h.2 with h1 | h1
              · simp only [Prod.mk.injEq] at h1; omega
              · simp only at h1; rw [hl1, hl2] at h1; omega)]))
            clear HsameEnd HsetEnd hQ hbm hl1 hl2 hk1 hk2 hd1 hd2
            gi_wp2
            refine wp_region_round l' (by kernel_rfl) (by kernel_rfl) (by kernel_rfl) ?_
            repeat (go_big_quiet_step (fail))
            refine wpQuiet_nil ?_
            intro nq
            gi_wp2
            exact ⟨kf_drewN _ _ _, Keep.of_below (below_dr W nq), ⟨hY1, hY2⟩, by rw [Hs.out]; exact HI.out nq⟩
      · have hnl : decide ((p : Int) < q) = false := by simp; omega
        have hnl2 : decide (p < q) = false := by simp; omega
        have hnl3 : ¬ (p : Int) < q := by omega
        have Hs := hid (HsameEnd.out (by unfold soonStep; rw [if_neg (fun h => hlt h.1)]))
        clear HsameEnd HsetEnd hok hQ
        gi_wp2
        refine wp_region_round l' (by kernel_rfl) (by kernel_rfl) (by kernel_rfl) ?_
        repeat (go_big_quiet_step (fail))
        refine wpQuiet_nil ?_
        intro nq
        gi_wp2
        exact ⟨kf_drewN _ _ _, Keep.of_below (below_dr W nq), ⟨hY1, hY2⟩, by rw [Hs.out]; exact HI.out nq⟩
    case done2 =>
      rintro Y xs W rfl ⟨⟨hY1, hY2⟩, hSB, hpbW, hkf, hkp⟩
      gi_wp2
      refine ⟨?_, ?_, ⟨hX1, by omega⟩, ?_⟩
      · rw [hsz]; exact hkf
      · exact hkp
      · rw [seenQ_snoc]; exact hSB
    case stop2 =>
      rintro Y c preI W _ h
      exact h.elim
  case done =>
    rintro D X xs W hD rfl ⟨⟨hX1, hX2⟩, hB⟩ hK
    rw [seenQ_all] at hB
    obtain ⟨r, hr⟩ : ∃ r, soonOf m (prodL (elems S)) = r := ⟨_, rfl⟩
    rw [hr] at hB
    have Hr := hid hr
    clear hr
    obtain ⟨r1, r2⟩ := r
    obtain ⟨c1, c2, -, -⟩ := pair_block hB.best
    obtain ⟨-, -, c3, c4⟩ := pair_block hB.res
    obtain ⟨d1, d2, -, -⟩ := pair_block hB.res
    gi_wp2
    have hst2 := pair_stored hB.res (.int .i64 (r1 : Nat)) (.int .i64 (r2 : Nat))
    have hBs := (hB.below.setCell (p := ⟨w.heap.size + 1 + 1, 0, none⟩) (by show w.heap.size ≤ w.heap.size + 1 + 1; omega) (.int .i64 (r1 : Nat))).setCell (p := ⟨w.heap.size + 1 + 1, 1, none⟩) (by show w.heap.size ≤ w.heap.size + 1 + 1; omega) (.int .i64 (r2 : Nat))
    have hDn : D ≠ w.heap.size + 1 + 1 := by omega
    have hK2 : ((W.setCell ⟨w.heap.size + 1 + 1, 0, none⟩ (.int .i64 (r1 : Nat))).setCell ⟨w.heap.size + 1 + 1, 1, none⟩ (.int .i64 (r2 : Nat))).heap[D]? = some (.deferred (some [])) := by
      rw [Below.heap_setCell _ _ _ _ hDn, Below.heap_setCell _ _ _ _ hDn, hK]
    generalize (W.setCell ⟨w.heap.size + 1 + 1, 0, none⟩ (.int .i64 (r1 : Nat))).setCell ⟨w.heap.size + 1 + 1, 1, none⟩ (.int .i64 (r2 : Nat)) = Y at *
    have hYb := belowK_b (w := w) (Nat.le_refl _) Y D (.deferred (some [])) (.deferred none) (by omega) hK2 rfl rfl
    have hst3 : (Y.putObj D (.deferred none)).heap[w.heap.size + 1 + 1]? = some (.cells #[.int .i64 (r1 : Nat), .int .i64 (r2 : Nat)] 88 (0, 0)) := (World.putObj_heap_other (by omega)).trans hst2
    obtain ⟨e1, e2, -, -⟩ := pair_block hst3
    refine ⟨by simp, .inl ⟨_, _, rfl, run_takeDeferred hK2, ?_⟩⟩
    refine ⟨.agg #[.int .i64 (r1 : Nat), .int .i64 (r2 : Nat)], by simp [results, Tryd.results69, go_sem, e1, e2], by rw [Hr.out], hBs.trans hYb⟩
  case stop =>
    rintro D X c pre W _ _ h _
    exact h.elim
end Go.Proofs.YtlpfglkopnmlnaaDoor
namespace Go.Proofs.YtlpfglkopnmlnaaDoor
open Go.RowKit Go.Shelf
/-- The word that merges the pair that is merged soonest. -/
def stepW (m : List (List Int)) (S : Nat) : List Int := mW m (mlen m (soonOf m (prodL (elems S))).1 (soonOf m (prodL (elems S))).2).toNat (soonOf m (prodL (elems S))).1 (soonOf m (prodL (elems S))).2
/-- Word by word, until one state is left. -/
def greedyW (m : List (List Int)) : Nat → Nat → List Int
  | 0, _ => []
  | f + 1, S => if (elems S).length ≤ 1 then [] else stepW m S ++ greedyW m f (imgWord m S (stepW m S))
/-- All pairs of states are merged by some word. -/
def allMerge (m : List (List Int)) : Prop := ∀ p q, p < q → q < m.length → ∃ k, mergeP m p q k
theorem elems_nodup (S : Nat) : (elems S).Nodup := List.Pairwise.imp (fun {a b} h => Nat.ne_of_lt h) (elems_sorted S)
theorem greedy_step {m : List (List Int)} (hv : validM m = true) (hall : allMerge m) {S : Nat} (hS : S < 2 ^ m.length) (h2 : 2 ≤ (elems S).length) :
    ∃ t r, soonOf m (prodL (elems S)) = r ∧ r.1 ≤ r.2 ∧ r.2 < m.length ∧ mdist m r.1 r.2 t ∧ stepW m S = mW m t r.1 r.2 ∧ (stepW m S).length = t ∧ (stepW m S).all (inB 0 ((letters m : Int) - 1)) = true ∧
      2 * t ≤ (m.length - (elems S).length + 1) * (m.length - (elems S).length + 2) ∧ imgWord m S (stepW m S) < 2 ^ m.length ∧ (elems (imgWord m S (stepW m S))).length < (elems S).length ∧ 1 ≤ (elems (imgWord m S (stepW m S))).length ∧ (elems S).length ≤ m.length := by
  have hm : m.length ≤ 64 := by have := (valid_parts hv).2.1; omega
  have hlt : ∀ c ∈ elems S, c < m.length := fun c hc => elems_lt hS hc
  obtain ⟨t, a1, a2, a3, a4, a5⟩ := greedy_pair hv (elems_nodup S) hlt h2 hall
  have b1 := hlt _ a1
  have b2 := hlt _ a2
  have e1 : stepW m S = mW m t (soonOf m (prodL (elems S))).1 (soonOf m (prodL (elems S))).2 := by
    unfold stepW
    rw [mlen_of hv b1 b2 a4]
    rfl
  obtain ⟨c1, c2, c3⟩ := mW_ok hv t _ _ b1 b2 a4
  rw [← e1] at c1 c2 c3
  have hI := imgWord_lt hv (stepW m S) S hS c1
  have hmem : ∀ s, s ∈ elems S → runM m s (stepW m S) ∈ elems (imgWord m S (stepW m S)) := fun s hs => by
    have hb := (mem_elems _ _).1 hs
    have h1 := (imgWord_mem hv (stepW m S) S (runM m s (stepW m S)) hS c1).2 ⟨s, hlt s hs, hb.2, rfl⟩
    have hr := runM_lt hv (stepW m S) s (hlt s hs) c1
    exact (mem_elems _ _).2 ⟨by omega, h1⟩
  refine ⟨t, _, rfl, Nat.le_of_lt a3, b2, a4, e1, c2, c1, a5, hI, ?_, List.length_pos_of_mem (hmem _ a1), ?_⟩
  · refine image_less (u := stepW m S) (m := m) (elems_nodup _) (fun x hx => ?_) a1 a2 (Nat.ne_of_lt a3) c3
    obtain ⟨s, h1, h2, h3⟩ := (imgWord_mem hv (stepW m S) S x hS c1).1 ((mem_elems _ _).1 hx).2
    exact ⟨s, (mem_elems _ _).2 ⟨by omega, h2⟩, h3⟩
  · have := nodup_sub (A := elems S) (B := List.range m.length) (elems_nodup S) (fun x hx => List.mem_range.2 (hlt x hx))
    simpa using this
theorem greedy_end {m : List (List Int)} {S : Nat} (h : (elems S).length ≤ 1) : ∀ f, greedyW m f S = []
  | 0 => rfl
  | f + 1 => by rw [greedyW, if_pos h]
theorem greedy_more {m : List (List Int)} {S f : Nat} (h : ¬ (elems S).length ≤ 1) : greedyW m (f + 1) S = stepW m S ++ greedyW m f (imgWord m S (stepW m S)) := by rw [greedyW, if_neg h]
/-- The word is one, leads to one state, and is short. -/
theorem greedy_ok {m : List (List Int)} (hv : validM m = true) (hall : allMerge m) : ∀ f S len, S < 2 ^ m.length → 1 ≤ (elems S).length → (elems S).length ≤ f + 1 →
    6 * len ≤ (m.length - (elems S).length) * (m.length - (elems S).length + 1) * (m.length - (elems S).length + 2) →
    (greedyW m f S).all (inB 0 ((letters m : Int) - 1)) = true ∧ (elems (imgWord m S (greedyW m f S))).length = 1 ∧ 6 * (len + (greedyW m f S).length) ≤ (m.length - 1) * (m.length - 1 + 1) * (m.length - 1 + 2)
  | 0, S, len, hS, h1, hf, hl => by
    have e : (elems S).length = 1 := by omega
    rw [e] at hl
    exact ⟨rfl, by simpa [greedyW, imgWord] using e, by simpa [greedyW] using hl⟩
  | f + 1, S, len, hS, h1, hf, hl => by
    by_cases h : (elems S).length ≤ 1
    · have e : (elems S).length = 1 := by omega
      rw [e] at hl
      rw [greedy_end h]
      exact ⟨rfl, by simpa [imgWord] using e, by simpa using hl⟩
    · obtain ⟨t, r, b1, b2, b3, b4, b5, b6, b7, b8, b9, b10, b11, b12⟩ := greedy_step hv hall hS (by omega)
      have hs := steps_sum (k' := (elems (imgWord m S (stepW m S))).length) hl b8 b10 b12
      obtain ⟨c1, c2, c3⟩ := greedy_ok hv hall f (imgWord m S (stepW m S)) (len + t) b9 b11 (by omega) hs
      rw [greedy_more h]
      refine ⟨by rw [List.all_append, b7, c1]; rfl, by rw [imgWord_append]; exact c2, ?_⟩
      rw [List.length_append, b6]
      omega
/-- The whole word, from all states. -/
def resetW (m : List (List Int)) : List Int := greedyW m m.length (2 ^ m.length - 1)
theorem elems_below (n : Nat) (hn : n ≤ 64) : elems (2 ^ n - 1) = List.range n := by
  rw [elems_range (n := n) (by have := Nat.two_pow_pos n; omega) hn]
  refine List.filter_eq_self.2 fun a ha => ?_
  rw [testBit_below]
  simpa using ha
theorem resetW_ok {m : List (List Int)} (hv : validM m = true) (hall : allMerge m) :
    (resetW m).all (inB 0 ((letters m : Int) - 1)) = true ∧ (elems (imgWord m (2 ^ m.length - 1) (resetW m))).length = 1 ∧ (resetW m).length ≤ (m.length * m.length * m.length - m.length) / 6 := by
  obtain ⟨p1, p2, -⟩ := valid_parts hv
  have hel := elems_below m.length (by omega)
  have hpow := Nat.two_pow_pos m.length
  obtain ⟨c1, c2, c3⟩ := greedy_ok hv hall m.length (2 ^ m.length - 1) 0 (by omega) (by rw [hel]; simpa using p1) (by rw [hel]; simp) (Nat.zero_le _)
  exact ⟨c1, c2, steps_most p1 (by rw [Nat.zero_add] at c3; exact c3)⟩
end Go.Proofs.YtlpfglkopnmlnaaDoor
namespace Go.Proofs.YtlpfglkopnmlnaaDoor
open Go.RowKit Go.Shelf
theorem LenMap.len {m : List (List Int)} {w : World} {B : Nat} (hL : LenMap m w B) : ∃ c : Nat, (∀ ty, (Builtin.len_ #[82] ty #[.map (some B)]).run Tryd.prog w = .ok (.int .i64 c) w) ∧ (m.length * (m.length + 1) ≤ 2 * c ↔ allMerge m) ∧ c ≤ 3600 := by
  obtain ⟨n, V, T, c, h1, h2, h3, h4⟩ := hL
  exact ⟨c, fun ty => h1.len Tryd.underlying82 ty, h3, h4⟩
set_option maxRecDepth 100000 in
set_option maxHeartbeats 1000000 in
theorem Reset_none (v : Value) (m : List (List Int)) (w : World) (h : Rows w v m) (hv : validM m = true) (hno : ¬ allMerge m) :
    Calls Tryd.prog 29 #[.agg #[v]] w (NoWord w 4) := by
  obtain ⟨p1, p2, -⟩ := valid_parts hv
  obtain ⟨A, cap, rfl, hml, -⟩ := id h
  have hX := bal (Below.refl _ w) (.cells #[.slice A m.length cap] 24)
  have Hx := hid hX
  have hbx := (Boxed.new w 24 (.slice A m.length cap)).cell
  go_enter Tryd.func29, Tryd.ntmps29
  go_wp2_with fail
  generalize w.alloc (.cells #[.slice A m.length cap] 24) = X at *
  clear hX
  have hX := Hx.out
  have hr := h.below hX
  refine (Valid_bool _ m true _ hr hv).mono ?_
  rintro e w1 ⟨rfl, h1⟩
  have e0 := (h1.cell (p := ⟨w.heap.size, 0, none⟩) (World.block_lt_of_cell? _ _ hbx)).trans hbx
  have hr1 := hr.below h1
  go_wp2_with fail
  refine (mergers_any _ m _ hr1 hv).mono ?_
  rintro e w2 ⟨B, rfl, hL, h2⟩
  obtain ⟨c, hc, hiff, hc2⟩ := hL.len
  have HB := hid (btr (btr hX h1) h2)
  have hlt : 2 * c < m.length * (m.length + 1) := Nat.lt_of_not_le fun e => hno (hiff.1 e)
  have hmm : m.length * (m.length + 1) ≤ 60 * 61 := Nat.mul_le_mul p2 (by omega)
  have hK : (m.length : Int) * ((m.length : Int) + 1) = ((m.length * (m.length + 1) : Nat) : Int) := by push_cast; rfl
  have hb1 : (m.length : Int) * ((m.length : Int) + 1) ≤ 3660 := by rw [hK]; omega
  have hb0 : 0 ≤ (m.length : Int) * ((m.length : Int) + 1) := by rw [hK]; omega
  have ht : (c : Int) < (m.length : Int) * ((m.length : Int) + 1) / 2 := by
    have hm2 : m.length * (m.length + 1) % 2 = 0 := by
      rw [Nat.mul_mod]
      rcases Nat.mod_two_eq_zero_or_one m.length with h | h
      · rw [h]; simp
      · rw [Nat.add_mod, h]
    rw [hK]; omega
  clear hbx hr h Hx e0 hL h1 h2 hX hr1 hK hlt hiff hmm
  go_wp2
  go_ret2
  exact ⟨rfl, HB.out⟩
/-- The measure of the search: how many states are left. -/
def setLeft (v : Value) : Nat := (elems (intOf v).toNat).length
theorem imgWord_take (m : List (List Int)) (S : Nat) (u : List Int) {k : Nat} (hk : k < u.length) {x : Nat} (hx : u.getD k 0 = (x : Int)) : imgWord m S (u.take (k + 1)) = imgTo m (x : Int) (elems (imgWord m S (u.take k))) := by
  rw [imgWord_snoc m S u k hk, hx]; rfl
set_option maxRecDepth 100000 in
set_option maxHeartbeats 4000000 in
theorem Reset_ok (v : Value) (m : List (List Int)) (w : World) (hT : Tab w) (h : Rows w v m) (hv : validM m = true) (hall : allMerge m) :
    Calls Tryd.prog 29 #[.agg #[v]] w (WordIs w (resetW m)) := by
  obtain ⟨i0, hi, hz0, hz1, hz2⟩ := info_parts infoIntE
  obtain ⟨p1, p2, p3, p4, -⟩ := valid_parts hv
  obtain ⟨A, cap, rfl, hml, -⟩ := id h
  have hX := bal (Below.refl _ w) (.cells #[.slice A m.length cap] 24)
  have Hx := hid hX
  have hbx := (Boxed.new w 24 (.slice A m.length cap)).cell
  have hXs : (w.alloc (.cells #[.slice A m.length cap] 24)).heap.size = w.heap.size + 1 := World.size_alloc _ _
  go_enter Tryd.func29, Tryd.ntmps29
  go_wp2_with fail
  generalize w.alloc (.cells #[.slice A m.length cap] 24) = X at *
  clear hX
  have hX := Hx.out
  have hr := h.below hX
  refine (Valid_bool _ m true _ hr hv).mono ?_
  rintro e w1 ⟨rfl, h1⟩
  have e0 := (h1.cell (p := ⟨w.heap.size, 0, none⟩) (World.block_lt_of_cell? _ _ hbx)).trans hbx
  have hr1 := hr.below h1
  go_wp2_with fail
  refine (mergers_any _ m _ hr1 hv).mono ?_
  rintro e w2 ⟨B, rfl, hL, h2⟩
  obtain ⟨c, hc, hiff, hc2⟩ := hL.len
  have HB := hid (btr (btr hX h1) h2)
  have e1 := (h2.cell (p := ⟨w.heap.size, 0, none⟩) (World.block_lt_of_cell? _ _ e0)).trans e0
  have hlt : m.length * (m.length + 1) ≤ 2 * c := hiff.2 hall
  have hmm : m.length * (m.length + 1) ≤ 60 * 61 := Nat.mul_le_mul p2 (by omega)
  have hK : (m.length : Int) * ((m.length : Int) + 1) = ((m.length * (m.length + 1) : Nat) : Int) := by push_cast; rfl
  have hb1 : (m.length : Int) * ((m.length : Int) + 1) ≤ 3660 := by rw [hK]; omega
  have hb0 : 0 ≤ (m.length : Int) * ((m.length : Int) + 1) := by rw [hK]; omega
  have ht : ¬ (c : Int) < (m.length : Int) * ((m.length : Int) + 1) / 2 := by rw [hK]; omega
  have hr2 := hr1.below h2
  have hT2 := hT.on HB.out
  have hw2 : w.heap.size < w2.heap.size := World.block_lt_of_cell? _ _ e1
  clear hbx hr h Hx e0 h1 h2 hX hr1 hK hlt hiff hmm hXs
  go_wp2_with (go_at_call 66; refine (Below_any m.length _ p2).mono ?_; rintro e w' ⟨rfl, rfl⟩)
  have hpow := Nat.two_pow_pos m.length
  have hpow2 : 2 ^ m.length ≤ 2 ^ 60 := Nat.pow_le_pow_right (by decide) p2
  have hel := elems_below m.length (by omega)
  have HRW := hid (show resetW m = greedyW m m.length (2 ^ m.length - 1) from rfl)
  have hrl := (resetW_ok hv hall).2.2
  have hcube : m.length * m.length * m.length ≤ 60 * 60 * 60 := Nat.mul_le_mul (Nat.mul_le_mul p2 p2) p2
  have hrl2 : (resetW m).length ≤ 36000 := by omega
  have hS0 : 2 ^ m.length - 1 < 2 ^ m.length := by omega
  have hE1 : 1 ≤ (elems (2 ^ m.length - 1)).length := by rw [hel]; simpa using p1
  have hE2 : (elems (2 ^ m.length - 1)).length ≤ m.length + 1 := by rw [hel]; simp
  generalize 2 ^ m.length - 1 = S0 at *
  generalize resetW m = RW at *
  clear hrl hcube hel hb1 hb0 ht hc
  go_loopw [6, 7] (fun rv sv wr => ∃ (S f : Nat) (pre : List Int), sv = .int .u64 (S : Nat) ∧ S < 2 ^ m.length ∧ 1 ≤ (elems S).length ∧ (elems S).length ≤ f + 1 ∧ RW = pre ++ greedyW m f S ∧ wr.ownsRow w2.heap.size 3 1 rv pre.length (pre.map fun x => .int .i64 x) ∧ Below w2.heap.size w2 wr ∧ wr.cell? ⟨w.heap.size, 0, none⟩ = some (.slice A m.length cap)) (fun _ sv _ => setLeft sv)
  case atStart => exact ⟨S0, m.length, [], rfl, hS0, hE1, hE2, HRW.out, World.ownsRow_nil _ _ _ _, Below.refl _ _, e1⟩
  case round =>
    clear e1 HRW hS0 hE1 hE2
    obtain ⟨S, f, pre, rfl, hS, hE1, hE2, hRW, hO, hB, hbx⟩ := hrel
    have hS64 : S < 18446744073709551616 := by omega
    have hbl := World.block_lt_of_cell? _ _ hbx
    by_cases hle : (elems S).length ≤ 1
    · have hng : ¬ (1 : Int) < (elems S).length := by omega
      have HO := hid (show wr.ownsRow w.heap.size 3 1 u6 RW.length (RW.map fun x => .int .i64 x) from by
        rw [hRW, greedy_end hle, List.append_nil]
        exact row_mono hO (by omega))
      have HBB := hid (btr HB.out hB)
      clear hO hRW
      go_wp2_with (go_at_call 67; refine (Size_any S _ hS64).mono ?_; rintro e w' ⟨rfl, rfl⟩)
      go_ret2
      exact ⟨_, rfl, HO.out, HBB.out⟩
    · have hng : (1 : Int) < (elems S).length := by omega
      obtain ⟨f, rfl⟩ : ∃ f', f = f' + 1 := ⟨f - 1, by omega⟩
      obtain ⟨t, r, b1, b2, b3, b4, b5, b6, b7, b8, b9, b10, b11, b12⟩ := greedy_step hv hall hS (by omega)
      have hgm := greedy_more (m := m) (f := f) hle
      rw [hgm] at hRW
      have hRl : pre.length + t ≤ 36000 := by
        rw [hRW, List.length_append, List.length_append, b6] at hrl2
        omega
      have ht0 : 1 ≤ t := by
        rcases Nat.eq_zero_or_pos t with e | e
        · subst e
          have hmz := mdist_zero.1 b4
          have hsk := soonOf_ok m (prodL (elems S))
          rw [b1] at hsk
          exfalso
          rcases hsk with ⟨_, h2⟩ | ⟨_, h2, _⟩
          · have hp0 := greedy_pair hv (elems_nodup S) (fun c hc => elems_lt hS hc) (by omega) hall
            obtain ⟨_, _, _, h4, _⟩ := hp0
            rw [b1] at h4
            omega
          · omega
        · exact e
      have hsoon := fun (w' : World) (hb : Below w2.heap.size w2 w') => soonest_any m S B w' (hT2.on hb) hv hS (hL.below hb) hall
      rw [b1] at hsoon
      have hmerg := fun (w' : World) (hb : Below w2.heap.size w2 w') => merger_any _ m r.1 r.2 t B w' (hr2.below hb) hv b2 b3 b4 (hL.below hb)
      rw [← b5] at hmerg
      have HSW := hid b6
      have HS7 := hid b7
      have HS9 := hid b9
      have H10 := hid b10
      have H11 := hid b11
      have HRw := hid hRW
      have HO := hid hO
      have HSN := hid hsoon
      have HMG := hid hmerg
      have hdef := hid (fun (k : Nat) (hk : k < (stepW m S).length) (x : Nat) (hx : (stepW m S).getD k 0 = (x : Int)) => imgWord_take m S (stepW m S) hk hx)
      obtain ⟨r1, r2⟩ := r
      clear hO hRW hgm b1 b4 b5 b6 b7 b8 b9 b10 b11 hsoon hmerg
      generalize hSWW : stepW m S = u at *
      have HSWW := hid hSWW
      clear hSWW
      simp only at b2 b3
      go_wp2_with (go_at_call 67; refine (Size_any S _ hS64).mono ?_; rintro e w' ⟨rfl, rfl⟩)
      have hBf := hid hB
      have hrw := hid (fun (w' : World) (hb : Below w2.heap.size w2 w') => hr2.below hb)
      go_region_held3 (fun w' => Below wr.heap.size wr w' ∧ w'.cell? ⟨w.heap.size, 0, none⟩ = some (.slice A m.length cap)) (exact held_one hbx (by first | exact below_dr wr 1 | assumption)) (first
        | (go_at_call 69; go_must (refine (HSN.out _ (btr hBf.out (by first | exact below_dr wr 1 | exact Below.refl _ _))).mono ?_; rintro e y1 ⟨rfl, hy1⟩; have k1 : Below wr.heap.size wr y1 := btr (by first | exact below_dr wr 1 | exact Below.refl _ _) hy1))
        | (go_at_call 68; go_must (refine (HMG.out _ (btr hBf.out k1)).mono ?_; rintro e y2 ⟨rv, rfl, ho, hy2⟩; have k2 : Below wr.heap.size wr y2 := btr k1 hy2; have HO2 := hid ho; have hk1 := k1.size; clear ho)))
      rename_i hheld
      obtain ⟨-, hbx2⟩ := hheld
      obtain ⟨g, gc, rfl⟩ := ownsRow_pos' HO2.out ht0
      have HK2 := hid k2
      clear hy1 hbx hB
      go_wp2_with fail
      go_loopw [7, 40] (fun sv kv wq => ∃ k : Nat, k ≤ t ∧ kv = .int .i64 (k : Nat) ∧ sv = .int .u64 (imgWord m S (u.take k) : Nat) ∧ imgWord m S (u.take k) < 2 ^ m.length ∧ Below y2.heap.size y2 wq) (fun _ kv _ => t - (intOf kv).toNat)
      case atStart => exact ⟨0, Nat.zero_le _, rfl, rfl, hS, Below.refl _ _⟩
      case round =>
        obtain ⟨k, hk, rfl, rfl, hSk, hBk⟩ := hrel
        have hbx3 := (hBk.cell (p := ⟨w.heap.size, 0, none⟩) (World.block_lt_of_cell? _ _ hbx2)).trans hbx2
        have hBw := btr hBf.out (btr HK2.out hBk)
        by_cases hkt : k < t
        · have hks : (k : Int) < t := by omega
          have hul : k < u.length := by rw [HSW.out]; exact hkt
          have hux := HS7.out
          have hin := inB_iff.1 (all_getD _ u 0 hux k hul)
          obtain ⟨x, hx⟩ := Int.eq_ofNat_of_zero_le hin.1
          have hcA : y2.cell? ⟨g, k, none⟩ = some (.int .i64 (u.getD k 0)) := by
            rw [HO2.out.cellAt k (by omega), getI_cell hul]
          rw [hx] at hcA
          have hcB := (hBk.cell (p := ⟨g, k, none⟩) (World.block_lt_of_cell? _ _ hcA)).trans hcA
          have hd := hdef.out k hul x hx
          have Hd := hid hd
          have hxl : x < letters m := by have := hin.2; rw [hx] at this; omega
          have hTk := hT2.on hBw
          have hrk := hr2.below hBw
          have hSk2 := hid (show imgTo m (x : Int) (elems (imgWord m S (u.take k))) < 2 ^ m.length from imgTo_lt m _ m.length _ (fun s hs => (nx_ok hv (elems_lt hSk hs) (by omega) (by omega)).1))
          clear hd hux hcA hbx2 hx
          generalize imgWord m S (u.take k) = Sk at *
          go_wp2_with fail
          refine (SetImage_any _ m Sk x _ hTk hrk hv hSk hxl).mono ?_
          rintro e w3 ⟨rfl, h3⟩
          have hB3 := hid (btr hBk h3)
          clear hbx3 hcB hTk hrk
          go_wp2
          go_roundw
          case rel => exact ⟨k + 1, by omega, by go_num, by rw [Hd.out], by rw [Hd.out]; exact hSk2.out, hB3.out⟩
          case measure => simp [intOf]; omega
        · obtain rfl : k = t := by omega
          have hks : ¬ (k : Int) < k := by omega
          have hut : u.take k = u := List.take_of_length_le (by rw [HSW.out]; exact Nat.le_refl _)
          rw [hut] at hSk ⊢
          have hOr := hid (ownsRow_same HO.out fun q hq => (btr HK2.out hBk).block q (HO.out.lt q hq).2)
          have hnews := hid (fun j x (hx : (u.map fun x => Value.int .i64 x)[j]? = some x) => show wr.cell? ((⟨g, 0, none⟩ : Addr).add j) = some x from by
            have h1 := World.ownsRow.cells HO2.out (g := g) rfl j x hx
            exact (hBk.cell (p := (⟨g, 0, none⟩ : Addr).add j) (World.block_lt_of_cell? _ _ h1)).trans h1)
          have hlu := hid (show (u.map fun x => Value.int .i64 x).length = k * 1 from by rw [List.length_map, HSW.out, Nat.mul_one])
          have hone := hid (show ∀ x ∈ (u.map fun x => Value.int .i64 x), x.oneCell' = true from fun x hx => by obtain ⟨y, _, rfl⟩ := List.mem_map.1 hx; rfl)
          have hBB := hid hBw
          have hbz := hBw.size
          have hlt6 := hid (fun q hq => (HO.out.lt q hq).1)
          clear hbx2
          go_wp2_with (at_builtin; refine wpList_append_own_at _ rfl _ _ 41 rfl w2.heap.size 3 i0 (.int .i64 0) 1 8 Tryd.underlying41 hi hz0 hz1 hz2 rfl (by decide) _ _ _ rfl hOr.out ⟨g, 0, none⟩ k gc (u.map fun x => .int .i64 x) rfl hlu.out hnews.out hone.out (by unfold maxLen; omega) (by omega) (by omega) ?_; intro v' w5 hown' hgrow' _ hat; have HN := hid hown'; have HG := hid hgrow'; have hc5 := hgrow'.cell hbx3 (fun e => by have := hlt6.out _ e.symm; simp at this; omega); clear hown' hgrow' hat)
          go_roundw
          case rel =>
            refine ⟨imgWord m S u, f, pre ++ u, rfl, hSk, H11.out, by have := H10.out; omega, by rw [HRw.out, List.append_assoc], ?_, hBB.out.grown HG.out (by omega) (fun q hq => hlt6.out q hq), hc5⟩
            rw [List.length_append, List.map_append, HSW.out]
            exact HN.out
          case measure =>
            have := H10.out
            simp [setLeft, intOf]
            exact this
end Go.Proofs.YtlpfglkopnmlnaaDoor
namespace Go.Proofs.YtlpfglkopnmlnaaDoor
open Go.RowKit Go.Shelf
attribute [local go_sem] Oper.semAt_some
theorem own_slice3 {w : World} {base : Nat} {e : TypeId} {s : Nat} {v : Value} {n : Nat} {xs : List Value} (h : w.ownsRow base e s v n xs) : ∃ A k c, v = .slice A k c := by
  rcases h.2 with ⟨hu, _⟩ | ⟨g, cap, cur, hv, _⟩
  · exact ⟨none, 0, 0, hu⟩
  · exact ⟨_, _, cap, hv⟩
/-- No colouring, and an error. -/
def RoadErr (w : World) (c : Int) (e : Ending) (w' : World) : Prop := e = .returned (.tuple #[.agg #[.slice none 0 0], .slice none 0 0, .int .i64 c]) ∧ Below w.heap.size w w'
theorem four_alloc (w : World) (a b c d : Obj) : ((((w.alloc a).alloc b).alloc c).alloc d).heap[w.heap.size]? = some a ∧ ((((w.alloc a).alloc b).alloc c).alloc d).heap[w.heap.size + 1]? = some b ∧ ((((w.alloc a).alloc b).alloc c).alloc d).heap[w.heap.size + 2]? = some c ∧ ((((w.alloc a).alloc b).alloc c).alloc d).heap[w.heap.size + 3]? = some d ∧ ((((w.alloc a).alloc b).alloc c).alloc d).heap.size = w.heap.size + 4 := by
  have e1 : (w.alloc a).heap.size = w.heap.size + 1 := by simp
  have e2 : ((w.alloc a).alloc b).heap.size = w.heap.size + 2 := by simp
  have e3 : (((w.alloc a).alloc b).alloc c).heap.size = w.heap.size + 3 := by simp
  refine ⟨?_, ?_, ?_, ?_, by simp⟩
  · rw [Below.heap_alloc _ _ _ (by omega), Below.heap_alloc _ _ _ (by omega), Below.heap_alloc _ _ _ (by omega)]; exact heap_alloc_new _ _
  · rw [Below.heap_alloc _ _ _ (by omega), Below.heap_alloc _ _ _ (by omega), ← e1]; exact heap_alloc_new _ _
  · rw [Below.heap_alloc _ _ _ (by omega), ← e2]; exact heap_alloc_new _ _
  · rw [← e3]; exact heap_alloc_new _ _
set_option maxRecDepth 100000 in
set_option maxHeartbeats 1000000 in
theorem Road_err (v : Value) (m : List (List Int)) (p e c : Int) (w : World) (h : Rows w v m) (hp : (connM m = true ∧ validM m = true ∧ p = perM m ∧ e = 0) ∨ (BadM m e ∧ p = 0)) (hc : (e ≠ 0 ∧ c = e) ∨ (e = 0 ∧ 1 < p ∧ c = 4)) :
    Calls Tryd.prog 20 #[.agg #[v]] w (RoadErr w c) := by
  obtain ⟨A, cap, rfl, hml, -⟩ := id h
  obtain ⟨f0, f1, f2, f3, fs⟩ := four_alloc w (.cells #[.slice A m.length cap] 24) (.cells #[.slice none 0 0] 24) (.cells #[.slice none 0 0] 41) (.cells #[.int .i64 0] 25)
  have hX := bal (bal (bal (bal (Below.refl _ w) (.cells #[.slice A m.length cap] 24)) (.cells #[.slice none 0 0] 24)) (.cells #[.slice none 0 0] 41)) (.cells #[.int .i64 0] 25)
  have Hx := hid hX
  go_enter Tryd.func20, Tryd.ntmps20
  go_upto_region 1 with fail
  generalize hWX : (((w.alloc (.cells #[.slice A m.length cap] 24)).alloc (.cells #[.slice none 0 0] 24)).alloc (.cells #[.slice none 0 0] 41)).alloc (.cells #[.int .i64 0] 25) = X at *
  clear hX hWX
  have hX := Hx.out
  have c0 := cell_of_one f0
  have hr := h.below hX
  have hcl := Period_any _ m p e X hr hp
  clear f0
  go_wp2_with fail
  refine hcl.mono ?_
  rintro x w1 ⟨rfl, h1⟩
  have g1 := (h1.block _ (by omega)).trans f1
  have g2 := (h1.block _ (by omega)).trans f2
  have g3 := (h1.block _ (by omega)).trans f3
  have d1 := cell_of_one g1
  have d2 := free_of_one g1
  have d3 := cell_of_one g2
  have d4 := free_of_one g2
  have d5 := cell_of_one g3
  have d6 := free_of_one g3
  have HB := btr hX h1
  have fin : ∀ u : Int, Hid (∀ W9, W9 = (((w1.setCell ⟨w.heap.size + 1, 0, none⟩ (.slice none 0 0)).setCell ⟨w.heap.size + 1 + 1, 0, none⟩ (.slice none 0 0)).setCell ⟨w.heap.size + 1 + 1 + 1, 0, none⟩ (.int .i64 u)) →
      W9.cell? ⟨w.heap.size + 1, 0, none⟩ = some (.slice none 0 0) ∧ W9.cell? ⟨w.heap.size + 1 + 1, 0, none⟩ = some (.slice none 0 0) ∧ W9.cell? ⟨w.heap.size + 1 + 1 + 1, 0, none⟩ = some (.int .i64 u) ∧ Below w.heap.size w W9) := fun u => hid (by
    rintro W9 rfl
    have q1 : Boxed w1 (w.heap.size + 1) 24 (.slice none 0 0) := g1
    have q2 : Boxed w1 (w.heap.size + 1 + 1) 41 (.slice none 0 0) := g2
    have q3 : Boxed w1 (w.heap.size + 1 + 1 + 1) 25 (.int .i64 0) := g3
    refine ⟨(((q1.set _).other (by omega) _).other (by omega) _).cell, (((q2.other (by omega) _).set _).other (by omega) _).cell, (((q3.other (by omega) _).other (by omega) _).set _).cell, ?_⟩
    exact ((HB.setCell (p := ⟨w.heap.size + 1, 0, none⟩) (by show w.heap.size ≤ w.heap.size + 1; omega) _).setCell (p := ⟨w.heap.size + 1 + 1, 0, none⟩) (by show w.heap.size ≤ w.heap.size + 1 + 1; omega) _).setCell (p := ⟨w.heap.size + 1 + 1 + 1, 0, none⟩) (by show w.heap.size ≤ w.heap.size + 1 + 1 + 1; omega) _)
  clear g1 g2 g3
  rcases hc with ⟨he, rfl⟩ | ⟨rfl, hp1, rfl⟩
  · have hne : (c != 0) = true := by simp [he]
    have Fin := fin c
    clear fin
    go_wp2
    obtain ⟨k1, k2, k3, k4⟩ := Fin.out _ rfl
    generalize ((w1.setCell ⟨w.heap.size + 1, 0, none⟩ (.slice none 0 0)).setCell ⟨w.heap.size + 1 + 1, 0, none⟩ (.slice none 0 0)).setCell ⟨w.heap.size + 1 + 1 + 1, 0, none⟩ (.int .i64 c) = W9 at *
    refine bodyPost_ret (v := .tuple #[.agg #[.slice none 0 0], .slice none 0 0, .int .i64 c]) ?_ rfl ⟨rfl, k4⟩
    simp only [results, Tryd.results20]
    go_simp
  · have hd : decide (1 < p) = true := decide_eq_true hp1
    have Fin := fin 4
    clear fin
    go_wp2
    obtain ⟨k1, k2, k3, k4⟩ := Fin.out _ rfl
    generalize ((w1.setCell ⟨w.heap.size + 1, 0, none⟩ (.slice none 0 0)).setCell ⟨w.heap.size + 1 + 1, 0, none⟩ (.slice none 0 0)).setCell ⟨w.heap.size + 1 + 1 + 1, 0, none⟩ (.int .i64 4) = W9 at *
    refine bodyPost_ret (v := .tuple #[.agg #[.slice none 0 0], .slice none 0 0, .int .i64 4]) ?_ rfl ⟨rfl, k4⟩
    simp only [results, Tryd.results20]
    go_simp
end Go.Proofs.YtlpfglkopnmlnaaDoor
namespace Go.Proofs.YtlpfglkopnmlnaaDoor
theorem names_perm {l : List Int} {n : Nat} (h : namesM l n = true) : l.Perm ((List.range n).map fun i : Nat => (i : Int)) := by
  have hnd : ((List.range n).map fun i : Nat => (i : Int)).Nodup := by
    rw [List.nodup_iff_pairwise_ne, List.pairwise_map]
    exact List.pairwise_lt_range.imp (fun hab e => by omega)
  refine (List.perm_ext_iff_of_nodup (names_nodup h) hnd).2 fun x => ?_
  constructor
  · intro hx
    have hb := names_bound h x hx
    exact List.mem_map.2 ⟨x.toNat, List.mem_range.2 (by omega), by omega⟩
  · intro hx
    obtain ⟨i, hi, rfl⟩ := List.mem_map.1 hx
    rw [namesM, Bool.and_eq_true, List.all_eq_true] at h
    exact hasB_mem.1 (h.2 i hi)
theorem permsM_at {m p : List (List Int)} (hp : permsM m p = true) {s : Nat} (hs : s < m.length) : namesM (p.getD s []) (letters m) = true := by
  rw [permsM, Bool.and_eq_true, decide_eq_true_eq, List.all_eq_true] at hp
  exact hp.2 _ (by simp [List.getD_eq_getElem?_getD, List.getElem?_eq_getElem (show s < p.length by omega)])
theorem colRow_perm {m p : List (List Int)} (hv : validM m = true) (hp : permsM m p = true) {s : Nat} (hs : s < m.length) : (colRow m p s).Perm (m.getD s []) := by
  have h1 := (names_perm (permsM_at hp hs)).map fun x : Int => (m.getD s []).getD x.toNat 0
  have hl := ((valid_parts hv).2.2.2.2 s hs).1
  have h2 : ((List.range (letters m)).map fun i : Nat => (i : Int)).map (fun x : Int => (m.getD s []).getD x.toNat 0) = m.getD s [] := by
    apply List.ext_getElem
    · simp only [List.length_map, List.length_range]; exact hl.symm
    · intro j h1 h2
      simp only [List.getElem_map, List.getElem_range, Int.toNat_natCast]
      rw [getD_elem (m.getD s []) j h2]
  rw [h2] at h1
  exact h1
theorem colM_letters {m p : List (List Int)} (hv : validM m = true) (hp : permsM m p = true) : letters (colM m p) = letters m := by
  have hn := (valid_parts hv).1
  show ((colM m p).getD 0 []).length = letters m
  rw [colM_get m p 0 (by omega), (colRow_perm hv hp (by omega)).length_eq, ((valid_parts hv).2.2.2.2 0 (by omega)).1]
theorem colM_valid {m p : List (List Int)} (hv : validM m = true) (hp : permsM m p = true) : validM (colM m p) = true := by
  obtain ⟨p1, p2, p3, p4, p5⟩ := valid_parts hv
  rw [validM, Bool.and_eq_true, Bool.and_eq_true, colM_letters hv hp, colM_length]
  refine ⟨inB_true (by omega), inB_true (by omega), ?_⟩
  rw [List.all_eq_true]
  intro r hr
  obtain ⟨s, hs, rfl⟩ := List.mem_map.1 hr
  have hs' := List.mem_range.1 hs
  have hpm := colRow_perm hv hp hs'
  rw [rowOk, Bool.and_eq_true, decide_eq_true_eq, colM_letters hv hp, colM_length]
  refine ⟨by rw [hpm.length_eq]; exact (p5 s hs').1, ?_⟩
  rw [List.all_eq_true]
  intro x hx
  have := row_range hv hs' x (hpm.mem_iff.1 hx)
  exact inB_true (by omega)
theorem colM_same {m p : List (List Int)} (hv : validM m = true) (hp : permsM m p = true) : sameM m (colM m p) = true := by
  rw [sameM, decide_eq_true (colM_length m p).symm, decide_eq_true (colM_letters hv hp).symm, Bool.true_and, Bool.true_and, List.all_eq_true]
  intro s hs
  rw [List.all_eq_true]
  intro t _
  rw [colM_get m p s (List.mem_range.1 hs), beq_iff_eq]
  exact timesL_perm (colRow_perm hv hp (List.mem_range.1 hs)).symm _
theorem sameM_refl (m : List (List Int)) : sameM m m = true := by simp [sameM]
theorem sameM_symm {m k : List (List Int)} (h : sameM m k = true) : sameM k m = true := by
  rw [sameM, Bool.and_eq_true, Bool.and_eq_true, decide_eq_true_eq, decide_eq_true_eq, List.all_eq_true] at h
  rw [sameM, Bool.and_eq_true, Bool.and_eq_true, decide_eq_true_eq, decide_eq_true_eq, List.all_eq_true]
  refine ⟨⟨h.1.1.symm, h.1.2.symm⟩, fun s hs => ?_⟩
  rw [← h.1.1] at hs ⊢
  have := h.2 s hs
  rw [List.all_eq_true] at this ⊢
  intro t ht
  have := this t ht
  rw [beq_iff_eq] at this ⊢
  exact this.symm
end Go.Proofs.YtlpfglkopnmlnaaDoor
namespace Go.Proofs.YtlpfglkopnmlnaaDoor
/-- The rows of one automaton are orders of those of another one. -/
def PermR (m k : List (List Int)) : Prop := k.length = m.length ∧ ∀ s, s < m.length → (k.getD s []).Perm (m.getD s [])
theorem PermR.lets {m k : List (List Int)} (h : PermR m k) (hv : validM m = true) : letters k = letters m := by
  obtain ⟨p1, p2, p3, p4, p5⟩ := valid_parts hv
  show (k.getD 0 []).length = letters m
  rw [(h.2 0 (by omega)).length_eq, (p5 0 (by omega)).1]
theorem PermR.valid {m k : List (List Int)} (h : PermR m k) (hv : validM m = true) : validM k = true := by
  obtain ⟨p1, p2, p3, p4, p5⟩ := valid_parts hv
  have hl := h.1
  rw [validM, Bool.and_eq_true, Bool.and_eq_true, h.lets hv, hl]
  refine ⟨inB_true (by omega), inB_true (by omega), ?_⟩
  rw [List.all_eq_true]
  intro r hr
  obtain ⟨s, hs, rfl⟩ := List.mem_iff_getElem.1 hr
  have hs' : s < m.length := by omega
  have hpm := h.2 s hs'
  rw [show k.getD s [] = k[s] by simp [List.getD_eq_getElem?_getD, List.getElem?_eq_getElem hs]] at hpm
  rw [rowOk, Bool.and_eq_true, decide_eq_true_eq, h.lets hv, hl]
  refine ⟨by rw [hpm.length_eq]; exact (p5 s hs').1, ?_⟩
  rw [List.all_eq_true]
  intro x hx
  have := row_range hv hs' x (hpm.mem_iff.1 hx)
  exact inB_true (by omega)
theorem PermR.same {m k : List (List Int)} (h : PermR m k) (hv : validM m = true) : sameM m k = true := by
  rw [sameM, decide_eq_true h.1.symm, decide_eq_true (h.lets hv).symm, Bool.true_and, Bool.true_and, List.all_eq_true]
  intro s hs
  rw [List.all_eq_true]
  intro t _
  rw [beq_iff_eq]
  exact timesL_perm (h.2 s (List.mem_range.1 hs)).symm _
theorem numM_perm {m : List (List Int)} {D : Nat → Nat} (hD : ∀ s, s < m.length → D s < (orbP (m.getD s [])).length) : PermR m (numM m D) :=
  ⟨numM_length m D, fun s hs => by rw [numM_get m D s hs]; exact orbP_perm _ (by have := hD s hs; rwa [orbP_len] at this)⟩
theorem allNum_perm {m M : List (List Int)} (hv : validM m = true) (h : M ∈ allNum m) : PermR m M := by
  rcases List.mem_append.1 h with h | h
  · obtain ⟨i, _, rfl⟩ := List.mem_map.1 h
    exact numM_perm fun s hs => scatN_lt (orbP_big hv hs).2
  · obtain ⟨i, _, rfl⟩ := List.mem_map.1 h
    exact numM_perm fun s hs => Nat.mod_lt _ (orbP_big hv hs).2
end Go.Proofs.YtlpfglkopnmlnaaDoor
namespace Go.Proofs.YtlpfglkopnmlnaaDoor
open Go.RowKit Go.Shelf
attribute [local go_sem] Oper.semAt_some
/-- A colouring and its reset word, or an error where none that is tried has one. -/
def RoadIs (m : List (List Int)) (w : World) (e : Ending) (w' : World) : Prop :=
  (∃ (r u : Value) (M : List (List Int)), e = .returned (.tuple #[.agg #[r], u, .int .i64 0]) ∧ M ∈ allNum m ∧ allMerge M ∧ Rows w' r M ∧ w'.ownsRow w.heap.size 3 1 u (resetW M).length ((resetW M).map fun x => .int .i64 x) ∧ Below w.heap.size w w') ∨
  ((∀ M ∈ allNum m, ¬ allMerge M) ∧ RoadErr w 3 e w')
/-- What stands when the ranging has been left. -/
def RoadX (w : World) (pre : List (Value × List (List Int))) (W : World) : Prop :=
  ∃ (r u : Value) (M : List (List Int)) (nb : Nat), M ∈ pre.map (·.2) ∧ allMerge M ∧ Boxed W (w.heap.size + 1) 24 r ∧ Boxed W (w.heap.size + 1 + 1) 41 u ∧ Boxed W (w.heap.size + 1 + 1 + 1) 25 (.int .i64 0) ∧
    MRows W nb r M ∧ W.ownsRow w.heap.size 3 1 u (resetW M).length ((resetW M).map fun x => .int .i64 x) ∧ Below w.heap.size w W
theorem RoadX.step {w : World} {pre : List (Value × List (List Int))} {W W' : World} {B : Nat} (hB : w.heap.size ≤ B) (h : RoadX w pre W) (h1 : W'.os = W.os) (h2 : W'.tape = W.tape) (h3 : W'.output = W.output) (h4 : W.heap.size ≤ W'.heap.size)
    (hk : ∀ k o, W.heap[k]? = some o → (k < B ∨ o.isCells = true) → W'.heap[k]? = some o) : RoadX w pre W' := by
  obtain ⟨r, u, M, nb, a1, a2, a3, a4, a5, a6, a7, a8⟩ := h
  refine ⟨r, u, M, nb, a1, a2, hk _ _ a3 (.inr rfl), hk _ _ a4 (.inr rfl), hk _ _ a5 (.inr rfl), a6.marks (fun k o h c => hk k o h (.inr c)), ownsRow_same a7 (fun g hg => ?_), ⟨h1.trans a8.os, h2.trans a8.tape, h3.trans a8.output, Nat.le_trans a8.size h4, fun k hks => ?_⟩⟩
  · rcases a7.2 with ⟨rfl, _⟩ | ⟨g', cap, cur, rfl, hb, hh, _⟩
    · cases hg
    · cases hg
      exact (hk _ _ hh (.inr rfl)).trans hh.symm
  · have e := a8.block k hks
    have hs : k < W.heap.size := Nat.lt_of_lt_of_le hks a8.size
    rw [Array.getElem?_eq_getElem hs] at e
    rw [hk k _ (Array.getElem?_eq_getElem hs) (.inl (by omega)), e]
theorem stableE_road (w : World) (B : Nat) (c : Code) (hB : w.heap.size ≤ B) : StableE B (fun _ (pre : List (Value × List (List Int))) W => c = .ret ∧ RoadX w pre W) := by
  rintro X s W W' ⟨h0, h⟩ h1 h2 h3 h4 hk
  exact ⟨h0, h.step hB h1 h2 h3 h4 hk⟩
set_option maxRecDepth 100000 in
set_option maxHeartbeats 4000000 in
theorem Road_ok (v : Value) (m : List (List Int)) (w : World) (hT : Tab w) (h : Rows w v m) (hv : validM m = true) (hc : connM m = true) (hp1 : perM m = 1) :
    Calls Tryd.prog 20 #[.agg #[v]] w (RoadIs m w) := by
  obtain ⟨A, cap, rfl, hml, -⟩ := id h
  obtain ⟨f0, f1, f2, f3, fs⟩ := four_alloc w (.cells #[.slice A m.length cap] 24) (.cells #[.slice none 0 0] 24) (.cells #[.slice none 0 0] 41) (.cells #[.int .i64 0] 25)
  have hX := bal (bal (bal (bal (Below.refl _ w) (.cells #[.slice A m.length cap] 24)) (.cells #[.slice none 0 0] 24)) (.cells #[.slice none 0 0] 41)) (.cells #[.int .i64 0] 25)
  have Hx := hid hX
  have hfo := follows
  refine (callsIn_wide (n := 0)).1 ?_
  refine callsIn_of_wp_marks Tryd.func20 rfl trivial ?_ rfl
  simp only [Tryd.ntmps20, List.size_toArray, List.length_cons, List.length_nil, Nat.reduceAdd, Nat.reduceSub, Array.replicate_succ, Array.replicate_zero, List.push_toArray, List.append_toArray, List.nil_append, List.cons_append]
  refine wpIn_wide.2 ?_
  go_upto_region 1 with fail
  generalize hWX : (((w.alloc (.cells #[.slice A m.length cap] 24)).alloc (.cells #[.slice none 0 0] 24)).alloc (.cells #[.slice none 0 0] 41)).alloc (.cells #[.int .i64 0] 25) = X at *
  clear hX hWX
  have hX := Hx.out
  have c0 := cell_of_one f0
  have hr := h.below hX
  have hcl := Period_any _ m 1 0 X hr (.inl ⟨hc, hv, by rw [hp1]; rfl, rfl⟩)
  go_wp2_with fail
  refine hcl.mono ?_
  rintro x w1 ⟨rfl, h1⟩
  have c1 := (h1.cell (p := ⟨w.heap.size, 0, none⟩) (by show w.heap.size < X.heap.size; omega)).trans c0
  have s1 := h1.size
  go_wp2_with fail
  refine (numberings_any (.slice A m.length cap) m w1 (hr.below h1) hv).mono ?_
  rintro e T ⟨rb, g, rfl, n1, n2, n3, n4, n5, hb⟩
  have hbT := btr h1 hb
  have g1 : Boxed T (w.heap.size + 1) 24 (.slice none 0 0) := (hbT.block _ (by omega)).trans f1
  have g2 : Boxed T (w.heap.size + 1 + 1) 41 (.slice none 0 0) := (hbT.block _ (by omega)).trans f2
  have g3 : Boxed T (w.heap.size + 1 + 1 + 1) 25 (.int .i64 0) := (hbT.block _ (by omega)).trans f3
  have hwT := btr hX hbT
  have hTT := hT.on hwT
  have hsT := hb.size
  have lrb := n1.lt
  have lab := n2.lt
  have lg := n3.lt
  have hX0 : ∀ k, (w.heap.size + 4 ≤ k ∧ k < T.heap.size) → k < T.heap.size := fun k hk => hk.2
  have hCap : ∀ W', Keep (w.heap.size + 1) (fun k => w.heap.size + 4 ≤ k ∧ k < T.heap.size) T W' → Cap (.slice A m.length cap) m (w1.heap.size + 1) g rb w1.heap.size W' := fun W' hk =>
    ⟨h.below (hwT.trans ((hk.below (by omega)).mono (by omega))), n3.kept (fun k h1 h2 => hk.block k h2 (.inr ⟨by omega, h2⟩)), keep_cell hk ⟨by omega, lrb⟩ n1.cell, keep_cell hk ⟨by omega, lab⟩ n2.cell⟩
  have hseq := numbers_seq (.slice A m.length cap) m (w1.heap.size + 1) g rb w1.heap.size (w.heap.size + 1) T (fun k => w.heap.size + 4 ≤ k ∧ k < T.heap.size) hv hX0 (by omega) hCap
  have Hperm := hid (fun (M : List (List Int)) (hM : M ∈ allNum m) => (allNum_perm hv hM))
  have hrT := h.below hwT
  clear hCap c0 c1 f0 f1 f2 f3 hb hcl hr n1 n2 n3 h1 hX hbT
  generalize hAN : allNum m = AN at *
  have HAN := hid hAN
  clear hAN
  go_wp2_with fail
  refine (wpIn_wide (n := 0)).1 ?_
  refine range_lawE (gf := 84) (fb := #[]) (lb := #[.pointer (some ⟨rb, 0, none⟩), .pointer (some ⟨w1.heap.size, 0, none⟩)]) rfl (enters_of Tryd.func84 (by kernel_rfl) rfl)
    hseq hX0 (fun _ _ _ _ h k => h.keep k) (by omega) (Below.refl _ _) (fun _ => rfl)
    (fun X pre W => (∀ M ∈ pre.map (·.2), ¬ allMerge M) ∧ (Mine X W (w.heap.size + 1) 24 (.slice none 0 0) ∧ (Mine X W (w.heap.size + 1 + 1) 41 (.slice none 0 0) ∧ (Mine X W (w.heap.size + 1 + 1 + 1) 25 (.int .i64 0) ∧ Base (w.heap.size + 1) T X W))))
    (fun c X pre W => c = .ret ∧ RoadX w pre W)
    (Stable.and (stable_pure _ (fun pre : List (Value × List (List Int)) => ∀ M ∈ pre.map (·.2), ¬ allMerge M)) (Stable.and (stable_box _ _ _ (fun _ => _)) (Stable.and (stable_box _ _ _ (fun _ => _)) (Stable.and (stable_box _ _ _ (fun _ => _)) (stable_base _ _ _ (by omega) (by omega))))))
    (fun c => stableE_road w _ c (by omega))
    ⟨fun M hM => by simp at hM, ⟨g1, fun h => by omega⟩, ⟨g2, fun h => by omega⟩, ⟨g3, fun h => by omega⟩, ⟨fun k hk => by omega, Below.refl _ _⟩⟩
    (fun X x a' W => ∃ bp, (∃ rA rn rc, x.1 = .slice rA rn rc) ∧ Boxed W bp 24 x.1 ∧ T.heap.size ≤ bp ∧ ¬ X bp ∧ a' = { tmps := #[.agg #[.slice A m.length cap], .pointer (some ⟨w.heap.size, 0, none⟩), .pointer (some ⟨w.heap.size + 1, 0, none⟩), .pointer (some ⟨w.heap.size + 1 + 1, 0, none⟩), .pointer (some ⟨w.heap.size + 1 + 1 + 1, 0, none⟩), .int .i64 1, .int .i64 0, .pointer (some ⟨bp, 0, none⟩), undef, undef, .tuple #[.int .i64 1, .int .i64 0], .agg #[.slice A m.length cap], .tuple #[.int .i64 1, .int .i64 0], .int .i64 1, .int .i64 0, .int .i64 0, .bool false, undef, undef, .int .i64 1, .bool false, undef, .agg #[.slice A m.length cap], .func (.func 84) #[] #[.pointer (some ⟨rb, 0, none⟩), .pointer (some ⟨w1.heap.size, 0, none⟩)], .agg #[x.1], undef, undef, undef, undef, undef, undef, undef, undef, undef, undef], defers := [] })
    ?ax ?assign ?body ?done ?stop
  case ax =>
    rintro X x a' W l o o' ⟨bp, h1, h2, h3, h4, h5⟩ _ hl hc
    refine ⟨bp, h1, (World.putObj_heap_other (fun e => ?_)).trans h2, h3, h4, h5⟩
    subst e
    unfold Boxed at h2
    rw [hl] at h2
    cases h2
    cases hc
  case assign =>
    intro l X pre x W K hXs hi hG hK
    obtain ⟨x1, x2⟩ := x
    unfold encN
    obtain ⟨nb, hnb, hM⟩ := hG.mrows
    obtain ⟨rA, rn, rc, hx⟩ := hM.slice'
    simp only at hx
    subst hx
    obtain ⟨i1, i2, i3, i4, i5⟩ := hi
    have hsW := i5.2.size
    gi_wp2
    have hb := bal (Below.refl _ W) (.cells #[.slice rA rn rc] 24)
    refine hK _ _ (kf_below hb) (Keep.of_below hb) ⟨i1, i2.below hb, i3.below hb, i4.below hb, i5.step (hb.mono (by omega))⟩ ⟨W.heap.size, ⟨rA, rn, rc, rfl⟩, World.alloc_heap_new _ _, by omega, fun h => by have := hXs _ h; omega, rfl⟩
  case body =>
    rintro l X pre ⟨x1, M⟩ a' W hl hrec hXl hXs ⟨i1, i2, i3, i4, i5⟩ hG ⟨bp, ⟨rA, rn, rc, hx⟩, hbp, hbp1, hbp2, rfl⟩ hsp
    simp only at hx
    subst hx
    obtain ⟨nb, hnb, hM⟩ := hG.mrows
    have hMn : M ∈ AN := hsp.subset (by simp)
    have hPM := Hperm.out M hMn
    have hvM := hPM.valid hv
    have hRM : Rows W (.slice rA rn rc) M := hM.rows (by rw [hPM.1]; exact hml)
    have hwW : Below w.heap.size w W := hwT.trans (i5.2.mono (by omega))
    have hTW := hT.on hwW
    have cb := hbp.cell
    have hsW := i5.2.size
    by_cases hm : allMerge M
    · have hRe := Reset_ok (.slice rA rn rc) M W hTW hRM hvM hm
      gi_wp2_with fail
      refine ⟨trivial, rfl, (inr l _ hRe).mono ?_⟩
      rintro e W2 ⟨u, rfl, hu, hb2⟩
      have j2 := i2.below hb2; have j3 := i3.below hb2; have j4 := i4.below hb2
      have e2 := j2.cell; have e2f := j2.frozen; have e3 := j3.cell; have e3f := j3.frozen; have e4 := j4.cell; have e4f := j4.frozen
      have cb2 := (hb2.cell (p := ⟨bp, 0, none⟩) (World.block_lt_of_cell? _ _ cb)).trans cb
      have hub := row_blk2 hu
      obtain ⟨uA, un, uc, rfl⟩ := own_slice3 hu
      have hsW2 := hb2.size
      have Hu := hid (row_mono hu (by omega : w.heap.size ≤ W.heap.size))
      have HM2 := hid (hM.below hb2)
      have l2 := j2.1.lt
      clear hu hM
      have Kfin : Hid (∀ W9, W9 = (((W2.setCell ⟨w.heap.size + 1, 0, none⟩ (.slice rA rn rc)).setCell ⟨w.heap.size + 1 + 1, 0, none⟩ (.slice uA un uc)).setCell ⟨w.heap.size + 1 + 1 + 1, 0, none⟩ (.int .i64 0)) →
          KeepsFrom T.heap.size W W9 ∧ Keep (w.heap.size + 1) X W W9 ∧ (Code.ret = Code.ret ∧ RoadX w (pre ++ [(.slice rA rn rc, M)]) W9)) := hid (by
        rintro W9 rfl
        have hsame : ∀ k, w.heap.size + 4 ≤ k → (((W2.setCell ⟨w.heap.size + 1, 0, none⟩ (.slice rA rn rc)).setCell ⟨w.heap.size + 1 + 1, 0, none⟩ (.slice uA un uc)).setCell ⟨w.heap.size + 1 + 1 + 1, 0, none⟩ (.int .i64 0)).heap[k]? = W2.heap[k]? := fun k hk => by
          rw [Below.heap_setCell _ _ _ _ (by simp; omega), Below.heap_setCell _ _ _ _ (by simp; omega), Below.heap_setCell _ _ _ _ (by simp; omega)]
        refine ⟨(((kf_below hb2).trans (kf_set _ _ _ _)).trans (kf_set _ _ _ _)).trans (kf_set _ _ _ _), (((Keep.of_below hb2).trans (keep_set _ _ _ (by omega) j2.2)).trans (keep_set _ _ _ (by omega) j3.2)).trans (keep_set _ _ _ (by omega) j4.2), rfl, _, _, M, nb, by simp, hm, (((j2.set _).other (by omega) _).other (by omega) _).1, (((j3.other (by omega) _).set _).other (by omega) _).1, (((j4.other (by omega) _).other (by omega) _).set _).1, HM2.out.kept (fun k hk _ => hsame k (by omega)), ownsRow_same Hu.out (fun g hg => hsame g (by have := hub g hg; omega)), ?_⟩
        exact (((hwW.trans (hb2.mono (by omega))).setCell (p := ⟨w.heap.size + 1, 0, none⟩) (by show w.heap.size ≤ w.heap.size + 1; omega) _).setCell (p := ⟨w.heap.size + 1 + 1, 0, none⟩) (by show w.heap.size ≤ w.heap.size + 1 + 1; omega) _).setCell (p := ⟨w.heap.size + 1 + 1 + 1, 0, none⟩) (by show w.heap.size ≤ w.heap.size + 1 + 1 + 1; omega) _)
      gi_wp2
      obtain ⟨y1, y2, y3⟩ := Kfin.out _ rfl
      exact ⟨y1, y2, rfl, y3.2⟩
    · have hRe := Reset_none (.slice rA rn rc) M W hRM hvM hm
      gi_wp2_with fail
      refine ⟨trivial, rfl, (inr l _ hRe).mono ?_⟩
      rintro e W2 ⟨rfl, hb2⟩
      gi_wp2
      exact ⟨kf_below hb2, Keep.of_below hb2, fun M' hM' => by
        rw [List.map_append, List.mem_append] at hM'
        rcases hM' with h1 | h1
        · exact i1 M' h1
        · obtain rfl : M' = M := by simpa using h1
          exact hm, i2.below hb2, i3.below hb2, i4.below hb2, i5.step (hb2.mono (by omega))⟩
  case done =>
    rintro D X xs W hD hS ⟨i1, i2, i3, i4, i5⟩ hK'
    have e2 := i2.cell; have e2f := i2.frozen; have e3 := i3.cell; have e3f := i3.frozen; have e4 := i4.cell; have e4f := i4.frozen
    have hwW : Below w.heap.size w W := hwT.trans (i5.2.mono (by omega))
    have Kfin : Hid (∀ W9, W9 = (((W.setCell ⟨w.heap.size + 1, 0, none⟩ (.slice none 0 0)).setCell ⟨w.heap.size + 1 + 1, 0, none⟩ (.slice none 0 0)).setCell ⟨w.heap.size + 1 + 1 + 1, 0, none⟩ (.int .i64 3)) →
        W9.heap[D]? = some (.deferred (some [])) ∧ Boxed W9 (w.heap.size + 1) 24 (.slice none 0 0) ∧ Boxed W9 (w.heap.size + 1 + 1) 41 (.slice none 0 0) ∧ Boxed W9 (w.heap.size + 1 + 1 + 1) 25 (.int .i64 3) ∧ Below w.heap.size w W9) := hid (by
      rintro W9 rfl
      refine ⟨?_, (((i2.set _).other (by omega) _).other (by omega) _).1, (((i3.other (by omega) _).set _).other (by omega) _).1, (((i4.other (by omega) _).other (by omega) _).set _).1, ?_⟩
      · rw [Below.heap_setCell _ _ _ _ (by simp; omega), Below.heap_setCell _ _ _ _ (by simp; omega), Below.heap_setCell _ _ _ _ (by simp; omega)]; exact hK'
      · exact ((hwW.setCell (p := ⟨w.heap.size + 1, 0, none⟩) (by show w.heap.size ≤ w.heap.size + 1; omega) _).setCell (p := ⟨w.heap.size + 1 + 1, 0, none⟩) (by show w.heap.size ≤ w.heap.size + 1 + 1; omega) _).setCell (p := ⟨w.heap.size + 1 + 1 + 1, 0, none⟩) (by show w.heap.size ≤ w.heap.size + 1 + 1 + 1; omega) _)
    gi_wp2
    go_wp2
    obtain ⟨k1, k2, k3, k4, k5⟩ := Kfin.out _ rfl
    generalize ((W.setCell ⟨w.heap.size + 1, 0, none⟩ (.slice none 0 0)).setCell ⟨w.heap.size + 1 + 1, 0, none⟩ (.slice none 0 0)).setCell ⟨w.heap.size + 1 + 1 + 1, 0, none⟩ (.int .i64 3) = W9 at *
    refine ⟨by simp, .inl ⟨_, _, rfl, run_takeDeferred k1, ?_⟩⟩
    have m2 := (put_boxed k2 k1).cell
    have m3 := (put_boxed k3 k1).cell
    have m4 := (put_boxed k4 k1).cell
    refine ⟨.tuple #[.agg #[.slice none 0 0], .slice none 0 0, .int .i64 3], ?_, .inr ⟨fun M hM => i1 M ?_, rfl, k5.trans (belowK_b (w := w) (Nat.le_refl _) _ D _ _ (by omega) k1 rfl rfl)⟩⟩
    · simp only [results, Tryd.results20]
      go_simp
    · rw [hS]
      rw [HAN.out] at hM
      exact hM
  case stop =>
    rintro D X c pre W hD hSp ⟨rfl, r, u, M, nb, a1, a2, a3, a4, a5, a6, a7, a8⟩ hK'
    gi_wp2
    refine ⟨by simp, .inl ⟨_, _, rfl, run_takeDeferred hK', ?_⟩⟩
    have m2 := (put_boxed a3 hK').cell
    have m3 := (put_boxed a4 hK').cell
    have m4 := (put_boxed a5 hK').cell
    obtain ⟨rA, rn, rc, rfl⟩ := a6.slice'
    obtain ⟨uA, un, uc, rfl⟩ := own_slice3 a7
    have hMn : M ∈ AN := hSp.subset a1
    have hPM := Hperm.out M hMn
    have h9 := (a6.marks (W' := W.putObj D (.deferred none)) (fun k o hk hc => (World.putObj_heap_other (fun e => by
      subst e
      rw [hK'] at hk
      cases hk
      cases hc)).trans hk)).rows (by rw [hPM.1]; exact hml)
    refine ⟨.tuple #[.agg #[.slice rA rn rc], .slice uA un uc, .int .i64 0], ?_, .inl ⟨_, _, M, rfl, by rw [HAN.out]; exact hMn, a2, h9, ownsRow_putObj a7 (.deferred none) hK' rfl, a8.trans (belowK_b (w := w) (Nat.le_refl _) _ D _ _ (by omega) hK' rfl rfl)⟩⟩
    · simp only [results, Tryd.results20]
      go_simp
end Go.Proofs.YtlpfglkopnmlnaaDoor
namespace Go.Proofs.YtlpfglkopnmlnaaDoor
open Go.RowKit Go.Shelf
/-- The pairs (p, d) with d below q that are never merged; those of all first states below p. -/
def apartRow (m : List (List Int)) (p q : Nat) : List (Nat × Nat) := ((List.range q).filter fun d => decide (p < d) && decide (mlen m p d < 0)).map fun d => (p, d)
def apartAll (m : List (List Int)) (p : Nat) : List (Nat × Nat) := (List.range p).flatMap fun a => apartRow m a m.length
/-- The pairs that no word merges. -/
def apartL (m : List (List Int)) : List (Nat × Nat) := apartAll m m.length
theorem apartL_mem {m : List (List Int)} {e : Nat × Nat} : e ∈ apartL m ↔ e.1 < e.2 ∧ e.2 < m.length ∧ mlen m e.1 e.2 < 0 := by
  unfold apartL apartAll apartRow
  simp only [List.mem_flatMap, List.mem_range, List.mem_map, List.mem_filter, Bool.and_eq_true, decide_eq_true_eq]
  constructor
  · rintro ⟨a, ha, d, ⟨hd, h1, h2⟩, rfl⟩
    exact ⟨h1, hd, h2⟩
  · rintro ⟨h1, h2, h3⟩
    exact ⟨e.1, by omega, e.2, ⟨h2, h1, h3⟩, rfl⟩
end Go.Proofs.YtlpfglkopnmlnaaDoor
namespace Go.Proofs.YtlpfglkopnmlnaaDoor
open Go.RowKit Go.Shelf
theorem apartL_nil {m : List (List Int)} (hv : validM m = true) : apartL m = [] ↔ allMerge m := by
  constructor
  · intro h p q hpq hq
    rcases mlen_spec hv (p := p) (q := q) (by omega) hq with ⟨h1, _⟩ | ⟨j, _, _, h3⟩
    · have : (p, q) ∈ apartL m := apartL_mem.2 ⟨hpq, hq, by simp only; omega⟩
      rw [h] at this
      cases this
    · exact ⟨j, h3.1⟩
  · intro h
    rw [List.eq_nil_iff_forall_not_mem]
    intro e he
    obtain ⟨h1, h2, h3⟩ := apartL_mem.1 he
    obtain ⟨k, hk⟩ := h e.1 e.2 h1 h2
    obtain ⟨j, _, hd⟩ := mdist_some hk
    rw [mlen_of hv (by omega) h2 hd] at h3
    omega
set_option maxHeartbeats 1000000 in
theorem rMost_any (n : Nat) (w : World) (hn : n ≤ 60) :
    Calls Tryd.prog 24 #[.int .i64 n] w fun e w' => e = .returned (.int .i64 (((n * n * n - n) / 6 : Nat) : Int)) ∧ w = w' := by
  have h2 : n * n ≤ 60 * 60 := Nat.mul_le_mul hn hn
  have h3 : n * n * n ≤ 60 * 60 * 60 := Nat.mul_le_mul h2 hn
  have h4 : n ≤ n * n * n := by
    rcases Nat.eq_zero_or_pos n with e | e
    · subst e; simp
    · have : 1 * n ≤ n * n * n := Nat.mul_le_mul_right n (Nat.mul_pos e e)
      omega
  have e2 : (n : Int) * n = ((n * n : Nat) : Int) := by push_cast; rfl
  have e3 : (n : Int) * n * n = ((n * n * n : Nat) : Int) := by push_cast; rfl
  have b2 : (n : Int) * n ≤ 3600 := by rw [e2]; omega
  have b2' : 0 ≤ (n : Int) * n := by rw [e2]; omega
  have b3 : (n : Int) * n * n ≤ 216000 := by rw [e3]; omega
  have b3' : 0 ≤ (n : Int) * n * n := by rw [e3]; omega
  have b4 : (n : Int) ≤ (n : Int) * n * n := by rw [e3]; omega
  have Hend := hid (show ((n : Int) * n * n - n) / 6 = (((n * n * n - n) / 6 : Nat) : Int) from by rw [e3]; omega)
  clear e2 e3
  go_enter Tryd.func24, Tryd.ntmps24
  go_wp2
  go_ret
  exact ⟨ret_int Hend.out, rfl⟩
theorem ofList_all {n : Nat} (hn : n ≤ 64) : ofList (allM n) = 2 ^ n - 1 := by
  have hp : (2 : Nat) ^ n ≤ 2 ^ 64 := Nat.pow_le_pow_right (by decide) hn
  have h0 := Nat.two_pow_pos n
  have hm : ∀ x ∈ allM n, 0 ≤ x ∧ x < n := fun x hx => by
    unfold allM pick at hx
    simp at hx
    obtain ⟨a, ha, rfl⟩ := hx
    omega
  refine eq_of_elems _ _ (Nat.lt_of_lt_of_le (ofList_lt n hn _ hm) hp) (by omega) fun i _ => ?_
  rw [testBit_below, allM, pick_testBit]
  simp
theorem image_len {m : List (List Int)} (hm : m.length ≤ 64) (u : List Int) : (imageM m (allM m.length) u).length = (elems (imgWord m (2 ^ m.length - 1) u)).length := by
  rw [imageM, ofList_all hm, intsOf, List.length_map]
theorem resetW_word {m : List (List Int)} (hv : validM m = true) (hall : allMerge m) : isWordM m (resetW m) = true := by
  obtain ⟨p1, p2, -⟩ := valid_parts hv
  obtain ⟨c1, -, c3⟩ := resetW_ok hv hall
  have hcube : m.length * m.length * m.length ≤ 60 * 60 * 60 := Nat.mul_le_mul (Nat.mul_le_mul p2 p2) p2
  unfold isWordM
  rw [c1, Bool.and_true]
  exact decide_eq_true (by omega)
set_option maxHeartbeats 2000000 in
theorem rResets_yes (v u : Value) (m : List (List Int)) (l : List Int) (w : World) (h : Rows w v m) (hu : Ints w u l) (hv : validM m = true) (hw : isWordM m l = true) (h1 : (imageM m (allM m.length) l).length = 1) :
    Calls Tryd.prog 23 #[.agg #[v], u] w fun e w' => e = .returned (.bool true) ∧ Below w.heap.size w w' := by
  obtain ⟨p1, p2, -⟩ := valid_parts hv
  obtain ⟨A, cap, rfl, hml, -⟩ := id h
  obtain ⟨uA, uc, rfl, -, -⟩ := id hu
  have hX := bal (Below.refl _ w) (.cells #[.slice A m.length cap] 24)
  have hbx := (Boxed.new w 24 (.slice A m.length cap)).cell
  have Hx := hid hX
  have hset := allM_set m
  obtain ⟨x, hx⟩ : ∃ x, imageM m (allM m.length) l = [x] := by
    match hi : imageM m (allM m.length) l, h1 with
    | [x], _ => exact ⟨x, rfl⟩
  have Hx1 := hid hx
  have HAL := hid (show allM m.length = allM m.length from rfl)
  have Hset := hid hset
  clear hset hx h1
  go_enter Tryd.func23, Tryd.ntmps23
  go_wp2_with fail
  have hr := h.below hX
  have hu2 := hu.below hX
  generalize w.alloc (.cells #[.slice A m.length cap] 24) = X at *
  clear hX h hu
  go_region_held3 (fun w' => Below X.heap.size X w' ∧ w'.cell? ⟨w.heap.size, 0, none⟩ = some (.slice A m.length cap)) (exact held_one hbx (by first | exact below_dr X 1 | assumption)) (first
    | (go_at_call 25; go_must (refine (rWord_bool _ _ m l true _ (hr.below (by first | exact below_dr X 1 | exact Below.refl _ _)) hv (hu2.below (by first | exact below_dr X 1 | exact Below.refl _ _)) hw).mono ?_; rintro e y1 ⟨rfl, hy1⟩; have k1 : Below X.heap.size X y1 := btr (by first | exact below_dr X 1 | exact Below.refl _ _) hy1))
    | (go_at_call 28; go_must (refine (rAll_any m.length _ (by omega)).mono ?_; rintro e y2 ⟨rv, rfl, i2, hy2⟩; have k2 : Below X.heap.size X y2 := btr k1 hy2; obtain ⟨rA, rc, rfl, -, -⟩ := id i2))
    | (go_at_call 60; go_must (refine (rImage_any _ _ _ m _ l _ (hr.below k2) i2 (hu2.below k2) hv Hset.out hw).mono ?_; rintro e y3 ⟨rv3, rfl, i3, hy3⟩; rw [Hx1.out] at i3; have k3 : Below X.heap.size X y3 := btr k2 hy3; obtain ⟨rA3, rc3, rfl, -, -⟩ := id i3)))
  all_goals go_wp2
  all_goals go_ret
  all_goals exact ⟨rfl, btr Hx.out k3⟩
end Go.Proofs.YtlpfglkopnmlnaaDoor
namespace Go.Proofs.YtlpfglkopnmlnaaDoor
open Go.RowKit Go.Shelf
theorem lit2_rows (w : World) (a b c d : Int) : Rows (((w.alloc (.cells #[.int .i64 a, .int .i64 b] 3)).alloc (.cells #[.int .i64 c, .int .i64 d] 3)).alloc
    (.cells #[.slice (some ⟨w.heap.size, 0, none⟩) 2 2, .slice (some ⟨w.heap.size + 1, 0, none⟩) 2 2] 41)) (.slice (some ⟨w.heap.size + 1 + 1, 0, none⟩) 2 2) [[a, b], [c, d]] :=
  rows2 _ _ _ _ _ _ _ (by simp) ((Ints.two' w a b _ _ rfl).alloc _) (Ints.two' _ c d _ _ (by simp))
end Go.Proofs.YtlpfglkopnmlnaaDoor
namespace Go.Proofs.YtlpfglkopnmlnaaDoor
open Go.RowKit Go.Shelf
theorem Ints.nil (w : World) : Ints w (.slice none 0 0) [] := ⟨none, 0, rfl, by simp, fun i hi => by simp at hi⟩
end Go.Proofs.YtlpfglkopnmlnaaDoor
namespace Go.Proofs.YtlpfglkopnmlnaaDoor
open Go.RowKit Go.Shelf
theorem reset_one {m : List (List Int)} (hv : validM m = true) (hall : allMerge m) : (imageM m (allM m.length) (resetW m)).length = 1 := by
  rw [image_len (by have := (valid_parts hv).2.1; omega)]
  exact (resetW_ok hv hall).2.1
end Go.Proofs.YtlpfglkopnmlnaaDoor
namespace Go.Proofs.YtlpfglkopnmlnaaDoor
open Go.RowKit Go.Shelf
theorem three_alloc4 (w : World) (a b c : Obj) : (((w.alloc a).alloc b).alloc c).heap[w.heap.size]? = some a ∧ (((w.alloc a).alloc b).alloc c).heap[w.heap.size + 1]? = some b ∧ (((w.alloc a).alloc b).alloc c).heap[w.heap.size + 2]? = some c ∧ (((w.alloc a).alloc b).alloc c).heap.size = w.heap.size + 3 := by
  obtain ⟨h0, h1⟩ := two_alloc w a b
  have e2 : ((w.alloc a).alloc b).heap.size = w.heap.size + 2 := by simp
  refine ⟨?_, ?_, ?_, by simp⟩
  · rw [Below.heap_alloc _ _ _ (by omega)]; exact h0
  · rw [Below.heap_alloc _ _ _ (by omega)]; exact h1
  · rw [← e2]; exact heap_alloc_new _ _
end Go.Proofs.YtlpfglkopnmlnaaDoor
namespace Go.Proofs.YtlpfglkopnmlnaaDoor
theorem per_image {m : List (List Int)} (hv : validM m = true) (hc : connM m = true) {u : List Int} (hu : isWordM m u = true) : perM m ≤ (imageM m (allM m.length) u).length := by
  have hua : u.all (inB 0 ((letters m : Int) - 1)) = true := by
    unfold isWordM at hu
    first
      | exact hu
      | (rw [Bool.and_eq_true] at hu; exact hu.2)
  have hd : 0 < perM m := perM_pos hv hc
  have hsub : ∀ x ∈ (List.range (perM m)).map (fun k : Nat => (k : Int)), x ∈ (imageM m (allM m.length) u).map fun t => (clsM m).getD t.toNat 0 := by
    intro x hx
    obtain ⟨k, hk, rfl⟩ := List.mem_map.1 hx
    have hk' := List.mem_range.1 hk
    have hc0 : 0 ≤ ((k : Int) - u.length) % (perM m : Int) := Int.emod_nonneg _ (by omega)
    have hc1 : ((k : Int) - u.length) % (perM m : Int) < perM m := Int.emod_lt_of_pos _ (by omega)
    obtain ⟨c, hce⟩ := Int.eq_ofNat_of_zero_le hc0
    have hcl : c < perM m := by omega
    have hm := hasB_mem.1 (cls_all hv hc hcl)
    obtain ⟨s, hs, hse⟩ := List.getElem_of_mem hm
    have hsm : s < m.length := by rw [clsM_len] at hs; exact hs
    have hcs : (clsM m).getD s 0 = (c : Int) := by rw [List.getD_eq_getElem?_getD, List.getElem?_eq_getElem hs, Option.getD_some, hse]
    have hst := cls_step hv hc hsm hua
    refine List.mem_map.2 ⟨((runM m s u : Nat) : Int), hasB_mem.1 ((hasB_all hv hu _).2 ⟨s, hsm, rfl⟩), ?_⟩
    rw [Int.toNat_natCast, hst, hcs, ← hce, Int.emod_add_emod, Int.sub_add_cancel]
    exact Int.emod_eq_of_lt (by omega) (by omega)
  have hnd : ((List.range (perM m)).map (fun k : Nat => (k : Int))).Nodup := by
    rw [List.nodup_iff_pairwise_ne, List.pairwise_map]
    exact List.pairwise_lt_range.imp (fun hab e => by omega)
  have := nodup_sub hnd hsub
  simpa using this
end Go.Proofs.YtlpfglkopnmlnaaDoor
namespace Go.Proofs.YtlpfglkopnmlnaaDoor
theorem waysT_perm {l k : List Int} (h : l.Perm k) : ∀ t, waysT l t = waysT k t
  | 0 => by rw [waysT_zero, waysT_zero, h.length_eq]
  | t + 1 => by rw [waysT_succ, waysT_succ, waysT_perm h t, timesL_perm h]
theorem ordN_perm {l k : List Int} (h : l.Perm k) (n : Nat) : ordN l n = ordN k n := waysT_perm h n
theorem colTo_perm {m k : List (List Int)} (hl : m.length = k.length) (h : ∀ s, s < m.length → (m.getD s []).Perm (k.getD s [])) (lim : Nat) : ∀ s, s ≤ m.length → colTo m lim s = colTo k lim s
  | 0, _ => rfl
  | s + 1, hs => by
    show (match colTo m lim s with | none => none | some c => _) = (match colTo k lim s with | none => none | some c => _)
    rw [colTo_perm hl h lim s (by omega), ordN_perm (h s (by omega)), hl]
end Go.Proofs.YtlpfglkopnmlnaaDoor
