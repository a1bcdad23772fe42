/-
  The reference: renamed automata.
-/
import Derived.Test.YtibaihchnbbokaaDoorP8
import Derived.Test.YtibaihchnbbokaaDoorR5
namespace Go.Proofs.YtibaihchnbbokaaDoor
open Go.RowKit Go.Shelf

theorem MRows.mono_base {W : World} {base base' : Nat} {v : Value} {m : List (List Int)} (h : MRows W base v m) (hb : base' ≤ base) : MRows W base' v m := by
  obtain ⟨xs, ho, hx⟩ := h
  refine ⟨xs, ?_, fun i hi => ?_⟩
  · obtain ⟨h1, h2⟩ := ho
    refine ⟨h1, ?_⟩
    rcases h2 with h2 | ⟨g, cap, cur, hv, hg, r⟩
    · exact .inl h2
    · exact .inr ⟨g, cap, cur, hv, by omega, r⟩
  · obtain ⟨A, cap, hv, hl, hc⟩ := hx i hi
    refine ⟨A, cap, hv, hl, fun j hj => ?_⟩
    obtain ⟨b, off, hA, h1, h2⟩ := hc j hj
    exact ⟨b, off, hA, by omega, h2⟩

set_option maxRecDepth 100000 in
set_option maxHeartbeats 4000000 in
theorem rRenamed_any (v u : Value) (m : List (List Int)) (l : List Int) (w : World) (h : Rows w v m) (hu : Ints w u l) (hv : validM m = true) (hnm : namesM l m.length = true) :
    Calls Tryd.prog 31 #[.agg #[v], u] w fun e w' => ∃ r, e = .returned (.agg #[r]) ∧ MRows w' w.heap.size r (renM m l) ∧ Below w.heap.size w w' := by
  obtain ⟨A, cap, rfl, _, hcm⟩ := id h
  obtain ⟨Au, capu, rfl, hlu, hcu⟩ := id hu
  unfold big at hlu
  have hn1 := (valid_parts hv).1
  have hn := (valid_parts hv).2.1
  have hlm := (valid_parts hv).2.2.2.1
  have hlm1 := (valid_parts hv).2.2.1
  have hlen : l.length = m.length := by have h := hnm; rw [namesM, Bool.and_eq_true, decide_eq_true_eq] at h; exact h.1
  have hbd := names_bound hnm
  have Hcu := hid hcu
  have Hcm := hid hcm
  have Hbd := hid hbd
  have Hnm := hid hnm
  obtain ⟨i0, hi, hz0, hz1, hz2⟩ := info_parts infoRow
  obtain ⟨j0, hj, hy0, hy1, hy2⟩ := info_parts infoInt
  clear hcu hcm hbd hnm
  obtain ⟨f0, f1⟩ := two_alloc w (.cells #[.slice A m.length cap] 24) (.cells #[.slice none 0 0] 24)
  have hX := bal (bal (Below.refl _ w) (.cells #[.slice A m.length cap] 24)) (.cells #[.slice none 0 0] 24)
  have Hx := hid hX
  have Hlen := hid hlen
  clear hlen
  go_enter Tryd.func31, Tryd.ntmps31
  go_upto_region 1 with fail
  generalize hWX : (w.alloc (.cells #[.slice A m.length cap] 24)).alloc (.cells #[.slice none 0 0] 24) = X at *
  clear hX hWX
  have hX := Hx.out
  have hl1 : w.heap.size + 1 < X.heap.size := lt_of_block f1
  have hl0 : w.heap.size < X.heap.size := lt_of_block f0
  have c0 := cell_of_one f0
  have hr := h.below hX
  have hn' := hu.below hX
  clear f0
  go_wp2_with (at_make; refine wpList_make_full _ rfl _ _ 22 rfl X.heap.size 25 i0 (.slice none 0 0) 1 Tryd.underlying22 hi hz0 hz1 .i64 .i64 _ _ m.length rfl rfl rfl rfl (by rw [hz2]; omega) (by unfold maxLen; omega) (Nat.le_refl _) ?_; intro w3 hown hgrow; have hB3 : Below X.heap.size X w3 := (Below.refl _ _).grown hgrow (Nat.le_refl _) (fun q hq => by cases hq); have cZ3 := (hB3.cell (p := ⟨w.heap.size, 0, none⟩) hl0).trans c0)
  have hs3 := owns_lt hown
  rw [show Value.cells (.slice none 0 0) = #[.slice none 0 0] from rfl, toList_madeCells_one, Nat.mul_one] at hown
  have hB4 := hB3.alloc hB3.size (.cells #[.slice (some ⟨X.heap.size, 0, none⟩) m.length m.length] 24)
  have hown4 := hown.alloc (.cells #[.slice (some ⟨X.heap.size, 0, none⟩) m.length m.length] 24)
  have o4 := heap_alloc_new w3 (.cells #[.slice (some ⟨X.heap.size, 0, none⟩) m.length m.length] 24)
  go_loopw [6] (fun i wr => ∃ (k : Nat) (xs : List Value), k ≤ m.length ∧ i = .int .i64 k ∧ wr.ownsRow X.heap.size 25 1 (.slice (some ⟨X.heap.size, 0, none⟩) m.length m.length) m.length xs ∧ (∀ s, s < k → IntsOff wr X.heap.size (some X.heap.size) (xs.getD (l.getD s 0).toNat .nilIface) (renRow m l s)) ∧ wr.heap[w3.heap.size]? = some (.cells #[.slice (some ⟨X.heap.size, 0, none⟩) m.length m.length] 24 (0, 0)) ∧ Below X.heap.size X wr) (fun i _ => m.length - (intOf i).toNat)
  case atStart => exact ⟨0, _, Nat.zero_le _, rfl, hown4, fun s hs => by omega, o4, hB4⟩
  case round =>
    obtain ⟨k, xs, hk, rfl, hO, hdone, ho, hBZ⟩ := hrel
    have hsz := owns_lt hO
    have hc0 := (hBZ.cell (p := ⟨w.heap.size, 0, none⟩) hl0).trans c0
    have hxl : xs.length = m.length := by have := hO.1; omega
    by_cases hlt : k < m.length
    · have hle := Hlen.out
      have hkm : (k : Int) < m.length := by omega
      have hBwo := btr hX hBZ
      obtain ⟨b, off, r, hA, hcell, hrow⟩ := Hcm.out k hlt
      subst hA
      have hcr := (hBwo.cell (p := ⟨b, off + k, none⟩) (World.block_lt_of_cell? _ _ hcell)).trans hcell
      have hbw : b < wr.heap.size := World.block_lt_of_cell? _ _ hcr
      have hrl := ((valid_parts hv).2.2.2.2 k hlt).1
      have hrb := ((valid_parts hv).2.2.2.2 k hlt).2
      have Hrs := hid (renRow_succ hv l k)
      have Hrl := hid (renRow_length hv l k hlt)
      obtain ⟨bn, on, hAn, hcn⟩ := Hcu.out k (by omega)
      subst hAn
      have hqb := Hbd.out (l.getD k 0) (by rw [getD_elem l k (by omega)]; exact List.getElem_mem _)
      have Hinj := hid (fun s (hs : s < k) (e : l.getD s 0 = l.getD k 0) => by have := names_inj Hnm.out (show s < l.length by omega) (show k < l.length by omega) e; omega)
      obtain ⟨q, hq⟩ : ∃ q : Nat, l.getD k 0 = q := ⟨(l.getD k 0).toNat, by omega⟩
      have hqn : q < m.length := by omega
      have Hq := hid hq
      rw [hq] at hcn
      obtain ⟨Ar, capr, rfl, _, hcr2⟩ := id hrow
      have Hcr2 := hid hcr2
      have Hrb := hid hrb
      rw [hrl] at hcr
      have hrr := hr.below hBZ
      have Ho := hid ho
      have HO := hid hO
      have Hd := hid hdone
      have hbnw : bn < wr.heap.size := Nat.lt_of_lt_of_le (World.block_lt_of_cell? _ _ hcn) hBwo.size
      have hcnr := (hBwo.cell (p := ⟨bn, on + k, none⟩) (World.block_lt_of_cell? _ _ hcn)).trans hcn
      clear hcell hrow hcr2 hrb hqb hq ho hO hdone hle
      obtain ⟨wo, rfl⟩ : ∃ wo : World, wo = wr := ⟨_, rfl⟩
      go_wp2_with fail
      go_loopw [7, 8] (fun uu i wi => ∃ j : Nat, j ≤ letters m ∧ i = .int .i64 j ∧ wi.ownsRow wo.heap.size 3 1 uu j (((renRow m l k).take j).map fun x => .int .i64 x) ∧ Below wo.heap.size wo wi) (fun _ i _ => letters m - (intOf i).toNat)
      case atStart => exact ⟨0, Nat.zero_le _, rfl, ⟨rfl, .inl ⟨rfl, rfl⟩⟩, Below.refl _ _⟩
      case round =>
        obtain ⟨j, hjl, rfl, huu, hBi⟩ := hrel
        have hsi := hBi.size
        have hci := (hBi.cell (p := ⟨w.heap.size, 0, none⟩) (by show w.heap.size < _; omega)).trans hc0
        by_cases hjlt : j < letters m
        · obtain ⟨br, offr, hAr, hct⟩ := Hcr2.out j (by rw [hrl]; exact hjlt)
          subst hAr
          have hBw := btr hBwo hBi
          have htb := Hrb.out j hjlt
          have Hs := hid (Hrs.out j hlt hjlt)
          generalize (m.getD k []).getD j 0 = tv at *
          obtain ⟨tn, rfl⟩ := Int.eq_ofNat_of_zero_le htb.1
          rw [Int.toNat_natCast] at Hs
          have hle := Hlen.out
          obtain ⟨bn', on', hAn', hct3⟩ := Hcu.out tn (by omega)
          cases hAn'
          have htn : (tn : Int) < l.length := by omega
          have hjs : (j : Int) < letters m := by omega
          generalize l.getD tn 0 = y at *
          clear hle
          go_wp2_with fail
          refine (rLetters_any _ m _ (hrr.below hBi) hv).mono ?_
          rintro e wA ⟨rfl, hA⟩
          have hBA := btr hBi hA
          have hBwA := btr hBw hA
          have a1 := (hBA.cell (p := ⟨w.heap.size, 0, none⟩) (by show w.heap.size < _; omega)).trans hc0
          have a2 := (hBA.cell (p := ⟨b, off + k, none⟩) hbw).trans hcr
          have a3 := (hBwA.cell (p := ⟨br, offr + j, none⟩) (World.block_lt_of_cell? _ _ hct)).trans hct
          have a4 := (hBwA.cell (p := ⟨bn, on + tn, none⟩) (World.block_lt_of_cell? _ _ hct3)).trans hct3
          have huA := owns_kept huu (fun q _ hq => hA.block q hq)
          have hsA := hBA.size
          clear hct hct3
          go_wp2_with (at_builtin; refine wpList_append_own_at _ rfl _ _ 25 rfl wo.heap.size 3 j0 (.int .i64 0) 1 8 Tryd.underlying25 hj hy0 hy1 hy2 rfl (by decide) _ _ _ rfl (huA.alloc _) ⟨wA.heap.size, 0, none⟩ 1 1 [.int .i64 y] rfl rfl (cell_one_new _ _ _) (by simp [Value.oneCell']) (by unfold maxLen; omega) (by omega) (by simp; omega) ?_; intro v' w5 hown' hgrow' _ hat)
          go_roundw
          case rel => exact ⟨j + 1, by omega, by go_num, by rw [Hs.out]; exact hown', appended_below hBA huA hsA hgrow'⟩
          case measure => simp [intOf]; omega
        · obtain rfl : j = letters m := by omega
          have hjs : ¬ ((letters m : Nat) : Int) < letters m := by omega
          obtain ⟨g, cg, rfl, hgb⟩ : ∃ g c, u7 = .slice (some ⟨g, 0, none⟩) (letters m) c ∧ wo.heap.size ≤ g := by
            rcases huu.2 with ⟨_, h0⟩ | ⟨g, cap, cur, he, hg, _⟩
            · omega
            · exact ⟨g, cap, he, hg⟩
          rw [List.take_of_length_le (by rw [Hrl.out]; omega)] at huu
          go_wp2_with fail
          refine (rLetters_any _ m _ (hrr.below hBi) hv).mono ?_
          rintro e wA ⟨rfl, hA⟩
          have hBA := btr hBi hA
          have a1 := (hBA.cell (p := ⟨bn, on + k, none⟩) hbnw).trans hcnr
          have a2 := (hBA.block _ (lt_of_block Ho.out)).trans Ho.out
          have a3 := cell_of_one a2
          have OA := owns_below HO.out hBA hsz
          have a4 := OA.cellAt q (by omega)
          have a5 := OA.frozenAt q
          have huA := owns_kept huu (fun q _ hq => hA.block q hq)
          have hle := Hlen.out
          have hkl : (k : Int) < l.length := by omega
          have hqi : (q : Int) < m.length := by omega
          have hnew : IntsOff wA X.heap.size (some X.heap.size) (.slice (some ⟨g, 0, none⟩) (letters m) cg) (renRow m l k) := off_of_own huA Hrl.out (by omega) (fun e => by simp only [Option.some.injEq] at e; omega) (by unfold big; omega)
          have hdone := Hd.out
          have HD : Hid (∀ s, s < k + 1 → IntsOff wA X.heap.size (some X.heap.size) ((xs.set q (.slice (some ⟨g, 0, none⟩) (letters m) cg)).getD (l.getD s 0).toNat .nilIface) (renRow m l s)) := hid (by
            intro s hs'
            by_cases e : s = k
            · subst e
              have hi' : (l.getD s 0).toNat = q := by rw [Hq.out]; exact Int.toNat_natCast q
              have : (xs.set q (.slice (some ⟨g, 0, none⟩) (letters m) cg)).getD q .nilIface = .slice (some ⟨g, 0, none⟩) (letters m) cg := by simp [List.getD_eq_getElem?_getD, List.getElem?_set, hxl, hqn]
              rw [hi', this]
              exact hnew
            · have hp := Hbd.out (l.getD s 0) (by rw [getD_elem l s (by omega)]; exact List.getElem_mem _)
              have hne : (l.getD s 0).toNat ≠ q := fun h => by
                have h1 : l.getD s 0 = l.getD k 0 := by rw [Hq.out]; omega
                have := Hinj.out s (by omega) h1
                omega
              have : (xs.set q (.slice (some ⟨g, 0, none⟩) (letters m) cg)).getD (l.getD s 0).toNat .nilIface = xs.getD (l.getD s 0).toNat .nilIface := by
                simp only [List.getD_eq_getElem?_getD]
                rw [List.getElem?_set_ne (fun h => hne (by simpa [List.getD_eq_getElem?_getD] using h.symm))]
              rw [this]
              exact (hdone s (by omega)).kept (fun q _ hq _ => hBA.block q hq) (fun _ _ h => h))
          have HA := hid OA
          have A2 := hid a2
          clear hnew hdone OA a2 hle
          go_wp2_with fail
          go_region_law (fail)
          all_goals go_wp2
          all_goals go_roundw
          all_goals first
            | exact ⟨k + 1, xs.set q (.slice (some ⟨g, 0, none⟩) (letters m) cg), by omega, by go_num, (HA.out.stored q _).1, fun s hs => (HD.out s hs).kept (fun b _ _ hne => Below.heap_setCell _ _ _ _ (fun e => hne (by rw [e]))) (fun _ _ h => h), (Below.heap_setCell _ _ _ _ (by simp; omega)).trans A2.out, ((hBZ.trans (hBA.mono (by omega))).setCell (Nat.le_refl _) _).drew⟩
            | (simp [intOf]; omega)
    · obtain rfl : k = m.length := by omega
      have hM : MRows wr X.heap.size (.slice (some ⟨X.heap.size, 0, none⟩) m.length m.length) (renM m l) := ⟨xs, by rw [renM_length]; exact hO, fun i hi => by
        rw [renM_length] at hi
        rw [renM_get m l i hi]
        obtain ⟨h1, h2⟩ := names_at Hnm.out i hi
        have h3 := hdone _ h1
        rw [h2, Int.toNat_natCast] at h3
        exact h3⟩
      have o1 := cell_of_one ho
      have g5 := (hBZ.block _ hl1).trans f1
      have d1 := cell_of_one g5
      have d2 := free_of_one g5
      have d3 := store_res g5 (.slice (some ⟨X.heap.size, 0, none⟩) m.length m.length)
      have g6 : (wr.setCell ⟨w.heap.size + 1, 0, none⟩ (.slice (some ⟨X.heap.size, 0, none⟩) m.length m.length)).heap[w.heap.size + 1]? = some (.cells #[.slice (some ⟨X.heap.size, 0, none⟩) m.length m.length] 24 (0, 0)) := by simpa using heap_setCell_same wr (w.heap.size + 1) 0 _ _ (.slice (some ⟨X.heap.size, 0, none⟩) m.length m.length) g5
      have HB := hid (Below.setCell (btr hX hBZ) (p := ⟨w.heap.size + 1, 0, none⟩) (Nat.le_succ _) (.slice (some ⟨X.heap.size, 0, none⟩) m.length m.length))
      have HR := hid ((hM.kept (W' := wr.setCell ⟨w.heap.size + 1, 0, none⟩ (.slice (some ⟨X.heap.size, 0, none⟩) m.length m.length)) (fun q hq hs => Below.heap_setCell _ _ _ _ (by simp; omega))).mono_base (by omega : w.heap.size ≤ X.heap.size))
      have G6 := hid g6
      clear g5 g6 hM hdone hO ho
      go_wp2
      (try simp only [Exit.inBlock, Exit.then])
      refine bodyPost_ret (v := .agg #[.slice (some ⟨X.heap.size, 0, none⟩) m.length m.length]) ?_ rfl ⟨_, rfl, HR.out, HB.out⟩
      exact results_cell_row rfl _ _ _ _ _ _ _ rfl G6.out Tryd.underlying24 rfl (by kernel_rfl)
end Go.Proofs.YtibaihchnbbokaaDoor
