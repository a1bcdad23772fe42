/-
  Renamed, where all arguments are in order.
-/
import Derived.Test.YtibaihchnbbokaaDoorP7
namespace Go.Proofs.YtibaihchnbbokaaDoor
open Go.RowKit Go.Shelf

set_option maxRecDepth 100000 in
set_option maxHeartbeats 4000000 in
theorem Renamed_ok (v u : Value) (m : List (List Int)) (l : List Int) (w : World) (h : Rows w v m) (hu : Ints w u l) (hv : validM m = true) (hnm : namesM l m.length = true) :
    Calls Tryd.prog 28 #[.agg #[v], u] w (AutoOk w (renM m l)) := by
  obtain ⟨A, cap, rfl, _, hcm⟩ := id h
  obtain ⟨Au, capu, rfl, hlu, hcu⟩ := id hu
  unfold big at hlu
  have hn1 := (valid_parts hv).1
  have hn := (valid_parts hv).2.1
  have hlm := (valid_parts hv).2.2.2.1
  have hlm1 := (valid_parts hv).2.2.1
  have hnm' := hnm
  rw [names_iff (show m.length ≤ 64 by omega), Bool.and_eq_true, Bool.and_eq_true, decide_eq_true_eq, decide_eq_true_eq] at hnm'
  obtain ⟨hlen, hst, hof⟩ := hnm'
  have hbd := names_bound hnm
  have Hcu := hid hcu
  have Hcm := hid hcm
  have Hbd := hid hbd
  have Hnm := hid hnm
  obtain ⟨i0, hi, hz0, hz1, hz2⟩ := info_parts infoRow
  obtain ⟨j0, hj, hy0, hy1, hy2⟩ := info_parts infoInt
  have d0 : ((l.length : Int) != (m.length : Int)) = false := by simp; omega
  have d9 : (((ofList l : Nat) : Int) != ((2 ^ m.length - 1 : Nat) : Int)) = false := by rw [hof]; simp
  clear hcu hcm hbd hnm hof
  obtain ⟨f0, f1⟩ := two_alloc w (.cells #[.slice A m.length cap] 24) (.cells #[.slice none 0 0] 24)
  have hX := bal (bal (Below.refl _ w) (.cells #[.slice A m.length cap] 24)) (.cells #[.slice none 0 0] 24)
  have Hx := hid hX
  have Hlen := hid hlen
  clear hlen
  go_enter Tryd.func28, Tryd.ntmps28
  go_wp2_with fail
  generalize hWX : (w.alloc (.cells #[.slice A m.length cap] 24)).alloc (.cells #[.slice none 0 0] 24) = X at *
  clear hX hWX
  have hX := Hx.out
  have hl1 : w.heap.size + 1 < X.heap.size := lt_of_block f1
  have hl0 : w.heap.size < X.heap.size := lt_of_block f0
  have c0 := cell_of_one f0
  have hr := h.below hX
  have hn' := hu.below hX
  clear f0
  refine (Valid_bool _ m true _ hr hv).mono ?_
  rintro e w1 ⟨rfl, h1⟩
  have c1 := (h1.cell (p := ⟨w.heap.size, 0, none⟩) hl0).trans c0
  go_wp2_with fail
  refine (areStates_bool _ _ m l true _ (hr.below h1) (hn'.below h1) hst).mono ?_
  rintro e Z ⟨rfl, h2⟩
  have B2 := btr h1 h2
  have cZ := (B2.cell (p := ⟨w.heap.size, 0, none⟩) hl0).trans c0
  have gZ := (B2.block _ hl1).trans f1
  have hlZ : w.heap.size + 1 < Z.heap.size := lt_of_block gZ
  have hZ := btr hX B2
  have huZ := hn'.below B2
  clear c0 c1 f1 hr hn' h1 h2
  go_wp2_with fail
  refine (Of_any _ l _ huZ (fun x hx => by have := inB_iff.1 (List.all_eq_true.1 hst x hx); omega)).mono ?_
  rintro e w3 ⟨rfl, rfl⟩
  go_wp2_with fail
  refine (Below_any m.length _ hn).mono ?_
  rintro e w3 ⟨rfl, rfl⟩
  go_wp2_with (at_make; refine wpList_make_full _ rfl _ _ 22 rfl Z.heap.size 25 i0 (.slice none 0 0) 1 Tryd.underlying22 hi hz0 hz1 .i64 .i64 _ _ m.length rfl rfl rfl rfl (by rw [hz2]; omega) (by unfold maxLen; omega) (Nat.le_refl _) ?_; intro w3 hown hgrow; have hB3 : Below Z.heap.size Z w3 := (Below.refl _ _).grown hgrow (Nat.le_refl _) (fun q hq => by cases hq); have cZ3 := (hB3.cell (p := ⟨w.heap.size, 0, none⟩) (by show w.heap.size < _; omega)).trans cZ)
  have hs3 := owns_lt hown
  rw [show Value.cells (.slice none 0 0) = #[.slice none 0 0] from rfl, toList_madeCells_one, Nat.mul_one] at hown
  go_loopw [42] (fun i wr => ∃ (k : Nat) (xs : List Value), k ≤ m.length ∧ i = .int .i64 k ∧ wr.ownsRow Z.heap.size 25 1 (.slice (some ⟨Z.heap.size, 0, none⟩) m.length m.length) m.length xs ∧ (∀ s, s < k → IntsOff wr Z.heap.size (some Z.heap.size) (xs.getD (l.getD s 0).toNat .nilIface) (renRow m l s)) ∧ (∀ i, i < m.length → (∀ s, s < k → l.getD s 0 ≠ (i : Int)) → xs.getD i .nilIface = .slice none 0 0) ∧ Below Z.heap.size Z wr) (fun i _ => m.length - (intOf i).toNat)
  case atStart => exact ⟨0, _, Nat.zero_le _, rfl, hown, fun s hs => by omega, fun i hi _ => by simp [List.getD_eq_getElem?_getD, List.getElem?_replicate, hi], hB3⟩
  case round =>
    obtain ⟨k, xs, hk, rfl, hO, hdone, hnil, hBZ⟩ := hrel
    have hsz := owns_lt hO
    by_cases hlt : k < m.length
    · have hle := Hlen.out
      have hkm : (k : Int) < m.length := by omega
      obtain ⟨wo, rfl⟩ : ∃ wo : World, wo = wr := ⟨_, rfl⟩
      have hxl : xs.length = m.length := by have := hO.1; omega
      have hBwo := btr hZ hBZ
      obtain ⟨b, off, r, hA, hcell, hrow⟩ := Hcm.out k hlt
      subst hA
      have hcr := (hBwo.cell (p := ⟨b, off + k, none⟩) (World.block_lt_of_cell? _ _ hcell)).trans hcell
      have hrl := ((valid_parts hv).2.2.2.2 k hlt).1
      have hrb := ((valid_parts hv).2.2.2.2 k hlt).2
      have Hrs := hid (renRow_succ hv l k)
      have Hrl := hid (renRow_length hv l k hlt)
      obtain ⟨bn, on, hAn, hcn⟩ := Hcu.out k (by omega)
      subst hAn
      have hqb := Hbd.out (l.getD k 0) (by rw [getD_elem l k (by omega)]; exact List.getElem_mem _)
      have Hinj := hid (fun s (hs : s < k) (e : l.getD s 0 = l.getD k 0) => by have := names_inj Hnm.out (show s < l.length by omega) (show k < l.length by omega) e; omega)
      obtain ⟨q, hq⟩ : ∃ q : Nat, l.getD k 0 = q := ⟨(l.getD k 0).toNat, by omega⟩
      have hqn : q < m.length := by omega
      have hnilq : xs.getD q .nilIface = .slice none 0 0 := hnil q hqn (fun s hs e => by have := Hinj.out s hs (by rw [hq]; exact e); omega)
      have Hq := hid hq
      rw [hq] at hcn
      have hset0 : xs.set q (.slice none 0 0) = xs := by
        apply List.ext_getElem
        · simp
        · intro i h1 h2
          rw [List.getElem_set]
          by_cases e : q = i
          · subst e
            simp only [List.getD_eq_getElem?_getD, List.getElem?_eq_getElem h2, Option.getD_some] at hnilq
            rw [if_pos rfl, hnilq]
          · rw [if_neg e]
      obtain ⟨Ar, capr, rfl, _, hcr2⟩ := id hrow
      have Hcr2 := hid hcr2
      have Hrb := hid hrb
      rw [hrl] at hcr
      clear hcell hrow hcr2 hrb hqb hq
      go_wp2
      go_loopw [49] (fun i wi => ∃ (j : Nat) (u : Value), j ≤ letters m ∧ i = .int .i64 j ∧ wi.ownsRow Z.heap.size 25 1 (.slice (some ⟨Z.heap.size, 0, none⟩) m.length m.length) m.length (xs.set q u) ∧ wi.ownsRow wo.heap.size 3 1 u j (((renRow m l k).take j).map fun x => .int .i64 x) ∧ (∀ b, b < wo.heap.size → b ≠ Z.heap.size → wi.heap[b]? = wo.heap[b]?) ∧ wo.heap.size ≤ wi.heap.size ∧ Below Z.heap.size Z wi) (fun i _ => letters m - (intOf i).toNat)
      case atStart => exact ⟨0, .slice none 0 0, Nat.zero_le _, rfl, by rw [hset0]; exact hO, ⟨rfl, .inl ⟨rfl, rfl⟩⟩, fun _ _ _ => rfl, Nat.le_refl _, hBZ⟩
      case round =>
        obtain ⟨j, uu, hjl, rfl, hOi, huu, hkeep, hszi, hBi⟩ := hrel
        by_cases hjlt : j < letters m
        · obtain ⟨br, offr, hAr, hct⟩ := Hcr2.out j (by rw [hrl]; exact hjlt)
          subst hAr
          have hBw := btr hZ hBi
          have hct2 := (hBw.cell (p := ⟨br, offr + j, none⟩) (World.block_lt_of_cell? _ _ hct)).trans hct
          have htb := Hrb.out j hjlt
          have Hs := hid (Hrs.out j hlt hjlt)
          generalize (m.getD k []).getD j 0 = tv at *
          obtain ⟨tn, rfl⟩ := Int.eq_ofNat_of_zero_le htb.1
          rw [Int.toNat_natCast] at Hs
          obtain ⟨bn', on', hAn', hct3⟩ := Hcu.out tn (by omega)
          cases hAn'
          have hblk : bn < w.heap.size := World.block_lt_of_cell? _ _ hct3
          have hct4 := (hBw.cell (p := ⟨bn, on + tn, none⟩) hblk).trans hct3
          have hcn4 := (hBw.cell (p := ⟨bn, on + k, none⟩) hblk).trans hcn
          have htn : (tn : Int) < l.length := by omega
          have hkl : (k : Int) < l.length := by omega
          have hqi : (q : Int) < m.length := by omega
          have hjs : (j : Int) < letters m := by omega
          generalize l.getD tn 0 = y at *
          obtain ⟨A1, c1, rfl, hA1⟩ : ∃ A c, uu = .slice A j c ∧ ∀ g', (Value.slice A j c).ownBlock = some g' → wo.heap.size ≤ g' := by
            rcases huu.2 with ⟨he, h0⟩ | ⟨g, cap, cur, he, hg, _⟩
            · exact ⟨none, 0, by rw [he, h0], fun g' h => by cases h⟩
            · exact ⟨_, cap, he, fun g' h => by cases h; exact hg⟩
          have hcx : wr.cell? ⟨Z.heap.size, q, none⟩ = some (.slice A1 j c1) := by rw [hOi.cellAt q (by omega)]; simp [List.getElem?_set, hxl, hqn]
          have hfn := hOi.frozenAt q
          have hGi : Z.heap.size < wr.heap.size := by omega
          have hbw1 : bn < wr.heap.size := by omega
          have hbw0 : br < w.heap.size := World.block_lt_of_cell? _ _ hct
          have hbw2 : br < wr.heap.size := by omega
          have HO := hid hOi
          have HU := hid huu
          have HK := hid hkeep
          clear hkeep hOi huu hdone hnil hO hset0 hBZ hct hct3 hcn hnilq hle
          go_wp2_with fail
          go_region_law (refine step_append_lies _ rfl _ _ 25 rfl wo.heap.size 3 j0 (.int .i64 0) 1 8 Tryd.underlying25 hj hy0 hy1 hy2 rfl (by decide) (.slice A1 j c1) j (((renRow m l k).take j).map fun x => .int .i64 x) rfl (by first | exact HU.out.alloc _ | exact (HU.out.alloc _).drew) ⟨wr.heap.size, 0, none⟩ 1 1 [.int .i64 y] rfl rfl (by first | exact cell_one_new _ _ _ | (intro j u hu; exact cell_one_new _ _ _ j u hu)) (by simp [Value.oneCell']) (by decide) (by unfold maxLen; omega) (by omega) (by simp; omega) _ rfl ?_; intro g1 cap1 w5 hown' hgrow' hat hlt1; have hgr : (wr.drew.alloc (.cells #[.int .i64 y] 3)).grownBy w5 (Value.slice A1 j c1).ownBlock := hgrow'; have hG5 : w5.heap[Z.heap.size]? = wr.heap[Z.heap.size]? := (hgr.block _ (by simp; omega) (fun e => by have := hA1 _ e.symm; omega)).trans (Below.heap_alloc wr.drew _ _ hGi); have hgb : w5.heap[bn]? = wr.heap[bn]? := (hgr.block bn (by simp; omega) (fun e => by have := hA1 _ e.symm; omega)).trans (Below.heap_alloc wr.drew _ _ hbw1); have hcn6 : w5.cell? ⟨bn, on + k, none⟩ = some (.int .i64 q) := (World.cell?_of_block (w := wr) hgb).trans hcn4; have O5 := owns_block HO.out hG5; have hcn5 : w5.cell? ⟨Z.heap.size, q, none⟩ = some (.slice A1 j c1) := (by rw [O5.cellAt q (by omega)]; simp [List.getElem?_set, hxl, hqn]); have hfn5 := O5.frozenAt q; have K := power_round (Z := Z) (wo := wo) (wr := wr) (w2 := wr.drew) hgr (fun q hq => ⟨hA1 q hq, by have := hA1 q hq; omega⟩) hown' O5 (Below.refl _ _).drew HK.out hBi hsz hszi hGi)
          all_goals go_wp2
          all_goals go_roundw
          all_goals first
            | exact ⟨j + 1, _, by omega, by go_num, K.1, by rw [Hs.out]; exact K.2.1, K.2.2.1, K.2.2.2.1, K.2.2.2.2⟩
            | (simp [intOf]; omega)
        · obtain rfl : j = letters m := by omega
          obtain ⟨g, cg, rfl, hgb⟩ : ∃ g c, uu = .slice (some ⟨g, 0, none⟩) (letters m) c ∧ wo.heap.size ≤ g := by
            rcases huu.2 with ⟨_, h0⟩ | ⟨g, cap, cur, he, hg, _⟩
            · omega
            · exact ⟨g, cap, he, hg⟩
          rw [List.take_of_length_le (by rw [Hrl.out]; omega)] at huu
          have hnew : IntsOff wr Z.heap.size (some Z.heap.size) (.slice (some ⟨g, 0, none⟩) (letters m) cg) (renRow m l k) := off_of_own huu Hrl.out (by omega) (fun e => by simp only [Option.some.injEq] at e; omega) (by unfold big; omega)
          have Hd : Hid (∀ s, s < k + 1 → IntsOff wr Z.heap.size (some Z.heap.size) ((xs.set q (.slice (some ⟨g, 0, none⟩) (letters m) cg)).getD (l.getD s 0).toNat .nilIface) (renRow m l s)) := hid (by
            intro s hs'
            by_cases e : s = k
            · subst e
              have hi' : (l.getD s 0).toNat = q := by rw [Hq.out]; exact Int.toNat_natCast q
              have : (xs.set q (.slice (some ⟨g, 0, none⟩) (letters m) cg)).getD q .nilIface = .slice (some ⟨g, 0, none⟩) (letters m) cg := by simp [List.getD_eq_getElem?_getD, List.getElem?_set, hxl, hqn]
              rw [hi', this]
              exact hnew
            · have hp := Hbd.out (l.getD s 0) (by rw [getD_elem l s (by omega)]; exact List.getElem_mem _)
              have hne : (l.getD s 0).toNat ≠ q := fun h => by
                have h1 : l.getD s 0 = l.getD k 0 := by rw [Hq.out]; omega
                have := Hinj.out s (by omega) h1
                omega
              have : (xs.set q (.slice (some ⟨g, 0, none⟩) (letters m) cg)).getD (l.getD s 0).toNat .nilIface = xs.getD (l.getD s 0).toNat .nilIface := by
                simp only [List.getD_eq_getElem?_getD]
                rw [List.getElem?_set_ne (fun h => hne (by simpa [List.getD_eq_getElem?_getD] using h.symm))]
              rw [this]
              exact (hdone s (by omega)).kept (fun b _ hs hne => hkeep b hs (fun h => hne (by rw [h]))) (fun _ _ h => h))
          have Hn : Hid (∀ i, i < m.length → (∀ s, s < k + 1 → l.getD s 0 ≠ (i : Int)) → (xs.set q (.slice (some ⟨g, 0, none⟩) (letters m) cg)).getD i .nilIface = .slice none 0 0) := hid (by
            intro i h1 h2
            have hqi : q ≠ i := fun h => h2 k (by omega) (by rw [Hq.out, h])
            have : (xs.set q (.slice (some ⟨g, 0, none⟩) (letters m) cg)).getD i .nilIface = xs.getD i .nilIface := by
              simp only [List.getD_eq_getElem?_getD]
              rw [List.getElem?_set_ne hqi]
            rw [this]
            exact hnil i h1 (fun s hs => h2 s (by omega)))
          have HO := hid hOi
          clear hnew hkeep hdone hnil hO hset0 huu hOi hnilq
          go_wp2
          go_roundw
          case rel => exact ⟨k + 1, _, by omega, by go_num, HO.out, Hd.out, Hn.out, hBi⟩
          case measure => simp [intOf]; omega
    · obtain rfl : k = m.length := by omega
      have hM : MRows wr Z.heap.size (.slice (some ⟨Z.heap.size, 0, none⟩) m.length m.length) (renM m l) := ⟨xs, by rw [renM_length]; exact hO, fun i hi => by
        rw [renM_length] at hi
        rw [renM_get m l i hi]
        obtain ⟨h1, h2⟩ := names_at Hnm.out i hi
        have h3 := hdone _ h1
        rw [h2, Int.toNat_natCast] at h3
        exact h3⟩
      have g5 := (hBZ.block _ hlZ).trans gZ
      have d1 := cell_of_one g5
      have d2 := free_of_one g5
      have d3 := store_res g5 (.slice (some ⟨Z.heap.size, 0, none⟩) m.length m.length)
      have HB := hid (Below.setCell (btr hZ hBZ) (p := ⟨w.heap.size + 1, 0, none⟩) (Nat.le_succ _) (.slice (some ⟨Z.heap.size, 0, none⟩) m.length m.length))
      have HR := hid ((hM.kept (W' := wr.setCell ⟨w.heap.size + 1, 0, none⟩ (.slice (some ⟨Z.heap.size, 0, none⟩) m.length m.length)) (fun q hq hs => Below.heap_setCell _ _ _ _ (by simp; omega))).rows (by rw [renM_length]; unfold big; omega))
      clear g5 gZ hM hdone hnil hO
      go_wp2
      (try simp only [Exit.inBlock, Exit.then])
      refine bodyPost_ret (v := .tuple #[.agg #[.slice (some ⟨Z.heap.size, 0, none⟩) m.length m.length], .int .i64 0]) ?_ rfl ⟨_, rfl, HR.out, HB.out⟩
      rw [results_cell_tmp rfl]
      go_simp
end Go.Proofs.YtibaihchnbbokaaDoor
