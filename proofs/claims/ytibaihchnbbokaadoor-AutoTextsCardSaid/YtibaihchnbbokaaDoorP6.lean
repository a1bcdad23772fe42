/-
  Power, where all arguments are in order.
-/
import Derived.Test.YtibaihchnbbokaaDoorP5
import Derived.Deep.AppendLies
import Derived.Deep.RegionLaw
namespace Go.Proofs.YtibaihchnbbokaaDoor
open Go.RowKit Go.Shelf

theorem owns_block {B g n c k : Nat} {e : TypeId} {s : Nat} {xs : List Value} {w w' : World} (h : w.ownsRow B e s (.slice (some ⟨g, 0, none⟩) n c) k xs) (hg : w'.heap[g]? = w.heap[g]?) : w'.ownsRow B e s (.slice (some ⟨g, 0, none⟩) n c) k xs := by
  obtain ⟨h1, h2⟩ := h
  refine ⟨h1, ?_⟩
  rcases h2 with ⟨h', _⟩ | ⟨g', cap', cur, h', hB, hh, r⟩
  · simp at h'
  · simp only [Value.slice.injEq, Option.some.injEq, Addr.mk.injEq, and_true, true_and] at h'
    obtain ⟨rfl, rfl, rfl⟩ := h'
    exact .inr ⟨g, c, cur, rfl, hB, by rw [hg]; exact hh, r⟩

/-- Where the words lead from a state. -/
def powRow (m ws : List (List Int)) (s : Nat) : List Int := ws.map fun q => ((runM m s q : Nat) : Int)
def powerM (m ws : List (List Int)) : List (List Int) := (List.range m.length).map (powRow m ws)
theorem powerM_length (m ws : List (List Int)) : (powerM m ws).length = m.length := by simp [powerM]
theorem powerM_get (m ws : List (List Int)) (i : Nat) (h : i < m.length) : (powerM m ws).getD i [] = powRow m ws i := by simp [powerM, List.getD_eq_getElem?_getD, h]
theorem powRow_length (m ws : List (List Int)) (s : Nat) : (powRow m ws s).length = ws.length := by simp [powRow]
theorem powRow_succ (m ws : List (List Int)) (s k : Nat) (hk : k < ws.length) : ((powRow m ws s).take (k + 1)).map (fun x => Value.int .i64 x) = ((powRow m ws s).take k).map (fun x => Value.int .i64 x) ++ [.int .i64 (runM m s (ws.getD k []) : Nat)] := by
  have hk' : k < (powRow m ws s).length := by rw [powRow_length]; exact hk
  rw [List.take_succ_eq_append_getElem hk', List.map_append]
  simp [powRow, List.getD_eq_getElem?_getD, List.getElem?_eq_getElem hk]

set_option maxRecDepth 100000 in
set_option maxHeartbeats 2000000 in
theorem Power_word (v u : Value) (m ws : List (List Int)) (w : World) (h : Rows w v m) (hu : Rows w u ws) (hv : validM m = true) (hc : inB 1 6 ws.length = true) (hw : ws.all (isWordM m) = false) :
    Calls Tryd.prog 29 #[.agg #[v], u] w (AutoErr w 2) := by
  obtain ⟨A, cap, rfl, _⟩ := id h
  obtain ⟨Au, capu, rfl, hlu, hcu⟩ := id hu
  unfold big at hlu
  have Hcu := hid hcu
  clear hcu
  obtain ⟨f0, f1⟩ := two_alloc w (.cells #[.slice A m.length cap] 24) (.cells #[.slice none 0 0] 24)
  have hX := bal (bal (Below.refl _ w) (.cells #[.slice A m.length cap] 24)) (.cells #[.slice none 0 0] 24)
  have Hx := hid hX
  go_enter Tryd.func29, Tryd.ntmps29
  go_wp2_with fail
  generalize hWX : (w.alloc (.cells #[.slice A m.length cap] 24)).alloc (.cells #[.slice none 0 0] 24) = X at *
  clear hX hWX
  have hX := Hx.out
  have hl1 : w.heap.size + 1 < X.heap.size := lt_of_block f1
  have hl0 : w.heap.size < X.heap.size := lt_of_block f0
  have c0 := cell_of_one f0
  have hr := h.below hX
  clear f0
  refine (Valid_bool _ m true _ hr hv).mono ?_
  rintro e w1 ⟨rfl, h1⟩
  have c1 := (h1.cell (p := ⟨w.heap.size, 0, none⟩) hl0).trans c0
  go_wp2_with fail
  refine (between_one 1 6 ws.length true _ _ (Ints.one' _ _ _ _ (by simp)) hc).mono ?_
  rintro e w2 ⟨rfl, rfl⟩
  have B1 := bal h1 (.cells #[.int .i64 ws.length] 3)
  have cY := (B1.cell (p := ⟨w.heap.size, 0, none⟩) hl0).trans c0
  have gY := (B1.block _ hl1).trans f1
  generalize w1.alloc (.cells #[.int .i64 ws.length] 3) = Y at *
  have hlY : w.heap.size + 1 < Y.heap.size := lt_of_block gY
  have hrY := hr.below B1
  have hY := btr hX B1
  clear c1 h1 c0 f1 hr
  go_wp2_with fail
  go_loopw [24] (fun i wr => ∃ k : Nat, k ≤ ws.length ∧ i = .int .i64 k ∧ (ws.take k).all (isWordM m) = true ∧ Below Y.heap.size Y wr) (fun i _ => ws.length - (intOf i).toNat)
  case atStart => exact ⟨0, Nat.zero_le _, rfl, rfl, Below.refl _ _⟩
  case round =>
    obtain ⟨k, hk, rfl, hall, hB⟩ := hrel
    have hcr := (hB.cell (p := ⟨w.heap.size, 0, none⟩) (by show w.heap.size < _; omega)).trans cY
    by_cases hlt : k < ws.length
    · obtain ⟨b, off, r, hA, hcell, hrow⟩ := Hcu.out k hlt
      subst hA
      have hBw := btr hY hB
      have hcr2 := (hBw.cell (p := ⟨b, off + k, none⟩) (World.block_lt_of_cell? _ _ hcell)).trans hcell
      have hroww := hrow.below hBw
      have hks : (k : Int) < ws.length := by omega
      have Hs := hid (all_snoc_take (isWordM m) ws [] k hlt)
      have Ha := hid hall
      clear hall hcell hrow
      generalize ws.getD k [] = q at *
      obtain ⟨Aq, capq, rfl, _⟩ := id hroww
      cases hq : isWordM m q with
      | true =>
        go_wp2_with fail
        refine (isWord_bool _ _ m q true _ (hrY.below hB) hv hroww hq).mono ?_
        rintro e wA ⟨rfl, hA⟩
        go_wp2
        go_roundw
        case rel => exact ⟨k + 1, by omega, by go_num, by rw [Hs.out, Ha.out, hq]; rfl, btr hB hA⟩
        case measure => simp [intOf]; omega
      | false =>
        go_wp2_with fail
        refine (isWord_bool _ _ m q false _ (hrY.below hB) hv hroww hq).mono ?_
        rintro e wA ⟨rfl, hA⟩
        have hBA := btr hB hA
        have g5 := (hBA.block _ hlY).trans gY
        have d1 := cell_of_one g5
        have d2 := free_of_one g5
        have d3 := store_res g5 (.slice none 0 0)
        have HB := hid (Below.setCell (btr hY hBA) (p := ⟨w.heap.size + 1, 0, none⟩) (Nat.le_succ _) (.slice none 0 0))
        clear g5 gY
        go_wp2
        (try simp only [Exit.inBlock, Exit.then])
        refine bodyPost_ret (v := .tuple #[.agg #[.slice none 0 0], .int .i64 2]) ?_ rfl ⟨rfl, HB.out⟩
        rw [results_cell_tmp rfl]
        go_simp
    · exfalso
      rw [List.take_of_length_le (by omega)] at hall
      rw [hall] at hw
      cases hw

/-- A round in which a number is appended to a row of a row of rows. -/
theorem power_round {Z wo wr w2 w5 : World} {k n j g1 cap1 : Nat} {xs : List Value} {x : Value} {e : TypeId} {ys : List Value} {o : Obj} {old : Option Nat}
    (hg : (w2.alloc o).grownBy w5 old) (ho : ∀ q, old = some q → wo.heap.size ≤ q ∧ q ≠ Z.heap.size) (hown : w5.ownsRow wo.heap.size e 1 (.slice (some ⟨g1, 0, none⟩) (j + 1) cap1) (j + 1) ys)
    (hO : w5.ownsRow Z.heap.size 25 1 (.slice (some ⟨Z.heap.size, 0, none⟩) n n) n (xs.set k x)) (hb2 : Below wr.heap.size wr w2) (hK : ∀ b, b < wo.heap.size → b ≠ Z.heap.size → wr.heap[b]? = wo.heap[b]?)
    (hB : Below Z.heap.size Z wr) (hsz : Z.heap.size < wo.heap.size) (hszi : wo.heap.size ≤ wr.heap.size) (hG : Z.heap.size < w2.heap.size) :
    (w5.setCell ⟨Z.heap.size, k, none⟩ (.slice (some ⟨g1, 0, none⟩) (j + 1) cap1)).ownsRow Z.heap.size 25 1 (.slice (some ⟨Z.heap.size, 0, none⟩) n n) n (xs.set k (.slice (some ⟨g1, 0, none⟩) (j + 1) cap1)) ∧
    (w5.setCell ⟨Z.heap.size, k, none⟩ (.slice (some ⟨g1, 0, none⟩) (j + 1) cap1)).ownsRow wo.heap.size e 1 (.slice (some ⟨g1, 0, none⟩) (j + 1) cap1) (j + 1) ys ∧
    (∀ b, b < wo.heap.size → b ≠ Z.heap.size → (w5.setCell ⟨Z.heap.size, k, none⟩ (.slice (some ⟨g1, 0, none⟩) (j + 1) cap1)).heap[b]? = wo.heap[b]?) ∧
    wo.heap.size ≤ (w5.setCell ⟨Z.heap.size, k, none⟩ (.slice (some ⟨g1, 0, none⟩) (j + 1) cap1)).heap.size ∧
    Below Z.heap.size Z (w5.setCell ⟨Z.heap.size, k, none⟩ (.slice (some ⟨g1, 0, none⟩) (j + 1) cap1)) := by
  have hs2 := hb2.size
  have hs5 : w2.heap.size + 1 ≤ w5.heap.size := by have := hg.size; simpa using this
  have hg1 : wo.heap.size ≤ g1 := by
    rcases hown.2 with ⟨h', _⟩ | ⟨g', cap', cur, h', hB', _⟩
    · simp at h'
    · simp only [Value.slice.injEq, Option.some.injEq, Addr.mk.injEq, and_true, true_and] at h'
      omega
  refine ⟨?_, ?_, ?_, ?_, ?_⟩
  · have h1 := (hO.stored k (.slice (some ⟨g1, 0, none⟩) (j + 1) cap1)).1
    rw [List.set_set] at h1
    exact h1
  · exact owns_block hown (Below.heap_setCell _ _ _ _ (by simp; omega))
  · intro b hb hbz
    rw [Below.heap_setCell _ _ _ _ (by simpa using hbz), hg.block b (by simp; omega) (fun e => by have := (ho b e.symm).1; omega), Below.heap_alloc _ _ _ (by omega), hb2.block b (by omega)]
    exact hK b hb hbz
  · simp [World.setCell]; omega
  · refine Below.setCell (((hB.trans (hb2.mono (by omega))).alloc (by omega) o).grown hg (by simp; omega) (fun q hq => by have := (ho q hq).1; omega)) (Nat.le_refl _) _

set_option maxRecDepth 100000 in
set_option maxHeartbeats 2000000 in
theorem Power_ok (v u : Value) (m ws : List (List Int)) (w : World) (h : Rows w v m) (hu : Rows w u ws) (hv : validM m = true) (hc : inB 1 6 ws.length = true) (hw : ws.all (isWordM m) = true) :
    Calls Tryd.prog 29 #[.agg #[v], u] w (AutoOk w (powerM m ws)) := by
  obtain ⟨A, cap, rfl, _⟩ := id h
  obtain ⟨Au, capu, rfl, hlu, hcu⟩ := id hu
  unfold big at hlu
  have hn1 := (valid_parts hv).1
  have hn := (valid_parts hv).2.1
  have hws := inB_iff.1 hc
  obtain ⟨i0, hi, hz0, hz1, hz2⟩ := info_parts infoRow
  obtain ⟨j0, hj, hy0, hy1, hy2⟩ := info_parts infoInt
  have Hcu := hid hcu
  clear hcu
  obtain ⟨f0, f1⟩ := two_alloc w (.cells #[.slice A m.length cap] 24) (.cells #[.slice none 0 0] 24)
  have hX := bal (bal (Below.refl _ w) (.cells #[.slice A m.length cap] 24)) (.cells #[.slice none 0 0] 24)
  have Hx := hid hX
  go_enter Tryd.func29, Tryd.ntmps29
  go_wp2_with fail
  generalize hWX : (w.alloc (.cells #[.slice A m.length cap] 24)).alloc (.cells #[.slice none 0 0] 24) = X at *
  clear hX hWX
  have hX := Hx.out
  have hl1 : w.heap.size + 1 < X.heap.size := lt_of_block f1
  have hl0 : w.heap.size < X.heap.size := lt_of_block f0
  have c0 := cell_of_one f0
  have hr := h.below hX
  clear f0
  refine (Valid_bool _ m true _ hr hv).mono ?_
  rintro e w1 ⟨rfl, h1⟩
  have c1 := (h1.cell (p := ⟨w.heap.size, 0, none⟩) hl0).trans c0
  go_wp2_with fail
  refine (between_one 1 6 ws.length true _ _ (Ints.one' _ _ _ _ (by simp)) hc).mono ?_
  rintro e w2 ⟨rfl, rfl⟩
  have B1 := bal h1 (.cells #[.int .i64 ws.length] 3)
  have cY := (B1.cell (p := ⟨w.heap.size, 0, none⟩) hl0).trans c0
  have gY := (B1.block _ hl1).trans f1
  generalize w1.alloc (.cells #[.int .i64 ws.length] 3) = Y at *
  have hlY : w.heap.size + 1 < Y.heap.size := lt_of_block gY
  have hrY := hr.below B1
  have hY := btr hX B1
  clear c1 h1 c0 f1 hr
  go_wp2_with fail
  go_loopw [24] (fun i wr => ∃ k : Nat, k ≤ ws.length ∧ i = .int .i64 k ∧ (ws.take k).all (isWordM m) = true ∧ Below Y.heap.size Y wr) (fun i _ => ws.length - (intOf i).toNat)
  case atStart => exact ⟨0, Nat.zero_le _, rfl, rfl, Below.refl _ _⟩
  case round =>
    obtain ⟨k, hk, rfl, hall, hB⟩ := hrel
    have hcr := (hB.cell (p := ⟨w.heap.size, 0, none⟩) (by show w.heap.size < _; omega)).trans cY
    by_cases hlt : k < ws.length
    · obtain ⟨b, off, r, hA, hcell, hrow⟩ := Hcu.out k hlt
      subst hA
      have hBw := btr hY hB
      have hcr2 := (hBw.cell (p := ⟨b, off + k, none⟩) (World.block_lt_of_cell? _ _ hcell)).trans hcell
      have hroww := hrow.below hBw
      have hks : (k : Int) < ws.length := by omega
      have Hs := hid (all_snoc_take (isWordM m) ws [] k hlt)
      have Ha := hid hall
      have hq : isWordM m (ws.getD k []) = true := all_getD _ ws [] hw k hlt
      clear hall hcell hrow
      generalize ws.getD k [] = q at *
      obtain ⟨Aq, capq, rfl, _⟩ := id hroww
      go_wp2_with fail
      refine (isWord_bool _ _ m q true _ (hrY.below hB) hv hroww hq).mono ?_
      rintro e wA ⟨rfl, hA⟩
      go_wp2
      go_roundw
      case rel => exact ⟨k + 1, by omega, by go_num, by rw [Hs.out, Ha.out, hq]; rfl, btr hB hA⟩
      case measure => simp [intOf]; omega
    · clear hall
      obtain ⟨Z, rfl⟩ : ∃ Z : World, Z = wr := ⟨_, rfl⟩
      have hlZ : w.heap.size + 1 < Z.heap.size := Nat.lt_of_lt_of_le hlY hB.size
      have hrZ := hrY.below hB
      have hZ := btr hY hB
      have gZ := (hB.block _ hlY).trans gY
      go_wp2_with (at_make; refine wpList_make_full _ rfl _ _ 22 rfl Z.heap.size 25 i0 (.slice none 0 0) 1 Tryd.underlying22 hi hz0 hz1 .i64 .i64 _ _ m.length rfl rfl rfl rfl (by rw [hz2]; omega) (by unfold maxLen; omega) (Nat.le_refl _) ?_; intro w3 hown hgrow)
      have hB3 : Below Z.heap.size Z w3 := (Below.refl _ _).grown hgrow (Nat.le_refl _) (fun q hq => by cases hq)
      have hs3 := owns_lt hown
      rw [show Value.cells (.slice none 0 0) = #[.slice none 0 0] from rfl, toList_madeCells_one, Nat.mul_one] at hown
      go_loopw [40] (fun i wr => ∃ (k : Nat) (xs : List Value), k ≤ m.length ∧ i = .int .i64 k ∧ wr.ownsRow Z.heap.size 25 1 (.slice (some ⟨Z.heap.size, 0, none⟩) m.length m.length) m.length xs ∧ (∀ i, i < k → IntsOff wr Z.heap.size (some Z.heap.size) (xs.getD i .nilIface) (powRow m ws i)) ∧ (∀ i, k ≤ i → i < m.length → xs.getD i .nilIface = .slice none 0 0) ∧ Below Z.heap.size Z wr) (fun i _ => m.length - (intOf i).toNat)
      case atStart => exact ⟨0, _, Nat.zero_le _, rfl, hown, fun i hi => by omega, fun i _ hi => by simp [List.getD_eq_getElem?_getD, List.getElem?_replicate, hi], hB3⟩
      case round =>
        obtain ⟨k, xs, hk, rfl, hO, hdone, hnil, hBZ⟩ := hrel
        have hsz := owns_lt hO
        by_cases hlt : k < m.length
        · have hkm : (k : Int) < m.length := by omega
          obtain ⟨wo, rfl⟩ : ∃ wo : World, wo = wr := ⟨_, rfl⟩
          have hxl : xs.length = m.length := by have := hO.1; omega
          have hset0 : xs.set k (.slice none 0 0) = xs := by
            apply List.ext_getElem
            · simp
            · intro i h1 h2
              rw [List.getElem_set]
              by_cases e : k = i
              · subst e
                have := hnil k (Nat.le_refl _) hlt
                simp only [List.getD_eq_getElem?_getD, List.getElem?_eq_getElem h2, Option.getD_some] at this
                rw [if_pos rfl, this]
              · rw [if_neg e]
          go_wp2
          go_loopw [45] (fun i wi => ∃ (j : Nat) (u : Value), j ≤ ws.length ∧ i = .int .i64 j ∧ wi.ownsRow Z.heap.size 25 1 (.slice (some ⟨Z.heap.size, 0, none⟩) m.length m.length) m.length (xs.set k u) ∧ wi.ownsRow wo.heap.size 3 1 u j (((powRow m ws k).take j).map fun x => .int .i64 x) ∧ (∀ b, b < wo.heap.size → b ≠ Z.heap.size → wi.heap[b]? = wo.heap[b]?) ∧ wo.heap.size ≤ wi.heap.size ∧ Below Z.heap.size Z wi) (fun i _ => ws.length - (intOf i).toNat)
          case atStart => exact ⟨0, .slice none 0 0, Nat.zero_le _, rfl, by rw [hset0]; exact hO, ⟨rfl, .inl ⟨rfl, rfl⟩⟩, fun _ _ _ => rfl, Nat.le_refl _, hBZ⟩
          case round =>
            obtain ⟨j, uu, hjl, rfl, hOi, huu, hkeep, hszi, hBi⟩ := hrel
            by_cases hjlt : j < ws.length
            · obtain ⟨b, off, r, hA, hcell, hrow⟩ := Hcu.out j hjlt
              subst hA
              have hBw := btr hZ hBi
              have hcr3 := (hBw.cell (p := ⟨b, off + j, none⟩) (World.block_lt_of_cell? _ _ hcell)).trans hcell
              have hroww := hrow.below hBw
              have hrri := hrZ.below hBi
              have hcbx := (hBi.cell (p := ⟨w.heap.size, 0, none⟩) (by show w.heap.size < _; omega)).trans hcr
              have hjs : (j : Int) < ws.length := by omega
              have Hs := hid (powRow_succ m ws k j hjlt)
              have hq : isWordM m (ws.getD j []) = true := all_getD _ ws [] hw j hjlt
              simp only [isWordM, Bool.and_eq_true] at hq
              clear hcell hrow
              generalize ws.getD j [] = q at *
              obtain ⟨Aq, capq, rfl, _⟩ := id hroww
              obtain ⟨A1, c1, rfl, hA1⟩ : ∃ A c, uu = .slice A j c ∧ ∀ g', (Value.slice A j c).ownBlock = some g' → wo.heap.size ≤ g' := by
                rcases huu.2 with ⟨he, h0⟩ | ⟨g, cap, cur, he, hg, _⟩
                · exact ⟨none, 0, by rw [he, h0], fun g' h => by cases h⟩
                · exact ⟨_, cap, he, fun g' h => by cases h; exact hg⟩
              have hcn : wr.cell? ⟨Z.heap.size, k, none⟩ = some (.slice A1 j c1) := by rw [hOi.cellAt k (by omega)]; simp [List.getElem?_set, hxl, hlt]
              have hfn := hOi.frozenAt k
              have hGi : Z.heap.size < wr.heap.size := by omega
              have HO := hid hOi
              have HU := hid huu
              have HK := hid hkeep
              clear hkeep hOi huu hdone hnil hO hset0 hBZ
              generalize hyy : runM m k q = y at *
              go_wp2_with fail
              go_region_law (first
                | (refine step_append_lies _ rfl _ _ 25 rfl wo.heap.size 3 j0 (.int .i64 0) 1 8 Tryd.underlying25 hj hy0 hy1 hy2 rfl (by decide) (.slice A1 j c1) j (((powRow m ws k).take j).map fun x => .int .i64 x) rfl (by first | exact hu2.alloc _ | exact (hu2.alloc _).drew) ⟨w2.heap.size, 0, none⟩ 1 1 [.int .i64 (y : Int)] rfl rfl (by first | exact cell_one_new _ _ _ | (intro j u hu; exact cell_one_new _ _ _ j u hu)) (by simp [Value.oneCell']) (by decide) (by unfold maxLen; omega) (by omega) (by simp; omega) _ rfl ?_; intro g1 cap1 w5 hown' hgrow' hat hlt1; have hG5 : w5.heap[Z.heap.size]? = wr.heap[Z.heap.size]? := (hgrow'.block _ (by simp; omega) (fun e => by have := hA1 _ e.symm; omega)).trans ((Below.heap_alloc _ _ _ (by omega)).trans (hb2.block _ hGi)); have O5 := owns_block HO.out hG5; have hcn5 : w5.cell? ⟨Z.heap.size, k, none⟩ = some (.slice A1 j c1) := (by rw [O5.cellAt k (by omega)]; simp [List.getElem?_set, hxl, hlt]); have hfn5 := O5.frozenAt k; have K := power_round (Z := Z) (wo := wo) (wr := wr) (w2 := w2) hgrow' (fun q hq => ⟨hA1 q hq, by have := hA1 q hq; omega⟩) hown' O5 hb2 HK.out hBi hsz hszi hG2)
                | (go_simp; go_at_call 58; refine (run_any _ _ m k q _ (hrri.below (by first | exact Below.refl _ _ | exact Below.drew (Below.refl _ _))) hv hlt (hroww.below (by first | exact Below.refl _ _ | exact Below.drew (Below.refl _ _))) hq.2).mono ?_; rintro e w2 ⟨rfl, hb2'⟩; have hb2 : Below wr.heap.size wr w2 := btr (by first | exact Below.refl _ _ | exact Below.drew (Below.refl _ _)) hb2'; have hcn2 := (hb2.cell (p := ⟨Z.heap.size, k, none⟩) hGi).trans hcn; have hfn2 := (hb2.frozen (p := ⟨Z.heap.size, k, none⟩) hGi).trans hfn; have hu2 := owns_kept HU.out (fun b _ hb => hb2.block b hb); have hs2 := hb2.size; have hG2 : Z.heap.size < w2.heap.size := (by omega); rw [hyy]))
              all_goals go_wp2
              all_goals go_roundw
              all_goals first
                | exact ⟨j + 1, _, by omega, by go_num, K.1, by rw [Hs.out]; exact K.2.1, K.2.2.1, K.2.2.2.1, K.2.2.2.2⟩
                | (simp [intOf]; omega)
            · obtain rfl : j = ws.length := by omega
              obtain ⟨g, cg, rfl, hgb⟩ : ∃ g c, uu = .slice (some ⟨g, 0, none⟩) ws.length c ∧ wo.heap.size ≤ g := by
                rcases huu.2 with ⟨_, h0⟩ | ⟨g, cap, cur, he, hg, _⟩
                · omega
                · exact ⟨g, cap, he, hg⟩
              rw [List.take_of_length_le (by rw [powRow_length]; omega)] at huu
              have hnew : IntsOff wr Z.heap.size (some Z.heap.size) (.slice (some ⟨g, 0, none⟩) ws.length cg) (powRow m ws k) := off_of_own huu (powRow_length m ws k) (by omega) (fun e => by simp only [Option.some.injEq] at e; omega) (by unfold big; omega)
              have Hd : Hid (∀ i, i < k + 1 → IntsOff wr Z.heap.size (some Z.heap.size) ((xs.set k (.slice (some ⟨g, 0, none⟩) ws.length cg)).getD i .nilIface) (powRow m ws i)) := hid (by
                intro i hi'
                by_cases e : i = k
                · subst e
                  have : (xs.set i (.slice (some ⟨g, 0, none⟩) ws.length cg)).getD i .nilIface = .slice (some ⟨g, 0, none⟩) ws.length cg := by simp [List.getD_eq_getElem?_getD, List.getElem?_set, hxl, hlt]
                  rw [this]
                  exact hnew
                · have : (xs.set k (.slice (some ⟨g, 0, none⟩) ws.length cg)).getD i .nilIface = xs.getD i .nilIface := by
                    simp only [List.getD_eq_getElem?_getD]
                    rw [List.getElem?_set_ne (fun h => e h.symm)]
                  rw [this]
                  exact (hdone i (by omega)).kept (fun b _ hs hne => hkeep b hs (fun h => hne (by rw [h]))) (fun _ _ h => h))
              have Hn : Hid (∀ i, k + 1 ≤ i → i < m.length → (xs.set k (.slice (some ⟨g, 0, none⟩) ws.length cg)).getD i .nilIface = .slice none 0 0) := hid (by
                intro i h1 h2
                have : (xs.set k (.slice (some ⟨g, 0, none⟩) ws.length cg)).getD i .nilIface = xs.getD i .nilIface := by
                  simp only [List.getD_eq_getElem?_getD]
                  rw [List.getElem?_set_ne (by omega)]
                rw [this]
                exact hnil i (by omega) h2)
              have HO := hid hOi
              clear hnew hkeep hdone hnil hO hset0 huu hOi
              go_wp2
              go_roundw
              case rel => exact ⟨k + 1, _, by omega, by go_num, HO.out, Hd.out, Hn.out, hBi⟩
              case measure => simp [intOf]; omega
        · obtain rfl : k = m.length := by omega
          have hM : MRows wr Z.heap.size (.slice (some ⟨Z.heap.size, 0, none⟩) m.length m.length) (powerM m ws) := ⟨xs, by rw [powerM_length]; exact hO, fun i hi => by
            rw [powerM_length] at hi
            rw [powerM_get m ws i hi]
            exact hdone i hi⟩
          have g5 := (hBZ.block _ hlZ).trans gZ
          have d1 := cell_of_one g5
          have d2 := free_of_one g5
          have d3 := store_res g5 (.slice (some ⟨Z.heap.size, 0, none⟩) m.length m.length)
          have HB := hid (Below.setCell (btr hZ hBZ) (p := ⟨w.heap.size + 1, 0, none⟩) (Nat.le_succ _) (.slice (some ⟨Z.heap.size, 0, none⟩) m.length m.length))
          have HR := hid ((hM.kept (W' := wr.setCell ⟨w.heap.size + 1, 0, none⟩ (.slice (some ⟨Z.heap.size, 0, none⟩) m.length m.length)) (fun q hq hs => Below.heap_setCell _ _ _ _ (by simp; omega))).rows (by rw [powerM_length]; unfold big; omega))
          clear g5 gZ hM hdone hnil hO
          go_wp2
          (try simp only [Exit.inBlock, Exit.then])
          refine bodyPost_ret (v := .tuple #[.agg #[.slice (some ⟨Z.heap.size, 0, none⟩) m.length m.length], .int .i64 0]) ?_ rfl ⟨_, rfl, HR.out, HB.out⟩
          rw [results_cell_tmp rfl]
          go_simp
end Go.Proofs.YtibaihchnbbokaaDoor
