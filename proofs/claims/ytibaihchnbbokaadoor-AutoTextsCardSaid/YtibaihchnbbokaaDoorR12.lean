/-
  The reference: the automaton of a string.
-/
import Derived.Test.YtibaihchnbbokaaDoorR9
import Derived.Test.YtibaihchnbbokaaDoorM4
import Derived.Test.YtibaihchnbbokaaDoorL1
import Derived.Test.YtibaihchnbbokaaDoorP9
namespace Go.Proofs.YtibaihchnbbokaaDoor
open Go.RowKit Go.Shelf

/-- A nil row more. -/
theorem Jag.push {W W5 : World} {base Z n cap Z' cap' : Nat} {xs : List Value} {L L' : Nat → List Int} {P : Nat → Prop} {o : Obj} (h : Jag W base Z n cap xs L P) (hg : (W.alloc o).grownBy W5 (some Z))
    (ho : W5.ownsRow base 25 1 (.slice (some ⟨Z', 0, none⟩) (n + 1) cap') (n + 1) (xs ++ [.slice none 0 0])) (hat : Z' = Z ∨ Z' = W.heap.size + 1) (hL' : ∀ i, i ≤ n → L' i = if i = n then [] else L i) :
    Jag W5 base Z' (n + 1) cap' (xs ++ [.slice none 0 0]) L' P := by
  have hxl : xs.length = n := by have := h.outer.1; omega
  have hold : ∀ i, i < n → (xs ++ [Value.slice none 0 0]).getD i .nilIface = xs.getD i .nilIface := fun i hi => by simp [List.getD_eq_getElem?_getD, List.getElem?_append_left (show i < xs.length by omega)]
  have hnew : (xs ++ [Value.slice none 0 0]).getD n .nilIface = .slice none 0 0 := by rw [← hxl]; simp [List.getD_eq_getElem?_getD]
  refine ⟨ho, fun i hi => ?_, fun i hi g he => ?_, fun i j hi hj hij g he => ?_⟩
  · rw [hL' i (by omega)]
    by_cases e : i = n
    · subst e; rw [hnew, if_pos rfl]; exact ⟨rfl, .inl ⟨rfl, rfl⟩⟩
    · rw [hold i (by omega), if_neg e]
      refine ownsRow_same (h.row i (by omega)) fun g he => ?_
      have hb := ownsRow_blk (h.row i (by omega)) g he
      rw [hg.block g (by simp; omega) (fun e2 => (h.off i (by omega) g he).1 (by simpa using e2)), Below.heap_alloc _ _ _ hb.2]
  · by_cases e : i = n
    · subst e; rw [hnew] at he; cases he
    · rw [hold i (by omega)] at he
      have hb := ownsRow_blk (h.row i (by omega)) g he
      obtain ⟨h1, h2⟩ := h.off i (by omega) g he
      refine ⟨?_, h2⟩
      rcases hat with e2 | e2 <;> omega
  · by_cases e : i = n
    · subst e; rw [hnew] at he; cases he
    · rw [hold i (by omega)] at he
      by_cases e2 : j = n
      · subst e2; rw [hnew]; intro e3; cases e3
      · rw [hold j (by omega)]
        exact h.apart i j (by omega) (by omega) hij g he

/-- Where the scan of the reference stands. -/
def PRel (w X : World) (l : List UInt8) (k : Nat) (R : List (List Int)) (Z cap n many : Nat) (xs : List Value) (wr : World) : Prop :=
  k ≤ l.length + 1 ∧ n < 1000 ∧ many ≤ 3 ∧ R.length ≤ k + 1 ∧ 1 ≤ R.length ∧ (∀ i, (R.getD i []).length ≤ k + 1) ∧
  (k ≤ l.length → R = (scan (l.take k)).1 ++ [(scan (l.take k)).2.1] ∧ n = (scan (l.take k)).2.2.1 ∧ many = (scan (l.take k)).2.2.2) ∧ (k = l.length + 1 → R = scanM l) ∧
  Jag wr (w.heap.size + 1) Z R.length cap xs (fun i => R.getD i []) (fun b => b ≠ w.heap.size + 2) ∧ Z ≠ w.heap.size + 2 ∧
  wr.heap[w.heap.size + 2]? = some (.cells #[.slice (some ⟨Z, 0, none⟩) R.length cap] 24 (0, 0)) ∧ Below (w.heap.size + 1) X wr

theorem scan_next (l : List UInt8) (k : Nat) (b : UInt8) (hk : l.take (k + 1) = l.take k ++ [b]) {D : List (List Int)} {cur : List Int} {nn mm : Nat} (h1 : (scan (l.take k)).1 = D) (h2 : (scan (l.take k)).2.1 = cur) (h3 : nn = (scan (l.take k)).2.2.1) (h4 : mm = (scan (l.take k)).2.2.2) (hd : scDig mm b = false) :
    scan (l.take (k + 1)) = if b.toNat = 32 then (D ++ [cur ++ [(nn : Int)]], [], 0, 0) else (D, cur ++ [(nn : Int)], 0, 0) := by
  rw [hk, scan_snoc]
  generalize scan (l.take k) = st at *
  unfold scStep
  rw [← h4, hd]
  subst h1; subst h2; subst h3
  simp
theorem getD_nil_more (R : List (List Int)) (i : Nat) : (R ++ [[]]).getD i [] = R.getD i [] := by
  simp only [List.getD_eq_getElem?_getD]
  by_cases h : i < R.length
  · rw [List.getElem?_append_left h]
  · by_cases e : i = R.length
    · subst e; simp
    · rw [List.getElem?_eq_none (by simp; omega), List.getElem?_eq_none (by omega)]
theorem byte_of (s : ByteArray) (k : Nat) (h : k < s.size) : s.data.toList.take (k + 1) = s.data.toList.take k ++ [s[k]] := by
  rw [List.take_succ_eq_append_getElem (by simpa using h)]; rfl

set_option maxRecDepth 100000 in
set_option maxHeartbeats 4000000 in
theorem rParse_any (s : ByteArray) (w : World) (hs : s.size ≤ 1100) :
    Calls Tryd.prog 38 #[.string s] w fun e w' => ∃ (r : Value) (b : Bool) (R : List (List Int)), e = .returned (.tuple #[.agg #[r], .bool b]) ∧ Rows w' r R ∧ Below w.heap.size w w' ∧ b = (validM (scanM s.data.toList) && decide (strB (textM (scanM s.data.toList)) = s)) ∧ R = if b then scanM s.data.toList else [] := by
  obtain ⟨i0, hi, hz0, hz1, hz2⟩ := info_parts infoRow
  obtain ⟨j0, hj, hy0, hy1, hy2⟩ := info_parts infoInt
  have hsl : s.data.toList.length = s.size := Array.length_toList
  have Hby := hid (byte_of s)
  have hs' : ¬ ((1100 : Int) < s.size) := by omega
  go_enter Tryd.func38, Tryd.ntmps38
  go_upto_region 4 with fail
  obtain ⟨f0, f1, f2⟩ := three_alloc w (.cells #[.slice none 0 0] 24) (.cells #[.slice none 0 0] 25) (.cells #[.slice (some ⟨w.heap.size + 1, 0, none⟩) 1 1] 24)
  have hX := bal (bal (bal (Below.refl _ w) (.cells #[.slice none 0 0] 24)) (.cells #[.slice none 0 0] 25)) (.cells #[.slice (some ⟨w.heap.size + 1, 0, none⟩) 1 1] 24)
  generalize hWX : ((w.alloc (.cells #[.slice none 0 0] 24)).alloc (.cells #[.slice none 0 0] 25)).alloc (.cells #[.slice (some ⟨w.heap.size + 1, 0, none⟩) 1 1] 24) = X at *
  clear hWX
  have hJ0 : Jag X (w.heap.size + 1) (w.heap.size + 1) 1 1 [.slice none 0 0] (fun i => [([] : List Int)].getD i []) (fun b => b ≠ w.heap.size + 2) :=
    Jag.start (n := 1) ⟨rfl, .inr ⟨w.heap.size + 1, 1, #[.slice none 0 0], rfl, Nat.le_refl _, f1, Nat.le_refl _, by unfold maxLen; omega, rfl, rfl⟩⟩ (fun i => by cases i <;> simp)
  go_wp2_with fail
  go_loopw [5, 6, 7] (fun n many i wr => ∃ (k : Nat) (R : List (List Int)) (Z cap nn mm : Nat) (xs : List Value), n = .int .i64 nn ∧ many = .int .i64 mm ∧ i = .int .i64 k ∧ PRel w X s.data.toList k R Z cap nn mm xs wr) (fun _ _ i _ => s.size + 1 - (intOf i).toNat)
  case atStart => exact ⟨0, [[]], w.heap.size + 1, 1, 0, 0, _, rfl, rfl, rfl, by omega, by omega, by omega, by simp, by simp, by intro i; cases i <;> simp, fun _ => ⟨rfl, rfl, rfl⟩, fun h => by omega, hJ0, by omega, f2, Below.refl _ _⟩
  case round =>
    obtain ⟨k, R, Z, cap, nn, mm, xs, rfl, rfl, rfl, hP⟩ := hrel
    obtain ⟨p1, p2, p3, p4, p5, p6, p7, p8, hJ, pz, pb, pB⟩ := hP
    have hbl : w.heap.size + 2 < wr.heap.size := lt_of_block pb
    have cb := cell_of_one pb
    have HP6 := hid p6
    have HP7 := hid p7
    have HP8 := hid p8
    have HJ := hid hJ
    have Hpb := hid pb
    clear p6 p7 p8 hJ pb
    by_cases hk1 : k ≤ s.size
    · have hk1' : (k : Int) ≤ s.size := by omega
      obtain ⟨wo, rfl⟩ : ∃ wo : World, wo = wr := ⟨_, rfl⟩
      go_upto_region 8 with fail
      go_cut [40] from 15 to 81 (fun b wc => b = .bool (decide (k < s.size) && scDig mm (s.data.toList.getD k 0)) ∧ wc = wo)
      case first =>
        by_cases h0 : k < s.size
        · have hb0 : s.data.toList.getD k 0 = s[k] := by rw [List.getD_eq_getElem?_getD, List.getElem?_eq_getElem (by omega)]; rfl
          have h0' : (k : Int) < s.size := by omega
          by_cases h1 : 48 ≤ (s[k].toNat : Int)
          · by_cases h2 : (s[k].toNat : Int) ≤ 57
            · by_cases h3 : (mm : Int) < 3
              · go_wp2
                go_meet
                exact ⟨by rw [hb0]; simp [scDig, h0]; omega, rfl⟩
              · go_wp2
                go_meet
                exact ⟨by rw [hb0]; simp [scDig, h0]; omega, rfl⟩
            · go_wp2
              go_meet
              exact ⟨by rw [hb0]; simp [scDig, h0]; omega, rfl⟩
          · go_wp2
            go_meet
            exact ⟨by rw [hb0]; simp [scDig, h0]; omega, rfl⟩
        · have h0' : ¬ (k : Int) < s.size := by omega
          go_wp2
          go_meet
          exact ⟨by simp [h0], rfl⟩
      case rest =>
        obtain ⟨rfl, rfl⟩ := hcut
        cases hD : (decide (k < s.size) && scDig mm (s.data.toList.getD k 0)) with
        | true =>
          rw [Bool.and_eq_true, decide_eq_true_eq] at hD
          obtain ⟨h0, hdg⟩ := hD
          have hb0 : s.data.toList.getD k 0 = s[k] := by rw [List.getD_eq_getElem?_getD, List.getElem?_eq_getElem (by omega)]; rfl
          rw [hb0] at hdg
          have hst : ∀ st : Sc, st.2.2.2 = mm → scStep st s[k] = (st.1, st.2.1, 10 * st.2.2.1 + (s[k].toNat - 48), st.2.2.2 + 1) := fun st e => by unfold scStep; rw [if_pos (by rw [e]; exact hdg)]
          have hsn : scan (s.data.toList.take (k + 1)) = scStep (scan (s.data.toList.take k)) s[k] := by rw [Hby.out k h0, scan_snoc]
          obtain ⟨q1, q2, q3⟩ := HP7.out (by omega)
          rw [hst _ q3.symm] at hsn
          have hnew : R = (scan (s.data.toList.take (k + 1))).1 ++ [(scan (s.data.toList.take (k + 1))).2.1] ∧ 10 * nn + (s[k].toNat - 48) = (scan (s.data.toList.take (k + 1))).2.2.1 ∧ mm + 1 = (scan (s.data.toList.take (k + 1))).2.2.2 := by
            rw [hsn]; exact ⟨q1, by rw [q2], by rw [q3]⟩
          have hlt := scan_n (s.data.toList.take (k + 1))
          rw [← hnew.2.1] at hlt
          simp only [scDig, Bool.and_eq_true, decide_eq_true_eq] at hdg
          have h0' : (k : Int) < s.size := by omega
          have h1 : 48 ≤ (s[k].toNat : Int) := by omega
          have h2 : (s[k].toNat : Int) ≤ 57 := by omega
          have Hnew := hid hnew
          have Hlt := hid hlt
          clear hst hsn hb0 q1 q2 q3 hnew hlt
          go_wp2
          go_roundw
          case rel => exact ⟨k + 1, R, Z, cap, 10 * nn + (s[k].toNat - 48), mm + 1, xs, by congr 1; omega, by go_num, by go_num, by omega, Hlt.out, by omega, by omega, p5, fun i => Nat.le_succ_of_le (HP6.out i), fun _ => Hnew.out, fun e => by omega, HJ.out, pz, Hpb.out, pB⟩
          case measure => simp [intOf]; omega
        | false =>
          obtain ⟨q1, q2, q3⟩ := HP7.out (by omega)
          obtain ⟨D, hD0⟩ : ∃ D, (scan (s.data.toList.take k)).1 = D := ⟨_, rfl⟩
          obtain ⟨cur, hc0⟩ : ∃ c, (scan (s.data.toList.take k)).2.1 = c := ⟨_, rfl⟩
          rw [hD0, hc0] at q1
          subst q1
          have hRl : (D ++ [cur]).length = D.length + 1 := by simp
          have hrow : (D ++ [cur]).getD D.length [] = cur := by simp [List.getD_eq_getElem?_getD]
          have hJ := HJ.out
          have hpb := Hpb.out
          have hcl : cur.length ≤ k + 1 := by have := HP6.out D.length; rwa [hrow] at this
          have hget : ∀ i, (D ++ [cur ++ [(nn : Int)]]).getD i [] = if i = D.length then cur ++ [(nn : Int)] else (D ++ [cur]).getD i [] := by
            intro i
            by_cases e : i = D.length
            · subst e; simp [List.getD_eq_getElem?_getD]
            · rw [if_neg e]
              simp only [List.getD_eq_getElem?_getD]
              by_cases e2 : i < D.length
              · rw [List.getElem?_append_left e2, List.getElem?_append_left e2]
              · rw [List.getElem?_eq_none (by simp; omega), List.getElem?_eq_none (by simp; omega)]
          have hnl : (D ++ [cur ++ [(nn : Int)]]).length = D.length + 1 := by simp
          have hrs := hJ.row D.length (by rw [hRl]; exact Nat.lt_succ_self _)
          simp only [hrow] at hrs
          rw [hRl] at cb hJ hpb p4
          have Hget := hid hget
          have Hnl := hid hnl
          have HR := hid hD0
          have HC := hid hc0
          have HQ2 := hid q2
          have HQ3 := hid q3
          have HD := hid hD
          generalize hln : D.length = ln at *
          have Hln := hid hln
          clear hln hget hnl hD0 hc0 hrow hRl HJ Hpb HP7 q2 q3 hD
          obtain ⟨A1, c1, hA1⟩ : ∃ A c, xs.getD ln .nilIface = .slice A cur.length c := by
            rcases hrs.2 with ⟨he, h0⟩ | ⟨g, cap, cur', he, hg, _⟩
            · exact ⟨none, 0, by rw [he, h0]⟩
            · exact ⟨_, cap, he⟩
          have hoff := fun g (hg : (Value.slice A1 cur.length c1).ownBlock = some g) => hJ.off ln (Nat.lt_succ_self _) g (by rw [hA1]; exact hg)
          rw [hA1] at hrs
          have hxl : xs.length = ln + 1 := by have := hJ.outer.1; omega
          have hcx : wc.cell? ⟨Z, ln, none⟩ = some (.slice A1 cur.length c1) := by
            rw [hJ.outer.cellAt ln (by omega)]
            have : xs[ln]? = some (xs.getD ln .nilIface) := by simp [List.getD_eq_getElem?_getD, List.getElem?_eq_getElem (show ln < xs.length by omega)]
            rw [this, hA1]
          have hfn := hJ.outer.frozenAt ln
          have hZl : Z < wc.heap.size := owns_lt hJ.outer
          have hll : (ln : Int) < ln + 1 := by omega
          have KK : Hid (∀ (g1 cap1 : Nat) (w5 : World), w5.ownsRow (w.heap.size + 1) 3 1 (.slice (some ⟨g1, 0, none⟩) (cur.length + 1) cap1) (cur.length + 1) ((cur.map fun x => .int .i64 x) ++ [.int .i64 (nn : Int)]) → (wc.drew.alloc (.cells #[.int .i64 (nn : Int)] 3)).grownBy w5 (Value.slice A1 cur.length c1).ownBlock → ((Value.slice A1 cur.length c1).ownBlock = some g1 ∨ g1 = (wc.drew.alloc (.cells #[.int .i64 (nn : Int)] 3)).heap.size) →
              ∃ ys, Jag (w5.setCell ⟨Z, ln, none⟩ (.slice (some ⟨g1, 0, none⟩) (cur.length + 1) cap1)) (w.heap.size + 1) Z (ln + 1) cap ys (fun i => (D ++ [cur ++ [(nn : Int)]]).getD i []) (fun b => b ≠ w.heap.size + 2) ∧
              (w5.setCell ⟨Z, ln, none⟩ (.slice (some ⟨g1, 0, none⟩) (cur.length + 1) cap1)).heap[w.heap.size + 2]? = some (.cells #[.slice (some ⟨Z, 0, none⟩) (ln + 1) cap] 24 (0, 0)) ∧
              Below (w.heap.size + 1) X (w5.setCell ⟨Z, ln, none⟩ (.slice (some ⟨g1, 0, none⟩) (cur.length + 1) cap1))) := hid (by
            intro g1 cap1 w5 hown' hgr hat
            have hsz : (wc.drew.alloc (.cells #[.int .i64 (nn : Int)] 3)).heap.size = wc.heap.size + 1 := by simp
            have hcn : (D ++ [cur]).getD ln [] = cur := by rw [← Hln.out]; simp [List.getD_eq_getElem?_getD]
            refine ⟨_, Jag.step (W := wc.drew) (ls := cur) (hJ.kept (fun _ _ _ _ => rfl)) (Nat.lt_succ_self ln) hcn rfl (by rw [hA1]; exact hgr) hown' (by rw [hA1]; rw [hsz] at hat; exact hat) (by show wc.heap.size + 1 ≠ _; omega) Hget.out, ?_, ?_⟩
            · rw [Below.heap_setCell _ _ _ _ (by simp; omega), hgr.block _ (by omega) (fun e => (hoff _ e.symm).2 rfl)]
              exact (Below.heap_alloc wc.drew _ _ hbl).trans hpb
            · refine Below.setCell ((pB.drew.alloc (by show w.heap.size + 1 ≤ wc.heap.size; omega) _).grown hgr (by omega) (fun q hq => (ownsRow_blk hrs q hq).1)) ?_ _
              exact (ownsRow_blk hJ.outer Z rfl).1)
          have HJ := hid hJ
          have Hrs := hid hrs
          have Hpb := hid hpb
          clear hJ hrs hpb hA1
          go_upto_region 11 with fail
          go_cut [] from 15 to 81 (fun wd => ∃ ys, Jag wd (w.heap.size + 1) Z (ln + 1) cap ys (fun i => (D ++ [cur ++ [(nn : Int)]]).getD i []) (fun b => b ≠ w.heap.size + 2) ∧ wd.heap[w.heap.size + 2]? = some (.cells #[.slice (some ⟨Z, 0, none⟩) (ln + 1) cap] 24 (0, 0)) ∧ Below (w.heap.size + 1) X wd)
          case first =>
            go_region_law (refine step_append_lies _ rfl _ _ 25 rfl (w.heap.size + 1) 3 j0 (.int .i64 0) 1 8 Tryd.underlying25 hj hy0 hy1 hy2 rfl (by decide) (.slice A1 cur.length c1) cur.length (cur.map fun x => .int .i64 x) rfl (by first | exact Hrs.out.alloc _ | exact (Hrs.out.alloc _).drew) ⟨wc.heap.size, 0, none⟩ 1 1 [.int .i64 (nn : Int)] rfl rfl (by first | exact cell_one_new _ _ _ | (intro j u hu; exact cell_one_new _ _ _ j u hu)) (by simp [Value.oneCell']) (by decide) (by unfold maxLen; omega) (by omega) (by simp; omega) _ rfl ?_; intro g1 cap1 w5 hown' hgrow' hat hlt1; have hgr : (wc.drew.alloc (.cells #[.int .i64 (nn : Int)] 3)).grownBy w5 (Value.slice A1 cur.length c1).ownBlock := hgrow'; have hG5 : w5.heap[Z]? = wc.heap[Z]? := (hgr.block _ (by simp; omega) (fun e => (hoff _ e.symm).1 rfl)).trans (Below.heap_alloc wc.drew _ _ hZl); have hgb : w5.heap[w.heap.size + 2]? = wc.heap[w.heap.size + 2]? := (hgr.block _ (by simp; omega) (fun e => (hoff _ e.symm).2 rfl)).trans (Below.heap_alloc wc.drew _ _ hbl); have hcb5 : w5.cell? ⟨w.heap.size + 2, 0, none⟩ = some (.slice (some ⟨Z, 0, none⟩) (ln + 1) cap) := (World.cell?_of_block (w := wc) hgb).trans cb; have hcx5 : w5.cell? ⟨Z, ln, none⟩ = some (.slice A1 cur.length c1) := (World.cell?_of_block (w := wc) hG5).trans hcx; have O5 := owns_block HJ.out.outer hG5; have hfn5 := O5.frozenAt ln)
            all_goals go_wp2
            all_goals go_meet
            all_goals exact KK.out _ _ _ hown' hgr hat
          case rest =>
            obtain ⟨ys, hJ2, hb2, hB2⟩ := hcut
            have hcl2 : ∀ i, ((D ++ [cur ++ [(nn : Int)]]).getD i []).length ≤ k + 1 + 1 := fun i => by
              rw [Hget.out i]
              by_cases e : i = ln
              · rw [if_pos e]; simp; omega
              · rw [if_neg e]; have := HP6.out i; omega
            have HC2 := hid hcl2
            have HJ2 := hid hJ2
            have Hb2 := hid hb2
            clear hcl2 hJ2 hb2 hcx hfn KK HJ Hrs Hpb cb
            obtain ⟨wd, rfl⟩ : ∃ wd : World, wd = wc := ⟨_, rfl⟩
            go_upto_region 13 with fail
            go_cut [76] from 15 to 81 (fun b we => b = .bool (decide (k < s.size) && decide ((s.data.toList.getD k 0).toNat = 32)) ∧ we = wd)
            case first =>
              by_cases h0 : k < s.size
              · have hb0 : s.data.toList.getD k 0 = s[k] := by rw [List.getD_eq_getElem?_getD, List.getElem?_eq_getElem (by omega)]; rfl
                have h0' : (k : Int) < s.size := by omega
                by_cases h1 : s[k].toNat = 32
                · have h1' : ((s[k].toNat : Int) == 32) = true := by simp; omega
                  go_wp2
                  go_meet
                  exact ⟨by rw [hb0]; simp [h0, h1], rfl⟩
                · have h1' : ((s[k].toNat : Int) == 32) = false := by simp; omega
                  go_wp2
                  go_meet
                  exact ⟨by rw [hb0]; simp [h0, h1], rfl⟩
              · have h0' : ¬ (k : Int) < s.size := by omega
                go_wp2
                go_meet
                exact ⟨by simp [h0], rfl⟩
            case rest =>
              obtain ⟨rfl, hwe⟩ := hcut
              subst hwe
              obtain ⟨we, rfl⟩ : ∃ we : World, we = wc := ⟨_, rfl⟩
              cases hE : (decide (k < s.size) && decide ((s.data.toList.getD k 0).toNat = 32)) with
              | true =>
                rw [Bool.and_eq_true, decide_eq_true_eq, decide_eq_true_eq] at hE
                obtain ⟨h0, h32⟩ := hE
                have hb0 : s.data.toList.getD k 0 = s[k] := by rw [List.getD_eq_getElem?_getD, List.getElem?_eq_getElem (by omega)]; rfl
                have hdg := HD.out
                rw [decide_eq_true h0, Bool.true_and] at hdg
                rw [hb0] at h32 hdg
                have hsn := scan_next _ _ _ (Hby.out k h0) HR.out HC.out HQ2.out HQ3.out hdg
                rw [if_pos h32] at hsn
                have hJ2 := HJ2.out
                have O2 := hJ2.outer
                have cb2 := cell_of_one Hb2.out
                have fb2 := free_of_one Hb2.out
                have hbl2 : w.heap.size + 2 < we.heap.size := lt_of_block Hb2.out
                have hZ2 := (ownsRow_blk O2 Z rfl).1
                have Hsn := hid hsn
                have HJ3 := hid hJ2
                clear hsn hb0 h32 hdg hJ2
                go_wp2_with (at_builtin; refine wpList_append_lies _ rfl _ _ 22 rfl (w.heap.size + 1) 25 i0 (.slice none 0 0) 1 24 Tryd.underlying22 hi hz0 hz1 hz2 rfl (by decide) (.slice (some ⟨Z, 0, none⟩) (ln + 1) cap) (ln + 1) ys rfl (O2.alloc _) ⟨we.heap.size, 0, none⟩ 1 1 [.slice none 0 0] rfl rfl (cell_one_new _ _ _) (by simp [Value.oneCell']) (by decide) (by unfold maxLen; omega) (by omega) (by simp; omega) _ rfl ?_; intro g1 cap1 w5 hown' hgrow' hat hlt1; have hgb : w5.heap[w.heap.size + 2]? = we.heap[w.heap.size + 2]? := (hgrow'.block _ (by simp; omega) (fun e => pz (by simpa [Value.ownBlock] using e.symm))).trans (Below.heap_alloc we _ _ hbl2); have hcb5 : w5.cell? ⟨w.heap.size + 2, 0, none⟩ = some (.slice (some ⟨Z, 0, none⟩) (ln + 1) cap) := (World.cell?_of_block (w := we) hgb).trans cb2; have hfb5 : w5.frozen? ⟨w.heap.size + 2, 0, none⟩ = false := (World.frozen?_of_block (w := we) hgb).trans fb2)
                go_roundw
                case rel =>
                  have hsz : (we.alloc (.cells #[.slice none 0 0] 25)).heap.size = we.heap.size + 1 := by simp
                  have hat' : g1 = Z ∨ g1 = we.heap.size + 1 := by
                    rcases hat with h | h
                    · left; simpa [Value.ownBlock] using h.symm
                    · right; rw [h]; exact hsz
                  have hg1 : g1 ≠ w.heap.size + 2 := by rcases hat' with h | h <;> omega
                  have hJp := Jag.push (L' := fun i => (D ++ [cur ++ [(nn : Int)]] ++ [[]]).getD i []) HJ3.out hgrow' hown' hat' (fun i hi => by
                    show (D ++ [cur ++ [(nn : Int)]] ++ [[]]).getD i [] = _
                    rw [getD_nil_more]
                    by_cases e : i = ln + 1
                    · subst e
                      rw [if_pos rfl, List.getD_eq_getElem?_getD, List.getElem?_eq_none (by rw [Hnl.out]; exact Nat.le_refl _)]; rfl
                    · rw [if_neg e])
                  have hlen : (D ++ [cur ++ [(nn : Int)]] ++ [[]]).length = ln + 1 + 1 := by rw [List.length_append, Hnl.out]; rfl
                  refine ⟨k + 1, D ++ [cur ++ [(nn : Int)]] ++ [[]], g1, cap1, 0, 0, ys ++ [.slice none 0 0], rfl, rfl, by go_num, by omega, by omega, by omega, by rw [hlen]; omega, by rw [hlen]; omega, fun i => by rw [getD_nil_more]; exact HC2.out i, fun _ => by rw [Hsn.out]; exact ⟨rfl, rfl, rfl⟩, fun e => by omega, ?_, hg1, ?_, ?_⟩
                  · rw [hlen]
                    exact hJp.kept (fun q _ _ hq => Below.heap_setCell _ _ _ _ (by
                      rcases hq with h | h
                      · rw [h]; exact hg1
                      · exact h))
                  · rw [hlen]
                    have := heap_setCell_same w5 (w.heap.size + 2) 0 _ _ (.slice (some ⟨g1, 0, none⟩) (ln + 1 + 1) cap1) (hgb.trans Hb2.out)
                    simpa using this
                  · exact Below.setCell ((hB2.alloc (by omega) _).grown hgrow' (by omega) (fun q hq => by cases hq; exact hZ2)) (Nat.le_succ _) _
                case measure => simp [intOf]; omega
              | false =>
                have hJ2 := HJ2.out
                have hJ3 : Jag we (w.heap.size + 1) Z (D ++ [cur ++ [(nn : Int)]]).length cap ys (fun i => (D ++ [cur ++ [(nn : Int)]]).getD i []) (fun b => b ≠ w.heap.size + 2) := by rw [Hnl.out]; exact hJ2
                have hb3 : we.heap[w.heap.size + 2]? = some (.cells #[.slice (some ⟨Z, 0, none⟩) (D ++ [cur ++ [(nn : Int)]]).length cap] 24 (0, 0)) := by rw [Hnl.out]; exact Hb2.out
                have hsn : k + 1 ≤ s.data.toList.length → scan (s.data.toList.take (k + 1)) = (D, cur ++ [(nn : Int)], 0, 0) := fun h0 => by
                  have h0 : k < s.size := by omega
                  have hb0 : s.data.toList.getD k 0 = s[k] := by rw [List.getD_eq_getElem?_getD, List.getElem?_eq_getElem (by omega)]; rfl
                  have hdg := HD.out
                  rw [decide_eq_true h0, Bool.true_and, hb0] at hdg
                  rw [decide_eq_true h0, Bool.true_and, hb0, decide_eq_false_iff_not] at hE
                  have := scan_next _ _ _ (Hby.out k h0) HR.out HC.out HQ2.out HQ3.out hdg
                  rwa [if_neg hE] at this
                have hsM : k + 1 = s.data.toList.length + 1 → D ++ [cur ++ [(nn : Int)]] = scanM s.data.toList := fun h0 => by
                  have e : s.data.toList.take k = s.data.toList := List.take_of_length_le (by omega)
                  have h1 := HR.out
                  have h2 := HC.out
                  have h3 := HQ2.out
                  rw [e] at h1 h2 h3
                  rw [scanM, h1, h2, ← h3]
                have HP : Hid (PRel w X s.data.toList (k + 1) (D ++ [cur ++ [(nn : Int)]]) Z cap 0 0 ys we) := hid ⟨by omega, by omega, by omega, by rw [Hnl.out]; omega, by rw [Hnl.out]; omega, HC2.out, fun h0 => by rw [hsn h0]; exact ⟨rfl, rfl, rfl⟩, hsM, hJ3, pz, hb3, hB2⟩
                clear hJ2 hJ3 hb3 hsn hsM hE
                go_wp2
                go_roundw
                case rel => exact ⟨k + 1, _, Z, cap, 0, 0, ys, rfl, rfl, by go_num, HP.out⟩
                case measure => simp [intOf]; omega
    · have hk2 : ¬ (k : Int) ≤ s.size := by omega
      have hR := HP8.out (by omega)
      subst hR
      generalize hMM : scanM s.data.toList = M at *
      have HM := hid hMM
      clear hMM
      have hM := HJ.out.mrows (m := M) rfl (fun i _ => ⟨rfl, by have := HP6.out i; unfold big; show (M.getD i []).length ≤ _; omega⟩)
      have hRows := hM.rows (by unfold big; omega)
      have g0 := (pB.block _ (Nat.lt_succ_self _)).trans f0
      have hl0 : w.heap.size < wr.heap.size := by omega
      have hBw : Below w.heap.size w wr := hX.trans (pB.mono (Nat.le_succ _))
      have G0 := hid g0
      clear g0 f0 f1 f2
      cases hv : validM M with
      | false =>
        go_wp2_with fail
        refine (rValid_bool _ M false _ hRows hv).mono ?_
        rintro e w4 ⟨rfl, hb4⟩
        have k4 := (hb4.block _ hl0).trans G0.out
        have d1 := cell_of_one k4
        have d2 := free_of_one k4
        have d3 := store_res k4 (.slice none 0 0)
        have HB := hid (Below.setCell (btr hBw hb4) (p := ⟨w.heap.size, 0, none⟩) (Nat.le_refl _) (.slice none 0 0))
        clear k4
        go_wp2
        (try simp only [Exit.inBlock, Exit.then])
        refine bodyPost_ret (v := .tuple #[.agg #[.slice none 0 0], .bool false]) ?_ rfl ⟨_, _, _, rfl, ⟨none, 0, rfl, by simp, fun i hi => by simp at hi⟩, HB.out, by rw [HM.out, hv]; rfl, rfl⟩
        rw [results_cell_tmp rfl]
        go_simp
      | true =>
        go_wp2_with fail
        refine (rValid_bool _ M true _ hRows hv).mono ?_
        rintro e w4 ⟨rfl, hb4⟩
        have cb4 := (hb4.cell (p := ⟨w.heap.size + 2, 0, none⟩) hbl).trans cb
        have htx := rText_any _ M w4 (hRows.below hb4) hv
        have hl4 : w.heap.size < w4.heap.size := Nat.lt_of_lt_of_le hl0 hb4.size
        by_cases heq : strB (textM M) = s
        · rw [heq] at htx
          have Heq := hid heq
          clear heq
          go_wp2_with fail
          refine htx.mono ?_
          clear htx
          rintro e w5 ⟨rfl, hb5⟩
          have cb5 := (hb5.cell (p := ⟨w.heap.size + 2, 0, none⟩) (Nat.lt_of_lt_of_le hbl hb4.size)).trans cb4
          have k4 := (hb5.block _ hl4).trans ((hb4.block _ hl0).trans G0.out)
          have d1 := cell_of_one k4
          have d2 := free_of_one k4
          have d3 := store_res k4 (.slice (some ⟨Z, 0, none⟩) M.length cap)
          have HB := hid (Below.setCell (btr (btr hBw hb4) hb5) (p := ⟨w.heap.size, 0, none⟩) (Nat.le_refl _) (.slice (some ⟨Z, 0, none⟩) M.length cap))
          have HR := hid ((hM.kept (W' := w5.setCell ⟨w.heap.size, 0, none⟩ (.slice (some ⟨Z, 0, none⟩) M.length cap)) (fun q hq hs => (Below.heap_setCell _ _ _ _ (by simp; omega)).trans ((hb5.block _ (Nat.lt_of_lt_of_le hs hb4.size)).trans (hb4.block _ hs)))).rows (by unfold big; omega))
          clear k4 hM
          go_wp2
          (try simp only [Exit.inBlock, Exit.then])
          refine bodyPost_ret (v := .tuple #[.agg #[.slice (some ⟨Z, 0, none⟩) M.length cap], .bool true]) ?_ rfl ⟨_, _, _, rfl, HR.out, HB.out, by rw [HM.out, hv, decide_eq_true Heq.out]; rfl, by rw [HM.out]; rfl⟩
          rw [results_cell_tmp rfl]
          go_simp
        · have hne' := str_ne heq
          have Heq := hid heq
          generalize htt : strB (textM M) = tx at *
          have HT := hid htt
          clear htt
          clear heq
          go_wp2_with fail
          refine htx.mono ?_
          clear htx
          rintro e w5 ⟨rfl, hb5⟩
          have k4 := (hb5.block _ hl4).trans ((hb4.block _ hl0).trans G0.out)
          have d1 := cell_of_one k4
          have d2 := free_of_one k4
          have d3 := store_res k4 (.slice none 0 0)
          have HB := hid (Below.setCell (btr (btr hBw hb4) hb5) (p := ⟨w.heap.size, 0, none⟩) (Nat.le_refl _) (.slice none 0 0))
          clear k4
          go_wp2
          (try simp only [Exit.inBlock, Exit.then])
          refine bodyPost_ret (v := .tuple #[.agg #[.slice none 0 0], .bool false]) ?_ rfl ⟨_, _, _, rfl, ⟨none, 0, rfl, by simp, fun i hi => by simp at hi⟩, HB.out, by rw [HM.out, hv, HT.out, decide_eq_false Heq.out]; rfl, rfl⟩
          rw [results_cell_tmp rfl]
          go_simp

set_option maxHeartbeats 1000000 in
theorem rParse_long (s : ByteArray) (w : World) (hl : 1100 < s.size) :
    Calls Tryd.prog 38 #[.string s] w fun e w' => e = .returned (.tuple #[.agg #[.slice none 0 0], .bool false]) ∧ Below w.heap.size w w' := by
  have hl' : (1100 : Int) < s.size := by omega
  have f0 := heap_alloc_new w (.cells #[.slice none 0 0] 24)
  have d1 := cell_of_one f0
  have d2 := free_of_one f0
  have hB := bal (Below.refl _ w) (.cells #[.slice none 0 0] 24)
  have HB := hid hB
  go_enter Tryd.func38, Tryd.ntmps38
  go_wp2
  (try simp only [Exit.inBlock, Exit.then])
  refine bodyPost_ret (v := .tuple #[.agg #[.slice none 0 0], .bool false]) ?_ rfl ⟨rfl, HB.out⟩
  rw [results_cell_tmp rfl]
  go_simp

/-- No automaton has the string: none is returned. -/
theorem rParse_no (s : ByteArray) (w : World) (hno : ∀ m, validM m = true → strB (textM m) ≠ s) :
    Calls Tryd.prog 38 #[.string s] w fun e w' => ∃ A c, e = .returned (.tuple #[.agg #[.slice A 0 c], .bool false]) ∧ Below w.heap.size w w' := by
  by_cases hl : 1100 < s.size
  · exact (rParse_long s w hl).mono fun e w' h => ⟨none, 0, h.1, h.2⟩
  · refine (rParse_any s w (by omega)).mono ?_
    rintro e w' ⟨r, b, R, rfl, hr, hb, hbb, hR⟩
    have hb0 : b = false := by
      rw [hbb]
      cases hv : validM (scanM s.data.toList) with
      | false => rfl
      | true => rw [decide_eq_false (hno _ hv)]; rfl
    subst hb0
    obtain rfl : R = [] := hR
    obtain ⟨A, c, rfl, _⟩ := hr
    exact ⟨A, c, rfl, hb⟩
/-- The string of an automaton: it is returned. -/
theorem rParse_yes (m : List (List Int)) (w : World) (hv : validM m = true) :
    Calls Tryd.prog 38 #[.string (strB (textM m))] w fun e w' => ∃ r, e = .returned (.tuple #[.agg #[r], .bool true]) ∧ Rows w' r m ∧ Below w.heap.size w w' := by
  have hl := text_len hv
  refine (rParse_any (strB (textM m)) w (by rw [strB_size]; omega)).mono ?_
  rintro e w' ⟨r, b, R, rfl, hr, hb, hbb, hR⟩
  have e1 : (strB (textM m)).data.toList = textM m := by simp [strB]
  rw [e1, scan_text hv, hv, decide_eq_true rfl] at hbb
  have hbt : b = true := hbb
  subst hbt
  rw [e1, scan_text hv] at hR
  obtain rfl : R = m := hR
  exact ⟨r, rfl, hr, hb⟩
end Go.Proofs.YtibaihchnbbokaaDoor
