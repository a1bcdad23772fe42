/-
  Texts that the proof of the law stands on: A27, A26.
-/
import Derived.Test.YtbhhemidnmaodaaDoorEaC
import Derived.RegionTactic
set_option linter.unusedVariables false
set_option linter.unusedSimpArgs false
namespace Go.Proofs.YtbhhemidnmaodaaDoor
open Go.RowKit Go.Shelf
/-- 'append(row, list...)', the list nil or not. -/
theorem oper_append_list {w : World} {o : Oper} {a : Act} {K : Act → World → Prop} {Q : Exit → Act → World → Prop} (s x : Operand)
    (ho : o.op = .call { callee := .builtin .append, args := #[s, x], argTypes := #[27, 27] }) (base n : Nat) (v : Value) (xs : List Value) (ao : Option Addr) (c : Nat) (l : List Int)
    (hs : a.eval s = v) (hown : w.ownsRow base 3 1 v n xs) (hx : a.eval x = .slice ao l.length c) (hc : ao = none → c = 0) (hI : Ints w (.slice ao l.length c) l) (hb : base ≤ w.heap.size) (hlen : n + l.length ≤ 100000)
    (h : ∀ v' w', w'.ownsRow base 3 1 v' (n + l.length) (xs ++ l.map fun x => .int .i64 x) → Below base w w' → K (a.put o.dst v') w') :
    Oper.wp Tryd.prog o a w K Q := by
  obtain ⟨j0, hj, hy0, hy1, hy2⟩ := info_parts infoInt
  cases ao with
  | none =>
    obtain rfl := hc rfl
    have hl : l = [] := by
      obtain ⟨A, cap, hv, _, hcc⟩ := hI
      cases l with
      | nil => rfl
      | cons y l =>
        obtain ⟨b, off, hA, _⟩ := hcc 0 (by simp)
        simp only [Value.slice.injEq] at hv
        rw [← hv.1] at hA
        cases hA
    subst hl
    have hrun := run_append_owned_none (P := Tryd.prog) (w := w) base 27 o.type 3 j0 1 Tryd.underlying27 hj v n xs hown
    unfold Oper.wp execOp
    simp only [List.length_nil] at hx
    simp only [ho, resolve, invoke, builtin, Sem.run_bind, Sem.run_pure, Result.andThen_ok, List.map_toArray, List.map_cons, List.map_nil, hs, hx, hrun]
    exact h v w (by simpa using hown) (Below.refl _ _)
  | some ad =>
    obtain ⟨v', w', hr, h1, h2, h3, h4⟩ := run_append_own_at (P := Tryd.prog) w base 27 o.type 3 j0 (.int .i64 0) 1 8 Tryd.underlying27 hj hy0 hy1 hy2 rfl (by decide) v n xs hown ad l.length c (l.map fun x => .int .i64 x) (by simp) (ints_at hI) (by simp [Value.oneCell']) (by unfold maxLen; omega) (by omega) hb
    unfold Oper.wp execOp
    simp only [ho, resolve, invoke, builtin, Sem.run_bind, Sem.run_pure, Result.andThen_ok, List.map_toArray, List.map_cons, List.map_nil, hs, hx, hr]
    refine h v' w' h1 ((Below.refl _ _).grown h2 hb (fun k hk => ?_))
    rcases hown.2 with ⟨rfl, _⟩ | ⟨g, cap, cur, rfl, hg, _⟩
    · cases hk
    · cases hk; exact hg
/-- 'append(row, list...)', the list nil or not. -/
theorem step_append_list {w : World} {ops : Array Oper} {o : Oper} {a : Act} {K : Act → World → Prop} {Q : Exit → Act → World → Prop} {E : Prop} (hgd : o.guard = none) (s x : Operand)
    (ho : o.op = .call { callee := .builtin .append, args := #[s, x], argTypes := #[27, 27] }) (base n : Nat) (v : Value) (xs : List Value) (ao : Option Addr) (c : Nat) (l : List Int)
    (hs : a.eval s = v) (hown : w.ownsRow base 3 1 v n xs) (hx : a.eval x = .slice ao l.length c) (hc : ao = none → c = 0) (hI : Ints w (.slice ao l.length c) l) (hb : base ≤ w.heap.size) (hlen : n + l.length ≤ 100000)
    (h : ∀ v' w', w'.ownsRow base 3 1 v' (n + l.length) (xs ++ l.map fun x => .int .i64 x) → Below base w w' → K (a.put o.dst v') w') :
    if Region.wanted o (yielded ops a.tmps) = true then Oper.wp Tryd.prog o a w K Q else E := by
  have hw : Region.wanted o (yielded ops a.tmps) = true := by simp [Region.wanted, hgd]
  rw [if_pos hw]
  exact oper_append_list s x ho base n v xs ao c l hs hown hx hc hI hb hlen h
/-- 'append(row, list...)' behind a guard that holds. -/
theorem wpList_append_list_w {w : World} {ops : Array Oper} {rest : List Oper} {o : Oper} {a : Act} {Q : Exit → Act → World → Prop} (hw : Region.wanted o (yielded ops a.tmps) = true) (s x : Operand)
    (ho : o.op = .call { callee := .builtin .append, args := #[s, x], argTypes := #[27, 27] }) (base n : Nat) (v : Value) (xs : List Value) (ao : Option Addr) (c : Nat) (l : List Int)
    (hs : a.eval s = v) (hown : w.ownsRow base 3 1 v n xs) (hx : a.eval x = .slice ao l.length c) (hc : ao = none → c = 0) (hI : Ints w (.slice ao l.length c) l) (hb : base ≤ w.heap.size) (hlen : n + l.length ≤ 100000)
    (h : ∀ v' w', w'.ownsRow base 3 1 v' (n + l.length) (xs ++ l.map fun x => .int .i64 x) → Below base w w' → wpList Tryd.prog ops Q rest (a.put o.dst v') w') :
    wpList Tryd.prog ops Q (o :: rest) a w := by
  unfold wpList
  rw [if_pos hw]
  exact Or.inl (oper_append_list s x ho base n v xs ao c l hs hown hx hc hI hb hlen h)
/-- What the region that runs the whole word leaves. -/
structure StP (m o : List (List Int)) (j : Nat) (ul vl : List Int) (tv nv : Int) (y0 : World) (L : Nat → Bool) (u : Nat → Value) (W : World) : Prop where
  be : Below y0.heap.size y0 W
  b2 : L 2 = true → L 4 = false → W.ownsRow y0.heap.size 3 1 (u 2) 0 []
  b4 : L 4 = true → L 6 = false → W.ownsRow y0.heap.size 3 1 (u 4) ul.length (ul.map fun x => .int .i64 x)
  b6 : L 6 = true → Ints W (u 6) (ul ++ vl)
  b7 : L 7 = true → ∃ A n k, u 7 = .tuple #[.slice A n k, .int .i64 tv, .int .i64 nv] ∧ (nv = 0 → Ints W (.slice A n k) (outsM m o j (ul ++ vl))) ∧ (L 8 = true → u 8 = u 7) ∧ (L 9 = true → u 9 = .slice A n k) ∧ (L 12 = true → u 12 = .slice A n k)
theorem StP.det {m o : List (List Int)} {j : Nat} {ul vl : List Int} {tv nv : Int} {y0 : World} (i : Nat) (z : Value) (L : Nat → Bool) (u : Nat → Value) (W : World) (hi : [2, 4, 6, 7, 8, 9, 12].contains i = false) (h : StP m o j ul vl tv nv y0 L u W) : StP m o j ul vl tv nv y0 (updB L i) (updV u i z) W := by
  have hne : ∀ k, [2, 4, 6, 7, 8, 9, 12].contains k = true → k ≠ i := fun k hk e => by rw [e, hi] at hk; cases hk
  have n2 := hne 2 rfl
  have n4 := hne 4 rfl
  have n6 := hne 6 rfl
  have n7 := hne 7 rfl
  have n8 := hne 8 rfl
  have n9 := hne 9 rfl
  have n12 := hne 12 rfl
  refine ⟨h.be, ?_, ?_, ?_, ?_⟩
  · rw [updB_ne n2, updB_ne n4, updV_ne n2]; exact h.b2
  · rw [updB_ne n4, updB_ne n6, updV_ne n4]; exact h.b4
  · rw [updB_ne n6, updV_ne n6]; exact h.b6
  · rw [updB_ne n7, updB_ne n8, updB_ne n9, updB_ne n12, updV_ne n7, updV_ne n8, updV_ne n9, updV_ne n12]; exact h.b7
end Go.Proofs.YtbhhemidnmaodaaDoor
namespace Go.Proofs.YtbhhemidnmaodaaDoor
open Go.RowKit Go.Shelf
/-- What Run of the whole word left. -/
def WholeIs (m o : List (List Int)) (j : Nat) (L : List Int) (w : World) (c q g : Value) (w' : World) : Prop :=
  ∃ A n k, ∃ t : Int, c = .slice A n k ∧ q = .int .i64 t ∧ g = .int .i64 (chkE m o (j : Nat) L) ∧ Below w.heap.size w w' ∧ (chkE m o (j : Nat) L = 0 → t = (runM m j L : Nat) ∧ Ints w' (.slice A n k) (outsM m o j L))
set_option maxRecDepth 100000 in
set_option maxHeartbeats 8000000 in
theorem mealyParts_any (v u q1 q2 : Value) (m o : List (List Int)) (s : Int) (ul vl : List Int) (w : World) (hsh : w.ShapedOpen Tryd.prog) (h : Rows w v m) (k : Rows w u o) (i1 : Ints w q1 ul) (i2 : Ints w q2 vl) (n1 : ∀ A n c, q1 = .slice A n c → A = none → c = 0) (n2 : ∀ A n c, q2 = .slice A n c → A = none → c = 0) :
    Calls Tryd.prog 8 #[.agg #[v, u], .int .i64 s, q1, q2] w fun e w' => e = .returned (.bool true) ∧ Below w.heap.size w w' := by
  obtain ⟨A, cap, rfl, hml, hcm⟩ := id h
  obtain ⟨B, cbp, rfl, hol, hco⟩ := id k
  obtain ⟨A1, c1, rfl, hl1, hq1⟩ := id i1
  obtain ⟨A2, c2, rfl, hl2, hq2⟩ := id i2
  replace n1 := hid (n1 A1 _ c1 rfl)
  replace n2 := hid (n2 A2 _ c2 rfl)
  unfold big at hl1 hl2
  clear hcm hco hq1 hq2
  have b1 := bal (Below.refl _ w) (.cells #[.slice A m.length cap, .slice B o.length cbp] 24)
  have h1 := h.below b1
  have k1 := k.below b1
  have j1 := i1.below b1
  have j2 := i2.below b1
  obtain ⟨z1, z2, -, -⟩ := cells_two _ _ _ _ _ (World.alloc_heap_new w (.cells #[.slice A m.length cap, .slice B o.length cbp] 24))
  have hsz : w.heap.size < (w.alloc (.cells #[.slice A m.length cap, .slice B o.length cbp] 24)).heap.size := by simp
  have HA := hid (fun (W : World) (hb : Below w.heap.size w W) => awake7_any W (shaped_below hsh hb))
  go_enter Tryd.func8, Tryd.ntmps8
  go_wp2_with fail
  refine (Wide_any _ _ m o _ h1 k1).mono ?_
  rintro e w1 ⟨b, rfl, hb1⟩
  have B1 := btr b1 hb1
  cases b with
  | true =>
    go_wp2_with fail
    refine (HA.out w1 B1).mono ?_
    rintro e w2 ⟨rfl, hb2⟩
    go_wp2
    go_ret
    exact ⟨rfl, btr B1 hb2⟩
  | false =>
    by_cases g1 : (1000 : Int) < ul.length
    · have gb1 : decide ((1000 : Int) < ul.length) = true := by simpa using g1
      go_wp2_with fail
      refine (HA.out w1 B1).mono ?_
      rintro e w2 ⟨rfl, hb2⟩
      go_wp2
      go_ret
      exact ⟨rfl, btr B1 hb2⟩
    have gb1 : decide ((1000 : Int) < ul.length) = false := by simpa using g1
    by_cases g2 : (1000 : Int) < vl.length
    · have gb2 : decide ((1000 : Int) < vl.length) = true := by simpa using g2
      go_wp2_with fail
      refine (HA.out w1 B1).mono ?_
      rintro e w2 ⟨rfl, hb2⟩
      go_wp2
      go_ret
      exact ⟨rfl, btr B1 hb2⟩
    have gb2 : decide ((1000 : Int) < vl.length) = false := by simpa using g2
    have y1 := (hb1.cell (p := ⟨w.heap.size, 0, none⟩) hsz).trans z1
    have y2 := (hb1.cell (p := ⟨w.heap.size, 1, none⟩) hsz).trans z2
    have h2 := h1.below hb1
    have k2 := k1.below hb1
    have l1 := j1.below hb1
    have l2 := j2.below hb1
    have hs1 : w.heap.size < w1.heap.size := by have := hb1.size; omega
    clear h1 k1 j1 j2 z1 z2 hb1 b1 hsz
    go_wp2_with fail
    refine (RunY_any _ _ _ m o s ul w1 h2 k2 l1).mono ?_
    rintro e w2 ⟨r, t, n, rfl, hn, hb2, hn0, hn1⟩
    have B2 := btr B1 hb2
    by_cases hz : n = 0
    · subst hz
      obtain ⟨rfl, hown⟩ := hn1 rfl
      rcases chk_cases m o s ul with hc | hc | ⟨hc, hv, ⟨j, rfl, hj⟩, hw⟩
      · rw [hc] at hn; omega
      · rw [hc] at hn; omega
      rw [Int.toNat_natCast] at *
      have hlen1 : ul.length ≤ 1000 := by omega
      have hlen2 : vl.length ≤ 1000 := by omega
      have Hcode := hid (parts_code hv hj hw hlen1 hlen2)
      have x1 := (hb2.cell (p := ⟨w.heap.size, 0, none⟩) hs1).trans y1
      have x2 := (hb2.cell (p := ⟨w.heap.size, 1, none⟩) hs1).trans y2
      have h3 := h2.below hb2
      have k3 := k2.below hb2
      have m1 := l1.below hb2
      have m2 := l2.below hb2
      have I1 := outs_len j ul w2 hown (by omega)
      obtain ⟨rA, rc, rfl, hr0'⟩ := own_sl hown
      have hr0 := hid hr0'
      clear hr0'
      have hs2 : w.heap.size < w2.heap.size := by have := hb2.size; omega
      clear hn hn0 hn1 hown h2 k2 l1 l2 y1 y2 hb2 hc B1
      go_wp2_with fail
      refine (RunY_any _ _ _ m o _ vl w2 h3 k3 m2).mono ?_
      rintro e w3 ⟨r2, t2, n2', rfl, hn, hb3, hn0, hn1⟩
      have B3 := btr B2 hb3
      have x1 := (hb3.cell (p := ⟨w.heap.size, 0, none⟩) hs2).trans x1
      have x2 := (hb3.cell (p := ⟨w.heap.size, 1, none⟩) hs2).trans x2
      have h4 := h3.below hb3
      have k4 := k3.below hb3
      have m3 := m1.below hb3
      have m4 := m2.below hb3
      have I1 := I1.below hb3
      have hs3 : w.heap.size < w3.heap.size := by have := hb3.size; omega
      clear h3 k3 m1 m2 B2
      have hcs : ∃ A n k, r2 = .slice A n k := by
        by_cases hz : n2' = 0
        · obtain ⟨A, c, hA, _⟩ := own_sl (hn1 hz).2
          exact ⟨A, _, c, hA⟩
        · exact ⟨none, 0, 0, (hn0 hz).1⟩
      obtain ⟨A2', l2', k2', rfl⟩ := hcs
      have Hn := hid hn
      have Hn1 := hid hn1
      clear hn hn0 hn1
      have own0 := World.ownsRow_lit (base := w3.heap.size) (e := 3) (size := 1) w3.drew #[] 0 (Nat.le_refl _) (by unfold maxLen; omega) rfl
      have b0 := bal (below_dr w3 1) (.cells #[] 3)
      have hu5 := m3.below b0
      go_upto_region 7 with fail
      go_cut [15, 16, 17] from 51 to 61 (fun c q g wc => WholeIs m o j (ul ++ vl) w3 c q g wc)
      case first =>
        --B7
        refine wp_region_gen (fun i => ([some (.agg #[.slice A m.length cap, .slice B o.length cbp]), some (.int .i64 (j : Nat)), none, some (.slice A1 ul.length c1), none, some (.slice A2 vl.length c2), none, none, none, none, some (.int .i64 (if chkE m o (j : Nat) (ul ++ vl) = 0 then ((runM m j (ul ++ vl) : Nat) : Int) else 0)), some (.int .i64 (chkE m o (j : Nat) (ul ++ vl))), none, some (.int .i64 (if chkE m o (j : Nat) (ul ++ vl) = 0 then ((runM m j (ul ++ vl) : Nat) : Int) else 0)), some (.int .i64 (chkE m o (j : Nat) (ul ++ vl)))] : List (Option Value)).getD i none) [2, 4, 6, 7, 8, 9, 12] (StP m o j ul vl (if chkE m o (j : Nat) (ul ++ vl) = 0 then ((runM m j (ul ++ vl) : Nat) : Int) else 0) (chkE m o (j : Nat) (ul ++ vl)) w3) rfl (by kernel_rfl) (by kernel_rfl) (by kernel_rfl) ?_ ?_ ?_ ?_ ?_
        · intro i hi; simp only [List.mem_cons, List.mem_nil_iff, or_false] at hi; rcases hi with rfl | rfl | rfl | rfl | rfl | rfl | rfl <;> rfl
        · exact fun i z L u W hi h => StP.det i z L u W hi h
        · exact ⟨below_dr w3 1, fun h => (by cases h), fun h => (by cases h), fun h => (by cases h), fun h => (by cases h)⟩
        · refine ⟨?_, ?_, ?_, ?_, ?_, ?_, ?_, ?_, ?_, ?_, ?_, ?_, ?_, ?_, ?_, trivial⟩
          · intro L uu F W hL hst hclo hpre hold hnew hval
            have f4 : F.eval (.tmp 4) = .pointer (some ⟨w.heap.size, 0, none⟩) := (hold 4 (by kernel_rfl)).trans (by kernel_rfl)
            have q1 := (hst.be.cell (World.block_lt_of_cell? _ _ x1)).trans x1
            have q2 := (hst.be.cell (World.block_lt_of_cell? _ _ x2)).trans x2
            simp [Act.eval] at f4
            rw [if_neg (by decide)]
            exact ⟨_, rfl, rfl, by simp [execOp, go_sem, f4, q1, q2]⟩
          · intro L uu F W hL hst hclo hpre hold hnew hval
            have f1 : F.eval (.tmp 1) = .int .i64 (j : Nat) := (hold 1 (by kernel_rfl)).trans (by kernel_rfl)
            simp [Act.eval] at f1
            rw [if_neg (by decide)]
            exact ⟨_, rfl, rfl, by simp [execOp, go_sem, f1]⟩
          · intro L uu F W hL hst hclo hpre hold hnew hval
            rw [if_pos (by decide)]
            intro ops K hK
            have l4 := noL hclo (i := 2) (j := 4) (by kernel_rfl) hL
            have l6 := noL hclo (i := 2) (j := 6) (by kernel_rfl) hL
            have l7 := noL hclo (i := 2) (j := 7) (by kernel_rfl) hL
            have ow := World.ownsRow_lit (base := w3.heap.size) (e := 3) (size := 1) W #[] 0 hst.be.size (by unfold maxLen; omega) rfl
            refine op_run rfl (.slice (some ⟨W.heap.size, 0, none⟩) 0 0) (W.alloc (.cells #[] 3)) (by simp [execOp, go_sem]) (hK _ _ ⟨btr hst.be (bal (Below.refl _ W) _), fun _ _ => ?_, fun h => ?_, fun h => ?_, fun h => ?_⟩)
            · rw [updV_self]; exact ow
            · rw [updB_ne (by decide), l4] at h; cases h
            · rw [updB_ne (by decide), l6] at h; cases h
            · rw [updB_ne (by decide), l7] at h; cases h
          · intro L uu F W hL hst hclo hpre hold hnew hval
            have f2 : F.eval (.tmp 2) = .slice A1 ul.length c1 := (hold 2 (by kernel_rfl)).trans (by kernel_rfl)
            simp [Act.eval] at f2
            rw [if_neg (by decide)]
            exact ⟨_, rfl, rfl, by simp [execOp, go_sem, f2]⟩
          · intro L uu F W hL hst hclo hpre hold hnew hval
            have f53 : F.eval (.tmp 53) = uu 2 := hnew 2 53 (by kernel_rfl) (by kernel_rfl)
            have f54 : F.eval (.tmp 54) = .slice A1 ul.length c1 := (hnew 3 54 (by kernel_rfl) (by kernel_rfl)).trans (hval 3 _ rfl (hpre 3 (by kernel_rfl)))
            rw [if_pos (by decide)]
            intro ops K hK
            have l6 := noL hclo (i := 4) (j := 6) (by kernel_rfl) hL
            have l7 := noL hclo (i := 4) (j := 7) (by kernel_rfl) hL
            have ow := hst.b2 (hpre 2 (by kernel_rfl)) hL
            refine step_append_list rfl (.tmp 53) (.tmp 54) rfl w3.heap.size 0 (uu 2) [] A1 c1 ul f53 ow f54 n1.out (m3.below hst.be) hst.be.size (by omega) ?_
            intro v1 wa ho1 hb1
            rw [Nat.zero_add, List.nil_append] at ho1
            refine hK v1 wa ⟨hst.be.trans hb1, fun h h2 => ?_, fun _ _ => ?_, fun h => ?_, fun h => ?_⟩
            · rw [updB_self] at h2; cases h2
            · rw [updV_self]; exact ho1
            · rw [updB_ne (by decide), l6] at h; cases h
            · rw [updB_ne (by decide), l7] at h; cases h
          · intro L uu F W hL hst hclo hpre hold hnew hval
            have f3 : F.eval (.tmp 3) = .slice A2 vl.length c2 := (hold 3 (by kernel_rfl)).trans (by kernel_rfl)
            simp [Act.eval] at f3
            rw [if_neg (by decide)]
            exact ⟨_, rfl, rfl, by simp [execOp, go_sem, f3]⟩
          · intro L uu F W hL hst hclo hpre hold hnew hval
            have f55 : F.eval (.tmp 55) = uu 4 := hnew 4 55 (by kernel_rfl) (by kernel_rfl)
            have f56 : F.eval (.tmp 56) = .slice A2 vl.length c2 := (hnew 5 56 (by kernel_rfl) (by kernel_rfl)).trans (hval 5 _ rfl (hpre 5 (by kernel_rfl)))
            rw [if_pos (by decide)]
            intro ops K hK
            have l7 := noL hclo (i := 6) (j := 7) (by kernel_rfl) hL
            have l4 := hpre 4 (by kernel_rfl)
            have ow := hst.b4 l4 hL
            refine step_append_list rfl (.tmp 55) (.tmp 56) rfl w3.heap.size ul.length (uu 4) _ A2 c2 vl f55 ow f56 n2.out (m4.below hst.be) hst.be.size (by omega) ?_
            intro v1 wa ho1 hb1
            have hIw := Ints.of_own (l := ul ++ vl) (by simpa [List.map_append, List.length_append] using ho1) (by unfold big; rw [List.length_append]; omega)
            refine hK v1 wa ⟨hst.be.trans hb1, fun h h2 => ?_, fun h h2 => ?_, fun h => ?_, fun h => ?_⟩
            · rw [updB_ne (by decide), l4] at h2; cases h2
            · rw [updB_self] at h2; cases h2
            · rw [updV_self]; exact hIw
            · rw [updB_ne (by decide), l7] at h; cases h
          · intro L uu F W hL hst hclo hpre hold hnew hval
            have f51 : F.eval (.tmp 51) = .agg #[.slice A m.length cap, .slice B o.length cbp] := (hnew 0 51 (by kernel_rfl) (by kernel_rfl)).trans (hval 0 _ rfl (hpre 0 (by kernel_rfl)))
            have f52 : F.eval (.tmp 52) = .int .i64 (j : Nat) := (hnew 1 52 (by kernel_rfl) (by kernel_rfl)).trans (hval 1 _ rfl (hpre 1 (by kernel_rfl)))
            have f57 : F.eval (.tmp 57) = uu 6 := hnew 6 57 (by kernel_rfl) (by kernel_rfl)
            rw [if_pos (by decide)]
            intro ops K hK
            have l6 := hpre 6 (by kernel_rfl)
            have hIw := hst.b6 l6
            have l4 : L 4 = true := by
                cases h4 : L 4 with
                | true => rfl
                | false => rw [noL hclo (i := 4) (j := 6) (by kernel_rfl) h4] at l6; cases l6
            have l8 := noL hclo (i := 7) (j := 8) (by kernel_rfl) hL
            have l9 := noL hclo (i := 7) (j := 9) (by kernel_rfl) hL
            have l12 := noL hclo (i := 7) (j := 12) (by kernel_rfl) hL
            obtain ⟨A6, c6, e6, -⟩ := id hIw
            rw [e6] at f57 hIw
            simp [Act.eval] at f51 f52 f57
            refine op_call rfl 29 #[.agg #[.slice A m.length cap, .slice B o.length cbp], .int .i64 (j : Nat), .slice A6 (ul ++ vl).length c6] (by simp [execOp, go_sem, f51, f52, f57]) ?_
            refine (RunY_any _ _ _ m o (j : Nat) (ul ++ vl) W (h4.below hst.be) (k4.below hst.be) hIw).mono ?_
            rintro e wd ⟨r3, t3, n3, rfl, rfl, hb4, hn30, hn31⟩
            have hsl : ∃ A n k, r3 = .slice A n k := by
                by_cases hz : chkE m o (j : Nat) (ul ++ vl) = 0
                · obtain ⟨A, c, hA, _⟩ := own_sl (hn31 hz).2
                  exact ⟨A, _, c, hA⟩
                · exact ⟨none, 0, 0, (hn30 hz).1⟩
            obtain ⟨A9, n9, k9, rfl⟩ := hsl
            have ht3 : t3 = (if chkE m o (j : Nat) (ul ++ vl) = 0 then ((runM m j (ul ++ vl) : Nat) : Int) else 0) := by
                by_cases hz : chkE m o (j : Nat) (ul ++ vl) = 0
                · rw [if_pos hz, (hn31 hz).1, Int.toNat_natCast]
                · rw [if_neg hz]; exact (hn30 hz).2
            subst ht3
            refine ⟨_, rfl, hK _ _ ⟨btr hst.be hb4, fun h h2 => ?_, fun h h2 => ?_, fun h => ?_, fun _ => ⟨A9, n9, k9, by rw [updV_self], fun hz => ?_, fun h => ?_, fun h => ?_, fun h => ?_⟩⟩⟩
            · rw [updB_ne (by decide), l4] at h2; cases h2
            · rw [updB_ne (by decide), l6] at h2; cases h2
            · rw [updV_ne (by decide), e6]; exact hIw.below hb4
            · have := (hn31 hz).2; rw [Int.toNat_natCast] at this; exact outs_len j _ wd this (by rw [List.length_append]; omega)
            · rw [updB_ne (by decide), l8] at h; cases h
            · rw [updB_ne (by decide), l9] at h; cases h
            · rw [updB_ne (by decide), l12] at h; cases h
          · intro L uu F W hL hst hclo hpre hold hnew hval
            have f58 : F.eval (.tmp 58) = uu 7 := hnew 7 58 (by kernel_rfl) (by kernel_rfl)
            rw [if_pos (by decide)]
            intro ops K hK
            have l7 := hpre 7 (by kernel_rfl)
            have l9 := noL hclo (i := 8) (j := 9) (by kernel_rfl) hL
            have l12 := noL hclo (i := 8) (j := 12) (by kernel_rfl) hL
            obtain ⟨A9, n9, k9, e7, i7, -⟩ := hst.b7 l7
            rw [e7] at f58
            simp [Act.eval] at f58
            refine op_run rfl (.tuple #[.slice A9 n9 k9, .int .i64 (if chkE m o (j : Nat) (ul ++ vl) = 0 then ((runM m j (ul ++ vl) : Nat) : Int) else 0), .int .i64 (chkE m o (j : Nat) (ul ++ vl))]) W (by simp [execOp, go_sem, f58]) (hK _ _ ⟨hst.be, ?_, ?_, ?_, fun _ => ⟨A9, n9, k9, by rw [updV_ne (by decide)]; exact e7, i7, fun _ => ?_, fun h => ?_, fun h => ?_⟩⟩)
            · rw [updB_ne (by decide), updB_ne (by decide), updV_ne (by decide)]; exact hst.b2
            · rw [updB_ne (by decide), updB_ne (by decide), updV_ne (by decide)]; exact hst.b4
            · rw [updB_ne (by decide), updV_ne (by decide)]; exact hst.b6
            · rw [updV_self, updV_ne (by decide), e7]
            · rw [updB_ne (by decide), l9] at h; cases h
            · rw [updB_ne (by decide), l12] at h; cases h
          · intro L uu F W hL hst hclo hpre hold hnew hval
            have f50 : F.eval (.tmp 50) = uu 8 := hnew 8 50 (by kernel_rfl) (by kernel_rfl)
            rw [if_pos (by decide)]
            intro ops K hK
            have l8 := hpre 8 (by kernel_rfl)
            have l7 : L 7 = true := by
                cases h4 : L 7 with
                | true => rfl
                | false => rw [noL hclo (i := 7) (j := 8) (by kernel_rfl) h4] at l8; cases l8
            have l12 := noL hclo (i := 9) (j := 12) (by kernel_rfl) hL
            obtain ⟨A9, n9, k9, e7, i7, e8, -⟩ := hst.b7 l7
            rw [e8 l8, e7] at f50
            simp [Act.eval] at f50
            refine op_run rfl (.slice A9 n9 k9) W (by simp [execOp, go_sem, f50]) (hK _ _ ⟨hst.be, ?_, ?_, ?_, fun _ => ⟨A9, n9, k9, by rw [updV_ne (by decide)]; exact e7, i7, fun _ => ?_, fun h => ?_, fun h => ?_⟩⟩)
            · rw [updB_ne (by decide), updB_ne (by decide), updV_ne (by decide)]; exact hst.b2
            · rw [updB_ne (by decide), updB_ne (by decide), updV_ne (by decide)]; exact hst.b4
            · rw [updB_ne (by decide), updV_ne (by decide)]; exact hst.b6
            · rw [updV_ne (by decide), updV_ne (by decide)]; exact e8 l8
            · rw [updV_self]
            · rw [updB_ne (by decide), l12] at h; cases h
          · intro L uu F W hL hst hclo hpre hold hnew hval
            have f50 : F.eval (.tmp 50) = uu 8 := hnew 8 50 (by kernel_rfl) (by kernel_rfl)
            have l8 := hpre 8 (by kernel_rfl)
            have l7 : L 7 = true := by
                cases h4 : L 7 with
                | true => rfl
                | false => rw [noL hclo (i := 7) (j := 8) (by kernel_rfl) h4] at l8; cases l8
            obtain ⟨A9, n9, k9, e7, i7, e8, -⟩ := hst.b7 l7
            rw [e8 l8, e7] at f50
            simp [Act.eval] at f50
            rw [if_neg (by decide)]
            exact ⟨_, rfl, rfl, by simp [execOp, go_sem, f50]⟩
          · intro L uu F W hL hst hclo hpre hold hnew hval
            have f50 : F.eval (.tmp 50) = uu 8 := hnew 8 50 (by kernel_rfl) (by kernel_rfl)
            have l8 := hpre 8 (by kernel_rfl)
            have l7 : L 7 = true := by
                cases h4 : L 7 with
                | true => rfl
                | false => rw [noL hclo (i := 7) (j := 8) (by kernel_rfl) h4] at l8; cases l8
            obtain ⟨A9, n9, k9, e7, i7, e8, -⟩ := hst.b7 l7
            rw [e8 l8, e7] at f50
            simp [Act.eval] at f50
            rw [if_neg (by decide)]
            exact ⟨_, rfl, rfl, by simp [execOp, go_sem, f50]⟩
          · intro L uu F W hL hst hclo hpre hold hnew hval
            have f59 : F.eval (.tmp 59) = uu 9 := hnew 9 59 (by kernel_rfl) (by kernel_rfl)
            rw [if_pos (by decide)]
            intro ops K hK
            have l9 := hpre 9 (by kernel_rfl)
            have l7 : L 7 = true := by
                cases h4 : L 7 with
                | true => rfl
                | false => rw [noL hclo (i := 7) (j := 9) (by kernel_rfl) h4] at l9; cases l9
            obtain ⟨A9, n9, k9, e7, i7, e8, e9, -⟩ := hst.b7 l7
            rw [e9 l9] at f59
            simp [Act.eval] at f59
            refine op_run rfl (.slice A9 n9 k9) W (by simp [execOp, go_sem, f59]) (hK _ _ ⟨hst.be, ?_, ?_, ?_, fun _ => ⟨A9, n9, k9, by rw [updV_ne (by decide)]; exact e7, i7, ?_, ?_, fun h => ?_⟩⟩)
            · rw [updB_ne (by decide), updB_ne (by decide), updV_ne (by decide)]; exact hst.b2
            · rw [updB_ne (by decide), updB_ne (by decide), updV_ne (by decide)]; exact hst.b4
            · rw [updB_ne (by decide), updV_ne (by decide)]; exact hst.b6
            · rw [updB_ne (by decide), updV_ne (by decide), updV_ne (by decide)]; exact e8
            · rw [updB_ne (by decide), updV_ne (by decide)]; exact e9
            · rw [updV_self]
          · intro L uu F W hL hst hclo hpre hold hnew hval
            have f60 : F.eval (.tmp 60) = .int .i64 (if chkE m o (j : Nat) (ul ++ vl) = 0 then ((runM m j (ul ++ vl) : Nat) : Int) else 0) := (hnew 10 60 (by kernel_rfl) (by kernel_rfl)).trans (hval 10 _ rfl (hpre 10 (by kernel_rfl)))
            simp [Act.eval] at f60
            rw [if_neg (by decide)]
            exact ⟨_, rfl, rfl, by simp [execOp, go_sem, f60]⟩
          · intro L uu F W hL hst hclo hpre hold hnew hval
            have f61 : F.eval (.tmp 61) = .int .i64 (chkE m o (j : Nat) (ul ++ vl)) := (hnew 11 61 (by kernel_rfl) (by kernel_rfl)).trans (hval 11 _ rfl (hpre 11 (by kernel_rfl)))
            simp [Act.eval] at f61
            rw [if_neg (by decide)]
            exact ⟨_, rfl, rfl, by simp [execOp, go_sem, f61]⟩
        · intro L uu W hall hst hval
          obtain ⟨A9, n9, k9, e7, i7, -, -, e12⟩ := hst.b7 (hall 7 (by decide))
          have v12 := e12 (hall 12 (by decide))
          have v13 := hval 13 _ rfl (by decide)
          have v14 := hval 14 _ rfl (by decide)
          have hfin : WholeIs m o j (ul ++ vl) w3 (uu 12) (uu 13) (uu 14) W := ⟨A9, n9, k9, _, v12, v13, v14, hst.be, fun hz => ⟨by rw [if_pos hz], i7 hz⟩⟩
          clear hst hall hval e12 v12 v13 v14 e7 i7
          simp only [framedFrom, Act.put, List.setIfInBounds_toArray, List.set_cons_succ, List.set_cons_zero]
          go_wp2_with fail
          go_meet
          exact hfin
      case rest =>
        obtain ⟨w4, rfl⟩ : ∃ w4 : World, w4 = wc := ⟨_, rfl⟩
        obtain ⟨A9, n9, k9, t9, rfl, rfl, rfl, hb4, h9⟩ := hcut
        have B4 := btr B3 hb4
        by_cases hf : n2' = 0
        · have hcode0 : chkE m o (j : Nat) (ul ++ vl) = 0 := by rw [Hcode.out, ← Hn.out]; exact hf
          obtain ⟨rfl, i9⟩ := h9 hcode0
          subst hf
          obtain ⟨rfl, own2⟩ := Hn1.out rfl
          have I2 := outs_len (runM m j ul) vl w3 own2 (by omega)
          rw [Int.toNat_natCast] at *
          have hrun : runM m j (ul ++ vl) = runM m (runM m j ul) vl := runM_appendY m j ul vl
          have houts : outsM m o j (ul ++ vl) = outsM m o j ul ++ outsM m o (runM m j ul) vl := outsM_append m o ul vl j
          obtain ⟨_, c2', hsl2, hr2'⟩ := own_sl own2
          cases hsl2
          have hr2 := hid hr2'
          clear hr2'
          have hlo1 : (outsM m o j ul).length = ul.length := outsM_length m o ul j
          have hlo2 : (outsM m o (runM m j ul) vl).length = vl.length := outsM_length m o vl _
          rw [hcode0, hrun]
          rw [houts] at i9
          have i9 := hid i9
          have J1 := hid (I1.below hb4)
          have J2 := hid (I2.below hb4)
          generalize hg1 : outsM m o j ul = O1 at *
          generalize hg2 : outsM m o (runM m j ul) vl = O2 at *
          have Hlo1 := hid hlo1
          have Hlo2 := hid hlo2
          have hO1 : O1.length ≤ 1000 := by omega
          have hO2 : O2.length ≤ 1000 := by omega
          have K1 : Ints (w4.alloc (.cells #[] 3)) (.slice rA O1.length rc) O1 := by rw [Hlo1.out]; exact J1.out.below (bal (Below.refl _ w4) _)
          have own0 := World.ownsRow_lit (base := w4.heap.size) (e := 3) (size := 1) w4 #[] 0 (Nat.le_refl _) (by unfold maxLen; omega) rfl
          have b0 := bal (Below.refl _ w4) (.cells #[] 3)
          clear hcode0 hrun houts own2 Hn1 Hn h9 hlo1 hlo2 hg1 hg2 I1 I2 Hcode
          have K2 := hid (show ∀ wz, Below w4.heap.size w4 wz → Ints wz (.slice A2' O2.length k2') O2 from fun wz hz => by rw [Hlo2.out]; exact J2.out.below hz)
          go_wp2_with (first
            | (at_builtin; refine wpList_append_list_w (by rfl) (.tmp 78) (.tmp 79) rfl w4.heap.size 0 _ [] rA rc O1 rfl own0 (by show _ = Value.slice rA O1.length rc; rw [Hlo1.out]; rfl) hr0.out K1 (by simp) (by omega) ?_; intro v1 wa ho1 hb1; rw [Nat.zero_add, List.nil_append] at ho1; obtain ⟨av, cv, rfl, -⟩ := own_sl ho1)
            | (at_builtin; refine wpList_append_list_w (by rfl) (.tmp 80) (.tmp 81) rfl w4.heap.size _ _ _ A2' k2' O2 rfl ho1 (by show _ = Value.slice A2' O2.length k2'; rw [Hlo2.out]; rfl) hr2.out (K2.out wa (b0.trans hb1)) (by have := hb1.size; simp at this; omega) (by omega) ?_; intro v2 wb ho2 hb2))
          have ho2 : wb.ownsRow w4.heap.size 3 1 v2 (O1 ++ O2).length ((O1 ++ O2).map fun x => .int .i64 x) := by simpa [List.map_append, List.length_append] using ho2
          have hIw := Ints.of_own ho2 (by unfold big; rw [List.length_append]; omega)
          have hbb := b0.trans (hb1.trans hb2)
          obtain ⟨bv, dv, rfl, -⟩ := own_sl ho2
          clear ho1 ho2
          go_wp2_with fail
          refine (rSame7_is _ _ (O1 ++ O2) (O1 ++ O2) true wb hIw (i9.out.below hbb) (by simp)).mono ?_
          rintro e w5 ⟨rfl, hb5⟩
          have B5 := btr (btr B4 hbb) hb5
          go_wp2_with fail
          refine (HA.out w5 B5).mono ?_
          rintro e w6 ⟨rfl, hb6⟩
          go_wp2
          go_ret
          exact ⟨rfl, btr B5 hb6⟩
        · have hne : (n2' != 0) = true := by simpa using hf
          have heq : (n2' == chkE m o (j : Nat) (ul ++ vl)) = true := by rw [Hcode.out, ← Hn.out]; simp
          generalize chkE m o (j : Nat) (ul ++ vl) = g9 at *
          clear h9 Hn Hcode Hn1
          go_wp2_with fail
          refine (HA.out w4 B4).mono ?_
          rintro e w5 ⟨rfl, hb5⟩
          go_wp2
          go_ret
          exact ⟨rfl, btr B4 hb5⟩
    · have hne : (n != 0) = true := by simpa using hz
      obtain ⟨rfl, rfl⟩ := hn0 hz
      clear hn hz
      go_wp2_with fail
      refine (HA.out w2 B2).mono ?_
      rintro e w3 ⟨rfl, hb3⟩
      go_wp2
      go_ret
      exact ⟨rfl, btr B2 hb3⟩
end Go.Proofs.YtbhhemidnmaodaaDoor
