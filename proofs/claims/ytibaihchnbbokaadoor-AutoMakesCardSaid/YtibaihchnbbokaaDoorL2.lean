/-
  The law of parts of words.
-/
import Derived.Test.YtibaihchnbbokaaDoorP4
import Derived.Test.YtibaihchnbbokaaDoorR3
import Derived.Test.YtibaihchnbbokaaDoorL1
import Derived.Maps.AppendAt
import Derived.Laws.AppendOwnNone
namespace Go.Proofs.YtibaihchnbbokaaDoor
open Go.RowKit Go.Shelf

theorem ints_at {W : World} {ad : Addr} {n c : Nat} {l : List Int} (h : Ints W (.slice (some ad) n c) l) : ∀ j u, (l.map fun x => Value.int .i64 x)[j]? = some u → W.cell? (ad.add j) = some u := by
  intro j u hu
  obtain ⟨A, cap, hv, _, hc⟩ := h
  have hj : j < l.length := by
    have := (List.getElem?_eq_some_iff.1 hu).1
    simpa using this
  obtain ⟨b, off, hA, hcell⟩ := hc j hj
  simp only [Value.slice.injEq] at hv
  obtain ⟨rfl, -, -⟩ := hv
  cases hA
  have e : (⟨b, off, none⟩ : Addr).add j = ⟨b, off + j, none⟩ := by
    by_cases h0 : j = 0
    · subst h0; simp [Addr.add]
    · simp [Addr.add, h0]
  rw [e, hcell]
  simp only [List.getElem?_map, List.getElem?_eq_getElem hj, Option.map_some, Option.some.injEq] at hu
  rw [← hu, getD_elem l j hj]

/-- 'append(row, list...)', the list nil or not. -/
theorem wpList_append_list {w : World} {ops : Array Oper} {rest : List Oper} {o : Oper} {a : Act} {Q : Exit → Act → World → Prop} (hgd : o.guard = none) (s x : Operand)
    (ho : o.op = .call { callee := .builtin .append, args := #[s, x], argTypes := #[25, 25] }) (base n : Nat) (v : Value) (xs : List Value) (ao : Option Addr) (c : Nat) (l : List Int)
    (hs : a.eval s = v) (hown : w.ownsRow base 3 1 v n xs) (hx : a.eval x = .slice ao l.length c) (hc : ao = none → c = 0) (hI : Ints w (.slice ao l.length c) l) (hb : base ≤ w.heap.size) (hlen : n + l.length ≤ 100000)
    (h : ∀ v' w', w'.ownsRow base 3 1 v' (n + l.length) (xs ++ l.map fun x => .int .i64 x) → Below base w w' → wpList Tryd.prog ops Q rest (a.put o.dst v') w') :
    wpList Tryd.prog ops Q (o :: rest) a w := by
  obtain ⟨j0, hj, hy0, hy1, hy2⟩ := info_parts infoInt
  cases ao with
  | none =>
    obtain rfl := hc rfl
    have hl : l = [] := by
      obtain ⟨A, cap, hv, _, hcc⟩ := hI
      cases l with
      | nil => rfl
      | cons y l =>
        obtain ⟨b, off, hA, _⟩ := hcc 0 (by simp)
        simp only [Value.slice.injEq] at hv
        rw [← hv.1] at hA
        cases hA
    subst hl
    refine wpList_append_own_none hgd s x 25 ho base 3 j0 1 Tryd.underlying25 hj v n xs hs hown hx ?_
    exact h v w (by simpa using hown) (Below.refl _ _)
  | some ad =>
    refine wpList_append_own_at w hgd s x 25 ho base 3 j0 (.int .i64 0) 1 8 Tryd.underlying25 hj hy0 hy1 hy2 rfl (by decide) v n xs hs hown ad l.length c (l.map fun x => .int .i64 x) hx (by simp) (ints_at hI) (by simp [Value.oneCell']) (by unfold maxLen; omega) (by omega) hb ?_
    intro v' w' h1 h2 _ _
    refine h v' w' h1 ((Below.refl _ _).grown h2 hb (fun k hk => ?_))
    rcases hown.2 with ⟨rfl, _⟩ | ⟨g, cap, cur, rfl, hg, _⟩
    · cases hk
    · cases hk; exact hg

set_option maxRecDepth 100000 in
set_option maxHeartbeats 2000000 in
theorem parts_valid (v s1 u1 u2 : Value) (m : List (List Int)) (s : Int) (sl ul vl : List Int) (w : World) (hsh : w.ShapedOpen Tryd.prog) (hT : Tab w) (h : Rows w v m) (hs1 : Ints w s1 sl) (hu1 : Ints w u1 ul) (hu2 : Ints w u2 vl)
     (hv : validM m = false) :
    Calls Tryd.prog 7 #[.agg #[v], .int .i64 s, s1, u1, u2] w fun e w' => e = .returned (.bool true) ∧ Below w.heap.size w w' := by
  obtain ⟨A, cap, rfl, _⟩ := id h
  obtain ⟨As, caps, rfl, hl0, _⟩ := id hs1
  obtain ⟨Au, capu, rfl, hl1, _⟩ := id hu1
  obtain ⟨Av, capv, rfl, hl2, _⟩ := id hu2
  unfold big at hl0 hl1 hl2
  have hX := bal (Below.refl _ w) (.cells #[.slice A m.length cap] 24)
  have hbx : (w.alloc (.cells #[.slice A m.length cap] 24)).cell? ⟨w.heap.size, 0, none⟩ = some (.slice A m.length cap) := by simp
  have Hx := hid hX
  go_enter Tryd.func7, Tryd.ntmps7
  go_wp2_with fail
  generalize hWX : w.alloc (.cells #[.slice A m.length cap] 24) = X at *
  clear hX hWX
  have hX := Hx.out
  have hlt : w.heap.size < X.heap.size := World.block_lt_of_cell? _ _ hbx
  have hr := h.below hX
  have hs := hs1.below hX
  have hu := hu1.below hX
  have hvv := hu2.below hX
  have B0 := Below.refl X.heap.size X
  refine (rValid_bool _ m false _ (hr.below B0) hv).mono ?_
  rintro e w1 ⟨rfl, h1⟩
  have B1 := btr B0 h1
  have c1 := (B1.cell (p := ⟨w.heap.size, 0, none⟩) hlt).trans hbx
  go_wp2_with fail
  refine (awake_any _ (shaped_below hsh (btr hX B1)) (hT.on (btr hX B1))).mono ?_
  rintro e wz ⟨rfl, hz⟩
  go_wp2
  go_ret
  exact ⟨rfl, btr (btr hX B1) hz⟩

set_option maxRecDepth 100000 in
set_option maxHeartbeats 2000000 in
theorem parts_state (v s1 u1 u2 : Value) (m : List (List Int)) (s : Int) (sl ul vl : List Int) (w : World) (hsh : w.ShapedOpen Tryd.prog) (hT : Tab w) (h : Rows w v m) (hs1 : Ints w s1 sl) (hu1 : Ints w u1 ul) (hu2 : Ints w u2 vl)
    (hv : validM m = true) (hst : stateM m s = false) :
    Calls Tryd.prog 7 #[.agg #[v], .int .i64 s, s1, u1, u2] w fun e w' => e = .returned (.bool true) ∧ Below w.heap.size w w' := by
  obtain ⟨A, cap, rfl, _⟩ := id h
  obtain ⟨As, caps, rfl, hl0, _⟩ := id hs1
  obtain ⟨Au, capu, rfl, hl1, _⟩ := id hu1
  obtain ⟨Av, capv, rfl, hl2, _⟩ := id hu2
  unfold big at hl0 hl1 hl2
  have hX := bal (Below.refl _ w) (.cells #[.slice A m.length cap] 24)
  have hbx : (w.alloc (.cells #[.slice A m.length cap] 24)).cell? ⟨w.heap.size, 0, none⟩ = some (.slice A m.length cap) := by simp
  have Hx := hid hX
  go_enter Tryd.func7, Tryd.ntmps7
  go_wp2_with fail
  generalize hWX : w.alloc (.cells #[.slice A m.length cap] 24) = X at *
  clear hX hWX
  have hX := Hx.out
  have hlt : w.heap.size < X.heap.size := World.block_lt_of_cell? _ _ hbx
  have hr := h.below hX
  have hs := hs1.below hX
  have hu := hu1.below hX
  have hvv := hu2.below hX
  have B0 := Below.refl X.heap.size X
  refine (rValid_bool _ m true _ (hr.below B0) hv).mono ?_
  rintro e w1 ⟨rfl, h1⟩
  have B1 := btr B0 h1
  have c1 := (B1.cell (p := ⟨w.heap.size, 0, none⟩) hlt).trans hbx
  go_wp2_with fail
  refine (rState_bool _ m _ false _ (hr.below B1) hst).mono ?_
  rintro e w2 ⟨rfl, h2⟩
  have B2 := btr B1 h2
  have c2 := (B2.cell (p := ⟨w.heap.size, 0, none⟩) hlt).trans hbx
  go_wp2_with fail
  refine (awake_any _ (shaped_below hsh (btr hX B2)) (hT.on (btr hX B2))).mono ?_
  rintro e wz ⟨rfl, hz⟩
  go_wp2
  go_ret
  exact ⟨rfl, btr (btr hX B2) hz⟩

set_option maxRecDepth 100000 in
set_option maxHeartbeats 2000000 in
theorem parts_set (v s1 u1 u2 : Value) (m : List (List Int)) (s : Int) (sl ul vl : List Int) (w : World) (hsh : w.ShapedOpen Tryd.prog) (hT : Tab w) (h : Rows w v m) (hs1 : Ints w s1 sl) (hu1 : Ints w u1 ul) (hu2 : Ints w u2 vl)
    (hv : validM m = true) (hst : stateM m s = true) (hse : isSetM m sl = false) :
    Calls Tryd.prog 7 #[.agg #[v], .int .i64 s, s1, u1, u2] w fun e w' => e = .returned (.bool true) ∧ Below w.heap.size w w' := by
  obtain ⟨A, cap, rfl, _⟩ := id h
  obtain ⟨As, caps, rfl, hl0, _⟩ := id hs1
  obtain ⟨Au, capu, rfl, hl1, _⟩ := id hu1
  obtain ⟨Av, capv, rfl, hl2, _⟩ := id hu2
  unfold big at hl0 hl1 hl2
  have hX := bal (Below.refl _ w) (.cells #[.slice A m.length cap] 24)
  have hbx : (w.alloc (.cells #[.slice A m.length cap] 24)).cell? ⟨w.heap.size, 0, none⟩ = some (.slice A m.length cap) := by simp
  have Hx := hid hX
  go_enter Tryd.func7, Tryd.ntmps7
  go_wp2_with fail
  generalize hWX : w.alloc (.cells #[.slice A m.length cap] 24) = X at *
  clear hX hWX
  have hX := Hx.out
  have hlt : w.heap.size < X.heap.size := World.block_lt_of_cell? _ _ hbx
  have hr := h.below hX
  have hs := hs1.below hX
  have hu := hu1.below hX
  have hvv := hu2.below hX
  have B0 := Below.refl X.heap.size X
  refine (rValid_bool _ m true _ (hr.below B0) hv).mono ?_
  rintro e w1 ⟨rfl, h1⟩
  have B1 := btr B0 h1
  have c1 := (B1.cell (p := ⟨w.heap.size, 0, none⟩) hlt).trans hbx
  go_wp2_with fail
  refine (rState_bool _ m _ true _ (hr.below B1) hst).mono ?_
  rintro e w2 ⟨rfl, h2⟩
  have B2 := btr B1 h2
  have c2 := (B2.cell (p := ⟨w.heap.size, 0, none⟩) hlt).trans hbx
  go_wp2_with fail
  refine (rSet_bool _ _ m sl false _ (hr.below B2) (hs.below B2) hse).mono ?_
  rintro e w3 ⟨rfl, h3⟩
  have B3 := btr B2 h3
  have c3 := (B3.cell (p := ⟨w.heap.size, 0, none⟩) hlt).trans hbx
  go_wp2_with fail
  refine (awake_any _ (shaped_below hsh (btr hX B3)) (hT.on (btr hX B3))).mono ?_
  rintro e wz ⟨rfl, hz⟩
  go_wp2
  go_ret
  exact ⟨rfl, btr (btr hX B3) hz⟩

set_option maxRecDepth 100000 in
set_option maxHeartbeats 2000000 in
theorem parts_u (v s1 u1 u2 : Value) (m : List (List Int)) (s : Int) (sl ul vl : List Int) (w : World) (hsh : w.ShapedOpen Tryd.prog) (hT : Tab w) (h : Rows w v m) (hs1 : Ints w s1 sl) (hu1 : Ints w u1 ul) (hu2 : Ints w u2 vl)
    (hv : validM m = true) (hst : stateM m s = true) (hse : isSetM m sl = true) (hwu : isWordM m ul = false) :
    Calls Tryd.prog 7 #[.agg #[v], .int .i64 s, s1, u1, u2] w fun e w' => e = .returned (.bool true) ∧ Below w.heap.size w w' := by
  obtain ⟨A, cap, rfl, _⟩ := id h
  obtain ⟨As, caps, rfl, hl0, _⟩ := id hs1
  obtain ⟨Au, capu, rfl, hl1, _⟩ := id hu1
  obtain ⟨Av, capv, rfl, hl2, _⟩ := id hu2
  unfold big at hl0 hl1 hl2
  have hX := bal (Below.refl _ w) (.cells #[.slice A m.length cap] 24)
  have hbx : (w.alloc (.cells #[.slice A m.length cap] 24)).cell? ⟨w.heap.size, 0, none⟩ = some (.slice A m.length cap) := by simp
  have Hx := hid hX
  go_enter Tryd.func7, Tryd.ntmps7
  go_wp2_with fail
  generalize hWX : w.alloc (.cells #[.slice A m.length cap] 24) = X at *
  clear hX hWX
  have hX := Hx.out
  have hlt : w.heap.size < X.heap.size := World.block_lt_of_cell? _ _ hbx
  have hr := h.below hX
  have hs := hs1.below hX
  have hu := hu1.below hX
  have hvv := hu2.below hX
  have B0 := Below.refl X.heap.size X
  refine (rValid_bool _ m true _ (hr.below B0) hv).mono ?_
  rintro e w1 ⟨rfl, h1⟩
  have B1 := btr B0 h1
  have c1 := (B1.cell (p := ⟨w.heap.size, 0, none⟩) hlt).trans hbx
  go_wp2_with fail
  refine (rState_bool _ m _ true _ (hr.below B1) hst).mono ?_
  rintro e w2 ⟨rfl, h2⟩
  have B2 := btr B1 h2
  have c2 := (B2.cell (p := ⟨w.heap.size, 0, none⟩) hlt).trans hbx
  go_wp2_with fail
  refine (rSet_bool _ _ m sl true _ (hr.below B2) (hs.below B2) hse).mono ?_
  rintro e w3 ⟨rfl, h3⟩
  have B3 := btr B2 h3
  have c3 := (B3.cell (p := ⟨w.heap.size, 0, none⟩) hlt).trans hbx
  go_wp2_with fail
  refine (rWord_bool _ _ m ul false _ (hr.below B3) hv (hu.below B3) hwu).mono ?_
  rintro e w4 ⟨rfl, h4⟩
  have B4 := btr B3 h4
  have c4 := (B4.cell (p := ⟨w.heap.size, 0, none⟩) hlt).trans hbx
  go_wp2_with fail
  refine (awake_any _ (shaped_below hsh (btr hX B4)) (hT.on (btr hX B4))).mono ?_
  rintro e wz ⟨rfl, hz⟩
  go_wp2
  go_ret
  exact ⟨rfl, btr (btr hX B4) hz⟩

set_option maxRecDepth 100000 in
set_option maxHeartbeats 2000000 in
theorem parts_v (v s1 u1 u2 : Value) (m : List (List Int)) (s : Int) (sl ul vl : List Int) (w : World) (hsh : w.ShapedOpen Tryd.prog) (hT : Tab w) (h : Rows w v m) (hs1 : Ints w s1 sl) (hu1 : Ints w u1 ul) (hu2 : Ints w u2 vl)
    (hv : validM m = true) (hst : stateM m s = true) (hse : isSetM m sl = true) (hwu : isWordM m ul = true) (hwv : isWordM m vl = false) :
    Calls Tryd.prog 7 #[.agg #[v], .int .i64 s, s1, u1, u2] w fun e w' => e = .returned (.bool true) ∧ Below w.heap.size w w' := by
  obtain ⟨A, cap, rfl, _⟩ := id h
  obtain ⟨As, caps, rfl, hl0, _⟩ := id hs1
  obtain ⟨Au, capu, rfl, hl1, _⟩ := id hu1
  obtain ⟨Av, capv, rfl, hl2, _⟩ := id hu2
  unfold big at hl0 hl1 hl2
  have hX := bal (Below.refl _ w) (.cells #[.slice A m.length cap] 24)
  have hbx : (w.alloc (.cells #[.slice A m.length cap] 24)).cell? ⟨w.heap.size, 0, none⟩ = some (.slice A m.length cap) := by simp
  have Hx := hid hX
  go_enter Tryd.func7, Tryd.ntmps7
  go_wp2_with fail
  generalize hWX : w.alloc (.cells #[.slice A m.length cap] 24) = X at *
  clear hX hWX
  have hX := Hx.out
  have hlt : w.heap.size < X.heap.size := World.block_lt_of_cell? _ _ hbx
  have hr := h.below hX
  have hs := hs1.below hX
  have hu := hu1.below hX
  have hvv := hu2.below hX
  have B0 := Below.refl X.heap.size X
  refine (rValid_bool _ m true _ (hr.below B0) hv).mono ?_
  rintro e w1 ⟨rfl, h1⟩
  have B1 := btr B0 h1
  have c1 := (B1.cell (p := ⟨w.heap.size, 0, none⟩) hlt).trans hbx
  go_wp2_with fail
  refine (rState_bool _ m _ true _ (hr.below B1) hst).mono ?_
  rintro e w2 ⟨rfl, h2⟩
  have B2 := btr B1 h2
  have c2 := (B2.cell (p := ⟨w.heap.size, 0, none⟩) hlt).trans hbx
  go_wp2_with fail
  refine (rSet_bool _ _ m sl true _ (hr.below B2) (hs.below B2) hse).mono ?_
  rintro e w3 ⟨rfl, h3⟩
  have B3 := btr B2 h3
  have c3 := (B3.cell (p := ⟨w.heap.size, 0, none⟩) hlt).trans hbx
  go_wp2_with fail
  refine (rWord_bool _ _ m ul true _ (hr.below B3) hv (hu.below B3) hwu).mono ?_
  rintro e w4 ⟨rfl, h4⟩
  have B4 := btr B3 h4
  have c4 := (B4.cell (p := ⟨w.heap.size, 0, none⟩) hlt).trans hbx
  go_wp2_with fail
  refine (rWord_bool _ _ m vl false _ (hr.below B4) hv (hvv.below B4) hwv).mono ?_
  rintro e w5 ⟨rfl, h5⟩
  have B5 := btr B4 h5
  have c5 := (B5.cell (p := ⟨w.heap.size, 0, none⟩) hlt).trans hbx
  go_wp2_with fail
  refine (awake_any _ (shaped_below hsh (btr hX B5)) (hT.on (btr hX B5))).mono ?_
  rintro e wz ⟨rfl, hz⟩
  go_wp2
  go_ret
  exact ⟨rfl, btr (btr hX B5) hz⟩

set_option maxRecDepth 100000 in
set_option maxHeartbeats 2000000 in
theorem parts_long (v s1 u1 u2 : Value) (m : List (List Int)) (s : Int) (sl ul vl : List Int) (w : World) (hsh : w.ShapedOpen Tryd.prog) (hT : Tab w) (h : Rows w v m) (hs1 : Ints w s1 sl) (hu1 : Ints w u1 ul) (hu2 : Ints w u2 vl)
    (hv : validM m = true) (hst : stateM m s = true) (hse : isSetM m sl = true) (hwu : isWordM m ul = true) (hwv : isWordM m vl = true) (hlong : 40000 < ul.length + vl.length) :
    Calls Tryd.prog 7 #[.agg #[v], .int .i64 s, s1, u1, u2] w fun e w' => e = .returned (.bool true) ∧ Below w.heap.size w w' := by
  obtain ⟨A, cap, rfl, _⟩ := id h
  obtain ⟨As, caps, rfl, hl0, _⟩ := id hs1
  obtain ⟨Au, capu, rfl, hl1, _⟩ := id hu1
  obtain ⟨Av, capv, rfl, hl2, _⟩ := id hu2
  unfold big at hl0 hl1 hl2
  have hX := bal (Below.refl _ w) (.cells #[.slice A m.length cap] 24)
  have hbx : (w.alloc (.cells #[.slice A m.length cap] 24)).cell? ⟨w.heap.size, 0, none⟩ = some (.slice A m.length cap) := by simp
  have Hx := hid hX
  have hd : decide ((40000 : Int) < (ul.length : Int) + vl.length) = true := by simp; omega
  have hw1 : IntKind.i64.wrap ((ul.length : Int) + vl.length) = (ul.length : Int) + vl.length := by rw [IntKind.wrap_i64]; omega
  go_enter Tryd.func7, Tryd.ntmps7
  go_wp2_with fail
  generalize hWX : w.alloc (.cells #[.slice A m.length cap] 24) = X at *
  clear hX hWX
  have hX := Hx.out
  have hlt : w.heap.size < X.heap.size := World.block_lt_of_cell? _ _ hbx
  have hr := h.below hX
  have hs := hs1.below hX
  have hu := hu1.below hX
  have hvv := hu2.below hX
  have B0 := Below.refl X.heap.size X
  refine (rValid_bool _ m true _ (hr.below B0) hv).mono ?_
  rintro e w1 ⟨rfl, h1⟩
  have B1 := btr B0 h1
  have c1 := (B1.cell (p := ⟨w.heap.size, 0, none⟩) hlt).trans hbx
  go_wp2_with fail
  refine (rState_bool _ m _ true _ (hr.below B1) hst).mono ?_
  rintro e w2 ⟨rfl, h2⟩
  have B2 := btr B1 h2
  have c2 := (B2.cell (p := ⟨w.heap.size, 0, none⟩) hlt).trans hbx
  go_wp2_with fail
  refine (rSet_bool _ _ m sl true _ (hr.below B2) (hs.below B2) hse).mono ?_
  rintro e w3 ⟨rfl, h3⟩
  have B3 := btr B2 h3
  have c3 := (B3.cell (p := ⟨w.heap.size, 0, none⟩) hlt).trans hbx
  go_wp2_with fail
  refine (rWord_bool _ _ m ul true _ (hr.below B3) hv (hu.below B3) hwu).mono ?_
  rintro e w4 ⟨rfl, h4⟩
  have B4 := btr B3 h4
  have c4 := (B4.cell (p := ⟨w.heap.size, 0, none⟩) hlt).trans hbx
  go_wp2_with fail
  refine (rWord_bool _ _ m vl true _ (hr.below B4) hv (hvv.below B4) hwv).mono ?_
  rintro e w5 ⟨rfl, h5⟩
  have B5 := btr B4 h5
  have c5 := (B5.cell (p := ⟨w.heap.size, 0, none⟩) hlt).trans hbx
  go_wp2_with fail
  refine (awake_any _ (shaped_below hsh (btr hX B5)) (hT.on (btr hX B5))).mono ?_
  rintro e wz ⟨rfl, hz⟩
  go_wp2
  go_ret
  exact ⟨rfl, btr (btr hX B5) hz⟩

end Go.Proofs.YtibaihchnbbokaaDoor
