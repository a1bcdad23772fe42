/-
  The reference: powers of automata. Rows of rows that the call owns, each of which grows in turn.
-/
import Derived.Test.YtibaihchnbbokaaDoorR8
import Derived.Test.YtibaihchnbbokaaDoorM2
namespace Go.Proofs.YtibaihchnbbokaaDoor
open Go.RowKit Go.Shelf

/-- A row of rows, all of them the call's own, no two in one block; P: what is known of the rows' blocks. -/
structure Jag (W : World) (base Z n cap : Nat) (xs : List Value) (L : Nat → List Int) (P : Nat → Prop) : Prop where
  outer : W.ownsRow base 25 1 (.slice (some ⟨Z, 0, none⟩) n cap) n xs
  row : ∀ i, i < n → W.ownsRow base 3 1 (xs.getD i .nilIface) (L i).length ((L i).map fun x => .int .i64 x)
  off : ∀ i, i < n → ∀ g, (xs.getD i .nilIface).ownBlock = some g → g ≠ Z ∧ P g
  apart : ∀ i j, i < n → j < n → i ≠ j → ∀ g, (xs.getD i .nilIface).ownBlock = some g → (xs.getD j .nilIface).ownBlock ≠ some g

theorem ownsRow_blk {w : World} {base : Nat} {e : TypeId} {s : Nat} {v : Value} {n : Nat} {xs : List Value} (h : w.ownsRow base e s v n xs) : ∀ g, v.ownBlock = some g → base ≤ g ∧ g < w.heap.size := by
  intro g hg
  rcases h.2 with ⟨rfl, _⟩ | ⟨g', cap, cur, rfl, hb, hh, _⟩
  · cases hg
  · cases hg; exact ⟨hb, lt_of_block hh⟩

theorem Jag.kept {W W' : World} {base Z n cap : Nat} {xs : List Value} {L : Nat → List Int} {P : Nat → Prop} (h : Jag W base Z n cap xs L P) (hk : ∀ k, k < W.heap.size → base ≤ k → k = Z ∨ P k → W'.heap[k]? = W.heap[k]?) : Jag W' base Z n cap xs L P := by
  refine ⟨ownsRow_same h.outer fun g hg => ?_, fun i hi => ownsRow_same (h.row i hi) fun g hg => ?_, h.off, h.apart⟩
  · have := ownsRow_blk h.outer g hg
    cases hg
    exact hk _ this.2 this.1 (.inl rfl)
  · have := ownsRow_blk (h.row i hi) g hg
    exact hk _ this.2 this.1 (.inr (h.off i hi g hg).2)

theorem getD_set_same {xs : List Value} {s : Nat} (v : Value) (h : s < xs.length) : (xs.set s v).getD s .nilIface = v := by simp [List.getD_eq_getElem?_getD, List.getElem?_set, h]
theorem getD_set_other {xs : List Value} {s i : Nat} (v : Value) (h : i ≠ s) : (xs.set s v).getD i .nilIface = xs.getD i .nilIface := by
  simp only [List.getD_eq_getElem?_getD]
  rw [List.getElem?_set_ne (fun e => h e.symm)]

/-- One row has grown, and its new value is stored. -/
theorem Jag.step {W W5 : World} {base Z n cap s g1 c1 kk : Nat} {xs : List Value} {L L' : Nat → List Int} {P : Nat → Prop} {x : Int} {o : Obj} {ls : List Int} (h : Jag W base Z n cap xs L P) (hs : s < n) (hls : L s = ls) (hkk : ls.length = kk)
    (hg : (W.alloc o).grownBy W5 (xs.getD s .nilIface).ownBlock)
    (ho : W5.ownsRow base 3 1 (.slice (some ⟨g1, 0, none⟩) (kk + 1) c1) (kk + 1) ((ls.map fun x => .int .i64 x) ++ [.int .i64 x]))
    (hat : (xs.getD s .nilIface).ownBlock = some g1 ∨ g1 = W.heap.size + 1) (hP : P (W.heap.size + 1)) (hL' : ∀ i, L' i = if i = s then ls ++ [x] else L i) :
    Jag (W5.setCell ⟨Z, s, none⟩ (.slice (some ⟨g1, 0, none⟩) (kk + 1) c1)) base Z n cap (xs.set s (.slice (some ⟨g1, 0, none⟩) (kk + 1) c1)) L' P := by
  subst hls
  subst hkk
  obtain rfl : L' = fun i => if i = s then L s ++ [x] else L i := funext hL'
  clear hL'
  have hxl : xs.length = n := by have := h.outer.1; omega
  have hZ := (ownsRow_blk h.outer Z rfl).2
  have hZ5 : W5.heap[Z]? = W.heap[Z]? := (hg.block Z (by simp; omega) (fun e => (h.off s hs Z e.symm).1 rfl)).trans (Below.heap_alloc _ _ _ hZ)
  have hO5 := owns_block h.outer hZ5
  have hg1 : g1 ≠ Z ∧ P g1 := by
    rcases hat with e | e
    · exact h.off s hs g1 e
    · subst e; exact ⟨by omega, hP⟩
  have hother : ∀ i, i < n → i ≠ s → ∀ g, (xs.getD i .nilIface).ownBlock = some g → g ≠ g1 ∧ (W5.setCell ⟨Z, s, none⟩ (.slice (some ⟨g1, 0, none⟩) ((L s).length + 1) c1)).heap[g]? = W.heap[g]? := by
    intro i hi his g he
    have hb := ownsRow_blk (h.row i hi) g he
    refine ⟨fun e => ?_, ?_⟩
    · subst e
      rcases hat with e | e
      · exact h.apart i s hi hs his g he e
      · omega
    · rw [Below.heap_setCell _ _ _ _ (by have := (h.off i hi g he).1; simpa using this), hg.block g (by simp; omega) (fun e => h.apart i s hi hs his g he e.symm), Below.heap_alloc _ _ _ hb.2]
  refine ⟨(hO5.stored s _).1, fun i hi => ?_, fun i hi g he => ?_, fun i j hi hj hij g he => ?_⟩
  · by_cases e : i = s
    · subst e
      rw [getD_set_same _ (by omega)]
      simp only [if_true, List.length_append, List.length_cons, List.length_nil, List.map_append, List.map_cons, List.map_nil]
      exact owns_block ho (Below.heap_setCell _ _ _ _ (by simpa using hg1.1))
    · rw [getD_set_other _ e]
      simp only [if_neg e]
      exact ownsRow_same (h.row i hi) fun g he => (hother i hi e g he).2
  · by_cases e : i = s
    · subst e
      rw [getD_set_same _ (by omega)] at he
      cases he
      exact hg1
    · rw [getD_set_other _ e] at he
      exact h.off i hi g he
  · by_cases e : i = s
    · subst e
      rw [getD_set_same _ (by omega)] at he
      cases he
      rw [getD_set_other _ (fun e => hij e.symm)]
      exact fun he' => (hother j hj (fun e => hij e.symm) _ he').1 rfl
    · rw [getD_set_other _ e] at he
      by_cases e2 : j = s
      · subst e2
        rw [getD_set_same _ (by omega)]
        intro he'
        cases he'
        exact (hother i hi e _ he).1 rfl
      · rw [getD_set_other _ e2]
        exact h.apart i j hi hj hij g he

/-- Such rows read as lists. -/
theorem Jag.mrows {W : World} {base Z n cap : Nat} {xs : List Value} {L : Nat → List Int} {P : Nat → Prop} {m : List (List Int)} (h : Jag W base Z n cap xs L P) (hm : m.length = n) (hL : ∀ i, i < n → L i = m.getD i [] ∧ (L i).length ≤ big) : MRows W base (.slice (some ⟨Z, 0, none⟩) n cap) m := by
  refine ⟨xs, by rw [hm]; exact h.outer, fun i hi => ?_⟩
  rw [hm] at hi
  rw [← (hL i hi).1]
  have hr := h.row i hi
  rcases hr.2 with ⟨hv, h0⟩ | ⟨g, c, cur, hv, hb, hh, _⟩
  · rw [hv]
    refine ⟨none, 0, by rw [h0], (hL i hi).2, fun j hj => by omega⟩
  · rw [hv] at hr ⊢
    exact off_of_own hr rfl hb (fun e => (h.off i hi g (by rw [hv]; rfl)).1 (by simpa [Value.ownBlock] using e)) (hL i hi).2

set_option maxRecDepth 100000 in
set_option maxHeartbeats 2000000 in
theorem rEnds_own (v u : Value) (m : List (List Int)) (l : List Int) (w : World) (h : Rows w v m) (hu : Ints w u l) (hv : validM m = true) (hw : isWordM m l = true) :
    Calls Tryd.prog 65 #[.agg #[v], u] w fun e w' => ∃ r, e = .returned r ∧ w'.ownsRow (w.heap.size + 1) 3 1 r m.length ((endsTo m l m.length).map fun x => .int .i64 x) ∧ Below w.heap.size w w' := by
  obtain ⟨j0, hj, hy0, hy1, hy2⟩ := info_parts infoInt
  have hn : m.length ≤ 60 := (valid_parts hv).2.1
  have hb0 := bal (Below.refl _ w) (.cells #[v] 24)
  obtain ⟨A, cap, rfl, _⟩ := id h
  obtain ⟨Au, capu, rfl, _⟩ := id hu
  have hbx : (w.alloc (.cells #[.slice A m.length cap] 24)).cell? ⟨w.heap.size, 0, none⟩ = some (.slice A m.length cap) := by simp
  have hs0 : (w.alloc (.cells #[.slice A m.length cap] 24)).heap.size = w.heap.size + 1 := by simp
  go_enter Tryd.func65, Tryd.ntmps65
  go_wp2
  generalize hX : w.alloc (.cells #[.slice A m.length cap] 24) = X at *
  clear hX
  go_loopw [5, 6] (fun r i wr => ∃ k : Nat, k ≤ m.length ∧ i = .int .i64 k ∧ Below (w.heap.size + 1) X wr ∧ wr.ownsRow (w.heap.size + 1) 3 1 r k ((endsTo m l k).map fun x => .int .i64 x)) (fun _ i _ => m.length - (intOf i).toNat)
  case atStart => exact ⟨0, Nat.zero_le _, rfl, Below.refl _ _, ⟨rfl, .inl ⟨rfl, rfl⟩⟩⟩
  case round =>
    obtain ⟨k, hk, rfl, hB, ho⟩ := hrel
    have hbr : wr.cell? ⟨w.heap.size, 0, none⟩ = some (.slice A m.length cap) := (hB.cell (p := ⟨w.heap.size, 0, none⟩) (Nat.lt_succ_self _)).trans hbx
    have hsz : w.heap.size + 1 ≤ wr.heap.size := by have := hB.size; omega
    have hBw : Below w.heap.size w wr := hb0.trans (hB.mono (Nat.le_succ _))
    by_cases hlt : k < m.length
    · have hkm : (k : Int) < m.length := by omega
      go_wp2_with fail
      refine (rRun_any _ _ m k l _ (h.below hBw) (hu.below hBw) hv hlt hw).mono ?_
      rintro e w2 ⟨rfl, hb2⟩
      have hs2 := hb2.size
      have hB2 := hB.trans (hb2.mono hsz)
      have ho2 := owns_kept ho (fun q _ hq => hb2.block q hq)
      have Hs := hid (endsTo_succ m l k)
      generalize runM m k l = y at *
      go_wp2_with (at_builtin; refine wpList_append_own_at _ rfl _ _ 25 rfl (w.heap.size + 1) 3 j0 (.int .i64 0) 1 8 Tryd.underlying25 hj hy0 hy1 hy2 rfl (by decide) _ _ _ rfl (ho2.alloc _) ⟨w2.heap.size, 0, none⟩ 1 1 [.int .i64 (y : Int)] rfl rfl (cell_one_new _ _ _) (by simp [Value.oneCell']) (by unfold maxLen; omega) (by omega) (by simp; omega) ?_; intro v' w5 hown' hgrow' _ hat)
      go_roundw
      case rel =>
        refine ⟨k + 1, by omega, by go_num, ?_, by rw [Hs.out]; exact hown'⟩
        refine (hB2.alloc (by omega) _).grown hgrow' (by simp; omega) (fun q hq => ?_)
        rcases ho2.2 with ⟨hr, _⟩ | ⟨g, c, cur, hr, hg, _⟩
        · rw [hr] at hq; cases hq
        · rw [hr] at hq; cases hq; exact hg
      case measure => simp [intOf]; omega
    · obtain rfl : k = m.length := by omega
      go_wp2
      go_ret
      exact ⟨_, rfl, ho, hBw⟩


theorem owns_base {W : World} {base base' : Nat} {e : TypeId} {s : Nat} {v : Value} {n : Nat} {xs : List Value} (h : W.ownsRow base e s v n xs) (hb : base' ≤ base) : W.ownsRow base' e s v n xs := by
  obtain ⟨h1, h2⟩ := h
  refine ⟨h1, ?_⟩
  rcases h2 with h2 | ⟨g, cap, cur, hv, hg, r⟩
  · exact .inl h2
  · exact .inr ⟨g, cap, cur, hv, by omega, r⟩
theorem Jag.monoP {W : World} {base Z n cap : Nat} {xs : List Value} {L : Nat → List Int} {P Q : Nat → Prop} (h : Jag W base Z n cap xs L P) (hPQ : ∀ g, g < W.heap.size → P g → Q g) : Jag W base Z n cap xs L Q :=
  ⟨h.outer, h.row, fun i hi g he => ⟨(h.off i hi g he).1, hPQ g (ownsRow_blk (h.row i hi) g he).2 (h.off i hi g he).2⟩, h.apart⟩
theorem Jag.congr {W : World} {base Z n cap : Nat} {xs : List Value} {L L' : Nat → List Int} {P : Nat → Prop} (h : Jag W base Z n cap xs L P) (hL : ∀ i, i < n → L i = L' i) : Jag W base Z n cap xs L' P :=
  ⟨h.outer, fun i hi => by rw [← hL i hi]; exact h.row i hi, h.off, h.apart⟩
/-- Rows that are all nil. -/
theorem Jag.start {W : World} {base Z n cap : Nat} {P : Nat → Prop} {L : Nat → List Int} (h : W.ownsRow base 25 1 (.slice (some ⟨Z, 0, none⟩) n cap) n (List.replicate n (.slice none 0 0))) (hL : ∀ i, L i = []) : Jag W base Z n cap (List.replicate n (.slice none 0 0)) L P := by
  have hget : ∀ i, i < n → (List.replicate n (Value.slice none 0 0)).getD i .nilIface = .slice none 0 0 := fun i hi => by simp [List.getD_eq_getElem?_getD, List.getElem?_replicate, hi]
  refine ⟨h, fun i hi => ?_, fun i hi g he => ?_, fun i j hi hj _ g he => ?_⟩
  · rw [hget i hi, hL i]; exact ⟨rfl, .inl ⟨rfl, rfl⟩⟩
  · rw [hget i hi] at he; cases he
  · rw [hget i hi] at he; cases he

theorem powRow_take (m ws : List (List Int)) (s k : Nat) (hk : k < ws.length) : (powRow m ws s).take (k + 1) = (powRow m ws s).take k ++ [((runM m s (ws.getD k []) : Nat) : Int)] := by
  have h : k < (powRow m ws s).length := by rw [powRow_length]; exact hk
  rw [List.take_succ_eq_append_getElem h]
  simp [powRow, List.getD_eq_getElem?_getD, List.getElem?_eq_getElem hk]

set_option maxRecDepth 100000 in
set_option maxHeartbeats 4000000 in
theorem rPower_any (v u : Value) (m ws : List (List Int)) (w : World) (h : Rows w v m) (hu : Rows w u ws) (hv : validM m = true) (hw : wordsM m ws = true) :
    Calls Tryd.prog 33 #[.agg #[v], u] w fun e w' => ∃ r, e = .returned (.agg #[r]) ∧ MRows w' w.heap.size r (powerM m ws) ∧ Below w.heap.size w w' := by
  obtain ⟨A, cap, rfl, _⟩ := id h
  obtain ⟨Au, capu, rfl, hlu, hcu⟩ := id hu
  unfold big at hlu
  have hn1 := (valid_parts hv).1
  have hn := (valid_parts hv).2.1
  obtain ⟨hws, hwa⟩ := words_parts hw
  have hwok : ∀ i, i < ws.length → isWordM m (ws.getD i []) = true := fun i hi => all_getD _ ws [] hwa i hi
  have Hcu := hid hcu
  have Hwok := hid hwok
  obtain ⟨i0, hi, hz0, hz1, hz2⟩ := info_parts infoRow
  obtain ⟨j0, hj, hy0, hy1, hy2⟩ := info_parts infoInt
  clear hcu hwok
  obtain ⟨f0, f1⟩ := two_alloc w (.cells #[.slice A m.length cap] 24) (.cells #[.slice none 0 0] 24)
  have hX := bal (bal (Below.refl _ w) (.cells #[.slice A m.length cap] 24)) (.cells #[.slice none 0 0] 24)
  have Hx := hid hX
  go_enter Tryd.func33, Tryd.ntmps33
  go_upto_region 1 with fail
  generalize hWX : (w.alloc (.cells #[.slice A m.length cap] 24)).alloc (.cells #[.slice none 0 0] 24) = X at *
  clear hX hWX
  have hX := Hx.out
  have hl1 : w.heap.size + 1 < X.heap.size := lt_of_block f1
  have hl0 : w.heap.size < X.heap.size := lt_of_block f0
  have c0 := cell_of_one f0
  have hr := h.below hX
  have hn' := hu.below hX
  clear f0
  go_wp2_with (at_make; refine wpList_make_full _ rfl _ _ 22 rfl X.heap.size 25 i0 (.slice none 0 0) 1 Tryd.underlying22 hi hz0 hz1 .i64 .i64 _ _ m.length rfl rfl rfl rfl (by rw [hz2]; omega) (by unfold maxLen; omega) (Nat.le_refl _) ?_; intro w3 hown hgrow; have hB3 : Below X.heap.size X w3 := (Below.refl _ _).grown hgrow (Nat.le_refl _) (fun q hq => by cases hq); have cZ3 := (hB3.cell (p := ⟨w.heap.size, 0, none⟩) hl0).trans c0)
  have hs3 := owns_lt hown
  rw [show Value.cells (.slice none 0 0) = #[.slice none 0 0] from rfl, toList_madeCells_one, Nat.mul_one] at hown
  have hB4 := hB3.alloc hB3.size (.cells #[.slice (some ⟨X.heap.size, 0, none⟩) m.length m.length] 24)
  have hown4 := hown.alloc (.cells #[.slice (some ⟨X.heap.size, 0, none⟩) m.length m.length] 24)
  have o4 := heap_alloc_new w3 (.cells #[.slice (some ⟨X.heap.size, 0, none⟩) m.length m.length] 24)
  have J4 : Jag (w3.alloc (.cells #[.slice (some ⟨X.heap.size, 0, none⟩) m.length m.length] 24)) X.heap.size X.heap.size m.length m.length _ (fun i => (powRow m ws i).take 0) (fun b => b ≠ w3.heap.size) := Jag.start hown4 (fun _ => rfl)
  go_loopw [6] (fun i wr => ∃ (k : Nat) (xs : List Value), k ≤ ws.length ∧ i = .int .i64 k ∧ Jag wr X.heap.size X.heap.size m.length m.length xs (fun i => (powRow m ws i).take k) (fun b => b ≠ w3.heap.size) ∧ wr.heap[w3.heap.size]? = some (.cells #[.slice (some ⟨X.heap.size, 0, none⟩) m.length m.length] 24 (0, 0)) ∧ Below X.heap.size X wr) (fun i _ => ws.length - (intOf i).toNat)
  case atStart => exact ⟨0, _, Nat.zero_le _, rfl, J4, o4, hB4⟩
  case round =>
    obtain ⟨k, xs, hk, rfl, hJ, ho, hBZ⟩ := hrel
    have HJ := hid hJ
    have Ho := hid ho
    have hol : w3.heap.size < wr.heap.size := lt_of_block ho
    have hc0 := (hBZ.cell (p := ⟨w.heap.size, 0, none⟩) hl0).trans c0
    clear hJ ho
    by_cases hlt : k < ws.length
    · have hkm : (k : Int) < ws.length := by omega
      have hBwo := btr hX hBZ
      obtain ⟨b, off, r, hA, hcell, hrow⟩ := Hcu.out k hlt
      subst hA
      have hcr := (hBwo.cell (p := ⟨b, off + k, none⟩) (World.block_lt_of_cell? _ _ hcell)).trans hcell
      have hbw : b < wr.heap.size := World.block_lt_of_cell? _ _ hcr
      have hq := Hwok.out k hlt
      have hroww := hrow.below hBwo
      have hrr := hr.below hBZ
      have Hpt := hid (fun s => powRow_take m ws s k hlt)
      clear hcell hrow
      generalize ws.getD k [] = qw at *
      obtain ⟨Ar, capr, rfl, _⟩ := id hroww
      obtain ⟨wo, rfl⟩ : ∃ wo : World, wo = wr := ⟨_, rfl⟩
      go_upto_region 5 with fail
      go_cut [7] from 14 to 46 (fun r wc => wc.ownsRow wo.heap.size 3 1 r m.length ((endsTo m qw m.length).map fun x => .int .i64 x) ∧ Below wo.heap.size wo wc)
      case first =>
        go_region_with (go_at_call 65; refine (rEnds_own _ _ m qw _ (hrr.below (by first | exact Below.refl _ _ | assumption | exact Below.drew (by first | exact Below.refl _ _ | assumption))) (hroww.below (by first | exact Below.refl _ _ | assumption | exact Below.drew (by first | exact Below.refl _ _ | assumption))) hv hq).mono ?_; rintro e wA ⟨rA, rfl, hEA, hA⟩; have hBA : Below wo.heap.size wo wA := btr (by first | exact Below.refl _ _ | assumption | exact Below.drew (by first | exact Below.refl _ _ | assumption)) hA; have hEB := owns_base hEA (Nat.le_succ wo.heap.size))
        all_goals go_wp2
        all_goals go_meet
        all_goals exact ⟨by first | exact hEB | exact hEA, by first | exact hBA | exact hBA.drew⟩
      case rest =>
        obtain ⟨hE, hBc⟩ := hcut
        obtain ⟨eb, ec, rfl, heb⟩ : ∃ g c, u7 = .slice (some ⟨g, 0, none⟩) m.length c ∧ wo.heap.size ≤ g := by
          rcases hE.2 with ⟨_, h0⟩ | ⟨g, cap, cur, he, hg, _⟩
          · omega
          · exact ⟨g, cap, he, hg⟩
        have hsc := hBc.size
        have heb2 := owns_lt hE
        have hJc := (HJ.out.monoP (Q := fun b => b ≠ w3.heap.size ∧ b ≠ eb) (fun g hg hp => ⟨hp, by omega⟩)).kept (W' := wc) (fun q hq _ _ => hBc.block q hq)
        have hJ0 := hJc.congr (L' := fun i => if i < 0 then (powRow m ws i).take (k + 1) else (powRow m ws i).take k) (fun i _ => by simp)
        have ho0 := (hBc.block _ hol).trans Ho.out
        have hB0 := hBZ.trans (hBc.mono (by omega))
        have hXw : X.heap.size < wo.heap.size := by omega
        clear hJc
        go_wp2_with fail
        go_loopw [8] (fun i wi => ∃ (s : Nat) (xs : List Value), s ≤ m.length ∧ i = .int .i64 s ∧ Jag wi X.heap.size X.heap.size m.length m.length xs (fun i => if i < s then (powRow m ws i).take (k + 1) else (powRow m ws i).take k) (fun b => b ≠ w3.heap.size ∧ b ≠ eb) ∧ wi.heap[w3.heap.size]? = some (.cells #[.slice (some ⟨X.heap.size, 0, none⟩) m.length m.length] 24 (0, 0)) ∧ wi.ownsRow wo.heap.size 3 1 (.slice (some ⟨eb, 0, none⟩) m.length ec) m.length ((endsTo m qw m.length).map fun x => .int .i64 x) ∧ Below X.heap.size X wi) (fun i _ => m.length - (intOf i).toNat)
        case atStart => exact ⟨0, _, Nat.zero_le _, rfl, hJ0, ho0, hE, hB0⟩
        case round =>
          obtain ⟨s, ys, hsl, rfl, hJi, hoi, hEi, hBi⟩ := hrel
          have hyl : ys.length = m.length := by have := hJi.outer.1; omega
          by_cases hslt : s < m.length
          · have hrs := hJi.row s hslt
            simp only [Nat.lt_irrefl, if_false] at hrs
            have hkl : ((powRow m ws s).take k).length = k := by rw [List.length_take, powRow_length]; omega
            rw [hkl] at hrs
            obtain ⟨A1, c1, hA1⟩ : ∃ A c, ys.getD s .nilIface = .slice A k c := by
              rcases hrs.2 with ⟨he, h0⟩ | ⟨g, cap, cur, he, hg, _⟩
              · exact ⟨none, 0, by rw [he, h0]⟩
              · exact ⟨_, cap, he⟩
            have hoff := fun g (hg : (Value.slice A1 k c1).ownBlock = some g) => hJi.off s hslt g (by rw [hA1]; exact hg)
            rw [hA1] at hrs
            have hcx : wr.cell? ⟨X.heap.size, s, none⟩ = some (.slice A1 k c1) := by
              rw [hJi.outer.cellAt s (by omega)]
              have : ys[s]? = some (ys.getD s .nilIface) := by simp [List.getD_eq_getElem?_getD, List.getElem?_eq_getElem (show s < ys.length by omega)]
              rw [this, hA1]
            have hfn := hJi.outer.frozenAt s
            have hce : wr.cell? ⟨eb, s, none⟩ = some (.int .i64 (runM m s qw : Nat)) := by
              rw [hEi.cellAt s (by omega)]
              have h1 : s < (endsTo m qw m.length).length := by rw [endsTo_length]; exact hslt
              have h2 := endsTo_get m qw m.length s hslt
              rw [getD_elem _ s h1] at h2
              simp [List.getElem?_map, List.getElem?_eq_getElem h1, h2]
            have hcb := cell_of_one hoi
            have hbl : w3.heap.size < wr.heap.size := lt_of_block hoi
            have hebl : eb < wr.heap.size := owns_lt hEi
            have hXl : X.heap.size < wr.heap.size := owns_lt hJi.outer
            have hss : (s : Int) < m.length := by omega
            have hkw : k ≤ 6 := by omega
            have HJi := hid hJi
            have HEi := hid hEi
            have Hoi := hid hoi
            have HA1 := hid hA1
            have Hrs := hid hrs
            have Hpts := hid (Hpt.out s)
            generalize runM m s qw = y at *
            have KK : Hid (∀ (g1 cap1 : Nat) (w5 : World), w5.ownsRow X.heap.size 3 1 (.slice (some ⟨g1, 0, none⟩) (k + 1) cap1) (k + 1) ((((powRow m ws s).take k).map fun x => .int .i64 x) ++ [.int .i64 (y : Int)]) → (wr.drew.alloc (.cells #[.int .i64 (y : Int)] 3)).grownBy w5 (Value.slice A1 k c1).ownBlock → ((Value.slice A1 k c1).ownBlock = some g1 ∨ g1 = (wr.drew.alloc (.cells #[.int .i64 (y : Int)] 3)).heap.size) →
                Jag (w5.setCell ⟨X.heap.size, s, none⟩ (.slice (some ⟨g1, 0, none⟩) (k + 1) cap1)) X.heap.size X.heap.size m.length m.length (ys.set s (.slice (some ⟨g1, 0, none⟩) (k + 1) cap1)) (fun i => if i < s + 1 then (powRow m ws i).take (k + 1) else (powRow m ws i).take k) (fun b => b ≠ w3.heap.size ∧ b ≠ eb) ∧
                (w5.setCell ⟨X.heap.size, s, none⟩ (.slice (some ⟨g1, 0, none⟩) (k + 1) cap1)).heap[w3.heap.size]? = some (.cells #[.slice (some ⟨X.heap.size, 0, none⟩) m.length m.length] 24 (0, 0)) ∧
                (w5.setCell ⟨X.heap.size, s, none⟩ (.slice (some ⟨g1, 0, none⟩) (k + 1) cap1)).ownsRow wo.heap.size 3 1 (.slice (some ⟨eb, 0, none⟩) m.length ec) m.length ((endsTo m qw m.length).map fun x => .int .i64 x) ∧
                Below X.heap.size X (w5.setCell ⟨X.heap.size, s, none⟩ (.slice (some ⟨g1, 0, none⟩) (k + 1) cap1))) := hid (by
              intro g1 cap1 w5 hown' hgr hat
              have hsz : (wr.drew.alloc (.cells #[.int .i64 (y : Int)] 3)).heap.size = wr.heap.size + 1 := by simp
              have hkeep : ∀ b, b < wr.heap.size → b ≠ X.heap.size → some b ≠ (Value.slice A1 k c1).ownBlock → (w5.setCell ⟨X.heap.size, s, none⟩ (.slice (some ⟨g1, 0, none⟩) (k + 1) cap1)).heap[b]? = wr.heap[b]? := fun b hb hbX hbo => by
                rw [Below.heap_setCell _ _ _ _ (by simpa using hbX), hgr.block b (by omega) hbo]
                exact Below.heap_alloc wr.drew _ _ hb
              refine ⟨Jag.step (W := wr.drew) (ls := (powRow m ws s).take k) (hJi.kept (fun _ _ _ _ => rfl)) hslt (if_neg (Nat.lt_irrefl s)) hkl (by rw [hA1]; exact hgr) hown' (by rw [hA1]; rw [hsz] at hat; exact hat) ⟨by show wr.heap.size + 1 ≠ _; omega, by show wr.heap.size + 1 ≠ _; omega⟩ (fun i => ?_), ?_, ?_, ?_⟩
              · by_cases e : i = s
                · subst e; rw [if_pos rfl, if_pos (Nat.lt_succ_self i), Hpts.out]
                · rw [if_neg e]
                  by_cases e2 : i < s
                  · rw [if_pos e2, if_pos (by omega)]
                  · rw [if_neg e2, if_neg (by omega)]
              · exact (hkeep _ hbl (by omega) (fun e => (hoff _ e.symm).2.1 rfl)).trans hoi
              · exact owns_block hEi (hkeep _ hebl (by omega) (fun e => (hoff _ e.symm).2.2 rfl))
              · refine Below.setCell (((hBi.drew).alloc (by show X.heap.size ≤ wr.heap.size; omega) _).grown hgr (by omega) (fun q hq => ?_)) (Nat.le_refl _) _
                exact (ownsRow_blk hrs q hq).1)
            clear hJi hEi hoi hA1 hrs
            go_wp2_with fail
            go_region_law (refine step_append_lies _ rfl _ _ 25 rfl X.heap.size 3 j0 (.int .i64 0) 1 8 Tryd.underlying25 hj hy0 hy1 hy2 rfl (by decide) (.slice A1 k c1) k (((powRow m ws s).take k).map fun x => .int .i64 x) rfl (by first | exact Hrs.out.alloc _ | exact (Hrs.out.alloc _).drew) ⟨wr.heap.size, 0, none⟩ 1 1 [.int .i64 (y : Int)] rfl rfl (by first | exact cell_one_new _ _ _ | (intro j u hu; exact cell_one_new _ _ _ j u hu)) (by simp [Value.oneCell']) (by decide) (by unfold maxLen; omega) (by omega) (by simp; omega) _ rfl ?_; intro g1 cap1 w5 hown' hgrow' hat hlt1; have hgr : (wr.drew.alloc (.cells #[.int .i64 (y : Int)] 3)).grownBy w5 (Value.slice A1 k c1).ownBlock := hgrow'; have hG5 : w5.heap[X.heap.size]? = wr.heap[X.heap.size]? := (hgr.block _ (by simp; omega) (fun e => (hoff _ e.symm).1 rfl)).trans (Below.heap_alloc wr.drew _ _ hXl); have hgb : w5.heap[w3.heap.size]? = wr.heap[w3.heap.size]? := (hgr.block _ (by simp; omega) (fun e => (hoff _ e.symm).2.1 rfl)).trans (Below.heap_alloc wr.drew _ _ hbl); have hge : w5.heap[eb]? = wr.heap[eb]? := (hgr.block _ (by simp; omega) (fun e => (hoff _ e.symm).2.2 rfl)).trans (Below.heap_alloc wr.drew _ _ hebl); have hcb5 : w5.cell? ⟨w3.heap.size, 0, none⟩ = some (.slice (some ⟨X.heap.size, 0, none⟩) m.length m.length) := (World.cell?_of_block (w := wr) hgb).trans hcb; have hcx5 : w5.cell? ⟨X.heap.size, s, none⟩ = some (.slice A1 k c1) := (World.cell?_of_block (w := wr) hG5).trans hcx; have hce5 : w5.cell? ⟨eb, s, none⟩ = some (.int .i64 (y : Int)) := (World.cell?_of_block (w := wr) hge).trans hce; have O5 := owns_block HJi.out.outer hG5; have hfn5 := O5.frozenAt s)
            all_goals go_wp2
            all_goals go_roundw
            all_goals first
              | exact ⟨s + 1, _, by omega, by go_num, KK.out _ _ _ hown' hgr hat⟩
              | (simp [intOf]; omega)
          · obtain rfl : s = m.length := by omega
            have HJ2 := hid ((hJi.monoP (Q := fun b => b ≠ w3.heap.size) (fun g _ h => h.1)).congr (L' := fun i => (powRow m ws i).take (k + 1)) (fun i hi => if_pos hi))
            have Ho2 := hid hoi
            clear hJi hoi hEi
            go_wp2
            go_roundw
            case rel => exact ⟨k + 1, ys, by omega, by go_num, HJ2.out, Ho2.out, hBi⟩
            case measure => simp [intOf]; omega
    · obtain rfl : k = ws.length := by omega
      have hM : MRows wr X.heap.size (.slice (some ⟨X.heap.size, 0, none⟩) m.length m.length) (powerM m ws) := HJ.out.mrows (powerM_length m ws) (fun i hi => by
        have h1 : ((powRow m ws i).take ws.length) = powRow m ws i := List.take_of_length_le (by rw [powRow_length]; omega)
        show (powRow m ws i).take ws.length = _ ∧ ((powRow m ws i).take ws.length).length ≤ big
        rw [h1, powRow_length, powerM_get m ws i hi]
        exact ⟨rfl, by unfold big; omega⟩)
      have o1 := cell_of_one Ho.out
      have g5 := (hBZ.block _ hl1).trans f1
      have d1 := cell_of_one g5
      have d2 := free_of_one g5
      have d3 := store_res g5 (.slice (some ⟨X.heap.size, 0, none⟩) m.length m.length)
      have g6 : (wr.setCell ⟨w.heap.size + 1, 0, none⟩ (.slice (some ⟨X.heap.size, 0, none⟩) m.length m.length)).heap[w.heap.size + 1]? = some (.cells #[.slice (some ⟨X.heap.size, 0, none⟩) m.length m.length] 24 (0, 0)) := by simpa using heap_setCell_same wr (w.heap.size + 1) 0 _ _ (.slice (some ⟨X.heap.size, 0, none⟩) m.length m.length) g5
      have HB := hid (Below.setCell (btr hX hBZ) (p := ⟨w.heap.size + 1, 0, none⟩) (Nat.le_succ _) (.slice (some ⟨X.heap.size, 0, none⟩) m.length m.length))
      have HR := hid ((hM.kept (W' := wr.setCell ⟨w.heap.size + 1, 0, none⟩ (.slice (some ⟨X.heap.size, 0, none⟩) m.length m.length)) (fun q hq hs => Below.heap_setCell _ _ _ _ (by simp; omega))).mono_base (by omega : w.heap.size ≤ X.heap.size))
      have G6 := hid g6
      clear g5 g6 hM
      go_wp2
      (try simp only [Exit.inBlock, Exit.then])
      refine bodyPost_ret (v := .agg #[.slice (some ⟨X.heap.size, 0, none⟩) m.length m.length]) ?_ rfl ⟨_, rfl, HR.out, HB.out⟩
      exact results_cell_row rfl _ _ _ _ _ _ _ rfl G6.out Tryd.underlying24 rfl (by kernel_rfl)
end Go.Proofs.YtibaihchnbbokaaDoor
