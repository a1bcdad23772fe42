/-
  Texts that the proof of the law stands on: E16, E3, E13, L4, K6, G1.
-/
import Derived.Test.YtmfbcnigefjgpaaDoorRaB
import Derived.Deep.CutRange
namespace Go.Proofs.YtmfbcnigefjgpaaDoor
open Go.RowKit Go.Shelf
def m3a : List (List Int) := [[1, 0], [0, 0]]
def m3b : List (List Int) := [[1, 1], [0, 0]]
def m3c : List (List Int) := [[1, 0], [2, 1], [0, 0]]
theorem m3a_valid : validM m3a = true := by decide +kernel
theorem m3b_valid : validM m3b = true := by decide +kernel
theorem m3c_valid : validM m3c = true := by decide +kernel
theorem m3a_len : mlen m3a 0 1 = 1 := by decide +kernel
theorem m3a_word : mW m3a 1 0 1 = [1] := by decide +kernel
theorem m3a_dist : mdist m3a 0 1 1 := by
  rcases mlen_spec m3a_valid (p := 0) (q := 1) (by decide) (by decide) with ⟨h1, _⟩ | ⟨j, _, h2, h3⟩
  · rw [m3a_len] at h1; omega
  · rw [m3a_len] at h2
    obtain rfl : j = 1 := by omega
    exact h3
theorem m3b_apart : apartL m3b = [(0, 1)] := by decide +kernel
theorem m3b_none : ¬ allMerge m3b := fun h => by
  have := (apartL_nil m3b_valid).2 h
  rw [m3b_apart] at this
  cases this
theorem m3c_apart : apartL m3c = [] := by decide +kernel
theorem m3c_all : allMerge m3c := (apartL_nil m3c_valid).1 m3c_apart
theorem m3c_reset : (resetW m3c).length = 4 := by decide +kernel
/-- .. as the program is told of them. -/
theorem merge_m3a (v : Value) (w : World) (h : Rows w v m3a) : Calls Tryd.prog 9 #[.agg #[v], .int .i64 0, .int .i64 1] w fun e w' => ∃ A c, e = .returned (.tuple #[.slice A 1 c, .int .i64 0]) ∧ Ints w' (.slice A 1 c) [1] ∧ Below w.heap.size w w' := by
  refine (Merge_ok v m3a 0 1 1 w h m3a_valid (by decide) (by decide) m3a_dist).mono ?_
  rintro e w1 ⟨r, rfl, ho, hb⟩
  rw [m3a_word] at ho
  have hi : Ints w1 r [1] := Ints.of_own ho (by decide)
  obtain ⟨A, c, rfl, _⟩ := id hi
  exact ⟨A, c, rfl, hi, hb⟩
theorem apart_m3b (v : Value) (w : World) (h : Rows w v m3b) : Calls Tryd.prog 10 #[.agg #[v]] w fun e w' => ∃ A c, e = .returned (.tuple #[.slice A 1 c, .int .i64 0]) ∧ w'.ownsRow w.heap.size 47 2 (.slice A 1 c) 1 [.int .i64 0, .int .i64 1] ∧ Below w.heap.size w w' := by
  refine (Apart_ok v m3b w h m3b_valid).mono ?_
  rintro e w1 ⟨r, rfl, ho, hb⟩
  rw [m3b_apart] at ho
  obtain ⟨A, c, rfl⟩ := ownsRow_slice ho
  exact ⟨A, c, rfl, ho, hb⟩
theorem reset_m3b (v : Value) (w : World) (h : Rows w v m3b) : Calls Tryd.prog 19 #[.agg #[v]] w fun e w' => e = .returned (.tuple #[.slice none 0 0, .int .i64 4]) ∧ Below w.heap.size w w' := Reset_none v m3b w h m3b_valid m3b_none
theorem reset_m3c (v : Value) (w : World) (hT : Tab w) (h : Rows w v m3c) : Calls Tryd.prog 19 #[.agg #[v]] w fun e w' => ∃ A c, e = .returned (.tuple #[.slice A 4 c, .int .i64 0]) ∧ Below w.heap.size w w' := by
  refine (Reset_ok v m3c w hT h m3c_valid m3c_all).mono ?_
  rintro e w1 ⟨r, rfl, ho, hb⟩
  rw [m3c_reset] at ho
  obtain ⟨A, c, rfl⟩ := ownsRow_slice ho
  exact ⟨A, c, rfl, hb⟩
theorem lit2_rows (w : World) (a b c d : Int) : Rows (((w.alloc (.cells #[.int .i64 a, .int .i64 b] 3)).alloc (.cells #[.int .i64 c, .int .i64 d] 3)).alloc
    (.cells #[.slice (some ⟨w.heap.size, 0, none⟩) 2 2, .slice (some ⟨w.heap.size + 1, 0, none⟩) 2 2] 25)) (.slice (some ⟨w.heap.size + 1 + 1, 0, none⟩) 2 2) [[a, b], [c, d]] :=
  rows2 _ _ _ _ _ _ _ (by simp) ((Ints.two' w a b _ _ rfl).alloc _) (Ints.two' _ c d _ _ (by simp))
/-- A list of one pair, just made. -/
theorem pairs_lit (w : World) (a b : Nat) (t : TypeId) (B : Nat) (hB : w.heap.size = B) : (w.alloc (.cells #[.int .i64 a, .int .i64 b] t)).ownsRow 0 t 2 (.slice (some ⟨B, 0, none⟩) 1 1) 1 [.int .i64 a, .int .i64 b] := by
  subst hB
  exact ⟨rfl, .inr ⟨w.heap.size, 1, #[.int .i64 a, .int .i64 b], rfl, Nat.zero_le _, World.alloc_heap_new _ _, Nat.le_refl _, by unfold maxLen; omega, rfl, rfl⟩⟩
theorem rPairs_one (u v : Value) (n1 n2 : Nat) (w : World) (hL : w.ownsRow n1 47 2 u 1 [.int .i64 0, .int .i64 1]) (hM : w.ownsRow n2 47 2 v 1 [.int .i64 0, .int .i64 1]) :
    Calls Tryd.prog 13 #[u, v] w fun e w' => e = .returned (.bool true) ∧ Below w.heap.size w w' :=
  rPairs_any u v [(0, 1)] [(0, 1)] n1 n2 w hL hM (by decide) (by decide)
set_option maxRecDepth 100000 in
set_option maxHeartbeats 2000000 in
theorem awake3_any (w : World) (hT : Tab w) :
    Calls Tryd.prog 12 #[] w fun e w' => e = .returned (.bool true) ∧ Below w.heap.size w w' := by
  go_enter Tryd.func12, Tryd.ntmps12
  go_wp2_with fail
  have hR0 := lit2_rows w 1 0 0 0
  have hX := bal (bal (bal (Below.refl _ w) (.cells #[.int .i64 1, .int .i64 0] 3)) (.cells #[.int .i64 0, .int .i64 0] 3)) (.cells #[.slice (some ⟨w.heap.size, 0, none⟩) 2 2, .slice (some ⟨w.heap.size + 1, 0, none⟩) 2 2] 25)
  refine (merge_m3a _ _ hR0).mono ?_
  rintro e w1 ⟨A1, c1, rfl, i1, h1⟩
  have B1 := btr hX h1
  clear hX hR0 h1
  go_wp2_with fail
  have hR1 := (lit2_rows w1 1 1 0 0).alloc (.cells #[.slice (some ⟨w1.heap.size + 1 + 1, 0, none⟩) 2 2] 24)
  have hX1 := bal (bal (bal (bal (Below.refl _ w1) (.cells #[.int .i64 1, .int .i64 1] 3)) (.cells #[.int .i64 0, .int .i64 0] 3)) (.cells #[.slice (some ⟨w1.heap.size, 0, none⟩) 2 2, .slice (some ⟨w1.heap.size + 1, 0, none⟩) 2 2] 25)) (.cells #[.slice (some ⟨w1.heap.size + 1 + 1, 0, none⟩) 2 2] 24)
  have hbx := (Boxed.new (((w1.alloc (.cells #[.int .i64 1, .int .i64 1] 3)).alloc (.cells #[.int .i64 0, .int .i64 0] 3)).alloc (.cells #[.slice (some ⟨w1.heap.size, 0, none⟩) 2 2, .slice (some ⟨w1.heap.size + 1, 0, none⟩) 2 2] 25)) 24 (.slice (some ⟨w1.heap.size + 1 + 1, 0, none⟩) 2 2)).cell
  simp only [World.size_alloc] at hbx
  generalize hWX : ((((w1.alloc (.cells #[.int .i64 1, .int .i64 1] 3)).alloc (.cells #[.int .i64 0, .int .i64 0] 3)).alloc (.cells #[.slice (some ⟨w1.heap.size, 0, none⟩) 2 2, .slice (some ⟨w1.heap.size + 1, 0, none⟩) 2 2] 25)).alloc (.cells #[.slice (some ⟨w1.heap.size + 1 + 1, 0, none⟩) 2 2] 24)) = X at *
  clear hWX
  generalize w1.heap.size + 1 + 1 = B at *
  have hlt := World.block_lt_of_cell? _ _ hbx
  have i1X := i1.below hX1
  have B1X := btr B1 hX1
  clear B1 hX1 i1
  refine (apart_m3b _ _ hR1).mono ?_
  rintro e w2 ⟨A2, c2, rfl, o2, h2⟩
  have e2 := (h2.cell (p := ⟨B + 1, 0, none⟩) hlt).trans hbx
  have i12 := i1X.below h2
  have B2 := btr B1X h2
  clear B1X i1X hbx
  go_wp2_with fail
  refine (reset_m3b _ _ (hR1.below h2)).mono ?_
  rintro e w3 ⟨rfl, h3⟩
  have i13 := i12.below h3
  have B3 := btr B2 h3
  have o3 := hid (ownsRow_same o2 fun g hg => h3.block g (o2.lt g hg).2)
  clear i12 B2 e2 o2 h2 h3 hR1
  go_wp2_with fail
  have hR3 := lit_rows w3 1 0 2 1 0 0
  have hX3 := bal (bal (bal (bal (Below.refl _ w3) (.cells #[.int .i64 1, .int .i64 0] 3)) (.cells #[.int .i64 2, .int .i64 1] 3)) (.cells #[.int .i64 0, .int .i64 0] 3)) (.cells #[.slice (some ⟨w3.heap.size, 0, none⟩) 2 2, .slice (some ⟨w3.heap.size + 1, 0, none⟩) 2 2, .slice (some ⟨w3.heap.size + 1 + 1, 0, none⟩) 2 2] 25)
  refine (reset_m3c _ _ (hT.on (btr B3 hX3)) hR3).mono ?_
  rintro e w4 ⟨A4, c4, rfl, h4⟩
  have b4 := btr hX3 h4
  have i14 := i13.below b4
  have B4 := btr B3 b4
  have o4 := hid (ownsRow_same o3.out fun g hg => b4.block g (o3.out.lt g hg).2)
  clear i13 B3 hX3 hR3 h4 b4 o3
  go_wp2_with fail
  refine (rSame_eq _ _ [1] _ (i14.alloc _) (Ints.one' w4 1 3 _ rfl)).mono ?_
  rintro e w5 ⟨rfl, h5⟩
  have b5 := btr (bal (Below.refl _ w4) (.cells #[.int .i64 1] 3)) h5
  have o5 := hid ((ownsRow_same o4.out fun g hg => b5.block g (o4.out.lt g hg).2).alloc (.cells #[.int .i64 0, .int .i64 1] 47))
  have B5 := btr B4 b5
  clear i14 B4 o4 h5 b5
  go_wp2_with fail
  refine (rPairs_one _ _ _ _ _ o5.out (pairs_lit w5 0 1 47 _ rfl)).mono ?_
  rintro e w6 ⟨rfl, h6⟩
  have B6 := btr (bal B5 (.cells #[.int .i64 0, .int .i64 1] 47)) h6
  go_wp2
  go_ret
  exact ⟨rfl, B6⟩
end Go.Proofs.YtmfbcnigefjgpaaDoor
namespace Go.Proofs.YtmfbcnigefjgpaaDoor
open Go.RowKit Go.Shelf
set_option maxRecDepth 100000 in
set_option maxHeartbeats 1000000 in
theorem rWord_no (v : Value) (m : List (List Int)) (p q n₀ g c : Nat) (B : Nat → Nat) (w : World) (h : Rows w v m) (hv : validM m = true) (hp : p < m.length) (hq : q < m.length)
    (hT : Tbl w n₀ (.slice (some ⟨g, 0, none⟩) m.length c) m.length m.length B (mlen m)) (hno : mlen m p q = -1) :
    Calls Tryd.prog 16 #[.agg #[v], .slice (some ⟨g, 0, none⟩) m.length c, .int .i64 p, .int .i64 q] w fun e w' => e = .returned (.tuple #[.slice none 0 0, .bool false]) ∧ Below w.heap.size w w' := by
  obtain ⟨p1, p2, p3, p4, -⟩ := valid_parts hv
  obtain ⟨A, cap, rfl, hml, -⟩ := id h
  have hX := bal (Below.refl _ w) (.cells #[.slice A m.length cap] 24)
  have hTX := hT.below hX
  have hc1 := hTX.cell hp
  have hc2 := hTX.num hp hq
  rw [hno] at hc2
  have hps : (p : Int) < m.length := by omega
  have hqs : (q : Int) < m.length := by omega
  clear hT hTX
  go_enter Tryd.func16, Tryd.ntmps16
  go_wp2
  go_ret2
  exact ⟨rfl, hX⟩
end Go.Proofs.YtmfbcnigefjgpaaDoor
namespace Go.Proofs.YtmfbcnigefjgpaaDoor
open Go.RowKit Go.Shelf
theorem cells_four {w w' : World} {a1 a2 a3 a4 : Addr} {u1 u2 u3 u4 : Value} (hb : Below w.heap.size w w') (c1 : w.cell? a1 = some u1) (c2 : w.cell? a2 = some u2) (c3 : w.cell? a3 = some u3) (c4 : w.cell? a4 = some u4) : w'.cell? a1 = some u1 ∧ w'.cell? a2 = some u2 ∧ w'.cell? a3 = some u3 ∧ w'.cell? a4 = some u4 :=
  have k := fun (a : Addr) (u : Value) (c : w.cell? a = some u) => (hb.cell (p := a) (World.block_lt_of_cell? _ _ c)).trans c
  ⟨k _ _ c1, k _ _ c2, k _ _ c3, k _ _ c4⟩
theorem word_grown {w y w5 : World} {sv bx : Value} {o : Obj} (hB : Below w.heap.size w y) (hlt : ∀ q, sv.ownBlock = some q → w.heap.size + 1 ≤ q) (hbx : y.cell? ⟨w.heap.size, 0, none⟩ = some bx) (hg : (y.alloc o).grownBy w5 sv.ownBlock) :
    Below w.heap.size w w5 ∧ w5.cell? ⟨w.heap.size, 0, none⟩ = some bx := by
  have k3 := World.block_lt_of_cell? _ _ hbx
  simp only at k3
  exact ⟨(bal hB o).grown hg (by have := hB.size; simp; omega) (fun k hk => by have := hlt k hk; omega),
    (World.cell?_of_block (a := ⟨w.heap.size, 0, none⟩) ((hg.block w.heap.size (by simp; omega) (fun e => by have := hlt _ e.symm; omega)).trans (Below.heap_alloc _ _ _ k3))).trans hbx⟩
set_option maxRecDepth 100000 in
set_option maxHeartbeats 8000000 in
theorem rWord_yes (v : Value) (m : List (List Int)) (p q j n₀ g c : Nat) (B : Nat → Nat) (w : World) (h : Rows w v m) (hv : validM m = true) (hp : p < m.length) (hq : q < m.length)
    (hT : Tbl w n₀ (.slice (some ⟨g, 0, none⟩) m.length c) m.length m.length B (mlen m)) (hd : mdist m p q j) :
    Calls Tryd.prog 16 #[.agg #[v], .slice (some ⟨g, 0, none⟩) m.length c, .int .i64 p, .int .i64 q] w fun e w' => ∃ r, e = .returned (.tuple #[r, .bool true]) ∧ w'.ownsRow w.heap.size 3 1 r j ((mW m j p q).map fun x => .int .i64 x) ∧ Below w.heap.size w w' := by
  obtain ⟨i0, hi, hz0, hz1, hz2⟩ := info_parts infoIntE
  obtain ⟨p1, p2, p3, p4, p5⟩ := valid_parts hv
  obtain ⟨A, cap, rfl, hml, hcm⟩ := id h
  have Hcm := hid hcm
  have Hp5 := hid p5
  have hX := bal (Below.refl _ w) (.cells #[.slice A m.length cap] 24)
  have hbx := (Boxed.new w 24 (.slice A m.length cap)).cell
  have hXs : (w.alloc (.cells #[.slice A m.length cap] 24)).heap.size = w.heap.size + 1 := World.size_alloc _ _
  have hTX := hT.below hX
  have hc1 := hTX.cell hp
  have hc2 := hTX.num hp hq
  have hlj := mlen_of hv hp hq hd
  rw [hlj] at hc2
  have hps : (p : Int) < m.length := by omega
  have hqs : (q : Int) < m.length := by omega
  have hj := mdist_lt hv hp hq hd
  have hmm60 : m.length * m.length ≤ 3600 := Nat.mul_le_mul (show m.length ≤ 60 by omega) (show m.length ≤ 60 by omega)
  have hnn : ¬ (j : Int) < 0 := by omega
  have Hd := hid hd
  have HT := hid (fun (w' : World) (hb : Below w.heap.size w w') => hT.below hb)
  clear hT hTX hcm p5 hd hlj
  go_enter Tryd.func16, Tryd.ntmps16
  go_wp2_with fail
  generalize hWX : w.alloc (.cells #[.slice A m.length cap] 24) = X at *
  clear hWX
  go_loopw [2, 3, 10] (fun av bv sv wr => ∃ (a b r : Nat) (pre : List Int), a < m.length ∧ b < m.length ∧ av = .int .i64 (a : Nat) ∧ bv = .int .i64 (b : Nat) ∧ mdist m a b r ∧ mW m j p q = pre ++ mW m r a b ∧ pre.length + r = j ∧ wr.ownsRow (w.heap.size + 1) 3 1 sv pre.length (pre.map fun x => .int .i64 x) ∧ Below w.heap.size w wr ∧ wr.cell? ⟨w.heap.size, 0, none⟩ = some (.slice A m.length cap)) (fun _ _ sv _ => j - sliceLen sv)
  case atStart => exact ⟨p, q, j, [], hp, hq, rfl, rfl, Hd.out, rfl, by simp, World.ownsRow_nil _ _ _ _, hX, hbx⟩
  case round =>
    clear hX hbx hXs hc1 hc2
    obtain ⟨a, b, r, pre, ha, hb, rfl, rfl, hd, hmw, hpl, hO, hB, hbx⟩ := hrel
    have has : (a : Int) < m.length := by omega
    have hbs : (b : Int) < m.length := by omega
    have Hmw := hid hmw
    have hd0 := hid hd
    obtain ⟨sA, scap, rfl⟩ := ownsRow_slice hO
    have HO := hid hO
    have hpl2 := hid hpl
    have hprj : pre.length ≤ 3600 := by omega
    have hrj : r ≤ 3600 := by omega
    have hlenr := mlen_of hv ha hb hd
    have hTr := HT.out _ hB
    have hc1 := hTr.cell ha
    have hc2 := hTr.num ha hb
    rw [hlenr] at hc2
    by_cases hr : r = 0
    · subst hr
      have HR := hid (show wr.ownsRow w.heap.size 3 1 (.slice sA pre.length scap) j ((mW m j p q).map fun x => .int .i64 x) from by
        rw [Hmw.out, show mW m 0 a b = [] from rfl, List.append_nil]
        have e : pre.length = j := by have := hpl2.out; omega
        rw [← e]
        exact row_mono hO (by omega))
      clear hmw hd hpl hO hlenr hTr
      go_wp2_with fail
      go_ret2
      exact ⟨_, rfl, HR.out, hB⟩
    · have hr0 : (0 : Int) < r := by omega
      obtain ⟨r', rfl⟩ : ∃ r', r = r' + 1 := ⟨r - 1, by omega⟩
      obtain ⟨x1, x2, x3, x4⟩ := mX_spec hv ha hb hd
      have X2 := hid x2
      have X3 := hid x3
      have X4 := hid x4
      have Hms := hid (show mW m (r' + 1) a b = (mX m a b : Int) :: mW m r' (nx m a (mX m a b : Int)) (nx m b (mX m a b : Int)) from rfl)
      have Hlenr := hid hlenr
      clear hmw hd hpl hO x2 x3 x4 hlenr hTr
      obtain ⟨wo, rfl⟩ : ∃ wo : World, wo = wr := ⟨_, rfl⟩
      go_wp2_with fail
      go_loopw [11] (fun xv wr => ∃ x : Nat, x ≤ mX m a b ∧ xv = .int .i64 (x : Nat) ∧ Below wo.heap.size wo wr) (fun xv _ => letters m - (intOf xv).toNat)
      case atStart => exact ⟨0, Nat.zero_le _, rfl, Below.refl _ _⟩
      case round =>
        obtain ⟨x, hx, rfl, hBi⟩ := hrel
        have hxl : x < letters m := by omega
        have hxs : (x : Int) < letters m := by omega
        have hBw := btr hB hBi
        have hbx2 := (hBi.cell (p := ⟨w.heap.size, 0, none⟩) (World.block_lt_of_cell? _ _ hbx)).trans hbx
        have hTi := HT.out _ hBw
        obtain ⟨b1, o1, r1, hA, hcell, hrow⟩ := Hcm.out a ha
        subst hA
        have hrl := (Hp5.out a ha).1
        obtain ⟨Ar, capr, rfl, -, hcr⟩ := id hrow
        rw [hrl] at hcell
        obtain ⟨br, offr, hAr, hct⟩ := hcr x (by omega)
        subst hAr
        obtain ⟨hn1, hn⟩ := nx_ok hv (s := a) ha (x := (x : Int)) (by omega) (by omega)
        rw [Int.toNat_natCast] at hn
        rw [hn] at hct
        have hcell2 := (hBw.cell (p := ⟨b1, o1 + a, none⟩) (World.block_lt_of_cell? _ _ hcell)).trans hcell
        have hct2 := (hBw.cell (p := ⟨br, offr + x, none⟩) (World.block_lt_of_cell? _ _ hct)).trans hct
        obtain ⟨b2, o2, r2, hA2, hcellq, hrowq⟩ := Hcm.out b hb
        cases hA2
        have hrlq := (Hp5.out b hb).1
        obtain ⟨Aq, capq, rfl, -, hcq⟩ := id hrowq
        rw [hrlq] at hcellq
        obtain ⟨bq, offq, hAq, hctq⟩ := hcq x (by omega)
        subst hAq
        obtain ⟨hn2, hqn⟩ := nx_ok hv (s := b) hb (x := (x : Int)) (by omega) (by omega)
        rw [Int.toNat_natCast] at hqn
        rw [hqn] at hctq
        have hcellq2 := (hBw.cell (p := ⟨b1, o1 + b, none⟩) (World.block_lt_of_cell? _ _ hcellq)).trans hcellq
        have hctq2 := (hBw.cell (p := ⟨bq, offq + x, none⟩) (World.block_lt_of_cell? _ _ hctq)).trans hctq
        have e1 := hTi.cell hn1
        have e2 := hTi.num hn1 hn2
        have e3 := hTi.cell ha
        have e4 := hTi.num ha hb
        rw [Hlenr.out] at e4
        have hrg := mlenAt_range m (m.length * m.length) (nx m a (x : Int)) (nx m b (x : Int))
        have hds : ((nx m a (x : Int) : Nat) : Int) < m.length := by omega
        have hds2 : ((nx m b (x : Int) : Nat) : Int) < m.length := by omega
        have HC := hid (fun (w' : World) (hb : Below w.heap.size w w') => cells_four hb hcell hct hcellq hctq)
        have HBi := hid hBi
        have HBw := hid hBw
        clear hcr hrow hn hrl hcell hct hcq hrowq hqn hrlq hcellq hctq hTi hbx hc1 hc2 hBi hBw
        by_cases hxe : x = mX m a b
        · have hml : mlen m (nx m a (x : Int)) (nx m b (x : Int)) = (r' : Int) := by
            have := X3.out
            rw [← hxe] at this
            rw [this, Hlenr.out]
            omega
          rw [hml] at e2
          have Hxe := hid hxe
          have HX2 := hid (show mdist m (nx m a (x : Int)) (nx m b (x : Int)) r' from by rw [hxe]; exact X2.out)
          have HM2 := hid (show mW m (r' + 1) a b = (x : Int) :: mW m r' (nx m a (x : Int)) (nx m b (x : Int)) from by rw [Hms.out, hxe])
          clear hml hxe hrg
          generalize nx m a (x : Int) = d at *
          generalize nx m b (x : Int) = d' at *
          go_wp2_with fail
          go_quiet (fail)
          have hOz := hid (fun (w5 : World) (hb5 : Below wo.heap.size wo w5) => (ownsRow_same HO.out fun q hq => hb5.block q (HO.out.lt q hq).2).alloc (.cells #[.int .i64 x] 3))
          have hBn := hid (btr HBi.out (below_dr wr nq))
          have hBwn := hid (btr hB hBn.out)
          have hlt6 := hid (fun q hq => (HO.out.lt q hq).1)
          have hsz := hBwn.out.size
          have hbxl := World.block_lt_of_cell? _ _ hbx2
          have HBX := hid hbx2
          simp only at hbxl
          have Hgr := hid (fun (w5 : World) (o : Obj) (hg : ((wr.drewN nq).alloc o).grownBy w5 (Value.slice sA pre.length scap).ownBlock) => word_grown hBwn.out hlt6.out (show (wr.drewN nq).cell? ⟨w.heap.size, 0, none⟩ = _ from HBX.out) hg)
          go_wp2_with (at_builtin; refine wpList_append_own_at _ rfl _ _ 25 rfl (w.heap.size + 1) 3 i0 (.int .i64 0) 1 8 Tryd.underlying25 hi hz0 hz1 hz2 rfl (by decide) _ _ _ rfl (hOz.out _ hBn.out) ⟨wr.heap.size, 0, none⟩ 1 1 [.int .i64 x] rfl rfl (one_new _ _ _ _ rfl) (by simp [Value.oneCell']) (by unfold maxLen; omega) (by omega) (by simp; omega) ?_; intro v' w5 hown' hgrow' _ hat; obtain ⟨vA, vcap, rfl⟩ := ownsRow_slice hown'; obtain ⟨q1, q2⟩ := Hgr.out w5 _ hgrow'; obtain ⟨s1, s2, s3, s4⟩ := HC.out _ q1; have HN := hid hown'; have HQ := hid q1; have HQ2 := hid q2; clear q1 hown' hgrow' hat)
          go_quiet (fail)
          go_wp2
          go_roundw
          case rel =>
            refine ⟨d, d', r', pre ++ [(x : Int)], hn1, hn2, rfl, rfl, HX2.out, by rw [Hmw.out, HM2.out, List.append_assoc]; rfl, by have := hpl2.out; rw [List.length_append, List.length_singleton]; omega, ?_, btr HQ.out (below_dr w5 _), HQ2.out⟩
            rw [List.length_append, List.map_append]
            exact HN.out
          case measure => have := hpl2.out; simp [sliceLen]; omega
        · have hlt : x < mX m a b := by omega
          have hne : (mlen m (nx m a (x : Int)) (nx m b (x : Int)) != (r' : Int)) = true := by
            have := X4.out x hlt
            rw [Hlenr.out] at this
            simp
            omega
          clear hxe
          generalize mlen m (nx m a (x : Int)) (nx m b (x : Int)) = z at *
          generalize nx m a (x : Int) = d at *
          generalize nx m b (x : Int) = d' at *
          go_wp2_with fail
          go_quiet (fail)
          go_wp2
          go_roundw
          case rel => exact ⟨x + 1, by omega, by go_num, btr HBi.out (below_dr wr nq)⟩
          case measure => simp [intOf]; omega
end Go.Proofs.YtmfbcnigefjgpaaDoor
namespace Go.Proofs.YtmfbcnigefjgpaaDoor
open Go.RowKit Go.Shelf
theorem Ints.nil (w : World) : Ints w (.slice none 0 0) [] := ⟨none, 0, rfl, by simp, fun i hi => by simp at hi⟩
end Go.Proofs.YtmfbcnigefjgpaaDoor
namespace Go.Proofs.YtmfbcnigefjgpaaDoor
open Go.RowKit Go.Shelf
theorem state_nat {m : List (List Int)} {s : Int} (h : stateM m s = true) : ∃ k : Nat, s = k ∧ k < m.length := by
  unfold stateM inB at h
  simp at h
  exact ⟨s.toNat, by omega, by omega⟩
end Go.Proofs.YtmfbcnigefjgpaaDoor
namespace Go.Proofs.YtmfbcnigefjgpaaDoor
open Go.RowKit Go.Shelf
theorem own_below {w w' : World} {n₀ s n : Nat} {t : TypeId} {v : Value} {xs : List Value} (h : w.ownsRow n₀ t s v n xs) (hb : Below w.heap.size w w') : w'.ownsRow n₀ t s v n xs := ownsRow_same h fun g hg => hb.block g (h.lt g hg).2
theorem apartL_len {m : List (List Int)} (hv : validM m = true) : (apartL m).length ≤ 1000000 := by
  have := apartAll_len m m.length
  have h2 : m.length * m.length ≤ 60 * 60 := Nat.mul_le_mul (valid_parts hv).2.1 (valid_parts hv).2.1
  unfold apartL
  omega
theorem rPairs_same (u v : Value) (L : List (Nat × Nat)) (n1 n2 : Nat) (w : World) (hL : w.ownsRow n1 47 2 u L.length (pairCells L)) (hM : w.ownsRow n2 47 2 v L.length (pairCells L)) (hl : L.length ≤ 1000000) :
    Calls Tryd.prog 13 #[u, v] w fun e w' => e = .returned (.bool true) ∧ Below w.heap.size w w' := by
  have := rPairs_any u v L L n1 n2 w hL hM hl hl
  rwa [decide_eq_true rfl] at this
set_option maxRecDepth 100000 in
set_option maxHeartbeats 2000000 in
theorem merges_form (v : Value) (m : List (List Int)) (p q : Int) (w : World) (hT : Tab w) (h : Rows w v m) (hv : validM m = false) :
    Calls Tryd.prog 3 #[.agg #[v], .int .i64 p, .int .i64 q] w fun e w' => e = .returned (.bool true) ∧ Below w.heap.size w w' := by
  obtain ⟨A, cap, rfl, hml, -⟩ := id h
  have hX := bal (Below.refl _ w) (.cells #[.slice A m.length cap] 24)
  have hbx := (Boxed.new w 24 (.slice A m.length cap)).cell
  go_enter Tryd.func3, Tryd.ntmps3
  go_wp2_with fail
  have hr := h.below hX
  have hTX := hT.on hX
  generalize w.alloc (.cells #[.slice A m.length cap] 24) = X at *
  refine (Merge_form _ m p q _ hr hv).mono ?_
  rintro e w1 ⟨rfl, h1⟩
  have c1 := (h1.cell (p := ⟨w.heap.size, 0, none⟩) (World.block_lt_of_cell? _ _ hbx)).trans hbx
  have hr1 := hr.below h1
  go_wp2_with fail
  refine (Apart_form _ m _ hr1 hv).mono ?_
  rintro e w2 ⟨rfl, h2⟩
  have c2 := (h2.cell (p := ⟨w.heap.size, 0, none⟩) (World.block_lt_of_cell? _ _ c1)).trans c1
  have hr2 := hr1.below h2
  go_wp2_with fail
  refine (rValid_bool _ m false _ hr2 hv).mono ?_
  rintro e w3 ⟨rfl, h3⟩
  have B3 := btr (btr h1 h2) h3
  go_wp2_with fail
  refine (awake3_any w3 (hTX.on B3)).mono ?_
  rintro e w4 ⟨rfl, h4⟩
  go_wp2
  go_ret
  exact ⟨rfl, btr hX (btr B3 h4)⟩
set_option maxRecDepth 100000 in
set_option maxHeartbeats 2000000 in
theorem merges_arg (v : Value) (m : List (List Int)) (p q : Int) (w : World) (hT : Tab w) (h : Rows w v m) (hv : validM m = true) (hst : (stateM m p && stateM m q) = false) :
    Calls Tryd.prog 3 #[.agg #[v], .int .i64 p, .int .i64 q] w fun e w' => e = .returned (.bool true) ∧ Below w.heap.size w w' := by
  obtain ⟨A, cap, rfl, hml, -⟩ := id h
  have hX := bal (Below.refl _ w) (.cells #[.slice A m.length cap] 24)
  have hbx := (Boxed.new w 24 (.slice A m.length cap)).cell
  have Hst := hid hst
  have hal := apartL_len hv
  clear hst
  go_enter Tryd.func3, Tryd.ntmps3
  go_wp2_with fail
  have hr := h.below hX
  have hTX := hT.on hX
  generalize w.alloc (.cells #[.slice A m.length cap] 24) = X at *
  refine (Merge_arg _ m p q _ hr hv Hst.out).mono ?_
  rintro e w1 ⟨rfl, h1⟩
  have c1 := (h1.cell (p := ⟨w.heap.size, 0, none⟩) (World.block_lt_of_cell? _ _ hbx)).trans hbx
  have hr1 := hr.below h1
  go_wp2_with fail
  refine (Apart_ok _ m _ hr1 hv).mono ?_
  rintro e w2 ⟨r, rfl, ho, h2⟩
  obtain ⟨rA, rc, rfl⟩ := ownsRow_slice ho
  have c2 := (h2.cell (p := ⟨w.heap.size, 0, none⟩) (World.block_lt_of_cell? _ _ c1)).trans c1
  have hr2 := hr1.below h2
  have HO := hid ho
  clear ho
  generalize hAP : apartL m = AP at *
  have HAP := hid hAP
  clear hAP
  go_wp2_with fail
  refine (rValid_bool _ m true _ hr2 hv).mono ?_
  rintro e w3 ⟨rfl, h3⟩
  have c3 := (h3.cell (p := ⟨w.heap.size, 0, none⟩) (World.block_lt_of_cell? _ _ c2)).trans c2
  have hr3 := hr2.below h3
  have HO3 := hid (own_below HO.out h3)
  go_wp2_with fail
  refine (rApart_any _ m _ hr3 hv).mono ?_
  rintro e w4 ⟨r4, rfl, ho4, h4⟩
  rw [HAP.out] at ho4
  obtain ⟨rA4, rc4, rfl⟩ := ownsRow_slice ho4
  have c4 := (h4.cell (p := ⟨w.heap.size, 0, none⟩) (World.block_lt_of_cell? _ _ c3)).trans c3
  have hr4 := hr3.below h4
  have HO4 := hid (own_below HO3.out h4)
  have HR4 := hid ho4
  clear ho4
  go_wp2_with fail
  refine (rPairs_same _ _ AP _ _ _ HO4.out HR4.out hal).mono ?_
  rintro e w5 ⟨rfl, h5⟩
  have c5 := (h5.cell (p := ⟨w.heap.size, 0, none⟩) (World.block_lt_of_cell? _ _ c4)).trans c4
  have hr5 := hr4.below h5
  have B5 := hid (btr (btr (btr (btr h1 h2) h3) h4) h5)
  clear h1 h2 h3 h4 h5 c1 c2 c3 c4 hr hr1 hr2 hr3 hr4 hbx h HO HO3 HO4 HR4 HAP
  cases hp : stateM m p with
  | false =>
    go_wp2_with fail
    refine (rState_bool _ m p false _ hr5 hp).mono ?_
    rintro e w6 ⟨rfl, h6⟩
    have B6 := hid (btr B5.out h6)
    go_wp2_with fail
    refine (rSame_eq _ _ [] _ (Ints.nil _) (Ints.nil _)).mono ?_
    rintro e w7 ⟨rfl, h7⟩
    have B7 := hid (btr B6.out h7)
    go_wp2_with fail
    refine (awake3_any w7 (hTX.on B7.out)).mono ?_
    rintro e w8 ⟨rfl, h8⟩
    go_wp2
    go_ret
    exact ⟨rfl, btr hX (btr B7.out h8)⟩
  | true =>
    have hq : stateM m q = false := by have := Hst.out; rw [hp, Bool.true_and] at this; exact this
    go_wp2_with fail
    refine (rState_bool _ m p true _ hr5 hp).mono ?_
    rintro e w6 ⟨rfl, h6⟩
    have c6 := (h6.cell (p := ⟨w.heap.size, 0, none⟩) (World.block_lt_of_cell? _ _ c5)).trans c5
    have hr6 := hr5.below h6
    have B6 := hid (btr B5.out h6)
    go_wp2_with fail
    refine (rState_bool _ m q false _ hr6 hq).mono ?_
    rintro e w6' ⟨rfl, h6'⟩
    have B6' := hid (btr B6.out h6')
    go_wp2_with fail
    refine (rSame_eq _ _ [] _ (Ints.nil _) (Ints.nil _)).mono ?_
    rintro e w7 ⟨rfl, h7⟩
    have B7 := hid (btr B6'.out h7)
    go_wp2_with fail
    refine (awake3_any w7 (hTX.on B7.out)).mono ?_
    rintro e w8 ⟨rfl, h8⟩
    go_wp2
    go_ret
    exact ⟨rfl, btr hX (btr B7.out h8)⟩
/-- What Merge returns of two states, and what the reference says. -/
def MergeRes (m : List (List Int)) (p q : Nat) (code : Int) (u : List Int) : Prop := (mlen m p q = -1 ∧ code = 4 ∧ u = []) ∨ ∃ j, mdist m p q j ∧ code = 0 ∧ u = mW m j p q
theorem mergeRes_some {m : List (List Int)} (hv : validM m = true) {p q : Nat} (hp : p < m.length) (hq : q < m.length) : ∃ c u, MergeRes m p q c u := by
  rcases mlen_spec hv hp hq with ⟨h1, _⟩ | ⟨j, _, _, h3⟩
  · exact ⟨4, [], .inl ⟨h1, rfl, rfl⟩⟩
  · exact ⟨0, _, .inr ⟨j, h3, rfl, rfl⟩⟩
theorem Merge_res (v : Value) (m : List (List Int)) (p q : Nat) (c : Int) (u : List Int) (w : World) (h : Rows w v m) (hv : validM m = true) (hp : p < m.length) (hq : q < m.length) (hr : Hid (MergeRes m p q c u)) :
    Calls Tryd.prog 9 #[.agg #[v], .int .i64 p, .int .i64 q] w fun e w' => ∃ A k, e = .returned (.tuple #[.slice A u.length k, .int .i64 c]) ∧ w'.ownsRow w.heap.size 3 1 (.slice A u.length k) u.length (u.map fun x => .int .i64 x) ∧ Below w.heap.size w w' := by
  rcases hr.out with ⟨h1, rfl, rfl⟩ | ⟨j, h1, rfl, rfl⟩
  · exact (Merge_none v m p q w h hv hp hq h1).mono fun e w' ⟨he, hb⟩ => ⟨none, 0, he, World.ownsRow_nil _ _ _ _, hb⟩
  · refine (Merge_ok v m p q j w h hv hp hq h1).mono ?_
    rintro e w' ⟨r, rfl, ho, hb⟩
    obtain ⟨A, k, rfl⟩ := ownsRow_slice ho
    exact ⟨A, k, rfl, ho, hb⟩
theorem rWord_res (v : Value) (m : List (List Int)) (p q n₀ g k : Nat) (B : Nat → Nat) (c : Int) (u : List Int) (w : World) (h : Rows w v m) (hv : validM m = true) (hp : p < m.length) (hq : q < m.length)
    (hT : Tbl w n₀ (.slice (some ⟨g, 0, none⟩) m.length k) m.length m.length B (mlen m)) (hr : Hid (MergeRes m p q c u)) (b : Bool) (hb : (c == 0) = b) :
    Calls Tryd.prog 16 #[.agg #[v], .slice (some ⟨g, 0, none⟩) m.length k, .int .i64 p, .int .i64 q] w fun e w' => ∃ A k, e = .returned (.tuple #[.slice A u.length k, .bool b]) ∧ w'.ownsRow w.heap.size 3 1 (.slice A u.length k) u.length (u.map fun x => .int .i64 x) ∧ Below w.heap.size w w' := by
  subst hb
  rcases hr.out with ⟨h1, rfl, rfl⟩ | ⟨j, h1, rfl, rfl⟩
  · exact (rWord_no v m p q n₀ g k B w h hv hp hq hT h1).mono fun e w' ⟨he, hb⟩ => ⟨none, 0, he, World.ownsRow_nil _ _ _ _, hb⟩
  · refine (rWord_yes v m p q j n₀ g k B w h hv hp hq hT h1).mono ?_
    rintro e w' ⟨r, rfl, ho, hb⟩
    have hl := (mW_ok hv j p q hp hq h1).2.1
    rw [← hl] at ho
    have ho2 : w'.ownsRow w.heap.size 3 1 r (mW m j p q).length ((mW m j p q).map fun x => .int .i64 x) := by rw [hl] at ho ⊢; exact ho
    obtain ⟨A, k, rfl⟩ := ownsRow_slice ho2
    exact ⟨A, k, rfl, ho2, hb⟩
theorem mergeRes_len {m : List (List Int)} (hv : validM m = true) {p q : Nat} (hp : p < m.length) (hq : q < m.length) {c : Int} {u : List Int} (h : MergeRes m p q c u) : u.length ≤ 3600 ∧ (c = 0 ∨ c = 4) ∧ u.all (inB 0 ((letters m : Int) - 1)) = true := by
  rcases h with ⟨_, rfl, rfl⟩ | ⟨j, h1, rfl, rfl⟩
  · exact ⟨by simp, .inr rfl, rfl⟩
  · obtain ⟨a1, a2, _⟩ := mW_ok hv j p q hp hq h1
    have := mdist_lt hv hp hq h1
    have h2 : m.length * m.length ≤ 60 * 60 := Nat.mul_le_mul (valid_parts hv).2.1 (valid_parts hv).2.1
    exact ⟨by omega, .inl rfl, a1⟩
set_option maxRecDepth 100000 in
set_option maxHeartbeats 4000000 in
theorem merges_ok (v : Value) (m : List (List Int)) (p q : Nat) (c : Int) (u : List Int) (w : World) (hT : Tab w) (h : Rows w v m) (hv : validM m = true) (hp : p < m.length) (hq : q < m.length) (hres : Hid (MergeRes m p q c u)) :
    Calls Tryd.prog 3 #[.agg #[v], .int .i64 p, .int .i64 q] w fun e w' => e = .returned (.bool true) ∧ Below w.heap.size w w' := by
  obtain ⟨p1, p2, -⟩ := valid_parts hv
  obtain ⟨A, cap, rfl, hml, -⟩ := id h
  have hX := bal (Below.refl _ w) (.cells #[.slice A m.length cap] 24)
  have hbx := (Boxed.new w 24 (.slice A m.length cap)).cell
  have hal := apartL_len hv
  have hsp : stateM m (p : Int) = true := by unfold stateM; exact inB_true ⟨by omega, by omega⟩
  have hsq : stateM m (q : Int) = true := by unfold stateM; exact inB_true ⟨by omega, by omega⟩
  have Hsp := hid hsp
  have Hsq := hid hsq
  have hul := (mergeRes_len hv hp hq hres.out).1
  have hbig : u.length ≤ big := by unfold big; omega
  have hc04 := hid (mergeRes_len hv hp hq hres.out).2.1
  clear hsp hsq
  go_enter Tryd.func3, Tryd.ntmps3
  go_wp2_with fail
  have hr := h.below hX
  have hTX := hT.on hX
  generalize w.alloc (.cells #[.slice A m.length cap] 24) = X at *
  refine (Merge_res _ m p q c u _ hr hv hp hq hres).mono ?_
  rintro e w1 ⟨uA, uk, rfl, hou, h1⟩
  have HU := hid hou
  have c1 := (h1.cell (p := ⟨w.heap.size, 0, none⟩) (World.block_lt_of_cell? _ _ hbx)).trans hbx
  have hr1 := hr.below h1
  clear hou
  go_wp2_with fail
  refine (Apart_ok _ m _ hr1 hv).mono ?_
  rintro e w2 ⟨r, rfl, ho, h2⟩
  obtain ⟨rA, rc, rfl⟩ := ownsRow_slice ho
  have c2 := (h2.cell (p := ⟨w.heap.size, 0, none⟩) (World.block_lt_of_cell? _ _ c1)).trans c1
  have hr2 := hr1.below h2
  have HO := hid ho
  have HU2 := hid (own_below HU.out h2)
  clear ho
  generalize hAP : apartL m = AP at *
  have HAP := hid hAP
  clear hAP
  go_wp2_with fail
  refine (rValid_bool _ m true _ hr2 hv).mono ?_
  rintro e w3 ⟨rfl, h3⟩
  have c3 := (h3.cell (p := ⟨w.heap.size, 0, none⟩) (World.block_lt_of_cell? _ _ c2)).trans c2
  have hr3 := hr2.below h3
  have HO3 := hid (own_below HO.out h3)
  have HU3 := hid (own_below HU2.out h3)
  go_wp2_with fail
  refine (rApart_any _ m _ hr3 hv).mono ?_
  rintro e w4 ⟨r4, rfl, ho4, h4⟩
  rw [HAP.out] at ho4
  obtain ⟨rA4, rc4, rfl⟩ := ownsRow_slice ho4
  have c4 := (h4.cell (p := ⟨w.heap.size, 0, none⟩) (World.block_lt_of_cell? _ _ c3)).trans c3
  have hr4 := hr3.below h4
  have HO4 := hid (own_below HO3.out h4)
  have HU4 := hid (own_below HU3.out h4)
  have HR4 := hid ho4
  clear ho4
  go_wp2_with fail
  refine (rPairs_same _ _ AP _ _ _ HO4.out HR4.out hal).mono ?_
  rintro e w5 ⟨rfl, h5⟩
  have c5 := (h5.cell (p := ⟨w.heap.size, 0, none⟩) (World.block_lt_of_cell? _ _ c4)).trans c4
  have hr5 := hr4.below h5
  have B5 := hid (btr (btr (btr (btr h1 h2) h3) h4) h5)
  have HU5 := hid (own_below HU4.out h5)
  clear h1 h2 h3 h4 h5 c1 c2 c3 c4 hr hr1 hr2 hr3 hr4 hbx h HO HO3 HO4 HR4 HAP HU HU2 HU3 HU4
  go_wp2_with fail
  refine (rState_bool _ m p true _ hr5 Hsp.out).mono ?_
  rintro e w6 ⟨rfl, h6⟩
  have c6 := (h6.cell (p := ⟨w.heap.size, 0, none⟩) (World.block_lt_of_cell? _ _ c5)).trans c5
  have hr6 := hr5.below h6
  go_wp2_with fail
  refine (rState_bool _ m q true _ hr6 Hsq.out).mono ?_
  rintro e w7 ⟨rfl, h7⟩
  have c7 := (h7.cell (p := ⟨w.heap.size, 0, none⟩) (World.block_lt_of_cell? _ _ c6)).trans c6
  have hr7 := hr6.below h7
  have B7 := hid (btr (btr B5.out h6) h7)
  have HU7 := hid (own_below (own_below HU5.out h6) h7)
  clear h6 h7 c5 c6 hr5 hr6 B5 HU5
  go_wp2_with fail
  rcases hc04.out with rfl | rfl
  all_goals
    go_region_held3 (fun w' => Below w7.heap.size w7 w' ∧ w'.cell? ⟨w.heap.size, 0, none⟩ = some (.slice A m.length cap)) (exact held_one c7 (by first | exact below_dr w7 1 | assumption)) (first
      | (go_at_call 17; go_must (refine (rTable_any _ m _ (hr7.below (by first | exact below_dr w7 1 | exact Below.refl _ _)) hv).mono ?_; rintro e y1 ⟨V, Bt, rfl, hT1, hy1⟩; obtain ⟨tg, tk, rfl⟩ := ownsRow_pos' hT1.outer p1; have HT1 := hid hT1; have k1 : Below w7.heap.size w7 y1 := btr (by first | exact below_dr w7 1 | exact Below.refl _ _) hy1; clear hT1))
      | (go_at_call 16; go_must (refine (rWord_res _ m p q _ tg tk _ _ u _ (hr7.below k1) hv hp hq HT1.out hres _ rfl).mono ?_; rintro e y2 ⟨wA, wk, rfl, how, hy2⟩; have HW := hid how; have k2 : Below w7.heap.size w7 y2 := btr k1 hy2; clear how)))
    have HU8 := hid (own_below HU7.out k2)
    have B8 := hid (btr B7.out k2)
    clear hy1 hy2
    go_wp2_with fail
  · refine (rSame_eq _ _ u _ (Ints.of_own HU8.out hbig) (Ints.of_own HW.out hbig)).mono ?_
    rintro e w8 ⟨rfl, h8⟩
    have B9 := hid (btr B8.out h8)
    go_wp2_with fail
    refine (awake3_any w8 (hTX.on B9.out)).mono ?_
    rintro e w9 ⟨rfl, h9⟩
    go_wp2
    go_ret
    exact ⟨rfl, btr hX (btr B9.out h9)⟩
  · have hu0 : u = [] := by
      rcases hres.out with ⟨_, _, h3⟩ | ⟨j, _, h3, _⟩
      · exact h3
      · cases h3
    subst hu0
    refine (rSame_eq _ _ [] _ (Ints.of_own HU8.out hbig) (Ints.nil _)).mono ?_
    rintro e w8 ⟨rfl, h8⟩
    have B9 := hid (btr B8.out h8)
    go_wp2_with fail
    refine (awake3_any w8 (hTX.on B9.out)).mono ?_
    rintro e w9 ⟨rfl, h9⟩
    go_wp2
    go_ret
    exact ⟨rfl, btr hX (btr B9.out h9)⟩
theorem resetMerges_any (v : Value) (m : List (List Int)) (p q : Int) (w : World) (hT : Tab w) (h : Rows w v m) :
    Calls Tryd.prog 3 #[.agg #[v], .int .i64 p, .int .i64 q] w fun e w' => e = .returned (.bool true) ∧ Below w.heap.size w w' := by
  cases hv : validM m with
  | false => exact merges_form v m p q w hT h hv
  | true =>
    cases hst : (stateM m p && stateM m q) with
    | false => exact merges_arg v m p q w hT h hv hst
    | true =>
      simp only [Bool.and_eq_true] at hst
      obtain ⟨pn, rfl, hp⟩ := state_nat hst.1
      obtain ⟨qn, rfl, hq⟩ := state_nat hst.2
      obtain ⟨c, u, hr⟩ := mergeRes_some hv hp hq
      exact merges_ok v m pn qn c u w hT h hv hp hq (hid hr)
end Go.Proofs.YtmfbcnigefjgpaaDoor
