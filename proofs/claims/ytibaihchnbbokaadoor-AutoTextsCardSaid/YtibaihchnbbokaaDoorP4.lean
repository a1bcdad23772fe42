/-
  The examples of the chapter hold.
-/
import Derived.Test.YtibaihchnbbokaaDoorP3
import Derived.Test.YtibaihchnbbokaaDoorT9
namespace Go.Proofs.YtibaihchnbbokaaDoor
open Go.RowKit Go.Shelf

theorem Ints.two' (w : World) (x y : Int) (t : TypeId) (k : Nat) (hk : k = w.heap.size) : Ints (w.alloc (.cells #[.int .i64 x, .int .i64 y] t)) (.slice (some ⟨k, 0, none⟩) 2 2) [x, y] := by
  subst hk
  refine ⟨_, 2, rfl, by unfold big; simp, fun i hi => ⟨w.heap.size, 0, rfl, ?_⟩⟩
  have h2 : i = 0 ∨ i = 1 := by simp at hi; omega
  rcases h2 with rfl | rfl <;> simp

def mA : List (List Int) := [[1, 0], [0, 0]]
theorem mA_valid : validM mA = true := by decide +kernel
theorem mA_text : strB (textM mA) = ⟨#[49, 46, 48, 32, 48, 46, 48]⟩ := by
  have : textM mA = [49, 46, 48, 32, 48, 46, 48] := by decide +kernel
  rw [this]; rfl

theorem rSame_eq (v u : Value) (l : List Int) (w : World) (h : Ints w v l) (hu : Ints w u l) : Calls Tryd.prog 27 #[v, u] w fun e w' => e = .returned (.bool true) ∧ Below w.heap.size w w' := by
  have hs := rSame_any v u l l w h hu
  rw [decide_eq_true rfl] at hs
  exact hs
theorem run_mA (v u : Value) (w : World) (h : Rows w v mA) (hu : Ints w u [0, 1]) : Calls Tryd.prog 15 #[.agg #[v], .int .i64 0, u] w (NumIs w 0 0) := by
  have e : runM mA 0 [0, 1] = 0 := by decide +kernel
  have h := Run_ok v u mA 0 [0, 1] w h hu mA_valid (by decide) (by decide +kernel)
  rw [e] at h
  exact h
theorem image_mA (v s u : Value) (w : World) (hT : Tab w) (h : Rows w v mA) (hs : Ints w s [0, 1]) (hu : Ints w u [1]) : Calls Tryd.prog 22 #[.agg #[v], s, u] w (ListOk w [0]) := by
  have e : imageM mA [0, 1] [1] = [0] := by decide +kernel
  have h := Image_ok v s u mA [0, 1] [1] w hT h hs hu mA_valid (by decide +kernel) (by decide +kernel)
  rw [e] at h
  exact h
theorem preimage_mA (v s u : Value) (w : World) (hT : Tab w) (h : Rows w v mA) (hs : Ints w s [1]) (hu : Ints w u [0]) : Calls Tryd.prog 23 #[.agg #[v], s, u] w (ListOk w [0]) := by
  have e : preimageM mA [1] [0] = [0] := by decide +kernel
  have h := Preimage_ok v s u mA [1] [0] w hT h hs hu mA_valid (by decide +kernel) (by decide +kernel)
  rw [e] at h
  exact h
theorem parse_mA (w : World) (hsh : w.ShapedOpen Tryd.prog) : Calls Tryd.prog 36 #[.string ⟨#[49, 46, 48, 32, 48, 46, 48]⟩] w fun e w' => ∃ A c, e = .returned (.tuple #[.agg #[.slice A 2 c], .int .i64 0]) ∧ Rows w' (.slice A 2 c) mA ∧ Below w.heap.size w w' := by
  refine (Parse_ok _ mA w hsh awake_reads mA_valid mA_text).mono ?_
  rintro e w1 ⟨v, rfl, hR, hB1⟩
  obtain ⟨A, c, rfl, _⟩ := id hR
  exact ⟨A, c, rfl, hR, hB1⟩

attribute [local irreducible] mA

set_option maxRecDepth 100000 in
set_option maxHeartbeats 300000 in
theorem awake_any (w : World) (hsh : w.ShapedOpen Tryd.prog) (hT : Tab w) :
    Calls Tryd.prog 21 #[] w fun e w' => e = .returned (.bool true) ∧ Below w.heap.size w w' := by
  go_enter Tryd.func21, Tryd.ntmps21
  go_wp2_with fail
  refine (parse_mA w hsh).mono ?_
  rintro e w1 ⟨A, c, rfl, hR, hB1⟩
  have hs1 := hB1.size
  have hT1 := hT.on hB1
  go_wp2_with fail
  generalize hX : w1.alloc (.cells #[.slice A 2 c] 24) = X at *
  have hbx : X.cell? ⟨w1.heap.size, 0, none⟩ = some (.slice A 2 c) := by subst hX; simp
  have hBX : Below w.heap.size w X := by subst hX; exact bal hB1 _
  have hsX : w1.heap.size < X.heap.size := World.block_lt_of_cell? _ _ hbx
  have hRX : Rows X (.slice A 2 c) mA := by subst hX; exact hR.alloc _
  have hTX : Tab X := hT.on hBX
  have hXs : w1.heap.size + 1 = X.heap.size := by subst hX; simp
  generalize w1.heap.size = B at *
  clear hX
  refine (run_mA _ _ _ (hRX.alloc _) (Ints.two' X 0 1 _ _ hXs)).mono ?_
  rintro e w2 ⟨rfl, hB2⟩
  have b2 := btr (bal (Below.refl _ X) (.cells #[.int .i64 0, .int .i64 1] 3)) hB2
  have hbx2 := (b2.cell (p := ⟨B, 0, none⟩) hsX).trans hbx
  have hs2 := b2.size
  go_wp2_with fail
  have b22 := bal (bal (Below.refl _ w2) (.cells #[.int .i64 0, .int .i64 1] 3)) (.cells #[.int .i64 1] 3)
  refine (image_mA _ _ _ _ (hTX.on (btr b2 b22)) (hRX.below (btr b2 b22)) ((Ints.two' w2 0 1 3 _ rfl).alloc (.cells #[.int .i64 1] 3)) (Ints.one' _ _ _ _ (by simp))).mono ?_
  rintro e w3 ⟨v3, rfl, hv3, hB3⟩
  have b3 := btr b2 (btr b22 hB3)
  have hbx3 := (b3.cell (p := ⟨B, 0, none⟩) hsX).trans hbx
  have hs3 := b3.size
  go_wp2_with fail
  have b33 := bal (bal (Below.refl _ w3) (.cells #[.int .i64 1] 3)) (.cells #[.int .i64 0] 3)
  refine (preimage_mA _ _ _ _ (hTX.on (btr b3 b33)) (hRX.below (btr b3 b33)) ((Ints.one' w3 1 3 _ rfl).alloc (.cells #[.int .i64 0] 3)) (Ints.one' _ _ _ _ (by simp))).mono ?_
  rintro e w4 ⟨v4, rfl, hv4, hB4⟩
  have b4 := btr b3 (btr b33 hB4)
  have hbx4 := (b4.cell (p := ⟨B, 0, none⟩) hsX).trans hbx
  have hv34 := hv3.below (btr b33 hB4)
  have Hb := hid (btr hBX b4)
  obtain ⟨A3, c3, rfl, _⟩ := id hv3
  obtain ⟨A4, c4, rfl, _⟩ := id hv4
  clear hR hRX hT1 hTX hbx hbx2 hbx3 hbx4 hv3 hB2 hB3 hB4 b22 b33
  go_wp2_with fail
  have hsame := rSame_eq _ _ [0] _ (hv34.alloc (.cells #[.int .i64 0] 3)) (Ints.one' w4 0 3 _ rfl)
  refine hsame.mono ?_
  clear hsame
  rintro e w5 ⟨rfl, hb5⟩
  have b5 := btr (bal (Below.refl _ w4) (.cells #[.int .i64 0] 3)) hb5
  go_wp2_with fail
  have hsame := rSame_eq _ _ [0] _ ((hv4.below b5).alloc (.cells #[.int .i64 0] 3)) (Ints.one' w5 0 3 _ rfl)
  refine hsame.mono ?_
  clear hsame
  rintro e w6 ⟨rfl, hb6⟩
  have b6 := btr b5 (btr (bal (Below.refl _ w5) (.cells #[.int .i64 0] 3)) hb6)
  go_wp2_with fail
  have hval := Valid_any (.slice none 0 0) [] w6 ⟨none, 0, rfl, by unfold big; simp, fun i hi => by simp at hi⟩
  rw [show validM [] = false from rfl] at hval
  refine hval.mono ?_
  clear hval
  rintro e w7 ⟨rfl, hb7⟩
  go_wp2
  go_ret
  exact ⟨rfl, btr (btr Hb.out b6) hb7⟩
end Go.Proofs.YtibaihchnbbokaaDoor
