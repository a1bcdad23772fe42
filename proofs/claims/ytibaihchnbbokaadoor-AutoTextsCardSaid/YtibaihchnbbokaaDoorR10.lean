/-
  The reference: the string of an automaton.
-/
import Derived.Test.YtibaihchnbbokaaDoorM3
import Derived.Laws.IdiomStrings
import Derived.Laws.Strings3
import Derived.IntWalk
namespace Go.Proofs.YtibaihchnbbokaaDoor
open Go.RowKit Go.Shelf

theorem strB_size (l : List UInt8) : (strB l).size = l.length := by show l.toArray.size = _; simp
theorem strB_add (a b : List UInt8) : strB a ++ strB b = strB (a ++ b) := by
  unfold strB
  rw [ByteArray.mk_append_mk]

theorem str_add {w : World} (a b : List UInt8) (h : a.length + b.length ≤ 100000) : (Op.stringOp .add (strB a) (strB b)).run Tryd.prog w = .ok (.string (strB (a ++ b))) w := by
  rw [run_string_add_sum w _ _ (by rw [strB_size, strB_size]; omega), strB_add]

/-- string([]byte{c}). -/
theorem byte_at (w : World) (c : UInt8) (k : Nat) (hc : w.cell? ⟨k, 0, none⟩ = some (.int .u8 (c.toNat : Int))) : (convert 108 9 (.slice (some ⟨k, 0, none⟩) 1 1)).run Tryd.prog w = .ok (.string (strB [c])) w := by
  have := run_convert_bytes_back (P := Tryd.prog) w 108 9 5 ⟨k, 0, none⟩ 1 [c] Tryd.underlying108 Tryd.underlying5 Tryd.underlying9 (fun j hj => by
    obtain rfl : j = 0 := by simpa using hj
    simpa [Addr.add] using hc)
  simpa [strB] using this
theorem byte_back (w : World) (c : UInt8) (k : Nat) (hk : k = w.heap.size) : (convert 108 9 (.slice (some ⟨k, 0, none⟩) 1 1)).run Tryd.prog (w.alloc (.cells #[.int .u8 (c.toNat : Int)] 5)) = .ok (.string (strB [c])) (w.alloc (.cells #[.int .u8 (c.toNat : Int)] 5)) := by
  subst hk
  exact byte_at _ c _ (by simp)

theorem cell_lone (w : World) (v : Value) (t : TypeId) : (w.alloc (.cells #[v] t)).cell? ⟨w.heap.size, 0, none⟩ = some v := by simp
set_option maxHeartbeats 1000000 in
theorem Digits_one (u : Nat) (hu : u < 10) (w : World) :
    Calls Tryd.prog 71 #[.int .i64 u] w fun e w' => e = .returned (.string (strB (Lib.decDigits u))) ∧ Below w.heap.size w w' := by
  have hc : ((UInt8.ofNat (48 + u)).toNat : Int) = 48 + u := by
    have : (UInt8.ofNat (48 + u)).toNat = 48 + u := by simp; omega
    omega
  have hb := byte_back w (UInt8.ofNat (48 + u)) w.heap.size rfl
  rw [hc] at hb
  have hB := bal (Below.refl _ w) (.cells #[.int .u8 (48 + (u : Int))] 5)
  have h10 : (u : Int) < 10 := by omega
  rw [Lib.decDigits_one hu]
  generalize UInt8.ofNat (48 + u) = c at *
  clear hc
  go_enter Tryd.func71, Tryd.ntmps71
  go_wp2
  go_ret
  exact ⟨rfl, hB⟩

set_option maxRecDepth 100000 in
set_option maxHeartbeats 1000000 in
theorem Digits_any (u : Nat) (hu : u < 100) (w : World) :
    Calls Tryd.prog 71 #[.int .i64 u] w fun e w' => e = .returned (.string (strB (Lib.decDigits u))) ∧ Below w.heap.size w w' := by
  by_cases h : u < 10
  · exact Digits_one u h w
  have hc : ((UInt8.ofNat (48 + u % 10)).toNat : Int) = 48 + ((u % 10 : Nat) : Int) := by
    have : (UInt8.ofNat (48 + u % 10)).toNat = 48 + u % 10 := by simp; omega
    omega
  have hd : Lib.decDigits u = Lib.decDigits (u / 10) ++ [UInt8.ofNat (48 + u % 10)] := by rw [Lib.decDigits, dif_neg h]
  have hl := dec_len (u / 10) (by omega)
  rw [hd]
  have hadd := fun w => str_add (w := w) (Lib.decDigits (u / 10)) [UInt8.ofNat (48 + u % 10)] (by simp; omega)
  have hone := Digits_one (u / 10) (by omega)
  have h10 : ¬ (u : Int) < 10 := by omega
  have hba := fun w k => byte_at w (UInt8.ofNat (48 + u % 10)) k
  have hr : u % 10 < 10 := Nat.mod_lt _ (by omega)
  have e1 : IntKind.i64.wrap ((u : Int) / 10) = ((u / 10 : Nat) : Int) := by rw [IntWalk.i64_in _ (by omega)]; omega
  have e2 : (u : Int).tmod 10 = ((u % 10 : Nat) : Int) := by rw [Int.tmod_eq_emod_of_nonneg (by omega)]; omega
  rw [hc] at hba
  generalize UInt8.ofNat (48 + u % 10) = c at *
  generalize Lib.decDigits (u / 10) = D at *
  generalize u / 10 = q at *
  generalize u % 10 = r at *
  have e3 : IntKind.i64.wrap (48 + (r : Int)) = 48 + (r : Int) := IntWalk.i64_in _ (by omega)
  have e4 : IntKind.u8.wrap (48 + (r : Int)) = 48 + (r : Int) := IntWalk.u8_in _ (by omega)
  have Hadd := hid hadd
  have Hone := hid hone
  have Hba := hid hba
  have c0 : (w.alloc (.cells #[.int .u8 (48 + (r : Int))] 5)).drew.cell? ⟨w.heap.size, 0, none⟩ = some (.int .u8 (48 + (r : Int))) := by simp
  have l0 : w.heap.size < (w.alloc (.cells #[.int .u8 (48 + (r : Int))] 5)).drew.heap.size := by simp
  have b0 := hba (w.alloc (.cells #[.int .u8 (48 + (r : Int))] 5)).drew w.heap.size c0
  have a0 := hadd (w.alloc (.cells #[.int .u8 (48 + (r : Int))] 5)).drew
  clear hc hd hadd hone hba
  go_enter Tryd.func71, Tryd.ntmps71
  go_wp2_with fail
  go_region_with (go_at_call 71; refine (Hone.out _).mono ?_; rintro e wD ⟨rfl, hD⟩; have a1 := Hadd.out wD; have a2 := Hadd.out (wD.alloc (.cells #[.int .u8 (48 + (r : Int))] 5)); have b1 := Hba.out (wD.alloc (.cells #[.int .u8 (48 + (r : Int))] 5)) wD.heap.size (cell_lone wD _ _); first | have b2 := Hba.out wD w.heap.size ((hD.cell (p := ⟨w.heap.size, 0, none⟩) l0).trans c0) | skip)
  all_goals go_wp2
  all_goals go_ret
  all_goals exact ⟨rfl, by first | exact bal (btr (Below.refl _ _).drew hD) _ | exact btr (bal (Below.refl _ _) _).drew hD⟩
end Go.Proofs.YtibaihchnbbokaaDoor
