/-
  Sets of states, as the bits of a number.
-/
import Derived.Test.YtibaihchnbbokaaDoorT2
import Derived.Test.YtibaihchnbbokaaDoorPop
namespace Go.Proofs.YtibaihchnbbokaaDoor
open Go.RowKit

theorem wrap_u64n (n : Nat) (h : n < 18446744073709551616) : IntKind.u64.wrap (n : Int) = (n : Int) := by
  have : IntKind.u64.wrap (n : Int) = (n : Int) % 18446744073709551616 := by simp [IntKind.wrap, IntKind.signed, IntKind.bits]
  rw [this]; omega
theorem bits_and_n (a b : Nat) (ha : a < 2 ^ 64) (hb : b < 2 ^ 64) : bits .and .u64 (a : Int) (b : Int) = ((a &&& b : Nat) : Int) := by
  have h1 : (BitVec.ofInt 64 (a : Int)).toNat = a := by rw [BitVec.ofInt_natCast, BitVec.toNat_ofNat]; exact Nat.mod_eq_of_lt ha
  have h2 : (BitVec.ofInt 64 (b : Int)).toNat = b := by rw [BitVec.ofInt_natCast, BitVec.toNat_ofNat]; exact Nat.mod_eq_of_lt hb
  show IntKind.u64.wrap ((BitVec.ofInt 64 (a : Int) &&& BitVec.ofInt 64 (b : Int)).toNat : Int) = _
  rw [BitVec.toNat_and, h1, h2, wrap_u64n _ (Nat.and_lt_two_pow _ hb)]
theorem bits_or_n (a b : Nat) (ha : a < 2 ^ 64) (hb : b < 2 ^ 64) : bits .or .u64 (a : Int) (b : Int) = ((a ||| b : Nat) : Int) := by
  have h1 : (BitVec.ofInt 64 (a : Int)).toNat = a := by rw [BitVec.ofInt_natCast, BitVec.toNat_ofNat]; exact Nat.mod_eq_of_lt ha
  have h2 : (BitVec.ofInt 64 (b : Int)).toNat = b := by rw [BitVec.ofInt_natCast, BitVec.toNat_ofNat]; exact Nat.mod_eq_of_lt hb
  show IntKind.u64.wrap ((BitVec.ofInt 64 (a : Int) ||| BitVec.ofInt 64 (b : Int)).toNat : Int) = _
  rw [BitVec.toNat_or, h1, h2, wrap_u64n _ (Nat.or_lt_two_pow ha hb)]
theorem pow_cast (n : Nat) : ((2 : Int) ^ n) = ((2 ^ n : Nat) : Int) := by simp
theorem pow_lt64 (n : Nat) (h : n < 64) : 2 ^ n < 18446744073709551616 := Nat.pow_lt_pow_right (a := 2) (n := 64) (by decide) h

set_option maxHeartbeats 400000 in
theorem Below_any (n : Nat) (w : World) (hn : n ≤ 60) :
    Calls Tryd.prog 67 #[.int .i64 n] w fun e w' => e = .returned (.int .u64 ((2 ^ n - 1 : Nat) : Int)) ∧ w = w' := by
  go_enter Tryd.func67, Tryd.ntmps67
  go_wp2
  go_ret
  have h1 := pow_lt64 n (by omega)
  have h0 := Nat.two_pow_pos n
  refine ⟨ret_int ?_, rfl⟩
  rw [pow_cast, wrap_u64n _ h1]
  have e : ((2 ^ n : Nat) : Int) - 1 = ((2 ^ n - 1 : Nat) : Int) := by omega
  rw [e, wrap_u64n _ (by omega)]

set_option maxHeartbeats 400000 in
theorem With_any (S x : Nat) (w : World) (hS : S < 2 ^ 64) (hx : x < 64) :
    Calls Tryd.prog 87 #[.int .u64 S, .int .i64 x] w fun e w' => e = .returned (.int .u64 ((S ||| 2 ^ x : Nat) : Int)) ∧ w = w' := by
  go_enter Tryd.func87, Tryd.ntmps87
  go_wp2
  go_ret
  have h1 := pow_lt64 x hx
  refine ⟨ret_int ?_, rfl⟩
  rw [pow_cast, wrap_u64n _ h1, bits_or_n _ _ hS (by omega)]

set_option maxHeartbeats 400000 in
theorem Has_any (S x : Nat) (w : World) (hS : S < 2 ^ 64) (hx : x < 64) :
    Calls Tryd.prog 88 #[.int .u64 S, .int .i64 x] w fun e w' => e = .returned (.bool (S.testBit x)) ∧ w = w' := by
  go_enter Tryd.func88, Tryd.ntmps88
  go_wp2
  go_ret
  refine ⟨ret_bool ?_, rfl⟩
  have hd : (S : Int) / 2 ^ x = ((S / 2 ^ x : Nat) : Int) := by simp
  have hlt : S / 2 ^ x < 2 ^ 64 := Nat.lt_of_le_of_lt (Nat.div_le_self _ _) hS
  rw [hd, show (1 : Int) = ((1 : Nat) : Int) from rfl, bits_and_n _ 1 hlt (by decide), Nat.and_one_is_mod]
  rw [Nat.testBit_eq_decide_div_mod_eq]
  by_cases h : S / 2 ^ x % 2 = 1
  · simp [h]
  · simp [h]; omega
end Go.Proofs.YtibaihchnbbokaaDoor
