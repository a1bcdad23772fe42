/-
  The number of bits; the lowest bit; sets out of lists; preimages.
-/
import Derived.Test.YtibaihchnbbokaaDoorT3
import Derived.Lib.TrailingZeros
import Derived.Laws.Bits64b
namespace Go.Proofs.YtibaihchnbbokaaDoor
open Go.RowKit

theorem s12_fact (S c m k : Nat) (hS : S < 18446744073709551616) (hm : m < 18446744073709551616) (hk : k = ((S / c) &&& m) + (S &&& m)) (hlt : k < 18446744073709551616) :
    IntKind.u64.wrap (bits .and .u64 ((S : Int) / (c : Int)) (m : Int) + bits .and .u64 (S : Int) (m : Int)) = (k : Int) := by
  have hd : (S : Int) / (c : Int) = ((S / c : Nat) : Int) := by simp
  have hlt2 : S / c < 2 ^ 64 := Nat.lt_of_le_of_lt (Nat.div_le_self _ _) hS
  rw [hd, bits_and_n _ m hlt2 hm, bits_and_n _ m hS hm, hk]
  have e : (((S / c &&& m : Nat) : Int) + ((S &&& m : Nat) : Int)) = (((S / c &&& m) + (S &&& m) : Nat) : Int) := by simp
  rw [e, wrap_u64n _ (by rw [← hk]; exact hlt)]
theorem s3_fact (S m k : Nat) (hS : S / 16 + S < 18446744073709551616) (hm : m < 18446744073709551616) (hk : k = (S / 16 + S) &&& m) :
    bits .and .u64 (IntKind.u64.wrap ((S : Int) / 16 + (S : Int))) (m : Int) = (k : Int) := by
  have hd : (S : Int) / 16 + (S : Int) = ((S / 16 + S : Nat) : Int) := by simp
  rw [hd, wrap_u64n _ hS, bits_and_n _ m hS hm, hk]
theorem s4_fact (S c k : Nat) (hk : k = (S + S / c) % 18446744073709551616) :
    IntKind.u64.wrap ((S : Int) + (S : Int) / (c : Int)) = (k : Int) := by
  have hd : (S : Int) + (S : Int) / (c : Int) = ((S + S / c : Nat) : Int) := by simp
  have e0 : ∀ n : Int, IntKind.u64.wrap n = n % 18446744073709551616 := fun n => by simp [IntKind.wrap, IntKind.signed, IntKind.bits]
  rw [hd, e0, hk]; simp
theorem and_low (a : Nat) (ha : a < 18446744073709551616) : bits .and .i64 (wrap64 (a : Int)) 127 = ((a &&& 127 : Nat) : Int) := by
  have h1 : (BitVec.ofInt 64 (wrap64 (a : Int))).toNat = a := by
    rw [BitVec.toNat_ofInt]
    unfold wrap64
    omega
  have h2 : (BitVec.ofInt 64 127).toNat = 127 := by decide
  show IntKind.i64.wrap ((BitVec.ofInt 64 (wrap64 (a : Int)) &&& BitVec.ofInt 64 127).toNat : Int) = _
  rw [BitVec.toNat_and, h1, h2]
  have h3 : a &&& 127 ≤ 127 := Nat.and_le_right
  rw [IntKind.wrap_i64]
  omega
/-- Each sum of two halves of a mask fits. -/
theorem s_lt (a b m : Nat) (hm : m ≤ 6148914691236517205) : (a &&& m) + (b &&& m) < 18446744073709551616 := by
  have h1 : a &&& m ≤ m := Nat.and_le_right
  have h2 : b &&& m ≤ m := Nat.and_le_right
  omega

set_option maxHeartbeats 400000 in
theorem OnesCount64_any (S : Nat) (w : World) (hS : S < 18446744073709551616) :
    Calls Tryd.prog 115 #[.int .u64 S] w fun e w' => e = .returned (.int .i64 ((elems S).length : Nat)) ∧ w = w' := by
  obtain ⟨a1, H1⟩ : ∃ a, Hid (a = s1 S) := ⟨_, rfl⟩
  obtain ⟨a2, H2⟩ : ∃ a, Hid (a = s2 a1) := ⟨_, rfl⟩
  obtain ⟨a3, H3⟩ : ∃ a, Hid (a = s3 a2) := ⟨_, rfl⟩
  obtain ⟨a4, H4⟩ : ∃ a, Hid (a = s4 a3) := ⟨_, rfl⟩
  obtain ⟨a5, H5⟩ : ∃ a, Hid (a = s5 a4) := ⟨_, rfl⟩
  obtain ⟨a6, H6⟩ : ∃ a, Hid (a = s6 a5) := ⟨_, rfl⟩
  have hsw : Hid (a6 &&& 127 = (elems S).length) := by
    have := swar_eq S hS
    unfold swar at this
    rw [← H1.out, ← H2.out, ← H3.out, ← H4.out, ← H5.out, ← H6.out] at this
    exact this
  have f1 : IntKind.u64.wrap (bits .and .u64 ((S : Int) / 2) 6148914691236517205 + bits .and .u64 (S : Int) 6148914691236517205) = (a1 : Int) :=
    s12_fact S 2 6148914691236517205 a1 hS (by decide) (by rw [H1.out]; unfold s1 m0; rw [Nat.shiftRight_eq_div_pow]) (by rw [H1.out]; exact s_lt _ _ _ (by decide))
  have l1 : a1 < 18446744073709551616 := by rw [H1.out]; exact s_lt _ _ _ (by decide)
  have f2 : IntKind.u64.wrap (bits .and .u64 ((a1 : Int) / 4) 3689348814741910323 + bits .and .u64 (a1 : Int) 3689348814741910323) = (a2 : Int) :=
    s12_fact a1 4 3689348814741910323 a2 l1 (by decide) (by rw [H2.out]; unfold s2 m1; rw [Nat.shiftRight_eq_div_pow]) (by rw [H2.out]; exact s_lt _ _ _ (by decide))
  have l2 : a2 / 16 + a2 < 18446744073709551616 := by
    have h1 : (a1 >>> 2) &&& m1 ≤ m1 := Nat.and_le_right
    have h2 : a1 &&& m1 ≤ m1 := Nat.and_le_right
    have h3 : a2 ≤ m1 + m1 := by rw [H2.out]; unfold s2; omega
    unfold m1 at h3; omega
  have f3 : bits .and .u64 (IntKind.u64.wrap ((a2 : Int) / 16 + (a2 : Int))) 1085102592571150095 = (a3 : Int) :=
    s3_fact a2 1085102592571150095 a3 l2 (by decide) (by rw [H3.out]; unfold s3 m2; rw [Nat.shiftRight_eq_div_pow])
  have f4 : IntKind.u64.wrap ((a3 : Int) + (a3 : Int) / 256) = (a4 : Int) := s4_fact a3 256 a4 (by rw [H4.out]; unfold s4; rw [Nat.shiftRight_eq_div_pow])
  have f5 : IntKind.u64.wrap ((a4 : Int) + (a4 : Int) / 65536) = (a5 : Int) := s4_fact a4 65536 a5 (by rw [H5.out]; unfold s5; rw [Nat.shiftRight_eq_div_pow])
  have f6 : IntKind.u64.wrap ((a5 : Int) + (a5 : Int) / 4294967296) = (a6 : Int) := s4_fact a5 4294967296 a6 (by rw [H6.out]; unfold s6; rw [Nat.shiftRight_eq_div_pow])
  clear l1 l2 hS
  go_enter Tryd.func115, Tryd.ntmps115
  go_wp2
  go_ret
  refine ⟨ret_int (k := .i64) (a := bits .and .i64 (wrap64 (a6 : Int)) 127) ?_, rfl⟩
  rw [and_low a6 (by rw [H6.out]; unfold s6; omega), hsw.out]

/-- The table of the library's, in its variable. -/
def Tab (w : World) : Prop := ∀ j, j < 64 → w.cell? ⟨0, j, none⟩ = some (.int .u8 (Lib.deBruijn64tab.getD j 0))

theorem tz_key (x a : Nat) (hx : x < 18446744073709551616) (hx0 : x ≠ 0) (hlow : x &&& (18446744073709551616 - x) = a) :
    IntKind.u64.wrap (bits BinOp.and IntKind.u64 (x : Int) (IntKind.u64.wrap (-(x : Int))) * 285870213051353865) / 288230376151711744 = ((a * 285870213051353865 % 18446744073709551616 / 288230376151711744 : Nat) : Int) := by
  have e0 : ∀ n : Int, IntKind.u64.wrap n = n % 18446744073709551616 := fun n => by simp [IntKind.wrap, IntKind.signed, IntKind.bits]
  have e1 : IntKind.u64.wrap (-(x : Int)) = ((18446744073709551616 - x : Nat) : Int) := by rw [e0]; omega
  rw [e1, bits_and_n x _ hx (by show _ < 18446744073709551616; omega), hlow, e0]
  omega

set_option maxHeartbeats 1000000 in
theorem tz_core (x k idx : Nat) (w : World) (hx0 : ((x : Int) == 0) = false)
    (key : IntKind.u64.wrap (bits BinOp.and IntKind.u64 (x : Int) (IntKind.u64.wrap (-(x : Int))) * 285870213051353865) / 288230376151711744 = (idx : Int))
    (hi : idx < 64) (hk : k < 64) (hcell : w.cell? ⟨0, idx, none⟩ = some (.int .u8 k)) :
    Calls Tryd.prog 97 #[.int .u64 x] w fun e w' => e = .returned (.int .i64 k) ∧ w = w' := by
  go_enter Tryd.func97, Tryd.ntmps97
  go_wp2_with (simp only [key])
  go_ret
  exact ⟨rfl, rfl⟩

theorem TrailingZeros64_any (x : Nat) (hx : x < 18446744073709551616) (h0 : x ≠ 0) (w : World) (hT : Tab w) :
    Calls Tryd.prog 97 #[.int .u64 x] w fun e w' => e = .returned (.int .i64 (Lib.ctz 64 x)) ∧ w = w' := by
  obtain ⟨hlow, hk⟩ := Lib.lowest_bit 64 x h0 hx
  obtain ⟨hi, htab⟩ := Lib.deBruijn64_at _ hk
  have hcell := hT _ hi
  rw [htab] at hcell
  exact tz_core x _ _ w (by simp; omega) (tz_key x _ hx h0 hlow) hi hk hcell

theorem Tab.below {w w' : World} {B : Nat} (h : Tab w) (hb : Below B w w') (hB : 0 < B) : Tab w' :=
  fun j hj => (hb.cell (p := ⟨0, j, none⟩) hB).trans (h j hj)
theorem Tab.lt {w : World} (h : Tab w) : 0 < w.heap.size := World.block_lt_of_cell? _ _ (h 0 (by decide))
theorem Tab.on {w w' : World} (h : Tab w) (hb : Below w.heap.size w w') : Tab w' := h.below hb h.lt

set_option maxHeartbeats 400000 in
theorem Size_any (S : Nat) (w : World) (hS : S < 18446744073709551616) :
    Calls Tryd.prog 98 #[.int .u64 S] w fun e w' => e = .returned (.int .i64 ((elems S).length : Nat)) ∧ w = w' := by
  go_enter Tryd.func98, Tryd.ntmps98
  go_wp2_with (go_at_call 115; refine (OnesCount64_any S _ hS).mono ?_; rintro e w' ⟨rfl, rfl⟩)
  go_ret
  exact ⟨rfl, rfl⟩

/-- The set of a list. -/
def ofList (l : List Int) : Nat := l.foldl (fun S x => S ||| 2 ^ x.toNat) 0
theorem ofList_snoc (l : List Int) (k : Nat) (hk : k < l.length) : ofList (l.take (k + 1)) = ofList (l.take k) ||| 2 ^ (l.getD k 0).toNat := by
  unfold ofList
  rw [List.take_succ_eq_append_getElem hk, List.foldl_append]
  simp [List.getD_eq_getElem?_getD, List.getElem?_eq_getElem hk]
theorem foldl_or_lt (n : Nat) (hn : n ≤ 64) : ∀ (l : List Int) (S : Nat), S < 2 ^ n → (∀ x ∈ l, 0 ≤ x ∧ x < n) → l.foldl (fun S x => S ||| 2 ^ x.toNat) S < 2 ^ n
  | [], S, hS, _ => hS
  | x :: l, S, hS, h => foldl_or_lt n hn l _ (with_lt S _ n hS (by have := h x (by simp); omega)) (fun y hy => h y (List.mem_cons_of_mem _ hy))
theorem ofList_lt (n : Nat) (hn : n ≤ 64) (l : List Int) (h : ∀ x ∈ l, 0 ≤ x ∧ x < n) : ofList l < 2 ^ n := foldl_or_lt n hn l 0 (Nat.two_pow_pos n) h
theorem mem_getD {l : List Int} {k : Nat} (hk : k < l.length) : l.getD k 0 ∈ l := by
  have e : l.getD k 0 = l[k] := by simp [List.getD_eq_getElem?_getD, List.getElem?_eq_getElem hk]
  rw [e]; exact List.getElem_mem _

set_option maxHeartbeats 400000 in
theorem Of_any (v : Value) (l : List Int) (w : World) (h : Ints w v l) (hl : ∀ x ∈ l, 0 ≤ x ∧ x < 64) :
    Calls Tryd.prog 66 #[v] w fun e w' => e = .returned (.int .u64 (ofList l : Nat)) ∧ w = w' := by
  obtain ⟨A, cap, rfl, hn, hc⟩ := h
  unfold big at hn
  go_enter Tryd.func66, Tryd.ntmps66
  go_wp2
  go_loop [3, 8] (fun S i => ∃ k : Nat, k ≤ l.length ∧ i = .int .i64 k ∧ S = .int .u64 (ofList (l.take k) : Nat)) (fun _ i => l.length - (intOf i).toNat)
  case atStart => exact ⟨0, Nat.zero_le _, rfl, rfl⟩
  case round =>
    obtain ⟨k, hk, rfl, rfl⟩ := hrel
    by_cases hlt : k < l.length
    · obtain ⟨b, off, hA, hcell⟩ := hc k hlt
      subst hA
      have Hs := hid (ofList_snoc l k hlt)
      have hS := ofList_lt 64 (by decide) (l.take k) (fun x hx => hl x (List.mem_of_mem_take hx))
      have hx := hl _ (mem_getD hlt)
      clear hc hl
      generalize ofList (l.take k) = S at *
      generalize l.getD k 0 = x at *
      obtain ⟨xn, rfl⟩ := Int.eq_ofNat_of_zero_le hx.1
      rw [Int.toNat_natCast] at Hs
      go_wp2_with (go_at_call 87; refine (With_any S xn _ hS (by omega)).mono ?_; rintro e w' ⟨rfl, rfl⟩)
      go_round
      case rel => exact ⟨k + 1, by omega, by go_num, by rw [Hs.out]⟩
      case measure => simp [intOf]; omega
    · go_wp2
      go_ret
      exact ⟨ret_int (by rw [List.take_of_length_le (by omega)]), rfl⟩

/-- Of the first k states those that a letter leads into a set. -/
def preTo (m : List (List Int)) (S : Nat) (x : Int) : Nat → Nat
  | 0 => 0
  | k + 1 => if S.testBit (nx m k x) then preTo m S x k ||| 2 ^ k else preTo m S x k
theorem preTo_lt (m : List (List Int)) (S : Nat) (x : Int) (n : Nat) (hn : n ≤ 64) : ∀ k, k ≤ n → preTo m S x k < 2 ^ n
  | 0, _ => Nat.two_pow_pos n
  | k + 1, h => by
    unfold preTo
    split
    · exact with_lt _ _ n (preTo_lt m S x n hn k (by omega)) (by omega)
    · exact preTo_lt m S x n hn k (by omega)

set_option maxHeartbeats 400000 in
theorem SetPreimage_any (v : Value) (m : List (List Int)) (S : Nat) (x : Nat) (w : World) (h : Rows w v m) (hv : validM m = true) (hS : S < 2 ^ 64) (hx : x < letters m) :
    Calls Tryd.prog 64 #[.int .u64 S, v, .int .i64 x] w fun e w' => e = .returned (.int .u64 (preTo m S x m.length : Nat)) ∧ w = w' := by
  obtain ⟨A, cap, rfl, hn, hc⟩ := h
  unfold big at hn
  obtain ⟨p1, p2, p3, p4, p5⟩ := valid_parts hv
  go_enter Tryd.func64, Tryd.ntmps64
  go_wp2
  go_loop [7, 12] (fun T i => ∃ k : Nat, k ≤ m.length ∧ i = .int .i64 k ∧ T = .int .u64 (preTo m S x k : Nat)) (fun _ i => m.length - (intOf i).toNat)
  case atStart => exact ⟨0, Nat.zero_le _, rfl, rfl⟩
  case round =>
    obtain ⟨k, hk, rfl, rfl⟩ := hrel
    by_cases hlt : k < m.length
    · obtain ⟨b, off, r, hA, hcell, hr⟩ := hc k hlt
      subst hA
      obtain ⟨Ar, capr, rfl, hlr, hcr⟩ := hr
      have hrl := (p5 k hlt).1
      obtain ⟨br, offr, hAr, hrcell⟩ := hcr x (by omega)
      subst hAr
      have hnx := nx_ok hv hlt (x := x) (by omega) (by omega)
      rw [Int.toNat_natCast] at hnx
      rw [hnx.2] at hrcell
      rw [hrl] at hcell
      have hT := preTo_lt m S x 64 (by decide) k (by omega)
      have Hs : Hid (preTo m S x (k + 1) = if S.testBit (nx m k x) then preTo m S x k ||| 2 ^ k else preTo m S x k) := rfl
      have hq := hnx.1
      have hin : (x : Int) < letters m := by omega
      clear hc hcr p5 hnx hrl
      generalize preTo m S x k = T at *
      generalize nx m k x = q at *
      by_cases hb : S.testBit q = true
      · rw [if_pos hb] at Hs
        go_wp2_with fail
        refine (Has_any S q _ hS (by omega)).mono ?_
        rw [hb]
        rintro e w' ⟨rfl, rfl⟩
        go_wp2_with (go_at_call 87; refine (With_any T k _ hT (by omega)).mono ?_; rintro e w' ⟨rfl, rfl⟩)
        go_round
        case rel => exact ⟨k + 1, by omega, by go_num, by rw [Hs.out]⟩
        case measure => simp [intOf]; omega
      · rw [if_neg hb] at Hs
        have hb' : S.testBit q = false := by simpa using hb
        clear hb
        go_wp2_with fail
        refine (Has_any S q _ hS (by omega)).mono ?_
        rw [hb']
        rintro e w' ⟨rfl, rfl⟩
        go_wp2
        go_round
        case rel => exact ⟨k + 1, by omega, by go_num, by rw [Hs.out]⟩
        case measure => simp [intOf]; omega
    · go_wp2
      go_ret
      obtain rfl : k = m.length := by omega
      exact ⟨rfl, rfl⟩
end Go.Proofs.YtibaihchnbbokaaDoor
