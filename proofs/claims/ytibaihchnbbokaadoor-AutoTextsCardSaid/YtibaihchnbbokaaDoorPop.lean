/-
  How many bits a number of 64 bits has: the sums that the library's function makes, digit by digit.
-/
import Derived.Test.YtibaihchnbbokaaDoorBits
namespace Go.Proofs.YtibaihchnbbokaaDoor
def m0 : Nat := 0x5555555555555555
def m1 : Nat := 0x3333333333333333
def m2 : Nat := 0x0f0f0f0f0f0f0f0f
def s1 (x : Nat) : Nat := ((x >>> 1) &&& m0) + (x &&& m0)
def s2 (x : Nat) : Nat := ((x >>> 2) &&& m1) + (x &&& m1)
def s3 (x : Nat) : Nat := ((x >>> 4) + x) &&& m2
def s4 (x : Nat) : Nat := (x + x >>> 8) % 18446744073709551616
def s5 (x : Nat) : Nat := (x + x >>> 16) % 18446744073709551616
def s6 (x : Nat) : Nat := (x + x >>> 32) % 18446744073709551616
def swar (x : Nat) : Nat := s6 (s5 (s4 (s3 (s2 (s1 x))))) &&& 127

/-- and, digit by digit. -/
theorem land_digit (k a b A B : Nat) (ha : a < 2 ^ k) (hb : b < 2 ^ k) : (2 ^ k * A + a) &&& (2 ^ k * B + b) = 2 ^ k * (A &&& B) + (a &&& b) := by
  apply Nat.eq_of_testBit_eq
  intro i
  rw [Nat.testBit_and, Nat.testBit_two_pow_mul_add _ ha, Nat.testBit_two_pow_mul_add _ hb, Nat.testBit_two_pow_mul_add _ (Nat.and_lt_two_pow _ hb)]
  split
  · rw [Nat.testBit_and]
  · rw [Nat.testBit_and]

/-- The masks of n bytes, all of one make. -/
def mask (c : Nat) : Nat → Nat
  | 0 => 0
  | n + 1 => 256 * mask c n + c
theorem mask_succ (c n : Nat) : mask c (n + 1) = 256 * mask c n + c := rfl
def t1 (n x : Nat) : Nat := ((x / 2) &&& mask 0x55 n) + (x &&& mask 0x55 n)
def t2 (n x : Nat) : Nat := ((x / 4) &&& mask 0x33 n) + (x &&& mask 0x33 n)
def t3 (n x : Nat) : Nat := ((x / 16) + x) &&& mask 0x0f n

theorem b1 : ∀ b, b < 256 → ∀ t, t < 2 → ((b / 2 + 128 * t) &&& 0x55) = ((b / 2) &&& 0x55) := by decide +kernel
theorem b2 : ∀ b, b < 256 → ∀ t, t < 4 → ((b / 4 + 64 * t) &&& 0x33) = ((b / 4) &&& 0x33) := by decide +kernel

theorem t1_digit (n b X : Nat) (hb : b < 256) : t1 (n + 1) (256 * X + b) = 256 * t1 n X + (((b / 2) &&& 0x55) + (b &&& 0x55)) := by
  unfold t1
  rw [mask_succ]
  have e1 : (256 * X + b) / 2 = 256 * (X / 2) + (b / 2 + 128 * (X % 2)) := by omega
  have h1 := land_digit 8 (b / 2 + 128 * (X % 2)) 0x55 (X / 2) (mask 0x55 n) (by omega) (by decide)
  have h2 := land_digit 8 b 0x55 X (mask 0x55 n) hb (by decide)
  simp only [Nat.reducePow] at h1 h2
  rw [e1, h1, h2, b1 b hb (X % 2) (by omega)]
  omega

theorem t2_digit (n b X : Nat) (hb : b < 256) : t2 (n + 1) (256 * X + b) = 256 * t2 n X + (((b / 4) &&& 0x33) + (b &&& 0x33)) := by
  unfold t2
  rw [mask_succ]
  have e1 : (256 * X + b) / 4 = 256 * (X / 4) + (b / 4 + 64 * (X % 4)) := by omega
  have h1 := land_digit 8 (b / 4 + 64 * (X % 4)) 0x33 (X / 4) (mask 0x33 n) (by omega) (by decide)
  have h2 := land_digit 8 b 0x33 X (mask 0x33 n) hb (by decide)
  simp only [Nat.reducePow] at h1 h2
  rw [e1, h1, h2, b2 b hb (X % 4) (by omega)]
  omega

theorem b3 : ∀ b, b < 256 → ∀ t, t < 16 → b / 16 + b + 16 * t < 256 → ((b / 16 + b + 16 * t) &&& 0x0f) = ((b / 16 + b) &&& 0x0f) := by decide +kernel
theorem t3_digit (n b X : Nat) (hb : b < 256) (hs : b / 16 + b + 16 * (X % 16) < 256) : t3 (n + 1) (256 * X + b) = 256 * t3 n X + ((b / 16 + b) &&& 0x0f) := by
  unfold t3
  rw [mask_succ]
  have e1 : (256 * X + b) / 16 + (256 * X + b) = 256 * (X / 16 + X) + (b / 16 + b + 16 * (X % 16)) := by omega
  have h1 := land_digit 8 (b / 16 + b + 16 * (X % 16)) 0x0f (X / 16 + X) (mask 0x0f n) hs (by decide)
  simp only [Nat.reducePow] at h1
  rw [e1, h1, b3 b hb (X % 16) (by omega) hs]

/-- The bits of a byte. -/
def byteCount (b : Nat) : Nat := ((List.range 8).filter b.testBit).length

def c1 (b : Nat) : Nat := ((b / 2) &&& 0x55) + (b &&& 0x55)
def c2 (b : Nat) : Nat := ((b / 4) &&& 0x33) + (b &&& 0x33)
def c3 (b : Nat) : Nat := (b / 16 + b) &&& 0x0f
theorem byte_ok : ∀ b, b < 256 → c1 b < 256 ∧ c2 (c1 b) < 256 ∧ c2 (c1 b) / 16 + c2 (c1 b) ≤ 80 ∧ c2 (c1 b) % 16 ≤ 4 ∧ c3 (c2 (c1 b)) = byteCount b ∧ byteCount b ≤ 8 := by decide +kernel

/-- The digits to the base 256, lowest first. -/
def ofBytes : List Nat → Nat
  | [] => 0
  | b :: l => 256 * ofBytes l + b

theorem t123 : ∀ (l : List Nat), (∀ b ∈ l, b < 256) → t2 l.length (t1 l.length (ofBytes l)) = ofBytes (l.map fun b => c2 (c1 b)) ∧ t3 l.length (t2 l.length (t1 l.length (ofBytes l))) = ofBytes (l.map byteCount)
  | [], _ => by decide
  | b :: l, h => by
    obtain ⟨i1, i2⟩ := t123 l (fun x hx => h x (List.mem_cons_of_mem _ hx))
    obtain ⟨k1, k2, k3, k4, k5, k6⟩ := byte_ok b (h b List.mem_cons_self)
    have e1 : t1 (l.length + 1) (256 * ofBytes l + b) = 256 * t1 l.length (ofBytes l) + c1 b := t1_digit _ _ _ (h b List.mem_cons_self)
    have e2 : t2 (l.length + 1) (256 * t1 l.length (ofBytes l) + c1 b) = 256 * t2 l.length (t1 l.length (ofBytes l)) + c2 (c1 b) := t2_digit _ _ _ k1
    have hm : t2 l.length (t1 l.length (ofBytes l)) % 16 ≤ 4 := by
      rw [i1]
      cases l with
      | nil => decide
      | cons d r =>
        have := (byte_ok d (h d (by simp))).2.2.2.1
        simp only [List.map_cons, ofBytes]
        omega
    have e3 : t3 (l.length + 1) (256 * t2 l.length (t1 l.length (ofBytes l)) + c2 (c1 b)) = 256 * t3 l.length (t2 l.length (t1 l.length (ofBytes l))) + c3 (c2 (c1 b)) := t3_digit _ _ _ k2 (by omega)
    simp only [List.length_cons, ofBytes, List.map_cons]
    refine ⟨by rw [e1, e2, i1], ?_⟩
    rw [e1, e2, e3, i2, k5]

theorem masks : mask 0x55 8 = m0 ∧ mask 0x33 8 = m1 ∧ mask 0x0f 8 = m2 := by decide

def digits (a b c d e f g h : Nat) : Nat := a + 256 * b + 65536 * c + 16777216 * d + 4294967296 * e + 1099511627776 * f + 281474976710656 * g + 72057594037927936 * h
theorem s4_digits (a b c d e f g h : Nat) (ha : a ≤ 40) (hb : b ≤ 40) (hc : c ≤ 40) (hd : d ≤ 40) (he : e ≤ 40) (hf : f ≤ 40) (hg : g ≤ 40) (hh : h ≤ 40) :
    s4 (digits a b c d e f g h) = digits (a + b) (b + c) (c + d) (d + e) (e + f) (f + g) (g + h) h := by
  have q : (digits a b c d e f g h) >>> 8 = digits b c d e f g h 0 := by
    rw [Nat.shiftRight_eq_div_pow]; unfold digits; omega
  unfold s4
  rw [q]
  unfold digits
  omega
theorem s5_digits (a b c d e f g h : Nat) (ha : a ≤ 40) (hb : b ≤ 40) (hc : c ≤ 40) (hd : d ≤ 40) (he : e ≤ 40) (hf : f ≤ 40) (hg : g ≤ 40) (hh : h ≤ 40) :
    s5 (digits a b c d e f g h) = digits (a + c) (b + d) (c + e) (d + f) (e + g) (f + h) g h := by
  have q : (digits a b c d e f g h) >>> 16 = digits c d e f g h 0 0 := by
    rw [Nat.shiftRight_eq_div_pow]; unfold digits; omega
  unfold s5
  rw [q]
  unfold digits
  omega
theorem s6_digits (a b c d e f g h : Nat) (ha : a ≤ 40) (hb : b ≤ 40) (hc : c ≤ 40) (hd : d ≤ 40) (he : e ≤ 40) (hf : f ≤ 40) (hg : g ≤ 40) (hh : h ≤ 40) :
    s6 (digits a b c d e f g h) = digits (a + e) (b + f) (c + g) (d + h) e f g h := by
  have q : (digits a b c d e f g h) >>> 32 = digits e f g h 0 0 0 0 := by
    rw [Nat.shiftRight_eq_div_pow]; unfold digits; omega
  unfold s6
  rw [q]
  unfold digits
  omega

theorem swar_bytes (a b c d e f g h : Nat) (ha : a < 256) (hb : b < 256) (hc : c < 256) (hd : d < 256) (he : e < 256) (hf : f < 256) (hg : g < 256) (hh : h < 256) :
    swar (ofBytes [a, b, c, d, e, f, g, h]) = byteCount a + byteCount b + byteCount c + byteCount d + byteCount e + byteCount f + byteCount g + byteCount h := by
  have ht := (t123 [a, b, c, d, e, f, g, h] (by simp; omega)).2
  simp only [List.length_cons, List.length_nil, Nat.reduceAdd] at ht
  have e1 : ∀ x, s1 x = t1 8 x := fun x => by unfold s1 t1; rw [masks.1, Nat.shiftRight_eq_div_pow]
  have e2 : ∀ x, s2 x = t2 8 x := fun x => by unfold s2 t2; rw [masks.2.1, Nat.shiftRight_eq_div_pow]
  have e3 : ∀ x, s3 x = t3 8 x := fun x => by unfold s3 t3; rw [masks.2.2, Nat.shiftRight_eq_div_pow]
  unfold swar
  rw [e1, e2, e3, ht]
  have := (byte_ok a ha).2.2.2.2.2; have := (byte_ok b hb).2.2.2.2.2; have := (byte_ok c hc).2.2.2.2.2; have := (byte_ok d hd).2.2.2.2.2
  have := (byte_ok e he).2.2.2.2.2; have := (byte_ok f hf).2.2.2.2.2; have := (byte_ok g hg).2.2.2.2.2; have := (byte_ok h hh).2.2.2.2.2
  simp only [List.map_cons, List.map_nil, ofBytes]
  generalize byteCount a = a at *; generalize byteCount b = b at *; generalize byteCount c = c at *; generalize byteCount d = d at *
  generalize byteCount e = e at *; generalize byteCount f = f at *; generalize byteCount g = g at *; generalize byteCount h = h at *
  have h127 : ∀ x, x &&& 127 = x % 128 := fun x => Nat.and_two_pow_sub_one_eq_mod x 7
  rw [h127]
  rw [show 256 * (256 * (256 * (256 * (256 * (256 * (256 * (256 * 0 + h) + g) + f) + e) + d) + c) + b) + a = digits a b c d e f g h from by unfold digits; omega]
  rw [s4_digits a b c d e f g h (by omega) (by omega) (by omega) (by omega) (by omega) (by omega) (by omega) (by omega)]
  rw [s5_digits _ _ _ _ _ _ _ _ (by omega) (by omega) (by omega) (by omega) (by omega) (by omega) (by omega) (by omega)]
  rw [s6_digits _ _ _ _ _ _ _ _ (by omega) (by omega) (by omega) (by omega) (by omega) (by omega) (by omega) (by omega)]
  unfold digits
  omega

theorem chunk (x k : Nat) : ((List.range 8).map (fun i => 8 * k + i) |>.filter x.testBit).length = byteCount (x / 2 ^ (8 * k) % 256) := by
  unfold byteCount
  rw [List.filter_map, List.length_map]
  congr 1
  apply List.filter_congr
  intro i hi
  have hi := List.mem_range.1 hi
  have h := Nat.testBit_mod_two_pow (x / 2 ^ (8 * k)) 8 i
  simp only [Nat.reducePow] at h
  rw [h, Nat.testBit_div_two_pow]
  simp [hi, Nat.add_comm]

theorem range64 : List.range 64 = (List.range 8).map (fun i => 8 * 0 + i) ++ (List.range 8).map (fun i => 8 * 1 + i) ++ (List.range 8).map (fun i => 8 * 2 + i) ++ (List.range 8).map (fun i => 8 * 3 + i) ++
    (List.range 8).map (fun i => 8 * 4 + i) ++ (List.range 8).map (fun i => 8 * 5 + i) ++ (List.range 8).map (fun i => 8 * 6 + i) ++ (List.range 8).map (fun i => 8 * 7 + i) := by decide

theorem swar_eq (x : Nat) (hx : x < 18446744073709551616) : swar x = (elems x).length := by
  have hb : x = ofBytes [x / 2 ^ (8 * 0) % 256, x / 2 ^ (8 * 1) % 256, x / 2 ^ (8 * 2) % 256, x / 2 ^ (8 * 3) % 256, x / 2 ^ (8 * 4) % 256, x / 2 ^ (8 * 5) % 256, x / 2 ^ (8 * 6) % 256, x / 2 ^ (8 * 7) % 256] := by
    simp only [ofBytes, Nat.reducePow, Nat.reduceMul]; omega
  conv => lhs; rw [hb]
  rw [swar_bytes _ _ _ _ _ _ _ _ (by omega) (by omega) (by omega) (by omega) (by omega) (by omega) (by omega) (by omega)]
  unfold elems
  rw [range64]
  simp only [List.filter_append, List.length_append, chunk]
end Go.Proofs.YtibaihchnbbokaaDoor
