/-
  Texts that the proof of the law stands on: Z2, Z14, Z19, Z3, MApp, Z20, Z21, Z22, Z23, Z24, Z25, Z26, Z28, Z27, D2, E2, E4, Map, E5, D3, E6.
-/
import Derived.Test.YtlpfglkopnmlnaaDoorCbC
import Derived.BigQuiet
import Derived.Maps.AppendAt
import Derived.Deep.AppendLies
import Derived.Handy
import Derived.Deep.RegionHeld3
import Derived.Maps.Own
import Derived.Maps.OwnOps
import Derived.Maps.OwnSet
import Derived.Maps.Views
import Derived.Test.YtlpfglkopnmlnaaDoorProg
import Derived.WideKeyPair
import Derived.WideKeyEntry
import Derived.WideKeyElems3
import Derived.Maps.Keyed
set_option linter.unusedVariables false
set_option linter.unusedSimpArgs false
namespace Go.Proofs.YtlpfglkopnmlnaaDoor
def pivI (l : List Int) : Nat → Nat
  | 0 => 0
  | i + 1 => if l.getD (i + 1) 0 ≤ l.getD i 0 then pivI l i else i + 1
def pivot (l : List Int) : Nat := pivI l (l.length - 1)
def findJ (r : List Int) (a : Int) : Nat → Nat → Nat
  | 0, j => j
  | f + 1, j => if r.getD j 0 ≤ a then findJ r a f (j + 1) else j
def turned (l : List Int) (i : Nat) : List Int := l.take i ++ (l.drop i).reverse
def swapL (r : List Int) (p j : Nat) : List Int := (r.set p (r.getD j 0)).set j (r.getD p 0)
def nextP (l : List Int) : List Int :=
  if pivot l = 0 then turned l 0 else swapL (turned l (pivot l)) (pivot l - 1) (findJ (turned l (pivot l)) ((turned l (pivot l)).getD (pivot l - 1) 0) l.length (pivot l))
theorem pivI_le (l : List Int) : ∀ i, pivI l i ≤ i
  | 0 => Nat.le_refl _
  | i + 1 => by
    unfold pivI
    split
    · exact Nat.le_succ_of_le (pivI_le l i)
    · exact Nat.le_refl _
theorem pivI_up (l : List Int) : ∀ i, pivI l i ≠ 0 → l.getD (pivI l i - 1) 0 < l.getD (pivI l i) 0
  | 0, h => absurd rfl h
  | i + 1, h => by
    unfold pivI at h ⊢
    split
    · rename_i h2
      rw [if_pos h2] at h
      exact pivI_up l i h
    · rename_i h2
      rw [if_neg h2] at h
      simp only [Nat.add_sub_cancel]
      omega
theorem turned_len (l : List Int) {i : Nat} (h : i ≤ l.length) : (turned l i).length = l.length := by
  unfold turned
  simp
  omega
theorem turned_perm (l : List Int) (i : Nat) : (turned l i).Perm l := by
  unfold turned
  have h := (List.reverse_perm (l.drop i)).append_left (l.take i)
  rwa [List.take_append_drop] at h
theorem findJ_spec (r : List Int) (a : Int) : ∀ f j, (∃ k, j ≤ k ∧ k < j + f ∧ a < r.getD k 0) → j ≤ findJ r a f j ∧ findJ r a f j < j + f ∧ a < r.getD (findJ r a f j) 0 ∧ ∀ k, j ≤ k → k < findJ r a f j → r.getD k 0 ≤ a
  | 0, j, ⟨k, h1, h2, _⟩ => by omega
  | f + 1, j, ⟨k, h1, h2, h3⟩ => by
    unfold findJ
    split
    · rename_i h
      have hk : k ≠ j := fun e => by subst e; omega
      obtain ⟨a1, a2, a3, a4⟩ := findJ_spec r a f (j + 1) ⟨k, by omega, by omega, h3⟩
      refine ⟨by omega, by omega, a3, fun k' h4 h5 => ?_⟩
      by_cases e : k' = j
      · subst e; exact h
      · exact a4 k' (by omega) h5
    · rename_i h
      exact ⟨Nat.le_refl _, by omega, by omega, fun k' h4 h5 => by omega⟩
theorem swapL_perm {r : List Int} {p j : Nat} (hp : p < r.length) (hj : j < r.length) : (swapL r p j).Perm r := by
  unfold swapL
  simp only [List.getD_eq_getElem?_getD, List.getElem?_eq_getElem hp, List.getElem?_eq_getElem hj, Option.getD_some]
  exact List.set_set_perm hp hj
/-- Where the swap takes place. -/
theorem next_at {l : List Int} (h : pivot l ≠ 0) : pivot l - 1 < (turned l (pivot l)).length ∧ pivot l < l.length ∧ findJ (turned l (pivot l)) ((turned l (pivot l)).getD (pivot l - 1) 0) l.length (pivot l) < (turned l (pivot l)).length ∧ pivot l ≤ findJ (turned l (pivot l)) ((turned l (pivot l)).getD (pivot l - 1) 0) l.length (pivot l) ∧
    (turned l (pivot l)).getD (pivot l - 1) 0 < (turned l (pivot l)).getD (findJ (turned l (pivot l)) ((turned l (pivot l)).getD (pivot l - 1) 0) l.length (pivot l)) 0 := by
  have h1 := pivI_le l (l.length - 1)
  have h2 := pivI_up l (l.length - 1) h
  have hpl : pivot l < l.length := by
    unfold pivot at h ⊢
    have : l.length ≠ 0 := fun e => by rw [e] at h; exact h rfl
    omega
  have hl := turned_len l (i := pivot l) (by omega)
  have e1 : (turned l (pivot l)).getD (pivot l - 1) 0 = l.getD (pivot l - 1) 0 := by
    unfold turned
    simp only [List.getD_eq_getElem?_getD]
    rw [List.getElem?_append_left (by simp; omega), List.getElem?_take, if_pos (by omega)]
  have e2 : (turned l (pivot l)).getD (l.length - 1) 0 = l.getD (pivot l) 0 := by
    unfold turned
    simp only [List.getD_eq_getElem?_getD]
    rw [List.getElem?_append_right (by simp; omega), List.getElem?_reverse (by simp; omega)]
    simp only [List.length_take, List.length_drop, List.getElem?_drop]
    congr 2
    omega
  have h2' : l.getD (pivot l - 1) 0 < l.getD (pivot l) 0 := h2
  obtain ⟨a1, a2, a3, -⟩ := findJ_spec (turned l (pivot l)) ((turned l (pivot l)).getD (pivot l - 1) 0) l.length (pivot l) ⟨l.length - 1, by omega, by omega, by rw [e1, e2]; exact h2'⟩
  refine ⟨by omega, hpl, ?_, a1, a3⟩
  rcases Nat.lt_or_ge (findJ (turned l (pivot l)) ((turned l (pivot l)).getD (pivot l - 1) 0) l.length (pivot l)) (turned l (pivot l)).length with h3 | h3
  · exact h3
  · exfalso
    obtain ⟨-, -, -, a4⟩ := findJ_spec (turned l (pivot l)) ((turned l (pivot l)).getD (pivot l - 1) 0) l.length (pivot l) ⟨l.length - 1, by omega, by omega, by rw [e1, e2]; exact h2'⟩
    have := a4 (l.length - 1) (by omega) (by omega)
    rw [e1, e2] at this
    omega
theorem nextP_perm (l : List Int) : (nextP l).Perm l := by
  unfold nextP
  split
  · exact turned_perm l 0
  · rename_i h
    obtain ⟨h1, -, h2, -⟩ := next_at h
    exact (swapL_perm h1 h2).trans (turned_perm l _)
/-- Names that keep the order. -/
def Keeps (f : Int → Int) (l : List Int) : Prop := ∀ x ∈ l, ∀ y ∈ l, f x ≤ f y ↔ x ≤ y
theorem getD_in {l : List Int} {i : Nat} (h : i < l.length) : l.getD i 0 ∈ l := by
  simp [List.getD_eq_getElem?_getD, List.getElem?_eq_getElem h]
theorem getD_map0 {f : Int → Int} {l : List Int} {i : Nat} (h : i < l.length) : (l.map f).getD i 0 = f (l.getD i 0) := by
  simp [List.getD_eq_getElem?_getD, List.getElem?_eq_getElem h]
theorem pivI_map {f : Int → Int} {l : List Int} (hf : Keeps f l) : ∀ i, i < l.length → pivI (l.map f) i = pivI l i
  | 0, _ => rfl
  | i + 1, h => by
    unfold pivI
    rw [getD_map0 h, getD_map0 (by omega), pivI_map hf i (by omega)]
    have := hf _ (getD_in h) _ (getD_in (show i < l.length by omega))
    by_cases e : l.getD (i + 1) 0 ≤ l.getD i 0
    · rw [if_pos e, if_pos (this.2 e)]
    · rw [if_neg e, if_neg (fun h2 => e (this.1 h2))]
theorem turned_map (f : Int → Int) (l : List Int) (i : Nat) : turned (l.map f) i = (turned l i).map f := by
  unfold turned
  rw [List.map_append, List.map_take, List.map_reverse, List.map_drop]
theorem findJ_map {f : Int → Int} {r : List Int} (hf : Keeps f r) {a : Int} (ha : a ∈ r) : ∀ n j, (∃ k, j ≤ k ∧ k < r.length ∧ a < r.getD k 0) → findJ (r.map f) (f a) n j = findJ r a n j
  | 0, _, _ => rfl
  | n + 1, j, ⟨k, h1, h2, h3⟩ => by
    unfold findJ
    rw [getD_map0 (by omega)]
    have := hf _ (getD_in (show j < r.length by omega)) _ ha
    by_cases e : r.getD j 0 ≤ a
    · rw [if_pos e, if_pos (this.2 e)]
      have hk : k ≠ j := fun e2 => by subst e2; omega
      exact findJ_map hf ha n (j + 1) ⟨k, by omega, h2, h3⟩
    · rw [if_neg e, if_neg (fun h => e (this.1 h))]
theorem swapL_map {f : Int → Int} {r : List Int} {p j : Nat} (hp : p < r.length) (hj : j < r.length) : swapL (r.map f) p j = (swapL r p j).map f := by
  unfold swapL
  rw [getD_map0 hp, getD_map0 hj, List.map_set, List.map_set]
theorem Keeps.perm {f : Int → Int} {l k : List Int} (h : Keeps f l) (hp : k.Perm l) : Keeps f k := fun x hx y hy => h x (hp.mem_iff.1 hx) y (hp.mem_iff.1 hy)
theorem nextP_map {f : Int → Int} {l : List Int} (hf : Keeps f l) : nextP (l.map f) = (nextP l).map f := by
  cases hl : l with
  | nil => rfl
  | cons x t =>
    rw [← hl]
    have hlen : 0 < l.length := by rw [hl]; simp
    have hp : pivot (l.map f) = pivot l := by
      unfold pivot
      rw [List.length_map]
      exact pivI_map hf _ (by omega)
    unfold nextP
    rw [hp]
    by_cases h : pivot l = 0
    · rw [if_pos h, if_pos h, turned_map]
    · rw [if_neg h, if_neg h, turned_map, List.length_map]
      obtain ⟨h1, h2, h3, h4, h5⟩ := next_at h
      have hr := hf.perm (turned_perm l (pivot l))
      rw [getD_map0 h1, findJ_map hr (getD_in h1) _ _ ⟨_, h4, h3, h5⟩, swapL_map h1 h3]
def iterP : Nat → List Int → List Int
  | 0, l => l
  | n + 1, l => iterP n (nextP l)
theorem iterP_add : ∀ (a b : Nat) (l : List Int), iterP (a + b) l = iterP b (iterP a l)
  | 0, b, l => by rw [Nat.zero_add]; rfl
  | a + 1, b, l => by rw [show a + 1 + b = (a + b) + 1 by omega]; exact iterP_add a b (nextP l)
theorem iterP_perm : ∀ (n : Nat) (l : List Int), (iterP n l).Perm l
  | 0, l => List.Perm.refl _
  | n + 1, l => (iterP_perm n (nextP l)).trans (nextP_perm l)
theorem iterP_map {f : Int → Int} : ∀ (n : Nat) {l : List Int}, Keeps f l → iterP n (l.map f) = (iterP n l).map f
  | 0, _, _ => rfl
  | n + 1, l, h => by
    show iterP n (nextP (l.map f)) = (iterP n (nextP l)).map f
    rw [nextP_map h]
    exact iterP_map n (h.perm (nextP_perm l))
def codeP (l : List Int) : Nat := l.foldl (fun n x => 8 * n + x.toNat) 1
def orbM (p : List Int) : Nat → List Int → Nat → Option Nat
  | 0, _, _ => none
  | f + 1, q, M => if q = p then some (M ||| (1 <<< codeP q)) else orbM p f (nextP q) (M ||| (1 <<< codeP q))
def sortedPats : Nat → List (List Int)
  | 0 => [[]]
  | 1 => [[0]]
  | k + 1 => (sortedPats k).flatMap fun p => [p ++ [p.getLastD 0], p ++ [p.getLastD 0 + 1]]
def maskGo : List (List Int) → Nat → Option Nat
  | [], M => some M
  | p :: L, M => match orbM p 721 (nextP p) M with
    | none => none
    | some M' => maskGo L M'
def allP : Nat → List (List Int)
  | 0 => [[]]
  | k + 1 => (allP k).flatMap fun p => (List.range 6).map fun x => ((x : Nat) : Int) :: p
def normalP (l : List Int) : Bool := l.all fun x => x == 0 || l.any fun y => y == x - 1
def okP (k : Nat) : Bool := match maskGo (sortedPats k) 0 with | none => false | some M => (allP k).all fun l => !normalP l || M.testBit (codeP l)
theorem orbM_spec (p : List Int) : ∀ f q M M', orbM p f q M = some M' → ∃ N, N < f ∧ iterP N q = p ∧ ∀ c, M'.testBit c = true → M.testBit c = true ∨ ∃ i, i ≤ N ∧ c = codeP (iterP i q)
  | 0, q, M, M', h => by simp [orbM] at h
  | f + 1, q, M, M', h => by
    have hb : ∀ c, (M ||| (1 <<< codeP q)).testBit c = true → M.testBit c = true ∨ c = codeP q := fun c hc => by
      rw [Nat.testBit_or, Bool.or_eq_true] at hc
      rcases hc with hc | hc
      · exact .inl hc
      · rw [Nat.one_shiftLeft, Nat.testBit_two_pow] at hc
        exact .inr (of_decide_eq_true hc).symm
    unfold orbM at h
    split at h
    · rename_i e
      simp only [Option.some.injEq] at h
      subst h
      refine ⟨0, by omega, e, fun c hc => ?_⟩
      rcases hb c hc with h1 | h1
      · exact .inl h1
      · exact .inr ⟨0, Nat.le_refl _, h1⟩
    · obtain ⟨N, h1, h2, h3⟩ := orbM_spec p f _ _ _ h
      refine ⟨N + 1, by omega, h2, fun c hc => ?_⟩
      rcases h3 c hc with h4 | ⟨i, h4, h5⟩
      · rcases hb c h4 with h6 | h6
        · exact .inl h6
        · exact .inr ⟨0, by omega, h6⟩
      · exact .inr ⟨i + 1, by omega, h5⟩
theorem maskGo_spec : ∀ L M M', maskGo L M = some M' → (∀ p ∈ L, ∃ N, N < 721 ∧ iterP (N + 1) p = p) ∧ ∀ c, M'.testBit c = true → M.testBit c = true ∨ ∃ p, p ∈ L ∧ ∃ i, c = codeP (iterP i p)
  | [], M, M', h => by
    simp only [maskGo, Option.some.injEq] at h
    subst h
    exact ⟨fun p hp => by simp at hp, fun c hc => .inl hc⟩
  | p :: L, M, M', h => by
    unfold maskGo at h
    cases ho : orbM p 721 (nextP p) M with
    | none => rw [ho] at h; cases h
    | some M1 =>
      rw [ho] at h
      obtain ⟨N, h1, h2, h3⟩ := orbM_spec p 721 _ _ _ ho
      obtain ⟨k1, k2⟩ := maskGo_spec L M1 M' h
      refine ⟨fun q hq => ?_, fun c hc => ?_⟩
      · rcases List.mem_cons.1 hq with rfl | hq
        · exact ⟨N, h1, h2⟩
        · exact k1 q hq
      · rcases k2 c hc with h4 | ⟨q, h4, h5⟩
        · rcases h3 c h4 with h6 | ⟨i, _, h6⟩
          · exact .inl h6
          · exact .inr ⟨p, by simp, i + 1, h6⟩
        · exact .inr ⟨q, by simp [h4], h5⟩
theorem codeP_snocgo : ∀ (l : List Int) (a : Nat), l.foldl (fun n x => 8 * n + x.toNat) a = a * 8 ^ l.length + l.foldl (fun n x => 8 * n + x.toNat) 0
  | [], a => by simp
  | x :: l, a => by
    rw [List.foldl_cons, List.foldl_cons, codeP_snocgo l (8 * a + x.toNat), codeP_snocgo l (8 * 0 + x.toNat), List.length_cons, Nat.pow_succ, Nat.mul_zero, Nat.zero_add, Nat.add_mul, Nat.mul_comm 8 a, Nat.mul_assoc, Nat.mul_comm 8, Nat.add_assoc]
def digs (l : List Int) : Prop := ∀ x ∈ l, 0 ≤ x ∧ x < 8
theorem code0_lt : ∀ l : List Int, digs l → l.foldl (fun n x => 8 * n + x.toNat) 0 < 8 ^ l.length
  | [], _ => by simp
  | x :: l, h => by
    have hx := h x (by simp)
    have ih := code0_lt l (fun y hy => h y (by simp [hy]))
    rw [List.foldl_cons, codeP_snocgo, Nat.mul_zero, Nat.zero_add, List.length_cons, Nat.pow_succ]
    have : x.toNat * 8 ^ l.length ≤ 7 * 8 ^ l.length := Nat.mul_le_mul_right _ (by omega)
    omega
theorem code0_inj : ∀ l k : List Int, l.length = k.length → digs l → digs k → l.foldl (fun n x => 8 * n + x.toNat) 0 = k.foldl (fun n x => 8 * n + x.toNat) 0 → l = k
  | [], [], _, _, _, _ => rfl
  | [], _ :: _, h, _, _, _ => by simp at h
  | _ :: _, [], h, _, _, _ => by simp at h
  | x :: l, y :: k, h, hl, hk, he => by
    have hx := hl x (by simp)
    have hy := hk y (by simp)
    have hl' : digs l := fun z hz => hl z (by simp [hz])
    have hk' : digs k := fun z hz => hk z (by simp [hz])
    have hlen : l.length = k.length := by simpa using h
    have a1 := code0_lt l hl'
    have a2 := code0_lt k hk'
    rw [List.foldl_cons, List.foldl_cons, codeP_snocgo l, codeP_snocgo k, Nat.mul_zero, Nat.zero_add, Nat.zero_add, hlen] at he
    rw [hlen] at a1
    have hxy : x.toNat = y.toNat := by
      have p := Nat.pow_pos (n := k.length) (show 0 < 8 by decide)
      have e1 := congrArg (· / 8 ^ k.length) he
      rw [Nat.add_comm (x.toNat * _), Nat.add_comm (y.toNat * _)] at e1
      have e2 : (l.foldl (fun n x => 8 * n + x.toNat) 0 + x.toNat * 8 ^ k.length) / 8 ^ k.length = (k.foldl (fun n x => 8 * n + x.toNat) 0 + y.toNat * 8 ^ k.length) / 8 ^ k.length := e1
      rw [Nat.add_mul_div_right _ _ p, Nat.add_mul_div_right _ _ p, Nat.div_eq_of_lt a1, Nat.div_eq_of_lt a2] at e2
      omega
    rw [hxy] at he
    rw [code0_inj l k hlen hl' hk' (by omega), show x = y by omega]
theorem codeP_inj {l k : List Int} (h : l.length = k.length) (hl : digs l) (hk : digs k) (he : codeP l = codeP k) : l = k := by
  unfold codeP at he
  rw [codeP_snocgo l, codeP_snocgo k, h] at he
  exact code0_inj l k h hl hk (by omega)
theorem codeP_len {l k : List Int} (hl : digs l) (hk : digs k) (he : codeP l = codeP k) : l.length = k.length := by
  have b : ∀ l : List Int, digs l → 8 ^ l.length ≤ codeP l ∧ codeP l < 8 ^ (l.length + 1) := fun l h => by
    have := code0_lt l h
    unfold codeP
    rw [codeP_snocgo, Nat.one_mul, Nat.pow_succ]
    omega
  have b1 := b l hl
  have b2 := b k hk
  rw [he] at b1
  rcases Nat.lt_trichotomy l.length k.length with h | h | h
  · have : 8 ^ (l.length + 1) ≤ 8 ^ k.length := Nat.pow_le_pow_right (by decide) h
    omega
  · exact h
  · have : 8 ^ (k.length + 1) ≤ 8 ^ l.length := Nat.pow_le_pow_right (by decide) h
    omega
/-- The rank of a value among those of a list. -/
def dedupI : List Int → List Int
  | [] => []
  | x :: l => if x ∈ l then dedupI l else x :: dedupI l
theorem mem_dedupI {x : Int} : ∀ {l : List Int}, x ∈ dedupI l ↔ x ∈ l
  | [] => Iff.rfl
  | y :: l => by
    unfold dedupI
    split
    · rename_i h
      rw [mem_dedupI, List.mem_cons]
      exact ⟨.inr, fun h2 => h2.elim (fun e => by rw [e]; exact h) id⟩
    · rw [List.mem_cons, List.mem_cons, mem_dedupI]
theorem nodup_dedupI : ∀ l : List Int, (dedupI l).Nodup
  | [] => List.nodup_nil
  | y :: l => by
    unfold dedupI
    split
    · exact nodup_dedupI l
    · rename_i h
      rw [List.nodup_cons, mem_dedupI]
      exact ⟨h, nodup_dedupI l⟩
def rkI (l : List Int) (x : Int) : Nat := ((dedupI l).filter fun y => decide (y < x)).length
theorem filter_lt_le {L : List Int} {p q : Int → Bool} (h : ∀ x ∈ L, p x = true → q x = true) : (L.filter p).length ≤ (L.filter q).length := by
  induction L with
  | nil => simp
  | cons a L ih =>
    have ih := ih (fun x hx => h x (by simp [hx]))
    have ha := h a (by simp)
    rw [List.filter_cons, List.filter_cons]
    cases hp : p a with
    | false =>
      cases hq : q a <;> simp <;> omega
    | true =>
      rw [ha hp]; simp; omega
theorem filter_lt_lt {L : List Int} {p q : Int → Bool} (h : ∀ x ∈ L, p x = true → q x = true) {a : Int} (ha : a ∈ L) (hp : p a = false) (hq : q a = true) : (L.filter p).length < (L.filter q).length := by
  induction L with
  | nil => simp at ha
  | cons b L ih =>
    have h' := fun x (hx : x ∈ L) => h x (by simp [hx])
    have hb := h b (by simp)
    rw [List.filter_cons, List.filter_cons]
    rcases List.mem_cons.1 ha with e | e
    · subst e
      rw [hp, hq]
      have := filter_lt_le h'
      simp; omega
    · have ih := ih h' e
      cases hpb : p b with
      | false => cases hqb : q b <;> simp <;> omega
      | true => rw [hb hpb]; simp; omega
theorem rkI_mono {l : List Int} {x y : Int} (hx : x ∈ l) : x < y ↔ rkI l x < rkI l y := by
  constructor
  · intro h
    refine filter_lt_lt (fun z _ hz => ?_) (mem_dedupI.2 hx) (by simp) (by simpa using h)
    have := of_decide_eq_true hz
    exact decide_eq_true (by omega)
  · intro h
    rcases Int.lt_or_le x y with e | e
    · exact e
    · exfalso
      have := filter_lt_le (L := dedupI l) (p := fun z => decide (z < y)) (q := fun z => decide (z < x)) (fun z _ hz => by
        have := of_decide_eq_true hz
        exact decide_eq_true (by omega))
      unfold rkI at h
      omega
theorem dedupI_len (l : List Int) : (dedupI l).length ≤ l.length := by
  induction l with
  | nil => simp [dedupI]
  | cons a l ih => unfold dedupI; split <;> simp <;> omega
theorem rkI_lt {l : List Int} {x : Int} (hx : x ∈ l) : rkI l x < l.length := by
  have h := filter_lt_lt (L := dedupI l) (p := fun z => decide (z < x)) (q := fun _ => true) (fun _ _ _ => rfl) (mem_dedupI.2 hx) (by simp) rfl
  have h2 : ((dedupI l).filter fun _ => true).length = (dedupI l).length := by simp
  have := dedupI_len l
  unfold rkI
  omega
theorem max_of : ∀ L : List Int, L ≠ [] → ∃ m ∈ L, ∀ x ∈ L, x ≤ m
  | [], h => absurd rfl h
  | [a], _ => ⟨a, by simp, fun x hx => by simp at hx; omega⟩
  | a :: b :: L, _ => by
    obtain ⟨m, h1, h2⟩ := max_of (b :: L) (by simp)
    by_cases e : m ≤ a
    · exact ⟨a, by simp, fun x hx => by
        rcases List.mem_cons.1 hx with rfl | hx
        · omega
        · have := h2 x hx; omega⟩
    · exact ⟨m, by simp only [List.mem_cons] at h1 ⊢; exact .inr h1, fun x hx => by
        rcases List.mem_cons.1 hx with rfl | hx
        · omega
        · exact h2 x hx⟩
theorem rkI_pred {l : List Int} {x : Int} (hx : x ∈ l) (h0 : rkI l x ≠ 0) : ∃ y ∈ l, rkI l y + 1 = rkI l x := by
  have hne : ((dedupI l).filter fun y => decide (y < x)) ≠ [] := fun e => h0 (by unfold rkI; rw [e]; rfl)
  obtain ⟨y, hy, hmax⟩ := max_of _ hne
  obtain ⟨h1, h2⟩ := List.mem_filter.1 hy
  have hyx : y < x := of_decide_eq_true h2
  refine ⟨y, mem_dedupI.1 h1, ?_⟩
  have e : (dedupI l).filter (fun z => decide (z < x)) = (dedupI l).filter (fun z => decide (z < y) || z == y) := List.filter_congr fun z hz => by
    rw [Bool.eq_iff_iff]
    simp only [decide_eq_true_eq, Bool.or_eq_true, beq_iff_eq]
    constructor
    · intro hzx
      have := hmax z (List.mem_filter.2 ⟨hz, decide_eq_true hzx⟩)
      omega
    · rintro (h | h) <;> omega
  unfold rkI
  rw [e]
  have hn := nodup_dedupI l
  generalize dedupI l = L at *
  clear e hmax hne hx h0 hy
  induction L with
  | nil => simp at h1
  | cons a L ih =>
    rw [List.nodup_cons] at hn
    rw [List.filter_cons, List.filter_cons]
    rcases List.mem_cons.1 h1 with e | e
    · subst e
      have hno : L.filter (fun z => decide (z < y) || z == y) = L.filter (fun z => decide (z < y)) := List.filter_congr fun z hz => by
        have : z ≠ y := fun e => hn.1 (e ▸ hz)
        simp [this]
      rw [hno]
      simp
    · have ih := ih e hn.2
      have hay : a ≠ y := fun e2 => hn.1 (e2 ▸ e)
      by_cases e2 : a < y
      · simp [e2]; omega
      · simp [e2, hay]; omega
/-- The pattern of a list. -/
def patI (l : List Int) : List Int := l.map fun x => (rkI l x : Int)
theorem patI_normal (l : List Int) : normalP (patI l) = true := by
  unfold normalP
  rw [List.all_eq_true]
  intro r hr
  obtain ⟨x, hx, rfl⟩ := List.mem_map.1 hr
  rw [Bool.or_eq_true]
  by_cases h : rkI l x = 0
  · left; rw [h]; rfl
  · right
    obtain ⟨y, hy, e⟩ := rkI_pred hx h
    rw [List.any_eq_true]
    exact ⟨_, List.mem_map.2 ⟨y, hy, rfl⟩, beq_iff_eq.2 (by omega)⟩
def unI (l : List Int) (r : Int) : Int := (l.find? fun x => (rkI l x : Int) == r).getD 0
theorem unI_rk {l : List Int} {x : Int} (hx : x ∈ l) : unI l (rkI l x) = x := by
  unfold unI
  cases h : l.find? (fun y => (rkI l y : Int) == (rkI l x : Int)) with
  | none =>
    have := List.find?_eq_none.1 h x hx
    simp at this
  | some y =>
    have h1 := List.find?_some h
    have h2 := List.mem_of_find?_eq_some h
    have e : rkI l y = rkI l x := by have := beq_iff_eq.1 h1; omega
    show y = x
    have a := (rkI_mono (y := x) h2)
    have b := (rkI_mono (y := y) hx)
    omega
theorem patI_un (l : List Int) : (patI l).map (unI l) = l := by
  unfold patI
  rw [List.map_map]
  refine (List.map_congr_left fun x hx => ?_).trans (List.map_id l)
  exact unI_rk hx
theorem unI_keeps (l : List Int) : Keeps (unI l) (patI l) := by
  intro a ha b hb
  obtain ⟨x, hx, rfl⟩ := List.mem_map.1 ha
  obtain ⟨y, hy, rfl⟩ := List.mem_map.1 hb
  rw [unI_rk hx, unI_rk hy]
  have h1 := rkI_mono (y := x) hy
  omega
theorem mem_allP : ∀ (k : Nat) (l : List Int), l.length = k → (∀ x ∈ l, 0 ≤ x ∧ x < 6) → l ∈ allP k
  | 0, l, h, _ => by rw [List.length_eq_zero_iff.1 h]; simp [allP]
  | k + 1, [], h, _ => by simp at h
  | k + 1, x :: l, h, hx => by
    have ih := mem_allP k l (by simpa using h) (fun y hy => hx y (by simp [hy]))
    have h0 := hx x (by simp)
    unfold allP
    rw [List.mem_flatMap]
    exact ⟨l, ih, List.mem_map.2 ⟨x.toNat, List.mem_range.2 (by omega), by rw [Int.toNat_of_nonneg h0.1]⟩⟩
theorem normalP_perm {l k : List Int} (h : l.Perm k) (hl : normalP l = true) : normalP k = true := by
  unfold normalP at hl ⊢
  rw [List.all_eq_true] at hl ⊢
  intro x hx
  have := hl x (h.mem_iff.2 hx)
  rw [Bool.or_eq_true] at this ⊢
  refine this.imp id fun h2 => ?_
  rw [List.any_eq_true] at h2 ⊢
  obtain ⟨y, hy, e⟩ := h2
  exact ⟨y, h.mem_iff.1 hy, e⟩
def sortedOk (k : Nat) : Bool := (sortedPats k).all fun s => decide (s.Pairwise (· ≤ ·)) && s.all fun x => decide (0 ≤ x) && decide (x < 6)
theorem sortedOk_all : (sortedOk 1 && (sortedOk 2 && (sortedOk 3 && (sortedOk 4 && (sortedOk 5 && sortedOk 6))))) = true := by decide +kernel
theorem sorted_ok {k : Nat} (h1 : 1 ≤ k) (h6 : k ≤ 6) : sortedOk k = true := by
  have h := sortedOk_all
  simp only [Bool.and_eq_true] at h
  rcases (show k = 1 ∨ k = 2 ∨ k = 3 ∨ k = 4 ∨ k = 5 ∨ k = 6 by omega) with rfl | rfl | rfl | rfl | rfl | rfl
  · exact h.1
  · exact h.2.1
  · exact h.2.2.1
  · exact h.2.2.2.1
  · exact h.2.2.2.2.1
  · exact h.2.2.2.2.2
/-- Every pattern is in the orbit of a sorted one, which comes back. -/
theorem pat_orbit {k : Nat} (h1 : 1 ≤ k) (h6 : k ≤ 6) (hok : okP k = true) {p : List Int} (hl : p.length = k) (hd : ∀ x ∈ p, 0 ≤ x ∧ x < 6) (hn : normalP p = true) :
    ∃ s i N, s.Pairwise (· ≤ ·) ∧ N < 721 ∧ iterP (N + 1) s = s ∧ iterP i s = p := by
  unfold okP at hok
  cases hm : maskGo (sortedPats k) 0 with
  | none => rw [hm] at hok; cases hok
  | some M =>
    rw [hm] at hok
    have h2 := List.all_eq_true.1 hok p (mem_allP k p hl hd)
    rw [hn] at h2
    have h3 : M.testBit (codeP p) = true := by simpa using h2
    obtain ⟨k1, k2⟩ := maskGo_spec _ _ _ hm
    rcases k2 _ h3 with h4 | ⟨s, hs, i, h4⟩
    · simp at h4
    · have hso := List.all_eq_true.1 (sorted_ok h1 h6) s hs
      rw [Bool.and_eq_true] at hso
      have hsd : digs s := fun x hx => by
        have := List.all_eq_true.1 hso.2 x hx
        simp only [Bool.and_eq_true, decide_eq_true_eq] at this
        omega
      have hid : digs (iterP i s) := fun x hx => hsd x ((iterP_perm i s).mem_iff.1 hx)
      have hpd : digs p := fun x hx => by have := hd x hx; omega
      obtain ⟨N, hN, hr⟩ := k1 s hs
      exact ⟨s, i, N, of_decide_eq_true hso.1, hN, hr, (codeP_inj (codeP_len hpd hid h4) hpd hid h4).symm⟩
theorem iterP_comm (a b : Nat) (l : List Int) : iterP a (iterP b l) = iterP b (iterP a l) := by rw [← iterP_add, ← iterP_add, Nat.add_comm]
theorem iterP_mul {n : Nat} {s : List Int} (h : iterP n s = s) : ∀ i, iterP (i * n) s = s
  | 0 => by rw [Nat.zero_mul]; rfl
  | i + 1 => by rw [Nat.succ_mul, iterP_add, iterP_mul h i, h]
/-- All orders of a row come one after the other, and the row comes back. -/
theorem orbit_all {l : List Int} (h1 : 1 ≤ l.length) (h6 : l.length ≤ 6) (hok : okP l.length = true) : (∃ N, N < 721 ∧ iterP (N + 1) l = l) ∧ ∀ q : List Int, q.Perm l → ∃ i, iterP i l = q := by
  have hpl : (patI l).length = l.length := by simp [patI]
  have hpd : ∀ x ∈ patI l, 0 ≤ x ∧ x < 6 := fun r hr => by
    obtain ⟨x, hx, rfl⟩ := List.mem_map.1 hr
    have := rkI_lt hx
    omega
  obtain ⟨s, i, N, hs, hN, hr, hi⟩ := pat_orbit h1 h6 hok hpl hpd (patI_normal l)
  have hback : iterP (N + 1) (patI l) = patI l := by rw [← hi, iterP_comm, hr]
  have hl : ∀ j, (iterP j (patI l)).map (unI l) = iterP j l := fun j => by rw [← iterP_map j (unI_keeps l), patI_un]
  refine ⟨⟨N, hN, by rw [← hl, hback, patI_un]⟩, fun q hq => ?_⟩
  have hqp : (q.map fun x => (rkI l x : Int)).Perm (patI l) := hq.map _
  obtain ⟨s', i', N', hs', -, -, hi'⟩ := pat_orbit h1 h6 hok (p := q.map fun x => (rkI l x : Int)) (by rw [hqp.length_eq, hpl]) (fun x hx => hpd x (hqp.mem_iff.1 hx)) (normalP_perm hqp.symm (patI_normal l))
  have b1 : s'.Perm (q.map fun x => (rkI l x : Int)) := by rw [← hi']; exact (iterP_perm i' s').symm
  have b2 : (patI l).Perm s := by rw [← hi]; exact iterP_perm i s
  have e1 : s'.Perm s := b1.trans (hqp.trans b2)
  have e2 : s' = s := List.Perm.eq_of_pairwise (le := fun a b => decide (a ≤ b)) (fun a b _ _ h1 h2 => by have := of_decide_eq_true h1; have := of_decide_eq_true h2; omega) (hs'.imp fun h => decide_eq_true h) (hs.imp fun h => decide_eq_true h) e1
  subst e2
  have e3 : iterP (i * N) (patI l) = s' := by rw [← hi, ← iterP_add, show i + i * N = i * (N + 1) by rw [Nat.mul_succ, Nat.add_comm], iterP_mul hr]
  refine ⟨i * N + i', ?_⟩
  rw [← hl, iterP_add, e3, hi', List.map_map]
  refine (List.map_congr_left fun x hx => ?_).trans (List.map_id q)
  exact unI_rk (hq.mem_iff.1 hx)
end Go.Proofs.YtlpfglkopnmlnaaDoor
namespace Go.Proofs.YtlpfglkopnmlnaaDoor
open Go.RowKit Go.Shelf Go.Sort
theorem turned_before {xs : List Int} {i j : Nat} (hi : i ≤ xs.length) (hj : j < i) : (turned xs i)[j]? = xs[j]? := by
  rw [turned, List.getElem?_append_left (by simp; omega), List.getElem?_take, if_pos hj]
theorem turned_behind {xs : List Int} {i j : Nat} (hi : i ≤ xs.length) (hj : i ≤ j) : (turned xs i)[j]? = (xs.drop i).reverse[j - i]? := by
  rw [turned, List.getElem?_append_right (by simp; omega)]
  have : (xs.take i).length = i := by simp; omega
  rw [this]
theorem putCells_at {off j : Nat} {d : Array Int} {cur : Array Value} (h : j < cur.size) : (putCells (Value.int .i64) off d cur)[j]? = some (if off ≤ j ∧ j < off + d.size then Value.int .i64 d[j - off]! else cur[j]) := by
  simp [putCells, h]
theorem take_putCells_turned (cur : Array Value) (xs : List Int) (i : Nat) (hi : i ≤ xs.length) (hc : xs.length ≤ cur.size) (ht : cur.toList.take xs.length = xs.map (Value.int .i64)) :
    (putCells (Value.int .i64) i (xs.drop i).reverse.toArray cur).toList.take xs.length = (turned xs i).map (Value.int .i64) := by
  apply List.ext_getElem?
  intro j
  by_cases hj : j < xs.length
  · have hjc : j < cur.size := by omega
    have h0 : cur[j]? = xs[j]?.map (Value.int .i64) := by
      have := congrArg (fun l => l[j]?) ht
      simp only [List.getElem?_take_of_lt hj, Array.getElem?_toList, List.getElem?_map] at this
      exact this
    have hs : (xs.drop i).reverse.toArray.size = xs.length - i := by simp
    rw [List.getElem?_take_of_lt hj, Array.getElem?_toList, putCells_at hjc, hs, List.getElem?_map]
    by_cases hji : j < i
    · rw [if_neg (by omega), turned_before hi hji, ← h0, Array.getElem?_eq_getElem hjc]
    · have hl : j - i < (xs.drop i).reverse.length := by simp; omega
      rw [if_pos (by omega), turned_behind hi (by omega), List.getElem?_eq_getElem hl, getElem!_pos _ _ (by rw [hs]; omega)]
      rfl
  · rw [List.getElem?_take_eq_none (by omega), List.getElem?_eq_none (by rw [List.length_map, turned_len xs hi]; omega)]
theorem below_putAt {B : Nat} {w : World} {g q i : Nat} {d : Array Int} (hg : B ≤ g) : Below B w (putRow (Value.int .i64) (Sort.ahead w q) g i d) :=
  ⟨rfl, rfl, rfl, by simp [putRow, mapBlock, Sort.ahead], fun k hk => by
    simp [putRow, mapBlock, Sort.ahead, Array.getElem?_modify, show g ≠ k by omega]⟩
/-- slices.Reverse of the end of a row of the call's own. -/
theorem reverse_end (B g n c i cc : Nat) (xs : List Int) (w : World) (h : w.ownsRow B 3 1 (.slice (some ⟨g, 0, none⟩) n c) n (xs.map (Value.int .i64))) (hi : i < n) (hn : n ≤ 100) :
    Calls Tryd.prog 121 #[.slice (some ⟨g, i, none⟩) (n - i) cc] w fun e w' => e = .returned (.tuple #[]) ∧ w'.ownsRow B 3 1 (.slice (some ⟨g, 0, none⟩) n c) n ((turned xs i).map (Value.int .i64)) ∧ Below B w w' := by
  have hl : xs.length = n := by simpa using h.1
  have hH : Holds (Value.int .i64) w g i (xs.drop i).toArray := by
    intro j hj
    have hj' : j < n - i := by simpa [hl] using hj
    refine ⟨?_, h.frozenAt (i + j)⟩
    rw [h.cellAt (i + j) (by omega)]
    simp [List.getElem?_map, List.getElem?_eq_getElem (show i + j < xs.length by omega), getElem!_pos (xs.drop i).toArray j hj]
  have hd : (xs.drop i).length = n - i := by simp [hl]
  have hc := Tryd.slices_Reverse_int g i cc (xs.drop i) w hH (by omega)
  rw [hd] at hc
  refine hc.mono ?_
  rintro e w' ⟨rfl, q, rfl⟩
  refine ⟨rfl, ?_, ?_⟩
  · rcases h.2 with ⟨h0, _⟩ | ⟨g2, cap2, cur, hv, hb2, hcur, hn2, hcap2, hsz2, htk⟩
    · cases h0
    · cases hv
      refine ⟨by simp [turned_len xs (show i ≤ xs.length by omega), hl], .inr ⟨g, c, putCells (Value.int .i64) i (xs.drop i).reverse.toArray cur, rfl, hb2, ?_, hn2, hcap2, ?_, ?_⟩⟩
      · simp [putRow, mapBlock, Sort.ahead, Array.getElem?_modify, hcur, onCells]
      · simp [putCells, hsz2]
      · rw [Nat.mul_one, ← hl]
        exact take_putCells_turned cur xs i (by omega) (by omega) (by rw [Nat.mul_one, ← hl] at htk; exact htk)
  · exact below_putAt (ownsRow_blk h g rfl).1
end Go.Proofs.YtlpfglkopnmlnaaDoor
namespace Go.Proofs.YtlpfglkopnmlnaaDoor
open Go.RowKit Go.Shelf
theorem own_cap {w : World} {B g n c : Nat} {xs : List Value} (h : w.ownsRow B 3 1 (.slice (some ⟨g, 0, none⟩) n c) n xs) : n ≤ c := by
  rcases h.2 with ⟨h', _⟩ | ⟨g', cap', cur, h', _, _, hnc, _⟩
  · cases h'
  · cases h'; exact hnc
theorem own_at {w : World} {B g n c : Nat} {xs : List Int} (h : w.ownsRow B 3 1 (.slice (some ⟨g, 0, none⟩) n c) n (xs.map fun x => .int .i64 x)) {j : Nat} (hj : j < n) : w.cell? ⟨g, j, none⟩ = some (.int .i64 (xs.getD j 0)) := by
  obtain ⟨hl, hc⟩ := own_cells h
  have := hc j (by omega)
  rwa [Nat.zero_add] at this
set_option maxRecDepth 100000 in
set_option maxHeartbeats 2000000 in
theorem following_any (v : Value) (l : List Int) (w : World) (h : Ints w v l) (hp : 0 < l.length) (hl : l.length ≤ 100) :
    Calls Tryd.prog 103 #[v] w fun e w' => ∃ g c, e = .returned (.slice (some ⟨g, 0, none⟩) l.length c) ∧ w'.ownsRow w.heap.size 3 1 (.slice (some ⟨g, 0, none⟩) l.length c) l.length ((nextP l).map fun x => .int .i64 x) ∧ Below w.heap.size w w' := by
  go_enter Tryd.func103, Tryd.ntmps103
  go_wp2_with fail
  refine (clone_any v l w h hp hl).mono ?_
  rintro e w1 ⟨g, c, rfl, ho, hb⟩
  have hgz := ownsRow_blk ho g rfl
  obtain ⟨n, hn⟩ : ∃ n, l.length = n + 1 := ⟨l.length - 1, by omega⟩
  have Hn := hid hn
  have Ho := hid ho
  have hlc := own_cap ho
  have hpv : pivI l n = pivot l := by unfold pivot; rw [hn]; rfl
  have Hpv := hid hpv
  clear ho hn hpv
  have hn99 : n ≤ 99 := by have := Hn.out; omega
  have hd1 : IntKind.i64.wrap ((l.length : Int) - 1) = (n : Int) := by
    rw [show (l.length : Int) - 1 = (n : Int) by have := Hn.out; omega]
    exact IntWalk.i64_in _ (by omega)
  go_wp2_with fail
  go_loopw [5] (fun r wr => ∃ k : Nat, r = .int .i64 k ∧ k ≤ n ∧ pivI l k = pivot l ∧ Below w1.heap.size w1 wr) (fun r _ => (intOf r).toNat)
  case atStart => exact ⟨n, by go_num, Nat.le_refl _, Hpv.out, Below.refl _ _⟩
  case round =>
    obtain ⟨k, rfl, hk, hpk, hB⟩ := hrel
    have hor := owns_kept Ho.out (fun b _ hb => hB.block b hb)
    cases k with
    | zero =>
      have hp0 : pivot l = 0 := hpk.symm
      have hnx : nextP l = turned l 0 := by unfold nextP; rw [if_pos hp0]
      have hrv := reverse_end w.heap.size g l.length c 0 c l
      have Hrv := hid (fun (W : World) (hW : Below w1.heap.size w1 W) => reverse_end w.heap.size g l.length c 0 c l W (owns_kept Ho.out (fun b _ hb => hW.block b hb)) (by omega) hl)
      have Hnx := hid hnx
      clear hor hrv hnx hp0 hpk
      go_wp2_with fail
      go_quiet (fail)
      have hB2 := btr hB (below_dr wr nq)
      generalize wr.drewN nq = W2 at *
      go_wp2_with fail
      refine (Hrv.out _ hB2).mono ?_
      rintro e W3 ⟨rfl, ho3, hb3⟩
      have Ho3 := hid ho3
      clear ho3
      go_wp2
      go_ret
      exact ⟨g, c, rfl, by rw [Hnx.out]; exact Ho3.out, (hb.trans (hB2.mono (by have := hb.size; omega))).trans hb3⟩
    | succ k =>
      have c1 := own_at hor (j := k) (by have := Hn.out; omega)
      have c2 := own_at hor (j := k + 1) (by have := Hn.out; omega)
      have hk1 : (k : Int) + 1 < l.length := by have := Hn.out; omega
      have hk2 : (k : Int) < l.length := by have := Hn.out; omega
      have hpu : pivI l (k + 1) = if l.getD (k + 1) 0 ≤ l.getD k 0 then pivI l k else k + 1 := rfl
      by_cases hle : l.getD (k + 1) 0 ≤ l.getD k 0
      · have hd : decide (l.getD (k + 1) 0 ≤ l.getD k 0) = true := decide_eq_true hle
        rw [if_pos hle] at hpu
        have Hpk := hid (hpu.symm.trans hpk)
        clear hor hpu hpk
        generalize l.getD (k + 1) 0 = b0 at *
        generalize l.getD k 0 = a0 at *
        go_wp2_with fail
        go_quiet (fail)
        go_wp2
        go_roundw
        case rel => exact ⟨k, by go_num, by omega, Hpk.out, btr hB (below_dr wr nq)⟩
        case measure => simp [intOf]
      · have hd : decide (l.getD (k + 1) 0 ≤ l.getD k 0) = false := decide_eq_false hle
        have hkc : k + 1 < c := by omega
        have hkc2 : (k : Int) + 1 < c := by omega
        rw [if_neg hle] at hpu
        have hpv : pivot l = k + 1 := hpk.symm.trans hpu
        have hne : pivot l ≠ 0 := by omega
        obtain ⟨t1, t2, t3, t4, t5⟩ := next_at hne
        have hnx : nextP l = swapL (turned l (pivot l)) (pivot l - 1) (findJ (turned l (pivot l)) ((turned l (pivot l)).getD (pivot l - 1) 0) l.length (pivot l)) := by unfold nextP; rw [if_neg hne]
        have hfj := (findJ_spec (turned l (pivot l)) ((turned l (pivot l)).getD (pivot l - 1) 0) l.length (pivot l) ⟨_, t4, by have := turned_len l (i := pivot l) (by omega); omega, t5⟩).2.2.2
        have htl := turned_len l (i := pivot l) (by omega)
        rw [hpv] at t1 t2 t3 t4 t5 hnx hfj htl
        rw [Nat.add_sub_cancel] at t1 t3 t4 t5 hnx hfj
        have Hrv := hid (fun (W : World) (cc : Nat) (hW : Below w1.heap.size w1 W) => reverse_end w.heap.size g l.length c (k + 1) cc l W (owns_kept Ho.out (fun b _ hb => hW.block b hb)) (by omega) hl)
        generalize findJ (turned l (k + 1)) ((turned l (k + 1)).getD k 0) l.length (k + 1) = J at *
        generalize turned l (k + 1) = xs at *
        have Hnx := hid hnx
        have Hfj := hid hfj
        clear hor hpu hpk hnx hfj hne hpv
        generalize l.getD (k + 1) 0 = b0 at *
        generalize l.getD k 0 = a0 at *
        go_wp2_with fail
        go_quiet (fail)
        have hB2 := btr hB (below_dr wr nq)
        generalize wr.drewN nq = W2 at *
        go_wp2_with fail
        refine (Hrv.out _ _ hB2).mono ?_
        rintro e W3 ⟨rfl, ho3, hb3⟩
        have Ho3 := hid ho3
        clear ho3 Hrv
        go_wp2_with fail
        go_loopw [6] (fun r wr => ∃ j : Nat, r = .int .i64 j ∧ k + 1 ≤ j ∧ j ≤ J ∧ Below W3.heap.size W3 wr) (fun r _ => J - (intOf r).toNat)
        case atStart => exact ⟨k + 1, by go_num, Nat.le_refl _, t4, Below.refl _ _⟩
        case round =>
          clear hB
          obtain ⟨j, rfl, hj1, hj2, hB⟩ := hrel
          have hor := owns_kept Ho3.out (fun b _ hb => hB.block b hb)
          have c1 := own_at hor (j := j) (by omega)
          have c2 := own_at hor (j := k) (by omega)
          have c3 := own_at hor (j := J) (by omega)
          have hjx : (j : Int) < l.length := by omega
          by_cases hjJ : j < J
          · have hle2 := Hfj.out j hj1 hjJ
            generalize xs.getD j 0 = b1 at *
            generalize xs.getD k 0 = a1 at *
            have hd3 : decide (b1 ≤ a1) = true := decide_eq_true hle2
            have Hor := hid hor
            clear hor
            go_wp2_with fail
            go_quiet (fail)
            go_wp2
            go_roundw
            case rel => exact ⟨j + 1, by go_num, by omega, by omega, btr hB (below_dr wr nq)⟩
            case measure => simp [intOf]; omega
          · obtain rfl : j = J := by omega
            clear c3
            have Hor := hid hor
            obtain ⟨b1, hb1⟩ : ∃ b1, xs.getD j 0 = b1 := ⟨_, rfl⟩
            obtain ⟨a1, ha1⟩ : ∃ a1, xs.getD k 0 = a1 := ⟨_, rfl⟩
            have hsw : nextP l = (xs.set k b1).set j a1 := by rw [Hnx.out, ← hb1, ← ha1]; rfl
            have Hsw := hid hsw
            rw [hb1] at c1 t5
            rw [ha1] at c2 t5
            have hd3 : decide (b1 ≤ a1) = false := decide_eq_false (by omega)
            have hjk : j ≠ k := by omega
            have Hb1 := hid hb1
            have Ha1 := hid ha1
            clear hor hsw hb1 ha1 Hnx Hfj
            go_wp2_with fail
            go_quiet (fail)
            have hB4 := btr hB (below_dr wr nq)
            have Hor4 := hid (owns_kept Ho3.out (fun b _ hb => hB4.block b hb))
            generalize wr.drewN nq = W4 at *
            have d1 := own_at Hor4.out (j := j) (by omega)
            have d2 := own_at Hor4.out (j := k) (by omega)
            have f1 := World.ownsRow.frozenAt Hor4.out k
            have f2 := World.ownsRow.frozenAt Hor4.out j
            rw [Hb1.out] at d1
            rw [Ha1.out] at d2
            clear c1 c2 hd3
            go_wp2_with fail
            go_region
            have s1 := (World.ownsRow.stored (World.ownsRow.stored Hor4.out k (.int .i64 b1)).1 j (.int .i64 a1)).1
            have hs : ((xs.map fun x => Value.int .i64 x).set k (.int .i64 b1)).set j (.int .i64 a1) = ((xs.set k b1).set j a1).map fun x => .int .i64 x := by rw [List.map_set, List.map_set]
            rw [hs, ← Hsw.out] at s1
            have b5 : Below w.heap.size w ((W4.setCell ⟨g, k, none⟩ (.int .i64 b1)).setCell ⟨g, j, none⟩ (.int .i64 a1)) :=
              (((hb.trans (hB2.mono (by have := hb.size; omega))).trans (hb3.trans (hB4.mono (by have := hb.size; have := hB2.size; have := hb3.size; omega)))).setCell (p := ⟨g, k, none⟩) hgz.1 _).setCell (p := ⟨g, j, none⟩) hgz.1 _
            have S1 := hid s1
            clear s1 hs
            generalize (W4.setCell ⟨g, k, none⟩ (.int .i64 b1)).setCell ⟨g, j, none⟩ (.int .i64 a1) = W5 at *
            go_wp2
            go_ret
            exact ⟨g, c, rfl, ownsRow_same S1.out (fun _ _ => rfl), b5.drew⟩
end Go.Proofs.YtlpfglkopnmlnaaDoor
namespace Go.Proofs.YtlpfglkopnmlnaaDoor
theorem okP1 : okP 1 = true := by decide +kernel
theorem okP2 : okP 2 = true := by decide +kernel
theorem okP3 : okP 3 = true := by decide +kernel
theorem okP4 : okP 4 = true := by decide +kernel
theorem okP5 : okP 5 = true := by decide +kernel
/-- A slice of the patterns of six. -/
def okS (xs : List Nat) : Bool := match maskGo (sortedPats 6) 0 with | none => false | some M => (allP 5).all fun p => xs.all fun x => !normalP (((x : Nat) : Int) :: p) || M.testBit (codeP (((x : Nat) : Int) :: p))
theorem okS1 : okS [0, 1] = true := by decide +kernel
theorem okS2 : okS [2, 3] = true := by decide +kernel
theorem okS3 : okS [4, 5] = true := by decide +kernel
theorem okP6 : okP 6 = true := by
  have h1 := okS1
  have h2 := okS2
  have h3 := okS3
  revert h1 h2 h3
  unfold okS okP
  generalize maskGo (sortedPats 6) 0 = r
  cases r with
  | none => intro h; cases h
  | some M =>
    simp only [List.all_eq_true]
    intro h1 h2 h3 l hl
    rw [show allP 6 = (allP 5).flatMap fun p => (List.range 6).map fun x => ((x : Nat) : Int) :: p from rfl] at hl
    obtain ⟨p, hp, hx⟩ := List.mem_flatMap.1 hl
    obtain ⟨x, hx1, rfl⟩ := List.mem_map.1 hx
    have hx6 := List.mem_range.1 hx1
    rcases (show x = 0 ∨ x = 1 ∨ x = 2 ∨ x = 3 ∨ x = 4 ∨ x = 5 by omega) with rfl | rfl | rfl | rfl | rfl | rfl
    · exact h1 p hp 0 (by simp)
    · exact h1 p hp 1 (by simp)
    · exact h2 p hp 2 (by simp)
    · exact h2 p hp 3 (by simp)
    · exact h3 p hp 4 (by simp)
    · exact h3 p hp 5 (by simp)
theorem okP_all {k : Nat} (h1 : 1 ≤ k) (h6 : k ≤ 6) : okP k = true := by
  rcases (show k = 1 ∨ k = 2 ∨ k = 3 ∨ k = 4 ∨ k = 5 ∨ k = 6 by omega) with rfl | rfl | rfl | rfl | rfl | rfl
  · exact okP1
  · exact okP2
  · exact okP3
  · exact okP4
  · exact okP5
  · exact okP6
/-- Up to six numbers: all orders come, and the row comes back. -/
theorem orders_all {l : List Int} (h1 : 1 ≤ l.length) (h6 : l.length ≤ 6) : (∃ N, N < 721 ∧ iterP (N + 1) l = l) ∧ ∀ q : List Int, q.Perm l → ∃ i, iterP i l = q := orbit_all h1 h6 (okP_all h1 h6)
end Go.Proofs.YtlpfglkopnmlnaaDoor
namespace Go.Proofs.YtlpfglkopnmlnaaDoor
open Go.RowKit Go.Shelf
theorem MRows.slice {W : World} {base : Nat} {v : Value} {m : List (List Int)} (h : MRows W base v m) : ∃ A c, v = .slice A m.length c ∧ ∀ g, v.ownBlock = some g → base ≤ g ∧ g < W.heap.size := by
  obtain ⟨xs, ho, _⟩ := h
  rcases ho.2 with ⟨hu, h0⟩ | ⟨g, cap, cur, hu, hg, hh, _⟩
  · exact ⟨none, 0, by rw [hu, h0], fun g' h => by rw [hu] at h; cases h⟩
  · exact ⟨_, cap, hu, fun g' h => by rw [hu] at h; cases h; exact ⟨hg, lt_of_block hh⟩⟩
/-- 'append(rows, row)': the row lies beside. -/
theorem wpList_append_mrow {W : World} {ops : Array Oper} {rest : List Oper} {o : Oper} {a : Act} {Q : Exit → Act → World → Prop} (hgd : o.guard = none) (s x : Operand)
    (ho : o.op = .call { callee := .builtin .append, args := #[s, x], argTypes := #[22, 22] }) (base : Nat) (v u : Value) (m : List (List Int)) (l : List Int) (t : TypeId) (w0 : World) (hW : W = w0.alloc (.cells #[u] t)) (k : Nat) (hk : k = w0.heap.size)
    (hs : a.eval s = v) (hM : MRows w0 base v m) (hx : a.eval x = .slice (some ⟨k, 0, none⟩) 1 1) (hu : IntsOff w0 base v.ownBlock u l) (hb : base ≤ w0.heap.size) (hlen : m.length ≤ 100000)
    (h : ∀ A c w', MRows w' base (.slice A (m.length + 1) c) (m ++ [l]) → Below base w0 w' → wpList Tryd.prog ops Q rest (a.put o.dst (.slice A (m.length + 1) c)) w') :
    wpList Tryd.prog ops Q (o :: rest) a W := by
  subst hk
  subst hW
  obtain ⟨i0, hi, hz0, hz1, hz2⟩ := info_parts infoRow
  obtain ⟨A0, c0, rfl, hblk⟩ := hM.slice
  obtain ⟨xs, hxo, hxx⟩ := id hM
  have hone : ∀ u' ∈ [u], u'.oneCell' = true := by
    obtain ⟨A, c, rfl, _⟩ := hu
    simp [Value.oneCell']
  refine wpList_append_own_at _ hgd s x 22 ho base 41 i0 (.slice none 0 0) 1 24 Tryd.underlying22 hi hz0 hz1 hz2 rfl (by decide) _ _ _ hs (hxo.alloc _) ⟨w0.heap.size, 0, none⟩ 1 1 [u] hx rfl (cell_one_new _ _ _) hone (by unfold maxLen; omega) (by omega) (by simp; omega) ?_
  intro v' w5 hown' hgrow' _ hat
  obtain ⟨g', cap', rfl⟩ := ownsRow_succ hown'
  refine h _ _ _ ?_ (((Below.refl _ _).alloc hb _).grown hgrow' (by simp; omega) (fun q hq => (hblk q hq).1))
  exact MRows.appended (W := w0.alloc (.cells #[u] t)) (base := base) (v := .slice A0 m.length c0) (m := m) (l := l) (xs := xs) (u := u)
    (fun i hi => (hxx i hi).kept (fun q _ hq _ => Below.heap_alloc _ _ _ hq) (fun _ _ h => h)) (by have := hxo.1; omega)
    (hu.kept (fun q _ hq _ => Below.heap_alloc _ _ _ hq) (fun _ _ h => h)) hown' hgrow' hat
/-- A row of the call's own, made behind the rows, lies beside them. -/
theorem MRows.beside {W W' : World} {base n0 : Nat} {v u : Value} {m : List (List Int)} {l : List Int} (h : MRows W base v m) (hn : W.heap.size ≤ n0) (hb : base ≤ n0) (hu : W'.ownsRow n0 3 1 u l.length (l.map fun x => .int .i64 x)) (hl : l.length ≤ big) : IntsOff W' base v.ownBlock u l := by
  obtain ⟨A, c, hv, hblk⟩ := h.slice
  rcases hu.2 with ⟨rfl, h0⟩ | ⟨g, cap, cur, rfl, hg, hh, r⟩
  · exact ⟨none, 0, by rw [h0], hl, fun i hi => by omega⟩
  · refine ⟨some ⟨g, 0, none⟩, cap, rfl, hl, fun i hi => ⟨g, 0, rfl, by omega, fun e => ?_, ?_⟩⟩
    · have := (hblk g e.symm).2; omega
    · have := hu.cellAt i (by omega)
      rw [Nat.zero_add, this]
      simp [List.getElem?_map, List.getD_eq_getElem?_getD, List.getElem?_eq_getElem hi]
end Go.Proofs.YtlpfglkopnmlnaaDoor
namespace Go.Proofs.YtlpfglkopnmlnaaDoor
open Go.RowKit Go.Shelf
/-- After how many steps a row comes back. -/
def perGo (l : List Int) : Nat → List Int → Nat → Nat
  | 0, _, i => i
  | f + 1, q, i => if q = l then i else perGo l f (nextP q) (i + 1)
def perP (l : List Int) : Nat := perGo l 721 (nextP l) 1
def rowsP (l : List Int) (i : Nat) : List (List Int) := (List.range i).map fun j => iterP j l
/-- All orders of a row, the row itself first. -/
def orbP (l : List Int) : List (List Int) := rowsP l (perP l)
theorem iterP_succ (i : Nat) (l : List Int) : iterP (i + 1) l = nextP (iterP i l) := iterP_add i 1 l
theorem rowsP_succ (l : List Int) (i : Nat) : rowsP l (i + 1) = rowsP l i ++ [iterP i l] := by
  unfold rowsP; rw [List.range_succ, List.map_append]; rfl
theorem rowsP_len (l : List Int) (i : Nat) : (rowsP l i).length = i := by simp [rowsP]
theorem perGo_spec (l : List Int) : ∀ f i N, i ≤ N → N < i + f → iterP N l = l → i ≤ perGo l f (iterP i l) i ∧ perGo l f (iterP i l) i ≤ N ∧ iterP (perGo l f (iterP i l) i) l = l ∧ ∀ k, i ≤ k → k < perGo l f (iterP i l) i → iterP k l ≠ l
  | 0, i, N, h1, h2, _ => by omega
  | f + 1, i, N, h1, h2, h3 => by
    unfold perGo
    split
    · rename_i h
      exact ⟨Nat.le_refl _, h1, h, fun k h4 h5 => by omega⟩
    · rename_i h
      have hne : i ≠ N := fun e => by subst e; exact h h3
      rw [← iterP_succ]
      obtain ⟨a1, a2, a3, a4⟩ := perGo_spec l f (i + 1) N (by omega) (by omega) h3
      refine ⟨by omega, a2, a3, fun k h4 h5 => ?_⟩
      by_cases e : k = i
      · rw [e]; exact h
      · exact a4 k (by omega) h5
theorem perP_spec {l : List Int} (h1 : 1 ≤ l.length) (h6 : l.length ≤ 6) : 1 ≤ perP l ∧ perP l ≤ 721 ∧ iterP (perP l) l = l ∧ ∀ k, 1 ≤ k → k < perP l → iterP k l ≠ l := by
  obtain ⟨⟨N, hN, hi⟩, -⟩ := orders_all h1 h6
  obtain ⟨a1, a2, a3, a4⟩ := perGo_spec l 721 1 (N + 1) (by omega) (by omega) hi
  exact ⟨a1, by show perGo l 721 (iterP 1 l) 1 ≤ 721; omega, a3, a4⟩
theorem iterP_mod {l : List Int} {p : Nat} (hp : 0 < p) (h : iterP p l = l) (i : Nat) : iterP i l = iterP (i % p) l := by
  have := Nat.div_add_mod i p
  conv => lhs; rw [← this, iterP_add, Nat.mul_comm, iterP_mul h]
/-- Every order of a row is among them. -/
theorem orbP_all {l : List Int} (h1 : 1 ≤ l.length) (h6 : l.length ≤ 6) {q : List Int} (hq : q.Perm l) : ∃ i, i < perP l ∧ (orbP l).getD i [] = q := by
  obtain ⟨i, hi⟩ := (orders_all h1 h6).2 q hq
  obtain ⟨a1, a2, a3, a4⟩ := perP_spec h1 h6
  refine ⟨i % perP l, Nat.mod_lt _ a1, ?_⟩
  have hm := Nat.mod_lt i a1
  rw [iterP_mod a1 a3] at hi
  unfold orbP rowsP
  simp [List.getD_eq_getElem?_getD, hm, hi]
theorem orbP_get (l : List Int) {i : Nat} (h : i < perP l) : (orbP l).getD i [] = iterP i l := by
  unfold orbP rowsP
  simp [List.getD_eq_getElem?_getD, h]
theorem orbP_len (l : List Int) : (orbP l).length = perP l := rowsP_len l _
theorem orbP_perm (l : List Int) {i : Nat} (h : i < perP l) : ((orbP l).getD i []).Perm l := by rw [orbP_get l h]; exact iterP_perm i l
theorem following_as (v : Value) (l : List Int) (n : Nat) (w : World) (h : Ints w v l) (hn : Hid (l.length = n)) (hp : 0 < n) (hl : n ≤ 100) :
    Calls Tryd.prog 103 #[v] w fun e w' => ∃ g c, e = .returned (.slice (some ⟨g, 0, none⟩) n c) ∧ w'.ownsRow w.heap.size 3 1 (.slice (some ⟨g, 0, none⟩) n c) n ((nextP l).map fun x => .int .i64 x) ∧ Below w.heap.size w w' := by
  obtain rfl := hn.out
  exact following_any v l w h hp hl
/-- slices.Equal of a row of the call's own and a row that is not empty. -/
theorem equal_row (B1 g1 c1 n1 : Nat) (u : Value) (xs ys : List Int) (b : Bool) (w : World) (h1 : w.ownsRow B1 3 1 (.slice (some ⟨g1, 0, none⟩) n1 c1) n1 (xs.map fun x => .int .i64 x)) (h2 : Ints w u ys) (hb : Hid ((xs == ys) = b)) (hn1 : n1 ≤ 100) (hp : 0 < ys.length) (hn2 : ys.length ≤ 100) :
    Calls Tryd.prog 46 #[.slice (some ⟨g1, 0, none⟩) n1 c1, u] w fun e w' => e = .returned (.bool b) ∧ Below w.heap.size w w' := by
  obtain ⟨l1, k1⟩ := own_cells h1
  obtain ⟨A, cap, rfl, hl, hc⟩ := h2
  obtain ⟨b0, off, rfl, _⟩ := hc 0 hp
  refine (Tryd.slices_Equal_int g1 0 n1 c1 b0 off ys.length cap xs ys w (by omega) (by omega) (by omega) (by omega) k1 (fun j hj => ?_)).mono ?_
  · obtain ⟨b', off', hA, hcell⟩ := hc j hj
    cases hA
    exact hcell
  rintro e w' ⟨rfl, q, rfl⟩
  rw [List.take_of_length_le (by omega), List.take_of_length_le (Nat.le_refl _), hb.out]
  exact ⟨rfl, below_dr w q⟩
def lenOf : Value → Nat
  | .slice _ n _ => n
  | _ => 0
theorem ints_of_own {w : World} {B g n c : Nat} {xs : List Int} (h : w.ownsRow B 3 1 (.slice (some ⟨g, 0, none⟩) n c) n (xs.map fun x => .int .i64 x)) (hl : xs.length = n) (hb : n ≤ 100) : Ints w (.slice (some ⟨g, 0, none⟩) n c) xs := by
  obtain ⟨l1, k1⟩ := own_cells h
  exact ⟨_, c, by rw [hl], by unfold big; omega, fun j hj => ⟨g, 0, rfl, k1 j hj⟩⟩
/-- A list of one row, made by the call. -/
theorem MRows.one {w : World} {base : Nat} {u : Value} {l : List Int} (hu : IntsOff w base none u l) (hb : base ≤ w.heap.size) : MRows (w.alloc (.cells #[u] 41)) base (.slice (some ⟨w.heap.size, 0, none⟩) 1 1) [l] := by
  refine ⟨[u], ?_, fun i hi => ?_⟩
  · exact World.ownsRow_lit (e := 41) w #[u] 1 hb (by unfold maxLen; omega) rfl
  · obtain rfl : i = 0 := by simpa using hi
    refine IntsOff.kept (g := none) (W := w) hu (fun k _ hk _ => Below.heap_alloc _ _ _ hk) (fun k hk _ e => ?_)
    have e2 := Option.some.inj e
    simp at e2
    omega
/-- 'append(rows, row)': the row lies beside; what else stays as it lay. -/
theorem wpList_append_mrow2 {W : World} {ops : Array Oper} {rest : List Oper} {o : Oper} {a : Act} {Q : Exit → Act → World → Prop} (hgd : o.guard = none) (s x : Operand)
    (ho : o.op = .call { callee := .builtin .append, args := #[s, x], argTypes := #[22, 22] }) (base : Nat) (v u : Value) (m : List (List Int)) (l : List Int) (t : TypeId) (w0 : World) (hW : W = w0.alloc (.cells #[u] t)) (k : Nat) (hk : k = w0.heap.size)
    (hs : a.eval s = v) (hM : MRows w0 base v m) (hx : a.eval x = .slice (some ⟨k, 0, none⟩) 1 1) (hu : IntsOff w0 base v.ownBlock u l) (hb : base ≤ w0.heap.size) (hlen : m.length ≤ 100000)
    (h : ∀ A c w', MRows w' base (.slice A (m.length + 1) c) (m ++ [l]) → Below base w0 w' → (∀ k, k < w0.heap.size → some k ≠ v.ownBlock → w'.heap[k]? = w0.heap[k]?) → wpList Tryd.prog ops Q rest (a.put o.dst (.slice A (m.length + 1) c)) w') :
    wpList Tryd.prog ops Q (o :: rest) a W := by
  subst hk
  subst hW
  obtain ⟨i0, hi, hz0, hz1, hz2⟩ := info_parts infoRow
  obtain ⟨A0, c0, rfl, hblk⟩ := hM.slice
  obtain ⟨xs, hxo, hxx⟩ := id hM
  have hone : ∀ u' ∈ [u], u'.oneCell' = true := by
    obtain ⟨A, c, rfl, _⟩ := hu
    simp [Value.oneCell']
  refine wpList_append_own_at _ hgd s x 22 ho base 41 i0 (.slice none 0 0) 1 24 Tryd.underlying22 hi hz0 hz1 hz2 rfl (by decide) _ _ _ hs (hxo.alloc _) ⟨w0.heap.size, 0, none⟩ 1 1 [u] hx rfl (cell_one_new _ _ _) hone (by unfold maxLen; omega) (by omega) (by simp; omega) ?_
  intro v' w5 hown' hgrow' _ hat
  obtain ⟨g', cap', rfl⟩ := ownsRow_succ hown'
  refine h _ _ _ ?_ (((Below.refl _ _).alloc hb _).grown hgrow' (by simp; omega) (fun q hq => (hblk q hq).1)) (fun k hk hne => (hgrow'.block k (by simp; omega) (fun e => hne e)).trans (Below.heap_alloc _ _ _ hk))
  exact MRows.appended (W := w0.alloc (.cells #[u] t)) (base := base) (v := .slice A0 m.length c0) (m := m) (l := l) (xs := xs) (u := u)
    (fun i hi => (hxx i hi).kept (fun q _ hq _ => Below.heap_alloc _ _ _ hq) (fun _ _ h => h)) (by have := hxo.1; omega)
    (hu.kept (fun q _ hq _ => Below.heap_alloc _ _ _ hq) (fun _ _ h => h)) hown' hgrow' hat
end Go.Proofs.YtlpfglkopnmlnaaDoor
namespace Go.Proofs.YtlpfglkopnmlnaaDoor
open Go.RowKit Go.Shelf
set_option maxRecDepth 100000 in
set_option maxHeartbeats 2000000 in
theorem ordersOf_any (v : Value) (l : List Int) (w : World) (h : Ints w v l) (hp : 1 ≤ l.length) (hl : l.length ≤ 6) :
    Calls Tryd.prog 83 #[v] w fun e w' => ∃ r, e = .returned r ∧ MRows w' w.heap.size r (orbP l) ∧ Below w.heap.size w w' := by
  obtain ⟨s1, s2, s3, s4⟩ := perP_spec hp hl
  have Hs3 := hid s3
  have Hs4 := hid s4
  obtain ⟨n, hn⟩ : ∃ n, l.length = n := ⟨_, rfl⟩
  have Hn := hid hn
  have Hlen := hid (fun i => show (iterP i l).length = n from (iterP_perm i l).length_eq.trans hn)
  rw [hn] at hp hl
  have Hfol := hid (fun (W : World) (g c i : Nat) (hW : W.ownsRow w.heap.size 3 1 (.slice (some ⟨g, 0, none⟩) n c) n ((iterP i l).map fun x => .int .i64 x)) =>
    following_as (.slice (some ⟨g, 0, none⟩) n c) (iterP i l) n W (ints_of_own hW (Hlen.out i) (by omega)) (hid (Hlen.out i)) (by omega) (by omega))
  have Hfol0 := hid (fun (W : World) (hb : Below w.heap.size w W) => following_as v l n W (h.below hb) Hn (by omega) (by omega))
  have Heq := hid (fun (W : World) (g c i : Nat) (b : Bool) (hW : W.ownsRow w.heap.size 3 1 (.slice (some ⟨g, 0, none⟩) n c) n ((iterP i l).map fun x => .int .i64 x)) (hb : Below w.heap.size w W) (he : Hid ((iterP i l == l) = b)) =>
    equal_row w.heap.size g c n v (iterP i l) l b W hW (h.below hb) he (by omega) (by rw [Hn.out]; omega) (by rw [Hn.out]; omega))
  have hcl := clone_any v l w h (by rw [hn]; omega) (by rw [hn]; omega)
  rw [hn] at hcl
  clear s3 s4 hn
  go_enter Tryd.func83, Tryd.ntmps83
  go_wp2_with fail
  refine hcl.mono ?_
  rintro e w1 ⟨g0, c0, rfl, ho, hb⟩
  have hoff : IntsOff w1 w.heap.size none (.slice (some ⟨g0, 0, none⟩) n c0) l := by
    obtain ⟨e1, e2⟩ := own_cells ho
    refine ⟨_, c0, by rw [e1], by unfold big; omega, fun j hj => ⟨g0, 0, rfl, (ownsRow_blk ho g0 rfl).1, by simp, e2 j hj⟩⟩
  have hM := MRows.one hoff hb.size
  have Hoff := hid hoff
  have HM := hid hM
  have hb2 := bal hb (.cells #[.slice (some ⟨g0, 0, none⟩) n c0] 41)
  clear hoff hM hcl ho
  go_wp2_with fail
  generalize hW2 : w1.alloc (.cells #[.slice (some ⟨g0, 0, none⟩) n c0] 41) = W2 at *
  have hs2 : w1.heap.size < W2.heap.size := by rw [← hW2]; simp
  clear hW2
  refine (Hfol0.out _ hb2).mono ?_
  rintro e W3 ⟨g1, c1, rfl, ho1, hb3⟩
  have hM3 := HM.out.below hb3
  have hbes := MRows.beside (W := W2) (W' := W3) (l := nextP l) HM.out (Nat.le_refl _) hb2.size (by rw [show (nextP l).length = n from Hlen.out 1]; exact ho1) (by unfold big; rw [show (nextP l).length = n from Hlen.out 1]; omega)
  have Hx := hid (show MRows W3 w.heap.size (.slice (some ⟨w1.heap.size, 0, none⟩) 1 1) (rowsP l 1) ∧ W3.ownsRow w.heap.size 3 1 (.slice (some ⟨g1, 0, none⟩) n c1) n ((iterP 1 l).map fun x => .int .i64 x) ∧ IntsOff W3 w.heap.size (Value.slice (some ⟨w1.heap.size, 0, none⟩) 1 1).ownBlock (.slice (some ⟨g1, 0, none⟩) n c1) (iterP 1 l) ∧ Below w.heap.size w W3 from ⟨hM3, row_mono ho1 hb2.size, hbes, hb2.trans (hb3.mono hb2.size)⟩)
  clear hM3 hbes ho1 Hoff HM Hfol0
  go_wp2_with fail
  go_loopw [3, 4] (fun r s wr => ∃ (i g c vc : Nat) (vA : Option Addr), 1 ≤ i ∧ i ≤ perP l ∧ r = .slice vA i vc ∧ s = .slice (some ⟨g, 0, none⟩) n c ∧ MRows wr w.heap.size (.slice vA i vc) (rowsP l i) ∧ wr.ownsRow w.heap.size 3 1 (.slice (some ⟨g, 0, none⟩) n c) n ((iterP i l).map fun x => .int .i64 x) ∧ IntsOff wr w.heap.size (Value.slice vA i vc).ownBlock (.slice (some ⟨g, 0, none⟩) n c) (iterP i l) ∧ Below w.heap.size w wr) (fun r _ _ => perP l - lenOf r)
  case atStart => exact ⟨1, g1, c1, 1, _, Nat.le_refl _, s1, rfl, rfl, Hx.out.1, Hx.out.2.1, Hx.out.2.2.1, Hx.out.2.2.2⟩
  case round =>
    clear Hx
    obtain ⟨i, g, c, vc, vA, hi1, hi2, rfl, rfl, hM, hO, hI, hB⟩ := hrel
    by_cases hip : i = perP l
    · have he := Heq.out wr g c i true hO hB (hid (by rw [hip, Hs3.out]; simp))
      have HM := hid hM
      clear hM hO hI
      go_wp2_with fail
      refine he.mono ?_
      rintro e w4 ⟨rfl, hb4⟩
      go_wp2
      go_ret
      exact ⟨_, rfl, by show MRows w4 _ _ (rowsP l (perP l)); rw [← hip]; exact HM.out.below hb4, hB.trans (hb4.mono hB.size)⟩
    · have hne : iterP i l ≠ l := Hs4.out i hi1 (by omega)
      have he := Heq.out wr g c i false hO hB (hid (by simp [hne]))
      have HM := hid hM
      have HO := hid hO
      have HI := hid hI
      have HI1 := hid (rowsP_succ l i)
      clear hM hO hI hne
      go_wp2_with fail
      refine he.mono ?_
      rintro e w4 ⟨rfl, hb4⟩
      have HM4 := hid (HM.out.below hb4)
      have HI4 := hid (HI.out.kept (W' := w4) (g' := (Value.slice vA i vc).ownBlock) (fun q _ hq _ => hb4.block q hq) (fun _ _ h => h))
      have HO4 := hid (owns_kept HO.out (fun k _ hk => hb4.block k hk))
      have hB4 := hB.trans (hb4.mono hB.size)
      have Hi4 := hid (ints_of_own HO4.out (Hlen.out i) (by omega))
      clear HM HI HO
      have hsz := hB4.size
      have hgI : g < w4.heap.size ∧ some g ≠ (Value.slice vA i vc).ownBlock := by
        obtain ⟨A, cap, hv, _, hc⟩ := HI4.out
        cases hv
        obtain ⟨b, off, hA, _, hne, hcell⟩ := hc 0 (by rw [Hlen.out i]; omega)
        cases hA
        exact ⟨World.block_lt_of_cell? _ _ hcell, hne⟩
      go_wp2_with (at_builtin; refine wpList_append_mrow2 rfl _ _ rfl w.heap.size (.slice vA i vc) (.slice (some ⟨g, 0, none⟩) n c) (rowsP l i) (iterP i l) _ w4 rfl w4.heap.size rfl rfl HM4.out rfl HI4.out hsz (by rw [rowsP_len]; omega) ?_; intro A5 k5 w5 hM5 hB5 hK5)
      have hg5 := hK5 g hgI.1 hgI.2
      have hO5 := owns_block HO4.out hg5
      rw [rowsP_len, ← HI1.out] at hM5
      have HM5 := hid hM5
      have hB5w := hB4.trans hB5
      have hs5 := hB5w.size
      have hf := Hfol.out w5 g c i hO5
      have HK := hid hB5
      clear hM5 hK5 hO5 HM4 HI4 HO4 hB5
      go_wp2_with fail
      refine hf.mono ?_
      rintro e w6 ⟨g6, c6, rfl, ho6, hb6⟩
      have hln : (nextP (iterP i l)).length = n := by rw [← iterP_succ]; exact Hlen.out (i + 1)
      have hbes := MRows.beside (W := w5) (W' := w6) (l := nextP (iterP i l)) HM5.out (Nat.le_refl _) hs5 (by rw [hln]; exact ho6) (by rw [hln]; unfold big; omega)
      have Hx := hid (show MRows w6 w.heap.size (.slice A5 (i + 1) k5) (rowsP l (i + 1)) ∧ w6.ownsRow w.heap.size 3 1 (.slice (some ⟨g6, 0, none⟩) n c6) n ((iterP (i + 1) l).map fun x => .int .i64 x) ∧ IntsOff w6 w.heap.size (Value.slice A5 (i + 1) k5).ownBlock (.slice (some ⟨g6, 0, none⟩) n c6) (iterP (i + 1) l) ∧ Below w.heap.size w w6 from ⟨HM5.out.below hb6, by rw [iterP_succ]; exact row_mono ho6 hs5, by rw [iterP_succ]; exact hbes, hB5w.trans (hb6.mono hs5)⟩)
      clear hbes ho6 HM5
      go_wp2
      go_roundw
      case rel => exact ⟨i + 1, g6, c6, k5, A5, by omega, by omega, by simp [rowsP_len], rfl, Hx.out.1, Hx.out.2.1, Hx.out.2.2.1, Hx.out.2.2.2⟩
      case measure => simp [lenOf, rowsP_len]; omega
end Go.Proofs.YtlpfglkopnmlnaaDoor
namespace Go.Proofs.YtlpfglkopnmlnaaDoor
open Go.RowKit Go.Shelf
theorem infoRows3 : (Tryd.prog.info? 22).map (fun i => (i.zero, i.size, i.bytes)) = some (some (.slice none 0 0), 1, 24) := by kernel_rfl
theorem IntsOff.mono {W : World} {base base' : Nat} {g : Option Nat} {v : Value} {l : List Int} (h : IntsOff W base g v l) (hb : base' ≤ base) : IntsOff W base' g v l := by
  obtain ⟨A, cap, hv, hl, hc⟩ := h
  refine ⟨A, cap, hv, hl, fun i hi => ?_⟩
  obtain ⟨b, off, hA, h1, h2⟩ := hc i hi
  exact ⟨b, off, hA, by omega, h2⟩
theorem MRows.mono {W : World} {base base' : Nat} {v : Value} {m : List (List Int)} (h : MRows W base v m) (hb : base' ≤ base) : MRows W base' v m := by
  obtain ⟨xs, ho, hx⟩ := h
  exact ⟨xs, row_mono ho hb, fun i hi => (hx i hi).mono hb⟩
theorem MRows.slice' {W : World} {base : Nat} {v : Value} {m : List (List Int)} (h : MRows W base v m) : ∃ A n c, v = .slice A n c := by
  obtain ⟨A, c, hv, _⟩ := h.slice
  exact ⟨A, _, c, hv⟩
/-- The orders of the first s states. -/
def OrdT (W : World) (base g : Nat) (m : List (List Int)) (s : Nat) : Prop :=
  ∃ xs : List Value, W.ownsRow base 22 1 (.slice (some ⟨g, 0, none⟩) m.length m.length) m.length xs ∧ ∀ j, j < s → MRows W (g + 1) (xs.getD j .nilIface) (orbP (m.getD j []))
theorem OrdT.lt {W : World} {base g s : Nat} {m : List (List Int)} (h : OrdT W base g m s) : base ≤ g ∧ g < W.heap.size := by
  obtain ⟨xs, ho, _⟩ := h
  exact ownsRow_blk ho g rfl
theorem OrdT.kept {W W' : World} {base g s : Nat} {m : List (List Int)} (h : OrdT W base g m s) (hk : ∀ k, g ≤ k → k < W.heap.size → W'.heap[k]? = W.heap[k]?) : OrdT W' base g m s := by
  obtain ⟨xs, ho, hx⟩ := h
  have hl := ownsRow_blk ho g rfl
  exact ⟨xs, owns_block ho (hk g (Nat.le_refl _) hl.2), fun j hj => (hx j hj).kept fun k h1 h2 => hk k (by omega) h2⟩
theorem OrdT.below {W W' : World} {base g s : Nat} {m : List (List Int)} (h : OrdT W base g m s) (hb : Below W.heap.size W W') : OrdT W' base g m s := h.kept fun k _ hk => hb.block k hk
theorem OrdT.put {W W' : World} {base g k n1 : Nat} {m : List (List Int)} {u : Value} (h : OrdT W base g m k) (hb : Below W.heap.size W W') (hM : MRows W' n1 u (orbP (m.getD k []))) (hn : g < n1) (hk : k < m.length) : OrdT (W'.setCell ⟨g, k, none⟩ u) base g m (k + 1) := by
  obtain ⟨xs, ho, hx⟩ := h.below hb
  have hxl : xs.length = m.length := by have := ho.1; omega
  refine ⟨xs.set k u, (World.ownsRow.stored ho k u).1, fun j hj => ?_⟩
  have hsame : ∀ q, g + 1 ≤ q → q < W'.heap.size → (W'.setCell ⟨g, k, none⟩ u).heap[q]? = W'.heap[q]? := fun q hq _ => Below.heap_setCell _ _ _ _ (by simp; omega)
  by_cases e : j = k
  · subst e
    rw [getD_set_same _ (by omega)]
    exact (hM.mono (by omega)).kept hsame
  · rw [getD_set_other _ e]
    exact (hx j (by omega)).kept hsame
theorem OrdT.free {W : World} {base g s : Nat} {m : List (List Int)} (h : OrdT W base g m s) (j : Nat) : W.frozen? ⟨g, j, none⟩ = false := by
  obtain ⟨xs, ho, _⟩ := h
  exact World.ownsRow.frozenAt ho j
theorem OrdT.cell {W : World} {base g s : Nat} {m : List (List Int)} (h : OrdT W base g m s) {j : Nat} (hj : j < m.length) : ∃ u, W.cell? ⟨g, j, none⟩ = some u ∧ (j < s → MRows W (g + 1) u (orbP (m.getD j []))) := by
  obtain ⟨xs, ho, hx⟩ := h
  have hxl : xs.length = m.length := by have := ho.1; omega
  refine ⟨xs.getD j .nilIface, ?_, fun hs => hx j hs⟩
  rw [ho.cellAt j (by omega)]
  simp [List.getD_eq_getElem?_getD, List.getElem?_eq_getElem (show j < xs.length by omega)]
set_option maxRecDepth 100000 in
set_option maxHeartbeats 2000000 in
theorem numberings_any (v : Value) (m : List (List Int)) (w : World) (h : Rows w v m) (hv : validM m = true) :
    Calls Tryd.prog 54 #[.agg #[v]] w fun e w' => ∃ rb g, e = .returned (.func (.func 84) #[] #[.pointer (some ⟨rb, 0, none⟩), .pointer (some ⟨w.heap.size, 0, none⟩)]) ∧
      Boxed w' rb 97 (.slice (some ⟨g, 0, none⟩) m.length m.length) ∧ Boxed w' w.heap.size 24 v ∧ OrdT w' (w.heap.size + 1) g m m.length ∧ w.heap.size < rb ∧ g ≠ rb ∧ Below w.heap.size w w' := by
  obtain ⟨p1, p2, p3, p4, p5⟩ := valid_parts hv
  obtain ⟨A, cap, rfl, hml, hcm⟩ := id h
  have Hcm := hid hcm
  have Hp5 := hid p5
  obtain ⟨i0, hi, hz0, hz1, hz2⟩ := info_parts infoRows3
  have hX := bal (Below.refl _ w) (.cells #[.slice A m.length cap] 24)
  have q0 := Boxed.new w 24 (.slice A m.length cap)
  have hXs : (w.alloc (.cells #[.slice A m.length cap] 24)).heap.size = w.heap.size + 1 := by simp
  clear hcm p5
  go_enter Tryd.func54, Tryd.ntmps54
  go_upto_region 1 with fail
  generalize w.alloc (.cells #[.slice A m.length cap] 24) = X at *
  have c0 := q0.cell
  have hw0 : w.heap.size < X.heap.size := by omega
  go_wp2_with (at_make; refine wpList_make_full _ rfl _ _ 97 rfl X.heap.size 22 i0 (.slice none 0 0) 1 Tryd.underlying97 hi hz0 hz1 .i64 .i64 _ _ m.length rfl rfl rfl rfl (by rw [hz2]; omega) (by unfold maxLen; omega) (Nat.le_refl _) ?_; intro w3 hown hgrow; have hB3 : Below X.heap.size X w3 := (Below.refl _ _).grown hgrow (Nat.le_refl _) (fun q hq => by cases hq); have hB4 := bal hB3 (.cells #[.slice (some ⟨X.heap.size, 0, none⟩) m.length m.length] 97); have c4 := (hB4.cell (p := ⟨w.heap.size, 0, none⟩) hw0).trans c0; rw [hXs] at c4)
  have q4 : Boxed _ w.heap.size 24 (.slice A m.length cap) := (hB4.block _ hw0).trans q0
  rw [hXs] at hown hB3 hB4 q4 hw0
  rw [show Value.cells (.slice none 0 0) = #[.slice none 0 0] from rfl, toList_madeCells_one, Nat.mul_one] at hown
  have hs3 := ownsRow_blk hown (w.heap.size + 1) rfl
  have q3 := Boxed.new w3 97 (.slice (some ⟨w.heap.size + 1, 0, none⟩) m.length m.length)
  have hO0 : OrdT (w3.alloc (.cells #[.slice (some ⟨w.heap.size + 1, 0, none⟩) m.length m.length] 97)) (w.heap.size + 1) (w.heap.size + 1) m 0 := ⟨_, hown.alloc _, fun j hj => by omega⟩
  have HO0 := hid hO0
  have hrb : w.heap.size + 1 < w3.heap.size := hs3.2
  have z4 : (w3.alloc (.cells #[.slice (some ⟨w.heap.size + 1, 0, none⟩) m.length m.length] 97)).heap.size = w3.heap.size + 1 := by simp
  clear hown hO0 hB3 c4 c0 q0
  generalize w3.alloc (.cells #[.slice (some ⟨w.heap.size + 1, 0, none⟩) m.length m.length] 97) = Y at *
  generalize w3.heap.size = rb at *
  go_loopw [13] (fun i wr => ∃ k : Nat, k ≤ m.length ∧ i = .int .i64 k ∧ OrdT wr (w.heap.size + 1) (w.heap.size + 1) m k ∧ Boxed wr rb 97 (.slice (some ⟨w.heap.size + 1, 0, none⟩) m.length m.length) ∧ Boxed wr w.heap.size 24 (.slice A m.length cap) ∧ Below (w.heap.size + 1) X wr ∧ rb < wr.heap.size) (fun i _ => m.length - (intOf i).toNat)
  case atStart => exact ⟨0, Nat.zero_le _, rfl, HO0.out, q3, q4, hB4, by omega⟩
  case round =>
    clear q3 q4 HO0 hB4
    obtain ⟨k, hk, rfl, hO, q3, q4, hB4, hrbs⟩ := hrel
    by_cases hlt : k < m.length
    · have hkm : (k : Int) < m.length := by omega
      obtain ⟨b, off, r, hA, hcell, hrow⟩ := Hcm.out k hlt
      subst hA
      have hBw := hX.trans (hB4.mono (by omega))
      have hcr := (hBw.cell (p := ⟨b, off + k, none⟩) (World.block_lt_of_cell? _ _ hcell)).trans hcell
      have hrl := (Hp5.out k hlt).1
      have Hord := hid (fun (W : World) (hb : Below wr.heap.size wr W) => ordersOf_any r (m.getD k []) W ((hrow.below hBw).below hb) (by omega) (by omega))
      have hrbc := q3.cell
      have hlO := hO.lt
      obtain ⟨u0, hu0, -⟩ := hO.cell hlt
      have hfr := hO.free k
      have KK : Hid (∀ (W W4 : World) (u : Value), Below wr.heap.size wr W → MRows W4 W.heap.size u (orbP (m.getD k [])) → Below W.heap.size W W4 →
          OrdT (W4.setCell ⟨w.heap.size + 1, k, none⟩ u) (w.heap.size + 1) (w.heap.size + 1) m (k + 1) ∧ Boxed (W4.setCell ⟨w.heap.size + 1, k, none⟩ u) rb 97 (.slice (some ⟨w.heap.size + 1, 0, none⟩) m.length m.length) ∧ Boxed (W4.setCell ⟨w.heap.size + 1, k, none⟩ u) w.heap.size 24 (.slice (some ⟨b, off, none⟩) m.length cap) ∧ Below (w.heap.size + 1) X (W4.setCell ⟨w.heap.size + 1, k, none⟩ u) ∧ rb < (W4.setCell ⟨w.heap.size + 1, k, none⟩ u).heap.size) := hid (by
        intro W W4 u h1 h2 h3
        have hb := btr h1 h3
        have hs1 := h1.size
        have hs4 := hb.size
        have hs5 : (W4.setCell ⟨w.heap.size + 1, k, none⟩ u).heap.size = W4.heap.size := by simp [World.setCell]
        refine ⟨hO.put hb h2 (by omega) hlt, ?_, ?_, ?_, by omega⟩
        · exact (Below.heap_setCell _ _ _ _ (by simp; omega)).trans ((hb.block _ hrbs).trans q3)
        · exact (Below.heap_setCell _ _ _ _ (by simp)).trans ((hb.block _ (by omega)).trans q4)
        · exact (hB4.trans (hb.mono (by omega))).setCell (p := ⟨w.heap.size + 1, k, none⟩) (Nat.le_refl _) u)
      clear hcell hrow hO q3 q4 hrl
      have Hfr := hid (fun (W4 : World) (hb : Below wr.heap.size wr W4) => show W4.cell? ⟨rb, 0, none⟩ = some (.slice (some ⟨w.heap.size + 1, 0, none⟩) m.length m.length) ∧ W4.cell? ⟨w.heap.size + 1, k, none⟩ = some u0 ∧ W4.frozen? ⟨w.heap.size + 1, k, none⟩ = false from
        ⟨(hb.cell (p := ⟨rb, 0, none⟩) hrbs).trans hrbc, (hb.cell (p := ⟨w.heap.size + 1, k, none⟩) hlO.2).trans hu0, (World.frozen?_of_block (w := wr) (hb.block _ hlO.2)).trans hfr⟩)
      go_upto_region 5 with fail
      go_region_with (go_at_call 83; refine (Hord.out _ (by first | exact Below.refl _ _ | exact below_dr wr 1)).mono ?_; rintro e w4 ⟨r4, rfl, hM4, hb4⟩; obtain ⟨rA, rn, rc, rfl⟩ := hM4.slice'; have K := KK.out _ w4 _ (by first | exact Below.refl _ _ | exact below_dr wr 1) hM4 hb4; obtain ⟨f1, f2, f3⟩ := Hfr.out w4 (by first | exact hb4 | exact btr (below_dr wr 1) hb4))
      all_goals go_wp2
      all_goals go_roundw
      all_goals first
        | exact ⟨k + 1, by omega, by go_num, K⟩
        | (simp [intOf]; omega)
    · obtain rfl : k = m.length := by omega
      have HO := hid hO
      clear hO
      go_wp2
      go_ret
      exact ⟨rb, w.heap.size + 1, rfl, q3, q4, HO.out, by omega, by omega, hX.trans (hB4.mono (by omega))⟩
end Go.Proofs.YtlpfglkopnmlnaaDoor
namespace Go.Proofs.YtlpfglkopnmlnaaDoor
open Go.RowKit Go.Shelf
def scatN (i s n : Nat) : Nat := ((i * (s + 1) * 2654435769) % 4294967296 * n) / 4294967296
theorem scatN_lt {i s n : Nat} (h : 0 < n) : scatN i s n < n := by
  unfold scatN
  have := Nat.mod_lt (i * (s + 1) * 2654435769) (show 0 < 4294967296 by decide)
  generalize i * (s + 1) * 2654435769 % 4294967296 = x at *
  rw [Nat.div_lt_iff_lt_mul (by decide), Nat.mul_comm n]
  exact Nat.mul_lt_mul_of_pos_right this h
set_option maxRecDepth 100000 in
set_option maxHeartbeats 1000000 in
theorem scatter_any (i s n : Nat) (w : World) (hi : i < 1000) (hs : s < 60) (hn : n < 1000) :
    Calls Tryd.prog 87 #[.int .i64 i, .int .i64 s, .int .i64 n] w fun e w' => e = .returned (.int .i64 (scatN i s n : Nat)) ∧ w = w' := by
  have h1 : i * (s + 1) ≤ 60000 := by
    have := Nat.mul_le_mul (show i ≤ 1000 by omega) (show s + 1 ≤ 60 by omega)
    omega
  obtain ⟨p, hp⟩ : ∃ p, i * (s + 1) = p := ⟨_, rfl⟩
  have e1 : IntKind.i64.wrap ((i : Int) * ((s : Int) + 1)) = (p : Int) := by
    rw [← hp, show (i : Int) * ((s : Int) + 1) = ((i * (s + 1) : Nat) : Int) by simp]
    exact IntWalk.i64_in _ (by omega)
  rw [hp] at h1
  obtain ⟨q, hq⟩ : ∃ q, p * 2654435769 = q := ⟨_, rfl⟩
  have e2 : IntKind.i64.wrap ((p : Int) * 2654435769) = (q : Int) := by
    rw [show (p : Int) * 2654435769 = (q : Int) by omega]
    exact IntWalk.i64_in _ (by omega)
  have hx := Nat.mod_lt q (show 0 < 4294967296 by decide)
  have e5 : (q : Int) % 4294967296 = ((q % 4294967296 : Nat) : Int) := by omega
  have e6 : scatN i s n = q % 4294967296 * n / 4294967296 := by unfold scatN; rw [hp, hq]
  have Hs := hid (scatN_lt (i := i) (s := s) (n := n))
  rw [e6] at Hs ⊢
  generalize q % 4294967296 = x at *
  have h7 : x * n ≤ 4294967296 * 1000 := Nat.mul_le_mul (by omega) (by omega)
  have e8 : (x : Int) * (n : Int) = ((x * n : Nat) : Int) := by simp
  generalize x * n = y at *
  have e3 : IntKind.u64.wrap ((x : Int) * (n : Int)) = (y : Int) := by
    rw [e8, IntKind.wrap_u64]; omega
  have e4 : (y : Int) / 4294967296 = ((y / 4294967296 : Nat) : Int) := by omega
  have e9 : y / 4294967296 ≤ 1000 := by omega
  generalize y / 4294967296 = z at *
  go_enter Tryd.func87, Tryd.ntmps87
  go_wp2_with fail
  rw [e5, e3, e4] at *
  go_ret
  exact ⟨rfl, rfl⟩
set_option maxRecDepth 100000 in
set_option maxHeartbeats 1000000 in
theorem choose1_any (i s N L g gc ib rb : Nat) (A : Option Addr) (c : Nat) (w : World) (hi : i < 1000) (hs : s < N) (hN : N ≤ 60) (hL : L < 1000)
    (ci : w.cell? ⟨ib, 0, none⟩ = some (.int .i64 i)) (cr : w.cell? ⟨rb, 0, none⟩ = some (.slice (some ⟨g, 0, none⟩) N gc)) (cg : w.cell? ⟨g, s, none⟩ = some (.slice A L c)) :
    Calls Tryd.prog 86 #[.int .i64 s, .pointer (some ⟨ib, 0, none⟩), .pointer (some ⟨rb, 0, none⟩)] w fun e w' => e = .returned (.int .i64 (scatN i s L : Nat)) ∧ Below w.heap.size w w' := by
  have hsN : (s : Int) < N := by omega
  go_enter Tryd.func86, Tryd.ntmps86
  go_wp2_with fail
  go_quiet ((go_at_call 87; exact Calls.quiet_of_same ((scatter_any i s L _ hi (by omega) hL).mono fun _ _ ⟨h1, h2⟩ => ⟨h1, h2.symm⟩)))
  go_wp2
  go_ret
  exact ⟨rfl, below_dr w nq⟩
set_option maxRecDepth 100000 in
set_option maxHeartbeats 1000000 in
theorem choose2_any (r s N L g gc xb rb : Nat) (A : Option Addr) (c : Nat) (w : World) (hr : r < 4611686018427387904) (hs : s < N) (hN : N ≤ 60) (hL : L < 1000) (hL0 : 0 < L) (hne : xb ≠ rb) (hng : xb ≠ g)
    (cx : w.cell? ⟨xb, 0, none⟩ = some (.int .i64 r)) (fx : w.frozen? ⟨xb, 0, none⟩ = false) (cr : w.cell? ⟨rb, 0, none⟩ = some (.slice (some ⟨g, 0, none⟩) N gc)) (cg : w.cell? ⟨g, s, none⟩ = some (.slice A L c)) :
    Calls Tryd.prog 88 #[.int .i64 s, .pointer (some ⟨rb, 0, none⟩), .pointer (some ⟨xb, 0, none⟩)] w fun e w' => e = .returned (.int .i64 (r % L : Nat)) ∧ w' = w.setCell ⟨xb, 0, none⟩ (.int .i64 (r / L : Nat)) := by
  have hsN : (s : Int) < N := by omega
  have hm := hid (show (r : Int) % L = ((r % L : Nat) : Int) by simp)
  have hd := hid (show (r : Int) / L = ((r / L : Nat) : Int) by simp)
  have hL1 : (L : Int) ≠ 0 := by omega
  have hqq := IntWalk.i64_quo r L (by omega)
  go_enter Tryd.func88, Tryd.ntmps88
  go_wp2_with fail
  have hdb : r / L ≤ r := Nat.div_le_self _ _
  have hw : wrap64 ((r : Int) / L) = ((r / L : Nat) : Int) := by
    rw [hd.out]
    generalize r / L = z at *
    unfold wrap64
    omega
  rw [hw, hm.out]
  go_ret
  exact ⟨rfl, rfl⟩
end Go.Proofs.YtlpfglkopnmlnaaDoor
namespace Go.Proofs.YtlpfglkopnmlnaaDoor
open Go.RowKit Go.Shelf
/-- The colouring in which each state has that one of its orders that D says. -/
def numM (m : List (List Int)) (D : Nat → Nat) : List (List Int) := (List.range m.length).map fun s => (orbP (m.getD s [])).getD (D s) []
theorem numM_length (m : List (List Int)) (D : Nat → Nat) : (numM m D).length = m.length := by simp [numM]
theorem numM_get (m : List (List Int)) (D : Nat → Nat) (i : Nat) (h : i < m.length) : (numM m D).getD i [] = (orbP (m.getD i [])).getD (D i) [] := by simp [numM, List.getD_eq_getElem?_getD, h]
theorem clone_as (v : Value) (l : List Int) (n : Nat) (w : World) (h : Ints w v l) (hn : Hid (l.length = n)) (hp : 0 < n) (hl : n ≤ 100) :
    Calls Tryd.prog 80 #[v] w fun e w' => ∃ g c, e = .returned (.slice (some ⟨g, 0, none⟩) n c) ∧ w'.ownsRow w.heap.size 3 1 (.slice (some ⟨g, 0, none⟩) n c) n (l.map fun x => .int .i64 x) ∧ Below w.heap.size w w' := by
  obtain rfl := hn.out
  exact clone_any v l w h hp hl
theorem Turn.below {X : Blocks} {W W' : World} {n : Nat} (h : Turn X W W') (hX : ∀ k, X k → n ≤ k) (hn : n ≤ W.heap.size) : Below n W W' :=
  ⟨h.os, h.tape, h.output, h.size, fun k hk => h.block k (by omega) (fun hx => by have := hX k hx; omega)⟩
theorem Turn.setNew {X : Blocks} {W W' : World} (h : Turn X W W') (a : Addr) (ha : W.heap.size ≤ a.block) (u : Value) : Turn X W (W'.setCell a u) :=
  ⟨h.os, h.tape, h.output, by rw [show (W'.setCell a u).heap.size = W'.heap.size by simp [World.setCell]]; exact h.size, fun k hk hX => (Below.heap_setCell _ _ _ _ (by omega)).trans (h.block k hk hX)⟩
theorem IntsOff.turn {W W' : World} {X : Blocks} {base : Nat} {g : Option Nat} {v : Value} {l : List Int} (h : IntsOff W base g v l) (ht : Turn X W W') (hX : ∀ k, X k → k < base) : IntsOff W' base g v l :=
  h.kept (fun k hb hk _ => ht.block k hk (fun hx => by have := hX k hx; omega)) (fun _ _ h => h)
theorem orbP_row {m : List (List Int)} (hv : validM m = true) {s : Nat} (hs : s < m.length) : 1 ≤ (m.getD s []).length ∧ (m.getD s []).length ≤ 6 ∧ (m.getD s []).length = letters m := by
  obtain ⟨p1, p2, p3, p4, p5⟩ := valid_parts hv
  have := (p5 s hs).1
  omega
theorem orbP_big {m : List (List Int)} (hv : validM m = true) {s : Nat} (hs : s < m.length) : (orbP (m.getD s [])).length ≤ 721 ∧ 1 ≤ (orbP (m.getD s [])).length := by
  obtain ⟨h1, h2, _⟩ := orbP_row hv hs
  obtain ⟨a1, a2, _, _⟩ := perP_spec h1 h2
  rw [orbP_len]
  exact ⟨a2, a1⟩
set_option maxRecDepth 100000 in
set_option maxHeartbeats 4000000 in
theorem numbering1_any (m : List (List Int)) (D : Nat → Nat) (base g gc b1 b2 rx : Nat) (St : Nat → World → Prop) (w0 w : World) (hv : validM m = true) (hgc : gc = m.length)
    (hT : OrdT w0 base g m m.length) (hw : Below w0.heap.size w0 w) (hrx : w0.heap.size ≤ rx) (hrxw : rx < w.heap.size)
    (hSt : ∀ s W W', St s W → w.heap.size ≤ W.heap.size → Below w.heap.size W W' → St s W')
    (hcall : ∀ s W, Below w0.heap.size w0 W → s < m.length → St s W → Calls Tryd.prog 86 #[.int .i64 s, .pointer (some ⟨b1, 0, none⟩), .pointer (some ⟨b2, 0, none⟩)] W fun e W' => e = .returned (.int .i64 (D s : Nat)) ∧ St (s + 1) W' ∧ Turn (fun k => k = rx) W W')
    (hD : ∀ s, s < m.length → D s < (orbP (m.getD s [])).length) (h0 : St 0 w) :
    Calls Tryd.prog 85 #[.slice (some ⟨g, 0, none⟩) m.length gc, .func (.func 86) #[] #[.pointer (some ⟨b1, 0, none⟩), .pointer (some ⟨b2, 0, none⟩)]] w fun e w' => ∃ r, e = .returned (.agg #[r]) ∧ MRows w' w.heap.size r (numM m D) ∧ St m.length w' ∧ Turn (fun k => k = rx) w w' := by
  subst hgc
  obtain ⟨p1, p2, p3, p4, p5⟩ := valid_parts hv
  obtain ⟨i0, hi, hz0, hz1, hz2⟩ := info_parts infoRow
  have Hcall := hid hcall
  have HSt := hid hSt
  have HD := hid hD
  have HT := hid hT
  have q0 := Boxed.new w 24 (.slice none 0 0)
  have hXs : (w.alloc (.cells #[.slice none 0 0] 24)).heap.size = w.heap.size + 1 := by simp
  have hX := bal (Below.refl _ w) (.cells #[.slice none 0 0] 24)
  have hS0 := hSt 0 w _ h0 (Nat.le_refl _) hX
  have HS0 := hid hS0
  clear hcall hSt hD hT p5 h0 hS0
  go_enter Tryd.func85, Tryd.ntmps85
  go_upto_region 1 with fail
  generalize w.alloc (.cells #[.slice none 0 0] 24) = X at *
  have hw0 : w.heap.size < X.heap.size := by omega
  go_wp2_with (at_make; refine wpList_make_full _ rfl _ _ 22 rfl X.heap.size 41 i0 (.slice none 0 0) 1 Tryd.underlying22 hi hz0 hz1 .i64 .i64 _ _ m.length rfl rfl rfl rfl (by rw [hz2]; omega) (by unfold maxLen; omega) (Nat.le_refl _) ?_; intro w3 hown hgrow; have hB3 : Below X.heap.size X w3 := (Below.refl _ _).grown hgrow (Nat.le_refl _) (fun q hq => by cases hq))
  have q3 : Boxed w3 w.heap.size 24 (.slice none 0 0) := (hB3.block _ hw0).trans q0
  have hS3 := HSt.out 0 X w3 HS0.out (by omega) (hB3.mono (by omega))
  have hT3 : Turn (fun k => k = rx) w w3 := Turn.of_below (hX.trans (hB3.mono (by omega)))
  rw [hXs] at hown
  rw [show Value.cells (.slice none 0 0) = #[.slice none 0 0] from rfl, toList_madeCells_one, Nat.mul_one] at hown
  have Hx := hid (show Boxed w3 w.heap.size 24 (.slice none 0 0) ∧ St 0 w3 ∧ Turn (fun k => k = rx) w w3 from ⟨q3, hS3, hT3⟩)
  clear q0 q3 hS3 hT3 hB3 HS0
  go_loopw [13] (fun i wr => ∃ (k : Nat) (xs : List Value), k ≤ m.length ∧ i = .int .i64 k ∧ wr.ownsRow (w.heap.size + 1) 41 1 (.slice (some ⟨w.heap.size + 1, 0, none⟩) m.length m.length) m.length xs ∧ (∀ s, s < k → IntsOff wr (w.heap.size + 1) (some (w.heap.size + 1)) (xs.getD s .nilIface) ((orbP (m.getD s [])).getD (D s) [])) ∧ Boxed wr w.heap.size 24 (.slice none 0 0) ∧ St k wr ∧ Turn (fun k => k = rx) w wr) (fun i _ => m.length - (intOf i).toNat)
  case atStart => exact ⟨0, _, Nat.zero_le _, rfl, hown, fun s hs => by omega, Hx.out⟩
  case round =>
    clear hown Hx
    obtain ⟨k, xs, hk, rfl, hO, hdone, hbx, hS, hTr⟩ := hrel
    have hsz := hTr.size
    have hlO := ownsA_lt hO
    by_cases hlt : k < m.length
    · have hkm : (k : Int) < m.length := by omega
      have hBw := hw.trans (hTr.below (n := w0.heap.size) (fun q hq => by subst hq; exact hrx) hw.size)
      obtain ⟨u, hu, hM⟩ := HT.out.cell hlt
      obtain ⟨o1, o2, o3⟩ := orbP_row hv hlt
      obtain ⟨o4, o5⟩ := orbP_big hv hlt
      have hR := (hM hlt).rows (by unfold big; omega)
      have hDk := HD.out k hlt
      have hper := orbP_perm (m.getD k []) (i := D k) (by rw [orbP_len] at hDk; exact hDk)
      have hql := hper.length_eq
      have hcu := (hBw.cell (p := ⟨g, k, none⟩) (World.block_lt_of_cell? _ _ hu)).trans hu
      obtain ⟨Au, cu, rfl, -, hcr⟩ := hR
      obtain ⟨b, off, r, hA, hcell, hrow⟩ := hcr (D k) hDk
      subst hA
      have hca := Hcall.out k wr hBw hlt hS
      have Hclone := hid (fun (W : World) (hb : Below w0.heap.size w0 W) => clone_as r ((orbP (m.getD k [])).getD (D k) []) (letters m) W (hrow.below hb) (hid (hql.trans o3)) (by omega) (by omega))
      have Hcell := hid (fun (W : World) (hb : Below w0.heap.size w0 W) => (hb.cell (p := ⟨b, off + D k, none⟩) (World.block_lt_of_cell? _ _ hcell)).trans hcell)
      have Hlen := hid (hql.trans o3)
      generalize hq : (orbP (m.getD k [])).getD (D k) [] = q at *
      have Hq := hid hq
      generalize (orbP (m.getD k [])).length = L at *
      have hDL : ((D k : Nat) : Int) < L := by omega
      have HO := hid hO
      have Hd := hid hdone
      have Hb := hid hbx
      have HTr := hid hTr
      clear hM hu hcell hrow hcr hper hql hS hO hdone hq hbx hTr
      go_wp2_with fail
      refine hca.mono ?_
      rintro e W1 ⟨rfl, hS1, hT1⟩
      have hB1 := hBw.trans (hT1.below (n := w0.heap.size) (fun q hq => by subst hq; exact hrx) hBw.size)
      have c1 := Hcell.out W1 hB1
      have hs1 := hT1.size
      clear hca
      go_wp2_with fail
      refine (Hclone.out W1 hB1).mono ?_
      rintro e W2 ⟨g2, c2, rfl, ho2, hb2⟩
      have hT2 : Turn (fun k => k = rx) wr W2 := hT1.trans (Turn.of_below (X := fun _ => False) hb2) (fun _ h => h.elim)
      have hO2 := owns_block HO.out (hT2.block (w.heap.size + 1) hlO (by omega))
      have hfr := World.ownsRow.frozenAt hO2 k
      have hcx := hO2.cellAt k (by omega)
      have hxl : xs.length = m.length := by have := hO2.1; omega
      rw [List.getElem?_eq_getElem (by omega)] at hcx
      have hg2 := (ownsRow_blk ho2 g2 rfl)
      have hs2 := hT2.size
      have KK : Hid (∀ W3, W3 = W2.setCell ⟨w.heap.size + 1, k, none⟩ (.slice (some ⟨g2, 0, none⟩) (letters m) c2) →
          W3.ownsRow (w.heap.size + 1) 41 1 (.slice (some ⟨w.heap.size + 1, 0, none⟩) m.length m.length) m.length (xs.set k (.slice (some ⟨g2, 0, none⟩) (letters m) c2)) ∧
          (∀ s, s < k + 1 → IntsOff W3 (w.heap.size + 1) (some (w.heap.size + 1)) ((xs.set k (.slice (some ⟨g2, 0, none⟩) (letters m) c2)).getD s .nilIface) ((orbP (m.getD s [])).getD (D s) [])) ∧
          Boxed W3 w.heap.size 24 (.slice none 0 0) ∧ St (k + 1) W3 ∧ Turn (fun k => k = rx) w W3) := hid (by
        rintro W3 rfl
        have hsame : ∀ q, q ≠ w.heap.size + 1 → (W2.setCell ⟨w.heap.size + 1, k, none⟩ (.slice (some ⟨g2, 0, none⟩) (letters m) c2)).heap[q]? = W2.heap[q]? := fun q hq => Below.heap_setCell _ _ _ _ (by simp; omega)
        refine ⟨(World.ownsRow.stored hO2 k _).1, fun s hs => ?_, ?_, ?_, ?_⟩
        · by_cases e : s = k
          · subst e
            rw [getD_set_same _ (by omega), Hq.out]
            exact (off_of_own ho2 Hlen.out (by omega) (fun e => by simp only [Option.some.injEq] at e; omega) (by unfold big; omega)).kept (fun q _ _ hne => hsame q (fun e => hne (by rw [e]))) (fun _ _ h => h)
          · rw [getD_set_other _ e]
            exact (((Hd.out s (by omega)).turn hT2 (fun q hq => by omega))).kept (fun q _ _ hne => hsame q (fun e => hne (by rw [e]))) (fun _ _ h => h)
        · exact (hsame _ (by omega)).trans ((hT2.block _ (by omega) (by omega)).trans Hb.out)
        · exact HSt.out (k + 1) W1 _ hS1 (by omega) ((hb2.mono (by omega)).setCell (p := ⟨w.heap.size + 1, k, none⟩) (by show w.heap.size ≤ w.heap.size + 1; omega) _)
        · exact (HTr.out.trans hT2 (fun _ h => .inl h)).setNew _ (by show w.heap.size ≤ w.heap.size + 1; omega) _)
      clear hT2 hO2 ho2 Hclone Hcell
      go_wp2
      go_roundw
      case rel => exact ⟨k + 1, _, by omega, by go_num, KK.out _ rfl⟩
      case measure => simp [intOf]; omega
    · obtain rfl : k = m.length := by omega
      have hss : ¬ ((m.length : Nat) : Int) < m.length := by omega
      have hM : MRows wr (w.heap.size + 1) (.slice (some ⟨w.heap.size + 1, 0, none⟩) m.length m.length) (numM m D) := ⟨xs, by rw [numM_length]; exact hO, fun i hi => by
        rw [numM_length] at hi
        rw [numM_get m D i hi]
        exact hdone i hi⟩
      have d1 := hbx.cell
      have d2 := hbx.frozen
      have d3 := store_res hbx (.slice (some ⟨w.heap.size + 1, 0, none⟩) m.length m.length)
      have g6 : (wr.setCell ⟨w.heap.size, 0, none⟩ (.slice (some ⟨w.heap.size + 1, 0, none⟩) m.length m.length)).heap[w.heap.size]? = some (.cells #[.slice (some ⟨w.heap.size + 1, 0, none⟩) m.length m.length] 24 (0, 0)) := by simpa using heap_setCell_same wr w.heap.size 0 _ _ (.slice (some ⟨w.heap.size + 1, 0, none⟩) m.length m.length) hbx
      have HM := hid ((hM.kept (W' := wr.setCell ⟨w.heap.size, 0, none⟩ (.slice (some ⟨w.heap.size + 1, 0, none⟩) m.length m.length)) (fun q hq hs => Below.heap_setCell _ _ _ _ (by simp; omega))).mono_base (by omega : w.heap.size ≤ w.heap.size + 1))
      have HS := hid (HSt.out _ wr (wr.setCell ⟨w.heap.size, 0, none⟩ (.slice (some ⟨w.heap.size + 1, 0, none⟩) m.length m.length)) hS hsz (Below.setCell (Below.refl _ _) (p := ⟨w.heap.size, 0, none⟩) (Nat.le_refl _) _))
      have HTr := hid (hTr.setNew ⟨w.heap.size, 0, none⟩ (Nat.le_refl _) (.slice (some ⟨w.heap.size + 1, 0, none⟩) m.length m.length))
      have G6 := hid g6
      clear hM hO hdone hbx hS hTr g6
      go_wp2
      (try simp only [Exit.inBlock, Exit.then])
      refine bodyPost_ret (v := .agg #[.slice (some ⟨w.heap.size + 1, 0, none⟩) m.length m.length]) ?_ rfl ⟨_, rfl, HM.out, HS.out, HTr.out⟩
      exact results_cell_row rfl _ _ _ _ _ _ _ rfl G6.out Tryd.underlying24 rfl (by kernel_rfl)
end Go.Proofs.YtlpfglkopnmlnaaDoor
namespace Go.Proofs.YtlpfglkopnmlnaaDoor
open Go.RowKit Go.Shelf
set_option maxRecDepth 100000 in
set_option maxHeartbeats 4000000 in
theorem numbering2_any (m : List (List Int)) (D : Nat → Nat) (base g gc b1 b2 rx : Nat) (St : Nat → World → Prop) (w0 w : World) (hv : validM m = true) (hgc : gc = m.length)
    (hT : OrdT w0 base g m m.length) (hw : Below w0.heap.size w0 w) (hrx : w0.heap.size ≤ rx) (hrxw : rx < w.heap.size)
    (hSt : ∀ s W W', St s W → w.heap.size ≤ W.heap.size → Below w.heap.size W W' → St s W')
    (hcall : ∀ s W, Below w0.heap.size w0 W → s < m.length → St s W → Calls Tryd.prog 88 #[.int .i64 s, .pointer (some ⟨b1, 0, none⟩), .pointer (some ⟨b2, 0, none⟩)] W fun e W' => e = .returned (.int .i64 (D s : Nat)) ∧ St (s + 1) W' ∧ Turn (fun k => k = rx) W W')
    (hD : ∀ s, s < m.length → D s < (orbP (m.getD s [])).length) (h0 : St 0 w) :
    Calls Tryd.prog 85 #[.slice (some ⟨g, 0, none⟩) m.length gc, .func (.func 88) #[] #[.pointer (some ⟨b1, 0, none⟩), .pointer (some ⟨b2, 0, none⟩)]] w fun e w' => ∃ r, e = .returned (.agg #[r]) ∧ MRows w' w.heap.size r (numM m D) ∧ St m.length w' ∧ Turn (fun k => k = rx) w w' := by
  subst hgc
  obtain ⟨p1, p2, p3, p4, p5⟩ := valid_parts hv
  obtain ⟨i0, hi, hz0, hz1, hz2⟩ := info_parts infoRow
  have Hcall := hid hcall
  have HSt := hid hSt
  have HD := hid hD
  have HT := hid hT
  have q0 := Boxed.new w 24 (.slice none 0 0)
  have hXs : (w.alloc (.cells #[.slice none 0 0] 24)).heap.size = w.heap.size + 1 := by simp
  have hX := bal (Below.refl _ w) (.cells #[.slice none 0 0] 24)
  have hS0 := hSt 0 w _ h0 (Nat.le_refl _) hX
  have HS0 := hid hS0
  clear hcall hSt hD hT p5 h0 hS0
  go_enter Tryd.func85, Tryd.ntmps85
  go_upto_region 1 with fail
  generalize w.alloc (.cells #[.slice none 0 0] 24) = X at *
  have hw0 : w.heap.size < X.heap.size := by omega
  go_wp2_with (at_make; refine wpList_make_full _ rfl _ _ 22 rfl X.heap.size 41 i0 (.slice none 0 0) 1 Tryd.underlying22 hi hz0 hz1 .i64 .i64 _ _ m.length rfl rfl rfl rfl (by rw [hz2]; omega) (by unfold maxLen; omega) (Nat.le_refl _) ?_; intro w3 hown hgrow; have hB3 : Below X.heap.size X w3 := (Below.refl _ _).grown hgrow (Nat.le_refl _) (fun q hq => by cases hq))
  have q3 : Boxed w3 w.heap.size 24 (.slice none 0 0) := (hB3.block _ hw0).trans q0
  have hS3 := HSt.out 0 X w3 HS0.out (by omega) (hB3.mono (by omega))
  have hT3 : Turn (fun k => k = rx) w w3 := Turn.of_below (hX.trans (hB3.mono (by omega)))
  rw [hXs] at hown
  rw [show Value.cells (.slice none 0 0) = #[.slice none 0 0] from rfl, toList_madeCells_one, Nat.mul_one] at hown
  have Hx := hid (show Boxed w3 w.heap.size 24 (.slice none 0 0) ∧ St 0 w3 ∧ Turn (fun k => k = rx) w w3 from ⟨q3, hS3, hT3⟩)
  clear q0 q3 hS3 hT3 hB3 HS0
  go_loopw [13] (fun i wr => ∃ (k : Nat) (xs : List Value), k ≤ m.length ∧ i = .int .i64 k ∧ wr.ownsRow (w.heap.size + 1) 41 1 (.slice (some ⟨w.heap.size + 1, 0, none⟩) m.length m.length) m.length xs ∧ (∀ s, s < k → IntsOff wr (w.heap.size + 1) (some (w.heap.size + 1)) (xs.getD s .nilIface) ((orbP (m.getD s [])).getD (D s) [])) ∧ Boxed wr w.heap.size 24 (.slice none 0 0) ∧ St k wr ∧ Turn (fun k => k = rx) w wr) (fun i _ => m.length - (intOf i).toNat)
  case atStart => exact ⟨0, _, Nat.zero_le _, rfl, hown, fun s hs => by omega, Hx.out⟩
  case round =>
    clear hown Hx
    obtain ⟨k, xs, hk, rfl, hO, hdone, hbx, hS, hTr⟩ := hrel
    have hsz := hTr.size
    have hlO := ownsA_lt hO
    by_cases hlt : k < m.length
    · have hkm : (k : Int) < m.length := by omega
      have hBw := hw.trans (hTr.below (n := w0.heap.size) (fun q hq => by subst hq; exact hrx) hw.size)
      obtain ⟨u, hu, hM⟩ := HT.out.cell hlt
      obtain ⟨o1, o2, o3⟩ := orbP_row hv hlt
      obtain ⟨o4, o5⟩ := orbP_big hv hlt
      have hR := (hM hlt).rows (by unfold big; omega)
      have hDk := HD.out k hlt
      have hper := orbP_perm (m.getD k []) (i := D k) (by rw [orbP_len] at hDk; exact hDk)
      have hql := hper.length_eq
      have hcu := (hBw.cell (p := ⟨g, k, none⟩) (World.block_lt_of_cell? _ _ hu)).trans hu
      obtain ⟨Au, cu, rfl, -, hcr⟩ := hR
      obtain ⟨b, off, r, hA, hcell, hrow⟩ := hcr (D k) hDk
      subst hA
      have hca := Hcall.out k wr hBw hlt hS
      have Hclone := hid (fun (W : World) (hb : Below w0.heap.size w0 W) => clone_as r ((orbP (m.getD k [])).getD (D k) []) (letters m) W (hrow.below hb) (hid (hql.trans o3)) (by omega) (by omega))
      have Hcell := hid (fun (W : World) (hb : Below w0.heap.size w0 W) => (hb.cell (p := ⟨b, off + D k, none⟩) (World.block_lt_of_cell? _ _ hcell)).trans hcell)
      have Hlen := hid (hql.trans o3)
      generalize hq : (orbP (m.getD k [])).getD (D k) [] = q at *
      have Hq := hid hq
      generalize (orbP (m.getD k [])).length = L at *
      have hDL : ((D k : Nat) : Int) < L := by omega
      have HO := hid hO
      have Hd := hid hdone
      have Hb := hid hbx
      have HTr := hid hTr
      clear hM hu hcell hrow hcr hper hql hS hO hdone hq hbx hTr
      go_wp2_with fail
      refine hca.mono ?_
      rintro e W1 ⟨rfl, hS1, hT1⟩
      have hB1 := hBw.trans (hT1.below (n := w0.heap.size) (fun q hq => by subst hq; exact hrx) hBw.size)
      have c1 := Hcell.out W1 hB1
      have hs1 := hT1.size
      clear hca
      go_wp2_with fail
      refine (Hclone.out W1 hB1).mono ?_
      rintro e W2 ⟨g2, c2, rfl, ho2, hb2⟩
      have hT2 : Turn (fun k => k = rx) wr W2 := hT1.trans (Turn.of_below (X := fun _ => False) hb2) (fun _ h => h.elim)
      have hO2 := owns_block HO.out (hT2.block (w.heap.size + 1) hlO (by omega))
      have hfr := World.ownsRow.frozenAt hO2 k
      have hcx := hO2.cellAt k (by omega)
      have hxl : xs.length = m.length := by have := hO2.1; omega
      rw [List.getElem?_eq_getElem (by omega)] at hcx
      have hg2 := (ownsRow_blk ho2 g2 rfl)
      have hs2 := hT2.size
      have KK : Hid (∀ W3, W3 = W2.setCell ⟨w.heap.size + 1, k, none⟩ (.slice (some ⟨g2, 0, none⟩) (letters m) c2) →
          W3.ownsRow (w.heap.size + 1) 41 1 (.slice (some ⟨w.heap.size + 1, 0, none⟩) m.length m.length) m.length (xs.set k (.slice (some ⟨g2, 0, none⟩) (letters m) c2)) ∧
          (∀ s, s < k + 1 → IntsOff W3 (w.heap.size + 1) (some (w.heap.size + 1)) ((xs.set k (.slice (some ⟨g2, 0, none⟩) (letters m) c2)).getD s .nilIface) ((orbP (m.getD s [])).getD (D s) [])) ∧
          Boxed W3 w.heap.size 24 (.slice none 0 0) ∧ St (k + 1) W3 ∧ Turn (fun k => k = rx) w W3) := hid (by
        rintro W3 rfl
        have hsame : ∀ q, q ≠ w.heap.size + 1 → (W2.setCell ⟨w.heap.size + 1, k, none⟩ (.slice (some ⟨g2, 0, none⟩) (letters m) c2)).heap[q]? = W2.heap[q]? := fun q hq => Below.heap_setCell _ _ _ _ (by simp; omega)
        refine ⟨(World.ownsRow.stored hO2 k _).1, fun s hs => ?_, ?_, ?_, ?_⟩
        · by_cases e : s = k
          · subst e
            rw [getD_set_same _ (by omega), Hq.out]
            exact (off_of_own ho2 Hlen.out (by omega) (fun e => by simp only [Option.some.injEq] at e; omega) (by unfold big; omega)).kept (fun q _ _ hne => hsame q (fun e => hne (by rw [e]))) (fun _ _ h => h)
          · rw [getD_set_other _ e]
            exact (((Hd.out s (by omega)).turn hT2 (fun q hq => by omega))).kept (fun q _ _ hne => hsame q (fun e => hne (by rw [e]))) (fun _ _ h => h)
        · exact (hsame _ (by omega)).trans ((hT2.block _ (by omega) (by omega)).trans Hb.out)
        · exact HSt.out (k + 1) W1 _ hS1 (by omega) ((hb2.mono (by omega)).setCell (p := ⟨w.heap.size + 1, k, none⟩) (by show w.heap.size ≤ w.heap.size + 1; omega) _)
        · exact (HTr.out.trans hT2 (fun _ h => .inl h)).setNew _ (by show w.heap.size ≤ w.heap.size + 1; omega) _)
      clear hT2 hO2 ho2 Hclone Hcell
      go_wp2
      go_roundw
      case rel => exact ⟨k + 1, _, by omega, by go_num, KK.out _ rfl⟩
      case measure => simp [intOf]; omega
    · obtain rfl : k = m.length := by omega
      have hss : ¬ ((m.length : Nat) : Int) < m.length := by omega
      have hM : MRows wr (w.heap.size + 1) (.slice (some ⟨w.heap.size + 1, 0, none⟩) m.length m.length) (numM m D) := ⟨xs, by rw [numM_length]; exact hO, fun i hi => by
        rw [numM_length] at hi
        rw [numM_get m D i hi]
        exact hdone i hi⟩
      have d1 := hbx.cell
      have d2 := hbx.frozen
      have d3 := store_res hbx (.slice (some ⟨w.heap.size + 1, 0, none⟩) m.length m.length)
      have g6 : (wr.setCell ⟨w.heap.size, 0, none⟩ (.slice (some ⟨w.heap.size + 1, 0, none⟩) m.length m.length)).heap[w.heap.size]? = some (.cells #[.slice (some ⟨w.heap.size + 1, 0, none⟩) m.length m.length] 24 (0, 0)) := by simpa using heap_setCell_same wr w.heap.size 0 _ _ (.slice (some ⟨w.heap.size + 1, 0, none⟩) m.length m.length) hbx
      have HM := hid ((hM.kept (W' := wr.setCell ⟨w.heap.size, 0, none⟩ (.slice (some ⟨w.heap.size + 1, 0, none⟩) m.length m.length)) (fun q hq hs => Below.heap_setCell _ _ _ _ (by simp; omega))).mono_base (by omega : w.heap.size ≤ w.heap.size + 1))
      have HS := hid (HSt.out _ wr (wr.setCell ⟨w.heap.size, 0, none⟩ (.slice (some ⟨w.heap.size + 1, 0, none⟩) m.length m.length)) hS hsz (Below.setCell (Below.refl _ _) (p := ⟨w.heap.size, 0, none⟩) (Nat.le_refl _) _))
      have HTr := hid (hTr.setNew ⟨w.heap.size, 0, none⟩ (Nat.le_refl _) (.slice (some ⟨w.heap.size + 1, 0, none⟩) m.length m.length))
      have G6 := hid g6
      clear hM hO hdone hbx hS hTr g6
      go_wp2
      (try simp only [Exit.inBlock, Exit.then])
      refine bodyPost_ret (v := .agg #[.slice (some ⟨w.heap.size + 1, 0, none⟩) m.length m.length]) ?_ rfl ⟨_, rfl, HM.out, HS.out, HTr.out⟩
      exact results_cell_row rfl _ _ _ _ _ _ _ rfl G6.out Tryd.underlying24 rfl (by kernel_rfl)
end Go.Proofs.YtlpfglkopnmlnaaDoor
namespace Go.Proofs.YtlpfglkopnmlnaaDoor
open Go.RowKit Go.Shelf
attribute [local go_sem] Oper.semAt_some
/-- How many orders a state has. -/
def ordL (m : List (List Int)) (s : Nat) : Nat := (orbP (m.getD s [])).length
def scD (m : List (List Int)) (i s : Nat) : Nat := scatN i s (ordL m s)
def restD (m : List (List Int)) (i : Nat) : Nat → Nat
  | 0 => i
  | s + 1 => restD m i s / ordL m s
def dgD (m : List (List Int)) (i s : Nat) : Nat := restD m i s % ordL m s
theorem restD_le (m : List (List Int)) (i : Nat) : ∀ s, restD m i s ≤ i
  | 0 => Nat.le_refl _
  | s + 1 => Nat.le_trans (Nat.div_le_self _ _) (restD_le m i s)
/-- The colourings that are tried: scattered ones, and then all, if they are not too many. -/
def scN (m : List (List Int)) (k : Nat) : List (List (List Int)) := (List.range k).map fun i => numM m (scD m i)
def dgN (m : List (List Int)) (k : Nat) : List (List (List Int)) := (List.range k).map fun i => numM m (dgD m i)
def tryR : Option Nat → Nat
  | none => 0
  | some c => if c ≤ 1000000 then c else 0
def tryC (m : List (List Int)) : Nat := tryR (colTo m 1152921504606846976 m.length)
def allNum (m : List (List Int)) : List (List (List Int)) := scN m 1000 ++ dgN m (tryC m)
theorem scN_succ (m : List (List Int)) (k : Nat) : scN m (k + 1) = scN m k ++ [numM m (scD m k)] := by unfold scN; rw [List.range_succ, List.map_append]; rfl
theorem dgN_succ (m : List (List Int)) (k : Nat) : dgN m (k + 1) = dgN m k ++ [numM m (dgD m k)] := by unfold dgN; rw [List.range_succ, List.map_append]; rfl
theorem scN_pre (m : List (List Int)) {i k : Nat} (h : i ≤ k) : scN m i <+: scN m k := by
  obtain ⟨d, rfl⟩ : ∃ d, k = i + d := ⟨k - i, by omega⟩
  clear h
  induction d with
  | zero => exact List.prefix_refl _
  | succ d ih => exact ih.trans (by rw [← Nat.add_assoc, scN_succ]; exact List.prefix_append _ _)
theorem dgN_pre (m : List (List Int)) {i k : Nat} (h : i ≤ k) : dgN m i <+: dgN m k := by
  obtain ⟨d, rfl⟩ : ∃ d, k = i + d := ⟨k - i, by omega⟩
  clear h
  induction d with
  | zero => exact List.prefix_refl _
  | succ d ih => exact ih.trans (by rw [← Nat.add_assoc, dgN_succ]; exact List.prefix_append _ _)
/-- What yield is told of a colouring; what holds of it when its round begins. -/
def encN (x : Value × List (List Int)) : Array Value := #[.agg #[x.1]]
def NumG (N : Nat) (X : Blocks) (x : Value × List (List Int)) (W : World) : Prop :=
  ∃ nb W1, N ≤ nb ∧ MRows W1 nb x.1 x.2 ∧ W1.heap.size ≤ W.heap.size ∧ ∀ k, nb ≤ k → k < W1.heap.size → X k ∧ W.heap[k]? = W1.heap[k]?
theorem NumG.keep {N : Nat} {X : Blocks} {x : Value × List (List Int)} {n₀ : Nat} {W W' : World} (h : NumG N X x W) (k : Keep n₀ X W W') : NumG N X x W' := by
  obtain ⟨nb, W1, h0, h1, h2, h3⟩ := h
  exact ⟨nb, W1, h0, h1, Nat.le_trans h2 k.size, fun q hq hs => ⟨(h3 q hq hs).1, (k.block q (by omega) (.inr (h3 q hq hs).1)).trans (h3 q hq hs).2⟩⟩
theorem NumG.mrows {N : Nat} {X : Blocks} {x : Value × List (List Int)} {W : World} (h : NumG N X x W) : ∃ nb, N ≤ nb ∧ MRows W nb x.1 x.2 := by
  obtain ⟨nb, W1, h0, h1, h2, h3⟩ := h
  exact ⟨nb, h0, h1.kept fun q hq hs => (h3 q hq hs).2⟩
/-- What the closure has captured. -/
def Cap (v : Value) (m : List (List Int)) (base g rb ab : Nat) (W : World) : Prop :=
  Rows W v m ∧ OrdT W base g m m.length ∧ W.cell? ⟨rb, 0, none⟩ = some (.slice (some ⟨g, 0, none⟩) m.length m.length) ∧ W.cell? ⟨ab, 0, none⟩ = some v
theorem num_round {J Jx : Blocks → List (Value × List (List Int)) → World → Prop} {full : List (List (List Int))} {l n₀ nb N : Nat} (hJ : Minds J)
    (hY : ∀ X pre x W1, (∀ k, X k → k < W1.heap.size) → J X pre W1 → NumG N X x W1 → (pre ++ [x]).map (·.2) <+: full → YieldAt Fence.wide 0 Tryd.prog l (encN x) W1 fun e W' =>
      ((e = .returned (.bool true) ∧ J X (pre ++ [x]) W') ∨ (e = .returned (.bool false) ∧ Jx X (pre ++ [x]) W')) ∧ Keep n₀ X W1 W')
    {wr W1 : World} {X : Blocks} {pre : List (Value × List (List Int))} {r : Value} {M : List (List Int)} (hB : Below wr.heap.size wr W1) (hM : MRows W1 nb r M) (hnb : wr.heap.size ≤ nb) (hN : N ≤ wr.heap.size) (hj : J X pre wr) (hX : ∀ k, X k → k < wr.heap.size) (hsp : pre.map (·.2) ++ [M] <+: full) :
    ∃ X' : Blocks, (∀ k, X k → X' k) ∧ (∀ k, X' k → k < W1.heap.size) ∧ YieldAt Fence.wide 0 Tryd.prog l #[.agg #[r]] W1 fun e W' =>
      ((e = .returned (.bool true) ∧ J X' (pre ++ [(r, M)]) W') ∨ (e = .returned (.bool false) ∧ Jx X' (pre ++ [(r, M)]) W')) ∧ Keep n₀ X' W1 W' := by
  have hs := hB.size
  refine ⟨fun k => X k ∨ (wr.heap.size ≤ k ∧ k < W1.heap.size), fun k hk => .inl hk, fun k hk => ?_, hY _ pre (r, M) W1 (fun k hk => ?_) ?_ ⟨nb, W1, by omega, hM, Nat.le_refl _, fun k h1 h2 => ⟨.inr ⟨by omega, h2⟩, rfl⟩⟩ (by rw [List.map_append]; exact hsp)⟩
  · rcases hk with h | h
    · have := hX k h; omega
    · exact h.2
  · rcases hk with h | h
    · have := hX k h; omega
    · exact h.2
  · exact hJ X _ pre wr W1 hj (Turn.of_below hB) (fun k hk => hk.imp id And.left)
end Go.Proofs.YtlpfglkopnmlnaaDoor
namespace Go.Proofs.YtlpfglkopnmlnaaDoor
open Go.RowKit Go.Shelf
/-- What minds neither new blocks, nor a turn of a block of book-keeping. -/
def StableE (B : Nat) {β : Type} (I : Blocks → β → World → Prop) : Prop :=
  ∀ X s W W', I X s W → W'.os = W.os → W'.tape = W.tape → W'.output = W.output → W.heap.size ≤ W'.heap.size →
    (∀ k o, W.heap[k]? = some o → (k < B ∨ o.isCells = true) → W'.heap[k]? = some o) → I X s W'
def MindsE {β : Type} (J : Blocks → β → World → Prop) : Prop :=
  ∀ X s W W', J X s W → Turn (fun _ => False) W W' → J X s W'
theorem StableE.put {B : Nat} {β : Type} {I : Blocks → β → World → Prop} (h : StableE B I) {X : Blocks} {s : β} {W : World} {l : Nat} {o : Obj} (o' : Obj) (hs : I X s W) (hB : B ≤ l) (hl : W.heap[l]? = some o) (ho : o.isCells = false) : I X s (W.putObj l o') := by
  obtain ⟨a, b, c, d⟩ := putObj_book W l o'
  refine h X s W _ hs a b c d (fun k ok hk hc => ?_)
  by_cases e : k = l
  · subst e
    rw [hl] at hk; cases hk
    rcases hc with h1 | h1
    · omega
    · rw [ho] at h1; cases h1
  · exact (World.putObj_heap_other e).trans hk
/-- WHAT AN ITERATOR PROMISES: gf with what comes before and behind yield among its arguments; encs: yield's arguments; n₀: what it reads lies below; G: what holds of an element while its round begins. -/
def SeqE {α : Type} (gf : Nat) (fb lb : Array Value) (encs : α → Array Value) (n₀ : Nat) (G : Blocks → α → World → Prop) (S Sp : List α → Prop) (w0 : World) (X0 : Blocks) : Prop :=
  ∀ (l : Nat) (J Jx : Blocks → List α → World → Prop) (W : World), Below w0.heap.size w0 W → Minds J → MindsE Jx →
    (∀ X pre x W1, (∀ k, X k → k < W1.heap.size) → J X pre W1 → G X x W1 → Sp (pre ++ [x]) → YieldAt Fence.wide 0 Tryd.prog l (encs x) W1 fun e W' =>
      ((e = .returned (.bool true) ∧ J X (pre ++ [x]) W') ∨ (e = .returned (.bool false) ∧ Jx X (pre ++ [x]) W')) ∧ Keep n₀ X W1 W') →
    J X0 [] W →
    Calls Tryd.prog gf ((fb ++ #[.func (.yield l) #[] #[]]) ++ lb) W fun e W' => (∃ v, e = .returned v) ∧ ((∃ X xs, S xs ∧ J X xs W') ∨ (∃ X pre, Sp pre ∧ Jx X pre W'))
/-- THE STATEMENT 'for .. := range f { .. }' over an iterator that keeps its promise. -/
theorem range_lawE {α : Type} {g : Operand} {ps : Array Tmp} {assign body : Code} {Q : Exit → Act → World → Prop} {a : Act} {w : World} {gf : Nat} {fb lb : Array Value}
    (hg : a.eval g = .func (.func gf) fb lb) (eg : ∀ args w, (callFunc gf args).run Tryd.prog w = .ok (.enter gf args) w)
    {encs : α → Array Value} {n₀ : Nat} {G : Blocks → α → World → Prop} {S Sp : List α → Prop} {w0 : World} {X0 : Blocks} (hseq : SeqE gf fb lb encs n₀ G S Sp w0 X0) (hX0 : ∀ k, X0 k → k < w.heap.size)
    (hG : ∀ X x W W', G X x W → Keep n₀ X W W' → G X x W') (hn : n₀ ≤ w.heap.size) (hb0 : Below w0.heap.size w0 w) (hps : ∀ x, (encs x).size = ps.size)
    (I : Blocks → List α → World → Prop) (Ix : Code → Blocks → List α → World → Prop) (hI : Stable w.heap.size I) (hIx : ∀ c, StableE w.heap.size (Ix c)) (h0 : I X0 [] w)
    (Ax : Blocks → α → Act → World → Prop) (hAx : ∀ X x a' W l o o', Ax X x a' W → w.heap.size ≤ l → W.heap[l]? = some o → o.isCells = false → Ax X x a' (W.putObj l o'))
    (hassign : ∀ (l : Nat) (X : Blocks) (pre : List α) (x : α) (W : World) (K : Act → World → Prop), (∀ k, X k → k < W.heap.size) → I X pre W → G X x W → (∀ a' W', KeepsFrom w.heap.size W W' → Keep n₀ X W W' → I X pre W' → Ax X x a' W' → K a' W') →
      assign.wpIn (Fence.wide.inRound l) 0 Tryd.prog (Exit.then K (fun _ _ _ => False)) { tmps := (ps.zip (encs x)).foldl (fun t (p, v) => t.setIfInBounds p v) a.tmps, defers := [] } W)
    (hbody : ∀ (l : Nat) (X : Blocks) (pre : List α) (x : α) (a' : Act) (W : World), w.heap.size ≤ l → (∃ r, W.heap[l]? = some (.loop r)) → ¬ X l → (∀ k, X k → k < W.heap.size) → I X pre W → G X x W → Ax X x a' W → Sp (pre ++ [x]) →
      body.wpIn (Fence.wide.inRound l) 0 Tryd.prog (postX w.heap.size n₀ I Ix X (pre ++ [x]) W) a' W)
    (hdone : ∀ (D : Nat) (X : Blocks) (xs : List α) (W : World), w.heap.size ≤ D → S xs → I X xs W → W.heap[D]? = some (.deferred (some [])) → Q .normal { a with defers := { target := .collected D, args := #[] } :: a.defers } W)
    (hstop : ∀ (D : Nat) (X : Blocks) (c : Code) (pre : List α) (W : World), w.heap.size ≤ D → Sp pre → Ix c X pre W → W.heap[D]? = some (.deferred (some [])) → c.wpIn Fence.wide 0 Tryd.prog Q { a with defers := { target := .collected D, args := #[] } :: a.defers } W) :
    (Code.rangeFunc g ps assign body).wpIn Fence.wide 0 Tryd.prog Q a w := by
  refine wpIn_rangeFunc ?_
  intro fn hfn
  obtain ⟨rec, hrec⟩ : ∃ rec : LoopState → Option Code → Loop, rec = fun st pe => { state := st, pending := pe, fn, tmps := a.tmps, params := ps, assign, body, defers := w.heap.size } := ⟨_, rfl⟩
  obtain ⟨W1, hW1⟩ : ∃ W1, (w.alloc (.deferred (some []))).alloc (.loop (rec .ready none)) = W1 := ⟨_, rfl⟩
  have hL1 : W1.heap[w.heap.size + 1]? = some (.loop (rec .ready none)) := by
    rw [← hW1]; have := World.alloc_heap_new (w.alloc (.deferred (some []))) (.loop (rec .ready none)); rwa [World.size_alloc] at this
  have hK1 : W1.heap[w.heap.size]? = some (.deferred (some [])) := by
    rw [← hW1]; exact (Below.heap_alloc _ _ _ (by simp)).trans (World.alloc_heap_new w _)
  have hI1 : I X0 [] W1 := by rw [← hW1]; exact hI.new _ (hI.new _ h0)
  have hb1 : Below w0.heap.size w0 W1 := by
    rw [← hW1]; exact hb0.trans ((((Below.refl _ w).alloc (Nat.le_refl _) _).alloc (by simp) _).mono hb0.size)
  refine ⟨w.heap.size + 1, [{ target := .collected w.heap.size, args := #[] }], W1, { target := .fn (.func gf) lb, args := fb ++ #[.func (.yield (w.heap.size + 1)) #[] #[]] }, W1, gf,
    (fb ++ #[.func (.yield (w.heap.size + 1)) #[] #[]]) ++ lb, W1, ?_, ?_, fun f' _ => trivial, ?_, fun h => by simp [Fence.wide] at h, ?_⟩
  · rw [← hW1, hrec]; exact run_enterLoop_outer _ _ _ _ _
  · simp only [resolve, hg]
    simp [go_sem, Deferred.ofValue]
  · simp [invoke, go_sem, eg]
  · refine callsIn_wide.2 ?_
    refine (hseq (w.heap.size + 1)
      (fun X pre W => I X pre W ∧ ¬ X (w.heap.size + 1) ∧ ¬ X w.heap.size ∧ W.heap[w.heap.size + 1]? = some (.loop (rec .ready none)) ∧ W.heap[w.heap.size]? = some (.deferred (some [])))
      (fun X pre W => ∃ c, Ix c X pre W ∧ ¬ X (w.heap.size + 1) ∧ ¬ X w.heap.size ∧ W.heap[w.heap.size + 1]? = some (.loop (rec .done (some c))) ∧ W.heap[w.heap.size]? = some (.deferred (some [])))
      W1 hb1 ?_ ?_ ?_ ⟨hI1, fun h => by have := hX0 _ h; omega, fun h => by have := hX0 _ h; omega, hL1, hK1⟩).mono ?_
    · rintro X X' s A B ⟨h1, h2, h3, h4, h5⟩ ht hX
      have l4 := (Array.getElem?_eq_some_iff.1 h4).1
      refine ⟨hI X X' s A B h1 ht.os ht.tape ht.output ht.size (fun k o hk hx _ => (ht.block k (Array.getElem?_eq_some_iff.1 hk).1 hx).trans hk) hX, fun h => ?_, fun h => ?_, (ht.block _ l4 h2).trans h4, (ht.block _ (by omega) h3).trans h5⟩
      · rcases hX _ h with h | h
        · exact h2 h
        · omega
      · rcases hX _ h with h | h
        · exact h3 h
        · omega
    · rintro X s A B ⟨c, h1, h2, h3, h4, h5⟩ ht
      have l4 := (Array.getElem?_eq_some_iff.1 h4).1
      exact ⟨c, hIx c X s A B h1 ht.os ht.tape ht.output ht.size (fun k o hk _ => (ht.block k (Array.getElem?_eq_some_iff.1 hk).1 (fun h => h)).trans hk), h2, h3, (ht.block _ l4 (fun h => h)).trans h4, (ht.block _ (by omega) (fun h => h)).trans h5⟩
    · -- one round
      rintro X pre x W hXs ⟨hi, hXl, hXd, hl, hk⟩ hgx hsp
      have hy := run_yield (P := Tryd.prog) (args := encs x) hl (by rw [hrec]; exact hps x)
      rw [hrec] at hy
      refine ⟨fn, _, assign, body, hy, roundIn_of_wpIn trivial (hassign _ X pre x W _ hXs hi hgx ?_)⟩
      clear hy
      intro a' Wa hkfa hkpa hia hax
      have hl' := hkfa.same _ _ (by omega) hl rfl
      have hk' := hkfa.same _ _ (Nat.le_refl _) hk rfl
      have hlt := (Array.getElem?_eq_some_iff.1 hl').1
      refine ⟨_, run_beginRound hl' (by rw [hrec]), ?_⟩
      have hl2 : (Wa.putObj (w.heap.size + 1) (.loop { rec .ready none with state := .busy })).heap[w.heap.size + 1]? = some (.loop { rec .ready none with state := .busy }) := World.putObj_heap_same hlt
      have hk2 : (Wa.putObj (w.heap.size + 1) (.loop { rec .ready none with state := .busy })).heap[w.heap.size]? = some (.deferred (some [])) := (World.putObj_heap_other (by omega)).trans hk'
      have hkp2 : Keep n₀ X Wa (Wa.putObj (w.heap.size + 1) (.loop { rec .ready none with state := .busy })) := keep_put _ (by omega) hXl
      refine wpIn_mono (hbody _ X pre x a' _ (by omega) ⟨_, hl2⟩ hXl (fun k hk => by have h1 := hXs k hk; have h2 := hkpa.size; simp; omega) (hI.put _ hia (by omega) hl' rfl) (hG _ _ _ _ hgx (hkpa.trans hkp2)) (hAx X x a' _ _ _ _ hax (by omega) hl' rfl) hsp) ?_
      have fin : ∀ (jump : Option Code) (W3 : World), KeepsFrom w.heap.size (Wa.putObj (w.heap.size + 1) (.loop { rec .ready none with state := .busy })) W3 →
          (Instr.endRound (w.heap.size + 1) jump).run Tryd.prog W3 = .ok (.bool jump.isNone) (W3.putObj (w.heap.size + 1) (.loop (rec (if jump.isNone then .ready else .done) jump))) ∧
          W3.heap[w.heap.size + 1]? = some (.loop { rec .ready none with state := .busy }) ∧
          (W3.putObj (w.heap.size + 1) (.loop (rec (if jump.isNone then .ready else .done) jump))).heap[w.heap.size + 1]? = some (.loop (rec (if jump.isNone then .ready else .done) jump)) ∧
          (W3.putObj (w.heap.size + 1) (.loop (rec (if jump.isNone then .ready else .done) jump))).heap[w.heap.size]? = some (.deferred (some [])) := fun jump W3 hk3 => by
        have hl3 := hk3.same _ _ (by omega) hl2 rfl
        have := run_endRound (P := Tryd.prog) jump hl3
        rw [hrec] at this ⊢
        exact ⟨this, by rw [hrec] at hl3; exact hl3, World.putObj_heap_same (Array.getElem?_eq_some_iff.1 hl3).1, (World.putObj_heap_other (by omega)).trans (hk3.same _ _ (Nat.le_refl _) hk2 rfl)⟩
      have kp : ∀ (W3 : World) (o : Obj), Keep n₀ X (Wa.putObj (w.heap.size + 1) (.loop { rec .ready none with state := .busy })) W3 → Keep n₀ X W (W3.putObj (w.heap.size + 1) o) := fun W3 o h3 =>
        ((hkpa.trans hkp2).trans h3).trans (keep_put _ (by omega) hXl)
      rintro e a3 W3 hp
      cases e with
      | normal =>
        obtain ⟨hk3, hkp3, hi3⟩ := hp
        obtain ⟨hr, hl3, hl4, hk4⟩ := fin none W3 hk3
        exact ⟨_, _, hr, .inl ⟨rfl, hI.put _ hi3 (by omega) hl3 rfl, hXl, hXd, hl4, hk4⟩, kp _ _ hkp3⟩
      | ret =>
        obtain ⟨hk3, hkp3, hi3⟩ := hp
        obtain ⟨hr, hl3, hl4, hk4⟩ := fin (some .ret) W3 hk3
        exact ⟨_, _, hr, .inr ⟨rfl, .ret, (hIx _).put _ hi3 (by omega) hl3 rfl, hXl, hXd, hl4, hk4⟩, kp _ _ hkp3⟩
      | exit id =>
        obtain ⟨hk3, hkp3, hi3⟩ := hp
        obtain ⟨hr, hl3, hl4, hk4⟩ := fin (some (.exit id)) W3 hk3
        exact ⟨_, _, hr, .inr ⟨rfl, .exit id, (hIx _).put _ hi3 (by omega) hl3 rfl, hXl, hXd, hl4, hk4⟩, kp _ _ hkp3⟩
      | goto t =>
        obtain ⟨hk3, hkp3, hi3⟩ := hp
        obtain ⟨hr, hl3, hl4, hk4⟩ := fin (some (.goto t)) W3 hk3
        exact ⟨_, _, hr, .inr ⟨rfl, .goto t, (hIx _).put _ hi3 (by omega) hl3 rfl, hXl, hXd, hl4, hk4⟩, kp _ _ hkp3⟩
      | panic ch => exact hp.elim
      | outgrown => exact hp.elim
    · -- behind the iterator
      rintro e W2 ⟨⟨v, rfl⟩, (⟨X, xs, hS, hi, _, _, hl, hk⟩ | ⟨X, pre, hSp, c, hi, _, _, hl, hk⟩)⟩
      · exact ⟨none, _, by have := run_endLoop (P := Tryd.prog) hl (by rw [hrec]; simp); rw [hrec] at this; exact this, hdone _ X xs _ (Nat.le_refl _) hS (hI.put _ hi (by omega) hl rfl) ((World.putObj_heap_other (by omega)).trans hk)⟩
      · exact ⟨some c, _, by have := run_endLoop (P := Tryd.prog) hl (by rw [hrec]; simp); rw [hrec] at this; exact this, hstop _ X c pre _ (Nat.le_refl _) hSp ((hIx c).put _ hi (by omega) hl rfl) ((World.putObj_heap_other (by omega)).trans hk)⟩
end Go.Proofs.YtlpfglkopnmlnaaDoor
namespace Go.Proofs.YtlpfglkopnmlnaaDoor
open Go.RowKit Go.Shelf
attribute [local go_sem] Oper.semAt_some
theorem Turn.setOne (W : World) (a : Addr) {r : Nat} (ha : a.block = r) (u : Value) : Turn (fun k => k = r) W (W.setCell a u) :=
  ⟨rfl, rfl, rfl, by simp [World.setCell], fun k hk hne => Below.heap_setCell _ _ _ _ (by rw [ha]; exact hne)⟩
/-- Where the ranging stands. -/
def NumAt (J : Blocks → List (Value × List (List Int)) → World → Prop) (n₀ : Nat) (X0 : Blocks) (W0 : World) (done : List (List (List Int))) (pre : List (Value × List (List Int))) (X : Blocks) (wr : World) : Prop :=
  pre.map (·.2) = done ∧ J X pre wr ∧ (∀ k, X k → k < wr.heap.size) ∧ (∀ k, X0 k → X k) ∧ Keep n₀ X0 W0 wr
set_option maxRecDepth 100000 in
set_option maxHeartbeats 4000000 in
theorem numbers_seq (v : Value) (m : List (List Int)) (base g rb ab n₀ : Nat) (W0 : World) (X0 : Blocks) (hv : validM m = true) (hX0 : ∀ k, X0 k → k < W0.heap.size) (hn₀ : n₀ ≤ W0.heap.size) (hC : ∀ W', Keep n₀ X0 W0 W' → Cap v m base g rb ab W') :
    SeqE 84 #[] #[.pointer (some ⟨rb, 0, none⟩), .pointer (some ⟨ab, 0, none⟩)] encN n₀ (NumG W0.heap.size) (fun xs => xs.map (·.2) = allNum m) (fun pre => pre.map (·.2) <+: allNum m) W0 X0 := by
  obtain ⟨p1, p2, p3, p4, p5⟩ := valid_parts hv
  intro l J Jx W hW hJ hJx hY h0
  have hWs := hW.size
  have k0 : Keep n₀ X0 W0 W := Keep.of_below hW
  have HC := hid hC
  have HR := hid (fun (wr W1 : World) (X : Blocks) (pre : List (Value × List (List Int))) (r : Value) (M : List (List Int)) (nb : Nat) => num_round (wr := wr) (W1 := W1) (X := X) (pre := pre) (r := r) (M := M) (nb := nb) hJ hY)
  have hst : NumAt J n₀ X0 W0 (scN m 0) [] X0 W := ⟨rfl, h0, fun k hk => by have := hX0 k hk; omega, fun _ h => h, k0⟩
  have Hst := hid hst
  clear hC hY hst h0 p5
  refine (callsIn_wide (n := 0)).1 ?_
  refine callsIn_of_wp Tryd.func84 rfl trivial ?_ rfl
  simp only [Tryd.ntmps84, List.size_toArray, List.length_cons, List.length_nil, Nat.reduceAdd, Nat.reduceSub, Array.replicate_succ, Array.replicate_zero, List.push_toArray, List.append_toArray, List.nil_append, List.cons_append]
  refine wpIn_wide.2 ?_
  go_wp2_with fail
  go_loopw [10] (fun r wr => ∃ (i : Nat) (pre : List (Value × List (List Int))) (X : Blocks), r = .int .i64 i ∧ i ≤ 1000 ∧ NumAt J n₀ X0 W0 (scN m i) pre X wr) (fun r _ => 1000 - (intOf r).toNat)
  case atStart => exact ⟨0, [], X0, rfl, by omega, Hst.out⟩
  case round =>
    clear Hst
    obtain ⟨i, pre, X, rfl, hi, hN⟩ := hrel
    by_cases hlt : i < 1000
    · have his : (i : Int) < 1000 := by omega
      obtain ⟨hpre, hjw, hXlt, hX0X, hK⟩ := hN
      obtain ⟨c1, c2, c3, c4⟩ := HC.out wr hK
      have hB1 := bal (Below.refl _ wr) (.cells #[.int .i64 i] 3)
      have d3 := (hB1.cell (p := ⟨rb, 0, none⟩) (World.block_lt_of_cell? _ _ c3)).trans c3
      have q1 := (Boxed.new wr 3 (.int .i64 i)).cell
      have z1 : (wr.alloc (.cells #[.int .i64 i] 3)).heap.size = wr.heap.size + 1 := by simp
      have Hnum := hid (numbering1_any m (scD m i) base g m.length wr.heap.size rb wr.heap.size (fun _ W => W.cell? ⟨wr.heap.size, 0, none⟩ = some (.int .i64 i)) wr (wr.alloc (.cells #[.int .i64 i] 3)) hv rfl c2 hB1 (Nat.le_refl _) (by omega)
        (fun s A B hA _ hb => (hb.cell (p := ⟨wr.heap.size, 0, none⟩) (by show wr.heap.size < (wr.alloc (.cells #[.int .i64 i] 3)).heap.size; omega)).trans hA)
        (fun s W' hW' hs hbx => by
          obtain ⟨u, hu, hMu⟩ := (c2.below hW').cell hs
          obtain ⟨Au, cu, rfl, -⟩ := (hMu hs).slice
          refine (choose1_any i s m.length (orbP (m.getD s [])).length g m.length wr.heap.size rb Au cu W' (by omega) hs p2 (by have := (orbP_big hv hs).1; omega) hbx ((hW'.cell (p := ⟨rb, 0, none⟩) (World.block_lt_of_cell? _ _ c3)).trans c3) hu).mono ?_
          rintro e W2 ⟨rfl, hb2⟩
          exact ⟨rfl, (hb2.cell (p := ⟨wr.heap.size, 0, none⟩) (World.block_lt_of_cell? _ _ hbx)).trans hbx, Turn.of_below hb2⟩)
        (fun s hs => scatN_lt (orbP_big hv hs).2) q1)
      have Hpre := hid hpre
      have Hj := hid hjw
      have Hsp := hid (show pre.map (·.2) ++ [numM m (scD m i)] <+: allNum m by rw [hpre, ← scN_succ]; exact (scN_pre m (by omega)).trans (List.prefix_append _ _))
      clear hpre hjw c1 c2
      go_upto_region 3 with fail
      refine (wpIn_wide (n := 0)).1 ?_
      gi_wp2_with fail
      refine ⟨trivial, rfl, (callsIn_wide.2 Hnum.out).mono ?_⟩
      rintro e W1 ⟨r, rfl, hM, -, hT⟩
      have hb2 : Below wr.heap.size wr W1 := hB1.trans (hT.below (n := wr.heap.size) (fun q hq => by subst hq; exact Nat.le_refl _) hB1.size)
      obtain ⟨X', hXX, hXs, hy0⟩ := HR.out wr W1 X pre r (numM m (scD m i)) _ hb2 hM (by omega) hK.size Hj.out hXlt Hsp.out
      obtain ⟨fn, tmps, assign, body, hy, hRd⟩ := hy0
      have Hrd := hid hRd
      have HM := hid hM
      clear hRd hM Hnum
      gi_wp2_with fail
      refine ⟨rfl, Hrd.out.mono ?_⟩
      rintro e W3 ⟨⟨rfl, hJ3⟩ | ⟨rfl, hJ3⟩, hk3⟩
      · have hN3 : NumAt J n₀ X0 W0 (scN m (i + 1)) (pre ++ [(r, numM m (scD m i))]) X' W3 := ⟨by rw [List.map_append, Hpre.out, scN_succ]; rfl, hJ3, fun k hk => Nat.lt_of_lt_of_le (hXs k hk) hk3.size, fun k hk => hXX k (hX0X k hk), (hK.trans (Keep.of_below hb2)).trans (hk3.mono fun k hk => hXX k (hX0X k hk))⟩
        have HN3 := hid hN3
        clear hN3
        gi_wp2_with fail
        go_wp2
        go_roundw
        case rel => exact ⟨i + 1, _, X', by go_num, by omega, HN3.out⟩
        case measure => simp [intOf]; omega
      · gi_wp2_with fail
        go_wp2
        (try simp only [Exit.inBlock, Exit.then])
        refine bodyPost_ret (results_none rfl _ _ _) rfl ?_
        exact ⟨⟨_, rfl⟩, .inr ⟨_, _, by rw [List.map_append]; exact Hsp.out, hJ3⟩⟩
    · obtain rfl : i = 1000 := by omega
      obtain ⟨r, hr⟩ : ∃ r, colTo m 1152921504606846976 m.length = r := ⟨_, rfl⟩
      have hall : allNum m = scN m 1000 ++ dgN m (tryR r) := by unfold allNum tryC; rw [hr]
      have Hr := hid hr
      obtain ⟨hpre, hjw, hXlt, hX0X, hK⟩ := hN
      obtain ⟨c1, c2, c3, c4⟩ := HC.out wr hK
      have Hco := hid (Colorings_ok v m r wr c1 hv Hr)
      have HN := hid (show NumAt J n₀ X0 W0 (scN m 1000) pre X wr from ⟨hpre, hjw, hXlt, hX0X, hK⟩)
      have hvs : ∃ A k c, v = .slice A k c := by obtain ⟨A, c, h, _⟩ := c1; exact ⟨A, _, c, h⟩
      obtain ⟨vA, vk, vc, rfl⟩ := hvs
      clear hpre hjw hr c1 c2
      have hend : ∀ W1, Below wr.heap.size wr W1 → allNum m = scN m 1000 → (∃ X xs, xs.map (·.2) = allNum m ∧ J X xs W1) := fun W1 hb he => by
        obtain ⟨a1, a2, _⟩ := HN.out
        exact ⟨X, pre, by rw [a1, he], hJ X X pre wr W1 a2 (Turn.of_below hb) (fun k hk => .inl hk)⟩
      have Hend := hid hend
      clear hend
      cases r with
      | none =>
        have Hall := hid (show allNum m = scN m 1000 by rw [hall]; exact List.append_nil _)
        clear hall
        go_wp2_with fail
        refine Hco.out.mono ?_
        rintro e W1 ⟨rfl, hb1⟩
        go_wp2_with fail
        go_wp2
        refine bodyPost_ret (results_none rfl _ _ _) rfl ?_
        exact ⟨⟨_, rfl⟩, .inl (Hend.out W1 hb1 Hall.out)⟩
      | some c =>
        by_cases hc : c ≤ 1000000
        · have Hall := hid (show allNum m = scN m 1000 ++ dgN m c by rw [hall]; simp [tryR, hc])
          clear hall
          have hcd : decide ((1000000 : Int) < (c : Int)) = false := by simp; omega
          go_wp2_with fail
          refine Hco.out.mono ?_
          rintro e W1 ⟨rfl, hb1⟩
          have hN1 : NumAt J n₀ X0 W0 (scN m 1000 ++ dgN m 0) pre X W1 := by
            obtain ⟨a1, a2, a3, a4, a5⟩ := HN.out
            exact ⟨by rw [a1]; exact (List.append_nil _).symm, hJ X X pre wr W1 a2 (Turn.of_below hb1) (fun k hk => .inl hk), fun k hk => Nat.lt_of_lt_of_le (a3 k hk) hb1.size, a4, a5.trans (Keep.of_below hb1)⟩
          have HN1 := hid hN1
          have e1 : colN (some c) = c := rfl
          have e2 : colE (some c) = 0 := rfl
          clear hN1 HN Hend
          rw [e1, e2]
          go_wp2_with fail
          go_loopw [32] (fun r wr => ∃ (i : Nat) (pre : List (Value × List (List Int))) (X : Blocks), r = .int .i64 i ∧ i ≤ c ∧ NumAt J n₀ X0 W0 (scN m 1000 ++ dgN m i) pre X wr) (fun r _ => c - (intOf r).toNat)
          case atStart => exact ⟨0, pre, X, rfl, by omega, HN1.out⟩
          case round =>
            clear HN1 Hco
            obtain ⟨i, pre, X, rfl, hi, hN⟩ := hrel
            by_cases hlt : i < c
            · have his : (i : Int) < c := by omega
              obtain ⟨hpre, hjw, hXlt, hX0X, hK⟩ := hN
              obtain ⟨c1, c2, c3, c4⟩ := HC.out wr hK
              have hB1 := bal (Below.refl _ wr) (.cells #[.int .i64 i] 3)
              have d3 := (hB1.cell (p := ⟨rb, 0, none⟩) (World.block_lt_of_cell? _ _ c3)).trans c3
              have q1 := (Boxed.new wr 3 (.int .i64 i)).cell
              have q2 := (Boxed.new wr 3 (.int .i64 i)).frozen
              have z1 : (wr.alloc (.cells #[.int .i64 i] 3)).heap.size = wr.heap.size + 1 := by simp
              have hgl := c2.lt
              have hrl : rb < wr.heap.size := World.block_lt_of_cell? _ _ c3
              have Hnum := hid (numbering2_any m (dgD m i) base g m.length rb wr.heap.size wr.heap.size (fun s W => W.cell? ⟨wr.heap.size, 0, none⟩ = some (.int .i64 (restD m i s : Nat)) ∧ W.frozen? ⟨wr.heap.size, 0, none⟩ = false) wr (wr.alloc (.cells #[.int .i64 i] 3)) hv rfl c2 hB1 (Nat.le_refl _) (by omega)
                (fun s A B hA _ hb => ⟨(hb.cell (p := ⟨wr.heap.size, 0, none⟩) (by show wr.heap.size < (wr.alloc (.cells #[.int .i64 i] 3)).heap.size; omega)).trans hA.1, (World.frozen?_of_block (hb.block _ (by show wr.heap.size < (wr.alloc (.cells #[.int .i64 i] 3)).heap.size; omega))).trans hA.2⟩)
                (fun s W' hW' hs hbx => by
                  obtain ⟨u, hu, hMu⟩ := (c2.below hW').cell hs
                  obtain ⟨Au, cu, rfl, -⟩ := (hMu hs).slice
                  obtain ⟨o1, o2⟩ := orbP_big hv hs
                  have hxl := World.block_lt_of_cell? _ _ hbx.1
                  refine (choose2_any (restD m i s) s m.length (orbP (m.getD s [])).length g m.length wr.heap.size rb Au cu W' (by have := restD_le m i s; omega) hs p2 (by omega) (by omega) (by omega) (by omega) hbx.1 hbx.2 ((hW'.cell (p := ⟨rb, 0, none⟩) hrl).trans c3) hu).mono ?_
                  rintro e W2 ⟨rfl, rfl⟩
                  refine ⟨rfl, ⟨?_, ?_⟩, ?_⟩
                  · exact World.cell?_setCell_same' _ _ _ (by rw [hbx.1]; rfl)
                  · rw [World.frozen?_setCell]; exact hbx.2
                  · exact Turn.setOne _ ⟨wr.heap.size, 0, none⟩ (by rfl) _)
                (fun s hs => Nat.mod_lt _ (orbP_big hv hs).2) ⟨q1, q2⟩)
              have Hpre := hid hpre
              have Hj := hid hjw
              have Hsp := hid (show pre.map (·.2) ++ [numM m (dgD m i)] <+: allNum m by rw [hpre, Hall.out, List.append_assoc, ← dgN_succ]; exact (List.prefix_append_right_inj _).2 (dgN_pre m (by omega)))
              clear hpre hjw c1 c2
              go_upto_region 12 with fail
              refine (wpIn_wide (n := 0)).1 ?_
              gi_wp2_with fail
              refine ⟨trivial, rfl, (callsIn_wide.2 Hnum.out).mono ?_⟩
              rintro e W1 ⟨r, rfl, hM, -, hT⟩
              have hb2 : Below wr.heap.size wr W1 := hB1.trans (hT.below (n := wr.heap.size) (fun q hq => by subst hq; exact Nat.le_refl _) hB1.size)
              obtain ⟨X', hXX, hXs, hy0⟩ := HR.out wr W1 X pre r (numM m (dgD m i)) _ hb2 hM (by omega) hK.size Hj.out hXlt Hsp.out
              obtain ⟨fn, tmps, assign, body, hy, hRd⟩ := hy0
              have Hrd := hid hRd
              have HM := hid hM
              clear hRd hM Hnum
              gi_wp2_with fail
              refine ⟨rfl, Hrd.out.mono ?_⟩
              rintro e W3 ⟨⟨rfl, hJ3⟩ | ⟨rfl, hJ3⟩, hk3⟩
              · have hN3 : NumAt J n₀ X0 W0 (scN m 1000 ++ dgN m (i + 1)) (pre ++ [(r, numM m (dgD m i))]) X' W3 := ⟨by rw [List.map_append, Hpre.out, dgN_succ, List.append_assoc]; rfl, hJ3, fun k hk => Nat.lt_of_lt_of_le (hXs k hk) hk3.size, fun k hk => hXX k (hX0X k hk), (hK.trans (Keep.of_below hb2)).trans (hk3.mono fun k hk => hXX k (hX0X k hk))⟩
                have HN3 := hid hN3
                clear hN3
                gi_wp2_with fail
                go_wp2
                go_roundw
                case rel => exact ⟨i + 1, _, X', by go_num, by omega, HN3.out⟩
                case measure => simp [intOf]; omega
              · gi_wp2_with fail
                go_wp2
                (try simp only [Exit.inBlock, Exit.then])
                refine bodyPost_ret (results_none rfl _ _ _) rfl ?_
                exact ⟨⟨_, rfl⟩, .inr ⟨_, _, by rw [List.map_append]; exact Hsp.out, hJ3⟩⟩
            · obtain rfl : i = c := by omega
              obtain ⟨a1, a2, a3, a4, a5⟩ := hN
              have hss : ¬ ((i : Nat) : Int) < i := by omega
              have HF := hid (show pre.map (·.2) = allNum m by rw [a1, Hall.out])
              have Hj := hid a2
              clear a1 a2
              go_wp2
              refine bodyPost_end (results_none rfl _ _ _) rfl ?_
              exact ⟨⟨_, rfl⟩, .inl ⟨X, pre, HF.out, Hj.out⟩⟩
        · have Hall := hid (show allNum m = scN m 1000 by rw [hall]; simp [tryR, hc]; rfl)
          have hcd : decide ((1000000 : Int) < (c : Int)) = true := by simp; omega
          have e1 : colN (some c) = c := rfl
          have e2 : colE (some c) = 0 := rfl
          clear hall
          go_wp2_with fail
          refine Hco.out.mono ?_
          rintro e W1 ⟨rfl, hb1⟩
          rw [e1, e2]
          go_wp2_with fail
          go_wp2
          refine bodyPost_ret (results_none rfl _ _ _) rfl ?_
          exact ⟨⟨_, rfl⟩, .inl (Hend.out W1 hb1 Hall.out)⟩
end Go.Proofs.YtlpfglkopnmlnaaDoor
namespace Go.Proofs.YtlpfglkopnmlnaaDoor
open Go.RowKit Go.Shelf
/-- The two states in their order. -/
def canon (p q : Nat) : Nat × Nat := (min p q, max p q)
theorem canon_cases (p q : Nat) : (p ≤ q ∧ canon p q = (p, q)) ∨ (q ≤ p ∧ canon p q = (q, p)) := by
  unfold canon
  rcases Nat.le_total p q with h | h
  · exact .inl ⟨h, by rw [Nat.min_eq_left h, Nat.max_eq_right h]⟩
  · exact .inr ⟨h, by rw [Nat.min_eq_right h, Nat.max_eq_left h]⟩
theorem canon_mdist {m : List (List Int)} {p q k : Nat} : mdist m (canon p q).1 (canon p q).2 k ↔ mdist m p q k := by
  rcases canon_cases p q with ⟨_, e⟩ | ⟨_, e⟩ <;> rw [e]
  exact ⟨mdist_symm, mdist_symm⟩
theorem canon_le (p q : Nat) : (canon p q).1 ≤ (canon p q).2 := by unfold canon; exact Nat.le_trans (Nat.min_le_left _ _) (Nat.le_max_left _ _)
theorem canon_lt {n p q : Nat} (hp : p < n) (hq : q < n) : (canon p q).2 < n := by
  rcases canon_cases p q with ⟨_, e⟩ | ⟨_, e⟩ <;> rw [e] <;> assumption
/-- Where the search stands at entry i: what it has found, with lengths. -/
structure MB (m : List (List Int)) (F : List (Nat × Nat × Nat)) (i : Nat) : Prop where
  ok : ∀ e ∈ F, e.1 ≤ e.2.1 ∧ e.2.1 < m.length ∧ mdist m e.1 e.2.1 e.2.2
  uniq : (F.map fun e => (e.1, e.2.1)).Nodup
  sorted : F.Pairwise fun a b => a.2.2 ≤ b.2.2
  near : ∀ e, F[i]? = some e → ∀ f ∈ F, f.2.2 ≤ e.2.2 + 1
  diag : ∀ s, s < m.length → (s, s, 0) ∈ F
  closed : ∀ j, j < i → ∀ e, F[j]? = some e → ∀ p q x, p < q → q < m.length → x < letters m → canon (nx m p (x : Int)) (nx m q (x : Int)) = (e.1, e.2.1) → ∃ l, (p, q, l) ∈ F
theorem MB.full {m : List (List Int)} {F : List (Nat × Nat × Nat)} {i : Nat} (hv : validM m = true) (h : MB m F i) : ∀ l p q, p ≤ q → q < m.length → mdist m p q l → (∀ e, F[i]? = some e → l ≤ e.2.2) → (i < F.length ∨ i = F.length) → (p, q, l) ∈ F ∨ (∃ e, F[i]? = some e ∧ l = e.2.2 + 1)
  | 0, p, q, hpq, hq, hd, _, _ => by
    obtain rfl := mdist_zero.1 hd
    exact .inl (h.diag p hq)
  | l + 1, p, q, hpq, hq, hd, hi, hil => by
    have hne : p ≠ q := fun e => by
      have := mdist_unique hd (mdist_zero.2 e)
      omega
    obtain ⟨x, hx, h2⟩ := mdist_step hd
    have n1 := ldM_ok hv p x (by omega) hx
    have n2 := ldM_ok hv q x hq hx
    rcases MB.full hv h l _ _ (canon_le _ _) (canon_lt n1 n2) (canon_mdist.2 h2) (fun e he => by have := hi e he; omega) hil with h3 | ⟨e, he, hl⟩
    · obtain ⟨j, hj, hje⟩ := List.mem_iff_getElem.1 h3
      have hji : j < i := by
        apply Classical.byContradiction
        intro hji
        rcases hil with hlt | heq
        · have he : F[i]? = some F[i] := List.getElem?_eq_getElem hlt
          have hle := hi _ he
          by_cases e : j = i
          · subst e
            rw [hje] at hle
            simp at hle
            omega
          · have := List.pairwise_iff_getElem.1 h.sorted i j hlt hj (by omega)
            rw [hje] at this
            simp at this
            omega
        · omega
      obtain ⟨l', hl'⟩ := h.closed j hji _ (by rw [List.getElem?_eq_getElem hj, hje]) p q x (by omega) hq hx rfl
      have := mdist_unique (h.ok _ hl').2.2 hd
      simp only at this
      subst this
      exact .inl hl'
    · have := hi e he
      omega
theorem MB.all {m : List (List Int)} {F : List (Nat × Nat × Nat)} (hv : validM m = true) (h : MB m F F.length) {l p q : Nat} (hpq : p ≤ q) (hq : q < m.length) (hd : mdist m p q l) : (p, q, l) ∈ F := by
  rcases h.full hv l p q hpq hq hd (fun e he => by simp at he) (.inr rfl) with h1 | ⟨e, he, _⟩
  · exact h1
  · simp at he
theorem MB.add {m : List (List Int)} {F : List (Nat × Nat × Nat)} {i : Nat} (hv : validM m = true) (h : MB m F i) {e : Nat × Nat × Nat} (he : F[i]? = some e) {p q x : Nat} (hpq : p < q) (hq : q < m.length) (hx : x < letters m)
    (hc : canon (nx m p (x : Int)) (nx m q (x : Int)) = (e.1, e.2.1)) (hno : ∀ l, (p, q, l) ∉ F) : MB m (F ++ [(p, q, e.2.2 + 1)]) i := by
  have hil : i < F.length := (List.getElem?_eq_some_iff.1 he).1
  have hee := List.mem_of_getElem? he
  have hme := (h.ok e hee).2.2
  have hm1 : mdist m (nx m p (x : Int)) (nx m q (x : Int)) e.2.2 := canon_mdist.1 (by rw [hc]; exact hme)
  have hd : mdist m p q (e.2.2 + 1) := by
    refine mdist_up hx hm1 fun j hj hp => ?_
    obtain ⟨j', hj', hd'⟩ := mdist_some hp
    rcases h.full hv j' p q (by omega) hq hd' (fun e' he' => by rw [he] at he'; cases he'; omega) (.inl hil) with h1 | ⟨e', he', hl⟩
    · exact hno _ h1
    · rw [he] at he'; cases he'; omega
  refine ⟨?_, ?_, ?_, ?_, fun s hs => List.mem_append_left _ (h.diag s hs), ?_⟩
  · intro f hf
    rcases List.mem_append.1 hf with h1 | h1
    · exact h.ok f h1
    · obtain rfl := List.mem_singleton.1 h1
      exact ⟨by simp; omega, hq, hd⟩
  · rw [List.map_append, List.nodup_append]
    refine ⟨h.uniq, by simp, ?_⟩
    rintro a ha b hb rfl
    obtain ⟨f, hf, rfl⟩ := List.mem_map.1 ha
    simp at hb
    exact hno f.2.2 (by rw [← hb.1, ← hb.2]; exact hf)
  · rw [List.pairwise_append]
    refine ⟨h.sorted, by simp, fun a ha b hb => ?_⟩
    obtain rfl := List.mem_singleton.1 hb
    exact h.near e he a ha
  · intro e' he' f hf
    rw [List.getElem?_append_left hil, he] at he'
    cases he'
    rcases List.mem_append.1 hf with h1 | h1
    · exact h.near e he f h1
    · obtain rfl := List.mem_singleton.1 h1
      exact Nat.le_refl _
  · intro j hj e' he' p' q' x' a1 a2 a3 a4
    rw [List.getElem?_append_left (by omega)] at he'
    obtain ⟨l, hl⟩ := h.closed j hj e' he' p' q' x' a1 a2 a3 a4
    exact ⟨l, List.mem_append_left _ hl⟩
theorem MB.next {m : List (List Int)} {F : List (Nat × Nat × Nat)} {i : Nat} (h : MB m F i) {e : Nat × Nat × Nat} (he : F[i]? = some e)
    (hall : ∀ p q x, p < q → q < m.length → x < letters m → canon (nx m p (x : Int)) (nx m q (x : Int)) = (e.1, e.2.1) → ∃ l, (p, q, l) ∈ F) : MB m F (i + 1) := by
  refine ⟨h.ok, h.uniq, h.sorted, ?_, h.diag, ?_⟩
  · intro e' he' f hf
    obtain ⟨b1, b2⟩ := List.getElem?_eq_some_iff.1 he
    obtain ⟨c1, c2⟩ := List.getElem?_eq_some_iff.1 he'
    have := List.pairwise_iff_getElem.1 h.sorted i (i + 1) b1 c1 (by omega)
    rw [b2, c2] at this
    have := h.near e he f hf
    omega
  · intro j hj e' he' p q x a1 a2 a3 a4
    by_cases hji : j = i
    · subst hji
      rw [he] at he'; cases he'
      exact hall p q x a1 a2 a3 a4
    · exact h.closed j (by omega) e' he' p q x a1 a2 a3 a4
/-- The merged pairs. -/
def diag0 (n : Nat) : List (Nat × Nat × Nat) := (List.range n).map fun s => (s, s, 0)
theorem MB.start (m : List (List Int)) : MB m (diag0 m.length) 0 := by
  refine ⟨?_, ?_, ?_, ?_, ?_, fun j hj => by omega⟩
  · intro e he
    obtain ⟨s, hs, rfl⟩ := List.mem_map.1 he
    exact ⟨Nat.le_refl _, List.mem_range.1 hs, mdist_zero.2 rfl⟩
  · unfold diag0 List.Nodup
    rw [List.map_map, List.pairwise_map]
    refine List.Pairwise.imp (fun {a b} hlt e => ?_) List.pairwise_lt_range
    simp at e
    omega
  · unfold diag0
    rw [List.pairwise_map]
    exact List.Pairwise.imp (fun _ => Nat.le_refl _) List.pairwise_lt_range
  · intro e he f hf
    obtain ⟨s, hs, rfl⟩ := List.mem_map.1 hf
    exact Nat.zero_le _
  · exact fun s hs => List.mem_map.2 ⟨s, List.mem_range.2 hs, rfl⟩
/-- No more than n^2 are found. -/
theorem MB.len {m : List (List Int)} {F : List (Nat × Nat × Nat)} {i : Nat} (h : MB m F i) : F.length ≤ m.length * m.length := by
  have hnd : (F.map fun e => ((e.1 * m.length + e.2.1 : Nat) : Int)).Nodup := by
    have hu := h.uniq
    unfold List.Nodup at hu ⊢
    rw [List.pairwise_map] at hu ⊢
    refine List.Pairwise.imp_of_mem (fun {a b} ha hb hne e => hne ?_) hu
    have e' : a.1 * m.length + a.2.1 = b.1 * m.length + b.2.1 := by omega
    have l1 := (h.ok a ha).2.1
    have l2 := (h.ok b hb).2.1
    have e1 : a.1 = b.1 := by
      have := congrArg (· / m.length) e'
      simp only [Nat.add_comm (_ * _), Nat.add_mul_div_right _ _ (show 0 < m.length by omega), Nat.div_eq_of_lt l1, Nat.div_eq_of_lt l2] at this
      omega
    rw [e1] at e'
    rw [e1, show a.2.1 = b.2.1 by omega]
  have := nodup_len (m.length * m.length) _ hnd (fun x hx => by
    obtain ⟨e, he, rfl⟩ := List.mem_map.1 hx
    have l1 := h.ok e he
    have := Nat.mul_le_mul_right m.length (show e.1 + 1 ≤ m.length by omega)
    rw [Nat.succ_mul] at this
    omega)
  simpa using this
end Go.Proofs.YtlpfglkopnmlnaaDoor
namespace Go.Proofs.YtlpfglkopnmlnaaDoor
open Go.RowKit Go.Shelf
theorem canon_ints (p q : Nat) : (((canon p q).1 : Nat) : Int) = min (p : Int) (q : Int) ∧ (((canon p q).2 : Nat) : Int) = max (p : Int) (q : Int) := by
  unfold canon
  constructor <;> simp only <;> omega
set_option maxHeartbeats 1000000 in
theorem pairOf_any (p q : Nat) (w : World) (hp : p < 1000000) (hq : q < 1000000) :
    Calls Tryd.prog 109 #[.int .i64 p, .int .i64 q] w fun e w' => e = .returned (.agg #[.int .i64 ((canon p q).1 : Nat), .int .i64 ((canon p q).2 : Nat)]) ∧ Below w.heap.size w w' := by
  obtain ⟨e1, e2⟩ := canon_ints p q
  rw [e1, e2]
  go_enter Tryd.func109, Tryd.ntmps109
  go_wp2
  all_goals
    go_returns
    refine ⟨?_, bal (Below.refl _ _) _⟩
    simp only [Ending.returned.injEq, Value.agg.injEq, Array.mk.injEq, List.cons.injEq, Value.int.injEq, and_true, true_and]
    try omega
end Go.Proofs.YtlpfglkopnmlnaaDoor
namespace Go.Proofs.YtlpfglkopnmlnaaDoor
open Go.RowKit Go.Shelf
theorem new_cell (w : World) (cs : Array Value) (t : TypeId) (i : Nat) (v : Value) (h : cs[i]? = some v) : (w.alloc (.cells cs t)).cell? ⟨w.heap.size, i, none⟩ = some v := by
  unfold World.cell?
  simp only [World.alloc_heap_new]
  simpa using h
theorem new_cell' (w : World) (cs : Array Value) (t : TypeId) (i : Nat) (v : Value) {k : Nat} (hk : w.heap.size = k) (h : cs[i]? = some v) : (w.alloc (.cells cs t)).cell? ⟨k, i, none⟩ = some v := by subst hk; exact new_cell w cs t i v h
theorem pair_block {w : World} {R : Nat} {t : TypeId} {u v : Value} (h : w.heap[R]? = some (.cells #[u, v] t (0, 0))) : w.cell? ⟨R, 0, none⟩ = some u ∧ w.cell? ⟨R, 1, none⟩ = some v ∧ w.frozen? ⟨R, 0, none⟩ = false ∧ w.frozen? ⟨R, 1, none⟩ = false := by
  refine ⟨?_, ?_, ?_, ?_⟩ <;> simp [World.cell?, World.frozen?, h]
theorem pair_stored {w : World} {R : Nat} {t : TypeId} {u v : Value} (h : w.heap[R]? = some (.cells #[u, v] t (0, 0))) (a b : Value) : ((w.setCell ⟨R, 0, none⟩ a).setCell ⟨R, 1, none⟩ b).heap[R]? = some (.cells #[a, b] t (0, 0)) := by
  have h1 : (w.setCell ⟨R, 0, none⟩ a).heap[R]? = some (.cells #[a, v] t (0, 0)) := by
    simp [World.setCell, Array.getElem?_modify, h]
  unfold World.setCell at h1 ⊢
  simp only [Array.getElem?_modify, if_true] at h1 ⊢
  rw [h] at h1 ⊢
  simp
/-- What the region's loads read. -/
def LeadS (w : World) (R : Nat) (a1 a2 a3 a4 a5 a6 a7 : Addr) (u1 u2 u3 u4 u5 u6 u7 : Value) (w' : World) : Prop :=
  Below w.heap.size w w' ∧ w'.cell? a1 = some u1 ∧ w'.cell? a2 = some u2 ∧ w'.cell? a3 = some u3 ∧ w'.cell? a4 = some u4 ∧ w'.cell? a5 = some u5 ∧ w'.cell? a6 = some u6 ∧ w'.cell? a7 = some u7
theorem held_lead {w X : World} {R : Nat} {a1 a2 a3 a4 a5 a6 a7 : Addr} {u1 u2 u3 u4 u5 u6 u7 : Value} (h : LeadS w R a1 a2 a3 a4 a5 a6 a7 u1 u2 u3 u4 u5 u6 u7 X) {w' : World} (hb : Below X.heap.size X w') : LeadS w R a1 a2 a3 a4 a5 a6 a7 u1 u2 u3 u4 u5 u6 u7 w' := by
  obtain ⟨h0, c1, c2, c3, c4, c5, c6, c7⟩ := h
  have k := fun (a : Addr) (u : Value) (c : X.cell? a = some u) => (hb.cell (p := a) (World.block_lt_of_cell? _ _ c)).trans c
  exact ⟨btr h0 hb, k _ _ c1, k _ _ c2, k _ _ c3, k _ _ c4, k _ _ c5, k _ _ c6, k _ _ c7⟩
theorem held_lead_set {w X : World} {R i : Nat} {u : Value} {a1 a2 a3 a4 a5 a6 a7 : Addr} {u1 u2 u3 u4 u5 u6 u7 : Value} (N : w.heap.size ≤ R ∧ a1.block ≠ R ∧ a2.block ≠ R ∧ a3.block ≠ R ∧ a4.block ≠ R ∧ a5.block ≠ R ∧ a6.block ≠ R ∧ a7.block ≠ R) (h : LeadS w R a1 a2 a3 a4 a5 a6 a7 u1 u2 u3 u4 u5 u6 u7 X) : LeadS w R a1 a2 a3 a4 a5 a6 a7 u1 u2 u3 u4 u5 u6 u7 (X.setCell ⟨R, i, none⟩ u) := by
  obtain ⟨h0, c1, c2, c3, c4, c5, c6, c7⟩ := h
  obtain ⟨hR, n1, n2, n3, n4, n5, n6, n7⟩ := N
  have k := fun (a : Addr) (v : Value) (hn : a.block ≠ R) (c : X.cell? a = some v) => show (X.setCell ⟨R, i, none⟩ u).cell? a = some v from (World.cell?_of_block (Below.heap_setCell _ _ _ _ hn)).trans c
  exact ⟨h0.setCell (p := ⟨R, i, none⟩) hR u, k _ _ n1 c1, k _ _ n2 c2, k _ _ n3 c3, k _ _ n4 c4, k _ _ n5 c5, k _ _ n6 c6, k _ _ n7 c7⟩
set_option maxRecDepth 100000 in
set_option maxHeartbeats 2000000 in
theorem lead_pair (v : Value) (m : List (List Int)) (p q x : Nat) (w : World) (h : Rows w v m) (hv : validM m = true) (hp : p < m.length) (hq : q < m.length) (hx : x < letters m) :
    Calls Tryd.prog 96 #[.agg #[v], .agg #[.int .i64 p, .int .i64 q], .int .i64 x] w fun e w' => e = .returned (.agg #[.int .i64 ((canon (nx m p (x : Int)) (nx m q (x : Int))).1 : Nat), .int .i64 ((canon (nx m p (x : Int)) (nx m q (x : Int))).2 : Nat)]) ∧ Below w.heap.size w w' := by
  obtain ⟨p1, p2, p3, p4, p5⟩ := valid_parts hv
  obtain ⟨A, cap, rfl, hml, hcm⟩ := id h
  obtain ⟨b, off, r, hA, hcell, hrow⟩ := hcm p hp
  subst hA
  have hrl := (p5 p hp).1
  obtain ⟨Ar, capr, rfl, -, hcr⟩ := id hrow
  rw [hrl] at hcell
  obtain ⟨br, offr, hAr, hct⟩ := hcr x (by omega)
  subst hAr
  obtain ⟨hn1, hn⟩ := nx_ok hv (s := p) hp (x := (x : Int)) (by omega) (by omega)
  rw [Int.toNat_natCast] at hn
  rw [hn] at hct
  obtain ⟨b2, o2, r2, hA2, hcellq, hrowq⟩ := hcm q hq
  cases hA2
  have hrlq := (p5 q hq).1
  obtain ⟨Aq, capq, rfl, -, hcq⟩ := id hrowq
  rw [hrlq] at hcellq
  obtain ⟨bq, offq, hAq, hctq⟩ := hcq x (by omega)
  subst hAq
  obtain ⟨hq1, hqn⟩ := nx_ok hv (s := q) hq (x := (x : Int)) (by omega) (by omega)
  rw [Int.toNat_natCast] at hqn
  rw [hqn] at hctq
  clear hcr hrow hn hrl hcq hrowq hqn hrlq hcm p5
  generalize nx m p (x : Int) = d at *
  generalize nx m q (x : Int) = d' at *
  have hps : (p : Int) < m.length := by omega
  have hqs : (q : Int) < m.length := by omega
  have hxs : (x : Int) < letters m := by omega
  go_enter Tryd.func96, Tryd.ntmps96
  go_wp2_with fail
  have hX := bal (bal (bal (Below.refl _ w) (.cells #[.slice (some ⟨b, off, none⟩) m.length cap] 24)) (.cells #[.int .i64 p, .int .i64 q] 88)) (.cells #[.int .i64 0, .int .i64 0] 88)
  have c0 := (bal (bal (Below.refl _ _) (.cells #[.int .i64 p, .int .i64 q] 88)) (.cells #[.int .i64 0, .int .i64 0] 88)).cell (p := ⟨w.heap.size, 0, none⟩) (by simp) |>.trans (new_cell w #[.slice (some ⟨b, off, none⟩) m.length cap] 24 0 _ rfl)
  have c1 := (bal (Below.refl _ ((w.alloc (.cells #[.slice (some ⟨b, off, none⟩) m.length cap] 24)).alloc (.cells #[.int .i64 p, .int .i64 q] 88))) (.cells #[.int .i64 0, .int .i64 0] 88)).cell (p := ⟨w.heap.size + 1, 0, none⟩) (by simp) |>.trans (new_cell' (w.alloc (.cells #[.slice (some ⟨b, off, none⟩) m.length cap] 24)) #[.int .i64 p, .int .i64 q] 88 0 _ (by simp) rfl)
  have c2 := (bal (Below.refl _ ((w.alloc (.cells #[.slice (some ⟨b, off, none⟩) m.length cap] 24)).alloc (.cells #[.int .i64 p, .int .i64 q] 88))) (.cells #[.int .i64 0, .int .i64 0] 88)).cell (p := ⟨w.heap.size + 1, 1, none⟩) (by simp) |>.trans (new_cell' (w.alloc (.cells #[.slice (some ⟨b, off, none⟩) m.length cap] 24)) #[.int .i64 p, .int .i64 q] 88 1 _ (by simp) rfl)
  have c3 : (((w.alloc (.cells #[.slice (some ⟨b, off, none⟩) m.length cap] 24)).alloc (.cells #[.int .i64 p, .int .i64 q] 88)).alloc (.cells #[.int .i64 0, .int .i64 0] 88)).heap[w.heap.size + 1 + 1]? = some (.cells #[.int .i64 0, .int .i64 0] 88 (0, 0)) := by
    have := World.alloc_heap_new ((w.alloc (.cells #[.slice (some ⟨b, off, none⟩) m.length cap] 24)).alloc (.cells #[.int .i64 p, .int .i64 q] 88)) (.cells #[.int .i64 0, .int .i64 0] 88)
    rwa [World.size_alloc, World.size_alloc] at this
  generalize hWX : ((w.alloc (.cells #[.slice (some ⟨b, off, none⟩) m.length cap] 24)).alloc (.cells #[.int .i64 p, .int .i64 q] 88)).alloc (.cells #[.int .i64 0, .int .i64 0] 88) = X at *
  clear hWX
  have k1 := (hX.cell (p := ⟨b, off + p, none⟩) (World.block_lt_of_cell? _ _ hcell)).trans hcell
  have k2 := (hX.cell (p := ⟨b, off + q, none⟩) (World.block_lt_of_cell? _ _ hcellq)).trans hcellq
  have k3 := (hX.cell (p := ⟨br, offr + x, none⟩) (World.block_lt_of_cell? _ _ hct)).trans hct
  have k4 := (hX.cell (p := ⟨bq, offq + x, none⟩) (World.block_lt_of_cell? _ _ hctq)).trans hctq
  have HX := hid hX
  have l1 := World.block_lt_of_cell? _ _ hcell
  have l2 := World.block_lt_of_cell? _ _ hct
  have l3 := World.block_lt_of_cell? _ _ hctq
  simp only at l1 l2 l3
  have S0 : LeadS w (w.heap.size + 1 + 1) ⟨w.heap.size, 0, none⟩ ⟨w.heap.size + 1, 0, none⟩ ⟨w.heap.size + 1, 1, none⟩ ⟨b, off + p, none⟩ ⟨b, off + q, none⟩ ⟨br, offr + x, none⟩ ⟨bq, offq + x, none⟩ _ _ _ _ _ _ _ X := ⟨hX, c0, c1, c2, k1, k2, k3, k4⟩
  have keep := hid (fun (w' : World) (hb : Below X.heap.size X w') => held_lead S0 hb)
  have N := hid (show w.heap.size ≤ w.heap.size + 1 + 1 ∧ w.heap.size ≠ w.heap.size + 1 + 1 ∧ w.heap.size + 1 ≠ w.heap.size + 1 + 1 ∧ w.heap.size + 1 ≠ w.heap.size + 1 + 1 ∧ b ≠ w.heap.size + 1 + 1 ∧ b ≠ w.heap.size + 1 + 1 ∧ br ≠ w.heap.size + 1 + 1 ∧ bq ≠ w.heap.size + 1 + 1 by omega)
  have Hc3 := hid c3
  clear hcell hcellq hct hctq h hml hX S0 k1 k2 k3 k4 l1 l2 l3 c0 c1 c2 c3
  go_region_held3 (fun w' => Below w.heap.size w w' ∧ w'.cell? ⟨w.heap.size, 0, none⟩ = some (.slice (some ⟨b, off, none⟩) m.length cap) ∧ w'.cell? ⟨w.heap.size + 1, 0, none⟩ = some (.int .i64 p) ∧ w'.cell? ⟨w.heap.size + 1, 1, none⟩ = some (.int .i64 q) ∧ w'.cell? ⟨b, off + p, none⟩ = some (.slice (some ⟨br, offr, none⟩) (letters m) capr) ∧ w'.cell? ⟨b, off + q, none⟩ = some (.slice (some ⟨bq, offq, none⟩) (letters m) capq) ∧ w'.cell? ⟨br, offr + x, none⟩ = some (.int .i64 d) ∧ w'.cell? ⟨bq, offq + x, none⟩ = some (.int .i64 d')) (first | exact keep.out _ (below_dr X 1) | exact keep.out _ (by assumption) | exact held_lead_set (a1 := ⟨w.heap.size, 0, none⟩) (a2 := ⟨w.heap.size + 1, 0, none⟩) (a3 := ⟨w.heap.size + 1, 1, none⟩) (a4 := ⟨b, off + p, none⟩) (a5 := ⟨b, off + q, none⟩) (a6 := ⟨br, offr + x, none⟩) (a7 := ⟨bq, offq + x, none⟩) N.out (held_lead_set (a1 := ⟨w.heap.size, 0, none⟩) (a2 := ⟨w.heap.size + 1, 0, none⟩) (a3 := ⟨w.heap.size + 1, 1, none⟩) (a4 := ⟨b, off + p, none⟩) (a5 := ⟨b, off + q, none⟩) (a6 := ⟨br, offr + x, none⟩) (a7 := ⟨bq, offq + x, none⟩) N.out (by assumption)))
    (first | (go_at_call 109; go_must (refine (pairOf_any d d' _ (by omega) (by omega)).mono ?_; rintro e y1 ⟨rfl, hy1⟩; have g1 : Below X.heap.size X y1 := btr (by first | exact below_dr X 1 | exact Below.refl _ _ | assumption) hy1; obtain ⟨r1, r2, r3, r4⟩ := pair_block ((g1.block _ (Array.getElem?_eq_some_iff.1 Hc3.out).1).trans Hc3.out))))
  have e1 := pair_stored ((g1.block _ (Array.getElem?_eq_some_iff.1 Hc3.out).1).trans Hc3.out) (.int .i64 ((canon d d').1 : Nat)) (.int .i64 ((canon d d').2 : Nat))
  obtain ⟨r5, r6, -, -⟩ := pair_block e1
  clear e1
  have HB := hid (show Below w.heap.size w _ from (btr HX.out g1).setCell (p := ⟨w.heap.size + 1 + 1, 0, none⟩) (by show w.heap.size ≤ w.heap.size + 1 + 1; omega) (.int .i64 ((canon d d').1 : Nat)) |>.setCell (p := ⟨w.heap.size + 1 + 1, 1, none⟩) (by show w.heap.size ≤ w.heap.size + 1 + 1; omega) (.int .i64 ((canon d d').2 : Nat)))
  generalize (y1.setCell ⟨w.heap.size + 1 + 1, 0, none⟩ (.int .i64 ((canon d d').1 : Nat))).setCell ⟨w.heap.size + 1 + 1, 1, none⟩ (.int .i64 ((canon d d').2 : Nat)) = Y at *
  rename_i hh
  clear hh
  clear r1 r2 r3 r4 Hc3 keep N hy1 g1 HX
  go_wp2
  exact bodyPost_ret (v := .agg #[.int .i64 ((canon d d').1 : Nat), .int .i64 ((canon d d').2 : Nat)]) (by simp [results, Tryd.results96, go_sem, r5, r6]) rfl ⟨rfl, HB.out⟩
end Go.Proofs.YtlpfglkopnmlnaaDoor
namespace Go.Proofs.YtlpfglkopnmlnaaDoor
open Go.RowKit Go.Maps Go.WideAt
def heldR (v : Value) : Option (DataW Value × List MemPlace) := some (.held v, [])
/-- Block b is a map of at most n entries, c of them; the key l holds S l (z where there is none), and is there if T l. -/
def ValMap (w : World) (P : Program) (k : TypeId) (b n : Nat) (z : Value) (S : Lit → Value) (T : Lit → Bool) (c : Nat) : Prop :=
  ∃ D : DataW Value, w.ownsMap P k heldR b n D ∧ IsMap D ∧ Maps.size D = c ∧ ∀ l, D.atKey l (.held z) = .held (S l) ∧ Maps.has D l = T l
section
variable {w : World} {P : Program} {k : TypeId} {b n c : Nat} {z : Value} {S : Lit → Value} {T : Lit → Bool}
theorem ValMap.made (w : World) (P : Program) (k : TypeId) (z : Value) : ValMap (w.alloc (.map #[] 0)) P k w.heap.size 0 z (fun _ => z) (fun _ => false) 0 :=
  ⟨.map [], World.ownsMap_made w _ _ _, ⟨[], rfl⟩, rfl, fun l => ⟨rfl, rfl⟩⟩
theorem ValMap.look {t e : TypeId} (h : ValMap w P k b n z S T c) (K : Keyed P k) (ht : P.underlying t = some (.map k e)) (hz : (zeroValue e).run P w = .ok z w) {key : Value} {kl : Lit} (hkey : keyOf P k key = some kl) :
    (Instr.lookup t (.map (some b)) key false).run P w = .ok (S kl) w := by
  obtain ⟨D, hD, _, _, hS⟩ := h
  obtain ⟨v, ps, hrun, hv⟩ := hD.lookup K ht hz (rfl : heldR z = some (.held z, [])) hkey
  rw [(hS kl).1] at hv
  simp only [heldR, Option.some.injEq, Prod.mk.injEq, DataW.held.injEq] at hv
  rw [hrun, hv.1]
theorem ValMap.look_ok {t e : TypeId} (h : ValMap w P k b n z S T c) (K : Keyed P k) (ht : P.underlying t = some (.map k e)) (hz : (zeroValue e).run P w = .ok z w) {key : Value} {kl : Lit} (hkey : keyOf P k key = some kl) :
    (Instr.lookup t (.map (some b)) key true).run P w = .ok (.tuple #[S kl, .bool (T kl)]) w := by
  obtain ⟨D, hD, _, _, hS⟩ := h
  obtain ⟨v, ps, hrun, hv⟩ := hD.look_ok K ht hz (rfl : heldR z = some (.held z, [])) hkey
  rw [(hS kl).1] at hv
  simp only [heldR, Option.some.injEq, Prod.mk.injEq, DataW.held.injEq] at hv
  rw [hrun, hv.1, (hS kl).2]
open Classical in
theorem ValMap.put {t e : TypeId} (h : ValMap w P k b n z S T c) (K : Keyed P k) (ht : P.underlying t = some (.map k e)) (hn : n < maxLen) {key : Value} {kl : Lit} (hkey : keyOf P k key = some kl) (v : Value) :
    ∃ w', (Instr.mapUpdate t (.map (some b)) key v).run P w = .ok () w' ∧ ValMap w' P k b (n + 1) z (fun l => if l = kl then v else S l) (fun l => if l = kl then true else T l) (if T kl = true then c else c + 1) ∧ w.grownBy w' (some b) := by
  obtain ⟨D, hD, hM, hc, hS⟩ := h
  obtain ⟨w', hrun, h1, h2⟩ := hD.update K ht hn hkey (rfl : heldR v = some (.held v, []))
  refine ⟨w', hrun, ⟨_, h1, ?_, ?_, fun l => ?_⟩, h2⟩
  · obtain ⟨es, rfl⟩ := hM; exact ⟨_, rfl⟩
  · rw [size_put (hD.tidy K), hc, (hS kl).2]
  · by_cases e : l = kl
    · subst e
      rw [atKey_put_same hM (K.key hkey), has_put_same hM (K.key hkey)]
      simp
    · rw [atKey_put_other e, has_put_other e]
      simp only [if_neg e]
      exact hS l
theorem ValMap.kept {w' : World} (h : ValMap w P k b n z S T c) (hk : w'.heap[b]? = w.heap[b]?) : ValMap w' P k b n z S T c := by
  obtain ⟨D, ⟨es, clock, hb, F, hs, hD⟩, hM, hS⟩ := h
  exact ⟨D, ⟨es, clock, hk.trans hb, F, hs, hD⟩, hM, hS⟩
theorem ValMap.lt (h : ValMap w P k b n z S T c) : b < w.heap.size := by
  obtain ⟨D, hD, _⟩ := h; exact hD.lt
theorem ValMap.len {t e : TypeId} (h : ValMap w P k b n z S T c) (ht : P.underlying t = some (.map k e)) (ty : TypeId) : (Builtin.len_ #[t] ty #[.map (some b)]).run P w = .ok (.int .i64 c) w := by
  obtain ⟨D, hD, _, rfl, _⟩ := h
  exact hD.len ht ty
end
end Go.Proofs.YtlpfglkopnmlnaaDoor
namespace Go.Proofs.YtlpfglkopnmlnaaDoor
open Go.RowKit Go.Shelf Go.Maps Go.WideAt Go.WideMaps Go.WideElems
theorem arrPair : ArrKey Tryd.prog 88 3 2 := ⟨Tryd.underlying88, by kernel_rfl, by kernel_rfl, by kernel_rfl⟩
theorem lawPair : KeyLaw Tryd.prog 88 := arrPair.law
theorem keyPair : Keyed Tryd.prog 88 := Keyed.of_law lawPair
/-- A pair as a key. -/
def keyL (p q : Nat) : Lit := .string (keyBytes [.int .i64 p, .int .i64 q])
theorem keyOf_PV (p q : Nat) (hp : p < 1000000) (hq : q < 1000000) : keyOf Tryd.prog 88 (.agg #[.int .i64 p, .int .i64 q]) = some (keyL p q) :=
  keyOf_pair arrPair Tryd.underlying3 ⟨Tryd.prog.types.size - 1, by kernel_rfl⟩ (WalkArith.wf_i64 (by omega)) (WalkArith.wf_i64 (by omega))
theorem keyL_inj {p q p' q' : Nat} (hp : p < 1000000) (hq : q < 1000000) (hp' : p' < 1000000) (hq' : q' < 1000000) (h : keyL p q = keyL p' q') : p = p' ∧ q = q' := by
  have h1 := keyOf_PV p q hp hq
  rw [h] at h1
  have := keyPair.inj h1 (keyOf_PV p' q' hp' hq')
  simp only [Value.agg.injEq, Array.mk.injEq, List.cons.injEq, Value.int.injEq, and_true, true_and] at this
  omega
theorem zeroPairs (w : World) : (zeroValue 108).run Tryd.prog w = .ok (.slice none 0 0) w := by kernel_rfl
theorem zeroInt (w : World) : (zeroValue 3).run Tryd.prog w = .ok (.int .i64 0) w := by kernel_rfl
open Classical in
/-- The entry at a key, and the store that belongs to it. -/
theorem ValMap.entry {w : World} {P : Program} {k t e : TypeId} {b n c : Nat} {z : Value} {S : Lit → Value} {T : Lit → Bool} (h : ValMap w P k b n z S T c) (K : KeyLaw P k) (ht : P.underlying t = some (.map k e)) (hz : ∀ u : World, (zeroValue e).run P u = .ok z u) (hn : n < maxLen) {key : Value} {kl : Lit} (hkey : keyOf P k key = some kl) :
    ∃ st w1, (Instr.mapEntry t (.map (some b)) key).run P w = .ok (.tuple #[S kl, goInt st]) w1 ∧ w.grownBy w1 (some b) ∧ w1.heap.size = w.heap.size ∧
      ∀ (w2 : World) (v : Value), w2.heap[b]? = w1.heap[b]? → ∃ w3 c', (Instr.entryStore t (.map (some b)) (goInt st) v).run P w2 = .ok () w3 ∧ ValMap w3 P k b (n + 1) z (fun l => if l = kl then v else S l) (fun l => if l = kl then true else T l) c' ∧ w2.grownBy w3 (some b) := by
  have h0 := h
  obtain ⟨D, ⟨es, clock, hb, F, hs, rfl⟩, hM, hc, hS⟩ := h
  obtain ⟨v0, st, es1, clock1, hrun, hv0, hback⟩ := entry_then_store K ht hz hb F hkey
  have hv : v0 = S kl := by
    have hs1 := (hS kl).1
    rcases hv0 with ⟨e0, hm0, h3, rfl⟩ | ⟨hno, rfl⟩
    · have := atKey_some K F hkey hm0 h3 (rfl : heldR e0.val = some (.held e0.val, [])) (.held z)
      rw [this] at hs1
      simpa using hs1
    · have := atKey_none K F hkey hno (.held v0)
      rw [this] at hs1
      simpa using hs1
  subst hv
  refine ⟨st, _, hrun, ⟨rfl, rfl, rfl, by simp [Go.ChangeMaps.setBlock], fun i _ hi => Go.ChangeMaps.heap_setBlock_other hb _ (fun e => hi (by rw [e]))⟩, by simp [Go.ChangeMaps.setBlock], fun w2 v hw2 => ?_⟩
  have hb1 : (Go.ChangeMaps.setBlock w b (.map es1 clock1)).heap[b]? = some (.map es1 clock1) := Go.ChangeMaps.heap_setBlock_same hb _
  obtain ⟨es', clock', hr2, hr3⟩ := hback w2 v (hw2.trans hb1)
  obtain ⟨w', hp1, hp2, hp3⟩ := h0.put (Keyed.of_law K) ht hn hkey v
  rw [hr3] at hp1
  simp only [Result.ok.injEq, true_and] at hp1
  subst hp1
  have hb2 := hw2.trans hb1
  refine ⟨_, _, hr2, hp2.kept ?_, ⟨rfl, rfl, rfl, by simp [Go.ChangeMaps.setBlock], fun i _ hi => Go.ChangeMaps.heap_setBlock_other hb2 _ (fun e => hi (by rw [e]))⟩⟩
  rw [Go.ChangeMaps.heap_setBlock_same hb2, Go.ChangeMaps.heap_setBlock_same hb]
/-- A map of the call's own whose keys are pairs: V: what they hold (z where there is nothing), T: which are there, c: how many. -/
def PMap (w : World) (b n : Nat) (z : Value) (V : Nat → Nat → Value) (T : Nat → Nat → Bool) (c : Nat) : Prop :=
  ∃ S T', ValMap w Tryd.prog 88 b n z S T' c ∧ ∀ p q, p < 1000000 → q < 1000000 → S (keyL p q) = V p q ∧ T' (keyL p q) = T p q
section
variable {w : World} {b n c : Nat} {z : Value} {V : Nat → Nat → Value} {T : Nat → Nat → Bool}
theorem PMap.made (w : World) (z : Value) : PMap (w.alloc (.map #[] 0)) w.heap.size 0 z (fun _ _ => z) (fun _ _ => false) 0 :=
  ⟨_, _, ValMap.made w _ _ z, fun _ _ _ _ => ⟨rfl, rfl⟩⟩
theorem PMap.kept {w' : World} (h : PMap w b n z V T c) (hk : w'.heap[b]? = w.heap[b]?) : PMap w' b n z V T c := by
  obtain ⟨S, T', h1, h2⟩ := h
  exact ⟨S, T', h1.kept hk, h2⟩
theorem PMap.lt (h : PMap w b n z V T c) : b < w.heap.size := by
  obtain ⟨S, T', h1, h2⟩ := h; exact h1.lt
theorem PMap.below {w' : World} (h : PMap w b n z V T c) (hb : Below w.heap.size w w') : PMap w' b n z V T c := h.kept (hb.block b h.lt)
theorem PMap.congr {V' : Nat → Nat → Value} {T' : Nat → Nat → Bool} (h : PMap w b n z V T c) (h2 : ∀ p q, p < 1000000 → q < 1000000 → V p q = V' p q ∧ T p q = T' p q) : PMap w b n z V' T' c := by
  obtain ⟨S, T0, h1, h3⟩ := h
  exact ⟨S, T0, h1, fun p q hp hq => ⟨(h3 p q hp hq).1.trans (h2 p q hp hq).1, (h3 p q hp hq).2.trans (h2 p q hp hq).2⟩⟩
theorem PMap.look {t e : TypeId} (h : PMap w b n z V T c) (ht : Tryd.prog.underlying t = some (.map 88 e)) (hz : (zeroValue e).run Tryd.prog w = .ok z w) {p q : Nat} (hp : p < 1000000) (hq : q < 1000000) :
    (Instr.lookup t (.map (some b)) (.agg #[.int .i64 p, .int .i64 q]) false).run Tryd.prog w = .ok (V p q) w := by
  obtain ⟨S, T', h1, h2⟩ := h
  rw [h1.look keyPair ht hz (keyOf_PV p q hp hq), (h2 p q hp hq).1]
theorem PMap.look_ok {t e : TypeId} (h : PMap w b n z V T c) (ht : Tryd.prog.underlying t = some (.map 88 e)) (hz : (zeroValue e).run Tryd.prog w = .ok z w) {p q : Nat} (hp : p < 1000000) (hq : q < 1000000) :
    (Instr.lookup t (.map (some b)) (.agg #[.int .i64 p, .int .i64 q]) true).run Tryd.prog w = .ok (.tuple #[V p q, .bool (T p q)]) w := by
  obtain ⟨S, T', h1, h2⟩ := h
  rw [h1.look_ok keyPair ht hz (keyOf_PV p q hp hq), (h2 p q hp hq).1, (h2 p q hp hq).2]
theorem PMap.len {t e : TypeId} (h : PMap w b n z V T c) (ht : Tryd.prog.underlying t = some (.map 88 e)) (ty : TypeId) : (Builtin.len_ #[t] ty #[.map (some b)]).run Tryd.prog w = .ok (.int .i64 c) w := by
  obtain ⟨S, T', h1, h2⟩ := h
  exact h1.len ht ty
open Classical in
theorem keyL_upd {α : Type} {S : Lit → α} {V : Nat → Nat → α} {p q : Nat} (hp : p < 1000000) (hq : q < 1000000) (v : α) (h : ∀ a b, a < 1000000 → b < 1000000 → S (keyL a b) = V a b) {a b : Nat} (ha : a < 1000000) (hb : b < 1000000) :
    (if keyL a b = keyL p q then v else S (keyL a b)) = if a = p ∧ b = q then v else V a b := by
  by_cases e : a = p ∧ b = q
  · rw [if_pos e, if_pos (by rw [e.1, e.2])]
  · rw [if_neg e, if_neg (fun h => e (keyL_inj ha hb hp hq h))]
    exact h a b ha hb
theorem PMap.put {t e : TypeId} (h : PMap w b n z V T c) (ht : Tryd.prog.underlying t = some (.map 88 e)) (hn : n < maxLen) {p q : Nat} (hp : p < 1000000) (hq : q < 1000000) (v : Value) :
    ∃ w', (Instr.mapUpdate t (.map (some b)) (.agg #[.int .i64 p, .int .i64 q]) v).run Tryd.prog w = .ok () w' ∧ PMap w' b (n + 1) z (fun a d => if a = p ∧ d = q then v else V a d) (fun a d => if a = p ∧ d = q then true else T a d) (if T p q = true then c else c + 1) ∧ w.grownBy w' (some b) := by
  obtain ⟨S, T', h1, h2⟩ := h
  obtain ⟨w', g1, g2, g3⟩ := h1.put keyPair ht hn (keyOf_PV p q hp hq) v
  rw [(h2 p q hp hq).2] at g2
  exact ⟨w', g1, ⟨_, _, g2, fun a d ha hd => ⟨keyL_upd hp hq v (fun a b ha hb => (h2 a b ha hb).1) ha hd, keyL_upd hp hq true (fun a b ha hb => (h2 a b ha hb).2) ha hd⟩⟩, g3⟩
theorem PMap.entry {t e : TypeId} (h : PMap w b n z V T c) (ht : Tryd.prog.underlying t = some (.map 88 e)) (hz : ∀ u : World, (zeroValue e).run Tryd.prog u = .ok z u) (hn : n < maxLen) {p q : Nat} (hp : p < 1000000) (hq : q < 1000000) :
    ∃ st w1, (Instr.mapEntry t (.map (some b)) (.agg #[.int .i64 p, .int .i64 q])).run Tryd.prog w = .ok (.tuple #[V p q, goInt st]) w1 ∧ w.grownBy w1 (some b) ∧ w1.heap.size = w.heap.size ∧
      ∀ (w2 : World) (v : Value), w2.heap[b]? = w1.heap[b]? → ∃ w3 c', (Instr.entryStore t (.map (some b)) (goInt st) v).run Tryd.prog w2 = .ok () w3 ∧
        PMap w3 b (n + 1) z (fun a d => if a = p ∧ d = q then v else V a d) (fun a d => if a = p ∧ d = q then true else T a d) c' ∧ w2.grownBy w3 (some b) := by
  obtain ⟨S, T', h1, h2⟩ := h
  obtain ⟨st, w1, g1, g2, g3, g4⟩ := h1.entry lawPair ht hz hn (keyOf_PV p q hp hq)
  rw [(h2 p q hp hq).1] at g1
  refine ⟨st, w1, g1, g2, g3, fun w2 v hw2 => ?_⟩
  obtain ⟨w3, c', k1, k2, k3⟩ := g4 w2 v hw2
  exact ⟨w3, c', k1, ⟨_, _, k2, fun a d ha hd => ⟨keyL_upd hp hq v (fun a b ha hb => (h2 a b ha hb).1) ha hd, keyL_upd hp hq true (fun a b ha hb => (h2 a b ha hb).2) ha hd⟩⟩, k3⟩
end
/-- The cells of a list of pairs. -/
def pairCells (L : List (Nat × Nat)) : List Value := L.flatMap fun e => [.int .i64 (e.1 : Nat), .int .i64 (e.2 : Nat)]
theorem pairCells_snoc (L : List (Nat × Nat)) (p q : Nat) : pairCells (L ++ [(p, q)]) = pairCells L ++ [.int .i64 p, .int .i64 q] := by
  unfold pairCells
  rw [List.flatMap_append]
  simp
theorem pairCells_get : ∀ (L : List (Nat × Nat)) (i : Nat) (e : Nat × Nat), L[i]? = some e → (pairCells L)[i * 2]? = some (.int .i64 (e.1 : Nat)) ∧ (pairCells L)[i * 2 + 1]? = some (.int .i64 (e.2 : Nat))
  | [], i, e, h => by simp at h
  | f :: L, 0, e, h => by
    simp at h
    subst h
    exact ⟨rfl, rfl⟩
  | f :: L, i + 1, e, h => by
    have := pairCells_get L i e (by simpa using h)
    unfold pairCells at this ⊢
    rw [List.flatMap_cons, show (i + 1) * 2 = i * 2 + 1 + 1 by omega]
    exact this
/-- A slice of pairs of the call's own. -/
def PRow (w : World) (n₀ : Nat) (v : Value) (L : List (Nat × Nat)) : Prop := w.ownsRow n₀ 88 2 v L.length (pairCells L)
theorem PRow.cell {w : World} {n₀ g cap l : Nat} {L : List (Nat × Nat)} (h : PRow w n₀ (.slice (some ⟨g, 0, none⟩) l cap) L) {i : Nat} {e : Nat × Nat} (he : L[i]? = some e) :
    w.cell? ⟨g, i * 2, none⟩ = some (.int .i64 (e.1 : Nat)) ∧ w.cell? ⟨g, i * 2 + 1, none⟩ = some (.int .i64 (e.2 : Nat)) := by
  obtain ⟨h1, h2⟩ := pairCells_get L i e he
  have k := World.ownsRow.cells h (g := g) rfl
  have a1 := k _ _ h1
  have a2 := k _ _ h2
  simp only [Addr.add] at a1 a2
  refine ⟨?_, ?_⟩
  · by_cases e : i * 2 = 0
    · rw [e] at a1 ⊢; simpa using a1
    · simpa [e] using a1
  · simpa using a2
/-- The slices of pairs, one for each key, each in a block of its own. -/
structure Grp (w : World) (n₀ b N : Nat) (V : Nat → Nat → Value) (L : Nat → Nat → List (Nat × Nat)) : Prop where
  map : ∃ T c, PMap w b N (.slice none 0 0) V T c
  rows : ∀ i j, PRow w n₀ (V i j) (L i j)
  apart : ∀ i j i' j' k, (V i j).ownBlock = some k → (V i' j').ownBlock = some k → i = i' ∧ j = j'
  off : ∀ i j, (V i j).ownBlock ≠ some b
theorem Grp.made (w : World) (n₀ : Nat) : Grp (w.alloc (.map #[] 0)) n₀ w.heap.size 0 (fun _ _ => .slice none 0 0) (fun _ _ => []) :=
  ⟨⟨_, _, PMap.made w _⟩, fun _ _ => World.ownsRow_nil _ _ _ _, fun _ _ _ _ _ h => by simp [Value.ownBlock] at h, fun _ _ h => by simp [Value.ownBlock] at h⟩
theorem Grp.below {w w' : World} {n₀ b N : Nat} {V : Nat → Nat → Value} {L : Nat → Nat → List (Nat × Nat)} (h : Grp w n₀ b N V L) (hb : Below w.heap.size w w') : Grp w' n₀ b N V L := by
  obtain ⟨T, c, hm⟩ := h.map
  exact ⟨⟨T, c, hm.below hb⟩, fun i j => ownsRow_same (h.rows i j) fun g hg => hb.block g ((h.rows i j).lt g hg).2, h.apart, h.off⟩
end Go.Proofs.YtlpfglkopnmlnaaDoor
namespace Go.Proofs.YtlpfglkopnmlnaaDoor
open Go.RowKit Go.Shelf
theorem mlen_canon {m : List (List Int)} (hv : validM m = true) {p q : Nat} (hp : p < m.length) (hq : q < m.length) : mlen m (canon p q).1 (canon p q).2 = mlen m p q := by
  rcases canon_cases p q with ⟨_, e⟩ | ⟨_, e⟩ <;> rw [e]
  exact mlen_symm hv hq hp
theorem mW_canon {m : List (List Int)} (hv : validM m = true) {p q j : Nat} (hp : p < m.length) (hq : q < m.length) (h : mdist m p q j) : mW m j (canon p q).1 (canon p q).2 = mW m j p q := by
  rcases canon_cases p q with ⟨_, e⟩ | ⟨_, e⟩ <;> rw [e]
  exact (mW_symm hv j p q hp hq h).symm
/-- All pairs of states, the first not greater. -/
def allPairs (n : Nat) : List (Nat × Nat) := (List.range n).flatMap fun q => (List.range (q + 1)).map fun p => (p, q)
theorem allPairs_mem {n : Nat} {k : Nat × Nat} : k ∈ allPairs n ↔ k.1 ≤ k.2 ∧ k.2 < n := by
  unfold allPairs
  simp only [List.mem_flatMap, List.mem_map, List.mem_range]
  constructor
  · rintro ⟨q, hq, p, hp, rfl⟩; exact ⟨by simp only; omega, hq⟩
  · rintro ⟨h1, h2⟩; exact ⟨k.2, h2, k.1, by omega, rfl⟩
theorem allPairs_succ (n : Nat) : allPairs (n + 1) = allPairs n ++ (List.range (n + 1)).map fun p => (p, n) := by
  unfold allPairs
  rw [List.range_succ, List.flatMap_append]
  simp [List.range_succ]
theorem allPairs_len : ∀ n, 2 * (allPairs n).length = n * (n + 1)
  | 0 => rfl
  | n + 1 => by
    rw [allPairs_succ, List.length_append, List.length_map, List.length_range, Nat.mul_add, allPairs_len n]
    grind
theorem allPairs_nodup : ∀ n, (allPairs n).Nodup
  | 0 => by simp [allPairs]
  | n + 1 => by
    rw [allPairs_succ, List.nodup_append]
    refine ⟨allPairs_nodup n, ?_, ?_⟩
    · unfold List.Nodup
      rw [List.pairwise_map]
      refine List.Pairwise.imp (fun {a b} hlt e => ?_) List.pairwise_lt_range
      have := congrArg Prod.fst e
      simp only at this
      omega
    · rintro a ha b hb rfl
      have h1 := allPairs_mem.1 ha
      obtain ⟨p, _, rfl⟩ := List.mem_map.1 hb
      exact absurd h1.2 (Nat.lt_irrefl _)
theorem nodup_sub {K : Type} [DecidableEq K] : ∀ {A B : List K}, A.Nodup → (∀ x ∈ A, x ∈ B) → A.length ≤ B.length
  | [], _, _, _ => Nat.zero_le _
  | x :: A, B, hA, h => by
    have hx := h x (by simp)
    have h1 := List.nodup_cons.1 hA
    have := nodup_sub (B := B.erase x) h1.2 fun y hy => (List.mem_erase_of_ne fun e => by subst e; exact h1.1 hy).2 (h y (by simp [hy]))
    rw [List.length_erase_of_mem hx] at this
    have := List.length_pos_of_mem hx
    simp only [List.length_cons]
    omega
/-- The search has found n(n + 1)/2 pairs if and only if each pair is merged. -/
theorem MB.count {m : List (List Int)} {F : List (Nat × Nat × Nat)} (hv : validM m = true) (h : MB m F F.length) : m.length * (m.length + 1) ≤ 2 * F.length ↔ ∀ p q, p < q → q < m.length → ∃ k, mergeP m p q k := by
  have hF : F.length = (F.map fun e => (e.1, e.2.1)).length := by simp
  have hsub : ∀ x ∈ (F.map fun e => (e.1, e.2.1)), x ∈ allPairs m.length := fun x hx => by
    obtain ⟨e, he, rfl⟩ := List.mem_map.1 hx
    exact allPairs_mem.2 ⟨(h.ok e he).1, (h.ok e he).2.1⟩
  have hl := allPairs_len m.length
  constructor
  · intro hc p q hpq hq
    apply Classical.byContradiction
    intro hno
    have hni : (p, q) ∉ (F.map fun e => (e.1, e.2.1)) := fun hm => by
      obtain ⟨e, he, hee⟩ := List.mem_map.1 hm
      simp only [Prod.mk.injEq] at hee
      have := (h.ok e he).2.2.1
      rw [hee.1, hee.2] at this
      exact hno ⟨_, this⟩
    have hle := nodup_sub (A := (p, q) :: (F.map fun e => (e.1, e.2.1))) (B := allPairs m.length) (List.nodup_cons.2 ⟨hni, h.uniq⟩) (fun x hx => by
      rcases List.mem_cons.1 hx with rfl | hx
      · exact allPairs_mem.2 ⟨by simp only; omega, hq⟩
      · exact hsub x hx)
    rw [List.length_cons, ← hF] at hle
    omega
  · intro hall
    have hle := nodup_sub (A := allPairs m.length) (B := (F.map fun e => (e.1, e.2.1))) (allPairs_nodup _) (fun x hx => by
      have hx' := allPairs_mem.1 hx
      rcases Nat.lt_or_ge x.1 x.2 with hlt | hge
      · obtain ⟨k, hk⟩ := hall x.1 x.2 hlt hx'.2
        obtain ⟨j, _, hd⟩ := mdist_some hk
        exact List.mem_map.2 ⟨_, h.all hv hx'.1 hx'.2 hd, rfl⟩
      · exact List.mem_map.2 ⟨_, h.diag x.1 (by omega), by simp only; exact Prod.ext rfl (by simp only; omega)⟩)
    rw [← hF] at hle
    omega
end Go.Proofs.YtlpfglkopnmlnaaDoor
namespace Go.Proofs.YtlpfglkopnmlnaaDoor
open Go.RowKit Go.Shelf
/-- Behind an entry, an append to its slice and the store of what came. -/
theorem Grp.step {W W1 w' w3 : World} {n₀ b N i j p q c' : Nat} {V : Nat → Nat → Value} {L : Nat → Nat → List (Nat × Nat)} {T : Nat → Nat → Bool} {v' : Value} (h : Grp W n₀ b N V L) (h1 : W.grownBy W1 (some b)) (hs1 : W1.heap.size = W.heap.size)
    (ho : w'.ownsRow n₀ 88 2 v' ((L i j).length + 1) (pairCells (L i j) ++ [.int .i64 p, .int .i64 q])) (h2 : W1.grownBy w' (V i j).ownBlock) (hat : v'.ownBlock = (V i j).ownBlock ∨ v'.ownBlock = some W1.heap.size)
    (hm : PMap w3 b (N + 1) (.slice none 0 0) (fun a d => if a = i ∧ d = j then v' else V a d) T c') (h3 : w'.grownBy w3 (some b)) :
    Grp w3 n₀ b (N + 1) (fun a d => if a = i ∧ d = j then v' else V a d) (fun a d => if a = i ∧ d = j then L i j ++ [(p, q)] else L a d) := by
  obtain ⟨T0, c0, hm0⟩ := h.map
  have hbl := hm0.lt
  have hvb : v'.ownBlock ≠ some b := by
    rcases hat with e | e
    · rw [e]; exact h.off i j
    · rw [e]; intro e2; simp at e2; omega
  have hold : ∀ a d k, (V a d).ownBlock = some k → k < W.heap.size := fun a d k hk => ((h.rows a d).lt k hk).2
  refine ⟨⟨_, _, hm⟩, fun a d => ?_, fun a d a' d' k e1 e2 => ?_, fun a d => ?_⟩
  · by_cases e : a = i ∧ d = j
    · simp only [if_pos e]
      unfold PRow
      rw [List.length_append, pairCells_snoc]
      exact ho.kept h3 (.inr hvb)
    · simp only [if_neg e]
      refine ownsRow_same (h.rows a d) fun g hg => ?_
      have hgl := hold a d g hg
      have hgb : g ≠ b := fun e2 => h.off a d (e2 ▸ hg)
      have hgv : some g ≠ (V i j).ownBlock := fun e2 => e (h.apart a d i j g hg e2.symm)
      have z1 := h1.block g hgl (by simpa using hgb)
      have z2 := h2.block g (by omega) hgv
      have z3 := h3.block g (Nat.lt_of_lt_of_le (by omega) h2.size) (by simpa using hgb)
      exact z3.trans (z2.trans z1)
  · by_cases x1 : a = i ∧ d = j <;> by_cases x2 : a' = i ∧ d' = j
    · exact ⟨x1.1.trans x2.1.symm, x1.2.trans x2.2.symm⟩
    · simp only [if_pos x1, if_neg x2] at e1 e2
      rcases hat with e | e
      · rw [e] at e1
        obtain ⟨y1, y2⟩ := h.apart _ _ _ _ _ e1 e2
        exact absurd ⟨y1.symm, y2.symm⟩ x2
      · rw [e] at e1
        have := hold _ _ _ e2
        simp at e1
        omega
    · simp only [if_neg x1, if_pos x2] at e1 e2
      rcases hat with e | e
      · rw [e] at e2
        obtain ⟨y1, y2⟩ := h.apart _ _ _ _ _ e1 e2
        exact absurd ⟨y1, y2⟩ x1
      · rw [e] at e2
        have := hold _ _ _ e1
        simp at e2
        omega
    · simp only [if_neg x1, if_neg x2] at e1 e2
      exact h.apart _ _ _ _ _ e1 e2
  · by_cases e : a = i ∧ d = j
    · simp only [if_pos e]; exact hvb
    · simp only [if_neg e]; exact h.off a d
/-- .. and the rest lies as it lay. -/
theorem Grp.turned {w W W1 w' w3 : World} {n₀ b N i j : Nat} {V : Nat → Nat → Value} {L : Nat → Nat → List (Nat × Nat)} (h : Grp W n₀ b N V L) (hn : n₀ = w.heap.size + 1) (hb : w.heap.size < b) (hB : Below w.heap.size w W) (h1 : W.grownBy W1 (some b)) (h2 : W1.grownBy w' (V i j).ownBlock) (h3 : w'.grownBy w3 (some b)) :
    Below w.heap.size w w3 ∧ w3.heap.size ≥ W.heap.size ∧ ∀ u, W.cell? ⟨w.heap.size, 0, none⟩ = some u → w3.cell? ⟨w.heap.size, 0, none⟩ = some u := by
  have hlt := fun k hk => ((h.rows i j).lt k hk).1
  have s1 := h1.size
  have s2 := h2.size
  have s3 := h3.size
  have s0 := hB.size
  refine ⟨((hB.grown h1 (by omega) (fun q hq => by cases hq; omega)).grown h2 (by omega) (fun q hq => by have := hlt q hq; omega)).grown h3 (by omega) (fun q hq => by cases hq; omega), by omega, fun u hu => ?_⟩
  refine h3.cell (h2.cell (h1.cell hu ?_) (fun e => ?_)) ?_
  · simp; omega
  · have := hlt _ e.symm; simp at this; omega
  · simp; omega
/-- The pair (p', q') with the letter x' was looked at before (p, q) with x. -/
def doneL (m : List (List Int)) (p q x p' q' x' : Nat) : Prop := p' < q' ∧ q' < m.length ∧ x' < letters m ∧ (p' < p ∨ (p' = p ∧ (q' < q ∨ (q' = q ∧ x' < x))))
def LB (m : List (List Int)) (p q x : Nat) (L : Nat → Nat → List (Nat × Nat)) : Prop :=
  ∀ i j e, e ∈ L i j ↔ ∃ x', doneL m p q x e.1 e.2 x' ∧ canon (nx m e.1 (x' : Int)) (nx m e.2 (x' : Int)) = (i, j)
theorem LB.start (m : List (List Int)) : LB m 0 1 0 (fun _ _ => []) := fun i j e => by
  simp only [List.not_mem_nil, false_iff]
  rintro ⟨x', ⟨h1, _, _, h2⟩, _⟩
  omega
theorem LB.same {m : List (List Int)} {p q x p2 q2 x2 : Nat} {L : Nat → Nat → List (Nat × Nat)} (h : LB m p q x L) (hd : ∀ p' q' x', doneL m p q x p' q' x' ↔ doneL m p2 q2 x2 p' q' x') : LB m p2 q2 x2 L := fun i j e => by
  rw [h i j e]
  exact exists_congr fun x' => and_congr_left fun _ => hd _ _ _
theorem LB.nextq {m : List (List Int)} {p q : Nat} {L : Nat → Nat → List (Nat × Nat)} (h : LB m p q (letters m) L) : LB m p (q + 1) 0 L := h.same fun p' q' x' => by unfold doneL; omega
theorem LB.nextp {m : List (List Int)} {p : Nat} {L : Nat → Nat → List (Nat × Nat)} (h : LB m p m.length 0 L) : LB m (p + 1) (p + 1 + 1) 0 L := h.same fun p' q' x' => by unfold doneL; omega
theorem LB.add {m : List (List Int)} {p q x i j : Nat} {L : Nat → Nat → List (Nat × Nat)} (h : LB m p q x L) (hpq : p < q) (hq : q < m.length) (hx : x < letters m) (hc : canon (nx m p (x : Int)) (nx m q (x : Int)) = (i, j)) :
    LB m p q (x + 1) (fun a d => if a = i ∧ d = j then L i j ++ [(p, q)] else L a d) := fun a d e => by
  have hsplit : (∃ x', doneL m p q (x + 1) e.1 e.2 x' ∧ canon (nx m e.1 (x' : Int)) (nx m e.2 (x' : Int)) = (a, d)) ↔ (e ∈ L a d ∨ (e = (p, q) ∧ (i, j) = (a, d))) := by
    rw [h a d e]
    constructor
    · rintro ⟨x', h1, h2⟩
      by_cases e1 : e.1 = p ∧ e.2 = q ∧ x' = x
      · obtain ⟨e2, e3, rfl⟩ := e1
        rw [e2, e3, hc] at h2
        exact .inr ⟨Prod.ext e2 e3, h2⟩
      · exact .inl ⟨x', by unfold doneL at h1 ⊢; omega, h2⟩
    · rintro (⟨x', h1, h2⟩ | ⟨rfl, h2⟩)
      · exact ⟨x', by unfold doneL at h1 ⊢; omega, h2⟩
      · exact ⟨x, ⟨hpq, hq, hx, .inr ⟨rfl, .inr ⟨rfl, Nat.lt_succ_self _⟩⟩⟩, by simp only; rw [hc, h2]⟩
  rw [hsplit]
  by_cases e1 : a = i ∧ d = j
  · simp only [if_pos e1]
    obtain ⟨rfl, rfl⟩ := e1
    simp
  · simp only [if_neg e1, Prod.mk.injEq]
    constructor
    · exact .inl
    · rintro (h | ⟨_, h1, h2⟩)
      · exact h
      · exact absurd ⟨h1.symm, h2.symm⟩ e1
theorem LB.done {m : List (List Int)} {q : Nat} {L : Nat → Nat → List (Nat × Nat)} (h : LB m m.length q 0 L) (i j : Nat) (e : Nat × Nat) : e ∈ L i j ↔ e.1 < e.2 ∧ e.2 < m.length ∧ ∃ x', x' < letters m ∧ canon (nx m e.1 (x' : Int)) (nx m e.2 (x' : Int)) = (i, j) := by
  rw [h i j e]
  constructor
  · rintro ⟨x', ⟨a1, a2, a3, a4⟩, h2⟩
    exact ⟨a1, a2, x', a3, h2⟩
  · rintro ⟨a1, a2, x', a3, h2⟩
    exact ⟨x', ⟨a1, a2, a3, by omega⟩, h2⟩
/-- No list is longer than the number of rounds. -/
theorem upd_len {L : Nat → Nat → List (Nat × Nat)} {N i j : Nat} {e : Nat × Nat} (h : ∀ a d, (L a d).length ≤ N) : ∀ a d, (if a = i ∧ d = j then L i j ++ [e] else L a d).length ≤ N + 1 := fun a d => by
  by_cases e1 : a = i ∧ d = j
  · rw [if_pos e1, List.length_append]; have := h i j; simp; omega
  · rw [if_neg e1]; have := h a d; omega
/-- The length that was found for a pair (0: none), and whether one was. -/
def lenIn (F : List (Nat × Nat × Nat)) (p q : Nat) : Nat := match F.find? (fun e => e.1 == p && e.2.1 == q) with
  | some e => e.2.2
  | none => 0
def inF (F : List (Nat × Nat × Nat)) (p q : Nat) : Bool := F.any fun e => e.1 == p && e.2.1 == q
theorem inF_iff {F : List (Nat × Nat × Nat)} {p q : Nat} : inF F p q = true ↔ ∃ l, (p, q, l) ∈ F := by
  unfold inF
  rw [List.any_eq_true]
  constructor
  · rintro ⟨e, he, h⟩
    simp only [Bool.and_eq_true, beq_iff_eq] at h
    exact ⟨e.2.2, by rw [← h.1, ← h.2]; exact he⟩
  · rintro ⟨l, h⟩
    exact ⟨_, h, by simp⟩
theorem inF_false {F : List (Nat × Nat × Nat)} {p q : Nat} (h : inF F p q = false) (l : Nat) : (p, q, l) ∉ F := fun hm => by
  rw [inF_iff.2 ⟨l, hm⟩] at h
  cases h
theorem lenIn_snoc {F : List (Nat × Nat × Nat)} {p q l : Nat} (h : inF F p q = false) (a d : Nat) : lenIn (F ++ [(p, q, l)]) a d = if a = p ∧ d = q then l else lenIn F a d := by
  unfold lenIn
  rw [List.find?_append]
  by_cases e : a = p ∧ d = q
  · obtain ⟨rfl, rfl⟩ := e
    have : F.find? (fun e => e.1 == a && e.2.1 == d) = none := by
      rw [List.find?_eq_none]
      intro x hx
      unfold inF at h
      simpa using List.any_eq_false.1 h x hx
    rw [this]
    simp
  · rw [if_neg e]
    cases hf : F.find? (fun e => e.1 == a && e.2.1 == d) with
    | some x => simp
    | none =>
      have : ((p == a) && (q == d)) = false := by
        rw [Bool.eq_false_iff]
        simp
        intro h1 h2
        exact e ⟨h1.symm, h2.symm⟩
      simp [this]
theorem inF_snoc (F : List (Nat × Nat × Nat)) (p q l : Nat) (a d : Nat) : inF (F ++ [(p, q, l)]) a d = if a = p ∧ d = q then true else inF F a d := by
  unfold inF
  rw [List.any_append]
  by_cases e : a = p ∧ d = q
  · obtain ⟨rfl, rfl⟩ := e
    simp
  · rw [if_neg e]
    have : ((p == a) && (q == d)) = false := by
      rw [Bool.eq_false_iff]
      simp
      intro h1 h2
      exact e ⟨h1.symm, h2.symm⟩
    simp [this]
theorem lenIn_mem {m : List (List Int)} {F : List (Nat × Nat × Nat)} {i : Nat} (h : MB m F i) {p q l : Nat} (hm : (p, q, l) ∈ F) : lenIn F p q = l := by
  unfold lenIn
  cases hf : F.find? (fun e => e.1 == p && e.2.1 == q) with
  | none =>
    have := List.find?_eq_none.1 hf _ hm
    simp at this
  | some e =>
    have h1 := List.find?_some hf
    have h2 := List.mem_of_find?_eq_some hf
    simp only [Bool.and_eq_true, beq_iff_eq] at h1
    have a1 := (h.ok _ h2).2.2
    rw [h1.1, h1.2] at a1
    exact mdist_unique a1 (h.ok _ hm).2.2
/-- The program's map of lengths. -/
def LMap (w : World) (B : Nat) (F : List (Nat × Nat × Nat)) : Prop := PMap w B F.length (.int .i64 0) (fun p q => .int .i64 (lenIn F p q : Nat)) (inF F) F.length
theorem LMap.made (w : World) : LMap (w.alloc (.map #[] 0)) w.heap.size [] := (PMap.made w (.int .i64 0)).congr fun p q _ _ => ⟨rfl, rfl⟩
theorem LMap.put {w : World} {B : Nat} {F : List (Nat × Nat × Nat)} (h : LMap w B F) (hn : F.length < 1000000) {p q : Nat} (hp : p < 1000000) (hq : q < 1000000) (l : Nat) (hno : inF F p q = false) :
    ∃ w', (Instr.mapUpdate 82 (.map (some B)) (.agg #[.int .i64 p, .int .i64 q]) (.int .i64 l)).run Tryd.prog w = .ok () w' ∧ LMap w' B (F ++ [(p, q, l)]) ∧ w.grownBy w' (some B) := by
  obtain ⟨w', h1, h2, h3⟩ := PMap.put h Tryd.underlying82 (by unfold maxLen; omega) hp hq (.int .i64 l)
  refine ⟨w', h1, ?_, h3⟩
  rw [hno] at h2
  unfold LMap
  rw [List.length_append, List.length_singleton]
  refine PMap.congr (by simpa using h2) fun a d _ _ => ⟨?_, (inF_snoc F p q l a d).symm⟩
  simp only [lenIn_snoc hno]
  split <;> rfl
theorem inF_diag (s : Nat) : inF (diag0 s) s s = false := by
  unfold inF diag0
  rw [List.any_eq_false]
  intro e he
  obtain ⟨t, ht, rfl⟩ := List.mem_map.1 he
  have := List.mem_range.1 ht
  simp
  omega
theorem diag0_succ (s : Nat) : diag0 (s + 1) = diag0 s ++ [(s, s, 0)] := by unfold diag0; rw [List.range_succ, List.map_append]; rfl
theorem diag0_len (s : Nat) : (diag0 s).length = s := by simp [diag0]
/-- The length of a shortest word that merges two states; 0: there is none. -/
def len0 (m : List (List Int)) (p q : Nat) : Int := if 0 ≤ mlen m p q then mlen m p q else 0
/-- What the search hands back. -/
def LenMap (m : List (List Int)) (w : World) (B : Nat) : Prop :=
  ∃ n V T c, PMap w B n (.int .i64 0) V T c ∧ (∀ p q, p ≤ q → q < m.length → V p q = .int .i64 (len0 m p q) ∧ T p q = decide (0 ≤ mlen m p q)) ∧
    (m.length * (m.length + 1) ≤ 2 * c ↔ ∀ p q, p < q → q < m.length → ∃ k, mergeP m p q k) ∧ c ≤ 3600
theorem LenMap.below {m : List (List Int)} {w w' : World} {B : Nat} (h : LenMap m w B) (hb : Below w.heap.size w w') : LenMap m w' B := by
  obtain ⟨n, V, T, c, h1, h2⟩ := h
  exact ⟨n, V, T, c, h1.below hb, h2⟩
theorem LMap.done {m : List (List Int)} {w : World} {B : Nat} {F : List (Nat × Nat × Nat)} (hv : validM m = true) (hm : m.length ≤ 60) (h : LMap w B F) (hM : MB m F F.length) : LenMap m w B := by
  refine ⟨_, _, _, _, h, fun p q hpq hq => ?_, hM.count hv, ?_⟩
  · rcases mlen_spec hv (p := p) (q := q) (by omega) hq with ⟨h1, h2⟩ | ⟨j, h1, h2, h3⟩
    · have hno : ∀ l, (p, q, l) ∉ F := fun l hm => h2 l (hM.ok _ hm).2.2.1
      have hf : inF F p q = false := by
        rw [Bool.eq_false_iff]
        intro e
        obtain ⟨l, hl⟩ := inF_iff.1 e
        exact hno l hl
      have hl : lenIn F p q = 0 := by
        unfold lenIn
        cases hf2 : F.find? (fun e => e.1 == p && e.2.1 == q) with
        | none => rfl
        | some e =>
          have h1 := List.find?_some hf2
          have h2 := List.mem_of_find?_eq_some hf2
          simp only [Bool.and_eq_true, beq_iff_eq] at h1
          exact absurd h2 (by rw [show e = (p, q, e.2.2) from by rw [← h1.1, ← h1.2]]; exact hno _)
      refine ⟨?_, ?_⟩
      · rw [hl, len0, if_neg (by omega)]; rfl
      · rw [hf, h1]; rfl
    · have hmem := hM.all hv hpq hq h3
      refine ⟨?_, ?_⟩
      · rw [lenIn_mem hM hmem, len0, if_pos (by omega), h2]
      · rw [inF_iff.2 ⟨j, hmem⟩, h2]
        exact (decide_eq_true (by omega)).symm
  · have := hM.len
    have h2 : m.length * m.length ≤ 60 * 60 := Nat.mul_le_mul hm hm
    omega
/-- The found pairs. -/
def keysF (F : List (Nat × Nat × Nat)) : List (Nat × Nat) := F.map fun e => (e.1, e.2.1)
theorem keysF_snoc (F : List (Nat × Nat × Nat)) (p q l : Nat) : keysF (F ++ [(p, q, l)]) = keysF F ++ [(p, q)] := by simp [keysF]
theorem keysF_len (F : List (Nat × Nat × Nat)) : (keysF F).length = F.length := by simp [keysF]
theorem keysF_get {F : List (Nat × Nat × Nat)} {i : Nat} {e : Nat × Nat × Nat} (h : F[i]? = some e) : (keysF F)[i]? = some (e.1, e.2.1) := by simp [keysF, h]
theorem LMap.kept {w w' : World} {B : Nat} {F : List (Nat × Nat × Nat)} (h : LMap w B F) (hk : w'.heap[B]? = w.heap[B]?) : LMap w' B F := PMap.kept h hk
/-- Behind the store into the map. -/
theorem found_stored {W0 wr w2 : World} {fv : Value} {K : List (Nat × Nat)} (hB : Below W0.heap.size W0 wr) (hP : PRow wr (W0.heap.size + 1) fv K) (hg : wr.grownBy w2 (some W0.heap.size)) : Below W0.heap.size W0 w2 ∧ PRow w2 (W0.heap.size + 1) fv K :=
  ⟨hB.grown hg hB.size (fun q hq => by cases hq; exact Nat.le_refl _), World.ownsRow.kept hP hg (.inr fun e => by have := (World.ownsRow.lt hP _ e).1; omega)⟩
/-- Behind the append to the list of what was found. -/
theorem found_pushed {W0 w2 w5 : World} {fv v' : Value} {K : List (Nat × Nat)} {F : List (Nat × Nat × Nat)} {p q : Nat} (o : Obj) (hB : Below W0.heap.size W0 w2) (hP : PRow w2 (W0.heap.size + 1) fv K) (hM : LMap w2 W0.heap.size F)
    (hown : w5.ownsRow (W0.heap.size + 1) 88 2 v' (K.length + 1) (pairCells K ++ [.int .i64 p, .int .i64 q])) (hgrow : (w2.alloc o).grownBy w5 fv.ownBlock) :
    Below W0.heap.size W0 w5 ∧ LMap w5 W0.heap.size F ∧ PRow w5 (W0.heap.size + 1) v' (K ++ [(p, q)]) := by
  have hlt := fun k hk => (World.ownsRow.lt hP k hk).1
  have hml := PMap.lt hM
  refine ⟨(bal hB o).grown hgrow (by have := hB.size; simp; omega) (fun k hk => by have := hlt k hk; omega), hM.kept ?_, ?_⟩
  · rw [hgrow.block _ (by simp; omega) (fun e => by have := hlt _ e.symm; omega)]
    exact Below.heap_alloc _ _ _ hml
  · unfold PRow
    rw [List.length_append, pairCells_snoc]
    exact hown
end Go.Proofs.YtlpfglkopnmlnaaDoor
