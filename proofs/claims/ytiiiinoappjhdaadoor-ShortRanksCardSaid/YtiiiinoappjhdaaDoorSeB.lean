/-
  Texts that the proof of the law stands on: D2, N25, N26, Q9, Map, E5, D3, E6, E7, E8, N4, R7, N28, L6, K1, K2, Round, F1, F2, D4, E11, D5, E12, L2, Tb, E1, E10, E14, E15, G5, H4, Y6, Y7, Y8, Y10, Y11, Y12, Y40.
-/
import Derived.Test.YtiiiinoappjhdaaDoorSeA
import Derived.Deep.RegionHeld
import Derived.BigQuiet
import Derived.Deep.QuietTactic
import Derived.Maps.Own
import Derived.Maps.OwnOps
import Derived.Maps.OwnSet
import Derived.Maps.Views
import Derived.Test.YtiiiinoappjhdaaDoorProg
import Derived.WideKeyPair
import Derived.WideKeyEntry
import Derived.WideKeyElems3
import Derived.Maps.Keyed
import Derived.Maps.AppendAt
import Derived.RegionTactic
import Derived.ChangeAlike
import Derived.Maps.OwnIn
import Derived.Deep.RegionWith
import Derived.Deep.CutRange
import Derived.OrdersIn
import Derived.Deep.Quiet
import Derived.Shelf.RegionOpen
import Derived.Laws.AppendOwnNone
import Derived.Deep.DeepMust
import Derived.Deep.RegionHeld3
import Derived.Deep.AppendLies
import Derived.Deep.RegionLaw
import Derived.Laws.EntriesVeiled
namespace Go.Proofs.YtiiiinoappjhdaaDoor
open Go.RowKit Go.Shelf
/-- The two states in their order. -/
def canon (p q : Nat) : Nat × Nat := (min p q, max p q)
theorem canon_cases (p q : Nat) : (p ≤ q ∧ canon p q = (p, q)) ∨ (q ≤ p ∧ canon p q = (q, p)) := by
  unfold canon
  rcases Nat.le_total p q with h | h
  · exact .inl ⟨h, by rw [Nat.min_eq_left h, Nat.max_eq_right h]⟩
  · exact .inr ⟨h, by rw [Nat.min_eq_right h, Nat.max_eq_left h]⟩
theorem canon_mdist {m : List (List Int)} {p q k : Nat} : mdist m (canon p q).1 (canon p q).2 k ↔ mdist m p q k := by
  rcases canon_cases p q with ⟨_, e⟩ | ⟨_, e⟩ <;> rw [e]
  exact ⟨mdist_symm, mdist_symm⟩
theorem canon_le (p q : Nat) : (canon p q).1 ≤ (canon p q).2 := by unfold canon; exact Nat.le_trans (Nat.min_le_left _ _) (Nat.le_max_left _ _)
theorem canon_lt {n p q : Nat} (hp : p < n) (hq : q < n) : (canon p q).2 < n := by
  rcases canon_cases p q with ⟨_, e⟩ | ⟨_, e⟩ <;> rw [e] <;> assumption
/-- Where the search stands at entry i: what it has found, with lengths. -/
structure MB (m : List (List Int)) (F : List (Nat × Nat × Nat)) (i : Nat) : Prop where
  ok : ∀ e ∈ F, e.1 ≤ e.2.1 ∧ e.2.1 < m.length ∧ mdist m e.1 e.2.1 e.2.2
  uniq : (F.map fun e => (e.1, e.2.1)).Nodup
  sorted : F.Pairwise fun a b => a.2.2 ≤ b.2.2
  near : ∀ e, F[i]? = some e → ∀ f ∈ F, f.2.2 ≤ e.2.2 + 1
  diag : ∀ s, s < m.length → (s, s, 0) ∈ F
  closed : ∀ j, j < i → ∀ e, F[j]? = some e → ∀ p q x, p < q → q < m.length → x < letters m → canon (nx m p (x : Int)) (nx m q (x : Int)) = (e.1, e.2.1) → ∃ l, (p, q, l) ∈ F
theorem MB.full {m : List (List Int)} {F : List (Nat × Nat × Nat)} {i : Nat} (hv : validM m = true) (h : MB m F i) : ∀ l p q, p ≤ q → q < m.length → mdist m p q l → (∀ e, F[i]? = some e → l ≤ e.2.2) → (i < F.length ∨ i = F.length) → (p, q, l) ∈ F ∨ (∃ e, F[i]? = some e ∧ l = e.2.2 + 1)
  | 0, p, q, hpq, hq, hd, _, _ => by
    obtain rfl := mdist_zero.1 hd
    exact .inl (h.diag p hq)
  | l + 1, p, q, hpq, hq, hd, hi, hil => by
    have hne : p ≠ q := fun e => by
      have := mdist_unique hd (mdist_zero.2 e)
      omega
    obtain ⟨x, hx, h2⟩ := mdist_step hd
    have n1 := ldM_ok hv p x (by omega) hx
    have n2 := ldM_ok hv q x hq hx
    rcases MB.full hv h l _ _ (canon_le _ _) (canon_lt n1 n2) (canon_mdist.2 h2) (fun e he => by have := hi e he; omega) hil with h3 | ⟨e, he, hl⟩
    · obtain ⟨j, hj, hje⟩ := List.mem_iff_getElem.1 h3
      have hji : j < i := by
        apply Classical.byContradiction
        intro hji
        rcases hil with hlt | heq
        · have he : F[i]? = some F[i] := List.getElem?_eq_getElem hlt
          have hle := hi _ he
          by_cases e : j = i
          · subst e
            rw [hje] at hle
            simp at hle
            omega
          · have := List.pairwise_iff_getElem.1 h.sorted i j hlt hj (by omega)
            rw [hje] at this
            simp at this
            omega
        · omega
      obtain ⟨l', hl'⟩ := h.closed j hji _ (by rw [List.getElem?_eq_getElem hj, hje]) p q x (by omega) hq hx rfl
      have := mdist_unique (h.ok _ hl').2.2 hd
      simp only at this
      subst this
      exact .inl hl'
    · have := hi e he
      omega
theorem MB.all {m : List (List Int)} {F : List (Nat × Nat × Nat)} (hv : validM m = true) (h : MB m F F.length) {l p q : Nat} (hpq : p ≤ q) (hq : q < m.length) (hd : mdist m p q l) : (p, q, l) ∈ F := by
  rcases h.full hv l p q hpq hq hd (fun e he => by simp at he) (.inr rfl) with h1 | ⟨e, he, _⟩
  · exact h1
  · simp at he
theorem MB.add {m : List (List Int)} {F : List (Nat × Nat × Nat)} {i : Nat} (hv : validM m = true) (h : MB m F i) {e : Nat × Nat × Nat} (he : F[i]? = some e) {p q x : Nat} (hpq : p < q) (hq : q < m.length) (hx : x < letters m)
    (hc : canon (nx m p (x : Int)) (nx m q (x : Int)) = (e.1, e.2.1)) (hno : ∀ l, (p, q, l) ∉ F) : MB m (F ++ [(p, q, e.2.2 + 1)]) i := by
  have hil : i < F.length := (List.getElem?_eq_some_iff.1 he).1
  have hee := List.mem_of_getElem? he
  have hme := (h.ok e hee).2.2
  have hm1 : mdist m (nx m p (x : Int)) (nx m q (x : Int)) e.2.2 := canon_mdist.1 (by rw [hc]; exact hme)
  have hd : mdist m p q (e.2.2 + 1) := by
    refine mdist_up hx hm1 fun j hj hp => ?_
    obtain ⟨j', hj', hd'⟩ := mdist_some hp
    rcases h.full hv j' p q (by omega) hq hd' (fun e' he' => by rw [he] at he'; cases he'; omega) (.inl hil) with h1 | ⟨e', he', hl⟩
    · exact hno _ h1
    · rw [he] at he'; cases he'; omega
  refine ⟨?_, ?_, ?_, ?_, fun s hs => List.mem_append_left _ (h.diag s hs), ?_⟩
  · intro f hf
    rcases List.mem_append.1 hf with h1 | h1
    · exact h.ok f h1
    · obtain rfl := List.mem_singleton.1 h1
      exact ⟨by simp; omega, hq, hd⟩
  · rw [List.map_append, List.nodup_append]
    refine ⟨h.uniq, by simp, ?_⟩
    rintro a ha b hb rfl
    obtain ⟨f, hf, rfl⟩ := List.mem_map.1 ha
    simp at hb
    exact hno f.2.2 (by rw [← hb.1, ← hb.2]; exact hf)
  · rw [List.pairwise_append]
    refine ⟨h.sorted, by simp, fun a ha b hb => ?_⟩
    obtain rfl := List.mem_singleton.1 hb
    exact h.near e he a ha
  · intro e' he' f hf
    rw [List.getElem?_append_left hil, he] at he'
    cases he'
    rcases List.mem_append.1 hf with h1 | h1
    · exact h.near e he f h1
    · obtain rfl := List.mem_singleton.1 h1
      exact Nat.le_refl _
  · intro j hj e' he' p' q' x' a1 a2 a3 a4
    rw [List.getElem?_append_left (by omega)] at he'
    obtain ⟨l, hl⟩ := h.closed j hj e' he' p' q' x' a1 a2 a3 a4
    exact ⟨l, List.mem_append_left _ hl⟩
theorem MB.next {m : List (List Int)} {F : List (Nat × Nat × Nat)} {i : Nat} (h : MB m F i) {e : Nat × Nat × Nat} (he : F[i]? = some e)
    (hall : ∀ p q x, p < q → q < m.length → x < letters m → canon (nx m p (x : Int)) (nx m q (x : Int)) = (e.1, e.2.1) → ∃ l, (p, q, l) ∈ F) : MB m F (i + 1) := by
  refine ⟨h.ok, h.uniq, h.sorted, ?_, h.diag, ?_⟩
  · intro e' he' f hf
    obtain ⟨b1, b2⟩ := List.getElem?_eq_some_iff.1 he
    obtain ⟨c1, c2⟩ := List.getElem?_eq_some_iff.1 he'
    have := List.pairwise_iff_getElem.1 h.sorted i (i + 1) b1 c1 (by omega)
    rw [b2, c2] at this
    have := h.near e he f hf
    omega
  · intro j hj e' he' p q x a1 a2 a3 a4
    by_cases hji : j = i
    · subst hji
      rw [he] at he'; cases he'
      exact hall p q x a1 a2 a3 a4
    · exact h.closed j (by omega) e' he' p q x a1 a2 a3 a4
/-- The merged pairs. -/
def diag0 (n : Nat) : List (Nat × Nat × Nat) := (List.range n).map fun s => (s, s, 0)
theorem MB.start (m : List (List Int)) : MB m (diag0 m.length) 0 := by
  refine ⟨?_, ?_, ?_, ?_, ?_, fun j hj => by omega⟩
  · intro e he
    obtain ⟨s, hs, rfl⟩ := List.mem_map.1 he
    exact ⟨Nat.le_refl _, List.mem_range.1 hs, mdist_zero.2 rfl⟩
  · unfold diag0 List.Nodup
    rw [List.map_map, List.pairwise_map]
    refine List.Pairwise.imp (fun {a b} hlt e => ?_) List.pairwise_lt_range
    simp at e
    omega
  · unfold diag0
    rw [List.pairwise_map]
    exact List.Pairwise.imp (fun _ => Nat.le_refl _) List.pairwise_lt_range
  · intro e he f hf
    obtain ⟨s, hs, rfl⟩ := List.mem_map.1 hf
    exact Nat.zero_le _
  · exact fun s hs => List.mem_map.2 ⟨s, List.mem_range.2 hs, rfl⟩
/-- No more than n^2 are found. -/
theorem MB.len {m : List (List Int)} {F : List (Nat × Nat × Nat)} {i : Nat} (h : MB m F i) : F.length ≤ m.length * m.length := by
  have hnd : (F.map fun e => ((e.1 * m.length + e.2.1 : Nat) : Int)).Nodup := by
    have hu := h.uniq
    unfold List.Nodup at hu ⊢
    rw [List.pairwise_map] at hu ⊢
    refine List.Pairwise.imp_of_mem (fun {a b} ha hb hne e => hne ?_) hu
    have e' : a.1 * m.length + a.2.1 = b.1 * m.length + b.2.1 := by omega
    have l1 := (h.ok a ha).2.1
    have l2 := (h.ok b hb).2.1
    have e1 : a.1 = b.1 := by
      have := congrArg (· / m.length) e'
      simp only [Nat.add_comm (_ * _), Nat.add_mul_div_right _ _ (show 0 < m.length by omega), Nat.div_eq_of_lt l1, Nat.div_eq_of_lt l2] at this
      omega
    rw [e1] at e'
    rw [e1, show a.2.1 = b.2.1 by omega]
  have := nodup_len (m.length * m.length) _ hnd (fun x hx => by
    obtain ⟨e, he, rfl⟩ := List.mem_map.1 hx
    have l1 := h.ok e he
    have := Nat.mul_le_mul_right m.length (show e.1 + 1 ≤ m.length by omega)
    rw [Nat.succ_mul] at this
    omega)
  simpa using this
end Go.Proofs.YtiiiinoappjhdaaDoor
namespace Go.Proofs.YtiiiinoappjhdaaDoor
open Go.RowKit Go.Shelf
attribute [local go_sem] Oper.semAt_some
theorem ownsRow_pos' {w : World} {base : Nat} {e : TypeId} {s : Nat} {v : Value} {n : Nat} {xs : List Value} (h : w.ownsRow base e s v n xs) (hn : 1 ≤ n) : ∃ g cap, v = .slice (some ⟨g, 0, none⟩) n cap := by
  rcases h.2 with ⟨_, h0⟩ | ⟨g, cap, cur, hv, _⟩
  · omega
  · exact ⟨g, cap, hv⟩
theorem ownsRow_slice {w : World} {base : Nat} {e : TypeId} {s : Nat} {v : Value} {n : Nat} {xs : List Value} (h : w.ownsRow base e s v n xs) : ∃ A cap, v = .slice A n cap := by
  rcases h.2 with ⟨hu, h0⟩ | ⟨g, cap, cur, hv, _⟩
  · exact ⟨none, 0, by rw [hu, h0]⟩
  · exact ⟨_, cap, hv⟩
end Go.Proofs.YtiiiinoappjhdaaDoor
namespace Go.Proofs.YtiiiinoappjhdaaDoor
open Go.RowKit Go.Shelf
theorem getI_cell {l : List Int} {i : Nat} (hi : i < l.length) : (l.map fun x => Value.int .i64 x)[i]? = some (.int .i64 (l.getD i 0)) := by
  simp [List.getElem?_map, List.getElem?_eq_getElem hi, List.getD_eq_getElem?_getD]
end Go.Proofs.YtiiiinoappjhdaaDoor
namespace Go.Proofs.YtiiiinoappjhdaaDoor
open Go.RowKit Go.Shelf
/-- A list by a function. -/
def Lf (n : Nat) (f : Nat → Int) : List Int := (List.range n).map f
theorem Lf_len (n : Nat) (f : Nat → Int) : (Lf n f).length = n := by simp [Lf]
theorem Lf_get {n : Nat} (f : Nat → Int) {i : Nat} (hi : i < n) : (Lf n f).getD i 0 = f i := by
  simp [Lf, List.getD_eq_getElem?_getD, List.getElem?_map, List.getElem?_range hi]
theorem Lf_congr {n : Nat} {f g : Nat → Int} (h : ∀ i, i < n → f i = g i) : Lf n f = Lf n g := List.map_congr_left fun i hi => h i (List.mem_range.1 hi)
theorem Lf_set {n : Nat} (f : Nat → Int) (s : Nat) (v : Int) : (Lf n f).set s v = Lf n (fun i => if i = s then v else f i) := by
  apply List.ext_getElem
  · simp [Lf]
  · intro i h1 h2
    rw [List.getElem_set]
    simp only [Lf, List.getElem_map, List.getElem_range]
    by_cases e : s = i
    · rw [if_pos e, if_pos e.symm]
    · rw [if_neg e, if_neg (fun h => e h.symm)]
theorem Lf_cell {n : Nat} (f : Nat → Int) {i : Nat} (hi : i < n) : ((Lf n f).map fun x => Value.int .i64 x)[i]? = some (.int .i64 (f i)) := by
  rw [getI_cell (by rw [Lf_len]; exact hi), Lf_get f hi]
end Go.Proofs.YtiiiinoappjhdaaDoor
namespace Go.Proofs.YtiiiinoappjhdaaDoor
open Go.RowKit Go.Maps Go.WideAt
def heldR (v : Value) : Option (DataW Value × List MemPlace) := some (.held v, [])
/-- Block b is a map of at most n entries, c of them; the key l holds S l (z where there is none), and is there if T l. -/
def ValMap (w : World) (P : Program) (k : TypeId) (b n : Nat) (z : Value) (S : Lit → Value) (T : Lit → Bool) (c : Nat) : Prop :=
  ∃ D : DataW Value, w.ownsMap P k heldR b n D ∧ IsMap D ∧ Maps.size D = c ∧ ∀ l, D.atKey l (.held z) = .held (S l) ∧ Maps.has D l = T l
section
variable {w : World} {P : Program} {k : TypeId} {b n c : Nat} {z : Value} {S : Lit → Value} {T : Lit → Bool}
theorem ValMap.made (w : World) (P : Program) (k : TypeId) (z : Value) : ValMap (w.alloc (.map #[] 0)) P k w.heap.size 0 z (fun _ => z) (fun _ => false) 0 :=
  ⟨.map [], World.ownsMap_made w _ _ _, ⟨[], rfl⟩, rfl, fun l => ⟨rfl, rfl⟩⟩
theorem ValMap.look {t e : TypeId} (h : ValMap w P k b n z S T c) (K : Keyed P k) (ht : P.underlying t = some (.map k e)) (hz : (zeroValue e).run P w = .ok z w) {key : Value} {kl : Lit} (hkey : keyOf P k key = some kl) :
    (Instr.lookup t (.map (some b)) key false).run P w = .ok (S kl) w := by
  obtain ⟨D, hD, _, _, hS⟩ := h
  obtain ⟨v, ps, hrun, hv⟩ := hD.lookup K ht hz (rfl : heldR z = some (.held z, [])) hkey
  rw [(hS kl).1] at hv
  simp only [heldR, Option.some.injEq, Prod.mk.injEq, DataW.held.injEq] at hv
  rw [hrun, hv.1]
open Classical in
theorem ValMap.put {t e : TypeId} (h : ValMap w P k b n z S T c) (K : Keyed P k) (ht : P.underlying t = some (.map k e)) (hn : n < maxLen) {key : Value} {kl : Lit} (hkey : keyOf P k key = some kl) (v : Value) :
    ∃ w', (Instr.mapUpdate t (.map (some b)) key v).run P w = .ok () w' ∧ ValMap w' P k b (n + 1) z (fun l => if l = kl then v else S l) (fun l => if l = kl then true else T l) (if T kl = true then c else c + 1) ∧ w.grownBy w' (some b) := by
  obtain ⟨D, hD, hM, hc, hS⟩ := h
  obtain ⟨w', hrun, h1, h2⟩ := hD.update K ht hn hkey (rfl : heldR v = some (.held v, []))
  refine ⟨w', hrun, ⟨_, h1, ?_, ?_, fun l => ?_⟩, h2⟩
  · obtain ⟨es, rfl⟩ := hM; exact ⟨_, rfl⟩
  · rw [size_put (hD.tidy K), hc, (hS kl).2]
  · by_cases e : l = kl
    · subst e
      rw [atKey_put_same hM (K.key hkey), has_put_same hM (K.key hkey)]
      simp
    · rw [atKey_put_other e, has_put_other e]
      simp only [if_neg e]
      exact hS l
theorem ValMap.kept {w' : World} (h : ValMap w P k b n z S T c) (hk : w'.heap[b]? = w.heap[b]?) : ValMap w' P k b n z S T c := by
  obtain ⟨D, ⟨es, clock, hb, F, hs, hD⟩, hM, hS⟩ := h
  exact ⟨D, ⟨es, clock, hk.trans hb, F, hs, hD⟩, hM, hS⟩
theorem ValMap.lt (h : ValMap w P k b n z S T c) : b < w.heap.size := by
  obtain ⟨D, hD, _⟩ := h; exact hD.lt
theorem ValMap.len {t e : TypeId} (h : ValMap w P k b n z S T c) (ht : P.underlying t = some (.map k e)) (ty : TypeId) : (Builtin.len_ #[t] ty #[.map (some b)]).run P w = .ok (.int .i64 c) w := by
  obtain ⟨D, hD, _, rfl, _⟩ := h
  exact hD.len ht ty
end
end Go.Proofs.YtiiiinoappjhdaaDoor
namespace Go.Proofs.YtiiiinoappjhdaaDoor
open Go.RowKit Go.Shelf Go.Maps Go.WideAt Go.WideMaps Go.WideElems
theorem arrPair : ArrKey Tryd.prog 80 3 2 := ⟨Tryd.underlying80, by kernel_rfl, by kernel_rfl, by kernel_rfl⟩
theorem lawPair : KeyLaw Tryd.prog 80 := arrPair.law
theorem keyPair : Keyed Tryd.prog 80 := Keyed.of_law lawPair
/-- A pair as a key. -/
def keyL (p q : Nat) : Lit := .string (keyBytes [.int .i64 p, .int .i64 q])
theorem keyOf_PV (p q : Nat) (hp : p < 1000000) (hq : q < 1000000) : keyOf Tryd.prog 80 (.agg #[.int .i64 p, .int .i64 q]) = some (keyL p q) :=
  keyOf_pair arrPair Tryd.underlying3 ⟨Tryd.prog.types.size - 1, by kernel_rfl⟩ (WalkArith.wf_i64 (by omega)) (WalkArith.wf_i64 (by omega))
theorem keyL_inj {p q p' q' : Nat} (hp : p < 1000000) (hq : q < 1000000) (hp' : p' < 1000000) (hq' : q' < 1000000) (h : keyL p q = keyL p' q') : p = p' ∧ q = q' := by
  have h1 := keyOf_PV p q hp hq
  rw [h] at h1
  have := keyPair.inj h1 (keyOf_PV p' q' hp' hq')
  simp only [Value.agg.injEq, Array.mk.injEq, List.cons.injEq, Value.int.injEq, and_true, true_and] at this
  omega
theorem zeroInt (w : World) : (zeroValue 3).run Tryd.prog w = .ok (.int .i64 0) w := by kernel_rfl
/-- A map of the call's own whose keys are pairs: V: what they hold (z where there is nothing), T: which are there, c: how many. -/
def PMap (w : World) (b n : Nat) (z : Value) (V : Nat → Nat → Value) (T : Nat → Nat → Bool) (c : Nat) : Prop :=
  ∃ S T', ValMap w Tryd.prog 80 b n z S T' c ∧ ∀ p q, p < 1000000 → q < 1000000 → S (keyL p q) = V p q ∧ T' (keyL p q) = T p q
section
variable {w : World} {b n c : Nat} {z : Value} {V : Nat → Nat → Value} {T : Nat → Nat → Bool}
theorem PMap.made (w : World) (z : Value) : PMap (w.alloc (.map #[] 0)) w.heap.size 0 z (fun _ _ => z) (fun _ _ => false) 0 :=
  ⟨_, _, ValMap.made w _ _ z, fun _ _ _ _ => ⟨rfl, rfl⟩⟩
theorem PMap.kept {w' : World} (h : PMap w b n z V T c) (hk : w'.heap[b]? = w.heap[b]?) : PMap w' b n z V T c := by
  obtain ⟨S, T', h1, h2⟩ := h
  exact ⟨S, T', h1.kept hk, h2⟩
theorem PMap.lt (h : PMap w b n z V T c) : b < w.heap.size := by
  obtain ⟨S, T', h1, h2⟩ := h; exact h1.lt
theorem PMap.below {w' : World} (h : PMap w b n z V T c) (hb : Below w.heap.size w w') : PMap w' b n z V T c := h.kept (hb.block b h.lt)
theorem PMap.congr {V' : Nat → Nat → Value} {T' : Nat → Nat → Bool} (h : PMap w b n z V T c) (h2 : ∀ p q, p < 1000000 → q < 1000000 → V p q = V' p q ∧ T p q = T' p q) : PMap w b n z V' T' c := by
  obtain ⟨S, T0, h1, h3⟩ := h
  exact ⟨S, T0, h1, fun p q hp hq => ⟨(h3 p q hp hq).1.trans (h2 p q hp hq).1, (h3 p q hp hq).2.trans (h2 p q hp hq).2⟩⟩
theorem PMap.look {t e : TypeId} (h : PMap w b n z V T c) (ht : Tryd.prog.underlying t = some (.map 80 e)) (hz : (zeroValue e).run Tryd.prog w = .ok z w) {p q : Nat} (hp : p < 1000000) (hq : q < 1000000) :
    (Instr.lookup t (.map (some b)) (.agg #[.int .i64 p, .int .i64 q]) false).run Tryd.prog w = .ok (V p q) w := by
  obtain ⟨S, T', h1, h2⟩ := h
  rw [h1.look keyPair ht hz (keyOf_PV p q hp hq), (h2 p q hp hq).1]
theorem PMap.len {t e : TypeId} (h : PMap w b n z V T c) (ht : Tryd.prog.underlying t = some (.map 80 e)) (ty : TypeId) : (Builtin.len_ #[t] ty #[.map (some b)]).run Tryd.prog w = .ok (.int .i64 c) w := by
  obtain ⟨S, T', h1, h2⟩ := h
  exact h1.len ht ty
open Classical in
theorem keyL_upd {α : Type} {S : Lit → α} {V : Nat → Nat → α} {p q : Nat} (hp : p < 1000000) (hq : q < 1000000) (v : α) (h : ∀ a b, a < 1000000 → b < 1000000 → S (keyL a b) = V a b) {a b : Nat} (ha : a < 1000000) (hb : b < 1000000) :
    (if keyL a b = keyL p q then v else S (keyL a b)) = if a = p ∧ b = q then v else V a b := by
  by_cases e : a = p ∧ b = q
  · rw [if_pos e, if_pos (by rw [e.1, e.2])]
  · rw [if_neg e, if_neg (fun h => e (keyL_inj ha hb hp hq h))]
    exact h a b ha hb
theorem PMap.put {t e : TypeId} (h : PMap w b n z V T c) (ht : Tryd.prog.underlying t = some (.map 80 e)) (hn : n < maxLen) {p q : Nat} (hp : p < 1000000) (hq : q < 1000000) (v : Value) :
    ∃ w', (Instr.mapUpdate t (.map (some b)) (.agg #[.int .i64 p, .int .i64 q]) v).run Tryd.prog w = .ok () w' ∧ PMap w' b (n + 1) z (fun a d => if a = p ∧ d = q then v else V a d) (fun a d => if a = p ∧ d = q then true else T a d) (if T p q = true then c else c + 1) ∧ w.grownBy w' (some b) := by
  obtain ⟨S, T', h1, h2⟩ := h
  obtain ⟨w', g1, g2, g3⟩ := h1.put keyPair ht hn (keyOf_PV p q hp hq) v
  rw [(h2 p q hp hq).2] at g2
  exact ⟨w', g1, ⟨_, _, g2, fun a d ha hd => ⟨keyL_upd hp hq v (fun a b ha hb => (h2 a b ha hb).1) ha hd, keyL_upd hp hq true (fun a b ha hb => (h2 a b ha hb).2) ha hd⟩⟩, g3⟩
end
/-- The cells of a list of pairs. -/
def pairCells (L : List (Nat × Nat)) : List Value := L.flatMap fun e => [.int .i64 (e.1 : Nat), .int .i64 (e.2 : Nat)]
theorem pairCells_snoc (L : List (Nat × Nat)) (p q : Nat) : pairCells (L ++ [(p, q)]) = pairCells L ++ [.int .i64 p, .int .i64 q] := by
  unfold pairCells
  rw [List.flatMap_append]
  simp
theorem pairCells_get : ∀ (L : List (Nat × Nat)) (i : Nat) (e : Nat × Nat), L[i]? = some e → (pairCells L)[i * 2]? = some (.int .i64 (e.1 : Nat)) ∧ (pairCells L)[i * 2 + 1]? = some (.int .i64 (e.2 : Nat))
  | [], i, e, h => by simp at h
  | f :: L, 0, e, h => by
    simp at h
    subst h
    exact ⟨rfl, rfl⟩
  | f :: L, i + 1, e, h => by
    have := pairCells_get L i e (by simpa using h)
    unfold pairCells at this ⊢
    rw [List.flatMap_cons, show (i + 1) * 2 = i * 2 + 1 + 1 by omega]
    exact this
/-- A slice of pairs of the call's own. -/
def PRow (w : World) (n₀ : Nat) (v : Value) (L : List (Nat × Nat)) : Prop := w.ownsRow n₀ 80 2 v L.length (pairCells L)
theorem PRow.cell {w : World} {n₀ g cap l : Nat} {L : List (Nat × Nat)} (h : PRow w n₀ (.slice (some ⟨g, 0, none⟩) l cap) L) {i : Nat} {e : Nat × Nat} (he : L[i]? = some e) :
    w.cell? ⟨g, i * 2, none⟩ = some (.int .i64 (e.1 : Nat)) ∧ w.cell? ⟨g, i * 2 + 1, none⟩ = some (.int .i64 (e.2 : Nat)) := by
  obtain ⟨h1, h2⟩ := pairCells_get L i e he
  have k := World.ownsRow.cells h (g := g) rfl
  have a1 := k _ _ h1
  have a2 := k _ _ h2
  simp only [Addr.add] at a1 a2
  refine ⟨?_, ?_⟩
  · by_cases e : i * 2 = 0
    · rw [e] at a1 ⊢; simpa using a1
    · simpa [e] using a1
  · simpa using a2
/-- The slices of pairs, one for each key, each in a block of its own. -/
structure Grp (w : World) (n₀ b N : Nat) (V : Nat → Nat → Value) (L : Nat → Nat → List (Nat × Nat)) : Prop where
  map : ∃ T c, PMap w b N (.slice none 0 0) V T c
  rows : ∀ i j, PRow w n₀ (V i j) (L i j)
  apart : ∀ i j i' j' k, (V i j).ownBlock = some k → (V i' j').ownBlock = some k → i = i' ∧ j = j'
  off : ∀ i j, (V i j).ownBlock ≠ some b
theorem Grp.made (w : World) (n₀ : Nat) : Grp (w.alloc (.map #[] 0)) n₀ w.heap.size 0 (fun _ _ => .slice none 0 0) (fun _ _ => []) :=
  ⟨⟨_, _, PMap.made w _⟩, fun _ _ => World.ownsRow_nil _ _ _ _, fun _ _ _ _ _ h => by simp [Value.ownBlock] at h, fun _ _ h => by simp [Value.ownBlock] at h⟩
theorem Grp.below {w w' : World} {n₀ b N : Nat} {V : Nat → Nat → Value} {L : Nat → Nat → List (Nat × Nat)} (h : Grp w n₀ b N V L) (hb : Below w.heap.size w w') : Grp w' n₀ b N V L := by
  obtain ⟨T, c, hm⟩ := h.map
  exact ⟨⟨T, c, hm.below hb⟩, fun i j => ownsRow_same (h.rows i j) fun g hg => hb.block g ((h.rows i j).lt g hg).2, h.apart, h.off⟩
end Go.Proofs.YtiiiinoappjhdaaDoor
namespace Go.Proofs.YtiiiinoappjhdaaDoor
open Go.RowKit Go.Shelf
/-- All pairs of states, the first not greater. -/
def allPairs (n : Nat) : List (Nat × Nat) := (List.range n).flatMap fun q => (List.range (q + 1)).map fun p => (p, q)
theorem allPairs_mem {n : Nat} {k : Nat × Nat} : k ∈ allPairs n ↔ k.1 ≤ k.2 ∧ k.2 < n := by
  unfold allPairs
  simp only [List.mem_flatMap, List.mem_map, List.mem_range]
  constructor
  · rintro ⟨q, hq, p, hp, rfl⟩; exact ⟨by simp only; omega, hq⟩
  · rintro ⟨h1, h2⟩; exact ⟨k.2, h2, k.1, by omega, rfl⟩
theorem allPairs_succ (n : Nat) : allPairs (n + 1) = allPairs n ++ (List.range (n + 1)).map fun p => (p, n) := by
  unfold allPairs
  rw [List.range_succ, List.flatMap_append]
  simp [List.range_succ]
theorem allPairs_len : ∀ n, 2 * (allPairs n).length = n * (n + 1)
  | 0 => rfl
  | n + 1 => by
    rw [allPairs_succ, List.length_append, List.length_map, List.length_range, Nat.mul_add, allPairs_len n]
    grind
theorem allPairs_nodup : ∀ n, (allPairs n).Nodup
  | 0 => by simp [allPairs]
  | n + 1 => by
    rw [allPairs_succ, List.nodup_append]
    refine ⟨allPairs_nodup n, ?_, ?_⟩
    · unfold List.Nodup
      rw [List.pairwise_map]
      refine List.Pairwise.imp (fun {a b} hlt e => ?_) List.pairwise_lt_range
      have := congrArg Prod.fst e
      simp only at this
      omega
    · rintro a ha b hb rfl
      have h1 := allPairs_mem.1 ha
      obtain ⟨p, _, rfl⟩ := List.mem_map.1 hb
      exact absurd h1.2 (Nat.lt_irrefl _)
theorem nodup_sub {K : Type} [DecidableEq K] : ∀ {A B : List K}, A.Nodup → (∀ x ∈ A, x ∈ B) → A.length ≤ B.length
  | [], _, _, _ => Nat.zero_le _
  | x :: A, B, hA, h => by
    have hx := h x (by simp)
    have h1 := List.nodup_cons.1 hA
    have := nodup_sub (B := B.erase x) h1.2 fun y hy => (List.mem_erase_of_ne fun e => by subst e; exact h1.1 hy).2 (h y (by simp [hy]))
    rw [List.length_erase_of_mem hx] at this
    have := List.length_pos_of_mem hx
    simp only [List.length_cons]
    omega
/-- The search has found n(n + 1)/2 pairs if and only if each pair is merged. -/
theorem MB.count {m : List (List Int)} {F : List (Nat × Nat × Nat)} (hv : validM m = true) (h : MB m F F.length) : m.length * (m.length + 1) ≤ 2 * F.length ↔ ∀ p q, p < q → q < m.length → ∃ k, mergeP m p q k := by
  have hF : F.length = (F.map fun e => (e.1, e.2.1)).length := by simp
  have hsub : ∀ x ∈ (F.map fun e => (e.1, e.2.1)), x ∈ allPairs m.length := fun x hx => by
    obtain ⟨e, he, rfl⟩ := List.mem_map.1 hx
    exact allPairs_mem.2 ⟨(h.ok e he).1, (h.ok e he).2.1⟩
  have hl := allPairs_len m.length
  constructor
  · intro hc p q hpq hq
    apply Classical.byContradiction
    intro hno
    have hni : (p, q) ∉ (F.map fun e => (e.1, e.2.1)) := fun hm => by
      obtain ⟨e, he, hee⟩ := List.mem_map.1 hm
      simp only [Prod.mk.injEq] at hee
      have := (h.ok e he).2.2.1
      rw [hee.1, hee.2] at this
      exact hno ⟨_, this⟩
    have hle := nodup_sub (A := (p, q) :: (F.map fun e => (e.1, e.2.1))) (B := allPairs m.length) (List.nodup_cons.2 ⟨hni, h.uniq⟩) (fun x hx => by
      rcases List.mem_cons.1 hx with rfl | hx
      · exact allPairs_mem.2 ⟨by simp only; omega, hq⟩
      · exact hsub x hx)
    rw [List.length_cons, ← hF] at hle
    omega
  · intro hall
    have hle := nodup_sub (A := allPairs m.length) (B := (F.map fun e => (e.1, e.2.1))) (allPairs_nodup _) (fun x hx => by
      have hx' := allPairs_mem.1 hx
      rcases Nat.lt_or_ge x.1 x.2 with hlt | hge
      · obtain ⟨k, hk⟩ := hall x.1 x.2 hlt hx'.2
        obtain ⟨j, _, hd⟩ := mdist_some hk
        exact List.mem_map.2 ⟨_, h.all hv hx'.1 hx'.2 hd, rfl⟩
      · exact List.mem_map.2 ⟨_, h.diag x.1 (by omega), by simp only; exact Prod.ext rfl (by simp only; omega)⟩)
    rw [← hF] at hle
    omega
end Go.Proofs.YtiiiinoappjhdaaDoor
namespace Go.Proofs.YtiiiinoappjhdaaDoor
open Go.RowKit Go.Shelf
/-- Behind an entry, an append to its slice and the store of what came. -/
theorem Grp.step {W W1 w' w3 : World} {n₀ b N i j p q c' : Nat} {V : Nat → Nat → Value} {L : Nat → Nat → List (Nat × Nat)} {T : Nat → Nat → Bool} {v' : Value} (h : Grp W n₀ b N V L) (h1 : W.grownBy W1 (some b)) (hs1 : W1.heap.size = W.heap.size)
    (ho : w'.ownsRow n₀ 80 2 v' ((L i j).length + 1) (pairCells (L i j) ++ [.int .i64 p, .int .i64 q])) (h2 : W1.grownBy w' (V i j).ownBlock) (hat : v'.ownBlock = (V i j).ownBlock ∨ v'.ownBlock = some W1.heap.size)
    (hm : PMap w3 b (N + 1) (.slice none 0 0) (fun a d => if a = i ∧ d = j then v' else V a d) T c') (h3 : w'.grownBy w3 (some b)) :
    Grp w3 n₀ b (N + 1) (fun a d => if a = i ∧ d = j then v' else V a d) (fun a d => if a = i ∧ d = j then L i j ++ [(p, q)] else L a d) := by
  obtain ⟨T0, c0, hm0⟩ := h.map
  have hbl := hm0.lt
  have hvb : v'.ownBlock ≠ some b := by
    rcases hat with e | e
    · rw [e]; exact h.off i j
    · rw [e]; intro e2; simp at e2; omega
  have hold : ∀ a d k, (V a d).ownBlock = some k → k < W.heap.size := fun a d k hk => ((h.rows a d).lt k hk).2
  refine ⟨⟨_, _, hm⟩, fun a d => ?_, fun a d a' d' k e1 e2 => ?_, fun a d => ?_⟩
  · by_cases e : a = i ∧ d = j
    · simp only [if_pos e]
      unfold PRow
      rw [List.length_append, pairCells_snoc]
      exact ho.kept h3 (.inr hvb)
    · simp only [if_neg e]
      refine ownsRow_same (h.rows a d) fun g hg => ?_
      have hgl := hold a d g hg
      have hgb : g ≠ b := fun e2 => h.off a d (e2 ▸ hg)
      have hgv : some g ≠ (V i j).ownBlock := fun e2 => e (h.apart a d i j g hg e2.symm)
      have z1 := h1.block g hgl (by simpa using hgb)
      have z2 := h2.block g (by omega) hgv
      have z3 := h3.block g (Nat.lt_of_lt_of_le (by omega) h2.size) (by simpa using hgb)
      exact z3.trans (z2.trans z1)
  · by_cases x1 : a = i ∧ d = j <;> by_cases x2 : a' = i ∧ d' = j
    · exact ⟨x1.1.trans x2.1.symm, x1.2.trans x2.2.symm⟩
    · simp only [if_pos x1, if_neg x2] at e1 e2
      rcases hat with e | e
      · rw [e] at e1
        obtain ⟨y1, y2⟩ := h.apart _ _ _ _ _ e1 e2
        exact absurd ⟨y1.symm, y2.symm⟩ x2
      · rw [e] at e1
        have := hold _ _ _ e2
        simp at e1
        omega
    · simp only [if_neg x1, if_pos x2] at e1 e2
      rcases hat with e | e
      · rw [e] at e2
        obtain ⟨y1, y2⟩ := h.apart _ _ _ _ _ e1 e2
        exact absurd ⟨y1, y2⟩ x1
      · rw [e] at e2
        have := hold _ _ _ e1
        simp at e2
        omega
    · simp only [if_neg x1, if_neg x2] at e1 e2
      exact h.apart _ _ _ _ _ e1 e2
  · by_cases e : a = i ∧ d = j
    · simp only [if_pos e]; exact hvb
    · simp only [if_neg e]; exact h.off a d
/-- The pair (p', q') with the letter x' was looked at before (p, q) with x. -/
def doneL (m : List (List Int)) (p q x p' q' x' : Nat) : Prop := p' < q' ∧ q' < m.length ∧ x' < letters m ∧ (p' < p ∨ (p' = p ∧ (q' < q ∨ (q' = q ∧ x' < x))))
def LB (m : List (List Int)) (p q x : Nat) (L : Nat → Nat → List (Nat × Nat)) : Prop :=
  ∀ i j e, e ∈ L i j ↔ ∃ x', doneL m p q x e.1 e.2 x' ∧ canon (nx m e.1 (x' : Int)) (nx m e.2 (x' : Int)) = (i, j)
theorem LB.start (m : List (List Int)) : LB m 0 1 0 (fun _ _ => []) := fun i j e => by
  simp only [List.not_mem_nil, false_iff]
  rintro ⟨x', ⟨h1, _, _, h2⟩, _⟩
  omega
theorem LB.same {m : List (List Int)} {p q x p2 q2 x2 : Nat} {L : Nat → Nat → List (Nat × Nat)} (h : LB m p q x L) (hd : ∀ p' q' x', doneL m p q x p' q' x' ↔ doneL m p2 q2 x2 p' q' x') : LB m p2 q2 x2 L := fun i j e => by
  rw [h i j e]
  exact exists_congr fun x' => and_congr_left fun _ => hd _ _ _
theorem LB.add {m : List (List Int)} {p q x i j : Nat} {L : Nat → Nat → List (Nat × Nat)} (h : LB m p q x L) (hpq : p < q) (hq : q < m.length) (hx : x < letters m) (hc : canon (nx m p (x : Int)) (nx m q (x : Int)) = (i, j)) :
    LB m p q (x + 1) (fun a d => if a = i ∧ d = j then L i j ++ [(p, q)] else L a d) := fun a d e => by
  have hsplit : (∃ x', doneL m p q (x + 1) e.1 e.2 x' ∧ canon (nx m e.1 (x' : Int)) (nx m e.2 (x' : Int)) = (a, d)) ↔ (e ∈ L a d ∨ (e = (p, q) ∧ (i, j) = (a, d))) := by
    rw [h a d e]
    constructor
    · rintro ⟨x', h1, h2⟩
      by_cases e1 : e.1 = p ∧ e.2 = q ∧ x' = x
      · obtain ⟨e2, e3, rfl⟩ := e1
        rw [e2, e3, hc] at h2
        exact .inr ⟨Prod.ext e2 e3, h2⟩
      · exact .inl ⟨x', by unfold doneL at h1 ⊢; omega, h2⟩
    · rintro (⟨x', h1, h2⟩ | ⟨rfl, h2⟩)
      · exact ⟨x', by unfold doneL at h1 ⊢; omega, h2⟩
      · exact ⟨x, ⟨hpq, hq, hx, .inr ⟨rfl, .inr ⟨rfl, Nat.lt_succ_self _⟩⟩⟩, by simp only; rw [hc, h2]⟩
  rw [hsplit]
  by_cases e1 : a = i ∧ d = j
  · simp only [if_pos e1]
    obtain ⟨rfl, rfl⟩ := e1
    simp
  · simp only [if_neg e1, Prod.mk.injEq]
    constructor
    · exact .inl
    · rintro (h | ⟨_, h1, h2⟩)
      · exact h
      · exact absurd ⟨h1.symm, h2.symm⟩ e1
theorem LB.done {m : List (List Int)} {q : Nat} {L : Nat → Nat → List (Nat × Nat)} (h : LB m m.length q 0 L) (i j : Nat) (e : Nat × Nat) : e ∈ L i j ↔ e.1 < e.2 ∧ e.2 < m.length ∧ ∃ x', x' < letters m ∧ canon (nx m e.1 (x' : Int)) (nx m e.2 (x' : Int)) = (i, j) := by
  rw [h i j e]
  constructor
  · rintro ⟨x', ⟨a1, a2, a3, a4⟩, h2⟩
    exact ⟨a1, a2, x', a3, h2⟩
  · rintro ⟨a1, a2, x', a3, h2⟩
    exact ⟨x', ⟨a1, a2, a3, by omega⟩, h2⟩
/-- The length that was found for a pair (0: none), and whether one was. -/
def lenIn (F : List (Nat × Nat × Nat)) (p q : Nat) : Nat := match F.find? (fun e => e.1 == p && e.2.1 == q) with
  | some e => e.2.2
  | none => 0
def inF (F : List (Nat × Nat × Nat)) (p q : Nat) : Bool := F.any fun e => e.1 == p && e.2.1 == q
theorem inF_iff {F : List (Nat × Nat × Nat)} {p q : Nat} : inF F p q = true ↔ ∃ l, (p, q, l) ∈ F := by
  unfold inF
  rw [List.any_eq_true]
  constructor
  · rintro ⟨e, he, h⟩
    simp only [Bool.and_eq_true, beq_iff_eq] at h
    exact ⟨e.2.2, by rw [← h.1, ← h.2]; exact he⟩
  · rintro ⟨l, h⟩
    exact ⟨_, h, by simp⟩
theorem lenIn_snoc {F : List (Nat × Nat × Nat)} {p q l : Nat} (h : inF F p q = false) (a d : Nat) : lenIn (F ++ [(p, q, l)]) a d = if a = p ∧ d = q then l else lenIn F a d := by
  unfold lenIn
  rw [List.find?_append]
  by_cases e : a = p ∧ d = q
  · obtain ⟨rfl, rfl⟩ := e
    have : F.find? (fun e => e.1 == a && e.2.1 == d) = none := by
      rw [List.find?_eq_none]
      intro x hx
      unfold inF at h
      simpa using List.any_eq_false.1 h x hx
    rw [this]
    simp
  · rw [if_neg e]
    cases hf : F.find? (fun e => e.1 == a && e.2.1 == d) with
    | some x => simp
    | none =>
      have : ((p == a) && (q == d)) = false := by
        rw [Bool.eq_false_iff]
        simp
        intro h1 h2
        exact e ⟨h1.symm, h2.symm⟩
      simp [this]
theorem inF_snoc (F : List (Nat × Nat × Nat)) (p q l : Nat) (a d : Nat) : inF (F ++ [(p, q, l)]) a d = if a = p ∧ d = q then true else inF F a d := by
  unfold inF
  rw [List.any_append]
  by_cases e : a = p ∧ d = q
  · obtain ⟨rfl, rfl⟩ := e
    simp
  · rw [if_neg e]
    have : ((p == a) && (q == d)) = false := by
      rw [Bool.eq_false_iff]
      simp
      intro h1 h2
      exact e ⟨h1.symm, h2.symm⟩
    simp [this]
theorem lenIn_mem {m : List (List Int)} {F : List (Nat × Nat × Nat)} {i : Nat} (h : MB m F i) {p q l : Nat} (hm : (p, q, l) ∈ F) : lenIn F p q = l := by
  unfold lenIn
  cases hf : F.find? (fun e => e.1 == p && e.2.1 == q) with
  | none =>
    have := List.find?_eq_none.1 hf _ hm
    simp at this
  | some e =>
    have h1 := List.find?_some hf
    have h2 := List.mem_of_find?_eq_some hf
    simp only [Bool.and_eq_true, beq_iff_eq] at h1
    have a1 := (h.ok _ h2).2.2
    rw [h1.1, h1.2] at a1
    exact mdist_unique a1 (h.ok _ hm).2.2
/-- The program's map of lengths. -/
def LMap (w : World) (B : Nat) (F : List (Nat × Nat × Nat)) : Prop := PMap w B F.length (.int .i64 0) (fun p q => .int .i64 (lenIn F p q : Nat)) (inF F) F.length
theorem LMap.made (w : World) : LMap (w.alloc (.map #[] 0)) w.heap.size [] := (PMap.made w (.int .i64 0)).congr fun p q _ _ => ⟨rfl, rfl⟩
theorem LMap.put {w : World} {B : Nat} {F : List (Nat × Nat × Nat)} (h : LMap w B F) (hn : F.length < 1000000) {p q : Nat} (hp : p < 1000000) (hq : q < 1000000) (l : Nat) (hno : inF F p q = false) :
    ∃ w', (Instr.mapUpdate 75 (.map (some B)) (.agg #[.int .i64 p, .int .i64 q]) (.int .i64 l)).run Tryd.prog w = .ok () w' ∧ LMap w' B (F ++ [(p, q, l)]) ∧ w.grownBy w' (some B) := by
  obtain ⟨w', h1, h2, h3⟩ := PMap.put h Tryd.underlying75 (by unfold maxLen; omega) hp hq (.int .i64 l)
  refine ⟨w', h1, ?_, h3⟩
  rw [hno] at h2
  unfold LMap
  rw [List.length_append, List.length_singleton]
  refine PMap.congr (by simpa using h2) fun a d _ _ => ⟨?_, (inF_snoc F p q l a d).symm⟩
  simp only [lenIn_snoc hno]
  split <;> rfl
/-- The length of a shortest word that merges two states; 0: there is none. -/
def len0 (m : List (List Int)) (p q : Nat) : Int := if 0 ≤ mlen m p q then mlen m p q else 0
/-- What the search hands back. -/
def LenMap (m : List (List Int)) (w : World) (B : Nat) : Prop :=
  ∃ n V T c, PMap w B n (.int .i64 0) V T c ∧ (∀ p q, p ≤ q → q < m.length → V p q = .int .i64 (len0 m p q) ∧ T p q = decide (0 ≤ mlen m p q)) ∧
    (m.length * (m.length + 1) ≤ 2 * c ↔ ∀ p q, p < q → q < m.length → ∃ k, mergeP m p q k) ∧ c ≤ 3600
theorem LenMap.below {m : List (List Int)} {w w' : World} {B : Nat} (h : LenMap m w B) (hb : Below w.heap.size w w') : LenMap m w' B := by
  obtain ⟨n, V, T, c, h1, h2⟩ := h
  exact ⟨n, V, T, c, h1.below hb, h2⟩
theorem LMap.done {m : List (List Int)} {w : World} {B : Nat} {F : List (Nat × Nat × Nat)} (hv : validM m = true) (hm : m.length ≤ 60) (h : LMap w B F) (hM : MB m F F.length) : LenMap m w B := by
  refine ⟨_, _, _, _, h, fun p q hpq hq => ?_, hM.count hv, ?_⟩
  · rcases mlen_spec hv (p := p) (q := q) (by omega) hq with ⟨h1, h2⟩ | ⟨j, h1, h2, h3⟩
    · have hno : ∀ l, (p, q, l) ∉ F := fun l hm => h2 l (hM.ok _ hm).2.2.1
      have hf : inF F p q = false := by
        rw [Bool.eq_false_iff]
        intro e
        obtain ⟨l, hl⟩ := inF_iff.1 e
        exact hno l hl
      have hl : lenIn F p q = 0 := by
        unfold lenIn
        cases hf2 : F.find? (fun e => e.1 == p && e.2.1 == q) with
        | none => rfl
        | some e =>
          have h1 := List.find?_some hf2
          have h2 := List.mem_of_find?_eq_some hf2
          simp only [Bool.and_eq_true, beq_iff_eq] at h1
          exact absurd h2 (by rw [show e = (p, q, e.2.2) from by rw [← h1.1, ← h1.2]]; exact hno _)
      refine ⟨?_, ?_⟩
      · rw [hl, len0, if_neg (by omega)]; rfl
      · rw [hf, h1]; rfl
    · have hmem := hM.all hv hpq hq h3
      refine ⟨?_, ?_⟩
      · rw [lenIn_mem hM hmem, len0, if_pos (by omega), h2]
      · rw [inF_iff.2 ⟨j, hmem⟩, h2]
        exact (decide_eq_true (by omega)).symm
  · have := hM.len
    have h2 : m.length * m.length ≤ 60 * 60 := Nat.mul_le_mul hm hm
    omega
theorem LMap.kept {w w' : World} {B : Nat} {F : List (Nat × Nat × Nat)} (h : LMap w B F) (hk : w'.heap[B]? = w.heap[B]?) : LMap w' B F := PMap.kept h hk
end Go.Proofs.YtiiiinoappjhdaaDoor
namespace Go.Proofs.YtiiiinoappjhdaaDoor
open Go.RowKit Go.Shelf
theorem pair_new (w : World) (t : TypeId) (u v : Value) (B : Nat) (hB : w.heap.size = B) : ∀ k x, [u, v][k]? = some x → (w.alloc (.cells #[u, v] t)).cell? ((⟨B, 0, none⟩ : Addr).add k) = some x := by
  subst hB
  intro k x hx
  have hk : k < 2 := by
    have := (List.getElem?_eq_some_iff.1 hx).1
    simpa using this
  have h2 : k = 0 ∨ k = 1 := by omega
  rcases h2 with rfl | rfl <;> simp at hx <;> subst hx <;> simp [Addr.add]
end Go.Proofs.YtiiiinoappjhdaaDoor
namespace Go.Proofs.YtiiiinoappjhdaaDoor
open Go.RowKit Go.Shelf
/-- How many elements a slice has. -/
def sliceLen : Value → Nat
  | .slice _ n _ => n
  | _ => 0
theorem LenMap.find {m : List (List Int)} {w : World} {B : Nat} (hv : validM m = true) (hL : LenMap m w B) {p q r : Nat} (hpq : p ≤ q) (hq : q < m.length) (hd : mdist m p q r) :
    (Instr.lookup 75 (.map (some B)) (.agg #[.int .i64 p, .int .i64 q]) false).run Tryd.prog w = .ok (.int .i64 r) w := by
  obtain ⟨p1, p2, -⟩ := valid_parts hv
  obtain ⟨n, V, T, c, h1, h2, -⟩ := hL
  rw [h1.look Tryd.underlying75 (zeroInt _) (p := p) (q := q) (by omega) (by omega), (h2 p q hpq hq).1]
  have := mlen_of hv (by omega) hq hd
  rw [len0, this, if_pos (by omega)]
theorem one_new (w : World) (t : TypeId) (u : Value) (B : Nat) (hB : w.heap.size = B) : ∀ k x, [u][k]? = some x → (w.alloc (.cells #[u] t)).cell? ((⟨B, 0, none⟩ : Addr).add k) = some x := by
  subst hB
  exact cell_one_new w u t
theorem infoIntE : (Tryd.prog.info? 3).map (fun i => (i.zero, i.size, i.bytes)) = some (some (.int .i64 0), 1, 8) := by kernel_rfl
end Go.Proofs.YtiiiinoappjhdaaDoor
namespace Go.Proofs.YtiiiinoappjhdaaDoor
open Go.RowKit Go.Shelf
attribute [local go_sem] Oper.semAt_some
/-- What is behind the marks of loops over functions: only those marks are turned. -/
def MarksOff (B : Nat) (W W' : World) : Prop := Below B W W' ∧ ∀ (k : Nat) (o : Obj), W.heap[k]? = some o → o.isCells = true → W'.heap[k]? = some o
theorem MarksOff.refl (B : Nat) (W : World) (h : B ≤ W.heap.size) : MarksOff B W W := ⟨(Below.refl _ W).mono h, fun _ _ h _ => h⟩
end Go.Proofs.YtiiiinoappjhdaaDoor
namespace Go.Proofs.YtiiiinoappjhdaaDoor
open Go.RowKit Go.Shelf
theorem take_eq_succ' {l m : List (List Int)} {k : Nat} (hk : k < l.length) (hl : l.length = m.length) (h : l.take k = m.take k) (hx : l.getD k [] = m.getD k []) : l.take (k + 1) = m.take (k + 1) := by
  have hk' : k < m.length := by omega
  rw [List.take_succ_eq_append_getElem hk, List.take_succ_eq_append_getElem hk', h]
  simp only [List.getD_eq_getElem?_getD, List.getElem?_eq_getElem hk, List.getElem?_eq_getElem hk', Option.getD_some] at hx
  rw [hx]
theorem rSame_bool (v u : Value) (l m : List Int) (b : Bool) (w : World) (h : Ints w v l) (hu : Ints w u m) (hb : decide (l = m) = b) :
    Calls Tryd.prog 15 #[v, u] w fun e w' => e = .returned (.bool b) ∧ Below w.heap.size w w' := by
  subst hb; exact rSame_any v u l m w h hu
set_option maxHeartbeats 2000000 in
theorem rSames_any (v u : Value) (l m : List (List Int)) (w : World) (h : Rows w v l) (hu : Rows w u m) :
    Calls Tryd.prog 20 #[v, u] w fun e w' => e = .returned (.bool (decide (l = m))) ∧ Below w.heap.size w w' := by
  obtain ⟨A, cap, rfl, hl, hc⟩ := h
  obtain ⟨Au, capu, rfl, hlu, hcu⟩ := hu
  unfold big at hl hlu
  by_cases hlen : l.length = m.length
  · have hne : ((l.length : Int) != (m.length : Int)) = false := by simp; omega
    have Hlen := hid hlen
    have Hc := hid hc
    have Hcu := hid hcu
    clear hlen hc hcu
    go_enter Tryd.func20, Tryd.ntmps20
    go_wp2
    go_loopw [5] (fun i wr => ∃ k : Nat, k ≤ l.length ∧ i = .int .i64 k ∧ l.take k = m.take k ∧ Below w.heap.size w wr) (fun i _ => l.length - (intOf i).toNat)
    case atStart => exact ⟨0, Nat.zero_le _, rfl, rfl, Below.refl _ _⟩
    case round =>
      obtain ⟨k, hk, rfl, htk, hB⟩ := hrel
      have Htk := hid htk
      clear htk
      by_cases hlt : k < l.length
      · have hle := Hlen.out
        obtain ⟨b, off, r, hA, hcell, hrow⟩ := Hc.out k hlt
        obtain ⟨b', off', r', hA', hcell', hrow'⟩ := Hcu.out k (by omega)
        subst hA
        subst hA'
        have c1 := (hB.cell (p := ⟨b, off + k, none⟩) (World.block_lt_of_cell? _ _ hcell)).trans hcell
        have c2 := (hB.cell (p := ⟨b', off' + k, none⟩) (World.block_lt_of_cell? _ _ hcell')).trans hcell'
        have i1 : (k : Int) < l.length := by omega
        have i2 : (k : Int) < m.length := by omega
        have hr1 := hrow.below hB
        have hr2 := hrow'.below hB
        have Hs := hid (fun hx => take_eq_succ' hlt Hlen.out Htk.out hx)
        have Hf : Hid (l.getD k [] ≠ m.getD k [] → decide (l = m) = false) := hid (fun hx => decide_eq_false (fun e => hx (by rw [e])))
        clear hcell hcell' hle hrow hrow'
        generalize l.getD k [] = x at *
        generalize m.getD k [] = y at *
        obtain ⟨Ax, cx, rfl, _⟩ := id hr1
        obtain ⟨Ay, cy, rfl, _⟩ := id hr2
        cases hxy : decide (x = y) with
        | true =>
          go_wp2_with fail
          go_region_with (go_at_call 15; refine (rSame_bool _ _ x y true _ (hr1.below (by first | exact Below.refl _ _ | exact Below.drew (Below.refl _ _))) (hr2.below (by first | exact Below.refl _ _ | exact Below.drew (Below.refl _ _))) hxy).mono ?_; rintro e wA ⟨rfl, hA⟩; have hBA : Below wr.heap.size wr wA := btr (by first | exact Below.refl _ _ | exact Below.drew (Below.refl _ _)) hA)
          all_goals go_wp2
          all_goals go_roundw
          all_goals first
            | exact ⟨k + 1, by omega, by go_num, Hs.out (of_decide_eq_true hxy), btr hB (by first | assumption | exact Below.drew (by assumption))⟩
            | (simp [intOf]; omega)
        | false =>
          go_wp2_with fail
          go_region_with (go_at_call 15; refine (rSame_bool _ _ x y false _ (hr1.below (by first | exact Below.refl _ _ | exact Below.drew (Below.refl _ _))) (hr2.below (by first | exact Below.refl _ _ | exact Below.drew (Below.refl _ _))) hxy).mono ?_; rintro e wA ⟨rfl, hA⟩; have hBA : Below wr.heap.size wr wA := btr (by first | exact Below.refl _ _ | exact Below.drew (Below.refl _ _)) hA)
          all_goals go_wp2
          all_goals go_ret
          all_goals exact ⟨ret_bool (Hf.out (of_decide_eq_false hxy)).symm, btr hB (by first | assumption | exact Below.drew (by assumption))⟩
      · go_wp2
        go_ret
        have h1 := Htk.out
        have h2 := Hlen.out
        rw [List.take_of_length_le (by omega), List.take_of_length_le (by omega)] at h1
        exact ⟨ret_bool (by rw [h1, decide_eq_true rfl]), hB⟩
  · have hne : ((l.length : Int) != (m.length : Int)) = true := by simp; omega
    have Hlen := hid hlen
    clear hlen hc hcu
    go_enter Tryd.func20, Tryd.ntmps20
    go_wp2
    go_ret
    exact ⟨ret_bool (decide_eq_false (fun e => Hlen.out (by rw [e]))).symm, Below.refl _ _⟩
end Go.Proofs.YtiiiinoappjhdaaDoor
namespace Go.Proofs.YtiiiinoappjhdaaDoor
open Go.RowKit Go.Shelf
theorem rows3 (w : World) (a b c : List Int) (va vb vc : Value) (t : TypeId) (k : Nat) (hk : k = w.heap.size) (ha : Ints w va a) (hb : Ints w vb b) (hc : Ints w vc c) : Rows (w.alloc (.cells #[va, vb, vc] t)) (.slice (some ⟨k, 0, none⟩) 3 3) [a, b, c] := by
  subst hk
  refine ⟨_, 3, rfl, by unfold big; simp, fun i hi => ?_⟩
  have h3 : i = 0 ∨ i = 1 ∨ i = 2 := by simp at hi; omega
  rcases h3 with rfl | rfl | rfl
  · exact ⟨w.heap.size, 0, va, rfl, by simp, ha.alloc _⟩
  · exact ⟨w.heap.size, 0, vb, rfl, by simp, hb.alloc _⟩
  · exact ⟨w.heap.size, 0, vc, rfl, by simp, hc.alloc _⟩
theorem rows2 (w : World) (a b : List Int) (va vb : Value) (t : TypeId) (k : Nat) (hk : k = w.heap.size) (ha : Ints w va a) (hb : Ints w vb b) : Rows (w.alloc (.cells #[va, vb] t)) (.slice (some ⟨k, 0, none⟩) 2 2) [a, b] := by
  subst hk
  refine ⟨_, 2, rfl, by unfold big; simp, fun i hi => ?_⟩
  have h3 : i = 0 ∨ i = 1 := by simp at hi; omega
  rcases h3 with rfl | rfl
  · exact ⟨w.heap.size, 0, va, rfl, by simp, ha.alloc _⟩
  · exact ⟨w.heap.size, 0, vb, rfl, by simp, hb.alloc _⟩
theorem lit_rows (w : World) (a b c d e f : Int) : Rows ((((w.alloc (.cells #[.int .i64 a, .int .i64 b] 3)).alloc (.cells #[.int .i64 c, .int .i64 d] 3)).alloc (.cells #[.int .i64 e, .int .i64 f] 3)).alloc
    (.cells #[.slice (some ⟨w.heap.size, 0, none⟩) 2 2, .slice (some ⟨w.heap.size + 1, 0, none⟩) 2 2, .slice (some ⟨w.heap.size + 1 + 1, 0, none⟩) 2 2] 25)) (.slice (some ⟨w.heap.size + 1 + 1 + 1, 0, none⟩) 3 3) [[a, b], [c, d], [e, f]] :=
  rows3 _ _ _ _ _ _ _ _ _ (by simp) (((Ints.two' w a b _ _ rfl).alloc _).alloc _) ((Ints.two' _ c d _ _ (by simp)).alloc _) (Ints.two' _ e f _ _ (by simp))
theorem rSames_eq (v u : Value) (l : List (List Int)) (w : World) (h : Rows w v l) (hu : Rows w u l) : Calls Tryd.prog 20 #[v, u] w fun e w' => e = .returned (.bool true) ∧ Below w.heap.size w w' := by
  have hs := rSames_any v u l l w h hu
  rw [decide_eq_true rfl] at hs
  exact hs
end Go.Proofs.YtiiiinoappjhdaaDoor
namespace Go.Proofs.YtiiiinoappjhdaaDoor
open Go.RowKit Go.Shelf
theorem pick_mem {p : Nat → Bool} {n : Nat} {x : Int} : x ∈ pick p n ↔ ∃ t, t < n ∧ p t = true ∧ x = (t : Int) := by
  simp only [pick, List.mem_map, List.mem_filter, List.mem_range]
  constructor
  · rintro ⟨t, ⟨h1, h2⟩, rfl⟩; exact ⟨t, h1, h2, rfl⟩
  · rintro ⟨t, h1, h2, rfl⟩; exact ⟨t, ⟨h1, h2⟩, rfl⟩
theorem pick_set {m : List (List Int)} (p : Nat → Bool) : isSetM m (pick p m.length) = true := by
  refine isSetM_of_sorted (intsOf_sorted (List.Pairwise.filter _ List.pairwise_lt_range)) (fun x hx => ?_)
  obtain ⟨t, h1, _, rfl⟩ := pick_mem.1 hx
  omega
theorem pick_testBit (p : Nat → Bool) (n t : Nat) : (ofList (pick p n)).testBit t = (decide (t < n) && p t) := by
  rw [ofList_testBit, Bool.eq_iff_iff, List.any_eq_true, Bool.and_eq_true, decide_eq_true_eq]
  constructor
  · rintro ⟨x, hx, e⟩
    obtain ⟨q, h1, h2, rfl⟩ := pick_mem.1 hx
    have := of_decide_eq_true e
    rw [Int.toNat_natCast] at this
    subst this
    exact ⟨h1, h2⟩
  · rintro ⟨h1, h2⟩
    exact ⟨t, pick_mem.2 ⟨t, h1, h2, rfl⟩, by simp⟩
theorem hasB_testBit {l : List Int} (h : ∀ x ∈ l, 0 ≤ x) (t : Nat) : hasB l t = (ofList l).testBit t := by
  rw [ofList_testBit, hasB, Bool.eq_iff_iff, List.any_eq_true, List.any_eq_true]
  constructor
  · rintro ⟨x, hx, e⟩
    exact ⟨x, hx, by rw [beq_iff_eq] at e; simp [e]⟩
  · rintro ⟨x, hx, e⟩
    have h1 := of_decide_eq_true e
    have h2 := h x hx
    exact ⟨x, hx, by rw [beq_iff_eq]; omega⟩
theorem set_pos {m : List (List Int)} {l : List Int} (h : isSetM m l = true) : ∀ x ∈ l, 0 ≤ x := fun x hx => (isSetM_mem h x hx).1
theorem hasB_image {m : List (List Int)} (hv : validM m = true) {s u : List Int} (hs : isSetM m s = true) (hu : isWordM m u = true) (t : Nat) : hasB (imageM m s u) t = (imgWord m (ofList s) u).testBit t := by
  have hm : m.length ≤ 64 := by have := (valid_parts hv).2.1; omega
  have hu' := hu
  simp only [isWordM, Bool.and_eq_true] at hu'
  have hA := imgWord_lt hv u _ (ofList_lt m.length hm s (isSetM_mem hs)) hu'.2
  rw [hasB_testBit (set_pos (imageM_set hv hs hu)), imageM, ofList_elems (Nat.lt_of_lt_of_le hA (Nat.pow_le_pow_right (by decide) hm))]
end Go.Proofs.YtiiiinoappjhdaaDoor
namespace Go.Proofs.YtiiiinoappjhdaaDoor
open Go.RowKit Go.Shelf
/-- All states. -/
def allM (n : Nat) : List Int := pick (fun _ => true) n
theorem allM_set (m : List (List Int)) : isSetM m (allM m.length) = true := pick_set _
theorem hasB_all {m : List (List Int)} (hv : validM m = true) {u : List Int} (hu : isWordM m u = true) (t : Nat) : hasB (imageM m (allM m.length) u) t = true ↔ ∃ s, s < m.length ∧ runM m s u = t := by
  have hm : m.length ≤ 64 := by have := (valid_parts hv).2.1; omega
  rw [hasB_image hv (allM_set m) hu]
  have hu' := hu
  simp only [isWordM, Bool.and_eq_true] at hu'
  rw [imgWord_mem hv u _ t (ofList_lt m.length hm _ (isSetM_mem (allM_set m))) hu'.2]
  constructor
  · rintro ⟨q, h1, h2, h3⟩; exact ⟨q, h1, h3⟩
  · rintro ⟨q, h1, h3⟩
    refine ⟨q, h1, ?_, h3⟩
    rw [allM, pick_testBit]
    simp [h1]
theorem image_one {m : List (List Int)} (hv : validM m = true) {u : List Int} (hu : isWordM m u = true) {x : Int} (h : imageM m (allM m.length) u = [x]) : ∃ t : Nat, x = t ∧ ∀ s, s < m.length → runM m s u = t := by
  have h0 : 0 < m.length := by have := (valid_parts hv).1; omega
  have key : ∀ s, s < m.length → ((runM m s u : Nat) : Int) = x := fun s hs => by
    have := (hasB_all hv hu (runM m s u)).2 ⟨s, hs, rfl⟩
    rw [h] at this
    simp [hasB] at this
    exact this.symm
  exact ⟨runM m 0 u, (key 0 h0).symm, fun s hs => by have := key s hs; have := key 0 h0; omega⟩
end Go.Proofs.YtiiiinoappjhdaaDoor
namespace Go.Proofs.YtiiiinoappjhdaaDoor
open Go.RowKit Go.Shelf
theorem allM_succ (k : Nat) : (allM (k + 1)).map (fun x => Value.int .i64 x) = (allM k).map (fun x => Value.int .i64 x) ++ [.int .i64 (k : Int)] := by
  unfold allM; rw [pick_succ]; rfl
theorem allM_len (k : Nat) : (allM k).length = k := by
  unfold allM pick; rw [List.length_map, List.filter_eq_self.2 (fun _ _ => rfl), List.length_range]
set_option maxHeartbeats 400000 in
theorem rAll_any (n : Nat) (w : World) (hn : n ≤ 1000) :
    Calls Tryd.prog 23 #[.int .i64 n] w fun e w' => ∃ r, e = .returned r ∧ Ints w' r (allM n) ∧ Below w.heap.size w w' := by
  obtain ⟨j0, hj, hy0, hy1, hy2⟩ := info_parts infoInt
  go_enter Tryd.func23, Tryd.ntmps23
  go_wp2
  go_loopw [3, 4] (fun r i wr => ∃ k : Nat, k ≤ n ∧ i = .int .i64 k ∧ Below w.heap.size w wr ∧ wr.ownsRow w.heap.size 3 1 r k ((allM k).map fun x => .int .i64 x)) (fun _ i _ => n - (intOf i).toNat)
  case atStart => exact ⟨0, Nat.zero_le _, rfl, Below.refl _ _, ⟨rfl, .inl ⟨rfl, rfl⟩⟩⟩
  case round =>
    obtain ⟨k, hk, rfl, hB, ho⟩ := hrel
    have hsz := hB.size
    by_cases hlt' : k < n
    · have hkm : (k : Int) < n := by omega
      have Hs := hid (allM_succ k)
      generalize allM k = pk at *
      go_wp2_with (at_builtin; refine wpList_append_own_at _ rfl _ _ 25 rfl w.heap.size 3 j0 (.int .i64 0) 1 8 Tryd.underlying25 hj hy0 hy1 hy2 rfl (by decide) _ _ _ rfl (ho.alloc _) ⟨wr.heap.size, 0, none⟩ 1 1 [.int .i64 (k : Int)] rfl rfl (cell_one_new _ _ _) (by simp [Value.oneCell']) (by unfold maxLen; omega) (by omega) (by simp; omega) ?_; intro v' w5 hown' hgrow' _ hat)
      go_roundw
      case rel => exact ⟨k + 1, by omega, by go_num, appended_below hB ho hsz hgrow', by rw [Hs.out]; exact hown'⟩
      case measure => simp [intOf]; omega
    · obtain rfl : k = n := by omega
      have hl := allM_len k
      go_wp2
      go_ret
      exact ⟨_, rfl, Ints.of_own (n₀ := w.heap.size) (e := 3) (by rw [hl]; exact ho) (by unfold big; omega), hB⟩
end Go.Proofs.YtiiiinoappjhdaaDoor
namespace Go.Proofs.YtiiiinoappjhdaaDoor
open Go.RowKit
/-- No operation defers a call. -/
def noDefer (ops : List Oper) : Bool := ops.all fun o => match o.op with
  | .defer _ => false
  | _ => true
theorem noDefer_of {ops : List Oper} (h : noDefer ops = true) {o : Oper} (ho : o ∈ ops) : ∀ c, o.op ≠ .defer c := fun c e => by
  have := List.all_eq_true.1 h o ho
  rw [e] at this
  cases this
section
variable {P : Program} {ops : Array Oper} {md : Region.Mode} {C : World → Prop} (l : Nat)
theorem quiet_round {o : Oper} (hd : ∀ c, o.op ≠ .defer c) {a : Act} {K : Act → Prop} {K' : Act → World → Prop} {Q' : Exit → Act → World → Prop} {w : World} (hw : C w) (h : ∀ a w', C w' → K a → K' a w') (hh : o.quiet P a C K) : o.wpIn (Fence.wide.inRound l) 0 P a w K' Q' := by
  obtain ⟨v, h1, h2⟩ := hh
  have h3 := h1 w hw
  unfold Oper.quietAt at h3
  refine ⟨fun _ _ => trivial, ?_⟩
  rw [show (Fence.wide.inRound l).round = some l from rfl, Oper.semAt_some l _ _ hd]
  generalize (execOp a.eval o).run P w = r at *
  cases r with
  | ok n w' =>
    cases n <;> simp only [Oper.quietUpon] at h3 <;> simp only [Oper.uponIn]
    case value u =>
      obtain ⟨e1, e2⟩ := h3
      rw [e1, e2]
      exact h _ _ hw h2
    case skip =>
      obtain ⟨e1, e2⟩ := h3
      rw [e1, ← e2]
      exact h _ _ hw h2
    case enter f args =>
      obtain ⟨e1, hc⟩ := h3
      rw [e1]
      exact ⟨fun h => by simp [Fence.wide] at h, CallsIn.inRound l (callsIn_wide.2 (hc.mono fun e w'' ⟨he, hw''⟩ => by subst he; exact h _ _ hw'' h2))⟩
  | halt x w' => simp only [Oper.quietUpon] at h3
theorem qOp_round (hd : noDefer ops.toList = true) {i : Nat} {a : Act} {K : Act → Prop} {K' : Act → World → Prop} {Q' : Exit → Act → World → Prop} {w : World} (hC : C w) (h : ∀ a w', C w' → K a → K' a w') (hh : qOp P ops C i K a) : wpOpIn (Fence.wide.inRound l) 0 P ops Q' i K' a w := by
  unfold qOp at hh
  unfold wpOpIn
  split
  · rename_i ho; simp only [ho] at hh; exact h _ _ hC hh
  · rename_i o ho
    simp only [ho] at hh
    have hm : o ∈ ops.toList := Array.mem_toList_iff.2 (Array.mem_of_getElem? ho)
    split
    · rename_i hw; simp only [hw, if_true] at hh; exact quiet_round l (noDefer_of hd hm) hC h hh
    · rename_i hw; simp only [hw] at hh; exact ⟨fun _ _ => trivial, h _ _ hC hh⟩
theorem wpAny_round (hd : noDefer ops.toList = true) {Q : Act → Prop} {Q' : Exit → Act → World → Prop} (hQ : ∀ a w, C w → Q a → Q' .normal a w) : ∀ (fuel : Nat) (listed : Array Bool) (a : Act) (w : World), C w →
    wpAnyQ P md ops C Q fuel listed a → wpAnyIn (Fence.wide.inRound l) 0 P md ops Q' fuel listed a w
  | 0, _, _, _, hw, h => ⟨h.1, hQ _ _ hw h.2⟩
  | fuel + 1, _, _, _, hw, h => ⟨fun h0 => hQ _ _ hw (h.1 h0), fun i hi => qOp_round l hd hw (fun a' w' hw' => wpAny_round hd hQ fuel _ a' w' hw') (h.2 i hi)⟩
theorem wp_region_round {id : Nat} {Q : Exit → Act → World → Prop} {a : Act} {w : World} {rs : List Oper} (hm : P.follows .mixedOrders = true) (hB : Region.lexB .any rs.toArray = true) (hd : noDefer rs = true)
    (h : wpQuiet P rs.toArray (fun w' => ∃ n, w' = w.drewN n) (fun a' => ∀ nq, Q .normal a' (w.drewN nq)) rs a) : (Code.region id rs.toArray true).wpIn (Fence.wide.inRound l) 0 P Q a w := by
  simp only [Region.lexB, Bool.and_eq_true] at hB
  refine wpIn_region_any hm (wpAny_round (C := fun w' => ∃ n, w' = w.drewN n) (Q := fun a' => ∀ nq, Q .normal a' (w.drewN nq)) l (by simpa using hd) (fun a' w' ⟨n, hn⟩ h => by rw [hn]; exact h n) _ _ _ _ ⟨1, rfl⟩ ?_)
  have := wpAnyQ_lex (P := P) (C := fun w' => ∃ n, w' = w.drewN n) (md := .any) hB.1 rs 0 (Array.replicate rs.length false) a (by simp) (by simpa using hB.2) h
  simpa using this
end
end Go.Proofs.YtiiiinoappjhdaaDoor
namespace Go.Proofs.YtiiiinoappjhdaaDoor
def dotS {K : Type} (S : List K) (a b : K → Int) : Int := (S.map fun x => a x * b x).sum
theorem dotS_cons {K : Type} (x : K) (S : List K) (a b : K → Int) : dotS (x :: S) a b = a x * b x + dotS S a b := by simp [dotS]
theorem dotS_erase {K : Type} [DecidableEq K] {c : K} {S : List K} (h : c ∈ S) (a b : K → Int) : dotS S a b = a c * b c + dotS (S.erase c) a b := by
  induction S with
  | nil => cases h
  | cons x S ih =>
    rw [List.erase_cons]
    by_cases e : x = c
    · subst e; simp [dotS_cons]
    · have hm : c ∈ S := by
        rcases List.mem_cons.1 h with h | h
        · exact absurd h.symm e
        · exact h
      rw [if_neg (by simpa using e), dotS_cons, dotS_cons, ih hm]
      omega
theorem dotS_zero {K : Type} {S : List K} {a : K → Int} (b : K → Int) (h : ∀ x ∈ S, a x = 0) : dotS S a b = 0 := by
  induction S with
  | nil => rfl
  | cons x S ih => rw [dotS_cons, h x (by simp), ih fun y hy => h y (by simp [hy])]; simp
theorem dotS_lin {K : Type} (S : List K) (u v : Int) (a a' b : K → Int) : dotS S (fun x => u * a x - v * a' x) b = u * dotS S a b - v * dotS S a' b := by
  induction S with
  | nil => simp [dotS]
  | cons x S ih => rw [dotS_cons, dotS_cons, dotS_cons, ih]; grind
/-- A triangle of t rows wants t coordinates. -/
theorem triangle {K : Type} [DecidableEq K] : ∀ (N t : Nat) (S : List K) (a b : Nat → K → Int), S.length = N → (∀ i, i < t → dotS S (a i) (b i) ≠ 0) → (∀ j i, j < i → i < t → dotS S (a j) (b i) = 0) → t ≤ N
  | N, 0, _, _, _, _, _, _ => Nat.zero_le _
  | 0, t + 1, S, a, b, hS, h1, _ => by
    obtain rfl := List.length_eq_zero_iff.1 hS
    exact absurd rfl (h1 0 (by omega))
  | N + 1, t + 1, S, a, b, hS, h1, h2 => by
    have hc : ∃ c, c ∈ S ∧ a 0 c ≠ 0 := by
      apply Classical.byContradiction
      intro hno
      exact h1 0 (by omega) (dotS_zero (b 0) fun x hx => Classical.byContradiction fun hne => hno ⟨x, hx, hne⟩)
    obtain ⟨c, hc, hne⟩ := hc
    have hred : ∀ j i, i < t → dotS (S.erase c) (fun x => a 0 c * a (j + 1) x - a (j + 1) c * a 0 x) (b (i + 1)) = a 0 c * dotS S (a (j + 1)) (b (i + 1)) := fun j i hi => by
      have e1 := dotS_erase hc (fun x => a 0 c * a (j + 1) x - a (j + 1) c * a 0 x) (b (i + 1))
      rw [dotS_lin, h2 0 (i + 1) (by omega) (by omega)] at e1
      have e2 : a 0 c * a (j + 1) c - a (j + 1) c * a 0 c = 0 := by grind
      simp only [e2] at e1
      omega
    have := triangle N t (S.erase c) (fun j x => a 0 c * a (j + 1) x - a (j + 1) c * a 0 x) (fun i => b (i + 1)) (by rw [List.length_erase_of_mem hc]; omega)
      (fun i hi => by
        rw [hred i i hi]
        exact Int.mul_ne_zero hne (h1 (i + 1) (by omega)))
      (fun j i hji hi => by
        rw [hred j i hi, h2 (j + 1) (i + 1) (by omega) (by omega), Int.mul_zero])
    omega
/-- Polynomials in two letters as lists of terms. -/
def mono (s u : Int) (k : Nat × Nat) : Int := s ^ k.1 * u ^ k.2
def evL (L : List (Int × Nat × Nat)) (s u : Int) : Int := (L.map fun x => x.1 * mono s u x.2).sum
def mulL (e : Int) : List (Int × Nat × Nat) → List (Int × Nat × Nat)
  | [] => []
  | x :: L => (e * e * x.1, x.2.1, x.2.2) :: (-e * x.1, x.2.1 + 1, x.2.2) :: (x.1, x.2.1, x.2.2 + 1) :: mulL e L
theorem evL_cons (x : Int × Nat × Nat) (L : List (Int × Nat × Nat)) (s u : Int) : evL (x :: L) s u = x.1 * mono s u x.2 + evL L s u := by simp [evL]
theorem evL_mul (e : Int) (s u : Int) : ∀ L, evL (mulL e L) s u = (e * e - e * s + u) * evL L s u
  | [] => by simp [mulL, evL]
  | x :: L => by
    rw [mulL, evL_cons, evL_cons, evL_cons, evL_cons, evL_mul e s u L]
    simp only [mono, Int.pow_succ]
    grind
def polyD : List Nat → List (Int × Nat × Nat)
  | [] => [(1, 0, 0)]
  | e :: D => mulL e (polyD D)
/-- The product over a set of states. -/
def prodD (p q : Int) : List Nat → Int
  | [] => 1
  | e :: D => ((e : Int) - p) * ((e : Int) - q) * prodD p q D
theorem evL_polyD (p q : Int) : ∀ D, evL (polyD D) (p + q) (p * q) = prodD p q D
  | [] => by simp [polyD, evL, mono, prodD]
  | e :: D => by rw [polyD, evL_mul, evL_polyD p q D, prodD]; grind
theorem mulL_deg {e : Int} {d : Nat} : ∀ {L : List (Int × Nat × Nat)}, (∀ x ∈ L, x.2.1 + x.2.2 ≤ d) → ∀ x ∈ mulL e L, x.2.1 + x.2.2 ≤ d + 1
  | [], _, x, hx => by simp [mulL] at hx
  | y :: L, h, x, hx => by
    have hy := h y (by simp)
    rw [mulL] at hx
    rcases List.mem_cons.1 hx with rfl | hx
    · simp only; omega
    rcases List.mem_cons.1 hx with rfl | hx
    · simp only; omega
    rcases List.mem_cons.1 hx with rfl | hx
    · simp only; omega
    exact mulL_deg (fun z hz => h z (by simp [hz])) x hx
theorem polyD_deg : ∀ D : List Nat, ∀ x ∈ polyD D, x.2.1 + x.2.2 ≤ D.length
  | [], x, hx => by simp [polyD] at hx; subst hx; simp
  | e :: D, x, hx => mulL_deg (polyD_deg D) x hx
/-- The coefficients. -/
def coefL (L : List (Int × Nat × Nat)) (k : Nat × Nat) : Int := (L.map fun x => if x.2 = k then x.1 else 0).sum
theorem coefL_cons (x : Int × Nat × Nat) (L : List (Int × Nat × Nat)) (k : Nat × Nat) : coefL (x :: L) k = (if x.2 = k then x.1 else 0) + coefL L k := by simp [coefL]
theorem ne_of_erase {K : Type} [DecidableEq K] {S : List K} (hS : S.Nodup) {x k : K} (h : x ∈ S.erase k) : x ≠ k := ((List.Nodup.mem_erase_iff hS).1 h).1
theorem dot_single {S : List (Nat × Nat)} (hS : S.Nodup) (c : Int) {k : Nat × Nat} (hk : k ∈ S) (b : Nat × Nat → Int) : dotS S (fun x => if k = x then c else 0) b = c * b k := by
  rw [dotS_erase hk, dotS_zero]
  · simp
  · intro x hx
    rw [if_neg (Ne.symm (ne_of_erase hS hx))]
theorem dotS_add {K : Type} (S : List K) (a a' b : K → Int) : dotS S (fun x => a x + a' x) b = dotS S a b + dotS S a' b := by
  induction S with
  | nil => rfl
  | cons x S ih => rw [dotS_cons, dotS_cons, dotS_cons, ih]; grind
theorem dot_evL {S : List (Nat × Nat)} (hS : S.Nodup) (s u : Int) : ∀ L : List (Int × Nat × Nat), (∀ x ∈ L, x.2 ∈ S) → dotS S (coefL L) (mono s u) = evL L s u
  | [], _ => by
    exact dotS_zero (a := coefL []) (mono s u) (fun x _ => rfl)
  | x :: L, h => by
    have e : coefL (x :: L) = fun k => (if x.2 = k then x.1 else 0) + coefL L k := funext fun k => coefL_cons x L k
    rw [e, dotS_add, dot_single hS x.1 (h x (by simp)), dot_evL hS s u L fun y hy => h y (by simp [hy]), evL_cons]
/-- The exponents of degree d and less. -/
def expo : Nat → List (Nat × Nat)
  | 0 => [(0, 0)]
  | d + 1 => expo d ++ (List.range (d + 2)).map fun i => (i, d + 1 - i)
theorem expo_mem : ∀ d k, k ∈ expo d ↔ k.1 + k.2 ≤ d
  | 0, k => by
    rw [expo, List.mem_singleton]
    constructor
    · rintro rfl; simp
    · intro h; exact Prod.ext (by simp; omega) (by simp; omega)
  | d + 1, k => by
    rw [expo, List.mem_append, expo_mem d k, List.mem_map]
    constructor
    · rintro (h | ⟨i, hi, rfl⟩)
      · omega
      · have := List.mem_range.1 hi
        simp only; omega
    · intro h
      by_cases e : k.1 + k.2 ≤ d
      · exact .inl e
      · exact .inr ⟨k.1, List.mem_range.2 (by omega), Prod.ext rfl (by simp only; omega)⟩
theorem expo_nodup : ∀ d, (expo d).Nodup
  | 0 => by simp [expo]
  | d + 1 => by
    rw [expo, List.nodup_append]
    refine ⟨expo_nodup d, ?_, ?_⟩
    · unfold List.Nodup
      rw [List.pairwise_map]
      refine List.Pairwise.imp (fun {a b} hlt e => ?_) List.pairwise_lt_range
      have := congrArg Prod.fst e
      simp only at this
      omega
    · rintro a ha b hb rfl
      have h1 := (expo_mem d a).1 ha
      obtain ⟨i, hi, rfl⟩ := List.mem_map.1 hb
      have := List.mem_range.1 hi
      simp only at h1
      omega
theorem expo_len : ∀ d, 2 * (expo d).length = (d + 1) * (d + 2)
  | 0 => by simp [expo]
  | d + 1 => by
    rw [expo, List.length_append, List.length_map, List.length_range, Nat.mul_add, expo_len d]
    grind
theorem prodD_zero {p q : Int} : ∀ {D : List Nat}, (∃ e ∈ D, (e : Int) = p ∨ (e : Int) = q) → prodD p q D = 0
  | [], h => by obtain ⟨e, he, _⟩ := h; cases he
  | y :: D, h => by
    obtain ⟨e, he, h2⟩ := h
    rw [prodD]
    rcases List.mem_cons.1 he with rfl | he
    · rcases h2 with h2 | h2
      · rw [h2, Int.sub_self, Int.zero_mul, Int.zero_mul]
      · rw [h2, Int.sub_self, Int.mul_zero, Int.zero_mul]
    · rw [prodD_zero ⟨e, he, h2⟩, Int.mul_zero]
theorem prodD_ne {p q : Int} : ∀ {D : List Nat}, (∀ e ∈ D, (e : Int) ≠ p ∧ (e : Int) ≠ q) → prodD p q D ≠ 0
  | [], _ => by simp [prodD]
  | y :: D, h => by
    rw [prodD]
    have h1 := h y (by simp)
    exact Int.mul_ne_zero (Int.mul_ne_zero (by omega) (by omega)) (prodD_ne fun e he => h e (by simp [he]))
/-- The bound: pairs P i and sets D i of d states; P i meets each earlier D j, and not its own. -/
theorem pairs_bound {d t : Nat} (D : Nat → List Nat) (p q : Nat → Nat) (hd : ∀ i, i < t → (D i).length ≤ d) (h1 : ∀ i, i < t → p i ∉ D i ∧ q i ∉ D i) (h2 : ∀ j i, j < i → i < t → p i ∈ D j ∨ q i ∈ D j) : 2 * t ≤ (d + 1) * (d + 2) := by
  have hev : ∀ j i, j < t → dotS (expo d) (coefL (polyD (D j))) (mono ((p i : Int) + q i) ((p i : Int) * q i)) = prodD (p i) (q i) (D j) := fun j i hj => by
    rw [dot_evL (expo_nodup d) _ _ _ fun x hx => (expo_mem d x.2).2 (Nat.le_trans (polyD_deg (D j) x hx) (hd j hj)), evL_polyD]
  have := triangle (expo d).length t (expo d) (fun j => coefL (polyD (D j))) (fun i => mono ((p i : Int) + q i) ((p i : Int) * q i)) rfl
    (fun i hi => by
      rw [hev i i hi]
      refine prodD_ne fun e he => ⟨fun h => (h1 i hi).1 ?_, fun h => (h1 i hi).2 ?_⟩
      · rwa [← show e = p i by omega]
      · rwa [← show e = q i by omega])
    (fun j i hji hi => by
      rw [hev j i (by omega)]
      rcases h2 j i hji hi with h | h
      · exact prodD_zero ⟨_, h, .inl rfl⟩
      · exact prodD_zero ⟨_, h, .inr rfl⟩)
  have := expo_len d
  omega
end Go.Proofs.YtiiiinoappjhdaaDoor
namespace Go.Proofs.YtiiiinoappjhdaaDoor
open Go.RowKit Go.Shelf
theorem merge_bound {m : List (List Int)} (hv : validM m = true) {C : List Nat} (hC : C.Nodup) (hlt : ∀ c ∈ C, c < m.length) {p q t : Nat} (hp : p ∈ C) (hq : q ∈ C) (hpq : p ≠ q) (hd : mergeP m p q t)
    (hmin : ∀ a ∈ C, ∀ b ∈ C, a ≠ b → ∀ j, j < t → ¬ mergeP m a b j) : 2 * t ≤ (m.length - C.length + 1) * (m.length - C.length + 2) := by
  obtain ⟨u, hu, hul, hur⟩ := hd
  have hinj : ∀ i, i < t → ∀ a ∈ C, ∀ b ∈ C, a ≠ b → runM m a (u.take i) ≠ runM m b (u.take i) := fun i hi a ha b hb hab e =>
    hmin a ha b hb hab i hi ⟨u.take i, allw_take hu i, by rw [List.length_take]; omega, e⟩
  obtain ⟨I, hI⟩ : ∃ I : Nat → List Nat, I = fun i => C.map fun c => runM m c (u.take i) := ⟨_, rfl⟩
  have hIi : ∀ i, I i = C.map fun c => runM m c (u.take i) := fun i => by rw [hI]
  have hIm : ∀ i x, x ∈ I i ↔ ∃ c ∈ C, runM m c (u.take i) = x := fun i x => by rw [hIi, List.mem_map]
  obtain ⟨D, hD⟩ : ∃ D : Nat → List Nat, D = fun i => (List.range m.length).filter fun s => decide (s ∉ I i) := ⟨_, rfl⟩
  have hDm : ∀ i x, x ∈ D i ↔ x < m.length ∧ x ∉ I i := fun i x => by rw [hD]; simp [List.mem_filter]
  refine pairs_bound (d := m.length - C.length) D (fun i => runM m p (u.take i)) (fun i => runM m q (u.take i)) ?_ ?_ ?_
  · intro i hi
    have hnd : ((I i ++ D i).map fun x : Nat => (x : Int)).Nodup := by
      have h0 : (I i ++ D i).Nodup := by
        rw [List.nodup_append]
        refine ⟨?_, ?_, ?_⟩
        · rw [hIi]
          unfold List.Nodup
          rw [List.pairwise_map]
          exact List.Pairwise.imp_of_mem (fun {a b} ha hb hab => hinj i hi a ha b hb hab) hC
        · rw [hD]
          exact List.Pairwise.filter _ (List.nodup_range)
        · rintro a ha b hb rfl
          exact ((hDm i a).1 hb).2 ha
      unfold List.Nodup at h0 ⊢
      rw [List.pairwise_map]
      exact List.Pairwise.imp (fun {a b} hab e => hab (by omega)) h0
    have := nodup_len m.length _ hnd (fun x hx => by
      obtain ⟨y, hy, rfl⟩ := List.mem_map.1 hx
      have : y < m.length := by
        rcases List.mem_append.1 hy with h | h
        · obtain ⟨c, hc, rfl⟩ := (hIm i y).1 h
          exact runQ_lt hv (hlt c hc) (allw_take hu i)
        · exact ((hDm i y).1 h).1
      omega)
    rw [List.length_map, List.length_append, hIi, List.length_map] at this
    omega
  · intro i hi
    exact ⟨fun h => ((hDm i _).1 h).2 ((hIm i _).2 ⟨p, hp, rfl⟩), fun h => ((hDm i _).1 h).2 ((hIm i _).2 ⟨q, hq, rfl⟩)⟩
  · intro j i hji hi
    apply Classical.byContradiction
    intro hno
    have hpl := runQ_lt hv (hlt p hp) (allw_take hu i)
    have hql := runQ_lt hv (hlt q hq) (allw_take hu i)
    have hpI : runM m p (u.take i) ∈ I j := Classical.byContradiction fun h => hno (.inl ((hDm j _).2 ⟨hpl, h⟩))
    have hqI : runM m q (u.take i) ∈ I j := Classical.byContradiction fun h => hno (.inr ((hDm j _).2 ⟨hql, h⟩))
    obtain ⟨a, ha, ea⟩ := (hIm j _).1 hpI
    obtain ⟨b, hb, eb⟩ := (hIm j _).1 hqI
    have hab : a ≠ b := fun e => by
      subst e
      exact hinj i hi p hp q hq hpq (ea.symm.trans eb)
    refine hmin a ha b hb hab (j + (t - i)) (by omega) ⟨u.take j ++ u.drop i, all_append_ok (allw_take hu j) (allw_drop hu i), ?_, ?_⟩
    · rw [List.length_append, List.length_take, List.length_drop]; omega
    · rw [runQ_append, runQ_append, ea, eb, run_split, run_split]
      exact hur
/-- Summed over the sizes. -/
theorem steps_sum {n k k' len t : Nat} (h : 6 * len ≤ (n - k) * (n - k + 1) * (n - k + 2)) (ht : 2 * t ≤ (n - k + 1) * (n - k + 2)) (hk : k' < k) (hkn : k ≤ n) : 6 * (len + t) ≤ (n - k') * (n - k' + 1) * (n - k' + 2) := by
  obtain ⟨d, hd⟩ : ∃ d, d = n - k := ⟨_, rfl⟩
  rw [← hd] at h ht
  have h1 : (d + 1) * (d + 1 + 1) * (d + 1 + 2) ≤ (n - k') * (n - k' + 1) * (n - k' + 2) :=
    Nat.mul_le_mul (Nat.mul_le_mul (by omega) (by omega)) (by omega)
  have h2 : (d + 1) * (d + 1 + 1) * (d + 1 + 2) = d * (d + 1) * (d + 2) + 3 * ((d + 1) * (d + 2)) := by grind
  omega
theorem steps_most {n len : Nat} (hn : 1 ≤ n) (h : 6 * len ≤ (n - 1) * (n - 1 + 1) * (n - 1 + 2)) : len ≤ (n * n * n - n) / 6 := by
  obtain ⟨d, rfl⟩ : ∃ d, n = d + 1 := ⟨n - 1, by omega⟩
  have h2 : (d + 1) * (d + 1) * (d + 1) = (d + 1 - 1) * (d + 1 - 1 + 1) * (d + 1 - 1 + 2) + (d + 1) := by
    rw [show d + 1 - 1 = d by omega]; grind
  omega
end Go.Proofs.YtiiiinoappjhdaaDoor
namespace Go.Proofs.YtiiiinoappjhdaaDoor
open Go.RowKit Go.Shelf
def soonStep (m : List (List Int)) (best x : Nat × Nat) : Nat × Nat := if x.1 < x.2 ∧ (best = (0, 0) ∨ mlen m x.1 x.2 < mlen m best.1 best.2) then x else best
/-- The first of the pairs whose shortest words are shortest; (0, 0): there is no pair. -/
def soonOf (m : List (List Int)) (Q : List (Nat × Nat)) : Nat × Nat := Q.foldl (soonStep m) (0, 0)
def soonOk (m : List (List Int)) (Q : List (Nat × Nat)) (r : Nat × Nat) : Prop := (r = (0, 0) ∧ ∀ x ∈ Q, ¬ x.1 < x.2) ∨ (r ∈ Q ∧ r.1 < r.2 ∧ ∀ x ∈ Q, x.1 < x.2 → mlen m r.1 r.2 ≤ mlen m x.1 x.2)
theorem soonOk_step {m : List (List Int)} {Q : List (Nat × Nat)} {r : Nat × Nat} (h : soonOk m Q r) (x : Nat × Nat) : soonOk m (Q ++ [x]) (soonStep m r x) := by
  unfold soonStep
  by_cases e : x.1 < x.2 ∧ (r = (0, 0) ∨ mlen m x.1 x.2 < mlen m r.1 r.2)
  · rw [if_pos e]
    refine .inr ⟨by simp, e.1, fun y hy hlt => ?_⟩
    rcases List.mem_append.1 hy with hy | hy
    · rcases h with ⟨_, h2⟩ | ⟨_, h2, h3⟩
      · exact absurd hlt (h2 y hy)
      · have := h3 y hy hlt
        rcases e.2 with e2 | e2
        · rw [e2] at h2; exact absurd h2 (Nat.lt_irrefl _)
        · omega
    · obtain rfl := List.mem_singleton.1 hy
      exact Int.le_refl _
  · rw [if_neg e]
    rcases h with ⟨h1, h2⟩ | ⟨h1, h2, h3⟩
    · refine .inl ⟨h1, fun y hy => ?_⟩
      rcases List.mem_append.1 hy with hy | hy
      · exact h2 y hy
      · obtain rfl := List.mem_singleton.1 hy
        exact fun hlt => e ⟨hlt, .inl h1⟩
    · refine .inr ⟨List.mem_append_left _ h1, h2, fun y hy hlt => ?_⟩
      rcases List.mem_append.1 hy with hy | hy
      · exact h3 y hy hlt
      · obtain rfl := List.mem_singleton.1 hy
        exact Int.not_lt.1 fun hl => e ⟨hlt, .inr hl⟩
theorem soonOf_snoc (m : List (List Int)) (Q : List (Nat × Nat)) (x : Nat × Nat) : soonOf m (Q ++ [x]) = soonStep m (soonOf m Q) x := by simp [soonOf, List.foldl_append]
theorem soonOf_ok (m : List (List Int)) (Q : List (Nat × Nat)) : soonOk m Q (soonOf m Q) := by
  have : ∀ (Q : List (Nat × Nat)) (k : Nat), k ≤ Q.length → soonOk m (Q.take k) (soonOf m (Q.take k)) := by
    intro Q k
    induction k with
    | zero => exact fun _ => .inl ⟨rfl, fun x hx => by simp at hx⟩
    | succ k ih =>
      intro hk
      rw [List.take_succ_eq_append_getElem (by omega), soonOf_snoc]
      exact soonOk_step (ih (by omega)) _
  have h := this Q Q.length (Nat.le_refl _)
  rwa [List.take_length] at h
/-- All pairs of a list, row by row. -/
def prodL (C : List Nat) : List (Nat × Nat) := C.flatMap fun p => C.map fun q => (p, q)
theorem prodL_mem {C : List Nat} {x : Nat × Nat} : x ∈ prodL C ↔ x.1 ∈ C ∧ x.2 ∈ C := by
  unfold prodL
  simp only [List.mem_flatMap, List.mem_map]
  constructor
  · rintro ⟨p, hp, q, hq, rfl⟩; exact ⟨hp, hq⟩
  · rintro ⟨h1, h2⟩; exact ⟨x.1, h1, x.2, h2, rfl⟩
section
variable {m : List (List Int)} (hv : validM m = true) {C : List Nat} (hC : C.Nodup) (hlt : ∀ c ∈ C, c < m.length) (h2 : 2 ≤ C.length)
include hv hC hlt h2
/-- The pair is one of the set, its word merges it, and is short. -/
theorem greedy_pair (hall : ∀ p q, p < q → q < m.length → ∃ k, mergeP m p q k) : ∃ t, (soonOf m (prodL C)).1 ∈ C ∧ (soonOf m (prodL C)).2 ∈ C ∧ (soonOf m (prodL C)).1 < (soonOf m (prodL C)).2 ∧ mdist m (soonOf m (prodL C)).1 (soonOf m (prodL C)).2 t ∧ 2 * t ≤ (m.length - C.length + 1) * (m.length - C.length + 2) := by
  generalize hr : soonOf m (prodL C) = r
  have hok := soonOf_ok m (prodL C)
  rw [hr] at hok
  rcases hok with ⟨_, hno⟩ | ⟨h3, h4, h5⟩
  · exfalso
    match C, hC, h2 with
    | a :: b :: l, hC, _ =>
      have hne : a ≠ b := fun e => by
        subst e
        exact (List.nodup_cons.1 hC).1 (by simp)
      have := hno (a, b) (prodL_mem.2 ⟨by simp, by simp⟩)
      have := hno (b, a) (prodL_mem.2 ⟨by simp, by simp⟩)
      simp only at *
      omega
  · obtain ⟨a1, a2⟩ := prodL_mem.1 h3
    obtain ⟨k, hk⟩ := hall r.1 r.2 h4 (hlt _ a2)
    obtain ⟨t, _, hd⟩ := mdist_some hk
    refine ⟨t, a1, a2, h4, hd, merge_bound hv hC hlt a1 a2 (by omega) hd.1 fun a ha b hb hab j hj hm => ?_⟩
    have hle : mlen m r.1 r.2 ≤ mlen m a b := by
      rcases Nat.lt_or_ge a b with h | h
      · exact h5 (a, b) (prodL_mem.2 ⟨ha, hb⟩) h
      · rw [mlen_symm hv (hlt a ha) (hlt b hb)]
        exact h5 (b, a) (prodL_mem.2 ⟨hb, ha⟩) (by simp only; omega)
    obtain ⟨i, hi, hdi⟩ := mdist_some hm
    rw [mlen_of hv (hlt _ a1) (hlt _ a2) hd, mlen_of hv (hlt a ha) (hlt b hb) hdi] at hle
    omega
end
/-- A word that merges two states of a set leads to fewer states. -/
theorem image_less {m : List (List Int)} {C C' : List Nat} (hC' : C'.Nodup) {u : List Int} (him : ∀ x ∈ C', ∃ c ∈ C, runM m c u = x) {p q : Nat} (hp : p ∈ C) (hq : q ∈ C) (hpq : p ≠ q) (hu : runM m p u = runM m q u) : C'.length < C.length := by
  have h1 := nodup_sub (A := C') (B := (C.erase q).map fun c => runM m c u) hC' fun x hx => by
    obtain ⟨c, hc, rfl⟩ := him x hx
    by_cases e : c = q
    · subst e
      exact List.mem_map.2 ⟨p, (List.mem_erase_of_ne hpq).2 hp, hu⟩
    · exact List.mem_map.2 ⟨c, (List.mem_erase_of_ne e).2 hc, rfl⟩
  rw [List.length_map, List.length_erase_of_mem hq] at h1
  have := List.length_pos_of_mem hq
  omega
end Go.Proofs.YtiiiinoappjhdaaDoor
namespace Go.Proofs.YtiiiinoappjhdaaDoor
open Go.RowKit Go.Shelf
attribute [local go_sem] Oper.semAt_some
/-- The four boxes of the function. -/
structure SoonB (w : World) (S B : Nat) (best : Nat × Nat) (W : World) : Prop where
  set : W.heap[w.heap.size]? = some (.cells #[.int .u64 S] 57 (0, 0))
  map : W.heap[w.heap.size + 1]? = some (.cells #[.map (some B)] 75 (0, 0))
  res : W.heap[w.heap.size + 1 + 1]? = some (.cells #[.int .i64 0, .int .i64 0] 80 (0, 0))
  best : W.heap[w.heap.size + 1 + 1 + 1]? = some (.cells #[.int .i64 best.1, .int .i64 best.2] 80 (0, 0))
  below : Below w.heap.size w W
theorem SoonB.keep {w W W' : World} {S B : Nat} {best : Nat × Nat} (h : SoonB w S B best W) (a1 : W'.os = W.os) (a2 : W'.tape = W.tape) (a3 : W'.output = W.output) (a4 : W.heap.size ≤ W'.heap.size) (hk : ∀ k, k < w.heap.size + 1 + 1 + 1 + 1 → W'.heap[k]? = W.heap[k]?) : SoonB w S B best W' := by
  obtain ⟨h1, h2, h3, h4, h5⟩ := h
  refine ⟨(hk _ (by omega)).trans h1, (hk _ (by omega)).trans h2, (hk _ (by omega)).trans h3, (hk _ (by omega)).trans h4, ⟨a1.trans h5.os, a2.trans h5.tape, a3.trans h5.output, Nat.le_trans h5.size a4, fun k hk2 => (hk k (by omega)).trans (h5.block k hk2)⟩⟩
/-- What the inner loop's rounds keep of the outer one's. -/
structure SoonI (w : World) (S B p bp N : Nat) (Xo : Blocks) (Wb : World) (best : Nat × Nat) (W : World) : Prop where
  boxes : SoonB w S B best W
  pbox : W.heap[bp]? = some (.cells #[.int .i64 p] 3 (0, 0))
  kf : KeepsFrom (w.heap.size + 1 + 1 + 1 + 1) Wb W
  kp : Keep w.heap.size Xo Wb W
theorem kf_drewN (B : Nat) (W : World) (n : Nat) : KeepsFrom B W (W.drewN n) := kf_below (below_dr W n)
theorem SoonI.drew {w : World} {S B p bp N : Nat} {Xo : Blocks} {Wb W : World} {best : Nat × Nat} (h : SoonI w S B p bp N Xo Wb best W) (n : Nat) : SoonI w S B p bp N Xo Wb best (W.drewN n) :=
  ⟨h.boxes.keep rfl rfl rfl (Nat.le_refl _) fun _ _ => rfl, h.pbox, h.kf.trans (kf_drewN _ _ _), h.kp.trans (Keep.of_below (below_dr W n))⟩
end Go.Proofs.YtiiiinoappjhdaaDoor
namespace Go.Proofs.YtiiiinoappjhdaaDoor
open Go.RowKit Go.Shelf
/-- The word that merges the pair that is merged soonest. -/
def stepW (m : List (List Int)) (S : Nat) : List Int := mW m (mlen m (soonOf m (prodL (elems S))).1 (soonOf m (prodL (elems S))).2).toNat (soonOf m (prodL (elems S))).1 (soonOf m (prodL (elems S))).2
/-- Word by word, until one state is left. -/
def greedyW (m : List (List Int)) : Nat → Nat → List Int
  | 0, _ => []
  | f + 1, S => if (elems S).length ≤ 1 then [] else stepW m S ++ greedyW m f (imgWord m S (stepW m S))
/-- All pairs of states are merged by some word. -/
def allMerge (m : List (List Int)) : Prop := ∀ p q, p < q → q < m.length → ∃ k, mergeP m p q k
theorem elems_nodup (S : Nat) : (elems S).Nodup := List.Pairwise.imp (fun {a b} h => Nat.ne_of_lt h) (elems_sorted S)
theorem greedy_step {m : List (List Int)} (hv : validM m = true) (hall : allMerge m) {S : Nat} (hS : S < 2 ^ m.length) (h2 : 2 ≤ (elems S).length) :
    ∃ t r, soonOf m (prodL (elems S)) = r ∧ r.1 ≤ r.2 ∧ r.2 < m.length ∧ mdist m r.1 r.2 t ∧ stepW m S = mW m t r.1 r.2 ∧ (stepW m S).length = t ∧ (stepW m S).all (inB 0 ((letters m : Int) - 1)) = true ∧
      2 * t ≤ (m.length - (elems S).length + 1) * (m.length - (elems S).length + 2) ∧ imgWord m S (stepW m S) < 2 ^ m.length ∧ (elems (imgWord m S (stepW m S))).length < (elems S).length ∧ 1 ≤ (elems (imgWord m S (stepW m S))).length ∧ (elems S).length ≤ m.length := by
  have hm : m.length ≤ 64 := by have := (valid_parts hv).2.1; omega
  have hlt : ∀ c ∈ elems S, c < m.length := fun c hc => elems_lt hS hc
  obtain ⟨t, a1, a2, a3, a4, a5⟩ := greedy_pair hv (elems_nodup S) hlt h2 hall
  have b1 := hlt _ a1
  have b2 := hlt _ a2
  have e1 : stepW m S = mW m t (soonOf m (prodL (elems S))).1 (soonOf m (prodL (elems S))).2 := by
    unfold stepW
    rw [mlen_of hv b1 b2 a4]
    rfl
  obtain ⟨c1, c2, c3⟩ := mW_ok hv t _ _ b1 b2 a4
  rw [← e1] at c1 c2 c3
  have hI := imgWord_lt hv (stepW m S) S hS c1
  have hmem : ∀ s, s ∈ elems S → runM m s (stepW m S) ∈ elems (imgWord m S (stepW m S)) := fun s hs => by
    have hb := (mem_elems _ _).1 hs
    have h1 := (imgWord_mem hv (stepW m S) S (runM m s (stepW m S)) hS c1).2 ⟨s, hlt s hs, hb.2, rfl⟩
    have hr := runM_lt hv (stepW m S) s (hlt s hs) c1
    exact (mem_elems _ _).2 ⟨by omega, h1⟩
  refine ⟨t, _, rfl, Nat.le_of_lt a3, b2, a4, e1, c2, c1, a5, hI, ?_, List.length_pos_of_mem (hmem _ a1), ?_⟩
  · refine image_less (u := stepW m S) (m := m) (elems_nodup _) (fun x hx => ?_) a1 a2 (Nat.ne_of_lt a3) c3
    obtain ⟨s, h1, h2, h3⟩ := (imgWord_mem hv (stepW m S) S x hS c1).1 ((mem_elems _ _).1 hx).2
    exact ⟨s, (mem_elems _ _).2 ⟨by omega, h2⟩, h3⟩
  · have := nodup_sub (A := elems S) (B := List.range m.length) (elems_nodup S) (fun x hx => List.mem_range.2 (hlt x hx))
    simpa using this
theorem greedy_end {m : List (List Int)} {S : Nat} (h : (elems S).length ≤ 1) : ∀ f, greedyW m f S = []
  | 0 => rfl
  | f + 1 => by rw [greedyW, if_pos h]
theorem greedy_more {m : List (List Int)} {S f : Nat} (h : ¬ (elems S).length ≤ 1) : greedyW m (f + 1) S = stepW m S ++ greedyW m f (imgWord m S (stepW m S)) := by rw [greedyW, if_neg h]
/-- The word is one, leads to one state, and is short. -/
theorem greedy_ok {m : List (List Int)} (hv : validM m = true) (hall : allMerge m) : ∀ f S len, S < 2 ^ m.length → 1 ≤ (elems S).length → (elems S).length ≤ f + 1 →
    6 * len ≤ (m.length - (elems S).length) * (m.length - (elems S).length + 1) * (m.length - (elems S).length + 2) →
    (greedyW m f S).all (inB 0 ((letters m : Int) - 1)) = true ∧ (elems (imgWord m S (greedyW m f S))).length = 1 ∧ 6 * (len + (greedyW m f S).length) ≤ (m.length - 1) * (m.length - 1 + 1) * (m.length - 1 + 2)
  | 0, S, len, hS, h1, hf, hl => by
    have e : (elems S).length = 1 := by omega
    rw [e] at hl
    exact ⟨rfl, by simpa [greedyW, imgWord] using e, by simpa [greedyW] using hl⟩
  | f + 1, S, len, hS, h1, hf, hl => by
    by_cases h : (elems S).length ≤ 1
    · have e : (elems S).length = 1 := by omega
      rw [e] at hl
      rw [greedy_end h]
      exact ⟨rfl, by simpa [imgWord] using e, by simpa using hl⟩
    · obtain ⟨t, r, b1, b2, b3, b4, b5, b6, b7, b8, b9, b10, b11, b12⟩ := greedy_step hv hall hS (by omega)
      have hs := steps_sum (k' := (elems (imgWord m S (stepW m S))).length) hl b8 b10 b12
      obtain ⟨c1, c2, c3⟩ := greedy_ok hv hall f (imgWord m S (stepW m S)) (len + t) b9 b11 (by omega) hs
      rw [greedy_more h]
      refine ⟨by rw [List.all_append, b7, c1]; rfl, by rw [imgWord_append]; exact c2, ?_⟩
      rw [List.length_append, b6]
      omega
/-- The whole word, from all states. -/
def resetW (m : List (List Int)) : List Int := greedyW m m.length (2 ^ m.length - 1)
theorem elems_below (n : Nat) (hn : n ≤ 64) : elems (2 ^ n - 1) = List.range n := by
  rw [elems_range (n := n) (by have := Nat.two_pow_pos n; omega) hn]
  refine List.filter_eq_self.2 fun a ha => ?_
  rw [testBit_below]
  simpa using ha
theorem resetW_ok {m : List (List Int)} (hv : validM m = true) (hall : allMerge m) :
    (resetW m).all (inB 0 ((letters m : Int) - 1)) = true ∧ (elems (imgWord m (2 ^ m.length - 1) (resetW m))).length = 1 ∧ (resetW m).length ≤ (m.length * m.length * m.length - m.length) / 6 := by
  obtain ⟨p1, p2, -⟩ := valid_parts hv
  have hel := elems_below m.length (by omega)
  have hpow := Nat.two_pow_pos m.length
  obtain ⟨c1, c2, c3⟩ := greedy_ok hv hall m.length (2 ^ m.length - 1) 0 (by omega) (by rw [hel]; simpa using p1) (by rw [hel]; simp) (Nat.zero_le _)
  exact ⟨c1, c2, steps_most p1 (by rw [Nat.zero_add] at c3; exact c3)⟩
end Go.Proofs.YtiiiinoappjhdaaDoor
namespace Go.Proofs.YtiiiinoappjhdaaDoor
open Go.RowKit Go.Shelf
theorem LenMap.len {m : List (List Int)} {w : World} {B : Nat} (hL : LenMap m w B) : ∃ c : Nat, (∀ ty, (Builtin.len_ #[75] ty #[.map (some B)]).run Tryd.prog w = .ok (.int .i64 c) w) ∧ (m.length * (m.length + 1) ≤ 2 * c ↔ allMerge m) ∧ c ≤ 3600 := by
  obtain ⟨n, V, T, c, h1, h2, h3, h4⟩ := hL
  exact ⟨c, fun ty => h1.len Tryd.underlying75 ty, h3, h4⟩
end Go.Proofs.YtiiiinoappjhdaaDoor
namespace Go.Proofs.YtiiiinoappjhdaaDoor
open Go.RowKit Go.Shelf
theorem ints_at {W : World} {ad : Addr} {n c : Nat} {l : List Int} (h : Ints W (.slice (some ad) n c) l) : ∀ j u, (l.map fun x => Value.int .i64 x)[j]? = some u → W.cell? (ad.add j) = some u := by
  intro j u hu
  obtain ⟨A, cap, hv, _, hc⟩ := h
  have hj : j < l.length := by
    have := (List.getElem?_eq_some_iff.1 hu).1
    simpa using this
  obtain ⟨b, off, hA, hcell⟩ := hc j hj
  simp only [Value.slice.injEq] at hv
  obtain ⟨rfl, -, -⟩ := hv
  cases hA
  have e : (⟨b, off, none⟩ : Addr).add j = ⟨b, off + j, none⟩ := by
    by_cases h0 : j = 0
    · subst h0; simp [Addr.add]
    · simp [Addr.add, h0]
  rw [e, hcell]
  simp only [List.getElem?_map, List.getElem?_eq_getElem hj, Option.map_some, Option.some.injEq] at hu
  rw [← hu, getD_elem l j hj]
/-- 'append(row, list...)', the list nil or not. -/
theorem wpList_append_list {w : World} {ops : Array Oper} {rest : List Oper} {o : Oper} {a : Act} {Q : Exit → Act → World → Prop} (hgd : o.guard = none) (s x : Operand)
    (ho : o.op = .call { callee := .builtin .append, args := #[s, x], argTypes := #[25, 25] }) (base n : Nat) (v : Value) (xs : List Value) (ao : Option Addr) (c : Nat) (l : List Int)
    (hs : a.eval s = v) (hown : w.ownsRow base 3 1 v n xs) (hx : a.eval x = .slice ao l.length c) (hc : ao = none → c = 0) (hI : Ints w (.slice ao l.length c) l) (hb : base ≤ w.heap.size) (hlen : n + l.length ≤ 100000)
    (h : ∀ v' w', w'.ownsRow base 3 1 v' (n + l.length) (xs ++ l.map fun x => .int .i64 x) → Below base w w' → wpList Tryd.prog ops Q rest (a.put o.dst v') w') :
    wpList Tryd.prog ops Q (o :: rest) a w := by
  obtain ⟨j0, hj, hy0, hy1, hy2⟩ := info_parts infoInt
  cases ao with
  | none =>
    obtain rfl := hc rfl
    have hl : l = [] := by
      obtain ⟨A, cap, hv, _, hcc⟩ := hI
      cases l with
      | nil => rfl
      | cons y l =>
        obtain ⟨b, off, hA, _⟩ := hcc 0 (by simp)
        simp only [Value.slice.injEq] at hv
        rw [← hv.1] at hA
        cases hA
    subst hl
    refine wpList_append_own_none hgd s x 25 ho base 3 j0 1 Tryd.underlying25 hj v n xs hs hown hx ?_
    exact h v w (by simpa using hown) (Below.refl _ _)
  | some ad =>
    refine wpList_append_own_at w hgd s x 25 ho base 3 j0 (.int .i64 0) 1 8 Tryd.underlying25 hj hy0 hy1 hy2 rfl (by decide) v n xs hs hown ad l.length c (l.map fun x => .int .i64 x) hx (by simp) (ints_at hI) (by simp [Value.oneCell']) (by unfold maxLen; omega) (by omega) hb ?_
    intro v' w' h1 h2 _ _
    refine h v' w' h1 ((Below.refl _ _).grown h2 hb (fun k hk => ?_))
    rcases hown.2 with ⟨rfl, _⟩ | ⟨g, cap, cur, rfl, hg, _⟩
    · cases hk
    · cases hk; exact hg
end Go.Proofs.YtiiiinoappjhdaaDoor
namespace Go.Proofs.YtiiiinoappjhdaaDoor
open Go.RowKit Go.Shelf
/-- The value v is a list of k rows; row p lies in block B p and holds f p 0, .., f p (n - 1). -/
structure Tbl (W : World) (n₀ : Nat) (v : Value) (n k : Nat) (B : Nat → Nat) (f : Nat → Nat → Int) : Prop where
  outer : W.ownsRow n₀ 25 1 v k ((List.range k).map fun p => .slice (some ⟨B p, 0, none⟩) n n)
  inner : ∀ p, p < k → W.ownsRow n₀ 3 1 (.slice (some ⟨B p, 0, none⟩) n n) n ((Lf n (f p)).map fun x => .int .i64 x)
  apart : ∀ p, p < k → v.ownBlock ≠ some (B p)
  inj : ∀ p q, p < k → q < k → B p = B q → p = q
section
variable {W W' : World} {n₀ n k : Nat} {v : Value} {B : Nat → Nat} {f : Nat → Nat → Int}
theorem Tbl.empty (W : World) (n₀ n : Nat) (B : Nat → Nat) (f : Nat → Nat → Int) : Tbl W n₀ (.slice none 0 0) n 0 B f :=
  ⟨World.ownsRow_nil _ _ _ _, fun p hp => by omega, fun p hp => by omega, fun p q hp => by omega⟩
theorem Tbl.kept (h : Tbl W n₀ v n k B f) (hk : ∀ b, n₀ ≤ b → b < W.heap.size → W'.heap[b]? = W.heap[b]?) : Tbl W' n₀ v n k B f :=
  ⟨owns_kept h.outer hk, fun p hp => owns_kept (h.inner p hp) hk, h.apart, h.inj⟩
theorem Tbl.below (h : Tbl W n₀ v n k B f) (hb : Below W.heap.size W W') : Tbl W' n₀ v n k B f := h.kept fun b _ hs => hb.block b hs
theorem Tbl.congr {g : Nat → Nat → Int} (h : Tbl W n₀ v n k B f) (e : ∀ p q, p < k → q < n → f p q = g p q) : Tbl W n₀ v n k B g :=
  ⟨h.outer, fun p hp => by rw [← Lf_congr (n := n) (f := f p) (g := g p) fun q hq => e p q hp hq]; exact h.inner p hp, h.apart, h.inj⟩
/-- One row more. -/
theorem Tbl.push {v' : Value} {b : Nat} (h : Tbl W n₀ v n k B f) (ho : W'.ownsRow n₀ 25 1 v' (k + 1) (((List.range k).map fun p => .slice (some ⟨B p, 0, none⟩) n n) ++ [.slice (some ⟨b, 0, none⟩) n n]))
    (hr : W'.ownsRow n₀ 3 1 (.slice (some ⟨b, 0, none⟩) n n) n ((Lf n (f k)).map fun x => .int .i64 x)) (hk : ∀ c, n₀ ≤ c → c < W.heap.size → v.ownBlock ≠ some c → W'.heap[c]? = W.heap[c]?)
    (hv : ∀ p, p < k → v'.ownBlock ≠ some (B p)) (hvb : v'.ownBlock ≠ some b) (hb : ∀ p, p < k → B p ≠ b) : Tbl W' n₀ v' n (k + 1) (fun p => if p = k then b else B p) f := by
  have hne : ∀ p, p < k → p ≠ k := fun p hp => by omega
  refine ⟨?_, fun p hp => ?_, fun p hp => ?_, fun p q hp hq e => ?_⟩
  · refine cast ?_ ho
    congr 1
    rw [List.range_succ, List.map_append]
    congr 1
    · refine List.map_congr_left fun p hp => ?_
      rw [if_neg (hne p (List.mem_range.1 hp))]
    · simp
  · by_cases e : p = k
    · subst e; simp only [if_true]; exact hr
    · simp only [if_neg e]
      have hp' : p < k := by omega
      obtain ⟨h1, h2⟩ := h.inner p hp'
      refine ⟨h1, ?_⟩
      rcases h2 with h2 | ⟨g, cap, cur, hv2, hB, hh, r⟩
      · exact .inl h2
      · have hg : g = B p := by
          simp only [Value.slice.injEq, Option.some.injEq, Addr.mk.injEq, and_true, true_and] at hv2
          exact hv2.1.symm
        exact .inr ⟨g, cap, cur, hv2, hB, by rw [hk g hB (lt_of_block hh) (by rw [hg]; exact h.apart p hp')]; exact hh, r⟩
  · by_cases e : p = k
    · subst e; simp only [if_true]; exact hvb
    · simp only [if_neg e]; exact hv p (by omega)
  · by_cases e1 : p = k <;> by_cases e2 : q = k
    · omega
    · simp only [if_pos e1, if_neg e2] at e; exact absurd e.symm (hb q (by omega))
    · simp only [if_neg e1, if_pos e2] at e; exact absurd e (hb p (by omega))
    · simp only [if_neg e1, if_neg e2] at e; exact h.inj p q (by omega) (by omega) e
/-- .. by an append whose element was boxed. -/
theorem Tbl.pushed {w5 : World} {v' : Value} {b : Nat} {o : Obj} (h : Tbl W n₀ v n k B f) (hr : W.ownsRow n₀ 3 1 (.slice (some ⟨b, 0, none⟩) n n) n ((Lf n (f k)).map fun x => .int .i64 x))
    (hvb : v.ownBlock ≠ some b) (hb : ∀ p, p < k → B p ≠ b)
    (hown : w5.ownsRow n₀ 25 1 v' (k + 1) (((List.range k).map fun p => .slice (some ⟨B p, 0, none⟩) n n) ++ [.slice (some ⟨b, 0, none⟩) n n])) (hgrow : (W.alloc o).grownBy w5 v.ownBlock)
    (hat : v'.ownBlock = v.ownBlock ∨ v'.ownBlock = some (W.alloc o).heap.size) : Tbl w5 n₀ v' n (k + 1) (fun p => if p = k then b else B p) f := by
  have hbl := ownq_lt hr
  refine h.push hown ((hr.alloc o).kept hgrow (.inr fun e => hvb (by simpa [Value.ownBlock] using e.symm))) (fun c _ hc hne => ?_) (fun p hp e => ?_) (fun e => ?_) hb
  · rw [hgrow.block c (by simp; omega) (fun e => hne e.symm)]
    exact Below.heap_alloc _ _ _ hc
  · have := (ownq_lt (h.inner p hp)).2
    rcases hat with e2 | e2
    · exact h.apart p hp (e2 ▸ e)
    · rw [e2] at e
      simp at e
      omega
  · rcases hat with e2 | e2
    · exact hvb (e2 ▸ e)
    · rw [e2] at e
      simp at e
      omega
variable {g c : Nat}
theorem Tbl.cell (h : Tbl W n₀ (.slice (some ⟨g, 0, none⟩) k c) n k B f) {p : Nat} (hp : p < k) : W.cell? ⟨g, p, none⟩ = some (.slice (some ⟨B p, 0, none⟩) n n) := by
  rw [h.outer.cellAt p (by omega)]
  simp [List.getElem?_map, List.getElem?_range hp]
theorem Tbl.num (h : Tbl W n₀ v n k B f) {p q : Nat} (hp : p < k) (hq : q < n) : W.cell? ⟨B p, q, none⟩ = some (.int .i64 (f p q)) := by
  rw [(h.inner p hp).cellAt q (by omega), Lf_cell _ hq]
theorem Tbl.free (h : Tbl W n₀ v n k B f) {p : Nat} (hp : p < k) (q : Nat) : W.frozen? ⟨B p, q, none⟩ = false := (h.inner p hp).frozenAt q
theorem Tbl.ge (h : Tbl W n₀ v n k B f) {p : Nat} (hp : p < k) : n₀ ≤ B p ∧ B p < W.heap.size := ownq_lt (h.inner p hp)
/-- A number is stored. -/
theorem Tbl.set (h : Tbl W n₀ v n k B f) {p q : Nat} (hp : p < k) (x : Int) : Tbl (W.setCell ⟨B p, q, none⟩ (.int .i64 x)) n₀ v n k B (fun a b => if a = p ∧ b = q then x else f a b) := by
  obtain ⟨h1, h2⟩ := (h.inner p hp).stored q (.int .i64 x)
  refine ⟨h.outer.kept h2 (.inr (h.apart p hp)), fun a ha => ?_, h.apart, h.inj⟩
  by_cases e : a = p
  · subst e
    rw [← List.map_set (f := fun x => Value.int .i64 x), Lf_set] at h1
    refine cast ?_ h1
    congr 2
    exact Lf_congr fun i _ => by simp
  · have : (Lf n fun b => if a = p ∧ b = q then x else f a b) = Lf n (f a) := Lf_congr fun i _ => by rw [if_neg (fun h => e h.1)]
    rw [show (fun b => if a = p ∧ b = q then x else f a b) = fun b => (fun a b => if a = p ∧ b = q then x else f a b) a b from rfl] at this
    rw [this]
    refine (h.inner a ha).kept h2 (.inr ?_)
    intro e2
    simp only [Value.ownBlock, Option.some.injEq] at e2
    exact e (h.inj a p ha hp e2)
end
/-- The reference's table within round k + 1: the pairs before (p, q) are done. -/
def mixT (m : List (List Int)) (k p q a b : Nat) : Int := if a < p ∨ (a = p ∧ b < q) then mlenAt m (k + 1) a b else mlenAt m k a b
theorem mlenAt_keeps (m : List (List Int)) (k p q : Nat) : mlenAt m (k + 1) p q = (k : Int) ↔ mlenAt m k p q = (k : Int) := by
  have h := mlenAt_range m k p q
  simp only [mlenAt]
  by_cases e : 0 ≤ mlenAt m k p q
  · rw [if_pos e]
  · rw [if_neg e]
    split
    · constructor <;> intro h2 <;> omega
    · constructor <;> intro h2 <;> omega
theorem mixT_keeps (m : List (List Int)) (k p q a b : Nat) : mixT m k p q a b = (k : Int) ↔ mlenAt m k a b = (k : Int) := by
  unfold mixT
  split
  · exact mlenAt_keeps m k a b
  · exact Iff.rfl
theorem mixT_range (m : List (List Int)) (k p q a b : Nat) : -1 ≤ mixT m k p q a b ∧ mixT m k p q a b ≤ k + 1 := by
  have h1 := mlenAt_range m k a b
  have h2 := mlenAt_range m (k + 1) a b
  unfold mixT
  split <;> omega
theorem mixT_step (m : List (List Int)) (k p q a b : Nat) : mixT m k p (q + 1) a b = if a = p ∧ b = q then mlenAt m (k + 1) p q else mixT m k p q a b := by
  unfold mixT
  by_cases e : a = p ∧ b = q
  · rw [if_pos e, if_pos (by omega), e.1, e.2]
  · rw [if_neg e]
    by_cases e2 : a < p ∨ (a = p ∧ b < q)
    · rw [if_pos e2, if_pos (by omega)]
    · rw [if_neg e2, if_neg (by omega)]
theorem mixT_row (m : List (List Int)) {n k p a b : Nat} (hb : b < n) : mixT m k p n a b = mixT m k (p + 1) 0 a b := by
  unfold mixT
  by_cases e2 : a < p ∨ (a = p ∧ b < n)
  · rw [if_pos e2, if_pos (by omega)]
  · rw [if_neg e2, if_neg (by omega)]
theorem mixT_at (m : List (List Int)) (k p q : Nat) : mixT m k p q p q = mlenAt m k p q := by
  unfold mixT
  rw [if_neg (by omega)]
end Go.Proofs.YtiiiinoappjhdaaDoor
namespace Go.Proofs.YtiiiinoappjhdaaDoor
open Go.RowKit Go.Shelf
/-- Within round k + 1, before the pair (p, q): whether something has changed. -/
def moreB (m : List (List Int)) (k p q : Nat) (b : Bool) : Prop :=
  (b = true → ∃ a c, a < m.length ∧ c < m.length ∧ mdist m a c (k + 1)) ∧ (b = false → ∀ a c, a < m.length → c < m.length → mixT m k p q a c = mlenAt m k a c)
theorem mlenAt_found {m : List (List Int)} {k p q : Nat} (h : mlenAt m (k + 1) p q = (k : Int) + 1) : mdist m p q (k + 1) := by
  rcases mlenAt_spec m (k + 1) p q with ⟨h1, _⟩ | ⟨j, h1, h2, h3⟩
  · omega
  · obtain rfl : j = k + 1 := by omega
    exact h3
theorem moreB.same {m : List (List Int)} {k p q : Nat} {b : Bool} (h : moreB m k p q b) (hs : mlenAt m (k + 1) p q = mlenAt m k p q) : moreB m k p (q + 1) b := by
  refine ⟨h.1, fun hb a c ha hc => ?_⟩
  rw [mixT_step]
  by_cases e : a = p ∧ c = q
  · rw [if_pos e, hs, e.1, e.2]
  · rw [if_neg e]; exact h.2 hb a c ha hc
theorem moreB.row {m : List (List Int)} {k p : Nat} {b : Bool} (h : moreB m k p m.length b) : moreB m k (p + 1) 0 b :=
  ⟨h.1, fun hb a c ha hc => by rw [← mixT_row m hc]; exact h.2 hb a c ha hc⟩
theorem infoRows : (Tryd.prog.info? 25).map (fun i => (i.zero, i.size, i.bytes)) = some (some (.slice none 0 0), 1, 24) := by kernel_rfl
set_option maxRecDepth 100000 in
set_option maxHeartbeats 8000000 in
theorem rTable_any (v : Value) (m : List (List Int)) (w : World) (h : Rows w v m) (hv : validM m = true) :
    Calls Tryd.prog 43 #[.agg #[v]] w fun e w' => ∃ V B, e = .returned V ∧ Tbl w' (w.heap.size + 1) V m.length m.length B (mlen m) ∧ Below w.heap.size w w' := by
  obtain ⟨i0, hi, hz0, hz1, hz2⟩ := info_parts infoInt
  obtain ⟨r0, hri, hrz0, hrz1, hrz2⟩ := info_parts infoRows
  obtain ⟨p1, p2, p3, p4, p5⟩ := valid_parts hv
  obtain ⟨A, cap, rfl, hml, hcm⟩ := id h
  have Hcm := hid hcm
  have Hp5 := hid p5
  have hX := bal (Below.refl _ w) (.cells #[.slice A m.length cap] 24)
  have hbx := (Boxed.new w 24 (.slice A m.length cap)).cell
  clear p5 hcm
  go_enter Tryd.func43, Tryd.ntmps43
  go_wp2_with fail
  go_loopw [4, 5] (fun ov pv wr => ∃ p B, p ≤ m.length ∧ pv = .int .i64 (p : Nat) ∧ Tbl wr (w.heap.size + 1) ov m.length p B (mlenAt m 0) ∧ Below w.heap.size w wr ∧ wr.cell? ⟨w.heap.size, 0, none⟩ = some (.slice A m.length cap)) (fun _ p _ => m.length - (intOf p).toNat)
  case atStart => exact ⟨0, fun _ => 0, Nat.zero_le _, rfl, Tbl.empty _ _ _ _ _, hX, hbx⟩
  case round =>
    clear hbx hX
    obtain ⟨p, B, hp, rfl, hT, hB, hbx⟩ := hrel
    by_cases hlt : p < m.length
    · have hps : (p : Int) < m.length := by omega
      have hlb := World.block_lt_of_cell? _ _ hbx
      obtain ⟨wo, rfl⟩ : ∃ wo : World, wo = wr := ⟨_, rfl⟩
      have HT := hid hT
      clear hT
      go_wp2_with (at_make; go_must (refine wpList_make_full _ rfl _ _ 25 rfl (w.heap.size + 1) 3 i0 (.int .i64 0) 1 Tryd.underlying25 hi hz0 hz1 .i64 .i64 _ _ m.length rfl rfl rfl rfl (by rw [hz2]; omega) (by unfold maxLen; omega) (by simp only at hlb; omega) ?_); intro w1 hown hgrow; rw [show Value.cells (.int .i64 0) = #[.int .i64 0] from rfl, toList_madeCells_one, Nat.mul_one] at hown; have hB1 := hB.grown hgrow (by simp only at hlb; omega) (fun q hq => by cases hq); have hT1 := HT.out.kept (W' := w1) (fun b _ hb => hgrow.block b hb (by simp)))
      have hbx1 : w1.cell? ⟨w.heap.size, 0, none⟩ = some (.slice A m.length cap) := (World.cell?_of_block (hgrow.block w.heap.size hlb (by simp))).trans hbx
      have hO0 : w1.ownsRow (w.heap.size + 1) 3 1 (.slice (some ⟨wo.heap.size, 0, none⟩) m.length m.length) m.length ((Lf m.length fun i => if i < 0 then mlenAt m 0 p i else 0).map fun x => .int .i64 x) := by
        have e : (Lf m.length fun i => if i < 0 then mlenAt m 0 p i else 0) = List.replicate m.length 0 := by
          apply List.ext_getElem
          · simp [Lf]
          · intro i h1 h2; simp [Lf]
        rw [e]; simpa using hown
      have hBb : ∀ a, a < p → B a ≠ wo.heap.size := fun a ha e => by have := (HT.out.ge ha).2; omega
      have hVb : u4.ownBlock ≠ some wo.heap.size := fun e => by have := HT.out.outer.lt _ e; omega
      generalize wo.heap.size = b at *
      clear hown hgrow hbx hB
      go_loopw [7] (fun qv wq => ∃ q : Nat, q ≤ m.length ∧ qv = .int .i64 q ∧ wq.ownsRow (w.heap.size + 1) 3 1 (.slice (some ⟨b, 0, none⟩) m.length m.length) m.length ((Lf m.length fun i => if i < q then mlenAt m 0 p i else 0).map fun x => .int .i64 x) ∧ Tbl wq (w.heap.size + 1) u4 m.length p B (mlenAt m 0) ∧ Below w.heap.size w wq ∧ wq.cell? ⟨w.heap.size, 0, none⟩ = some (.slice A m.length cap)) (fun q _ => m.length - (intOf q).toNat)
      case atStart => exact ⟨0, Nat.zero_le _, rfl, hO0, hT1, hB1, hbx1⟩
      case round =>
        clear hO0 hT1 hB1 hbx1
        obtain ⟨q, hq, rfl, hO, hT, hB, hbx⟩ := hrel
        by_cases hql : q < m.length
        · have hqs : (q : Int) < m.length := by omega
          by_cases e : q = p
          · subst e
            have hne : ((q : Int) != (q : Int)) = false := by simp
            have hO2 : wr.ownsRow (w.heap.size + 1) 3 1 (.slice (some ⟨b, 0, none⟩) m.length m.length) m.length ((Lf m.length fun i => if i < q + 1 then mlenAt m 0 q i else 0).map fun x => .int .i64 x) := by
              rw [show (Lf m.length fun i => if i < q + 1 then mlenAt m 0 q i else 0) = Lf m.length (fun i => if i < q then mlenAt m 0 q i else 0) from Lf_congr fun i _ => by
                by_cases e : i = q
                · subst e; rw [if_pos (by omega), if_neg (by omega)]; simp [mlenAt]
                · by_cases e2 : i < q
                  · rw [if_pos e2, if_pos (by omega)]
                  · rw [if_neg e2, if_neg (by omega)]]
              exact hO
            have HO2 := hid hO2
            have HT := hid hT
            clear hO hO2 hT
            go_wp2
            go_roundw
            case rel => exact ⟨q + 1, by omega, by go_num, HO2.out, HT.out, hB, hbx⟩
            case measure => simp [intOf]; omega
          · have hne : ((q : Int) != (p : Int)) = true := by simp; omega
            have hcA := hO.cellAt q (by omega)
            have hfA := hO.frozenAt q
            rw [Lf_cell _ hql] at hcA
            have hSt := (hO.stored q (.int .i64 (-1))).1
            rw [← List.map_set (f := fun x => Value.int .i64 x), Lf_set] at hSt
            have hSt2 := hid (show (wr.setCell ⟨b, q, none⟩ (.int .i64 (-1))).ownsRow (w.heap.size + 1) 3 1 (.slice (some ⟨b, 0, none⟩) m.length m.length) m.length ((Lf m.length fun i => if i < q + 1 then mlenAt m 0 p i else 0).map fun x => .int .i64 x) by
              rw [show (Lf m.length fun i => if i < q + 1 then mlenAt m 0 p i else 0) = Lf m.length (fun i => if i = q then -1 else if i < q then mlenAt m 0 p i else 0) from Lf_congr fun i _ => by
                by_cases e3 : i = q
                · subst e3; rw [if_pos (by omega), if_pos rfl]; simp only [mlenAt]; rw [if_neg (fun h => e h.symm)]
                · rw [if_neg e3]
                  by_cases e2 : i < q
                  · rw [if_pos e2, if_pos (by omega)]
                  · rw [if_neg e2, if_neg (by omega)]]
              exact hSt)
            have hbge := (ownq_lt hO).1
            have hBs := hid (hB.setCell (p := ⟨b, q, none⟩) (by show w.heap.size ≤ b; omega) (.int .i64 (-1)))
            have hbs : (wr.setCell ⟨b, q, none⟩ (.int .i64 (-1))).cell? ⟨w.heap.size, 0, none⟩ = some (.slice A m.length cap) := (World.cell?_of_block (Below.heap_setCell _ _ _ _ (by simp; omega))).trans hbx
            have hTs : Tbl (wr.setCell ⟨b, q, none⟩ (.int .i64 (-1))) (w.heap.size + 1) u4 m.length p B (mlenAt m 0) := by
              have hg := (hO.stored q (.int .i64 (-1))).2
              exact ⟨hT.outer.kept hg (.inr hVb), fun a ha => (hT.inner a ha).kept hg (.inr (by simpa [Value.ownBlock] using hBb a ha)), hT.apart, hT.inj⟩
            have HTs := hid hTs
            clear hO hSt hT hTs
            go_wp2
            go_roundw
            case rel => exact ⟨q + 1, by omega, by go_num, hSt2.out, HTs.out, hBs.out, hbs⟩
            case measure => simp [intOf]; omega
        · obtain rfl : q = m.length := by omega
          have hqs : ¬ ((m.length : Nat) : Int) < m.length := by omega
          rw [show (Lf m.length fun i => if i < m.length then mlenAt m 0 p i else 0) = Lf m.length (mlenAt m 0 p) from Lf_congr fun i hi => by rw [if_pos hi]] at hO
          have hlb := World.block_lt_of_cell? _ _ hbx
          have HO := hid hO
          have HT := hid hT
          have hxo := hT.outer
          have hvge : ∀ c, u4.ownBlock = some c → w.heap.size ≤ c := fun c hc => by have := (hT.outer.lt c hc).1; omega
          have hvne : ∀ c, c ≤ w.heap.size → some c ≠ u4.ownBlock := fun c hc e => by have := (hT.outer.lt c e.symm).1; omega
          have hBq := bal hB (.cells #[.slice (some ⟨b, 0, none⟩) m.length m.length] 25)
          clear hO hT
          go_wp2_with (at_builtin; refine wpList_append_own_at _ rfl _ _ 22 rfl (w.heap.size + 1) 25 r0 (.slice none 0 0) 1 24 Tryd.underlying22 hri hrz0 hrz1 hrz2 rfl (by decide) _ _ _ rfl (hxo.alloc _) ⟨wr.heap.size, 0, none⟩ 1 1 [.slice (some ⟨b, 0, none⟩) m.length m.length] rfl rfl (cell_one_new _ _ _) (by simp [Value.oneCell']) (by unfold maxLen; omega) (by omega) (by simp; simp only at hlb; omega) ?_; intro v' w5 hown' hgrow' _ hat; have hT5 := HT.out.pushed HO.out hVb hBb hown' hgrow' hat; have hB5 := hBq.grown hgrow' (by simp; simp only at hlb; omega) (fun c hc => hvge c hc); have hbx5 : w5.cell? ⟨w.heap.size, 0, none⟩ = some (.slice A m.length cap) := (World.cell?_of_block ((hgrow'.block w.heap.size (by simp; simp only at hlb; omega) (hvne _ (Nat.le_refl _))).trans (Below.heap_alloc _ _ _ hlb))).trans hbx)
          go_roundw
          case rel => exact ⟨p + 1, _, by omega, by go_num, hT5, hB5, hbx5⟩
          case measure => simp [intOf]; omega
    · obtain rfl : p = m.length := by omega
      have hps : ¬ ((m.length : Nat) : Int) < m.length := by omega
      have hVs : ∃ g c, u4 = .slice (some ⟨g, 0, none⟩) m.length c := ownsRow_pos' hT.outer (by omega)
      obtain ⟨g, c, rfl⟩ := hVs
      have HT := hid hT
      have hnn : 0 < m.length * m.length := Nat.mul_pos (by omega) (by omega)
      clear hT
      go_wp2_with fail
      go_loopw [8, 9] (fun kv bv wr => ∃ (k : Nat) (b : Bool), kv = .int .i64 ((k : Int) + 1) ∧ bv = .bool b ∧ Tbl wr (w.heap.size + 1) (.slice (some ⟨g, 0, none⟩) m.length c) m.length m.length B (mlenAt m k) ∧ (b = true → k < m.length * m.length) ∧ (b = false → ∀ p q, p < m.length → q < m.length → mlenAt m k p q = mlen m p q) ∧ Below w.heap.size w wr ∧ wr.cell? ⟨w.heap.size, 0, none⟩ = some (.slice A m.length cap)) (fun k _ _ => m.length * m.length + 1 - ((intOf k).toNat - 1))
      case atStart => exact ⟨0, true, rfl, rfl, HT.out, fun _ => hnn, fun h => (by cases h), hB, hbx⟩
      case round =>
        clear HT hB hbx
        obtain ⟨k, b, rfl, rfl, hT, hk, hend, hB, hbx⟩ := hrel
        cases b with
        | false =>
          have hT2 := hT.congr (g := mlen m) (fun p q hp hq => hend rfl p q hp hq)
          have HT2 := hid hT2
          clear hT hT2 hend
          go_wp2
          go_ret
          exact ⟨_, _, rfl, HT2.out, hB⟩
        | true =>
          have hkn := hk rfl
          have hn60 : m.length * m.length ≤ 3600 := Nat.mul_le_mul (show m.length ≤ 60 by omega) (show m.length ≤ 60 by omega)
          have hT0 : Tbl wr (w.heap.size + 1) (.slice (some ⟨g, 0, none⟩) m.length c) m.length m.length B (mixT m k 0 0) := hT.congr fun a b _ _ => by unfold mixT; rw [if_neg (by omega)]
          have hM0 : moreB m k 0 0 false := ⟨fun h => (by cases h), fun _ a c _ _ => by unfold mixT; rw [if_neg (by omega)]⟩
          obtain ⟨wo, rfl⟩ : ∃ wo : World, wo = wr := ⟨_, rfl⟩
          clear hT hend hk
          go_wp2_with fail
          go_loopw [9, 10] (fun bv pv wr => ∃ (p : Nat) (b : Bool), p ≤ m.length ∧ pv = .int .i64 p ∧ bv = .bool b ∧ Tbl wr (w.heap.size + 1) (.slice (some ⟨g, 0, none⟩) m.length c) m.length m.length B (mixT m k p 0) ∧ moreB m k p 0 b ∧ Below w.heap.size w wr ∧ wr.cell? ⟨w.heap.size, 0, none⟩ = some (.slice A m.length cap)) (fun _ p _ => m.length - (intOf p).toNat)
          case atStart => exact ⟨0, false, Nat.zero_le _, rfl, rfl, hT0, hM0, hB, hbx⟩
          case round =>
            clear hT0 hM0 hB hbx
            obtain ⟨p, b, hp, rfl, rfl, hT, hM, hB, hbx⟩ := hrel
            by_cases hpl : p < m.length
            · have hps : (p : Int) < m.length := by omega
              obtain ⟨wo2, rfl⟩ : ∃ wo : World, wo = wr := ⟨_, rfl⟩
              go_wp2_with fail
              go_loopw [9, 11] (fun bv qv wr => ∃ (q : Nat) (b : Bool), q ≤ m.length ∧ qv = .int .i64 q ∧ bv = .bool b ∧ Tbl wr (w.heap.size + 1) (.slice (some ⟨g, 0, none⟩) m.length c) m.length m.length B (mixT m k p q) ∧ moreB m k p q b ∧ Below w.heap.size w wr ∧ wr.cell? ⟨w.heap.size, 0, none⟩ = some (.slice A m.length cap)) (fun _ q _ => m.length - (intOf q).toNat)
              case atStart => exact ⟨0, b, Nat.zero_le _, rfl, rfl, hT, hM, hB, hbx⟩
              case round =>
                clear hT hM hB hbx
                obtain ⟨q, b, hq, rfl, rfl, hT, hM, hB, hbx⟩ := hrel
                by_cases hql : q < m.length
                · have hqs : (q : Int) < m.length := by omega
                  have hcur := mixT_at m k p q
                  obtain ⟨wi, rfl⟩ : ∃ wi : World, wi = wr := ⟨_, rfl⟩
                  have hc1 := hT.cell hpl
                  have hc2 := hT.num hpl hql
                  rw [hcur] at hc2
                  by_cases hneg : 0 ≤ mlenAt m k p q
                  · have hsame : mlenAt m (k + 1) p q = mlenAt m k p q := by simp only [mlenAt]; rw [if_pos hneg]
                    have hT2 : Tbl wi (w.heap.size + 1) (.slice (some ⟨g, 0, none⟩) m.length c) m.length m.length B (mixT m k p (q + 1)) := hT.congr fun a d _ _ => by
                      rw [mixT_step]
                      by_cases e : a = p ∧ d = q
                      · rw [if_pos e, hsame, e.1, e.2, mixT_at]
                      · rw [if_neg e]
                    have HT2 := hid hT2
                    have HM2 := hid (hM.same hsame)
                    have hn2 : ¬ mlenAt m k p q < 0 := by omega
                    clear hT hT2 hM hsame hcur
                    generalize mlenAt m k p q = z at *
                    go_wp2_with fail
                    go_loopw [9, 12] (fun bv xv wr => bv = .bool b ∧ xv = .int .i64 0 ∧ wr = wi) (fun _ _ _ => 0)
                    case atStart => exact ⟨rfl, rfl, rfl⟩
                    case round =>
                      obtain ⟨rfl, rfl, rfl⟩ := hrel
                      go_wp2
                      go_roundw
                      case rel => exact ⟨q + 1, b, by omega, by go_num, rfl, HT2.out, HM2.out, hB, hbx⟩
                      case measure => simp [intOf]; omega
                  · have hup := hid (show mlenAt m (k + 1) p q = if (List.range (letters m)).any (fun x : Nat => mlenAt m k (nx m p (x : Int)) (nx m q (x : Int)) == (k : Int)) then (k : Int) + 1 else -1 by simp only [mlenAt]; rw [if_neg hneg])
                    have hzr := mlenAt_range m k p q
                    have hz1 : mlenAt m k p q = -1 := by omega
                    rw [hz1] at hc2
                    have Hz1 := hid hz1
                    have HM := hid hM
                    clear hM hcur hzr hz1 hneg hc1 hc2
                    go_wp2_with fail
                    go_loopw [9, 12] (fun bv xv wr => ∃ (x : Nat) (b' : Bool), x ≤ letters m ∧ xv = .int .i64 x ∧ bv = .bool b' ∧ (((∀ y, y < x → mlenAt m k (nx m p (y : Int)) (nx m q (y : Int)) ≠ (k : Int)) ∧ b' = b ∧ Tbl wr (w.heap.size + 1) (.slice (some ⟨g, 0, none⟩) m.length c) m.length m.length B (mixT m k p q)) ∨ (mlenAt m (k + 1) p q = (k : Int) + 1 ∧ b' = true ∧ Tbl wr (w.heap.size + 1) (.slice (some ⟨g, 0, none⟩) m.length c) m.length m.length B (mixT m k p (q + 1)))) ∧ Below w.heap.size w wr ∧ wr.cell? ⟨w.heap.size, 0, none⟩ = some (.slice A m.length cap)) (fun _ x _ => letters m - (intOf x).toNat)
                    case atStart => exact ⟨0, b, Nat.zero_le _, rfl, rfl, .inl ⟨fun y hy => by omega, rfl, hT⟩, hB, hbx⟩
                    case round =>
                      clear hT hB hbx
                      obtain ⟨x, b', hx, rfl, rfl, hO, hB, hbx⟩ := hrel
                      rcases hO with ⟨hno, rfl, hT⟩ | ⟨hfound, rfl, hT⟩
                      · have hc1 := hT.cell hpl
                        have hc2 := hT.num hpl hql
                        rw [mixT_at, Hz1.out] at hc2
                        have Hno := hid hno
                        have HT := hid hT
                        clear hno hT
                        go_wp2_with fail
                        refine (rLetters_any _ m _ (h.below hB) hv).mono ?_
                        rintro e y1 ⟨rfl, hy1⟩
                        have hB1 := btr hB hy1
                        have hbx1 := (hy1.cell (p := ⟨w.heap.size, 0, none⟩) (World.block_lt_of_cell? _ _ hbx)).trans hbx
                        have HT1 := hid (HT.out.below hy1)
                        clear hc1 hc2 hbx hB
                        by_cases hxl : x < letters m
                        · have hxs : (x : Int) < letters m := by omega
                          obtain ⟨b1, o1, r1, hA, hcell, hrow⟩ := Hcm.out p hpl
                          subst hA
                          have hrl := (Hp5.out p hpl).1
                          obtain ⟨Ar, capr, rfl, -, hcr⟩ := id hrow
                          rw [hrl] at hcell
                          obtain ⟨br, offr, hAr, hct⟩ := hcr x (by omega)
                          subst hAr
                          obtain ⟨hn1, hn⟩ := nx_ok hv (s := p) hpl (x := (x : Int)) (by omega) (by omega)
                          rw [Int.toNat_natCast] at hn
                          rw [hn] at hct
                          have hcell2 := (hB1.cell (p := ⟨b1, o1 + p, none⟩) (World.block_lt_of_cell? _ _ hcell)).trans hcell
                          have hct2 := (hB1.cell (p := ⟨br, offr + x, none⟩) (World.block_lt_of_cell? _ _ hct)).trans hct
                          obtain ⟨b2, o2, r2, hA2, hcellq, hrowq⟩ := Hcm.out q hql
                          cases hA2
                          have hrlq := (Hp5.out q hql).1
                          obtain ⟨Aq, capq, rfl, -, hcq⟩ := id hrowq
                          rw [hrlq] at hcellq
                          obtain ⟨bq, offq, hAq, hctq⟩ := hcq x (by omega)
                          subst hAq
                          obtain ⟨hq1, hqn⟩ := nx_ok hv (s := q) hql (x := (x : Int)) (by omega) (by omega)
                          rw [Int.toNat_natCast] at hqn
                          rw [hqn] at hctq
                          have hcellq2 := (hB1.cell (p := ⟨b1, o1 + q, none⟩) (World.block_lt_of_cell? _ _ hcellq)).trans hcellq
                          have hctq2 := (hB1.cell (p := ⟨bq, offq + x, none⟩) (World.block_lt_of_cell? _ _ hctq)).trans hctq
                          have hkeep := mixT_keeps m k p q (nx m p (x : Int)) (nx m q (x : Int))
                          have hrange := mixT_range m k p q (nx m p (x : Int)) (nx m q (x : Int))
                          have hd1 := HT1.out.cell hn1
                          have hd2 := HT1.out.num hn1 hq1
                          have hc1 := HT1.out.cell hpl
                          have hc2 := HT1.out.num hpl hql
                          have hfr := HT1.out.free hpl q
                          have hge := (HT1.out.ge hpl).1
                          rw [mixT_at, Hz1.out] at hc2
                          have hany := hid (fun (he : mlenAt m k (nx m p (x : Int)) (nx m q (x : Int)) = (k : Int)) => show mlenAt m (k + 1) p q = (k : Int) + 1 by
                            rw [hup.out, if_pos (List.any_eq_true.2 ⟨x, List.mem_range.2 hxl, by rw [he]; simp⟩)])
                          have hnext := hid (fun (he : mlenAt m k (nx m p (x : Int)) (nx m q (x : Int)) ≠ (k : Int)) => show ∀ y, y < x + 1 → mlenAt m k (nx m p (y : Int)) (nx m q (y : Int)) ≠ (k : Int) from fun y hy => by
                            by_cases e : y = x
                            · subst e; exact he
                            · exact Hno.out y (by omega))
                          clear hcr hrow hn hrl hcell hct hcq hrowq hqn hrlq hcellq hctq
                          generalize mixT m k p q (nx m p (x : Int)) (nx m q (x : Int)) = z at *
                          generalize nx m p (x : Int) = d at *
                          generalize nx m q (x : Int) = d' at *
                          have hds : (d : Int) < m.length := by omega
                          have hds' : (d' : Int) < m.length := by omega
                          by_cases hqk : z = (k : Int)
                          · have hf := hany.out (hkeep.1 hqk)
                            have HSt := hid (fun nq => ((HT1.out.below (below_dr y1 nq)).set hpl (q := q) ((k : Int) + 1)).congr (g := mixT m k p (q + 1)) fun a e _ _ => by rw [mixT_step, hf])
                            have Hf := hid hf
                            have hBs := hid (fun nq => (btr hB1 (below_dr y1 nq)).setCell (p := ⟨B p, q, none⟩) (by show w.heap.size ≤ B p; omega) (.int .i64 ((k : Int) + 1)))
                            have hbs := hid (fun nq => show ((y1.drewN nq).setCell ⟨B p, q, none⟩ (.int .i64 ((k : Int) + 1))).cell? ⟨w.heap.size, 0, none⟩ = some (.slice (some ⟨b1, o1, none⟩) m.length cap) from (World.cell?_of_block (Below.heap_setCell _ _ _ _ (by simp; omega))).trans (((below_dr y1 nq).cell (p := ⟨w.heap.size, 0, none⟩) (World.block_lt_of_cell? _ _ hbx1)).trans hbx1))
                            subst hqk
                            clear hf hkeep
                            go_wp2_with fail
                            go_quiet (fail)
                            go_wp2
                            go_roundw
                            case rel => exact ⟨x + 1, true, by omega, by go_num, rfl, .inr ⟨Hf.out, rfl, HSt.out nq⟩, hBs.out nq, hbs.out nq⟩
                            case measure => simp [intOf]; omega
                          · have hne2 : (z == (k : Int)) = false := by rw [beq_eq_false_iff_ne]; exact hqk
                            have hnx := hid (hnext.out (fun e => hqk (hkeep.2 e)))
                            clear hkeep hany hnext
                            go_wp2_with fail
                            go_quiet (fail)
                            go_wp2
                            go_roundw
                            case rel => exact ⟨x + 1, b', by omega, by go_num, rfl, .inl ⟨hnx.out, rfl, HT1.out.below (below_dr y1 nq)⟩, btr hB1 (below_dr y1 nq), hbx1⟩
                            case measure => simp [intOf]; omega
                        · obtain rfl : x = letters m := by omega
                          have hxs : ¬ ((letters m : Nat) : Int) < letters m := by omega
                          have hm1 : mlenAt m (k + 1) p q = mlenAt m k p q := by
                            rw [Hz1.out, hup.out, if_neg]
                            intro h2
                            obtain ⟨y, hy, he⟩ := List.any_eq_true.1 h2
                            exact Hno.out y (List.mem_range.1 hy) (beq_iff_eq.1 he)
                          have hT3 : Tbl y1 (w.heap.size + 1) (.slice (some ⟨g, 0, none⟩) m.length c) m.length m.length B (mixT m k p (q + 1)) := HT1.out.congr fun a d _ _ => by
                            rw [mixT_step]
                            by_cases e : a = p ∧ d = q
                            · rw [if_pos e, hm1, e.1, e.2, mixT_at]
                            · rw [if_neg e]
                          have HT3 := hid hT3
                          have HM3 := hid (HM.out.same hm1)
                          clear hT3 hm1
                          go_wp2
                          go_roundw
                          case rel => exact ⟨q + 1, b', by omega, by go_num, rfl, HT3.out, HM3.out, hB1, hbx1⟩
                          case measure => simp [intOf]; omega
                      · have hc1 := hT.cell hpl
                        have hc2 := hT.num hpl hql
                        have hcur2 : mixT m k p (q + 1) p q = (k : Int) + 1 := by rw [mixT_step, if_pos ⟨rfl, rfl⟩, hfound]
                        rw [hcur2] at hc2
                        have HT := hid hT
                        have HM4 := hid (show moreB m k p (q + 1) true from ⟨fun _ => ⟨p, q, hpl, hql, mlenAt_found hfound⟩, fun h => (by cases h)⟩)
                        have t1 : ¬ (k : Int) + 1 < 0 := by omega
                        clear hT hcur2 hfound
                        go_wp2
                        go_roundw
                        case rel => exact ⟨q + 1, true, by omega, by go_num, rfl, HT.out, HM4.out, hB, hbx⟩
                        case measure => simp [intOf]; omega
                · obtain rfl : q = m.length := by omega
                  have hqs : ¬ ((m.length : Nat) : Int) < m.length := by omega
                  have HT5 := hid (hT.congr (g := mixT m k (p + 1) 0) fun a d _ hd => mixT_row m hd)
                  have HM5 := hid hM.row
                  clear hT hM
                  go_wp2
                  go_roundw
                  case rel => exact ⟨p + 1, b, by omega, by go_num, rfl, HT5.out, HM5.out, hB, hbx⟩
                  case measure => simp [intOf]; omega
            · obtain rfl : p = m.length := by omega
              have hps : ¬ ((m.length : Nat) : Int) < m.length := by omega
              have hT2 := hid (hT.congr (g := mlenAt m (k + 1)) fun a b ha _ => by unfold mixT; rw [if_pos (.inl ha)])
              have hb1 := hid (fun (hb : b = true) => show k + 1 < m.length * m.length by
                obtain ⟨a, c, ha, hc, hd⟩ := hM.1 hb
                exact mdist_lt hv ha hc hd)
              have hb2 := hid (fun (hb : b = false) => show ∀ p q, p < m.length → q < m.length → mlenAt m (k + 1) p q = mlen m p q by
                have hs : ∀ p q, p < m.length → q < m.length → mlenAt m (k + 1) p q = mlenAt m k p q := fun p q hp hq => by
                  have := hM.2 hb p q hp hq
                  unfold mixT at this
                  rwa [if_pos (.inl hp)] at this
                exact fun p q hp hq => (hs p q hp hq).trans (mlen_stop hv hs hp hq))
              clear hT hM
              go_wp2
              go_roundw
              case rel => exact ⟨k + 1, b, by go_num, rfl, hT2.out, hb1.out, hb2.out, hB, hbx⟩
              case measure => simp [intOf]; omega
end Go.Proofs.YtiiiinoappjhdaaDoor
namespace Go.Proofs.YtiiiinoappjhdaaDoor
open Go.RowKit Go.Shelf
/-- The pairs (p, d) with d below q that are never merged; those of all first states below p. -/
def apartRow (m : List (List Int)) (p q : Nat) : List (Nat × Nat) := ((List.range q).filter fun d => decide (p < d) && decide (mlen m p d < 0)).map fun d => (p, d)
def apartAll (m : List (List Int)) (p : Nat) : List (Nat × Nat) := (List.range p).flatMap fun a => apartRow m a m.length
/-- The pairs that no word merges. -/
def apartL (m : List (List Int)) : List (Nat × Nat) := apartAll m m.length
theorem apartRow_succ (m : List (List Int)) (p q : Nat) : apartRow m p (q + 1) = apartRow m p q ++ (if p < q ∧ mlen m p q < 0 then [(p, q)] else []) := by
  unfold apartRow
  rw [List.range_succ, List.filter_append, List.map_append]
  congr 1
  by_cases h : p < q ∧ mlen m p q < 0
  · rw [if_pos h]; simp [h.1, h.2]
  · rw [if_neg h]
    by_cases h1 : p < q
    · have h2 : ¬ mlen m p q < 0 := fun e => h ⟨h1, e⟩
      simp [h1, h2]
    · simp [h1]
theorem apartRow_start (m : List (List Int)) (p q : Nat) (h : q ≤ p + 1) : apartRow m p q = [] := by
  unfold apartRow
  rw [List.map_eq_nil_iff, List.filter_eq_nil_iff]
  intro d hd
  have := List.mem_range.1 hd
  have h2 : ¬ p < d := by omega
  simp [h2]
theorem apartAll_succ (m : List (List Int)) (p : Nat) : apartAll m (p + 1) = apartAll m p ++ apartRow m p m.length := by
  unfold apartAll
  rw [List.range_succ, List.flatMap_append]
  simp
theorem apartRow_len (m : List (List Int)) (p q : Nat) : (apartRow m p q).length ≤ q := by
  unfold apartRow
  rw [List.length_map]
  have := List.length_filter_le (fun d => decide (p < d) && decide (mlen m p d < 0)) (List.range q)
  simpa using this
theorem apartAll_len (m : List (List Int)) : ∀ p, (apartAll m p).length ≤ p * m.length
  | 0 => by simp [apartAll]
  | p + 1 => by
    have h1 := apartAll_len m p
    have h2 := apartRow_len m p m.length
    rw [apartAll_succ, List.length_append, Nat.succ_mul]
    omega
theorem apartL_mem {m : List (List Int)} {e : Nat × Nat} : e ∈ apartL m ↔ e.1 < e.2 ∧ e.2 < m.length ∧ mlen m e.1 e.2 < 0 := by
  unfold apartL apartAll apartRow
  simp only [List.mem_flatMap, List.mem_range, List.mem_map, List.mem_filter, Bool.and_eq_true, decide_eq_true_eq]
  constructor
  · rintro ⟨a, ha, d, ⟨hd, h1, h2⟩, rfl⟩
    exact ⟨h1, hd, h2⟩
  · rintro ⟨h1, h2, h3⟩
    exact ⟨e.1, by omega, e.2, ⟨h2, h1, h3⟩, rfl⟩
/-- No pairs, and an error. -/
theorem infoArr : (Tryd.prog.info? 79).map (fun i => (i.zero, i.size, i.bytes)) = some (some (.agg #[.int .i64 0, .int .i64 0]), 2, 16) := by kernel_rfl
end Go.Proofs.YtiiiinoappjhdaaDoor
namespace Go.Proofs.YtiiiinoappjhdaaDoor
open Go.RowKit Go.Shelf
set_option maxRecDepth 100000 in
set_option maxHeartbeats 4000000 in
theorem rApart_any (v : Value) (m : List (List Int)) (w : World) (h : Rows w v m) (hv : validM m = true) :
    Calls Tryd.prog 38 #[.agg #[v]] w fun e w' => ∃ r, e = .returned r ∧ w'.ownsRow w.heap.size 79 2 r (apartL m).length (pairCells (apartL m)) ∧ Below w.heap.size w w' := by
  obtain ⟨i0, hi, hz0, hz1, hz2⟩ := info_parts infoArr
  obtain ⟨p1, p2, -⟩ := valid_parts hv
  obtain ⟨A, cap, rfl, hml, -⟩ := id h
  have hX := bal (Below.refl _ w) (.cells #[.slice A m.length cap] 24)
  go_enter Tryd.func38, Tryd.ntmps38
  go_wp2_with fail
  generalize w.alloc (.cells #[.slice A m.length cap] 24) = X at *
  have hr := h.below hX
  refine (rTable_any _ m _ hr hv).mono ?_
  rintro e w2 ⟨V, B, rfl, hT, h2⟩
  obtain ⟨g, gc, rfl⟩ := ownsRow_pos' hT.outer p1
  have HBB := hid (btr hX h2)
  have HT := hid (fun (w' : World) (hb : Below w2.heap.size w2 w') => hT.below hb)
  clear hT h2 hX hr h
  go_wp2_with fail
  go_loopw [4, 5] (fun lv pv wr => ∃ p : Nat, p ≤ m.length ∧ pv = .int .i64 (p : Nat) ∧ wr.ownsRow w2.heap.size 79 2 lv (apartAll m p).length (pairCells (apartAll m p)) ∧ Below w2.heap.size w2 wr) (fun _ pv _ => m.length - (intOf pv).toNat)
  case atStart => exact ⟨0, Nat.zero_le _, rfl, World.ownsRow_nil _ _ _ _, Below.refl _ _⟩
  case round =>
    obtain ⟨p, hp, rfl, hO, hB⟩ := hrel
    have hmm60 : m.length * m.length ≤ 3600 := Nat.mul_le_mul (show m.length ≤ 60 by omega) (show m.length ≤ 60 by omega)
    by_cases hpl : p < m.length
    · have hps : (p : Int) < m.length := by omega
      have HO := hid hO
      clear hO
      have hlen := apartAll_len m p
      have hlen2 := Nat.mul_le_mul_right m.length (show p ≤ m.length by omega)
      obtain ⟨wo, rfl⟩ : ∃ wo : World, wo = wr := ⟨_, rfl⟩
      go_wp2_with fail
      go_loopw [4, 6] (fun lv qv wr => ∃ (q : Nat) (Lr : List (Nat × Nat)), p + 1 ≤ q ∧ q ≤ m.length ∧ qv = .int .i64 (q : Nat) ∧ Lr = apartAll m p ++ apartRow m p q ∧ wr.ownsRow w2.heap.size 79 2 lv Lr.length (pairCells Lr) ∧ Below w2.heap.size w2 wr) (fun _ qv _ => m.length - (intOf qv).toNat)
      case atStart => exact ⟨p + 1, apartAll m p, Nat.le_refl _, by omega, by go_num, by rw [apartRow_start m p (p + 1) (Nat.le_refl _), List.append_nil], HO.out, hB⟩
      case round =>
        clear HO hB
        obtain ⟨q, Lr, hpq, hq, rfl, hLr, hO, hB⟩ := hrel
        by_cases hql : q < m.length
        · have hqs : (q : Int) < m.length := by omega
          have hTr := HT.out _ hB
          have hc1 := hTr.cell hpl
          have hc2 := hTr.num hpl hql
          have hrow := apartRow_succ m p q
          have hrl := apartRow_len m p q
          have hLl : Lr.length ≤ 7200 := by rw [hLr, List.length_append]; omega
          have hlb := hB.size
          by_cases hneg : 0 ≤ mlen m p q
          · rw [if_neg (by omega), List.append_nil] at hrow
            have HLr := hid (show Lr = apartAll m p ++ apartRow m p (q + 1) from by rw [hrow]; exact hLr)
            have HO := hid hO
            have hn2 : ¬ mlen m p q < 0 := by omega
            clear hO hrow hLr hTr
            generalize mlen m p q = z at *
            go_wp2_with fail
            go_roundw
            case rel => exact ⟨q + 1, Lr, by omega, by omega, by go_num, HLr.out, HO.out, hB⟩
            case measure => simp [intOf]; omega
          · rw [if_pos (by omega)] at hrow
            have HLr := hid (show Lr ++ [(p, q)] = apartAll m p ++ apartRow m p (q + 1) from by rw [hrow, hLr, List.append_assoc])
            have HO := hid (hO.alloc (.cells #[.int .i64 p, .int .i64 q] 79))
            have Hp := hid (fun (w5 : World) (o : Obj) (hgrow : (wr.alloc o).grownBy w5 u4.ownBlock) => (bal hB o).grown hgrow (by have := hB.size; simp; omega) (fun k hk => (hO.lt k hk).1))
            have hn2 : mlen m p q < 0 := by omega
            clear hO hrow hLr hneg hTr
            generalize mlen m p q = z at *
            go_wp2_with (at_builtin; refine wpList_append_own_at _ rfl _ _ 61 rfl w2.heap.size 79 i0 (.agg #[.int .i64 0, .int .i64 0]) 2 16 Tryd.underlying61 hi hz0 hz1 hz2 rfl (by decide) _ _ _ rfl HO.out ⟨wr.heap.size, 0, none⟩ 1 1 [.int .i64 p, .int .i64 q] rfl rfl (pair_new _ _ _ _ _ rfl) (by simp [Value.oneCell']) (by unfold maxLen; omega) (by omega) (by simp; omega) ?_; intro v' w5 hown' hgrow' _ hat; have HP := hid (Hp.out w5 _ hgrow'); have HN := hid hown'; clear hown' hgrow' hat)
            go_roundw
            case rel =>
              refine ⟨q + 1, Lr ++ [(p, q)], by omega, by omega, by go_num, HLr.out, ?_, HP.out⟩
              rw [List.length_append, pairCells_snoc]
              exact HN.out
            case measure => simp [intOf]; omega
        · obtain rfl : q = m.length := by omega
          have hqs : ¬ ((m.length : Nat) : Int) < m.length := by omega
          have HO := hid (show wr.ownsRow w2.heap.size 79 2 u4 (apartAll m (p + 1)).length (pairCells (apartAll m (p + 1))) from by rw [apartAll_succ, ← hLr]; exact hO)
          clear hO hLr
          go_wp2_with fail
          go_roundw
          case rel => exact ⟨p + 1, by omega, by go_num, HO.out, hB⟩
          case measure => simp [intOf]; omega
    · obtain rfl : p = m.length := by omega
      have hps : ¬ ((m.length : Nat) : Int) < m.length := by omega
      have HO := hid hO
      have HF := hid (btr HBB.out hB)
      clear hO
      go_wp2_with fail
      go_ret
      exact ⟨_, rfl, row_mono HO.out HBB.out.size, HF.out⟩
end Go.Proofs.YtiiiinoappjhdaaDoor
namespace Go.Proofs.YtiiiinoappjhdaaDoor
open Go.RowKit Go.Shelf
theorem apartL_nil {m : List (List Int)} (hv : validM m = true) : apartL m = [] ↔ allMerge m := by
  constructor
  · intro h p q hpq hq
    rcases mlen_spec hv (p := p) (q := q) (by omega) hq with ⟨h1, _⟩ | ⟨j, _, _, h3⟩
    · have : (p, q) ∈ apartL m := apartL_mem.2 ⟨hpq, hq, by simp only; omega⟩
      rw [h] at this
      cases this
    · exact ⟨j, h3.1⟩
  · intro h
    rw [List.eq_nil_iff_forall_not_mem]
    intro e he
    obtain ⟨h1, h2, h3⟩ := apartL_mem.1 he
    obtain ⟨k, hk⟩ := h e.1 e.2 h1 h2
    obtain ⟨j, _, hd⟩ := mdist_some hk
    rw [mlen_of hv (by omega) h2 hd] at h3
    omega
open Classical in
theorem rHome_any (v : Value) (m : List (List Int)) (b : Bool) (w : World) (h : Rows w v m) (hv : validM m = true) (hb : decide (allMerge m) = b) :
    Calls Tryd.prog 13 #[.agg #[v]] w fun e w' => e = .returned (.bool b) ∧ Below w.heap.size w w' := by
  obtain ⟨A, cap, rfl, hml, -⟩ := id h
  have hX := bal (Below.refl _ w) (.cells #[.slice A m.length cap] 24)
  have hr := h.below hX
  have hbl : ((((apartL m).length : Nat) : Int) == 0) = b := by
    rw [← hb, Bool.eq_iff_iff]
    rw [decide_eq_true_iff, ← apartL_nil hv, beq_iff_eq, ← List.length_eq_zero_iff]
    omega
  have Hbl := hid hbl
  clear hbl hb
  go_enter Tryd.func13, Tryd.ntmps13
  go_wp2_with fail
  refine (rApart_any _ m _ hr hv).mono ?_
  rintro e w2 ⟨r, rfl, ho, h2⟩
  obtain ⟨rA, rc, rfl⟩ := ownsRow_slice ho
  have HB := hid (btr hX h2)
  clear ho h2 hr h
  generalize (apartL m).length = n at *
  go_wp2
  go_ret
  exact ⟨ret_bool Hbl.out, HB.out⟩
theorem ofList_all {n : Nat} (hn : n ≤ 64) : ofList (allM n) = 2 ^ n - 1 := by
  have hp : (2 : Nat) ^ n ≤ 2 ^ 64 := Nat.pow_le_pow_right (by decide) hn
  have h0 := Nat.two_pow_pos n
  have hm : ∀ x ∈ allM n, 0 ≤ x ∧ x < n := fun x hx => by
    unfold allM pick at hx
    simp at hx
    obtain ⟨a, ha, rfl⟩ := hx
    omega
  refine eq_of_elems _ _ (Nat.lt_of_lt_of_le (ofList_lt n hn _ hm) hp) (by omega) fun i _ => ?_
  rw [testBit_below, allM, pick_testBit]
  simp
theorem image_len {m : List (List Int)} (hm : m.length ≤ 64) (u : List Int) : (imageM m (allM m.length) u).length = (elems (imgWord m (2 ^ m.length - 1) u)).length := by
  rw [imageM, ofList_all hm, intsOf, List.length_map]
end Go.Proofs.YtiiiinoappjhdaaDoor
namespace Go.Proofs.YtiiiinoappjhdaaDoor
open Go.RowKit Go.Shelf
def Lb (n : Nat) (f : Nat → Bool) : List Bool := (List.range n).map f
theorem Lb_len (n : Nat) (f : Nat → Bool) : (Lb n f).length = n := by simp [Lb]
theorem Lb_congr {n : Nat} {f g : Nat → Bool} (h : ∀ i, i < n → f i = g i) : Lb n f = Lb n g := List.map_congr_left fun i hi => h i (List.mem_range.1 hi)
theorem Lb_set {n : Nat} (f : Nat → Bool) (s : Nat) (v : Bool) : (Lb n f).set s v = Lb n (fun i => if i = s then v else f i) := by
  apply List.ext_getElem
  · simp [Lb]
  · intro i h1 h2
    rw [List.getElem_set]
    by_cases e : s = i
    · subst e; simp [Lb]
    · rw [if_neg e]; simp [Lb, Ne.symm e]
theorem Lb_cell {n : Nat} (f : Nat → Bool) {i : Nat} (hi : i < n) : ((Lb n f).map fun x => Value.bool x)[i]? = some (.bool (f i)) := by
  simp [Lb, List.getElem?_map, List.getElem?_range hi]
/-- The rows of a table that is being made: the first k are there. -/
def rowsB (n k : Nat) (B : Nat → Nat) : List Value := (List.range n).map fun p => if p < k then .slice (some ⟨B p, 0, none⟩) n n else .slice none 0 0
theorem rowsB_get {n k : Nat} (B : Nat → Nat) {p : Nat} (hp : p < n) : (rowsB n k B)[p]? = some (if p < k then .slice (some ⟨B p, 0, none⟩) n n else .slice none 0 0) := by
  simp [rowsB, List.getElem?_map, List.getElem?_range hp]
/-- The block g holds n rows, the first k of them in blocks of their own; row p holds f p 0, .., f p (n - 1). -/
structure BTb (W : World) (n₀ g n k : Nat) (B : Nat → Nat) (f : Nat → Nat → Bool) : Prop where
  outer : W.ownsRow n₀ 63 1 (.slice (some ⟨g, 0, none⟩) n n) n (rowsB n k B)
  inner : ∀ p, p < k → W.ownsRow n₀ 4 1 (.slice (some ⟨B p, 0, none⟩) n n) n ((Lb n (f p)).map fun x => .bool x)
  apart : ∀ p, p < k → g ≠ B p
  inj : ∀ p q, p < k → q < k → B p = B q → p = q
section
variable {W W' : World} {n₀ g n k : Nat} {B : Nat → Nat} {f : Nat → Nat → Bool}
theorem BTb.new (h : W.ownsRow n₀ 63 1 (.slice (some ⟨g, 0, none⟩) n n) n (List.replicate n (.slice none 0 0))) : BTb W n₀ g n 0 B f := by
  refine ⟨?_, fun p hp => by omega, fun p hp => by omega, fun p q hp => by omega⟩
  have e : rowsB n 0 B = List.replicate n (.slice none 0 0) := by
    apply List.ext_getElem
    · simp [rowsB]
    · intro i h1 h2; simp [rowsB]
  rw [e]; exact h
theorem BTb.kept (h : BTb W n₀ g n k B f) (hk : ∀ b, n₀ ≤ b → b < W.heap.size → W'.heap[b]? = W.heap[b]?) : BTb W' n₀ g n k B f :=
  ⟨owns_kept h.outer hk, fun p hp => owns_kept (h.inner p hp) hk, h.apart, h.inj⟩
theorem BTb.below (h : BTb W n₀ g n k B f) (hb : Below W.heap.size W W') : BTb W' n₀ g n k B f := h.kept fun b _ hs => hb.block b hs
theorem BTb.congr {e : Nat → Nat → Bool} (h : BTb W n₀ g n k B f) (he : ∀ p q, p < k → q < n → f p q = e p q) : BTb W n₀ g n k B e :=
  ⟨h.outer, fun p hp => by rw [← Lb_congr (n := n) (f := f p) (g := e p) fun q hq => he p q hp hq]; exact h.inner p hp, h.apart, h.inj⟩
theorem BTb.ge (h : BTb W n₀ g n k B f) {p : Nat} (hp : p < k) : n₀ ≤ B p ∧ B p < W.heap.size := ownq_lt (h.inner p hp)
theorem BTb.lt (h : BTb W n₀ g n k B f) : n₀ ≤ g ∧ g < W.heap.size := ownq_lt h.outer
/-- A row is made and stored. -/
theorem BTb.row {b : Nat} (h : BTb W n₀ g n k B f) (hk : k < n) (hg : ∀ c, n₀ ≤ c → c < W.heap.size → W'.heap[c]? = W.heap[c]?) (hb : W.heap.size ≤ b)
    (hr : W'.ownsRow n₀ 4 1 (.slice (some ⟨b, 0, none⟩) n n) n ((Lb n (f k)).map fun x => .bool x)) : BTb (W'.setCell ⟨g, k, none⟩ (.slice (some ⟨b, 0, none⟩) n n)) n₀ g n (k + 1) (fun p => if p = k then b else B p) f := by
  have h' := h.kept hg
  have hgb : g ≠ b := by have := h.lt; omega
  have hBb : ∀ p, p < k → B p ≠ b := fun p hp => by have := h.ge hp; omega
  obtain ⟨s1, s2⟩ := h'.outer.stored k (.slice (some ⟨b, 0, none⟩) n n)
  refine ⟨?_, fun p hp => ?_, fun p hp => ?_, fun p q hp hq e => ?_⟩
  · refine cast ?_ s1
    congr 1
    apply List.ext_getElem
    · simp [rowsB]
    · intro i h1 h2
      rw [List.getElem_set]
      by_cases e : k = i
      · subst e; simp [rowsB]
      · rw [if_neg e]
        simp only [rowsB, List.getElem_map, List.getElem_range]
        by_cases e2 : i < k
        · rw [if_pos e2, if_pos (by omega), if_neg (by omega)]
        · rw [if_neg e2, if_neg (by omega)]
  · by_cases e : p = k
    · subst e; simp only [if_true]
      exact hr.kept s2 (.inr (by simp [Value.ownBlock]; exact fun e => hgb e.symm))
    · simp only [if_neg e]
      exact (h'.inner p (by omega)).kept s2 (.inr (by simp [Value.ownBlock]; exact fun e => h.apart p (by omega) e.symm))
  · by_cases e : p = k
    · subst e; simp only [if_true]; exact hgb
    · simp only [if_neg e]; exact h.apart p (by omega)
  · by_cases e1 : p = k <;> by_cases e2 : q = k
    · omega
    · simp only [if_pos e1, if_neg e2] at e; exact absurd e.symm (hBb q (by omega))
    · simp only [if_neg e1, if_pos e2] at e; exact absurd e (hBb p (by omega))
    · simp only [if_neg e1, if_neg e2] at e; exact h.inj p q (by omega) (by omega) e
theorem BTb.cell (h : BTb W n₀ g n k B f) {p : Nat} (hp : p < n) : W.cell? ⟨g, p, none⟩ = some (if p < k then .slice (some ⟨B p, 0, none⟩) n n else .slice none 0 0) := by
  rw [h.outer.cellAt p (by omega), rowsB_get B hp]
theorem BTb.at (h : BTb W n₀ g n n B f) {p : Nat} (hp : p < n) : W.cell? ⟨g, p, none⟩ = some (.slice (some ⟨B p, 0, none⟩) n n) := by
  rw [h.cell hp, if_pos hp]
theorem BTb.free (h : BTb W n₀ g n k B f) {p : Nat} (hp : p < k) (q : Nat) : W.frozen? ⟨B p, q, none⟩ = false := (h.inner p hp).frozenAt q
/-- A truth value is stored. -/
theorem BTb.set (h : BTb W n₀ g n k B f) {p q : Nat} (hp : p < k) (x : Bool) : BTb (W.setCell ⟨B p, q, none⟩ (.bool x)) n₀ g n k B (fun a b => if a = p ∧ b = q then x else f a b) := by
  obtain ⟨h1, h2⟩ := (h.inner p hp).stored q (.bool x)
  refine ⟨h.outer.kept h2 (.inr (by simp [Value.ownBlock]; exact fun e => h.apart p hp e)), fun a ha => ?_, h.apart, h.inj⟩
  by_cases e : a = p
  · subst e
    rw [← List.map_set_bool, Lb_set] at h1
    refine cast ?_ h1
    congr 2
    exact Lb_congr fun i _ => by simp
  · have : (Lb n fun b => if a = p ∧ b = q then x else f a b) = Lb n (f a) := Lb_congr fun i _ => by rw [if_neg (fun h => e h.1)]
    rw [show (fun b => if a = p ∧ b = q then x else f a b) = fun b => (fun a b => if a = p ∧ b = q then x else f a b) a b from rfl] at this
    rw [this]
    refine (h.inner a ha).kept h2 (.inr ?_)
    intro e2
    simp only [Value.ownBlock, Option.some.injEq] at e2
    exact e (h.inj a p ha hp e2)
end
end Go.Proofs.YtiiiinoappjhdaaDoor
namespace Go.Proofs.YtiiiinoappjhdaaDoor
open Go.RowKit Go.Shelf
/-- A list that came in or was made: if it is nil it has no room. -/
def Room (w : World) (v : Value) (l : List Int) : Prop := ∃ A c, v = .slice A l.length c ∧ (A = none → c = 0) ∧ Ints w v l
theorem Room.below {w w' : World} {v : Value} {l : List Int} (h : Room w v l) (hb : Below w.heap.size w w') : Room w' v l := by
  obtain ⟨A, c, h1, h2, h3⟩ := h
  exact ⟨A, c, h1, h2, h3.below hb⟩
end Go.Proofs.YtiiiinoappjhdaaDoor
namespace Go.Proofs.YtiiiinoappjhdaaDoor
open Go.RowKit Go.Shelf
/-- Steps in memory. -/
def StepsAtS (w : World) (v : Value) (B : Steps) : Prop :=
  ∃ A cap, v = .slice A B.length cap ∧ B.length ≤ 100000 ∧ ∀ i, i < B.length → ∃ b off, A = some ⟨b, off, none⟩ ∧ w.cell? ⟨b, off + i * 3, none⟩ = some (.int .u64 (plB B i)) ∧ w.cell? ⟨b, off + i * 3 + 1, none⟩ = some (.int .i64 (frB B i)) ∧ w.cell? ⟨b, off + i * 3 + 2, none⟩ = some (.int .i64 (leB B i))
set_option maxRecDepth 100000 in
set_option maxHeartbeats 1000000 in
theorem spell_anyS (v : Value) (B : Steps) (i : Nat) (w : World) (h : StepsAtS w v B) (hB : TreeB B) (hi : i < B.length) :
    Calls Tryd.prog 72 #[v, .int .i64 i] w fun e w' => ∃ r, e = .returned r ∧ w'.ownsRow w.heap.size 3 1 r (wordB B i).length ((wordB B i).map fun x => .int .i64 x) ∧ Below w.heap.size w w' := by
  obtain ⟨j0, hj, hy0, hy1, hy2⟩ := info_parts infoInt
  obtain ⟨A, cap, rfl, hl, hc⟩ := h
  have Hc := hid hc
  have HB := hid hB
  have hwl := wordB_len hB i hi
  obtain ⟨N, hN⟩ : ∃ N, (wordB B i).length = N := ⟨_, rfl⟩
  have HN := hid hN
  have hNb : N ≤ 100000 := by omega
  clear hc hB hN hwl
  go_enter Tryd.func72, Tryd.ntmps72
  go_wp2
  go_loop [5, 6] (fun l j => ∃ (L jj : Nat), l = .int .i64 L ∧ j = .int .i64 jj ∧ jj < B.length ∧ L + (wordB B jj).length = N) (fun _ j => (intOf j).toNat)
  case atStart => exact ⟨0, i, rfl, rfl, hi, by rw [HN.out]; omega⟩
  case round =>
    obtain ⟨L, jj, rfl, rfl, hjj, hL⟩ := hrel
    obtain ⟨b, off, hA, k1, k2, k3⟩ := Hc.out jj hjj
    subst hA
    have hjs : (jj : Int) < B.length := by omega
    have hLb : L ≤ 100000 := by omega
    by_cases h0 : jj = 0
    · subst h0
      have hL0 : L = N := by rw [wordB_root HB.out] at hL; simpa using hL
      subst hL0
      have hfr := HB.out.2.1
      rw [hfr] at k2
      clear hL hfr
      go_wp2_with (at_make; refine wpList_make_full _ rfl _ _ 25 rfl w.heap.size 3 j0 (.int .i64 0) 1 Tryd.underlying25 hj hy0 hy1 .i64 .i64 _ _ L rfl rfl rfl rfl (by rw [hy2]; omega) (by unfold maxLen; omega) (Nat.le_refl _) ?_; intro w1 hown hgrow)
      have hB1 : Below w.heap.size w w1 := (Below.refl _ _).grown hgrow (Nat.le_refl _) (fun q hq => by cases hq)
      rw [show Value.cells (.int .i64 0) = #[.int .i64 0] from rfl, toList_madeCells_one, Nat.mul_one] at hown
      have hh0 : List.replicate L (Value.int .i64 0) = halfRow (wordB B i) L := by
        unfold halfRow
        rw [List.drop_of_length_le (by rw [HN.out]; exact Nat.le_refl _)]; simp
      rw [hh0] at hown
      clear k1 k2 k3 hh0
      go_loopw [1, 5] (fun x y wr => ∃ (j l : Nat), x = .int .i64 j ∧ y = .int .i64 l ∧ j < B.length ∧ l = (wordB B j).length ∧ l ≤ L ∧ (wordB B i).take l = wordB B j ∧ wr.ownsRow w.heap.size 3 1 (.slice (some ⟨w.heap.size, 0, none⟩) L L) L (halfRow (wordB B i) l) ∧ Below w.heap.size w wr) (fun _ y _ => (intOf y).toNat)
      case atStart => exact ⟨i, L, rfl, rfl, hi, HN.out.symm, Nat.le_refl _, by rw [List.take_of_length_le (by rw [HN.out]; exact Nat.le_refl _)], hown, hB1⟩
      case round =>
        obtain ⟨j, l, rfl, rfl, hj', hl', hlL, htk, hO, hBr⟩ := hrel
        by_cases hl0 : l = 0
        · subst hl0
          have hO' : wr.ownsRow w.heap.size 3 1 (.slice (some ⟨w.heap.size, 0, none⟩) L L) (wordB B i).length ((wordB B i).map fun x => .int .i64 x) := by
            rw [HN.out]; simpa [halfRow] using hO
          have HO := hid hO'
          clear hO hO' hl' htk
          go_wp2
          go_ret
          exact ⟨_, rfl, HO.out, hBr⟩
        · have hj0 : 0 < j := by
            rcases Nat.eq_zero_or_pos j with e | e
            · subst e; rw [wordB_root HB.out] at hl'; simp at hl'; omega
            · exact e
          obtain ⟨l2, rfl⟩ : ∃ l2, l = l2 + 1 := ⟨l - 1, by omega⟩
          obtain ⟨h1, h2⟩ := HB.out.2.2 j hj0 hj'
          have hst := wordB_step HB.out hj0 hj'
          rw [hst] at hl' htk
          have hl2 : l2 = (wordB B (frB B j).toNat).length := by simp at hl'; omega
          have hiN : (wordB B i).length = L := HN.out
          have htk2 : (wordB B i).take l2 = wordB B (frB B j).toNat := by
            have := congrArg (List.take l2) htk
            rw [List.take_take, Nat.min_eq_left (by omega), List.take_append_of_le_length (by omega)] at this
            rw [this, hl2, List.take_length]
          have hle : (wordB B i).getD l2 0 = leB B j := by
            have := congrArg (fun l => l.getD l2 0) htk
            simp only [List.getD_eq_getElem?_getD, List.getElem?_take, if_pos (Nat.lt_succ_self l2)] at this
            rw [List.getD_eq_getElem?_getD, this, hl2]
            simp
          have hset := halfRow_set (wordB B i) l2 (leB B j) (by omega) hle
          obtain ⟨b', off', hA', k1, k2, k3⟩ := Hc.out j hj'
          cases hA'
          have hblk : b < w.heap.size := World.block_lt_of_cell? _ _ k1
          have m2 := (hBr.cell (p := ⟨b, off + j * 3 + 1, none⟩) hblk).trans k2
          have m3 := (hBr.cell (p := ⟨b, off + j * 3 + 2, none⟩) hblk).trans k3
          have hcA := hO.cellAt l2 (by omega)
          have hx2 : (halfRow (wordB B i) (l2 + 1))[l2]? = some (.int .i64 0) := by
            unfold halfRow
            rw [List.getElem?_append_left (by simp)]
            simp
          rw [hx2] at hcA
          have hfA := hO.frozenAt l2
          have hjs' : (j : Int) < B.length := by omega
          have hll : (l2 : Int) < L := by omega
          have HO := hid ((hO.stored l2 (.int .i64 (leB B j))).1)
          rw [hset] at HO
          have Hl2 := hid hl2
          have Htk := hid htk2
          have HBs := hid (hBr.setCell (p := ⟨w.heap.size, l2, none⟩) (Nat.le_refl _) (.int .i64 (leB B j)))
          clear hO hl' htk hst hl2 htk2 hle hset k1 k2 k3 hx2 hiN
          generalize frB B j = fr at *
          obtain ⟨fn, rfl⟩ := Int.eq_ofNat_of_zero_le h1
          rw [Int.toNat_natCast] at Hl2 Htk
          have hw1 : w.heap.size < wr.heap.size := World.block_lt_of_cell? _ _ hcA
          have hne : b ≠ w.heap.size := by omega
          have m2' : ∀ u, (wr.setCell ⟨w.heap.size, l2, none⟩ u).cell? ⟨b, off + j * 3 + 1, none⟩ = some (.int .i64 (fn : Int)) := fun u => (World.cell?_of_block (w := wr) (Below.heap_setCell _ _ _ _ (by simpa using hne))).trans m2
          have n2 := m2' (.int .i64 (leB B j))
          clear m2'
          go_wp2
          go_roundw
          case rel => exact ⟨fn, l2, rfl, rfl, by omega, Hl2.out, by omega, Htk.out, HO.out, HBs.out⟩
          case measure => simp [intOf]
    · obtain ⟨h1, h2⟩ := HB.out.2.2 jj (by omega) hjj
      have hst := wordB_step HB.out (by omega) hjj
      have hlen : L + 1 + (wordB B (frB B jj).toNat).length = N := by
        rw [hst, List.length_append] at hL
        simp at hL; omega
      have Hl := hid hlen
      clear hst hL hlen
      generalize frB B jj = fr at *
      obtain ⟨fn, rfl⟩ := Int.eq_ofNat_of_zero_le h1
      rw [Int.toNat_natCast] at Hl
      go_wp2
      go_round
      case rel => exact ⟨L + 1, fn, by go_num, rfl, by omega, Hl.out⟩
      case measure => simp [intOf]; omega
end Go.Proofs.YtiiiinoappjhdaaDoor
namespace Go.Proofs.YtiiiinoappjhdaaDoor
open Go.RowKit Go.Shelf Go.Maps Go.WideAt
theorem keyIntS : Keyed Tryd.prog 57 := int_keyed Tryd.underlying57
/-- A map from numbers to bools that reads as a set. -/
def SeenMapS (w : World) (bm n : Nat) (S : Nat → Bool) : Prop :=
  ∃ D : DataW Unit, w.ownsMap Tryd.prog 57 (plainElem Tryd.prog 4) bm n D ∧ IsMap D ∧ ∀ p : Nat, D.atKey (.int .u64 p) (.lit (.bool false)) = .lit (.bool (S p))
theorem SeenMapS.made (w : World) : SeenMapS (w.alloc (.map #[] 0)) w.heap.size 0 (fun _ => false) :=
  ⟨.map [], World.ownsMap_made w _ _ _, ⟨[], rfl⟩, fun p => rfl⟩
theorem SeenMapS.look {w : World} {bm n : Nat} {S : Nat → Bool} (h : SeenMapS w bm n S) (p : Nat) (hp : p < 1000000) : (Instr.lookup 94 (.map (some bm)) (.int .u64 p) false).run Tryd.prog w = .ok (.bool (S p)) w := by
  obtain ⟨D, hD, _, hS⟩ := h
  obtain ⟨v, ps, hrun, hv⟩ := hD.lookup keyIntS Tryd.underlying94 (zeroB w) (plainB false) (keyOf_int_mk Tryd.underlying57 (WalkArith.wf_u64 (by omega : 0 ≤ (p : Int) ∧ (p : Int) ≤ 18446744073709551615)))
  rw [hS p] at hv
  obtain ⟨b, rfl, hb⟩ := plainB_inv hv
  rw [hrun]
  simp only [DataW.lit.injEq, Lit.bool.injEq] at hb
  rw [hb]
theorem SeenMapS.put {w : World} {bm n : Nat} {S : Nat → Bool} (h : SeenMapS w bm n S) (hn : n < 1000000) (p : Nat) (hp : p < 1000000) : ∃ w', (Instr.mapUpdate 94 (.map (some bm)) (.int .u64 p) (.bool true)).run Tryd.prog w = .ok () w' ∧ SeenMapS w' bm (n + 1) (fun q => decide (q = p) || S q) ∧ w.grownBy w' (some bm) := by
  obtain ⟨D, hD, hM, hS⟩ := h
  obtain ⟨w', hrun, h1, h2⟩ := hD.update keyIntS Tryd.underlying94 (by unfold maxLen; omega) (keyOf_int_mk Tryd.underlying57 (WalkArith.wf_u64 (by omega : 0 ≤ (p : Int) ∧ (p : Int) ≤ 18446744073709551615))) (plainB true)
  refine ⟨w', hrun, ⟨_, h1, ?_, fun q => ?_⟩, h2⟩
  · obtain ⟨es, rfl⟩ := hM; exact ⟨_, rfl⟩
  · by_cases e : q = p
    · subst e
      rw [atKey_put_same hM (by trivial)]; simp
    · rw [atKey_put_other (by simp; omega), hS q]; simp [e]
theorem SeenMapS.kept {w w' : World} {bm n : Nat} {S : Nat → Bool} (h : SeenMapS w bm n S) (hk : w'.heap[bm]? = w.heap[bm]?) : SeenMapS w' bm n S := by
  obtain ⟨D, ⟨es, clock, hb, F, hs, hD⟩, hM, hS⟩ := h
  exact ⟨D, ⟨es, clock, hk.trans hb, F, hs, hD⟩, hM, hS⟩
theorem SeenMapS.lt {w : World} {bm n : Nat} {S : Nat → Bool} (h : SeenMapS w bm n S) : bm < w.heap.size := by
  obtain ⟨D, hD, _⟩ := h; exact hD.lt
end Go.Proofs.YtiiiinoappjhdaaDoor
namespace Go.Proofs.YtiiiinoappjhdaaDoor
open Go.RowKit Go.Shelf
/-- The cells of steps. -/
def flatBS (B : Steps) : List Value := B.flatMap fun t => [.int .u64 t.1, .int .i64 t.2.1, .int .i64 t.2.2]
theorem flatBS_snoc (B : Steps) (t : Int × Int × Int) : flatBS (B ++ [t]) = flatBS B ++ [.int .u64 t.1, .int .i64 t.2.1, .int .i64 t.2.2] := by simp [flatBS]
theorem flatBS_get : ∀ (B : Steps) (i : Nat), i < B.length → (flatBS B)[i * 3]? = some (.int .u64 (plB B i)) ∧ (flatBS B)[i * 3 + 1]? = some (.int .i64 (frB B i)) ∧ (flatBS B)[i * 3 + 2]? = some (.int .i64 (leB B i))
  | [], i, h => by simp at h
  | t :: B, 0, _ => by refine ⟨?_, ?_, ?_⟩ <;> rfl
  | t :: B, i + 1, h => by
    have ih := flatBS_get B i (by simpa using h)
    have e1 : (i + 1) * 3 = i * 3 + 3 := by omega
    have key : ∀ k, (flatBS (t :: B))[k + 3]? = (flatBS B)[k]? := fun k => by simp [flatBS]
    rw [e1]
    refine ⟨?_, ?_, ?_⟩
    · rw [key]; exact ih.1
    · rw [show i * 3 + 3 + 1 = i * 3 + 1 + 3 by omega, key]; exact ih.2.1
    · rw [show i * 3 + 3 + 2 = i * 3 + 2 + 3 by omega, key]; exact ih.2.2
theorem steps_of_ownS {W : World} {base : Nat} {e : TypeId} {g cap : Nat} {B : Steps} (h : W.ownsRow base e 3 (.slice (some ⟨g, 0, none⟩) B.length cap) B.length (flatBS B)) (hl : B.length ≤ 100000) : StepsAtS W (.slice (some ⟨g, 0, none⟩) B.length cap) B := by
  refine ⟨_, cap, rfl, hl, fun i hi => ⟨g, 0, rfl, ?_⟩⟩
  obtain ⟨h1, h2, h3⟩ := flatBS_get B i hi
  refine ⟨?_, ?_, ?_⟩
  · rw [Nat.zero_add, h.cellAt _ (by omega)]; exact h1
  · rw [Nat.zero_add, h.cellAt _ (by omega)]; exact h2
  · rw [Nat.zero_add, h.cellAt _ (by omega)]; exact h3
end Go.Proofs.YtiiiinoappjhdaaDoor
namespace Go.Proofs.YtiiiinoappjhdaaDoor
open Go.RowKit Go.Shelf
theorem infoStepS : (Tryd.prog.info? 96).map (fun i => (i.zero, i.size, i.bytes)) = some (some (.agg #[.int .u64 0, .int .i64 0, .int .i64 0]), 3, 24) := by kernel_rfl
/-- What holds of a word's function when its round begins. -/
def WordGS (F : Steps) (X : Blocks) (x : Nat × Value) (W : World) : Prop :=
  ∃ b6 b7 g cap B base, x.2 = .func (.func 71) #[] #[.pointer (some ⟨b6, 0, none⟩), .pointer (some ⟨b7, 0, none⟩)] ∧ X b6 ∧ X b7 ∧ X g ∧
    Boxed W b6 97 (.slice (some ⟨g, 0, none⟩) B.length cap) ∧ Boxed W b7 3 (.int .i64 x.1) ∧
    W.ownsRow base 96 3 (.slice (some ⟨g, 0, none⟩) B.length cap) B.length (flatBS B) ∧ TreeB B ∧ x.1 < B.length ∧ B.length ≤ 5000 ∧ wordB B x.1 = wordB F x.1
theorem WordGS.keep {F : Steps} {X : Blocks} {x : Nat × Value} {n₀ : Nat} {W W' : World} (h : WordGS F X x W) (k : Keep n₀ X W W') : WordGS F X x W' := by
  obtain ⟨b6, b7, g, cap, B, base, h1, h2, h3, h4, h5, h6, h7, h8⟩ := h
  exact ⟨b6, b7, g, cap, B, base, h1, h2, h3, h4, (k.block b6 h5.lt (.inr h2)).trans h5, (k.block b7 h6.lt (.inr h3)).trans h6, owns_block h7 (k.block g (own_lt h7).2 (.inr h4)), h8⟩
set_option maxRecDepth 100000 in
set_option maxHeartbeats 1000000 in
theorem word_anyS (F : Steps) (X : Blocks) (i : Nat) (b6 b7 : Nat) (W : World) (h : WordGS F X (i, .func (.func 71) #[] #[.pointer (some ⟨b6, 0, none⟩), .pointer (some ⟨b7, 0, none⟩)]) W) :
    Calls Tryd.prog 71 #[.pointer (some ⟨b6, 0, none⟩), .pointer (some ⟨b7, 0, none⟩)] W fun e w' => ∃ r, e = .returned r ∧ w'.ownsRow W.heap.size 3 1 r (wordB F i).length ((wordB F i).map fun x => .int .i64 x) ∧ Below W.heap.size W w' := by
  obtain ⟨b6', b7', g, cap, B, base, h1, h2, h3, h4, h5, h6, h7, h8, h9, h10, h11⟩ := h
  simp only [Value.func.injEq, true_and] at h1
  obtain ⟨rfl, rfl⟩ : b6 = b6' ∧ b7 = b7' := by simpa using h1
  have c5 := h5.cell
  have c6 := h6.cell
  have hs := spell_anyS _ B i W (steps_of_ownS h7 (by omega)) h8 h9
  rw [h11] at hs
  have Hs := hid hs
  clear hs h1 h11 h7 h8
  go_enter Tryd.func71, Tryd.ntmps71
  go_wp2_with fail
  refine Hs.out.mono ?_
  rintro e w1 ⟨r, rfl, hr, hb⟩
  have Hr := hid hr
  clear hr
  go_wp2
  go_ret
  exact ⟨_, rfl, Hr.out, hb⟩
/-- The map and the steps of a search. -/
structure MemS (base : Nat) (X : Blocks) (bm b6 g cap : Nat) (B : Steps) (W : World) : Prop where
  map : SeenMapS W bm B.length (hasP B)
  row : W.ownsRow base 96 3 (.slice (some ⟨g, 0, none⟩) B.length cap) B.length (flatBS B)
  box : Boxed W b6 97 (.slice (some ⟨g, 0, none⟩) B.length cap)
  xm : X bm
  xg : X g
  x6 : X b6
  lm : base ≤ bm
  l6 : base ≤ b6
theorem MemS.keep {base : Nat} {X : Blocks} {bm b6 g cap : Nat} {B : Steps} {W W' : World} {n₀ : Nat} (h : MemS base X bm b6 g cap B W) (k : Keep n₀ X W W') : MemS base X bm b6 g cap B W' :=
  ⟨h.map.kept (k.block bm h.map.lt (.inr h.xm)), owns_block h.row (k.block g (own_lt h.row).2 (.inr h.xg)), (k.block b6 h.box.lt (.inr h.x6)).trans h.box, h.xm, h.xg, h.x6, h.lm, h.l6⟩
theorem MemS.below {base : Nat} {X : Blocks} {bm b6 g cap : Nat} {B : Steps} {W W' : World} (h : MemS base X bm b6 g cap B W) (k : Below W.heap.size W W') : MemS base X bm b6 g cap B W' := h.keep (Keep.of_below (n₀ := 0) k)
theorem MemS.drew {base : Nat} {X : Blocks} {bm b6 g cap : Nat} {B : Steps} {W : World} (h : MemS base X bm b6 g cap B W) : MemS base X bm b6 g cap B W.drew := h.below (below_dr W 1)
theorem SeenMapS.isMap {w : World} {bm n : Nat} {S : Nat → Bool} (h : SeenMapS w bm n S) : ∃ es c, w.heap[bm]? = some (.map es c) := by
  obtain ⟨D, ⟨es, clock, hb, _⟩, _⟩ := h
  exact ⟨es, clock, hb⟩
theorem MemS.apart {base : Nat} {X : Blocks} {bm b6 g cap : Nat} {B : Steps} {W : World} (h : MemS base X bm b6 g cap B W) : bm ≠ b6 ∧ bm ≠ g ∧ b6 ≠ g := by
  obtain ⟨es, c, hm⟩ := h.map.isMap
  refine ⟨fun e => ?_, fun e => ?_, fun e => ?_⟩
  · have h6 := h.box
    unfold Boxed at h6
    rw [← e, hm] at h6; cases h6
  · rcases h.row.2 with ⟨h', _⟩ | ⟨g', cap', cur, h', hB, hh, _⟩
    · cases h'
    · cases h'
      rw [← e, hm] at hh; cases hh
  · exact (h.box.not_row (by decide) h.row) (by rw [e]; rfl)
/-- A step more: the map first, then the row, then the variable. -/
theorem MemS.add {base : Nat} {X : Blocks} {bm b6 g cap g' cap' : Nat} {B : Steps} {p : Nat} {i x : Int} {W w3 w5 : World} {o : Obj} (h : MemS base X bm b6 g cap B W)
    (hm : SeenMapS w3 bm (B.length + 1) (fun q => decide (q = p) || hasP B q)) (hg3 : W.grownBy w3 (some bm))
    (hown : w5.ownsRow base 96 3 (.slice (some ⟨g', 0, none⟩) (B.length + 1) cap') (B.length + 1) (flatBS B ++ [.int .u64 p, .int .i64 i, .int .i64 x])) (hg5 : (w3.alloc o).grownBy w5 (some g)) (hat : g = g' ∨ g' = (w3.alloc o).heap.size) :
    MemS base (fun k => X k ∨ (W.heap.size ≤ k ∧ k < w5.heap.size)) bm b6 g' cap' (B ++ [((p : Int), i, x)]) (w5.setCell ⟨b6, 0, none⟩ (.slice (some ⟨g', 0, none⟩) (B.length + 1) cap')) ∧
      Turn (fun k => X k ∧ base ≤ k) W (w5.setCell ⟨b6, 0, none⟩ (.slice (some ⟨g', 0, none⟩) (B.length + 1) cap')) ∧ w5.heap.size = (w5.setCell ⟨b6, 0, none⟩ (.slice (some ⟨g', 0, none⟩) (B.length + 1) cap')).heap.size := by
  obtain ⟨a1, a2, a3⟩ := h.apart
  have s3 := hg3.size
  have s5 := hg5.size
  have hgl := own_lt h.row
  have hbl := h.box.lt
  have hml := h.map.lt
  have hs : (w3.alloc o).heap.size = w3.heap.size + 1 := by simp
  have hal : ∀ k, k < w3.heap.size → (w3.alloc o).heap[k]? = w3.heap[k]? := fun k hk => Below.heap_alloc w3 o k hk
  have hg'l := own_lt hown
  have hg'6 : g' ≠ b6 := by rcases hat with e | e <;> omega
  have box3 : Boxed w3 b6 97 (.slice (some ⟨g, 0, none⟩) B.length cap) := (hg3.block b6 hbl (by simpa using fun e => a1 e.symm)).trans h.box
  have box5 : Boxed w5 b6 97 (.slice (some ⟨g, 0, none⟩) B.length cap) := ((hg5.block b6 (by omega) (by simpa using a3)).trans (hal b6 (by omega))).trans box3
  have hoth : ∀ k, k ≠ b6 → (w5.setCell ⟨b6, 0, none⟩ (.slice (some ⟨g', 0, none⟩) (B.length + 1) cap')).heap[k]? = w5.heap[k]? := fun k hk => Below.heap_setCell _ _ _ _ (by simpa using hk)
  have hfun : (fun q => decide (q = p) || hasP B q) = hasP (B ++ [((p : Int), i, x)]) := by
    funext q
    rw [hasP_snoc, Bool.or_comm]
    congr 1
    by_cases e : q = p
    · subst e; simp
    · have : ((p : Int) == (q : Int)) = false := by simp; omega
      rw [this]; simp [e]
  rw [hfun] at hm
  refine ⟨⟨?_, ?_, ?_, .inl h.xm, ?_, .inl h.x6, h.lm, h.l6⟩, ⟨?_, ?_, ?_, ?_, fun k hk hX => ?_⟩, by simp [World.setCell]⟩
  · rw [List.length_append]
    exact hm.kept ((hoth bm a1).trans ((hg5.block bm (by omega) (by simpa using a2)).trans (hal bm (by omega))))
  · rw [List.length_append, flatBS_snoc]
    exact owns_block hown (hoth g' hg'6)
  · rw [List.length_append]
    exact box5.set _
  · rcases hat with e | e
    · rw [← e]; exact .inl h.xg
    · exact .inr ⟨by omega, hg'l.2⟩
  · exact hg5.os.trans hg3.os
  · exact hg5.tape.trans hg3.tape
  · exact hg5.output.trans hg3.output
  · simp [World.setCell]; omega
  · have k1 : k ≠ b6 := fun e => hX (e ▸ ⟨h.x6, h.l6⟩)
    have k2 : k ≠ bm := fun e => hX (e ▸ ⟨h.xm, h.lm⟩)
    have k3 : k ≠ g := fun e => hX (e ▸ ⟨h.xg, hgl.1⟩)
    rw [hoth k k1, hg5.block k (by omega) (by simpa using k3), hal k (by omega), hg3.block k hk (by simpa using k2)]
/-- Where a search stands. -/
structure SWS (J : Blocks → List (Nat × Value) → World → Prop) (n₀ : Nat) (X0 : Blocks) (W : World) (bm b6 b7 i : Nat) (B : Steps) (pre : List (Nat × Value)) (X : Blocks) (g cap : Nat) (wr : World) : Prop where
  mem : MemS W.heap.size X bm b6 g cap B wr
  ibox : Boxed wr b7 3 (.int .i64 i)
  x7 : X b7
  l7 : W.heap.size ≤ b7
  j : J X pre wr
  xlt : ∀ k, X k → k < wr.heap.size
  x0 : ∀ k, X0 k → X k
  kept : Keep n₀ X0 W wr
section
variable {J : Blocks → List (Nat × Value) → World → Prop} {n₀ : Nat} {X0 : Blocks} {W : World} {bm b6 b7 i : Nat} {B : Steps} {pre : List (Nat × Value)} {X : Blocks} {g cap : Nat} {wr : World}
theorem SWS.below (h : SWS J n₀ X0 W bm b6 b7 i B pre X g cap wr) (hJ : Minds J) {w' : World} (k : Below wr.heap.size wr w') : SWS J n₀ X0 W bm b6 b7 i B pre X g cap w' :=
  ⟨h.mem.below k, (k.block b7 h.ibox.lt).trans h.ibox, h.x7, h.l7, hJ X X _ _ _ h.j (Turn.of_below k) (fun _ h => .inl h), fun a ha => Nat.lt_of_lt_of_le (h.xlt a ha) k.size, h.x0, h.kept.trans (Keep.of_below k)⟩
theorem SWS.drew (h : SWS J n₀ X0 W bm b6 b7 i B pre X g cap wr) (hJ : Minds J) : SWS J n₀ X0 W bm b6 b7 i B pre X g cap wr.drew := h.below hJ (below_dr wr 1)
theorem SWS.round (h : SWS J n₀ X0 W bm b6 b7 i B pre X g cap wr) {pre' : List (Nat × Value)} {w' : World} (hj : J X pre' w') (k : Keep n₀ X wr w') : SWS J n₀ X0 W bm b6 b7 i B pre' X g cap w' :=
  ⟨h.mem.keep k, (k.block b7 h.ibox.lt (.inr h.x7)).trans h.ibox, h.x7, h.l7, hj, fun a ha => Nat.lt_of_lt_of_le (h.xlt a ha) k.size, h.x0, h.kept.trans (k.mono h.x0)⟩
theorem SWS.add (h : SWS J n₀ X0 W bm b6 b7 i B pre X g cap wr) (hJ : Minds J) (hn : n₀ ≤ W.heap.size) (h0 : ∀ k, X0 k → k < W.heap.size) {g' cap' p : Nat} {x : Int} {w3 w5 : World} {o : Obj}
    (hm : SeenMapS w3 bm (B.length + 1) (fun q => decide (q = p) || hasP B q)) (hg3 : wr.grownBy w3 (some bm))
    (hown : w5.ownsRow W.heap.size 96 3 (.slice (some ⟨g', 0, none⟩) (B.length + 1) cap') (B.length + 1) (flatBS B ++ [.int .u64 p, .int .i64 i, .int .i64 x])) (hg5 : (w3.alloc o).grownBy w5 (some g)) (hat : g = g' ∨ g' = (w3.alloc o).heap.size) :
    ∃ X', SWS J n₀ X0 W bm b6 b7 i (B ++ [((p : Int), (i : Int), x)]) pre X' g' cap' (w5.setCell ⟨b6, 0, none⟩ (.slice (some ⟨g', 0, none⟩) (B.length + 1) cap')) := by
  obtain ⟨m1, m2, m3⟩ := h.mem.add (i := (i : Int)) (x := x) hm hg3 hown hg5 hat
  have s3 := hg3.size
  have s5 := hg5.size
  have hs : (w3.alloc o).heap.size = w3.heap.size + 1 := by simp
  have h7l := h.ibox.lt
  obtain ⟨es, c, hmap⟩ := h.mem.map.isMap
  have k1 : b7 ≠ b6 := fun e => by
    have h6 := h.mem.box
    have h7 := h.ibox
    unfold Boxed at h6 h7
    rw [e, h6] at h7; cases h7
  have k2 : b7 ≠ bm := fun e => by
    have h7 := h.ibox
    unfold Boxed at h7
    rw [e, hmap] at h7; cases h7
  have k3 : some b7 ≠ (Value.slice (some ⟨g, 0, none⟩) B.length cap).ownBlock := h.ibox.not_row (by decide) h.mem.row
  refine ⟨_, ⟨m1, ?_, .inl h.x7, h.l7, hJ _ _ _ _ _ h.j (m2.mono fun k hk => hk.1) (fun k hk => hk.imp id (fun h => h.1)), fun k hk => ?_, fun k hk => .inl (h.x0 k hk), h.kept.trans (Keep.of_turn m2 hn h0)⟩⟩
  · have e1 : (w5.setCell ⟨b6, 0, none⟩ (.slice (some ⟨g', 0, none⟩) (B.length + 1) cap')).heap[b7]? = w5.heap[b7]? := Below.heap_setCell _ _ _ _ (by simpa using k1)
    exact e1.trans ((hg5.block b7 (by omega) k3).trans ((Below.heap_alloc w3 o b7 (by omega)).trans ((hg3.block b7 h7l (by simpa using k2)).trans h.ibox)))
  · rcases hk with hk | hk
    · have := h.xlt k hk; omega
    · omega
/-- The next round has a variable of its own. -/
theorem SWS.next (h : SWS J n₀ X0 W bm b6 b7 i B pre X g cap wr) (hJ : Minds J) {i' : Nat} : ∃ X', SWS J n₀ X0 W bm b6 wr.heap.size i' B pre X' g cap (wr.alloc (.cells #[.int .i64 i'] 3)) := by
  have hb : Below wr.heap.size wr (wr.alloc (.cells #[.int .i64 i'] 3)) := bal (Below.refl _ wr) _
  obtain ⟨a1, a2, a3, a4, a5, a6, a7, a8⟩ := h.mem.below hb
  have hW := h.kept.size
  exact ⟨fun k => X k ∨ k = wr.heap.size, ⟨⟨a1, a2, a3, .inl a4, .inl a5, .inl a6, a7, a8⟩, Boxed.new wr _ _, .inr rfl, hW, hJ _ _ _ _ _ h.j (Turn.of_below hb) (fun k hk => hk.imp id (fun e => Nat.le_of_eq e.symm)),
    fun k hk => by
      simp only [World.size_alloc]
      rcases hk with hk | hk
      · have := h.xlt k hk; omega
      · omega, fun k hk => .inl (h.x0 k hk), h.kept.trans (Keep.of_below hb)⟩⟩
theorem SWS.start (hJ : Minds J) (h0 : J X0 [] W) (hX0 : ∀ k, X0 k → k < W.heap.size) {w1 : World} {s : Nat} (hB1 : Below W.heap.size W w1) (hgs : W.heap.size < w1.heap.size) (hmap : SeenMapS w1 W.heap.size 1 (fun q => decide (q = s) || false)) :
    SWS J n₀ X0 W W.heap.size (w1.heap.size + 1) (w1.heap.size + 1 + 1) 0 [((s : Int), -1, 0)] [] (fun k => X0 k ∨ (W.heap.size ≤ k ∧ k < w1.heap.size + 3)) w1.heap.size 1
      (((w1.alloc (.cells #[.int .u64 s, .int .i64 (-1), .int .i64 0] 96)).alloc (.cells #[.slice (some ⟨w1.heap.size, 0, none⟩) 1 1] 97)).alloc (.cells #[.int .i64 0] 3)) := by
  have b1 : Below w1.heap.size w1 (((w1.alloc (.cells #[.int .u64 s, .int .i64 (-1), .int .i64 0] 96)).alloc (.cells #[.slice (some ⟨w1.heap.size, 0, none⟩) 1 1] 97)).alloc (.cells #[.int .i64 0] 3)) := bal (bal (bal (Below.refl _ w1) _) _) _
  have hBT := btr hB1 b1
  have hfun : (fun q => decide (q = s) || false) = hasP [((s : Int), -1, 0)] := by
    funext q
    by_cases e : q = s
    · subst e; simp [hasP]
    · have : ((s : Int) == (q : Int)) = false := by simp; omega
      simp [hasP, e, this]
  rw [hfun] at hmap
  have hrow := World.ownsRow_lit (base := W.heap.size) (e := 96) (size := 3) w1 #[.int .u64 s, .int .i64 (-1), .int .i64 0] 1 (by omega) (by decide) rfl
  have hrow3 := owns_block (w' := (((w1.alloc (.cells #[.int .u64 s, .int .i64 (-1), .int .i64 0] 96)).alloc (.cells #[.slice (some ⟨w1.heap.size, 0, none⟩) 1 1] 97)).alloc (.cells #[.int .i64 0] 3))) hrow ((bal (bal (Below.refl _ _) _) _).block _ (by simp))
  have q2 := (Boxed.new (w1.alloc (.cells #[.int .u64 s, .int .i64 (-1), .int .i64 0] 96)) 97 (.slice (some ⟨w1.heap.size, 0, none⟩) 1 1)).alloc (.cells #[.int .i64 0] 3)
  have q3 := Boxed.new ((w1.alloc (.cells #[.int .u64 s, .int .i64 (-1), .int .i64 0] 96)).alloc (.cells #[.slice (some ⟨w1.heap.size, 0, none⟩) 1 1] 97)) 3 (.int .i64 0)
  simp only [World.size_alloc] at q2 q3
  refine ⟨⟨hmap.kept (b1.block _ hgs), hrow3, q2, .inr ⟨Nat.le_refl _, by omega⟩, .inr ⟨by omega, by omega⟩, .inr ⟨by omega, by omega⟩, Nat.le_refl _, by omega⟩, q3, .inr ⟨by omega, by omega⟩, by omega, hJ _ _ _ _ _ h0 (Turn.of_below hBT) (fun k hk => hk.imp id (fun h => h.1)), fun k hk => ?_, fun k hk => .inl hk, Keep.of_below hBT⟩
  simp only [World.size_alloc]
  rcases hk with hk | hk
  · have := hX0 k hk; omega
  · omega
end
end Go.Proofs.YtiiiinoappjhdaaDoor
namespace Go.Proofs.YtiiiinoappjhdaaDoor
open Go.RowKit Go.Shelf
attribute [local go_sem] Oper.semAt_some
/-- What yield is told of a step. -/
def encWS (F : Steps) (x : Nat × Value) : Array Value := #[.int .u64 (plB F x.1), x.2]
set_option maxRecDepth 100000 in
set_option maxHeartbeats 2000000 in
theorem Words_seqS (ld : Nat → Nat → Nat) (n K s ab b1 b2 b3 n₀ : Nat) (R : World → Prop) (W0 : World) (X0 : Blocks) (hn60 : n ≤ 5000) (hK : K ≤ 1000) (hs : s < n) (hld : ∀ p x, p < n → x < K → ld p x < n)
    (h1 : X0 b1) (h2 : X0 b2) (h3 : X0 b3) (hX0 : ∀ k, X0 k → k < W0.heap.size) (hn₀ : n₀ ≤ W0.heap.size) (hR : ∀ W W', R W → Keep n₀ X0 W W' → R W') (hRW : R W0)
    (hlead : ∀ p x W, R W → p < n → x < K → Calls Tryd.prog 57 #[.int .u64 (p : Nat), .int .i64 (x : Nat), .pointer (some ⟨ab, 0, none⟩)] W fun e W' => e = .returned (.int .u64 (ld p x : Nat)) ∧ Below W.heap.size W W')
    (c1 : W0.cell? ⟨b1, 0, none⟩ = some (.int .u64 s)) (c2 : W0.cell? ⟨b2, 0, none⟩ = some (.int .i64 K)) (c3 : W0.cell? ⟨b3, 0, none⟩ = some (.func (.func 57) #[] #[.pointer (some ⟨ab, 0, none⟩)])) :
    SeqO 70 #[] #[.pointer (some ⟨b1, 0, none⟩), .pointer (some ⟨b2, 0, none⟩), .pointer (some ⟨b3, 0, none⟩)] (encWS (bfsTo ld K s n)) n₀ (WordGS (bfsTo ld K s n))
      (fun xs => xs.map (·.1) = List.range (bfsTo ld K s n).length) (fun pre => ∃ k, k ≤ (bfsTo ld K s n).length ∧ pre.map (·.1) = List.range k) W0 X0 := by
  obtain ⟨j0, hj, hy0, hy1, hy2⟩ := info_parts infoStepS
  intro l J Jx W hW hJ hJx hY h0
  have hWs := hW.size
  have k0 : Keep n₀ X0 W0 W := Keep.of_below hW
  have d1 := (hW.cell (p := ⟨b1, 0, none⟩) (hX0 _ h1)).trans c1
  have d2 := (hW.cell (p := ⟨b2, 0, none⟩) (hX0 _ h2)).trans c2
  have d3 := (hW.cell (p := ⟨b3, 0, none⟩) (hX0 _ h3)).trans c3
  have hRw := hR _ _ hRW k0
  have hsz := hid hX0
  have Hlead := hid hlead
  have HY := hid hY
  have HR := hid hR
  clear hlead hY hR c1 c2 c3 hX0
  obtain ⟨w1, hput, hmap, hgr⟩ := (SeenMapS.made W).put (by decide) s (by omega)
  have hmm := @run_makeMap Tryd.prog
  have hgs := hgr.size
  have hWs1 : (W.alloc (.map #[] 0)).heap.size = W.heap.size + 1 := by simp
  have e1 : (W.alloc (.map #[] 0)).cell? ⟨b1, 0, none⟩ = some (.int .u64 s) := ((bal (Below.refl _ W) _).cell (p := ⟨b1, 0, none⟩) (World.block_lt_of_cell? _ _ d1)).trans d1
  have hB1 : Below W.heap.size W w1 := (bal (Below.refl _ W) _).grown hgr (by simp) (fun q hq => by cases hq; exact Nat.le_refl _)
  have f1 := (hB1.cell (p := ⟨b1, 0, none⟩) (World.block_lt_of_cell? _ _ d1)).trans d1
  have f2 := (hB1.cell (p := ⟨b2, 0, none⟩) (World.block_lt_of_cell? _ _ d2)).trans d2
  have f3 := (hB1.cell (p := ⟨b3, 0, none⟩) (World.block_lt_of_cell? _ _ d3)).trans d3
  refine (callsIn_wide (n := 0)).1 ?_
  refine callsIn_of_wp Tryd.func70 rfl trivial ?_ rfl
  simp only [Tryd.ntmps70, List.size_toArray, List.length_cons, List.length_nil, Nat.reduceAdd, Nat.reduceSub, Array.replicate_succ, Array.replicate_zero, List.push_toArray, List.append_toArray, List.nil_append, List.cons_append]
  refine wpIn_wide.2 ?_
  have hX0W : ∀ k, X0 k → k < W.heap.size := fun k hk => by have := hsz.out k hk; omega
  have hST := SWS.start (n₀ := n₀) hJ h0 hX0W hB1 (by omega) hmap
  have hgood := hid (fun i => GoodB.bfs (n := n) (K := K) (s := s) (ld := ld) hs hK hld i)
  have hsuc := hid (fun i => show bfsTo ld K s (i + 1) = (if i < (bfsTo ld K s i).length then rowB ld (bfsTo ld K s i) (plB (bfsTo ld K s i) i).toNat i K else bfsTo ld K s i) from rfl)
  have Hld := hid hld
  have HST := hid hST
  clear hST hmap hld
  go_wp2_with fail
  go_loopw [7] (fun r wr => ∃ (i b7 : Nat) (pre : List (Nat × Value)) (X : Blocks) (g cap : Nat), r = .pointer (some ⟨b7, 0, none⟩) ∧ i ≤ (bfsTo ld K s i).length ∧ pre.map (·.1) = List.range i ∧ SWS J n₀ X0 W W.heap.size (w1.heap.size + 1) b7 i (bfsTo ld K s i) pre X g cap wr) (fun r wr => n + 1 - boxI r wr)
  case atStart => exact ⟨0, _, [], _, _, _, rfl, Nat.zero_le _, rfl, HST.out⟩
  case round =>
    obtain ⟨i, b7, pre, X, g, cap, rfl, hi, hpre, hSW⟩ := hrel
    have hgi := hgood.out i
    have hlen := hgi.len
    have m7 := hSW.ibox.cell
    have m7f := hSW.ibox.frozen
    have m6 := hSW.mem.box.cell
    have Hpre := hid hpre
    have HS := hid hSW
    clear hpre
    by_cases hlt : i < (bfsTo ld K s i).length
    · have hlts : (i : Int) < (bfsTo ld K s i).length := by omega
      obtain ⟨q1, _, _⟩ := flatBS_get _ i hlt
      rw [← hSW.mem.row.cellAt (i * 3) (by omega)] at q1
      obtain ⟨p, hp, hpn⟩ := hgi.below i hlt
      rw [hp] at q1
      have hs1 := hsuc.out i
      rw [if_pos hlt, hp, Int.toNat_natCast] at hs1
      have hpreF : bfsTo ld K s i <+: bfsTo ld K s n := by
        have := bfs_pre_le ld K s i (n - i)
        rwa [show i + (n - i) = n by omega] at this
      have hgn := hgood.out n
      have hFl := hpreF.length_le
      have hpF : plB (bfsTo ld K s n) i = (p : Int) := (pre_pl hpreF i hlt).1.trans hp
      have hwF := wordB_pre hpreF hgi hgn i hlt
      have hG : WordGS (bfsTo ld K s n) X (i, .func (.func 71) #[] #[.pointer (some ⟨w1.heap.size + 1, 0, none⟩), .pointer (some ⟨b7, 0, none⟩)]) wr :=
        ⟨_, _, g, cap, _, _, rfl, hSW.mem.x6, hSW.x7, hSW.mem.xg, hSW.mem.box, hSW.ibox, hSW.mem.row, hgi.tree, hlt, by omega, hwF.symm⟩
      have hsp : ∃ k, k ≤ (bfsTo ld K s n).length ∧ (pre ++ [(i, Value.func (.func 71) #[] #[.pointer (some ⟨w1.heap.size + 1, 0, none⟩), .pointer (some ⟨b7, 0, none⟩)])]).map (·.1) = List.range k :=
        ⟨i + 1, by omega, by rw [List.map_append, Hpre.out, List.range_succ]; rfl⟩
      have hy0 := HY.out X pre _ wr hSW.xlt hSW.j hG hsp
      rw [show encWS (bfsTo ld K s n) (i, Value.func (.func 71) #[] #[.pointer (some ⟨w1.heap.size + 1, 0, none⟩), .pointer (some ⟨b7, 0, none⟩)]) = #[.int .u64 (p : Nat), Value.func (.func 71) #[] #[.pointer (some ⟨w1.heap.size + 1, 0, none⟩), .pointer (some ⟨b7, 0, none⟩)]] from by unfold encWS; rw [hpF]] at hy0
      have Hsp := hid hsp
      have Hs1 := hid hs1
      have HG := hid hgi
      clear hs1 hsp hG hpreF hgn hpF hwF hp hSW hgi
      obtain ⟨pre', hpr'⟩ : ∃ q, pre ++ [(i, Value.func (.func 71) #[] #[.pointer (some ⟨w1.heap.size + 1, 0, none⟩), .pointer (some ⟨b7, 0, none⟩)])] = q := ⟨_, rfl⟩
      rw [hpr'] at hy0 Hsp
      have hpr1 : pre'.map (·.1) = List.range (i + 1) := by rw [← hpr', List.map_append, Hpre.out, List.range_succ]; rfl
      clear hpr'
      obtain ⟨fn, tmps, assign, body, hy, hRd⟩ := hy0
      have Hrd := hid hRd
      have Hpr1 := hid hpr1
      clear hRd hpr1
      have hm0 : boxI (.pointer (some ⟨b7, 0, none⟩)) wr = i := by simp [boxI, m7]
      generalize hBB : bfsTo ld K s i = B at *
      go_upto_region 6 with fail
      refine (wpIn_wide (n := 0)).1 ?_
      gi_wp2_with fail
      refine ⟨rfl, Hrd.out.mono ?_⟩
      rintro e W3 ⟨⟨rfl, hJ3⟩ | ⟨rfl, hJ3⟩, hk3⟩
      · have S3 := HS.out.round hJ3 hk3
        have r2 := keep_cell S3.kept h2 d2
        clear HS m7 m6 q1 hk3 hJ3
        gi_wp2_with fail
        go_wp2_with fail
        go_loopw [34] (fun r wr => ∃ (x : Nat) (X : Blocks) (g cap : Nat), x ≤ K ∧ r = .int .i64 x ∧ SWS J n₀ X0 W W.heap.size (w1.heap.size + 1) b7 i (rowB ld B p i x) pre' X g cap wr) (fun r _ => K - (intOf r).toNat)
        case atStart => exact ⟨0, X, g, cap, Nat.zero_le _, rfl, S3⟩
        case round =>
          clear S3 r2
          obtain ⟨x, X, g, cap, hx, rfl, hS⟩ := hrel
          by_cases hxl : x < K
          · have hxs : (x : Int) < K := by omega
            have hgx := GoodB.row HG.out hlt x (by omega) (fun y hy => Hld.out p y hpn (by omega))
            have hlx := hgx.len
            have hRr := HR.out _ _ hRw hS.kept
            have hL := Hlead.out p x wr hRr hpn hxl
            have hqn := Hld.out p x hpn hxl
            have r3 := keep_cell hS.kept h3 d3
            have HSx := hid hS
            have Hs2 := hid (show rowB ld B p i (x + 1) = (if hasP (rowB ld B p i x) (ld p x) then rowB ld B p i x else rowB ld B p i x ++ [(((ld p x : Nat) : Int), (i : Int), (x : Int))]) from rfl)
            clear hS hgx
            generalize rowB ld B p i x = C at *
            generalize ld p x = q at *
            go_wp2_with fail
            refine hL.mono ?_
            rintro e w2 ⟨rfl, hb⟩
            have S2 := HSx.out.below hJ hb
            have hlk := S2.mem.map.look q (by omega)
            cases hb' : hasP C q with
            | true =>
              rw [hb'] at hlk
              have HS2 := hid S2
              clear S2
              go_wp2
              go_roundw
              case rel => exact ⟨x + 1, X, g, cap, by omega, by go_num, by rw [Hs2.out, if_pos hb']; exact HS2.out⟩
              case measure => simp [intOf]; omega
            | false =>
              rw [hb'] at hlk
              obtain ⟨w3, hput3, hm3, hg3⟩ := S2.mem.map.put (by omega) q (by omega)
              obtain ⟨a1, a2, a3⟩ := S2.mem.apart
              have hs3 := hg3.size
              have hgl := own_lt S2.mem.row
              have hbl := S2.mem.box.lt
              have h7l := S2.ibox.lt
              have hml := S2.mem.map.lt
              have hw2 := S2.kept.size
              have t6 : Boxed w3 (w1.heap.size + 1) 97 (.slice (some ⟨g, 0, none⟩) C.length cap) := (hg3.block _ hbl (by simpa using fun e => a1 e.symm)).trans S2.mem.box
              have t7 : Boxed w3 b7 3 (.int .i64 i) := (hg3.block b7 h7l (fun e => by
                obtain ⟨es, c, hmp⟩ := S2.mem.map.isMap
                have h7 := S2.ibox
                unfold Boxed at h7
                cases e
                rw [hmp] at h7; cases h7)).trans S2.ibox
              have tr := owns_block S2.mem.row (hg3.block g hgl.2 (by simpa using fun e => a2 e.symm))
              have t6c := t6.cell
              have t7c := t7.cell
              have HS2 := hid S2
              have Htr := hid tr
              have Hm3 := hid hm3
              have T6 := hid t6
              have hb7' := hid hb'
              clear S2 tr hm3 t6 t7
              have hts : (Value.slice (some ⟨g, 0, none⟩) C.length cap).ownBlock = some g := rfl
              go_wp2_with (at_builtin; refine wpList_append_lies _ rfl _ _ 97 rfl W.heap.size 96 j0 (.agg #[.int .u64 0, .int .i64 0, .int .i64 0]) 3 24 Tryd.underlying97 hj hy0 hy1 hy2 rfl (by decide) (.slice (some ⟨g, 0, none⟩) C.length cap) C.length (flatBS C) rfl (owns_block Htr.out (Below.heap_alloc w3 _ _ (by omega))) ⟨w3.heap.size, 0, none⟩ 1 1 [.int .u64 (q : Int), .int .i64 (i : Int), .int .i64 (x : Int)] rfl rfl (cells_three _ _ _ _ _) (by simp [Value.oneCell']) (by decide) (by unfold maxLen; omega) (by omega) (by simp; omega) _ rfl ?_; intro g1 cap1 w5 hown' hgrow' hat hlt1; have t6w : Boxed w5 (w1.heap.size + 1) 97 (.slice (some ⟨g, 0, none⟩) C.length cap) := (hgrow'.block _ (by simp; omega) (by rw [hts]; simpa using a3)).trans ((Below.heap_alloc w3 _ _ (by omega)).trans T6.out); have t6wc := t6w.cell; have t6wf := t6w.frozen)
              obtain ⟨X', hX'⟩ := HS2.out.add hJ (by omega) hX0W Hm3.out hg3 hown' hgrow' (hat.imp (fun e => by rw [hts] at e; exact Option.some.inj e) id)
              have HX := hid hX'
              clear hX'
              go_wp2
              go_roundw
              case rel => exact ⟨x + 1, X', g1, cap1, by omega, by go_num, by rw [Hs2.out, if_neg (by rw [hb7'.out]; decide)]; exact HX.out⟩
              case measure => simp [intOf]; omega
          · obtain rfl : x = K := by omega
            obtain ⟨X', hX'⟩ := hS.next hJ (i' := i + 1)
            have n7 := hS.ibox.cell
            have n7f := hS.ibox.frozen
            have hle := (rowB_pre ld B p i x).length_le
            have HX := hid hX'
            have Hle := hid hle
            clear hS hX' hle
            go_wp2
            go_roundw
            case rel => exact ⟨i + 1, _, pre', X', g, cap, rfl, by rw [Hs1.out]; have := Hle.out; omega, Hpr1.out, by rw [Hs1.out]; exact HX.out⟩
            case measure =>
              have hi1 : boxI (.pointer (some ⟨wr.heap.size, 0, none⟩)) (wr.alloc (.cells #[.int .i64 ((i : Int) + 1)] 3)) = i + 1 := by simp [boxI]
              simp only [hm0, hi1]; omega
      · gi_wp2_with fail
        go_wp2
        (try simp only [Exit.inBlock, Exit.then])
        refine bodyPost_ret (results_none rfl _ _ _) rfl ?_
        exact ⟨⟨_, rfl⟩, .inr ⟨_, pre', Hsp.out, hJ3⟩⟩
    · have hF : bfsTo ld K s n = bfsTo ld K s i := by
        have := bfs_stop ld K s i (by omega) (n - i)
        rwa [show i + (n - i) = n by omega] at this
      have hil : i = (bfsTo ld K s i).length := by omega
      have hlts : ¬ ((i : Int) < (bfsTo ld K s i).length) := by omega
      have HF := hid (show pre.map (·.1) = List.range (bfsTo ld K s n).length by rw [hF, ← hil]; exact Hpre.out)
      have Hj := hid hSW.j
      clear hF hil hSW hgi
      generalize hBB : bfsTo ld K s i = B at *
      go_wp2
      refine bodyPost_end (results_none rfl _ _ _) rfl ?_
      exact ⟨⟨_, rfl⟩, .inl ⟨_, pre, HF.out, Hj.out⟩⟩
end Go.Proofs.YtiiiinoappjhdaaDoor
namespace Go.Proofs.YtiiiinoappjhdaaDoor
open Go.RowKit Go.Shelf
/-- The error of an automaton whose sets are not to be searched. -/
def smallE (m : List (List Int)) : Int := if validM m = true then (if 12 < m.length then 3 else 0) else 1
theorem smallE_cases (m : List (List Int)) : (validM m = false ∧ smallE m = 1) ∨ (validM m = true ∧ 12 < m.length ∧ smallE m = 3) ∨ (validM m = true ∧ m.length ≤ 12 ∧ smallE m = 0) := by
  unfold smallE
  cases hv : validM m with
  | false => exact .inl ⟨rfl, by simp⟩
  | true =>
    by_cases h : 12 < m.length
    · exact .inr (.inl ⟨rfl, h, by simp [h]⟩)
    · exact .inr (.inr ⟨rfl, by omega, by simp [h]⟩)
set_option maxRecDepth 100000 in
set_option maxHeartbeats 1000000 in
theorem searched_any (v : Value) (m : List (List Int)) (w : World) (c : Int) (h : Rows w v m) (hc : smallE m = c) :
    Calls Tryd.prog 34 #[.agg #[v]] w fun e w' => e = .returned (.int .i64 c) ∧ Below w.heap.size w w' := by
  obtain ⟨A, cap, rfl, hml, -⟩ := id h
  have hX := bal (Below.refl _ w) (.cells #[.slice A m.length cap] 24)
  have hbx := (Boxed.new w 24 (.slice A m.length cap)).cell
  have hr := h.below hX
  go_enter Tryd.func34, Tryd.ntmps34
  go_wp2_with fail
  generalize w.alloc (.cells #[.slice A m.length cap] 24) = X at *
  rcases smallE_cases m with ⟨hv, he⟩ | ⟨hv, h12, he⟩ | ⟨hv, h12, he⟩
  · obtain rfl : c = 1 := by rw [← hc, he]
    clear hc he
    refine (Valid_bool _ m false _ hr hv).mono ?_
    rintro e w1 ⟨rfl, h1⟩
    go_wp2
    go_ret
    exact ⟨rfl, btr hX h1⟩
  · obtain rfl : c = 3 := by rw [← hc, he]
    clear hc he
    refine (Valid_bool _ m true _ hr hv).mono ?_
    rintro e w1 ⟨rfl, h1⟩
    have c1 := (h1.cell (p := ⟨w.heap.size, 0, none⟩) (World.block_lt_of_cell? _ _ hbx)).trans hbx
    have d1 : decide ((12 : Int) < m.length) = true := by simp; omega
    go_wp2
    go_ret
    exact ⟨rfl, btr hX h1⟩
  · obtain rfl : c = 0 := by rw [← hc, he]
    clear hc he
    refine (Valid_bool _ m true _ hr hv).mono ?_
    rintro e w1 ⟨rfl, h1⟩
    have c1 := (h1.cell (p := ⟨w.heap.size, 0, none⟩) (World.block_lt_of_cell? _ _ hbx)).trans hbx
    have d1 : decide ((12 : Int) < m.length) = false := by simp; omega
    go_wp2
    go_ret
    exact ⟨rfl, btr hX h1⟩
/-- Where a letter leads from a set. -/
def imgS (m : List (List Int)) (S x : Nat) : Nat := imgTo m (x : Int) (elems S)
theorem imgS_lt {m : List (List Int)} (hv : validM m = true) {S x : Nat} (hS : S < 2 ^ m.length) (hx : x < letters m) : imgS m S x < 2 ^ m.length :=
  imgTo_lt m _ m.length _ (fun s hs => (nx_ok hv (elems_lt hS hs) (by omega) (by omega)).1)
set_option maxRecDepth 100000 in
set_option maxHeartbeats 400000 in
theorem imgLead_any (A : Option Addr) (cap : Nat) (m : List (List Int)) (ab S x : Nat) (w : World) (hc : w.cell? ⟨ab, 0, none⟩ = some (.slice A m.length cap)) (h : Rows w (.slice A m.length cap) m) (hT : Tab w) (hv : validM m = true) (hS : S < 2 ^ m.length) (hx : x < letters m) :
    Calls Tryd.prog 57 #[.int .u64 (S : Nat), .int .i64 (x : Nat), .pointer (some ⟨ab, 0, none⟩)] w fun e w' => e = .returned (.int .u64 (imgS m S x : Nat)) ∧ Below w.heap.size w w' := by
  go_enter Tryd.func57, Tryd.ntmps57
  go_wp2_with fail
  refine (SetImage_any _ m S x _ hT h hv hS hx).mono ?_
  rintro e w1 ⟨rfl, h1⟩
  go_wp2
  go_ret
  exact ⟨rfl, h1⟩
set_option maxRecDepth 100000 in
set_option maxHeartbeats 400000 in
theorem WordsS_fn (s K : Int) (gf : Nat) (lb : Array Value) (w : World) :
    Calls Tryd.prog 56 #[.int .u64 s, .int .i64 K, .func (.func gf) #[] lb] w fun e w' => e = .returned (.func (.func 70) #[] #[.pointer (some ⟨w.heap.size, 0, none⟩), .pointer (some ⟨w.heap.size + 1, 0, none⟩), .pointer (some ⟨w.heap.size + 1 + 1, 0, none⟩)]) ∧
      w' = ((w.alloc (.cells #[.int .u64 s] 57)).alloc (.cells #[.int .i64 K] 3)).alloc (.cells #[.func (.func gf) #[] lb] 84) := by
  go_enter Tryd.func56, Tryd.ntmps56
  go_wp2
  go_ret
  exact ⟨rfl, rfl⟩
/-- The iterator over the images, and what it holds. -/
def ImagesIs (m : List (List Int)) (A : Option Addr) (cap : Nat) (w : World) (e : Ending) (w' : World) : Prop :=
  ∃ ab b1 b2 b3, e = .returned (.func (.func 70) #[] #[.pointer (some ⟨b1, 0, none⟩), .pointer (some ⟨b2, 0, none⟩), .pointer (some ⟨b3, 0, none⟩)]) ∧
    w'.cell? ⟨ab, 0, none⟩ = some (.slice A m.length cap) ∧ w'.cell? ⟨b1, 0, none⟩ = some (.int .u64 ((2 ^ m.length - 1 : Nat) : Int)) ∧ w'.cell? ⟨b2, 0, none⟩ = some (.int .i64 (letters m : Nat)) ∧
    w'.cell? ⟨b3, 0, none⟩ = some (.func (.func 57) #[] #[.pointer (some ⟨ab, 0, none⟩)]) ∧ w.heap.size ≤ ab ∧ w.heap.size ≤ b1 ∧ w.heap.size ≤ b2 ∧ w.heap.size ≤ b3 ∧ Below w.heap.size w w'
set_option maxRecDepth 100000 in
set_option maxHeartbeats 1000000 in
theorem images_any (A : Option Addr) (cap : Nat) (m : List (List Int)) (w : World) (h : Rows w (.slice A m.length cap) m) (hv : validM m = true) :
    Calls Tryd.prog 35 #[.agg #[.slice A m.length cap]] w (ImagesIs m A cap w) := by
  obtain ⟨p1, p2, -⟩ := valid_parts hv
  obtain ⟨b, off, A0, cap0, hA, hrow0⟩ := row_zero h hv
  subst hA
  have hX := bal (Below.refl _ w) (.cells #[.slice (some ⟨b, off, none⟩) m.length cap] 24)
  have hbx := (Boxed.new w 24 (.slice (some ⟨b, off, none⟩) m.length cap)).cell
  have hin : (0 : Int) < m.length := by omega
  have hin2 : 0 < m.length := by omega
  have hr0 := (hX.cell (p := ⟨b, off, none⟩) (World.block_lt_of_cell? _ _ hrow0)).trans hrow0
  have hXs : w.heap.size + 1 = (w.alloc (.cells #[.slice (some ⟨b, off, none⟩) m.length cap] 24)).heap.size := by simp
  go_enter Tryd.func35, Tryd.ntmps35
  go_wp2_with fail
  generalize w.alloc (.cells #[.slice (some ⟨b, off, none⟩) m.length cap] 24) = X at *
  have keep := hid (fun (w' : World) (hb : Below X.heap.size X w') => show w'.cell? ⟨w.heap.size, 0, none⟩ = some (.slice (some ⟨b, off, none⟩) m.length cap) ∧ w'.cell? ⟨b, off, none⟩ = some (.slice A0 (letters m) cap0) from ⟨(hb.cell (p := ⟨w.heap.size, 0, none⟩) (World.block_lt_of_cell? _ _ hbx)).trans hbx, (hb.cell (p := ⟨b, off, none⟩) (World.block_lt_of_cell? _ _ hr0)).trans hr0⟩)
  go_region_held3 (fun w' => w'.cell? ⟨w.heap.size, 0, none⟩ = some (.slice (some ⟨b, off, none⟩) m.length cap) ∧ w'.cell? ⟨b, off, none⟩ = some (.slice A0 (letters m) cap0)) (first | exact keep.out _ (below_dr X 1) | exact keep.out _ (bal (bal (bal (below_dr X 1) _) _) _) | assumption) (first
    | (go_at_call 51; go_must (refine (Below_any m.length _ p2).mono ?_; rintro e y1 ⟨rfl, rfl⟩))
    | (go_at_call 56; go_must (refine (WordsS_fn _ _ _ _ _).mono ?_; rintro e y1 ⟨rfl, rfl⟩)))
  all_goals go_wp2
  all_goals
    have q1 := ((Boxed.new X 57 (.int .u64 ((2 ^ m.length - 1 : Nat) : Int))).alloc (.cells #[.int .i64 (letters m : Nat)] 3)).alloc (.cells #[.func (.func 57) #[] #[.pointer (some ⟨w.heap.size, 0, none⟩)]] 84)
    have q2 := (Boxed.new (X.alloc (.cells #[.int .u64 ((2 ^ m.length - 1 : Nat) : Int)] 57)) 3 (.int .i64 (letters m : Nat))).alloc (.cells #[.func (.func 57) #[] #[.pointer (some ⟨w.heap.size, 0, none⟩)]] 84)
    have q3 := Boxed.new ((X.alloc (.cells #[.int .u64 ((2 ^ m.length - 1 : Nat) : Int)] 57)).alloc (.cells #[.int .i64 (letters m : Nat)] 3)) 84 (.func (.func 57) #[] #[.pointer (some ⟨w.heap.size, 0, none⟩)])
    have yT := bal (bal (bal (Below.refl _ X) (.cells #[.int .u64 ((2 ^ m.length - 1 : Nat) : Int)] 57)) (.cells #[.int .i64 (letters m : Nat)] 3)) (.cells #[.func (.func 57) #[] #[.pointer (some ⟨w.heap.size, 0, none⟩)]] 84)
    have q0 := (yT.cell (p := ⟨w.heap.size, 0, none⟩) (World.block_lt_of_cell? _ _ hbx)).trans hbx
    simp only [World.size_alloc] at q1 q2 q3
    have hD := fun (W : World) => below_dr W 1
    go_ret
    exact ⟨_, _, _, _, rfl, ((hD _).cell (p := ⟨w.heap.size, 0, none⟩) (World.block_lt_of_cell? _ _ q0)).trans q0, ((hD _).cell (p := ⟨X.heap.size, 0, none⟩) (World.block_lt_of_cell? _ _ q1.cell)).trans q1.cell, ((hD _).cell (p := ⟨X.heap.size + 1, 0, none⟩) (World.block_lt_of_cell? _ _ q2.cell)).trans q2.cell, ((hD _).cell (p := ⟨X.heap.size + 1 + 1, 0, none⟩) (World.block_lt_of_cell? _ _ q3.cell)).trans q3.cell, Nat.le_refl _, by omega, by omega, by omega, bdr (btr hX yT) 1⟩
end Go.Proofs.YtiiiinoappjhdaaDoor
namespace Go.Proofs.YtiiiinoappjhdaaDoor
open Go.RowKit Go.Shelf
/-- The number of a set. -/
def codeL (l : List Bool) : Nat := l.foldl (fun n b => 2 * n + b.toNat) 0
theorem codeL_snoc (l : List Bool) (b : Bool) : codeL (l ++ [b]) = 2 * codeL l + b.toNat := by simp [codeL, List.foldl_append]
theorem take_snocB {l : List Bool} {k : Nat} (h : k < l.length) : l.take (k + 1) = l.take k ++ [l.getD k false] := by
  rw [List.take_succ_eq_append_getElem h]
  simp [List.getD_eq_getElem?_getD, List.getElem?_eq_getElem h]
theorem codeL_lt : ∀ (k : Nat) (l : List Bool), k ≤ l.length → codeL (l.take k) < 2 ^ k
  | 0, l, _ => by simp [codeL]
  | k + 1, l, h => by
    have ih := codeL_lt k l (by omega)
    rw [take_snocB (by omega), codeL_snoc, Nat.pow_succ]
    have : (l.getD k false).toNat ≤ 1 := by cases l.getD k false <;> decide
    omega
theorem codeL_inj : ∀ (k : Nat) (l m : List Bool), l.length = k → m.length = k → codeL l = codeL m → l = m
  | 0, l, m, h1, h2, _ => by rw [List.length_eq_zero_iff.1 h1, List.length_eq_zero_iff.1 h2]
  | k + 1, l, m, h1, h2, h => by
    have e1 := take_snocB (l := l) (k := k) (by omega)
    have e2 := take_snocB (l := m) (k := k) (by omega)
    rw [List.take_of_length_le (by omega)] at e1 e2
    rw [e1, e2, codeL_snoc, codeL_snoc] at h
    have hb : ∀ b c : Bool, ∀ x y : Nat, 2 * x + b.toNat = 2 * y + c.toNat → x = y ∧ b = c := fun b c x y h => by
      cases b <;> cases c <;> simp only [Bool.toNat_true, Bool.toNat_false] at h <;> first | exact ⟨by omega, rfl⟩ | omega
    obtain ⟨h3, h4⟩ := hb _ _ _ _ h
    have h5 := codeL_inj k (l.take k) (m.take k) (by simp; omega) (by simp; omega) h3
    rw [e1, e2, h5, h4]
/-- The truth values of a set; its number. -/
def bitL (n S : Nat) : List Bool := Lb n S.testBit
def codeN (n S : Nat) : Nat := codeL (bitL n S)
theorem bitL_len (n S : Nat) : (bitL n S).length = n := Lb_len _ _
theorem codeN_lt (n S : Nat) : codeN n S < 2 ^ n := by
  have := codeL_lt n (bitL n S) (by rw [bitL_len]; exact Nat.le_refl _)
  rwa [List.take_of_length_le (by rw [bitL_len]; exact Nat.le_refl _)] at this
theorem bitL_inj {n S T : Nat} (hS : S < 2 ^ n) (hT : T < 2 ^ n) (h : bitL n S = bitL n T) : S = T := by
  apply Nat.eq_of_testBit_eq
  intro i
  by_cases hi : i < n
  · have e := congrArg (fun l => l.getD i false) h
    simpa [bitL, Lb, List.getD_eq_getElem?_getD, List.getElem?_map, List.getElem?_range hi] using e
  · have hp : 2 ^ n ≤ 2 ^ i := Nat.pow_le_pow_right (by decide) (by omega)
    rw [Nat.testBit_lt_two_pow (by omega), Nat.testBit_lt_two_pow (by omega)]
theorem codeN_inj {n S T : Nat} (hS : S < 2 ^ n) (hT : T < 2 ^ n) (h : codeN n S = codeN n T) : S = T :=
  bitL_inj hS hT (codeL_inj n _ _ (bitL_len _ _) (bitL_len _ _) h)
def cntL (l : List Bool) : Nat := (l.filter id).length
theorem cntL_snoc (l : List Bool) (b : Bool) : cntL (l ++ [b]) = cntL l + b.toNat := by
  unfold cntL
  rw [List.filter_append, List.length_append]
  cases b <;> rfl
theorem cntL_le (l : List Bool) : cntL l ≤ l.length := List.length_filter_le _ _
theorem cntL_bitL {n S : Nat} (hS : S < 2 ^ n) (hn : n ≤ 64) : cntL (bitL n S) = (elems S).length := by
  rw [elems_range hS hn]
  unfold cntL bitL Lb
  rw [List.filter_map, List.length_map]
  rfl
set_option maxRecDepth 100000 in
set_option maxHeartbeats 1000000 in
theorem rCode_any (v : Value) (l : List Bool) (w : World) (h : Bools w v l) (hl12 : l.length ≤ 12) :
    Calls Tryd.prog 39 #[v] w fun e w' => e = .returned (.int .i64 (codeL l : Nat)) ∧ w = w' := by
  obtain ⟨A, cap, rfl, hl, hc⟩ := h
  have Hc := hid hc
  have H0 := hid (show codeL (l.take 0) = 0 from rfl)
  clear hc hl
  go_enter Tryd.func39, Tryd.ntmps39
  go_wp2
  go_loop [3, 4] (fun nv sv => ∃ k c : Nat, k ≤ l.length ∧ sv = .int .i64 k ∧ nv = .int .i64 c ∧ codeL (l.take k) = c) (fun _ sv => l.length - (intOf sv).toNat)
  case atStart => exact ⟨0, 0, Nat.zero_le _, rfl, rfl, H0.out⟩
  case round =>
    clear H0
    obtain ⟨k, c, hk, rfl, rfl, hcode⟩ := hrel
    have hlt2 := codeL_lt k l hk
    have hp : 2 ^ k ≤ 2 ^ 12 := Nat.pow_le_pow_right (by decide) (by omega)
    have hc4 : c ≤ 4096 := by omega
    have Hcode := hid hcode
    clear hcode hlt2 hp
    by_cases hlt : k < l.length
    · have hks : (k : Int) < l.length := by omega
      obtain ⟨b, off, hA, hcell⟩ := Hc.out k hlt
      subst hA
      have hs := codeL_snoc (l.take k) (l.getD k false)
      rw [← take_snocB hlt, Hcode.out] at hs
      have hmul : IntKind.i64.wrap ((c : Int) * 2) = (c : Int) * 2 := IntWalk.i64_in _ (by omega)
      generalize l.getD k false = x at *
      cases x with
      | false =>
        have Hs := hid (show codeL (l.take (k + 1)) = c * 2 by rw [hs]; simp; omega)
        clear hs Hcode
        go_wp2
        go_round
        case rel => exact ⟨k + 1, c * 2, by omega, by go_num, by go_num, Hs.out⟩
        case measure => simp [intOf]; omega
      | true =>
        have Hs := hid (show codeL (l.take (k + 1)) = c * 2 + 1 by rw [hs]; simp; omega)
        clear hs Hcode
        go_wp2
        go_round
        case rel => exact ⟨k + 1, c * 2 + 1, by omega, by go_num, by go_num, Hs.out⟩
        case measure => simp [intOf]; omega
    · obtain rfl : k = l.length := by omega
      have hc2 := Hcode.out
      rw [List.take_length] at hc2
      have HC := hid hc2
      clear hc2 Hcode
      go_wp2
      go_ret
      exact ⟨ret_int (by rw [HC.out]), rfl⟩
set_option maxRecDepth 100000 in
set_option maxHeartbeats 1000000 in
theorem rCount_any (v : Value) (l : List Bool) (w : World) (h : Bools w v l) (hl12 : l.length ≤ 60) :
    Calls Tryd.prog 40 #[v] w fun e w' => e = .returned (.int .i64 (cntL l : Nat)) ∧ w = w' := by
  obtain ⟨A, cap, rfl, hl, hc⟩ := h
  have Hc := hid hc
  have H0 := hid (show cntL (l.take 0) = 0 from rfl)
  clear hc hl
  go_enter Tryd.func40, Tryd.ntmps40
  go_wp2
  go_loop [3, 4] (fun nv sv => ∃ k c : Nat, k ≤ l.length ∧ sv = .int .i64 k ∧ nv = .int .i64 c ∧ cntL (l.take k) = c) (fun _ sv => l.length - (intOf sv).toNat)
  case atStart => exact ⟨0, 0, Nat.zero_le _, rfl, rfl, H0.out⟩
  case round =>
    clear H0
    obtain ⟨k, c, hk, rfl, rfl, hcode⟩ := hrel
    have hc4 : c ≤ 60 := by have := cntL_le (l.take k); simp at this; omega
    have Hcode := hid hcode
    clear hcode
    by_cases hlt : k < l.length
    · have hks : (k : Int) < l.length := by omega
      obtain ⟨b, off, hA, hcell⟩ := Hc.out k hlt
      subst hA
      have hs := cntL_snoc (l.take k) (l.getD k false)
      rw [← take_snocB hlt, Hcode.out] at hs
      generalize l.getD k false = x at *
      cases x with
      | false =>
        have Hs := hid (show cntL (l.take (k + 1)) = c by rw [hs]; simp)
        clear hs Hcode
        go_wp2
        go_round
        case rel => exact ⟨k + 1, c, by omega, by go_num, rfl, Hs.out⟩
        case measure => simp [intOf]; omega
      | true =>
        have Hs := hid (show cntL (l.take (k + 1)) = c + 1 by rw [hs]; simp)
        clear hs Hcode
        go_wp2
        go_round
        case rel => exact ⟨k + 1, c + 1, by omega, by go_num, by go_num, Hs.out⟩
        case measure => simp [intOf]; omega
    · obtain rfl : k = l.length := by omega
      have hc2 := Hcode.out
      rw [List.take_length] at hc2
      have HC := hid hc2
      clear hc2 Hcode
      go_wp2
      go_ret
      exact ⟨ret_int (by rw [HC.out]), rfl⟩
/-- Whether one of the first s states, if it is in the set, is led to t. -/
def mvP (m : List (List Int)) (S x s t : Nat) : Bool := (List.range s).any fun s' => S.testBit s' && nx m s' (x : Int) == t
theorem mvP_succ (m : List (List Int)) (S x s t : Nat) : mvP m S x (s + 1) t = (mvP m S x s t || (S.testBit s && nx m s (x : Int) == t)) := by
  simp [mvP, List.range_succ]
theorem mvP_all {m : List (List Int)} {S x t : Nat} (hS : S < 2 ^ m.length) (hn : m.length ≤ 64) : mvP m S x m.length t = (imgS m S x).testBit t := by
  unfold imgS imgTo mvP
  rw [imgTo_testBit, elems_range hS hn, Nat.zero_testBit, Bool.false_or, List.any_filter]
  first
    | done
    | (congr 1; done)
    | (congr 1; funext s; cases S.testBit s <;> simp)
set_option maxRecDepth 100000 in
set_option maxHeartbeats 4000000 in
theorem rMove_any (v u : Value) (m : List (List Int)) (S x : Nat) (w : World) (h : Rows w v m) (hv : validM m = true) (hu : Bools w u (bitL m.length S)) (hS : S < 2 ^ m.length) (hx : x < letters m) :
    Calls Tryd.prog 42 #[.agg #[v], u, .int .i64 x] w fun e w' => ∃ g, e = .returned (.slice (some ⟨g, 0, none⟩) m.length m.length) ∧ w'.ownsRow w.heap.size 4 1 (.slice (some ⟨g, 0, none⟩) m.length m.length) m.length ((bitL m.length (imgS m S x)).map fun x => .bool x) ∧ Below w.heap.size w w' := by
  obtain ⟨j0, hj, hy0, hy1, hy2⟩ := info_parts infoBool
  obtain ⟨p1, p2, p3, p4, p5⟩ := valid_parts hv
  obtain ⟨A, cap, rfl, hml, hcm⟩ := id h
  obtain ⟨Au, capu, rfl, -, hcu⟩ := id hu
  have hbl := bitL_len m.length S
  have hX := bal (Below.refl _ w) (.cells #[.slice A m.length cap] 24)
  have Hcm := hid hcm
  have Hp5 := hid p5
  have Hcu := hid hcu
  rw [hbl] at *
  clear hcm hcu p5
  go_enter Tryd.func42, Tryd.ntmps42
  go_wp2_with (at_make; go_must (refine wpList_make_full _ rfl _ _ 63 rfl (w.heap.size + 1) 4 j0 (.bool false) 1 Tryd.underlying63 hj hy0 hy1 .i64 .i64 _ _ m.length rfl rfl rfl rfl (by rw [hy2]; omega) (by unfold maxLen; omega) (by simp) ?_); intro w1 hown hgrow; rw [show Value.cells (.bool false) = #[.bool false] from rfl, toList_madeCells_one, Nat.mul_one] at hown; simp only [World.size_alloc] at hown)
  have hB1 := hX.grown hgrow (by simp) (fun q hq => by cases hq)
  have bx : w1.cell? ⟨w.heap.size, 0, none⟩ = some (.slice A m.length cap) := (World.cell?_of_block (hgrow.block w.heap.size (by simp) (by simp))).trans (by simp [go_sem])
  have hown0 : w1.ownsRow (w.heap.size + 1) 4 1 (.slice (some ⟨w.heap.size + 1, 0, none⟩) m.length m.length) m.length ((Lb m.length (mvP m S x 0)).map fun x => .bool x) := by
    have e : ((Lb m.length (mvP m S x 0)).map fun x => Value.bool x) = List.replicate m.length (.bool false) := by
      apply List.ext_getElem
      · simp [Lb]
      · intro i h1 h2; simp [Lb, mvP]
    rw [e]; simpa using hown
  clear hown hgrow
  go_loopw [8] (fun sv wr => ∃ (s : Nat), s ≤ m.length ∧ sv = .int .i64 s ∧ wr.ownsRow (w.heap.size + 1) 4 1 (.slice (some ⟨w.heap.size + 1, 0, none⟩) m.length m.length) m.length ((Lb m.length (mvP m S x s)).map fun x => .bool x) ∧ Below w.heap.size w wr ∧ wr.cell? ⟨w.heap.size, 0, none⟩ = some (.slice A m.length cap)) (fun sv _ => m.length - (intOf sv).toNat)
  case atStart => exact ⟨0, Nat.zero_le _, rfl, hown0, hB1, bx⟩
  case round =>
    clear hown0 hB1 bx
    obtain ⟨s, hs, rfl, hO, hB, hbx⟩ := hrel
    have HO := hid hO
    clear hO
    by_cases hlt : s < m.length
    · have hss : (s : Int) < m.length := by omega
      obtain ⟨bu, ou, hAu, hcell⟩ := Hcu.out s (by omega)
      subst hAu
      have c1 := (hB.cell (p := ⟨bu, ou + s, none⟩) (World.block_lt_of_cell? _ _ hcell)).trans hcell
      have e1 : (bitL m.length S).getD s false = S.testBit s := by simp [bitL, Lb, List.getD_eq_getElem?_getD, List.getElem?_map, List.getElem?_range hlt]
      rw [e1] at c1
      clear hcell
      cases hbit : S.testBit s with
      | false =>
        rw [hbit] at c1
        have hfun : Lb m.length (mvP m S x (s + 1)) = Lb m.length (mvP m S x s) := Lb_congr fun i _ => by rw [mvP_succ, hbit]; simp
        have HO2 := HO.out
        rw [← hfun] at HO2
        have HO2 := hid HO2
        clear hfun HO e1 hbit
        go_wp2_with fail
        go_roundw
        case rel => exact ⟨s + 1, by omega, by go_num, HO2.out, hB, hbx⟩
        case measure => simp [intOf]; omega
      | true =>
        rw [hbit] at c1
        obtain ⟨bl, off, r, hA, hcr, hrow⟩ := Hcm.out s hlt
        subst hA
        have hrl := (Hp5.out s hlt).1
        obtain ⟨Ar, capr, rfl, -, hce⟩ := id hrow
        rw [hrl] at hcr
        obtain ⟨br, offr, hAr, hct⟩ := hce x (by omega)
        subst hAr
        obtain ⟨hn1, hn⟩ := nx_ok hv (s := s) hlt (x := (x : Int)) (by omega) (by omega)
        rw [Int.toNat_natCast] at hn
        rw [hn] at hct
        have c2 := (hB.cell (p := ⟨bl, off + s, none⟩) (World.block_lt_of_cell? _ _ hcr)).trans hcr
        have c3 := (hB.cell (p := ⟨br, offr + x, none⟩) (World.block_lt_of_cell? _ _ hct)).trans hct
        have hfun : Lb m.length (fun i => if i = nx m s (x : Int) then true else mvP m S x s i) = Lb m.length (mvP m S x (s + 1)) := Lb_congr fun i _ => by
          rw [mvP_succ, hbit]
          by_cases e : i = nx m s (x : Int)
          · rw [if_pos e, e]; simp
          · rw [if_neg e, beq_eq_false_iff_ne.2 (fun h => e h.symm)]; simp
        clear hcr hct hce hrow hrl hn
        generalize nx m s (x : Int) = t at *
        have hSt := (HO.out.stored t (.bool true)).1
        rw [← List.map_set_bool, Lb_set, hfun] at hSt
        have hfA := HO.out.frozenAt t
        have hcA := HO.out.cellAt t (by omega)
        rw [Lb_cell _ hn1] at hcA
        have HSt := hid hSt
        have hBs := hid (hB.setCell (p := ⟨w.heap.size + 1, t, none⟩) (by show w.heap.size ≤ w.heap.size + 1; omega) (.bool true))
        have hbxs : (wr.setCell ⟨w.heap.size + 1, t, none⟩ (.bool true)).cell? ⟨w.heap.size, 0, none⟩ = some (.slice (some ⟨bl, off, none⟩) m.length cap) := (World.cell?_of_block (Below.heap_setCell _ _ _ _ (by simp))).trans hbx
        have i1 : (t : Int) < m.length := by omega
        have i2 : (x : Int) < letters m := by omega
        clear hSt hfun e1 hbit HO
        go_wp2_with fail
        go_roundw
        case rel => exact ⟨s + 1, by omega, by go_num, HSt.out, hBs.out, hbxs⟩
        case measure => simp [intOf]; omega
    · have hss : ¬ (s : Int) < m.length := by omega
      obtain rfl : s = m.length := by omega
      have hfun : Lb m.length (mvP m S x m.length) = bitL m.length (imgS m S x) := Lb_congr fun i _ => mvP_all hS (by omega)
      have HO2 := HO.out
      rw [hfun] at HO2
      have HO2 := hid (row_mono HO2 (Nat.le_succ _))
      clear hfun HO
      go_wp2_with fail
      go_ret
      exact ⟨_, rfl, HO2.out, hB⟩
end Go.Proofs.YtiiiinoappjhdaaDoor
