/-
  Texts that the proof of the law stands on: Z45, Z46, Z47, K9, H1, H2, Z40, L2, Z41, H3, G5, H4, Y26, Y15, Y7, Y10, H5.
-/
import Derived.Test.YtlpfglkopnmlnaaDoorCbE
import Derived.Maps.AppendAt
import Derived.Laws.AppendOwnNone
import Derived.BigQuiet
import Derived.Deep.AppendLies
import Derived.Deep.RegionHeld3
import Derived.Deep.RegionLaw
set_option linter.unusedVariables false
set_option linter.unusedSimpArgs false
namespace Go.Proofs.YtlpfglkopnmlnaaDoor
section iter
/-- The step of a choice of roads, again and again. -/
def itF (f : Nat → Nat) : Nat → Nat → Nat
  | 0, s => s
  | i + 1, s => itF f i (f s)
theorem itF_add (f : Nat → Nat) : ∀ a b s, itF f (a + b) s = itF f b (itF f a s)
  | 0, b, s => by rw [Nat.zero_add]; rfl
  | a + 1, b, s => by rw [show a + 1 + b = (a + b) + 1 by omega]; exact itF_add f a b (f s)
theorem itF_succ (f : Nat → Nat) (i s : Nat) : itF f (i + 1) s = f (itF f i s) := itF_add f i 1 s
def Maps (n : Nat) (f : Nat → Nat) : Prop := ∀ s, s < n → f s < n
theorem itF_lt {n : Nat} {f : Nat → Nat} (h : Maps n f) : ∀ i s, s < n → itF f i s < n
  | 0, _, hs => hs
  | i + 1, s, hs => itF_lt h i (f s) (h s hs)
def Cyc (f : Nat → Nat) (s : Nat) : Prop := ∃ j, 0 < j ∧ itF f j s = s
theorem Cyc.step {f : Nat → Nat} {s : Nat} (h : Cyc f s) : Cyc f (f s) := by
  obtain ⟨j, hj, he⟩ := h
  refine ⟨j, hj, ?_⟩
  show itF f (j + 1) s = f s
  rw [itF_succ, he]
theorem Cyc.it {f : Nat → Nat} {s : Nat} (h : Cyc f s) : ∀ i, Cyc f (itF f i s)
  | 0 => h
  | i + 1 => Cyc.it h.step i
theorem Cyc.le {f : Nat → Nat} {s a b : Nat} (h : Cyc f (itF f a s)) (hab : a ≤ b) : Cyc f (itF f b s) := by
  obtain ⟨d, rfl⟩ : ∃ d, b = a + d := ⟨b - a, by omega⟩
  rw [itF_add]
  exact h.it d
theorem itF_mul {f : Nat → Nat} {s j : Nat} (h : itF f j s = s) : ∀ t, itF f (j * t) s = s
  | 0 => rfl
  | t + 1 => by rw [Nat.mul_succ, itF_add, itF_mul h t, h]
/-- Steps back along rings. -/
theorem Cyc.back {f : Nat → Nat} {s : Nat} (h : Cyc f s) (i : Nat) : ∃ k, itF f k (itF f i s) = s := by
  obtain ⟨j, hj, he⟩ := h
  refine ⟨j * (i + 1) - i, ?_⟩
  rw [← itF_add, show i + (j * (i + 1) - i) = j * (i + 1) from ?_, itF_mul he]
  have : 1 * (i + 1) ≤ j * (i + 1) := Nat.mul_le_mul_right _ hj
  omega
theorem Cyc.inj1 {f : Nat → Nat} {s t : Nat} (hs : Cyc f s) (ht : Cyc f t) (h : f s = f t) : s = t := by
  obtain ⟨j, hj, he⟩ := hs
  obtain ⟨i, hi, hf⟩ := ht
  have h1 : itF f (j * i) s = s := itF_mul he i
  have h2 : itF f (j * i) t = t := by rw [Nat.mul_comm]; exact itF_mul hf j
  have hp : 0 < j * i := Nat.mul_pos hj hi
  obtain ⟨d, hd⟩ : ∃ d, j * i = 1 + d := ⟨j * i - 1, by omega⟩
  rw [hd, itF_add] at h1 h2
  rw [← h1, ← h2]
  show itF f d (f s) = itF f d (f t)
  rw [h]
theorem Cyc.inj {f : Nat → Nat} : ∀ {i s t : Nat}, Cyc f s → Cyc f t → itF f i s = itF f i t → s = t
  | 0, _, _, _, _, h => h
  | i + 1, s, t, hs, ht, h => hs.inj1 ht (Cyc.inj (i := i) hs.step ht.step h)
theorem Cyc.same {g : Nat → Nat} {z a b : Nat} (h1 : ¬ Cyc g (itF g a z)) (h2 : Cyc g (itF g (a + 1) z)) (h3 : ¬ Cyc g (itF g b z)) (h4 : Cyc g (itF g (b + 1) z)) : a = b := by
  rcases Nat.lt_trichotomy a b with h | h | h
  · exact absurd (h2.le (by omega)) h3
  · exact h
  · exact absurd (h4.le (by omega)) h1
theorem nodup_lenR {α : Type} [BEq α] [LawfulBEq α] : ∀ {l k : List α}, l.Nodup → (∀ x ∈ l, x ∈ k) → l.length ≤ k.length
  | [], _, _, _ => Nat.zero_le _
  | x :: l, k, hn, hs => by
    have hx := hs x (by simp)
    rw [List.nodup_cons] at hn
    have := nodup_lenR (l := l) (k := k.erase x) hn.2 (fun y hy => by
      have hne : y ≠ x := fun e => hn.1 (by rw [← e]; exact hy)
      exact (List.mem_erase_of_ne hne).2 (hs y (by simp [hy])))
    rw [List.length_erase_of_mem hx] at this
    have hp : 0 < k.length := List.length_pos_of_mem hx
    simp only [List.length_cons]
    omega
theorem nodup_inj {α β : Type} {f : α → β} : ∀ {l : List α}, l.Nodup → (∀ x ∈ l, ∀ y ∈ l, f x = f y → x = y) → (l.map f).Nodup
  | [], _, _ => List.nodup_nil
  | x :: l, hn, hi => by
    rw [List.nodup_cons] at hn
    rw [List.map_cons, List.nodup_cons]
    refine ⟨fun hm => ?_, nodup_inj hn.2 fun a ha b hb => hi a (by simp [ha]) b (by simp [hb])⟩
    obtain ⟨y, hy, he⟩ := List.mem_map.1 hm
    exact hn.1 (by rw [← hi y (by simp [hy]) x (by simp) he]; exact hy)
/-- Within n steps a ring is met. -/
theorem cyc_n {n : Nat} {f : Nat → Nat} (h : Maps n f) {s : Nat} (hs : s < n) : Cyc f (itF f n s) := by
  apply Classical.byContradiction
  intro hno
  have hnd : ((List.range (n + 1)).map fun i => itF f i s).Nodup := by
    refine nodup_inj List.nodup_range fun a ha b hb he => ?_
    have key : ∀ a b, a < b → b < n + 1 → itF f a s = itF f b s → False := fun a b hab hb he => by
      obtain ⟨d, rfl⟩ : ∃ d, b = a + d := ⟨b - a, by omega⟩
      rw [itF_add] at he
      have hc : Cyc f (itF f a s) := ⟨d, by omega, he.symm⟩
      exact hno (hc.le (by omega))
    have ha := List.mem_range.1 ha
    have hb := List.mem_range.1 hb
    rcases Nat.lt_trichotomy a b with h | h | h
    · exact (key a b h hb he).elim
    · exact h
    · exact (key b a h ha he.symm).elim
  have := nodup_lenR hnd (k := List.range n) (fun x hx => by
    obtain ⟨i, _, rfl⟩ := List.mem_map.1 hx
    exact List.mem_range.2 (itF_lt h i s hs))
  simp at this
  omega
theorem least_natR {P : Nat → Prop} (h : ∃ i, P i) : ∃ i, P i ∧ ∀ j, j < i → ¬ P j := by
  obtain ⟨i, hi⟩ := h
  induction i using Nat.strongRecOn with
  | _ i ih =>
    by_cases hj : ∃ j, j < i ∧ P j
    · obtain ⟨j, h1, h2⟩ := hj
      exact ih j h1 h2
    · exact ⟨i, hi, fun j h1 h2 => hj ⟨j, h1, h2⟩⟩
theorem most_of {α : Type} {P : α → Prop} (c : α → Nat) (B : Nat) (hB : ∀ a, P a → c a ≤ B) (h : ∃ a, P a) : ∃ a, P a ∧ ∀ b, P b → c b ≤ c a := by
  obtain ⟨d, ⟨a, ha, hd⟩, hmin⟩ := least_natR (P := fun d => ∃ a, P a ∧ d = B - c a) (by obtain ⟨a, ha⟩ := h; exact ⟨_, a, ha, rfl⟩)
  refine ⟨a, ha, fun b hb => ?_⟩
  apply Classical.byContradiction
  intro hlt
  have h1 := hB b hb
  exact hmin (B - c b) (by omega) ⟨b, hb, rfl⟩
/-- One road chosen anew. -/
def upd (f : Nat → Nat) (u w : Nat) : Nat → Nat := fun s => if s = u then w else f s
theorem upd_at (f : Nat → Nat) (u w : Nat) : upd f u w u = w := if_pos rfl
theorem upd_ne (f : Nat → Nat) {u w s : Nat} (h : s ≠ u) : upd f u w s = f s := if_neg h
theorem upd_it {f : Nat → Nat} {u w : Nat} : ∀ {i x : Nat}, (∀ j, j < i → itF f j x ≠ u) → itF (upd f u w) i x = itF f i x
  | 0, _, _ => rfl
  | i + 1, x, h => by
    have h0 : x ≠ u := h 0 (by omega)
    show itF (upd f u w) i (upd f u w x) = itF f i (f x)
    rw [upd_ne f h0]
    exact upd_it fun j hj => h (j + 1) (by omega)
theorem upd_it2 {f : Nat → Nat} {u w : Nat} : ∀ {i x : Nat}, (∀ j, j < i → itF (upd f u w) j x ≠ u) → itF (upd f u w) i x = itF f i x
  | 0, _, _ => rfl
  | i + 1, x, h => by
    have h0 : x ≠ u := h 0 (by omega)
    have h1 := fun j (hj : j < i) => h (j + 1) (by omega)
    show itF (upd f u w) i (upd f u w x) = itF f i (f x)
    have e : itF (upd f u w) i (upd f u w x) = itF f i (upd f u w x) := upd_it2 (fun j hj => h1 j hj)
    rw [e, upd_ne f h0]
/-- Rings that are not met by the change stay. -/
theorem upd_cyc {f : Nat → Nat} {u w z : Nat} (hz : Cyc f z) (h : ∀ j, itF f j z ≠ u) : Cyc (upd f u w) z := by
  obtain ⟨j, hj, he⟩ := hz
  exact ⟨j, hj, (upd_it fun i _ => h i).trans he⟩
theorem upd_cyc2 {f : Nat → Nat} {u w z : Nat} (hz : Cyc (upd f u w) z) (h : ∀ j, itF f j z ≠ u) : Cyc f z := by
  obtain ⟨j, hj, he⟩ := hz
  exact ⟨j, hj, (upd_it fun i _ => h i).symm.trans he⟩
/-- A ring that is not met: its places are not met either. -/
theorem cyc_avoid {f : Nat → Nat} {u z : Nat} (hz : Cyc f z) (hu : ¬ Cyc f u) : ∀ j, itF f j z ≠ u := fun j e => hu (by rw [← e]; exact hz.it j)
/-- All the places that are farthest from the rings lead to the same place of a ring. -/
def HasOne (n : Nat) (f : Nat → Nat) : Prop :=
  ∃ l c, (∀ s, s < n → Cyc f (itF f (l + 1) s)) ∧ (∃ p, p < n ∧ ¬ Cyc f (itF f l p)) ∧ ∀ x, x < n → ¬ Cyc f (itF f l x) → itF f (l + 1) x = c
/-- Where one change has made some place farther, only those that are led through it are farthest. -/
theorem lemmaG {n L u w y : Nat} {f : Nat → Nat} (hf : Maps n f) (hw : w < n) (hL : ∀ s, s < n → Cyc f (itF f L s)) (hy : y < n) (hyc : ¬ Cyc (upd f u w) (itF (upd f u w) L y)) : HasOne n (upd f u w) := by
  have hg : Maps n (upd f u w) := fun s hs => by
    unfold upd
    split
    · exact hw
    · exact hf s hs
  obtain ⟨g, hgd⟩ : ∃ g, upd f u w = g := ⟨_, rfl⟩
  obtain ⟨q, hq, hmin⟩ := least_natR (P := fun i => ∀ s, s < n → Cyc g (itF g i s)) ⟨n, fun s hs => cyc_n (by rw [← hgd]; exact hg) hs⟩
  rw [hgd] at hyc hg ⊢
  have hqL : L < q := by
    apply Classical.byContradiction
    intro h
    exact hyc ((hq y hy).le (by omega))
  obtain ⟨l, rfl⟩ : ∃ l, q = l + 1 := ⟨q - 1, by omega⟩
  have hLl : L ≤ l := by omega
  have hex : ∃ p, p < n ∧ ¬ Cyc g (itF g l p) := by
    have := hmin l (by omega)
    apply Classical.byContradiction
    intro h
    exact this fun s hs => Classical.byContradiction fun h2 => h ⟨s, hs, h2⟩
  -- every far place is led through u
  have hit : ∀ x, x < n → ¬ Cyc g (itF g l x) → ∃ i, itF g i x = u ∧ ∀ j, j < i → itF g j x ≠ u := fun x hx hxc => by
    apply Classical.byContradiction
    intro h
    have hne : ∀ i, itF g i x ≠ u := fun i hi => h (least_natR ⟨i, hi⟩)
    have he : ∀ i, itF g i x = itF f i x := fun i => by
      rw [← hgd]
      exact upd_it2 fun j _ => by rw [hgd]; exact hne j
    have hc : Cyc g (itF g L x) := by
      rw [he L, ← hgd]
      refine upd_cyc (hL x hx) fun j => ?_
      rw [← itF_add, ← he]
      exact hne _
    exact hxc (hc.le hLl)
  have key : ∀ x x', x < n → x' < n → ¬ Cyc g (itF g l x) → ¬ Cyc g (itF g l x') → itF g (l + 1) x = itF g (l + 1) x' := by
    by_cases hu : Cyc g u
    · -- the change lies on a ring now
      have half : ∀ x x' i i', x < n → x' < n → ¬ Cyc g (itF g l x) → ¬ Cyc g (itF g l x') → (itF g i x = u ∧ ∀ j, j < i → itF g j x ≠ u) → (itF g i' x' = u ∧ ∀ j, j < i' → itF g j x' ≠ u) → i' ≤ i → itF g (l + 1) x = itF g (l + 1) x' := by
        intro x x' i i' hx hx' hxc hxc' ⟨h1, h2⟩ ⟨h1', h2'⟩ hii
        have hil : l < i := by
          apply Classical.byContradiction
          intro h
          exact hxc (Cyc.le (a := i) (by rw [h1]; exact hu) (by omega))
        have hil' : l < i' := by
          apply Classical.byContradiction
          intro h
          exact hxc' (Cyc.le (a := i') (by rw [h1']; exact hu) (by omega))
        have e : ∀ j, j ≤ i → itF g j x = itF f j x := fun j hj => by
          rw [← hgd]; exact upd_it2 fun t ht => by rw [hgd]; exact h2 t (by omega)
        have e' : ∀ j, j ≤ i' → itF g j x' = itF f j x' := fun j hj => by
          rw [← hgd]; exact upd_it2 fun t ht => by rw [hgd]; exact h2' t (by omega)
        have hz : itF f (i - i') (itF f L x) = itF f L x' := by
          refine Cyc.inj (i := i' - L) ((hL x hx).it _) (hL x' hx') ?_
          rw [← itF_add, ← itF_add, ← itF_add, show L + (i - i' + (i' - L)) = i by omega, show L + (i' - L) = i' by omega, ← e i (Nat.le_refl _), ← e' i' (Nat.le_refl _), h1, h1']
        have hz2 : itF g (L + (i - i')) x = itF g L x' := by
          rw [e _ (by omega), e' _ (by omega), itF_add]; exact hz
        have hxa : itF g (l - L) (itF g L x') = itF g l x' := by rw [← itF_add]; congr 1; omega
        have hxb : itF g (l - L + 1) (itF g L x') = itF g (l + 1) x' := by rw [← itF_add]; congr 1; omega
        by_cases hc : L + (i - i') ≤ l
        · have hya : itF g (l - L - (i - i')) (itF g L x') = itF g l x := by rw [← hz2, ← itF_add]; congr 1; omega
          have hyb : itF g (l - L - (i - i') + 1) (itF g L x') = itF g (l + 1) x := by rw [← hz2, ← itF_add]; congr 1; omega
          have := Cyc.same (g := g) (z := itF g L x') (a := l - L) (b := l - L - (i - i')) (by rw [hxa]; exact hxc') (by rw [hxb]; exact hq x' hx') (by rw [hya]; exact hxc) (by rw [hyb]; exact hq x hx)
          rw [← hxb, ← hyb, ← this]
        · exfalso
          have h3 : Cyc g (itF g (L + (i - i')) x) := (hq x hx).le (by omega)
          rw [hz2] at h3
          exact hxc' (by rw [← hxa]; exact h3.it _)
      intro x x' hx hx' hxc hxc'
      obtain ⟨i, hi⟩ := hit x hx hxc
      obtain ⟨i', hi'⟩ := hit x' hx' hxc'
      rcases Nat.le_total i' i with h | h
      · exact half x x' i i' hx hx' hxc hxc' hi hi' h
      · exact (half x' x i' i hx' hx hxc' hxc hi' hi h).symm
    · intro x x' hx hx' hxc hxc'
      obtain ⟨i, hi, _⟩ := hit x hx hxc
      obtain ⟨i', hi', _⟩ := hit x' hx' hxc'
      have hil : i ≤ l := by
        apply Classical.byContradiction
        intro h
        exact hu (by rw [← hi]; exact (hq x hx).le (by omega))
      have hil' : i' ≤ l := by
        apply Classical.byContradiction
        intro h
        exact hu (by rw [← hi']; exact (hq x' hx').le (by omega))
      have a1 : itF g (l - i) u = itF g l x := by rw [← hi, ← itF_add]; congr 1; omega
      have a2 : itF g (l - i + 1) u = itF g (l + 1) x := by rw [← hi, ← itF_add]; congr 1; omega
      have a3 : itF g (l - i') u = itF g l x' := by rw [← hi', ← itF_add]; congr 1; omega
      have a4 : itF g (l - i' + 1) u = itF g (l + 1) x' := by rw [← hi', ← itF_add]; congr 1; omega
      have := Cyc.same (g := g) (z := u) (a := l - i) (b := l - i') (by rw [a1]; exact hxc) (by rw [a2]; exact hq x hx) (by rw [a3]; exact hxc') (by rw [a4]; exact hq x' hx')
      rw [← a2, ← a4, this]
  obtain ⟨p, hp, hpc⟩ := hex
  exact ⟨l, itF g (l + 1) p, hq, ⟨p, hp, hpc⟩, fun x hx hxc => key x p hx hp hxc hpc⟩
end iter
section choice
open Classical in
/-- How many places lie on rings. -/
noncomputable def cntC (n : Nat) (f : Nat → Nat) : Nat := ((List.range n).filter fun s => decide (Cyc f s)).length
theorem cntC_le (n : Nat) (f : Nat → Nat) : cntC n f ≤ n := by
  unfold cntC
  have := List.length_filter_le (p := fun s => @decide (Cyc f s) (Classical.propDecidable _)) (List.range n)
  rw [List.length_range] at this
  exact this
open Classical in
/-- More places lie on rings: those of f but some of V, and those of B. -/
theorem cntC_more {n : Nat} {f g : Nat → Nat} {V B : List Nat} (hV : ∀ z, z < n → Cyc f z → Cyc g z ∨ z ∈ V) (hB : B.Nodup) (hBn : ∀ z ∈ B, z < n ∧ Cyc g z ∧ ¬ Cyc f z) : cntC n f + B.length ≤ cntC n g + V.length := by
  unfold cntC
  obtain ⟨F, hF⟩ : ∃ F, ((List.range n).filter fun s => decide (Cyc f s)) = F := ⟨_, rfl⟩
  obtain ⟨G, hG⟩ : ∃ G, ((List.range n).filter fun s => decide (Cyc g s)) = G := ⟨_, rfl⟩
  rw [hF, hG]
  have hFn : F.Nodup := by rw [← hF]; exact List.nodup_range.filter _
  have hFm : ∀ z, z ∈ F ↔ z < n ∧ Cyc f z := fun z => by rw [← hF]; simp
  have hGm : ∀ z, z ∈ G ↔ z < n ∧ Cyc g z := fun z => by rw [← hG]; simp
  have h := nodup_lenR (l := F ++ B) (k := G ++ V) (by
    rw [List.nodup_append]
    refine ⟨hFn, hB, fun a ha b hb e => ?_⟩
    subst e
    exact (hBn a hb).2.2 ((hFm a).1 ha).2) (fun z hz => by
    rw [List.mem_append] at hz ⊢
    rcases hz with hz | hz
    · obtain ⟨h1, h2⟩ := (hFm z).1 hz
      rcases hV z h1 h2 with h3 | h3
      · exact .inl ((hGm z).2 ⟨h1, h3⟩)
      · exact .inr h3
    · exact .inl ((hGm z).2 ⟨(hBn z hz).1, (hBn z hz).2.1⟩))
  simpa using h
/-- A choice of a road out of each place. -/
def Choice (n k : Nat) (E : Nat → Nat → Nat) (f : Nat → Nat) : Prop := ∀ s, s < n → ∃ x, x < k ∧ E s x = f s
theorem Choice.upd {n k u x : Nat} {E : Nat → Nat → Nat} {f : Nat → Nat} (h : Choice n k E f) (hx : x < k) : Choice n k E (upd f u (E u x)) := fun s hs => by
  unfold Go.Proofs.YtlpfglkopnmlnaaDoor.upd
  split
  · rename_i e
    subst e
    exact ⟨x, hx, rfl⟩
  · exact h s hs
theorem Choice.maps {n k : Nat} {E : Nat → Nat → Nat} {f : Nat → Nat} (h : Choice n k E f) (hE : ∀ s x, s < n → x < k → E s x < n) : Maps n f := fun s hs => by
  obtain ⟨x, hx, he⟩ := h s hs
  rw [← he]
  exact hE s x hs hx
/-- Where a farthest place p is led back to from a place u of its own ring: u is as far from the ring's entry as p, or there is a choice with one farthest tree. -/
theorem lemmaP {n k l p u x : Nat} {E : Nat → Nat → Nat} {f : Nat → Nat} (hE : ∀ s x, s < n → x < k → E s x < n) (hf : Choice n k E f) (hmax : ∀ g, Choice n k E g → cntC n g ≤ cntC n f) (hp : p < n) (hu : u < n) (hx : x < k) (hxp : E u x = p)
    (hl : ∀ s, s < n → Cyc f (itF f (l + 1) s)) (hpc : ¬ Cyc f (itF f l p)) : (∃ g, Choice n k E g ∧ HasOne n g) ∨ (Cyc f u ∧ itF f (l + 2) u = itF f (l + 1) p) := by
  have hm := hf.maps hE
  have hg : Choice n k E (upd f u p) := by rw [← hxp]; exact hf.upd hx
  by_cases hit : ∃ i, itF f i p = u
  · obtain ⟨i, hi, hmin⟩ := least_natR hit
    have hmin' : ∀ j, j < i → itF f j p ≠ u := hmin
    have hgi : ∀ j, j ≤ i → itF (upd f u p) j p = itF f j p := fun j hj => upd_it fun t ht => hmin' t (by omega)
    have hgu : itF (upd f u p) (i + 1) u = u := by
      show itF (upd f u p) i (upd f u p u) = u
      rw [upd_at, hgi i (Nat.le_refl _), hi]
    have hcu : Cyc (upd f u p) u := ⟨i + 1, by omega, hgu⟩
    have hcp : Cyc (upd f u p) p := by have := hcu.step; rwa [upd_at] at this
    by_cases hfu : Cyc f u
    · -- u lies on the ring that p is led to
      have hil : l < i := by
        apply Classical.byContradiction
        intro h
        exact hpc (Cyc.le (a := i) (by rw [hi]; exact hfu) (by omega))
      obtain ⟨d, rfl⟩ : ∃ d, i = l + 1 + d := ⟨i - (l + 1), by omega⟩
      obtain ⟨c, hc⟩ : ∃ c, itF f (l + 1) p = c := ⟨_, rfl⟩
      have hcc : Cyc f c := by rw [← hc]; exact hl p hp
      have hcd : itF f d c = u := by rw [← hc, ← itF_add]; exact hi
      have hcmin : ∀ j, j < d → itF f j c ≠ u := fun j hj => by rw [← hc, ← itF_add]; exact hmin' _ (by omega)
      have hcg : ∀ j, j ≤ d → itF (upd f u p) j c = itF f j c := fun j hj => upd_it fun t ht => hcmin t (by omega)
      have hcgc : Cyc (upd f u p) c := by
        have := hcp.it (l + 1)
        rw [hgi _ (by omega), hc] at this
        exact this
      have hvc : Cyc f (f u) := hfu.step
      obtain ⟨K, hK, hKmin⟩ := least_natR (P := fun j => itF f j (f u) = c) (by
        have h := hcc.back (d + 1)
        rw [itF_succ, hcd] at h
        exact h)
      -- from v to c the change is not met
      have hvu : ∀ j, j < K → itF f j (f u) ≠ u := fun j hj e => by
        have h2 : itF f (j + 1) (f u) = f u := by rw [itF_succ, e]
        have h3 : itF f (K - (j + 1)) (f u) = c := by
          rw [← h2, ← itF_add, show j + 1 + (K - (j + 1)) = K by omega]; exact hK
        exact hKmin _ (by omega) h3
      rcases Nat.lt_trichotomy K (l + 1) with hKl | hKl | hKl
      · -- more places on rings
        exfalso
        have hcount := cntC_more (n := n) (f := f) (g := upd f u p) (V := (List.range K).map fun j => itF f j (f u)) (B := (List.range (l + 1)).map fun j => itF f j p) (fun z hz hzc => by
          by_cases hzu : ∃ e, itF f e z = u
          · obtain ⟨e, he, hemin⟩ := least_natR hzu
            rcases Nat.lt_or_ge d e with hed | hed
            · right
              have h1 : itF f (e - d) z = c := by
                refine Cyc.inj (i := d) (hzc.it _) hcc ?_
                rw [← itF_add, show e - d + d = e by omega, he, hcd]
              rcases Nat.lt_or_ge K (e - d) with h2 | h2
              · exfalso
                have h3 : itF f (e - d - K) z = f u := by
                  refine Cyc.inj (i := K) (hzc.it _) hvc ?_
                  rw [← itF_add, show e - d - K + K = e - d by omega, h1, hK]
                obtain ⟨t, ht⟩ : ∃ t, e - d - K = t + 1 := ⟨e - d - K - 1, by omega⟩
                rw [ht, itF_succ] at h3
                exact hemin t (by omega) ((hzc.it t).inj1 hfu h3)
              · have h3 : itF f (K - (e - d)) (f u) = z := by
                  refine Cyc.inj (i := e - d) (hvc.it _) hzc ?_
                  rw [← itF_add, show K - (e - d) + (e - d) = K by omega, hK, h1]
                exact List.mem_map.2 ⟨K - (e - d), List.mem_range.2 (by omega), h3⟩
            · left
              have h1 : itF f (d - e) c = z := by
                refine Cyc.inj (i := e) (hcc.it _) hzc ?_
                rw [← itF_add, show d - e + e = d by omega, hcd, he]
              rw [← h1, ← hcg _ (by omega)]
              exact hcgc.it _
          · exact .inl (upd_cyc hzc fun j e => hzu ⟨j, e⟩)) (by
          refine nodup_inj List.nodup_range fun a ha b hb he => ?_
          have ha := List.mem_range.1 ha
          have hb := List.mem_range.1 hb
          have key : ∀ a b, a < b → b < l + 1 → itF f a p = itF f b p → False := fun a b hab hb he => by
            obtain ⟨t, rfl⟩ : ∃ t, b = a + t := ⟨b - a, by omega⟩
            rw [itF_add] at he
            exact hpc (Cyc.le (a := a) ⟨t, by omega, he.symm⟩ (by omega))
          rcases Nat.lt_trichotomy a b with h | h | h
          · exact (key a b h hb he).elim
          · exact h
          · exact (key b a h ha he.symm).elim) (fun z hz => by
          obtain ⟨j, hj, rfl⟩ := List.mem_map.1 hz
          have hj := List.mem_range.1 hj
          refine ⟨itF_lt hm j p hp, ?_, fun h => hpc (h.le (by omega))⟩
          rw [← hgi j (by omega)]
          exact hcp.it j)
        have := hmax _ hg
        simp only [List.length_map, List.length_range] at hcount
        omega
      · right
        refine ⟨hfu, ?_⟩
        show itF f (l + 1) (f u) = itF f (l + 1) p
        rw [hc, ← hKl]
        exact hK
      · -- v is farther now
        left
        refine ⟨_, hg, lemmaG (L := l + 1) (y := f u) hm hp hl (hm u hu) ?_⟩
        have hvg : ∀ j, j ≤ K → itF (upd f u p) j (f u) = itF f j (f u) := fun j hj => upd_it fun t ht => hvu t (by omega)
        rw [hvg _ (by omega)]
        intro hz
        obtain ⟨z, hzd⟩ : ∃ z, itF f (l + 1) (f u) = z := ⟨_, rfl⟩
        rw [hzd] at hz
        have hzc : itF f (K - (l + 1)) z = c := by rw [← hzd, ← itF_add, show l + 1 + (K - (l + 1)) = K by omega]; exact hK
        have hzgc : itF (upd f u p) (K - (l + 1)) z = c := by
          rw [← hzc]
          refine upd_it fun t ht => ?_
          rw [← hzd, ← itF_add]
          exact hvu _ (by omega)
        -- what c is led to
        have hS : ∀ j, ∃ t, t ≤ l + 1 + d ∧ itF (upd f u p) j c = itF f t p := fun j => by
          induction j with
          | zero => exact ⟨l + 1, by omega, hc.symm⟩
          | succ j ih =>
            obtain ⟨t, ht, he⟩ := ih
            rw [itF_succ, he]
            by_cases hte : t = l + 1 + d
            · rw [hte, hi, upd_at]
              exact ⟨0, by omega, rfl⟩
            · refine ⟨t + 1, by omega, ?_⟩
              rw [upd_ne f (hmin' t (by omega)), itF_succ]
        obtain ⟨q, hq⟩ := hz.back (K - (l + 1))
        rw [hzgc] at hq
        obtain ⟨t, ht, he⟩ := hS q
        rw [hq] at he
        have hzf : Cyc f z := by rw [← hzd]; exact hvc.it _
        have htl : l < t := by
          apply Classical.byContradiction
          intro h
          exact hpc (Cyc.le (a := t) (by rw [← he]; exact hzf) (by omega))
        have hzu : itF f (l + 1 + d - t) z = u := by
          rw [he, ← itF_add, show t + (l + 1 + d - t) = l + 1 + d by omega]; exact hi
        rcases Nat.lt_or_ge (l + 1 + d - t) (K - (l + 1)) with h1 | h1
        · refine hvu (l + 1 + (l + 1 + d - t)) (by omega) ?_
          rw [itF_add, hzd]
          exact hzu
        · refine hcmin (l + 1 + d - t - (K - (l + 1))) (by omega) ?_
          rw [← hzc, ← itF_add, show K - (l + 1) + (l + 1 + d - t - (K - (l + 1))) = l + 1 + d - t by omega]
          exact hzu
    · -- a new ring
      exfalso
      have hcount := cntC_more (n := n) (f := f) (g := upd f u p) (V := []) (B := [u]) (fun z _ hzc => .inl (upd_cyc hzc (cyc_avoid hzc hfu))) (by simp) (fun z hz => by
        obtain rfl : z = u := by simpa using hz
        exact ⟨hu, hcu, hfu⟩)
      have := hmax _ hg
      simp at hcount
      omega
  · -- u is farther than all
    left
    have hne : ∀ j, itF f j p ≠ u := fun j e => hit ⟨j, e⟩
    refine ⟨_, hg, lemmaG (L := l + 1) (y := u) hm hp hl hu ?_⟩
    show ¬ Cyc (upd f u p) (itF (upd f u p) l (upd f u p u))
    rw [upd_at, upd_it fun j _ => hne j]
    intro h
    exact hpc (upd_cyc2 h fun j => by rw [← itF_add]; exact hne _)
/-- THE CHOICE: where no two places lead all their roads to one and the same place, roads can be chosen so that the farthest places are all led to one place. -/
theorem choice_one {n k : Nat} {E : Nat → Nat → Nat} (hE : ∀ s x, s < n → x < k → E s x < n) (hn : 2 ≤ n) (hk : 0 < k)
    (hout : ∃ u x, u < n ∧ x < k ∧ E u x ≠ E u 0)
    (hin : ∀ p, p < n → ∃ u x, u < n ∧ x < k ∧ E u x = p)
    (hbunch : ∀ p q r, p < n → q < n → p ≠ q → ¬ ((∀ x, x < k → E p x = r) ∧ ∀ x, x < k → E q x = r)) : ∃ g, Choice n k E g ∧ HasOne n g := by
  obtain ⟨f, hf, hmax⟩ := most_of (P := Choice n k E) (cntC n) n (fun f _ => cntC_le n f) ⟨fun s => E s 0, fun s _ => ⟨0, hk, rfl⟩⟩
  have hm := hf.maps hE
  obtain ⟨q, hq, hqmin⟩ := least_natR (P := fun i => ∀ s, s < n → Cyc f (itF f i s)) ⟨n, fun s hs => cyc_n hm hs⟩
  cases q with
  | zero =>
    have hcyc : ∀ s, s < n → Cyc f s := hq
    obtain ⟨u, x, hu, hx, hne⟩ := hout
    -- another road out of u
    obtain ⟨y, hy, hyf⟩ : ∃ y, y < k ∧ E u y ≠ f u := by
      by_cases h : E u x = f u
      · exact ⟨0, hk, fun h2 => hne (h.trans h2.symm)⟩
      · exact ⟨x, hx, h⟩
    refine ⟨_, hf.upd hy, lemmaG (L := 0) (y := f u) hm (hE u y hu hy) hq (hm u hu) ?_⟩
    show ¬ Cyc (upd f u (E u y)) (f u)
    rintro ⟨j, hj, he⟩
    obtain ⟨t, rfl⟩ : ∃ t, j = t + 1 := ⟨j - 1, by omega⟩
    rw [itF_succ] at he
    have hmg : Maps n (upd f u (E u y)) := (hf.upd hy).maps hE
    have hz := itF_lt hmg t (f u) (hm u hu)
    by_cases hzu : itF (upd f u (E u y)) t (f u) = u
    · rw [hzu, upd_at] at he
      exact hyf he
    · rw [upd_ne f hzu] at he
      exact hzu ((hcyc _ hz).inj1 (hcyc u hu) he)
  | succ l =>
    obtain ⟨p, hp, hpc⟩ : ∃ p, p < n ∧ ¬ Cyc f (itF f l p) := by
      apply Classical.byContradiction
      intro h
      exact hqmin l (by omega) fun s hs => Classical.byContradiction fun h2 => h ⟨s, hs, h2⟩
    obtain ⟨u, x, hu, hx, hxp⟩ := hin p hp
    rcases lemmaP hE hf hmax hp hu hx hxp hq hpc with h | ⟨hfu, hfl⟩
    · exact h
    obtain ⟨c, hc⟩ : ∃ c, itF f (l + 1) p = c := ⟨_, rfl⟩
    obtain ⟨r, hr⟩ : ∃ r, itF f l p = r := ⟨_, rfl⟩
    have hcc : Cyc f c := by rw [← hc]; exact hq p hp
    have hrn : r < n := by rw [← hr]; exact itF_lt hm l p hp
    have hrc : f r = c := by rw [← hr]; exact (itF_succ f l p).symm.trans hc
    have hrnc : ¬ Cyc f r := by rw [← hr]; exact hpc
    have hcn : c < n := by rw [← hrc]; exact hm r hrn
    obtain ⟨t, htn, htc, htf⟩ : ∃ t, t < n ∧ Cyc f t ∧ f t = c := by
      obtain ⟨j, hj, he⟩ := hcc
      obtain ⟨i, rfl⟩ : ∃ i, j = i + 1 := ⟨j - 1, by omega⟩
      exact ⟨itF f i c, itF_lt hm i c hcn, Cyc.it ⟨i + 1, hj, he⟩ i, (itF_succ _ i c).symm.trans he⟩
    have hrt : r ≠ t := fun e => hrnc (by rw [e]; exact htc)
    have hpath : ∀ j, j < l → itF f j p ≠ r := fun j hj e => by
      refine hrnc ⟨l - j, by omega, ?_⟩
      rw [← e, ← itF_add, show j + (l - j) = l by omega, hr, e]
    have hpathn : ∀ j, j ≤ l → ¬ Cyc f (itF f j p) := fun j hj h => hpc (h.le hj)
    by_cases hbt : ∃ y, y < k ∧ E t y ≠ c
    · -- the ring's own road into c is changed
      obtain ⟨y, hy, hyc⟩ := hbt
      have hg := hf.upd (u := t) hy
      have hmg := hg.maps hE
      refine ⟨_, hg, ?_⟩
      by_cases hgc : Cyc (upd f t (E t y)) c
      · exfalso
        obtain ⟨z, hzn, hzg, hzc⟩ : ∃ z, z < n ∧ Cyc (upd f t (E t y)) z ∧ upd f t (E t y) z = c := by
          obtain ⟨j, hj, he⟩ := hgc
          obtain ⟨i, rfl⟩ : ∃ i, j = i + 1 := ⟨j - 1, by omega⟩
          exact ⟨_, itF_lt hmg i c hcn, Cyc.it ⟨i + 1, hj, he⟩ i, (itF_succ _ i c).symm.trans he⟩
        have hzt : z ≠ t := fun e => by
          rw [e, upd_at] at hzc
          exact hyc hzc
        rw [upd_ne f hzt] at hzc
        have hznc : ¬ Cyc f z := fun h => hzt (h.inj1 htc (hzc.trans htf.symm))
        obtain ⟨e0, he0, hemin⟩ := least_natR (P := fun j => itF f j c = t) (by
          have h := htc.back 1
          rw [show itF f 1 t = c from htf] at h
          exact h)
        have hcount := cntC_more (n := n) (f := f) (g := upd f t (E t y)) (V := []) (B := [z]) (fun a ha hac => by
          left
          by_cases hat : ∃ b, itF f b a = t
          · obtain ⟨b, hb, hbmin⟩ := least_natR hat
            have hbe : b ≤ e0 := by
              apply Classical.byContradiction
              intro h
              have h1 : itF f (b - e0) a = c := by
                refine Cyc.inj (i := e0) (hac.it _) hcc ?_
                rw [← itF_add, show b - e0 + e0 = b by omega, hb, he0]
              obtain ⟨i, hi⟩ : ∃ i, b - e0 = i + 1 := ⟨b - e0 - 1, by omega⟩
              rw [hi, itF_succ] at h1
              exact hbmin i (by omega) ((hac.it i).inj1 htc (h1.trans htf.symm))
            have h1 : itF f (e0 - b) c = a := by
              refine Cyc.inj (i := b) (hcc.it _) hac ?_
              rw [← itF_add, show e0 - b + b = e0 by omega, hb, he0]
            have h2 : itF (upd f t (E t y)) (e0 - b) c = itF f (e0 - b) c := upd_it fun j hj => hemin j (by omega)
            rw [← h1, ← h2]
            exact hgc.it _
          · exact upd_cyc hac fun j e => hat ⟨j, e⟩) (by simp) (fun a ha => by
          obtain rfl : a = z := by simpa using ha
          exact ⟨hzn, hzg, hznc⟩)
        have := hmax _ hg
        simp at hcount
        omega
      · refine lemmaG (L := l + 1) (y := p) hm (hE t y htn hy) hq hp ?_
        rw [upd_it fun j hj e => hpathn j (by omega) (by rw [e]; exact htc), hc]
        exact hgc
    · -- all roads of t lead to c: r has another one
      have hbt' : ∀ y, y < k → E t y = c := fun y hy => Classical.byContradiction fun h => hbt ⟨y, hy, h⟩
      obtain ⟨y, hy, hyc⟩ : ∃ y, y < k ∧ E r y ≠ c := by
        apply Classical.byContradiction
        intro h
        exact hbunch t r c htn hrn (fun e => hrt e.symm) ⟨hbt', fun y hy => Classical.byContradiction fun h2 => h ⟨y, hy, h2⟩⟩
      have hg := hf.upd (u := r) hy
      have hmg := hg.maps hE
      have hqn := hE r y hrn hy
      obtain ⟨w, hw⟩ : ∃ w, E r y = w := ⟨_, rfl⟩
      rw [hw] at hg hmg hqn hyc
      have hkeep : ∀ z, Cyc f z → Cyc (upd f r w) z := fun z hz => upd_cyc hz (cyc_avoid hz hrnc)
      have hcount := cntC_more (n := n) (f := f) (g := upd f r w) (V := []) (B := []) (fun z _ hz => .inl (hkeep z hz)) (by simp) (by simp)
      have hmax2 : ∀ g, Choice n k E g → cntC n g ≤ cntC n (upd f r w) := fun g h => by
        have := hmax g h
        simp at hcount
        omega
      have hpl : itF (upd f r w) l p = r := by rw [upd_it hpath, hr]
      have hpl1 : itF (upd f r w) (l + 1) p = w := by rw [itF_succ, hpl, upd_at]
      have hrg : ¬ Cyc (upd f r w) r := fun h => by
        have hcount := cntC_more (n := n) (f := f) (g := upd f r w) (V := []) (B := [r]) (fun z _ hz => .inl (hkeep z hz)) (by simp) (fun a ha => by
          obtain rfl : a = r := by simpa using ha
          exact ⟨hrn, h, hrnc⟩)
        have := hmax _ hg
        simp at hcount
        omega
      by_cases hall : ∀ s, s < n → Cyc (upd f r w) (itF (upd f r w) (l + 1) s)
      · rcases lemmaP hE hg hmax2 hp hu hx hxp hall (by rw [hpl]; exact hrg) with h | ⟨_, h2⟩
        · exact h
        · exfalso
          rw [hpl1, upd_it fun j _ => cyc_avoid hfu hrnc j, hfl, hc] at h2
          exact hyc h2.symm
      · obtain ⟨s, hs, hsc⟩ : ∃ s, s < n ∧ ¬ Cyc (upd f r w) (itF (upd f r w) (l + 1) s) := by
          apply Classical.byContradiction
          intro h
          exact hall fun s hs => Classical.byContradiction fun h2 => h ⟨s, hs, h2⟩
        exact ⟨_, hg, lemmaG (L := l + 1) (y := s) hm hqn hq hs hsc⟩
end choice
section road
/-- Where a word leads. -/
def runE (E : Nat → Nat → Nat) : Nat → List Nat → Nat
  | s, [] => s
  | s, x :: w => runE E (E s x) w
theorem runE_append (E : Nat → Nat → Nat) : ∀ (s : Nat) (u v : List Nat), runE E s (u ++ v) = runE E (runE E s u) v
  | _, [], _ => rfl
  | s, x :: u, v => runE_append E (E s x) u v
def Wd (k : Nat) (w : List Nat) : Prop := ∀ x ∈ w, x < k
theorem Wd.nil (k : Nat) : Wd k [] := fun x hx => by simp at hx
theorem Wd.append {k : Nat} {u v : List Nat} (hu : Wd k u) (hv : Wd k v) : Wd k (u ++ v) := fun x hx => by
  rcases List.mem_append.1 hx with h | h
  · exact hu x h
  · exact hv x h
theorem Wd.cons {k x : Nat} {u : List Nat} (hx : x < k) (hu : Wd k u) : Wd k (x :: u) := fun y hy => by
  rcases List.mem_cons.1 hy with h | h
  · rw [h]; exact hx
  · exact hu y h
def Ok (n k : Nat) (E : Nat → Nat → Nat) : Prop := ∀ s x, s < n → x < k → E s x < n
theorem runE_lt {n k : Nat} {E : Nat → Nat → Nat} (hE : Ok n k E) : ∀ (w : List Nat) (s : Nat), s < n → Wd k w → runE E s w < n
  | [], _, hs, _ => hs
  | x :: w, s, hs, hw => runE_lt hE w (E s x) (hE s x hs (hw x (by simp))) (fun y hy => hw y (by simp [hy]))
/-- Words of one length lead from everywhere to everywhere. -/
def Prim (n k : Nat) (E : Nat → Nat → Nat) : Prop := ∃ N, ∀ s t, s < n → t < n → ∃ w, Wd k w ∧ w.length = N ∧ runE E s w = t
/-- Whatever word is followed, the two can be merged behind it. -/
def Stab (k : Nat) (E : Nat → Nat → Nat) (p q : Nat) : Prop := ∀ u, Wd k u → ∃ v, Wd k v ∧ runE E p (u ++ v) = runE E q (u ++ v)
theorem Stab.refl (k : Nat) (E : Nat → Nat → Nat) (p : Nat) : Stab k E p p := fun _ _ => ⟨[], Wd.nil k, rfl⟩
theorem Stab.symm {k p q : Nat} {E : Nat → Nat → Nat} (h : Stab k E p q) : Stab k E q p := fun u hu => by
  obtain ⟨v, hv, he⟩ := h u hu
  exact ⟨v, hv, he.symm⟩
theorem Stab.trans {k p q r : Nat} {E : Nat → Nat → Nat} (h : Stab k E p q) (h2 : Stab k E q r) : Stab k E p r := fun u hu => by
  obtain ⟨v, hv, he⟩ := h u hu
  obtain ⟨z, hz, hf⟩ := h2 (u ++ v) (hu.append hv)
  refine ⟨v ++ z, hv.append hz, ?_⟩
  rw [← List.append_assoc, ← hf, runE_append E p, runE_append E q, he]
theorem Stab.step {k p q x : Nat} {E : Nat → Nat → Nat} (h : Stab k E p q) (hx : x < k) : Stab k E (E p x) (E q x) := fun u hu => by
  obtain ⟨v, hv, he⟩ := h (x :: u) (hu.cons hx)
  exact ⟨v, hv, he⟩
theorem shorter {α : Type} : ∀ {l : List α}, ¬ l.Nodup → ∃ k : List α, k.length < l.length ∧ (∀ x ∈ l, x ∈ k) ∧ ∀ x ∈ k, x ∈ l
  | [], h => absurd List.nodup_nil h
  | x :: l, h => by
    by_cases hx : x ∈ l
    · exact ⟨l, by simp, fun y hy => by
        rcases List.mem_cons.1 hy with e | e
        · rw [e]; exact hx
        · exact e, fun y hy => by simp [hy]⟩
    · have hl : ¬ l.Nodup := fun h2 => h (List.nodup_cons.2 ⟨hx, h2⟩)
      obtain ⟨k, h1, h2, h3⟩ := shorter hl
      refine ⟨x :: k, by simp; omega, fun y hy => ?_, fun y hy => ?_⟩
      · rcases List.mem_cons.1 hy with e | e
        · simp [e]
        · simp [h2 y e]
      · rcases List.mem_cons.1 hy with e | e
        · simp [e]
        · simp [h3 y e]
theorem replicate_run {n k : Nat} {E : Nat → Nat → Nat} {g : Nat → Nat} (hE : Ok n k E) (hk : 0 < k) (hg : ∀ s, s < n → E s 0 = g s) : ∀ j s, s < n → runE E s (List.replicate j 0) = itF g j s
  | 0, _, _ => rfl
  | j + 1, s, hs => by
    show runE E (E s 0) (List.replicate j 0) = itF g j (g s)
    rw [hg s hs]
    exact replicate_run hE hk hg j (g s) (by rw [← hg s hs]; exact hE s 0 hs hk)
theorem Wd.zeros {k : Nat} (hk : 0 < k) (j : Nat) : Wd k (List.replicate j 0) := fun x hx => by
  rw [(List.mem_replicate.1 hx).2]; exact hk
/-- A number of steps that leads every place of a ring back to itself. -/
theorem common_turn (g : Nat → Nat) : ∀ n, ∃ M, 0 < M ∧ ∀ z, z < n → Cyc g z → itF g M z = z
  | 0 => ⟨1, by omega, fun z hz => by omega⟩
  | n + 1 => by
    obtain ⟨M, hM, h⟩ := common_turn g n
    by_cases hc : Cyc g n
    · obtain ⟨j, hj, he⟩ := hc
      refine ⟨M * j, Nat.mul_pos hM hj, fun z hz hzc => ?_⟩
      by_cases e : z = n
      · subst e
        rw [Nat.mul_comm]; exact itF_mul he M
      · exact itF_mul (h z (by omega) hzc) j
    · exact ⟨M, hM, fun z hz hzc => h z (by
        have : z ≠ n := fun e => hc (by rw [← e]; exact hzc)
        omega) hzc⟩
/-- One farthest tree gives two places that are stable. -/
theorem stable_of_one {n k : Nat} {E : Nat → Nat → Nat} {g : Nat → Nat} (hE : Ok n k E) (hk : 0 < k) (hg : ∀ s, s < n → E s 0 = g s) (hn : 0 < n) (hpr : Prim n k E) (h1 : HasOne n g) : ∃ p q, p < n ∧ q < n ∧ p ≠ q ∧ Stab k E p q := by
  obtain ⟨l, c, hl, ⟨p, hp, hpc⟩, hone⟩ := h1
  have hm : Maps n g := fun s hs => by rw [← hg s hs]; exact hE s 0 hs hk
  obtain ⟨M, hM, hMc⟩ := common_turn g n
  obtain ⟨r, ⟨w0, Q, hw0, hQn, hcov, hQr⟩, hmin⟩ := least_natR (P := fun r => ∃ w Q, Wd k w ∧ (∀ x ∈ Q, x < n) ∧ (∀ s, s < n → runE E s w ∈ Q) ∧ Q.length = r) ⟨n, [], List.range n, Wd.nil k, fun x hx => List.mem_range.1 hx, fun s hs => List.mem_range.2 hs, List.length_range⟩
  have hnd : ∀ u, Wd k u → (Q.map fun x => runE E x u).Nodup := fun u hu => by
    apply Classical.byContradiction
    intro h
    obtain ⟨K, k1, k2, k3⟩ := shorter h
    refine hmin K.length (by rw [List.length_map] at k1; omega) ⟨w0 ++ u, K, hw0.append hu, fun x hx => ?_, fun s hs => ?_, rfl⟩
    · obtain ⟨y, hy, rfl⟩ := List.mem_map.1 (k3 x hx)
      exact runE_lt hE u y (hQn y hy) hu
    · rw [runE_append]
      exact k2 _ (List.mem_map.2 ⟨_, hcov s hs, rfl⟩)
  -- a set of places that are never merged, with p in it
  have hx0 := hcov 0 hn
  obtain ⟨N, hN⟩ := hpr
  obtain ⟨u1, hu1, -, hu1p⟩ := hN _ p (hQn _ hx0) hp
  obtain ⟨P, hP⟩ : ∃ P, Q.map (fun x => runE E x u1) = P := ⟨_, rfl⟩
  have hPn : ∀ x ∈ P, x < n := fun x hx => by
    rw [← hP] at hx
    obtain ⟨y, hy, rfl⟩ := List.mem_map.1 hx
    exact runE_lt hE u1 y (hQn y hy) hu1
  have hPp : p ∈ P := by rw [← hP]; exact List.mem_map.2 ⟨_, hx0, hu1p⟩
  have hPl : P.length = Q.length := by rw [← hP, List.length_map]
  have hPu : ∀ u, Wd k u → (P.map fun x => runE E x u).Nodup := fun u hu => by
    have := hnd (u1 ++ u) (hu1.append hu)
    rw [← hP, List.map_map]
    have e : ((fun x => runE E x u) ∘ fun x => runE E x u1) = fun x => runE E x (u1 ++ u) := by
      funext x; exact (runE_append E x u1 u).symm
    rw [e]; exact this
  have hPnd : P.Nodup := by
    have := hPu [] (Wd.nil k)
    simpa [runE] using this
  -- the others are on rings
  have hoth : ∀ x ∈ P, x ≠ p → Cyc g (itF g l x) := fun x hx hxp => by
    apply Classical.byContradiction
    intro h
    have h1 := hone x (hPn x hx) h
    have h2 := hone p hp hpc
    have hd := hPu (List.replicate (l + 1) 0) (Wd.zeros hk _)
    have h3 : runE E x (List.replicate (l + 1) 0) = runE E p (List.replicate (l + 1) 0) := by
      rw [replicate_run hE hk hg _ _ (hPn x hx), replicate_run hE hk hg _ _ hp, h1, h2]
    have hpm := List.perm_cons_erase hPp
    have hd2 := (hpm.map fun x => runE E x (List.replicate (l + 1) 0)).nodup_iff.1 hd
    rw [List.map_cons, List.nodup_cons] at hd2
    exact hd2.1 (List.mem_map.2 ⟨x, (List.mem_erase_of_ne hxp).2 hx, h3⟩)
  have hp1 := itF_lt hm l p hp
  refine ⟨itF g l p, itF g (l + M) p, hp1, itF_lt hm _ p hp, fun e => ?_, fun u hu => ⟨w0, hw0, ?_⟩⟩
  · exact hpc (by rw [e]; exact (hl p hp).le (by omega))
  · apply Classical.byContradiction
    intro hab
    have e1 : ∀ x, x < n → runE E x (List.replicate l 0 ++ (u ++ w0)) = runE E (itF g l x) (u ++ w0) := fun x hx => by rw [runE_append, replicate_run hE hk hg _ _ hx]
    have e2 : ∀ x, x < n → runE E x (List.replicate (l + M) 0 ++ (u ++ w0)) = runE E (itF g (l + M) x) (u ++ w0) := fun x hx => by rw [runE_append, replicate_run hE hk hg _ _ hx]
    have hpm := List.perm_cons_erase hPp
    have d1 := (hpm.map fun x => runE E x (List.replicate l 0 ++ (u ++ w0))).nodup_iff.1 (hPu _ ((Wd.zeros hk l).append (hu.append hw0)))
    have d2 := (hpm.map fun x => runE E x (List.replicate (l + M) 0 ++ (u ++ w0))).nodup_iff.1 (hPu _ ((Wd.zeros hk (l + M)).append (hu.append hw0)))
    rw [List.map_cons, List.nodup_cons] at d1 d2
    have hI : (P.erase p).map (fun x => runE E x (List.replicate (l + M) 0 ++ (u ++ w0))) = (P.erase p).map (fun x => runE E x (List.replicate l 0 ++ (u ++ w0))) := by
      refine List.map_congr_left fun x hx => ?_
      have hxP : x ∈ P := List.mem_of_mem_erase hx
      have hxp : x ≠ p := fun e => by
        have := (hpm.nodup_iff.1 hPnd)
        rw [List.nodup_cons] at this
        exact this.1 (by have h := hx; rw [e] at h; exact h)
      rw [e1 x (hPn x hxP), e2 x (hPn x hxP), itF_add, hMc _ (itF_lt hm l x (hPn x hxP)) (hoth x hxP hxp)]
    rw [hI, e2 p hp] at d2
    rw [e1 p hp] at d1
    have hlen := nodup_lenR (l := runE E (itF g l p) (u ++ w0) :: runE E (itF g (l + M) p) (u ++ w0) :: (P.erase p).map (fun x => runE E x (List.replicate l 0 ++ (u ++ w0)))) (k := Q) (by
      rw [List.nodup_cons, List.nodup_cons]
      refine ⟨fun h => ?_, d2.1, d1.2⟩
      rcases List.mem_cons.1 h with h | h
      · exact hab h
      · exact d1.1 h) (fun x hx => by
      have hin : ∀ y, y < n → runE E y (u ++ w0) ∈ Q := fun y hy => by
        rw [runE_append]; exact hcov _ (runE_lt hE u y hy hu)
      rcases List.mem_cons.1 hx with h | hx
      · rw [h]; exact hin _ hp1
      rcases List.mem_cons.1 hx with h | hx
      · rw [h]; exact hin _ (itF_lt hm _ p hp)
      obtain ⟨y, hy, rfl⟩ := List.mem_map.1 hx
      have hyn := hPn y (List.mem_of_mem_erase hy)
      rw [e1 y hyn]
      exact hin _ (itF_lt hm l y hyn))
    have hel := List.length_erase_of_mem hPp
    have hpos := List.length_pos_of_mem hPp
    simp only [List.length_cons, List.length_map] at hlen
    omega
/-- Numbers for the classes of an equivalence. -/
theorem classes {R : Nat → Nat → Prop} (hr : ∀ a, R a a) (hs : ∀ a b, R a b → R b a) (ht : ∀ a b c, R a b → R b c → R a c) : ∀ n, ∃ (m : Nat) (K S : Nat → Nat), m ≤ n ∧ (∀ v, v < n → K v < m) ∧ (∀ i, i < m → S i < n ∧ K (S i) = i) ∧ (∀ u v, u < n → v < n → (R u v ↔ K u = K v)) ∧ ((∃ p q, p < n ∧ q < n ∧ p ≠ q ∧ R p q) → m < n)
  | 0 => ⟨0, id, id, Nat.le_refl _, fun v hv => by omega, fun i hi => by omega, fun u v hu => by omega, fun ⟨p, q, hp, _⟩ => by omega⟩
  | n + 1 => by
    obtain ⟨m, K, S, h1, h2, h3, h4, h5⟩ := classes hr hs ht n
    by_cases hex : ∃ u, u < n ∧ R u n
    · obtain ⟨u, hu, hun⟩ := hex
      refine ⟨m, fun v => if v = n then K u else K v, S, by omega, fun v hv => ?_, fun i hi => ?_, fun a b ha hb => ?_, fun _ => by omega⟩
      · simp only
        split
        · exact h2 u hu
        · exact h2 v (by omega)
      · obtain ⟨k1, k2⟩ := h3 i hi
        refine ⟨by omega, ?_⟩
        simp only
        rw [if_neg (by omega)]
        exact k2
      · simp only
        by_cases ea : a = n
        · by_cases eb : b = n
          · rw [if_pos ea, if_pos eb, ea, eb]; exact ⟨fun _ => rfl, fun _ => hr n⟩
          · rw [if_pos ea, if_neg eb, ea, ← h4 u b hu (by omega)]
            exact ⟨fun h => ht _ _ _ hun h, fun h => ht _ _ _ (hs _ _ hun) h⟩
        · by_cases eb : b = n
          · rw [if_neg ea, if_pos eb, eb, ← h4 a u (by omega) hu]
            exact ⟨fun h => ht _ _ _ h (hs _ _ hun), fun h => ht _ _ _ h hun⟩
          · rw [if_neg ea, if_neg eb]
            exact h4 a b (by omega) (by omega)
    · refine ⟨m + 1, fun v => if v = n then m else K v, fun i => if i = m then n else S i, by omega, fun v hv => ?_, fun i hi => ?_, fun a b ha hb => ?_, fun ⟨p, q, hp, hq, hpq, hR⟩ => ?_⟩
      · simp only
        split
        · omega
        · have := h2 v (by omega); omega
      · simp only
        by_cases ei : i = m
        · rw [if_pos ei]
          exact ⟨by omega, by rw [if_pos rfl]; exact ei.symm⟩
        · rw [if_neg ei]
          obtain ⟨k1, k2⟩ := h3 i (by omega)
          exact ⟨by omega, by rw [if_neg (by omega)]; exact k2⟩
      · simp only
        by_cases ea : a = n
        · by_cases eb : b = n
          · rw [if_pos ea, if_pos eb, ea, eb]; exact ⟨fun _ => rfl, fun _ => hr n⟩
          · rw [if_pos ea, if_neg eb, ea]
            have := h2 b (by omega)
            exact ⟨fun h => (hex ⟨b, by omega, hs _ _ h⟩).elim, fun h => by omega⟩
        · by_cases eb : b = n
          · rw [if_neg ea, if_pos eb, eb]
            have := h2 a (by omega)
            exact ⟨fun h => (hex ⟨a, by omega, h⟩).elim, fun h => by omega⟩
          · rw [if_neg ea, if_neg eb]
            exact h4 a b (by omega) (by omega)
      · have hpn : p ≠ n := fun e => hex ⟨q, by omega, by rw [← e]; exact hs _ _ hR⟩
        have hqn : q ≠ n := fun e => hex ⟨p, by omega, by rw [← e]; exact hR⟩
        have := h5 ⟨p, q, by omega, by omega, hpq, hR⟩
        omega
/-- A numbering anew of the roads out of each place. -/
def Col (n k : Nat) (A : Nat → Nat → Nat) : Prop := ∀ s, s < n → ((List.range k).map (A s)).Perm (List.range k)
theorem Col.lt {n k s x : Nat} {A : Nat → Nat → Nat} (h : Col n k A) (hs : s < n) (hx : x < k) : A s x < k :=
  List.mem_range.1 ((h s hs).mem_iff.1 (List.mem_map.2 ⟨x, List.mem_range.2 hx, rfl⟩))
theorem Col.onto {n k s y : Nat} {A : Nat → Nat → Nat} (h : Col n k A) (hs : s < n) (hy : y < k) : ∃ x, x < k ∧ A s x = y := by
  obtain ⟨x, hx, he⟩ := List.mem_map.1 ((h s hs).mem_iff.2 (List.mem_range.2 hy))
  exact ⟨x, List.mem_range.1 hx, he⟩
/-- Words of a colouring go where words of the network go. -/
theorem col_word {n k : Nat} {E A : Nat → Nat → Nat} (hE : Ok n k E) (hA : Col n k A) : ∀ (w : List Nat) (s : Nat), s < n → Wd k w → ∃ v, Wd k v ∧ v.length = w.length ∧ runE (fun s x => E s (A s x)) s v = runE E s w
  | [], s, _, _ => ⟨[], Wd.nil k, rfl, rfl⟩
  | y :: w, s, hs, hw => by
    have hy := hw y (by simp)
    obtain ⟨x, hx, he⟩ := hA.onto hs hy
    obtain ⟨v, h1, h2, h3⟩ := col_word hE hA w (E s y) (hE s y hs hy) (fun z hz => hw z (by simp [hz]))
    refine ⟨x :: v, h1.cons hx, by simp [h2], ?_⟩
    show runE (fun s x => E s (A s x)) (E s (A s x)) v = runE E (E s y) w
    rw [he]; exact h3
theorem Prim.col {n k : Nat} {E A : Nat → Nat → Nat} (hE : Ok n k E) (hA : Col n k A) (h : Prim n k E) : Prim n k (fun s x => E s (A s x)) := by
  obtain ⟨N, hN⟩ := h
  refine ⟨N, fun s t hs ht => ?_⟩
  obtain ⟨w, h1, h2, h3⟩ := hN s t hs ht
  obtain ⟨v, k1, k2, k3⟩ := col_word hE hA w s hs h1
  exact ⟨v, k1, by omega, by rw [k3, h3]⟩
theorem Col.id (n k : Nat) : Col n k (fun _ x => x) := fun s _ => by simp
theorem Ok.col {n k : Nat} {E A : Nat → Nat → Nat} (hE : Ok n k E) (hA : Col n k A) : Ok n k (fun s x => E s (A s x)) := fun s x hs hx => hE s _ hs (hA.lt hs hx)
/-- Two letters exchanged. -/
def swp (j x : Nat) : Nat := if x = 0 then j else if x = j then 0 else x
theorem swp_swp (j x : Nat) : swp j (swp j x) = x := by
  unfold swp
  by_cases h0 : x = 0
  · subst h0
    by_cases hj : j = 0 <;> simp [hj]
  · by_cases hj : x = j
    · subst hj
      simp [h0]
    · simp [h0, hj]
theorem perm_of_inv {k : Nat} {f : Nat → Nat} (hf : ∀ x, x < k → f x < k) (hi : ∀ x, x < k → ∀ y, y < k → f x = f y → x = y) : ((List.range k).map f).Perm (List.range k) := by
  have hnd := nodup_inj (f := f) (List.nodup_range (n := k)) (fun a ha b hb he => hi a (List.mem_range.1 ha) b (List.mem_range.1 hb) he)
  refine (List.perm_ext_iff_of_nodup hnd List.nodup_range).2 fun a => ⟨fun h => ?_, fun h => ?_⟩
  · obtain ⟨x, hx, rfl⟩ := List.mem_map.1 h
    exact List.mem_range.2 (hf x (List.mem_range.1 hx))
  · apply Classical.byContradiction
    intro hno
    have hlen := nodup_lenR (l := a :: (List.range k).map f) (k := List.range k) (List.nodup_cons.2 ⟨hno, hnd⟩) (fun y hy => by
      rcases List.mem_cons.1 hy with e | e
      · rw [e]; exact h
      · obtain ⟨x, hx, rfl⟩ := List.mem_map.1 e
        exact List.mem_range.2 (hf x (List.mem_range.1 hx)))
    simp at hlen
    omega
theorem Col.comp {n k : Nat} {A B : Nat → Nat → Nat} (hA : Col n k A) (hB : Col n k B) : Col n k (fun s x => A s (B s x)) := fun s hs => by
  have h := (hB s hs).map (A s)
  rw [List.map_map] at h
  exact h.trans (hA s hs)
/-- Two places at least: some colouring has two stable places. -/
theorem stable_col {n k : Nat} {E : Nat → Nat → Nat} (hE : Ok n k E) (hn : 2 ≤ n) (hpr : Prim n k E) : ∃ A, Col n k A ∧ ∃ p q, p < n ∧ q < n ∧ p ≠ q ∧ Stab k (fun s x => E s (A s x)) p q := by
  obtain ⟨N, hN⟩ := id hpr
  have hN0 : 0 < N := by
    apply Classical.byContradiction
    intro h
    obtain ⟨w, _, h2, h3⟩ := hN 0 1 (by omega) (by omega)
    have : w = [] := List.eq_nil_of_length_eq_zero (by omega)
    subst this
    simp [runE] at h3
  have hk : 0 < k := by
    obtain ⟨w, h1, h2, _⟩ := hN 0 1 (by omega) (by omega)
    cases w with
    | nil => simp at h2; omega
    | cons x w => have := h1 x (by simp); omega
  by_cases hb : ∃ p q r, p < n ∧ q < n ∧ p ≠ q ∧ (∀ x, x < k → E p x = r) ∧ ∀ x, x < k → E q x = r
  · obtain ⟨p, q, r, hp, hq, hpq, h1, h2⟩ := hb
    refine ⟨_, Col.id n k, p, q, hp, hq, hpq, fun u hu => ?_⟩
    cases u with
    | nil => exact ⟨[0], (Wd.nil k).cons hk, by show E p 0 = E q 0; rw [h1 0 hk, h2 0 hk]⟩
    | cons x u =>
      refine ⟨[], Wd.nil k, ?_⟩
      have hx := hu x (by simp)
      show runE _ (E p x) (u ++ []) = runE _ (E q x) (u ++ [])
      rw [h1 x hx, h2 x hx]
  · obtain ⟨g, hg, hone⟩ := choice_one hE hn hk (by
      apply Classical.byContradiction
      intro h
      have hall : ∀ u x, u < n → x < k → E u x = E u 0 := fun u x hu hx => Classical.byContradiction fun h2 => h ⟨u, x, hu, hx, h2⟩
      have hsame : ∀ (w v : List Nat) (s : Nat), s < n → Wd k w → Wd k v → w.length = v.length → runE E s w = runE E s v := by
        intro w
        induction w with
        | nil => intro v s _ _ _ hl; rw [List.eq_nil_of_length_eq_zero hl.symm]
        | cons x w ih =>
          intro v s hs hw hv hl
          cases v with
          | nil => simp at hl
          | cons y v =>
            show runE E (E s x) w = runE E (E s y) v
            have hx := hw x (by simp)
            have hy := hv y (by simp)
            rw [hall s x hs hx, hall s y hs hy]
            exact ih v _ (hE s 0 hs hk) (fun z hz => hw z (by simp [hz])) (fun z hz => hv z (by simp [hz])) (by simpa using hl)
      obtain ⟨w, a1, a2, a3⟩ := hN 0 0 (by omega) (by omega)
      obtain ⟨v, b1, b2, b3⟩ := hN 0 1 (by omega) (by omega)
      have := hsame w v 0 (by omega) a1 b1 (by omega)
      omega) (fun p hp => by
      obtain ⟨w, a1, a2, a3⟩ := hN 0 p (by omega) hp
      have hne : w ≠ [] := fun e => by rw [e] at a2; simp at a2; omega
      have hsp := List.dropLast_concat_getLast hne
      rw [← hsp, runE_append] at a3
      exact ⟨_, w.getLast hne, runE_lt hE w.dropLast 0 (by omega) (fun z hz => a1 z (List.dropLast_subset w hz)), a1 _ (List.getLast_mem hne), a3⟩) (fun p q r hp hq hpq h => hb ⟨p, q, r, hp, hq, hpq, h.1, h.2⟩)
    have hch : ∀ s, ∃ x, s < n → x < k ∧ E s x = g s := fun s => by
      by_cases hs : s < n
      · obtain ⟨x, h1, h2⟩ := hg s hs
        exact ⟨x, fun _ => ⟨h1, h2⟩⟩
      · exact ⟨0, fun h => absurd h hs⟩
    obtain ⟨J, hJ⟩ := Classical.axiomOfChoice hch
    have hA : Col n k (fun s x => swp (J s) x) := fun s hs => by
      have hj := (hJ s hs).1
      refine perm_of_inv (fun x hx => ?_) (fun x _ y _ he => ?_)
      · show swp (J s) x < k
        unfold swp
        split
        · exact hj
        · split
          · exact hk
          · exact hx
      · have := congrArg (swp (J s)) he
        rwa [swp_swp, swp_swp] at this
    refine ⟨_, hA, ?_⟩
    exact stable_of_one (hE.col hA) hk (fun s hs => by show E s (swp (J s) 0) = g s; exact (hJ s hs).2) (by omega) (hpr.col hE hA) hone
/-- THE ROAD COLOURING THEOREM (Trahtman): a network in which words of one length lead from everywhere to everywhere can be numbered anew so that all pairs are merged. -/
theorem road_colouring {k : Nat} : ∀ (n : Nat) {E : Nat → Nat → Nat}, Ok n k E → Prim n k E → ∃ A, Col n k A ∧ ∀ s t, s < n → t < n → ∃ w, Wd k w ∧ runE (fun s x => E s (A s x)) s w = runE (fun s x => E s (A s x)) t w := by
  intro n
  induction n using Nat.strongRecOn with
  | _ n ih =>
    intro E hE hpr
    by_cases hn : n < 2
    · exact ⟨_, Col.id n k, fun s t hs ht => ⟨[], Wd.nil k, by show s = t; omega⟩⟩
    obtain ⟨A, hA, p, q, hp, hq, hpq, hst⟩ := stable_col hE (by omega) hpr
    obtain ⟨F, hF⟩ : ∃ F : Nat → Nat → Nat, F = fun s x => E s (A s x) := ⟨_, rfl⟩
    have hFo : Ok n k F := by rw [hF]; exact hE.col hA
    have hFp : Prim n k F := by rw [hF]; exact hpr.col hE hA
    rw [← hF] at hst
    obtain ⟨m, K, S, -, h2, h3, h4, h5⟩ := classes (R := Stab k F) (Stab.refl k F) (fun _ _ h => h.symm) (fun _ _ _ h h2 => h.trans h2) n
    have hm := h5 ⟨p, q, hp, hq, hpq, hst⟩
    have hK : ∀ v x, v < n → x < k → K (F v x) = K (F (S (K v)) x) := fun v x hv hx => by
      obtain ⟨k1, k2⟩ := h3 (K v) (h2 v hv)
      exact (h4 _ _ (hFo v x hv hx) (hFo _ x k1 hx)).1 (((h4 v _ hv k1).2 k2.symm).step hx)
    have hGo : Ok m k (fun i x => K (F (S i) x)) := fun i x hi hx => h2 _ (hFo _ x (h3 i hi).1 hx)
    have hKr : ∀ (w : List Nat) (v : Nat), v < n → Wd k w → K (runE F v w) = runE (fun i x => K (F (S i) x)) (K v) w := by
      intro w
      induction w with
      | nil => intro v _ _; rfl
      | cons x w ihw =>
        intro v hv hw
        have hx := hw x (by simp)
        show K (runE F (F v x) w) = runE _ (K (F (S (K v)) x)) w
        rw [← hK v x hv hx]
        exact ihw _ (hFo v x hv hx) (fun z hz => hw z (by simp [hz]))
    have hGp : Prim m k (fun i x => K (F (S i) x)) := by
      obtain ⟨N, hN⟩ := hFp
      refine ⟨N, fun i j hi hj => ?_⟩
      obtain ⟨k1, k2⟩ := h3 i hi
      obtain ⟨k3, k4⟩ := h3 j hj
      obtain ⟨w, a1, a2, a3⟩ := hN _ _ k1 k3
      refine ⟨w, a1, a2, ?_⟩
      have := hKr w _ k1 a1
      rw [a3, k4, k2] at this
      exact this.symm
    obtain ⟨B, hB, hBm⟩ := ih m hm hGo hGp
    have hC : Col n k (fun s x => A s (B (K s) x)) := hA.comp (B := fun s x => B (K s) x) (fun s hs => hB (K s) (h2 s hs))
    refine ⟨_, hC, fun s t hs ht => ?_⟩
    obtain ⟨H, hH⟩ : ∃ H : Nat → Nat → Nat, H = fun s x => E s (A s (B (K s) x)) := ⟨_, rfl⟩
    have hHF : ∀ s x, H s x = F s (B (K s) x) := fun s x => by rw [hH, hF]
    have hHo : Ok n k H := by rw [hH]; exact hE.col hC
    rw [← hH]
    have hHr : ∀ (w : List Nat) (v : Nat), v < n → Wd k w → K (runE H v w) = runE (fun i x => K (F (S i) (B i x))) (K v) w := by
      intro w
      induction w with
      | nil => intro v _ _; rfl
      | cons x w ihw =>
        intro v hv hw
        have hx := hw x (by simp)
        show K (runE H (H v x) w) = runE _ (K (F (S (K v)) (B (K v) x))) w
        rw [← hK v _ hv (hB.lt (h2 v hv) hx), ← hHF]
        exact ihw _ (hHo v x hv hx) (fun z hz => hw z (by simp [hz]))
    obtain ⟨w, hw, hwe⟩ := hBm (K s) (K t) (h2 s hs) (h2 t ht)
    rw [← hHr w s hs hw, ← hHr w t ht hw] at hwe
    have hs1 := runE_lt hHo w s hs hw
    have ht1 := runE_lt hHo w t ht hw
    obtain ⟨v, hv, hve⟩ := ((h4 _ _ hs1 ht1).2 hwe) [] (Wd.nil k)
    rw [List.nil_append] at hve
    have hlift : ∀ (v : List Nat) (a b : Nat), a < n → b < n → K a = K b → Wd k v → ∃ v', Wd k v' ∧ runE H a v' = runE F a v ∧ runE H b v' = runE F b v := by
      intro v
      induction v with
      | nil => intro a b _ _ _ _; exact ⟨[], Wd.nil k, rfl, rfl⟩
      | cons x v ihv =>
        intro a b ha hb hab hv
        have hx := hv x (by simp)
        obtain ⟨y, hy, hyx⟩ := hB.onto (h2 a ha) hx
        have hy2 : B (K b) y = x := by rw [← hab]; exact hyx
        have hKK : K (F a x) = K (F b x) := by rw [hK a x ha hx, hK b x hb hx, hab]
        obtain ⟨v', c1, c2, c3⟩ := ihv (F a x) (F b x) (hFo a x ha hx) (hFo b x hb hx) hKK (fun z hz => hv z (by simp [hz]))
        refine ⟨y :: v', c1.cons hy, ?_, ?_⟩
        · show runE H (H a y) v' = runE F (F a x) v
          rw [hHF, hyx]; exact c2
        · show runE H (H b y) v' = runE F (F b x) v
          rw [hHF, hy2]; exact c3
    obtain ⟨v', c1, c2, c3⟩ := hlift v _ _ hs1 ht1 hwe hv
    exact ⟨w ++ v', hw.append c1, by rw [runE_append, runE_append, c2, c3, hve]⟩
end road
end Go.Proofs.YtlpfglkopnmlnaaDoor
namespace Go.Proofs.YtlpfglkopnmlnaaDoor
def sumT (f : Nat → Nat) : Nat → Nat
  | 0 => 0
  | t + 1 => sumT f t + f t
theorem sumT_le {f g : Nat → Nat} : ∀ {n : Nat}, (∀ t, t < n → f t ≤ g t) → sumT f n ≤ sumT g n
  | 0, _ => Nat.le_refl _
  | n + 1, h => Nat.add_le_add (sumT_le fun t ht => h t (by omega)) (h n (by omega))
theorem sumT_mul (f : Nat → Nat) (c : Nat) : ∀ n, sumT (fun t => f t * c) n = sumT f n * c
  | 0 => by simp [sumT]
  | n + 1 => by show sumT (fun t => f t * c) n + f n * c = (sumT f n + f n) * c; rw [sumT_mul f c n, Nat.add_mul]
theorem sumT_add (f g : Nat → Nat) : ∀ n, sumT (fun t => f t + g t) n = sumT f n + sumT g n
  | 0 => rfl
  | n + 1 => by show sumT (fun t => f t + g t) n + (f n + g n) = sumT f n + f n + (sumT g n + g n); rw [sumT_add f g n]; omega
theorem sumT_zero (f : Nat → Nat) : ∀ n, (∀ t, t < n → f t = 0) → sumT f n = 0
  | 0, _ => rfl
  | n + 1, h => by show sumT f n + f n = 0; rw [sumT_zero f n (fun t ht => h t (by omega)), h n (by omega)]
theorem sumT_one (x : Nat) : ∀ n, x < n → sumT (fun t => if x = t then 1 else 0) n = 1
  | 0, h => by omega
  | n + 1, h => by
    show sumT (fun t => if x = t then 1 else 0) n + (if x = n then 1 else 0) = 1
    by_cases e : x = n
    · rw [if_pos e, sumT_zero _ n fun t ht => if_neg (by omega)]
    · rw [if_neg e, sumT_one x n (by omega)]
theorem sum_filter {α : Type} (h : α → Int) {n : Nat} : ∀ {L : List α}, (∀ x ∈ L, 0 ≤ h x ∧ h x < (n : Int)) → sumT (fun t => (L.filter fun x => h x == (t : Int)).length) n = L.length
  | [], _ => sumT_zero _ n fun t _ => rfl
  | a :: L, hr => by
    have ih := sum_filter h (L := L) (fun x hx => hr x (by simp [hx]))
    have ha := hr a (by simp)
    have e : (fun t : Nat => ((a :: L).filter fun x => h x == (t : Int)).length) = fun t => (if (h a).toNat = t then 1 else 0) + (L.filter fun x => h x == (t : Int)).length := by
      funext t
      rw [List.filter_cons]
      by_cases e : (h a).toNat = t
      · have : (h a == (t : Int)) = true := beq_iff_eq.2 (by omega)
        rw [if_pos this, if_pos e, List.length_cons]; omega
      · have : ¬ (h a == (t : Int)) = true := fun h2 => e (by have := beq_iff_eq.1 h2; omega)
        rw [if_neg this, if_neg e]; omega
    rw [e, sumT_add, ih, sumT_one _ n (by omega), List.length_cons]; omega
theorem prodT_perm {l k : List Int} (h : l.Perm k) : ∀ n, prodT l n = prodT k n
  | 0 => rfl
  | n + 1 => by show prodT l n * _ = prodT k n * _; rw [prodT_perm h n, timesL_perm h]
theorem prodT_erase {l : List Int} {t n : Nat} (ht : (t : Int) ∈ l) (hn : t < n) : prodT l n = prodT (l.erase (t : Int)) n * timesL l (t : Int) := by
  have h1 : l.Perm (l.erase (t : Int) ++ [(t : Int)]) := (List.perm_cons_erase ht).trans (List.perm_append_singleton _ _).symm
  rw [prodT_perm h1, prodT_snoc, if_pos hn, timesL_perm h1, timesL_snoc, if_pos rfl]
theorem prodT_nil : ∀ n, prodT [] n = 1
  | 0 => rfl
  | n + 1 => by show prodT [] n * fct (timesL [] n) = 1; rw [prodT_nil n]; rfl
/-- So many different orders has a row, and no more. -/
theorem count_perms {n : Nat} : ∀ (len : Nat) (l : List Int), l.length = len → (∀ y ∈ l, 0 ≤ y ∧ y < (n : Int)) → ∀ Ps : List (List Int), Ps.Nodup → (∀ P ∈ Ps, P.Perm l) → Ps.length * prodT l n ≤ fct len
  | 0, l, hl, _, Ps, hnd, hP => by
    obtain rfl := List.eq_nil_of_length_eq_zero hl
    have hlen := nodup_lenR hnd (k := [[]]) (fun P hp => by rw [(hP P hp).eq_nil]; simp)
    rw [prodT_nil, Nat.mul_one]
    simpa [fct] using hlen
  | len + 1, l, hl, hr, Ps, hnd, hP => by
    have hne : ∀ P ∈ Ps, ∃ a t, P = a :: t := fun P hp => by
      have := (hP P hp).length_eq
      cases P with
      | nil => simp at this; omega
      | cons a t => exact ⟨a, t, rfl⟩
    have hs1 := sum_filter (fun P : List Int => P.headD 0) (n := n) (L := Ps) (fun P hp => by
      obtain ⟨a, t, rfl⟩ := hne P hp
      exact hr a ((hP _ hp).mem_iff.1 (by simp)))
    have hs2 := sum_filter (fun x : Int => x) (n := n) (L := l) hr
    have key : ∀ t, t < n → (Ps.filter fun P => P.headD 0 == (t : Int)).length * prodT l n ≤ timesL l (t : Int) * fct len := fun t ht => by
      by_cases htl : (t : Int) ∈ l
      · have hmem : ∀ P ∈ Ps.filter (fun P => P.headD 0 == (t : Int)), ∃ q, P = (t : Int) :: q ∧ P ∈ Ps := fun P hp => by
          obtain ⟨h1, h2⟩ := List.mem_filter.1 hp
          obtain ⟨a, q, rfl⟩ := hne P h1
          have : a = (t : Int) := by simpa using h2
          exact ⟨q, by rw [this], h1⟩
        have ih := count_perms (n := n) len (l.erase (t : Int)) (by rw [List.length_erase_of_mem htl, hl]; rfl) (fun y hy => hr y (List.mem_of_mem_erase hy)) ((Ps.filter fun P => P.headD 0 == (t : Int)).map List.tail)
          (nodup_inj (hnd.filter _) fun a ha b hb he => by
            obtain ⟨q, rfl, _⟩ := hmem a ha
            obtain ⟨q', rfl, _⟩ := hmem b hb
            simp only [List.tail_cons] at he
            rw [he])
          (fun P hp => by
            obtain ⟨Q, hQ, rfl⟩ := List.mem_map.1 hp
            obtain ⟨q, rfl, hq⟩ := hmem Q hQ
            exact ((hP _ hq).trans (List.perm_cons_erase htl)).cons_inv)
        rw [List.length_map] at ih
        rw [prodT_erase htl ht, ← Nat.mul_assoc, Nat.mul_comm (timesL l (t : Int))]
        exact Nat.mul_le_mul_right _ ih
      · have : Ps.filter (fun P => P.headD 0 == (t : Int)) = [] := by
          rw [List.filter_eq_nil_iff]
          intro P hp h
          obtain ⟨a, q, rfl⟩ := hne P hp
          have : a = (t : Int) := by simpa using h
          exact htl (by rw [← this]; exact (hP _ hp).mem_iff.1 (by simp))
        rw [this]; simp
    have h := sumT_le key
    rw [sumT_mul, sumT_mul, hs1] at h
    have e : sumT (fun t => timesL l (t : Int)) n = len + 1 := by rw [← hl]; exact hs2
    rw [e, Nat.mul_comm (len + 1)] at h
    exact h
theorem perP_le {l : List Int} {n : Nat} (h1 : 1 ≤ l.length) (h6 : l.length ≤ 6) (hr : ∀ y ∈ l, 0 ≤ y ∧ y < (n : Int)) : perP l ≤ ordN l n := by
  obtain ⟨a1, a2, a3, a4⟩ := perP_spec h1 h6
  have hnd : ((List.range (perP l)).map fun i => iterP i l).Nodup := nodup_inj List.nodup_range fun a ha b hb he => by
    have ha := List.mem_range.1 ha
    have hb := List.mem_range.1 hb
    have key : ∀ a b, a < b → b < perP l → iterP a l = iterP b l → False := fun a b hab hb he => by
      have h1 : iterP (perP l - a) (iterP a l) = l := by rw [← iterP_add, show a + (perP l - a) = perP l by omega, a3]
      have h2 : iterP (perP l - a) (iterP b l) = iterP (b - a) l := by rw [← iterP_add, show b + (perP l - a) = perP l + (b - a) by omega, iterP_add, a3]
      rw [he, h2] at h1
      exact a4 (b - a) (by omega) (by omega) h1
    rcases Nat.lt_trichotomy a b with h | h | h
    · exact (key a b h hb he).elim
    · exact h
    · exact (key b a h ha he.symm).elim
  have h := count_perms (n := n) l.length l rfl hr _ hnd (fun P hp => by
    obtain ⟨i, _, rfl⟩ := List.mem_map.1 hp
    exact iterP_perm i l)
  rw [List.length_map, List.length_range] at h
  exact (Nat.le_div_iff_mul_le (prodT_pos l n)).2 h
/-- The digits of a number reach every choice. -/
def preL (m : List (List Int)) : Nat → Nat
  | 0 => 1
  | s + 1 => preL m s * ordL m s
def codeC (m : List (List Int)) (D : Nat → Nat) : Nat → Nat
  | 0 => 0
  | s + 1 => codeC m D s + D s * preL m s
theorem codeC_lt {m : List (List Int)} {D : Nat → Nat} (hD : ∀ s, s < m.length → D s < ordL m s) : ∀ s, s ≤ m.length → codeC m D s < preL m s
  | 0, _ => Nat.one_pos
  | s + 1, h => by
    have ih := codeC_lt hD s (by omega)
    have h2 := Nat.mul_le_mul_left (preL m s) (show D s + 1 ≤ ordL m s from hD s (by omega))
    show codeC m D s + D s * preL m s < preL m s * ordL m s
    rw [Nat.mul_add, Nat.mul_one, Nat.mul_comm (preL m s) (D s)] at h2
    omega
theorem restD_pre (m : List (List Int)) (i : Nat) : ∀ s, restD m i s = i / preL m s
  | 0 => by show i = i / 1; rw [Nat.div_one]
  | s + 1 => by show restD m i s / ordL m s = i / (preL m s * ordL m s); rw [restD_pre m i s, Nat.div_div_eq_div_mul]
theorem preL_dvd (m : List (List Int)) (s : Nat) : ∀ d, ∃ r, preL m (s + d) = preL m s * r
  | 0 => ⟨1, by rw [Nat.mul_one]; rfl⟩
  | d + 1 => by
    obtain ⟨r, hr⟩ := preL_dvd m s d
    exact ⟨r * ordL m (s + d), by show preL m (s + d) * ordL m (s + d) = _; rw [hr, Nat.mul_assoc]⟩
theorem codeC_split (m : List (List Int)) (D : Nat → Nat) (s : Nat) : ∀ d, ∃ q, codeC m D (s + 1 + d) = codeC m D s + preL m s * (D s + ordL m s * q)
  | 0 => ⟨0, by show codeC m D s + D s * preL m s = _; rw [Nat.mul_zero, Nat.add_zero, Nat.mul_comm]⟩
  | d + 1 => by
    obtain ⟨q, hq⟩ := codeC_split m D s d
    obtain ⟨r, hr⟩ := preL_dvd m (s + 1) d
    refine ⟨q + D (s + 1 + d) * r, ?_⟩
    show codeC m D (s + 1 + d) + D (s + 1 + d) * preL m (s + 1 + d) = _
    rw [hq, hr, show preL m (s + 1) = preL m s * ordL m s from rfl]
    grind
theorem dgD_code {m : List (List Int)} (hv : validM m = true) {D : Nat → Nat} (hD : ∀ s, s < m.length → D s < ordL m s) {s : Nat} (hs : s < m.length) : dgD m (codeC m D m.length) s = D s := by
  have hpos : ∀ t, t ≤ m.length → 0 < preL m t := fun t ht => by
    induction t with
    | zero => exact Nat.one_pos
    | succ t ih => exact Nat.mul_pos (ih (by omega)) (orbP_big hv (by omega : t < m.length)).2
  obtain ⟨q, hq⟩ := codeC_split m D s (m.length - (s + 1))
  rw [show s + 1 + (m.length - (s + 1)) = m.length by omega] at hq
  have hlt := codeC_lt hD s (by omega)
  unfold dgD
  rw [restD_pre, hq, Nat.add_mul_div_left _ _ (hpos s (by omega)), Nat.div_eq_of_lt hlt, Nat.zero_add, Nat.add_mul_mod_self_left, Nat.mod_eq_of_lt (hD s hs)]
theorem colTo_pre {m : List (List Int)} (hv : validM m = true) {lim : Nat} : ∀ {s c : Nat}, s ≤ m.length → colTo m lim s = some c → preL m s ≤ c
  | 0, c, _, h => by
    obtain rfl : 1 = c := by simpa [colTo] using h
    exact Nat.le_refl _
  | s + 1, c, hs, h => by
    unfold colTo at h
    cases h1 : colTo m lim s with
    | none => rw [h1] at h; cases h
    | some c1 =>
      rw [h1] at h
      have ih := colTo_pre hv (by omega) h1
      obtain ⟨o1, o2, o3⟩ := orbP_row hv (show s < m.length by omega)
      have hp : ordL m s ≤ ordN (m.getD s []) m.length := by
        unfold ordL
        rw [orbP_len]
        exact perP_le o1 o2 (fun y hy => row_range hv (by omega) y hy)
      by_cases h2 : lim / ordN (m.getD s []) m.length < c1
      · simp only [if_pos h2] at h; cases h
      · simp only [if_neg h2, Option.some.injEq] at h
        subst h
        exact Nat.mul_le_mul ih hp
theorem allNum_has {m M : List (List Int)} (hv : validM m = true) {c : Nat} (hc : colTo m 1152921504606846976 m.length = some c) (hc6 : c ≤ 1000000) (h : PermR m M) : M ∈ allNum m := by
  have hch : ∀ s, ∃ d, s < m.length → d < ordL m s ∧ (orbP (m.getD s [])).getD d [] = M.getD s [] := fun s => by
    by_cases hs : s < m.length
    · obtain ⟨o1, o2, o3⟩ := orbP_row hv hs
      obtain ⟨i, hi, he⟩ := orbP_all o1 o2 (h.2 s hs)
      exact ⟨i, fun _ => ⟨by unfold ordL; rw [orbP_len]; exact hi, he⟩⟩
    · exact ⟨0, fun h => absurd h hs⟩
  obtain ⟨D, hD⟩ := Classical.axiomOfChoice hch
  have hDl : ∀ s, s < m.length → D s < ordL m s := fun s hs => (hD s hs).1
  have hcode := codeC_lt hDl m.length (Nat.le_refl _)
  have hpre := colTo_pre hv (Nat.le_refl _) hc
  refine List.mem_append_right _ (List.mem_map.2 ⟨codeC m D m.length, List.mem_range.2 ?_, ?_⟩)
  · unfold tryC
    rw [hc]
    simp only [tryR, if_pos hc6]
    omega
  · apply List.ext_getElem?
    intro s
    by_cases hs : s < m.length
    · have e1 : (numM m (dgD m (codeC m D m.length))).getD s [] = M.getD s [] := by
        rw [numM_get _ _ _ hs, dgD_code hv hDl hs, (hD s hs).2]
      have l1 : s < (numM m (dgD m (codeC m D m.length))).length := by rw [numM_length]; exact hs
      have l2 : s < M.length := by rw [h.1]; exact hs
      rw [List.getElem?_eq_getElem l1, List.getElem?_eq_getElem l2]
      simpa [List.getD_eq_getElem?_getD, List.getElem?_eq_getElem l1, List.getElem?_eq_getElem l2] using e1
    · rw [List.getElem?_eq_none (by rw [numM_length]; omega), List.getElem?_eq_none (by rw [h.1]; omega)]
end Go.Proofs.YtlpfglkopnmlnaaDoor
namespace Go.Proofs.YtlpfglkopnmlnaaDoor
def roadsE (m : List (List Int)) (s x : Nat) : Nat := nx m s (x : Int)
theorem roads_run (m : List (List Int)) : ∀ (w : List Nat) (s : Nat), runE (roadsE m) s w = runM m s (w.map fun x : Nat => (x : Int))
  | [], _ => rfl
  | x :: w, s => roads_run m w (nx m s (x : Int))
theorem roads_ok {m : List (List Int)} (hv : validM m = true) : Ok m.length (letters m) (roadsE m) := fun s x hs hx => (nx_ok hv hs (x := (x : Int)) (by omega) (by omega)).1
theorem roads_prim {m : List (List Int)} (hv : validM m = true) (hc : connM m = true) (hp : perM m = 1) : Prim m.length (letters m) (roadsE m) := by
  refine ⟨(m.length - 1) * (m.length - 1) + 1, fun s t hs ht => ?_⟩
  obtain ⟨u, h1, h2, h3⟩ := wielandt hv hc hp hs ht (Nat.le_refl _)
  have hb : ∀ x ∈ u, 0 ≤ x ∧ x < (letters m : Int) := fun x hx => by
    have := inB_iff.1 (List.all_eq_true.1 h1 x hx); omega
  refine ⟨u.map Int.toNat, fun x hx => ?_, by rw [List.length_map, h2], ?_⟩
  · obtain ⟨y, hy, rfl⟩ := List.mem_map.1 hx
    have := hb y hy; omega
  · rw [roads_run, List.map_map]
    have e : u.map ((fun x : Nat => (x : Int)) ∘ Int.toNat) = u := by
      have : u.map ((fun x : Nat => (x : Int)) ∘ Int.toNat) = u.map id := List.map_congr_left fun x hx => by
        have := hb x hx
        show ((x.toNat : Nat) : Int) = x
        omega
      rw [this, List.map_id]
    rw [e]; exact h3
/-- The automaton of a colouring. -/
def colA (m : List (List Int)) (A : Nat → Nat → Nat) : List (List Int) := (List.range m.length).map fun s => (List.range (letters m)).map fun x => (m.getD s []).getD (A s x) 0
theorem colA_length (m : List (List Int)) (A : Nat → Nat → Nat) : (colA m A).length = m.length := by simp [colA]
theorem colA_get (m : List (List Int)) (A : Nat → Nat → Nat) {s : Nat} (h : s < m.length) : (colA m A).getD s [] = (List.range (letters m)).map fun x => (m.getD s []).getD (A s x) 0 := by simp [colA, List.getD_eq_getElem?_getD, h]
theorem range_getD (l : List Int) : (List.range l.length).map (fun x => l.getD x 0) = l := by
  apply List.ext_getElem
  · simp
  · intro i h1 h2
    simp [List.getD_eq_getElem?_getD, h2]
theorem colA_perm {m : List (List Int)} (hv : validM m = true) {A : Nat → Nat → Nat} (hA : Col m.length (letters m) A) : PermR m (colA m A) := by
  refine ⟨colA_length m A, fun s hs => ?_⟩
  rw [colA_get m A hs]
  have h := (hA s hs).map fun x => (m.getD s []).getD x 0
  rw [List.map_map] at h
  have hl := ((valid_parts hv).2.2.2.2 s hs).1
  have e := range_getD (m.getD s [])
  rw [hl] at e
  rw [e] at h
  exact h
theorem colA_nx {m : List (List Int)} (A : Nat → Nat → Nat) {s x : Nat} (hs : s < m.length) (hx : x < letters m) : nx (colA m A) s (x : Int) = roadsE m s (A s x) := by
  unfold roadsE nx
  rw [colA_get m A hs, Int.toNat_natCast, Int.toNat_natCast]
  simp [List.getD_eq_getElem?_getD, hx]
theorem colA_run {m : List (List Int)} (hv : validM m = true) {A : Nat → Nat → Nat} (hA : Col m.length (letters m) A) : ∀ (w : List Nat) (s : Nat), s < m.length → Wd (letters m) w → runM (colA m A) s (w.map fun x : Nat => (x : Int)) = runE (fun s x => roadsE m s (A s x)) s w
  | [], _, _, _ => rfl
  | x :: w, s, hs, hw => by
    have hx := hw x (by simp)
    show runM (colA m A) (nx (colA m A) s (x : Int)) (w.map fun x : Nat => (x : Int)) = runE _ (roadsE m s (A s x)) w
    rw [colA_nx A hs hx]
    exact colA_run hv hA w _ (roads_ok hv s _ hs (hA.lt hs hx)) (fun z hz => hw z (by simp [hz]))
theorem road_merges {m : List (List Int)} (hv : validM m = true) (hc : connM m = true) (hp : perM m = 1) : ∃ M, PermR m M ∧ allMerge M := by
  obtain ⟨A, hA, hall⟩ := road_colouring m.length (roads_ok hv) (roads_prim hv hc hp)
  have hP := colA_perm hv hA
  refine ⟨colA m A, hP, fun p q hpq hq => ?_⟩
  rw [colA_length] at hq
  obtain ⟨w, hw, he⟩ := hall p q (by omega) hq
  refine ⟨w.length, w.map fun x : Nat => (x : Int), ?_, by rw [List.length_map], ?_⟩
  · rw [hP.lets hv, List.all_eq_true]
    intro y hy
    obtain ⟨x, hx, rfl⟩ := List.mem_map.1 hy
    have := hw x hx
    exact inB_true (by omega)
  · rw [colA_run hv hA w p (by omega) hw, colA_run hv hA w q hq hw, he]
/-- One of the colourings that are tried has a reset word, where there are at most as many as are tried. -/
theorem road_tried {m : List (List Int)} (hv : validM m = true) (hc : connM m = true) (hp : perM m = 1) {c : Nat} (h : colTo m 1152921504606846976 m.length = some c) (h6 : c ≤ 1000000) : ∃ M ∈ allNum m, allMerge M := by
  obtain ⟨M, h1, h2⟩ := road_merges hv hc hp
  exact ⟨M, allNum_has hv h h6 h1, h2⟩
end Go.Proofs.YtlpfglkopnmlnaaDoor
namespace Go.Proofs.YtlpfglkopnmlnaaDoor
open Go.RowKit Go.Shelf
theorem rConnected_bool (v : Value) (m : List (List Int)) (b : Bool) (w : World) (h : Rows w v m) (hv : validM m = true) (hb : connM m = b) :
    Calls Tryd.prog 21 #[.agg #[v]] w fun e w' => e = .returned (.bool b) ∧ Below w.heap.size w w' := by
  subst hb; exact rConnected_any v m w h hv
theorem rPeriod_as (v : Value) (m : List (List Int)) (p : Nat) (w : World) (h : Rows w v m) (hv : validM m = true) (hp : perR m (3 * m.length) = p) :
    Calls Tryd.prog 22 #[.agg #[v]] w fun e w' => e = .returned (.int .i64 (p : Nat)) ∧ Below w.heap.size w w' := by
  subst hp; exact rPeriod_any v m w h hv
end Go.Proofs.YtlpfglkopnmlnaaDoor
namespace Go.Proofs.YtlpfglkopnmlnaaDoor
open Go.RowKit Go.Shelf
theorem tmod_cycle {i n : Int} (hn : 0 < n) : (i.tmod n + n) % n = i % n := by
  have h := Int.mul_tdiv_add_tmod i n
  have e1 : (i.tmod n + n) % n = i.tmod n % n := by rw [Int.add_emod_right]
  have e2 : i % n = (i.tmod n + n * i.tdiv n) % n := by rw [show i.tmod n + n * i.tdiv n = i by omega]
  rw [e1, e2, Int.add_mul_emod_self_left]
theorem tCycle_any (i n : Int) (w : World) (hn : 1 ≤ n ∧ n ≤ 1000) :
    Calls Tryd.prog 74 #[.int .i64 i, .int .i64 n] w fun e w' => e = .returned (.int .i64 (i % n)) ∧ w = w' := by
  have h1 := Int.tmod_lt_of_pos i (show 0 < n by omega)
  have h2 := Int.lt_tmod_of_pos i (show 0 < n by omega)
  have hne : n ≠ 0 := by omega
  go_enter Tryd.func74, Tryd.ntmps74
  go_wp2
  go_ret
  exact ⟨ret_int (tmod_cycle (by omega)), rfl⟩
/-- Row 0, where the letters are counted. -/
theorem row_zero {w : World} {A : Option Addr} {n cap : Nat} {m : List (List Int)} (h : Rows w (.slice A n cap) m) (hv : validM m = true) : ∃ b off A0 cap0, A = some ⟨b, off, none⟩ ∧ w.cell? ⟨b, off, none⟩ = some (.slice A0 (letters m) cap0) := by
  obtain ⟨p1, -⟩ := valid_parts hv
  obtain ⟨A', cap', hA, -, hc⟩ := h
  simp only [Value.slice.injEq] at hA
  obtain ⟨rfl, rfl, rfl⟩ := hA
  obtain ⟨b, off, r0, hA, hcell0, hr0⟩ := hc 0 (by omega)
  obtain ⟨A0, cap0, rfl, -, -⟩ := hr0
  exact ⟨b, off, A0, cap0, hA, hcell0⟩
set_option maxRecDepth 100000 in
set_option maxHeartbeats 1000000 in
theorem tRight_any (v u : Value) (m : List (List Int)) (l : List Int) (w : World) (h : Rows w v m) (hu : Ints w u l) (hv : validM m = true) (hw : isWordM m l = true) :
    Calls Tryd.prog 41 #[.agg #[v], u] w fun e w' => e = .returned (.bool true) ∧ Below w.heap.size w w' := by
  obtain ⟨p1, p2, p3, p4, -⟩ := valid_parts hv
  have hl : l.length ≤ 40000 := by simp only [isWordM, Bool.and_eq_true, decide_eq_true_eq] at hw; exact hw.1
  have hall := hid (isWordM_all hw)
  obtain ⟨A, cap, rfl, hml, -⟩ := id h
  obtain ⟨b, off, A0, cap0, hA, hrow0⟩ := row_zero h hv
  subst hA
  obtain ⟨Au, capu, rfl, -, hcu⟩ := hu
  have hX := bal (Below.refl _ w) (.cells #[.slice (some ⟨b, off, none⟩) m.length cap] 24)
  have hbx := (Boxed.new w 24 (.slice (some ⟨b, off, none⟩) m.length cap)).cell
  have Hcu := hid hcu
  have hin : (0 : Int) < m.length := by omega
  have hle : decide ((l.length : Int) ≤ 40000) = true := by simp; omega
  clear hcu
  go_enter Tryd.func41, Tryd.ntmps41
  go_wp2_with fail
  go_loopw [5] (fun iv wr => ∃ k : Nat, k ≤ l.length ∧ iv = .int .i64 k ∧ Below w.heap.size w wr ∧ wr.cell? ⟨w.heap.size, 0, none⟩ = some (.slice (some ⟨b, off, none⟩) m.length cap)) (fun iv _ => l.length - (intOf iv).toNat)
  case atStart => exact ⟨0, Nat.zero_le _, rfl, hX, hbx⟩
  case round =>
    clear hX hbx
    obtain ⟨k, hk, rfl, hB, hbx⟩ := hrel
    by_cases hlt : k < l.length
    · have hks : (k : Int) < l.length := by omega
      obtain ⟨bu, ou, hAu, hcell⟩ := Hcu.out k hlt
      subst hAu
      have c1 := (hB.cell (p := ⟨bu, ou + k, none⟩) (World.block_lt_of_cell? _ _ hcell)).trans hcell
      have c2 := (hB.cell (p := ⟨b, off, none⟩) (World.block_lt_of_cell? _ _ hrow0)).trans hrow0
      have hx := inB_iff.1 (all_getD _ l 0 hall.out k hlt)
      clear hcell
      generalize l.getD k 0 = x at *
      have d1 : decide (x < 0) = false := by simp; omega
      have d2 : decide ((letters m : Int) ≤ x) = false := by simp; omega
      go_wp2_with fail
      go_quiet (fail)
      go_wp2
      go_roundw
      case rel => exact ⟨k + 1, by omega, by go_num, bdr hB nq, ((below_dr _ nq).cell (p := ⟨w.heap.size, 0, none⟩) (World.block_lt_of_cell? _ _ hbx)).trans hbx⟩
      case measure => simp [intOf]; omega
    · have hks : ¬ (k : Int) < l.length := by omega
      go_wp2_with fail
      go_ret
      exact ⟨rfl, hB⟩
set_option maxRecDepth 100000 in
set_option maxHeartbeats 1000000 in
theorem tLead_any (v u : Value) (m : List (List Int)) (s : Nat) (l : List Int) (w : World) (h : Rows w v m) (hu : Ints w u l) (hv : validM m = true) (hs : s < m.length) (hw : l.all (inB 0 ((letters m : Int) - 1)) = true) :
    Calls Tryd.prog 75 #[.agg #[v], .int .i64 s, u] w fun e w' => e = .returned (.int .i64 (runM m s l : Nat)) ∧ Below w.heap.size w w' := by
  obtain ⟨p1, p2, p3, p4, p5⟩ := valid_parts hv
  obtain ⟨A, cap, rfl, hml, hcm⟩ := id h
  obtain ⟨Au, capu, rfl, hlu, hcu⟩ := hu
  have hX := bal (Below.refl _ w) (.cells #[.slice A m.length cap] 24)
  have hbx := (Boxed.new w 24 (.slice A m.length cap)).cell
  unfold big at hlu
  have Hcu := hid hcu
  have Hcm := hid hcm
  have Hp5 := hid p5
  have hall := hid hw
  have hr0 := hid (show runM m s (l.take 0) = s from rfl)
  clear hcu hcm p5 hw
  go_enter Tryd.func75, Tryd.ntmps75
  go_wp2_with fail
  go_loopw [1, 7] (fun sv iv wr => ∃ k cur : Nat, k ≤ l.length ∧ iv = .int .i64 k ∧ sv = .int .i64 cur ∧ cur < m.length ∧ runM m s (l.take k) = cur ∧ Below w.heap.size w wr ∧ wr.cell? ⟨w.heap.size, 0, none⟩ = some (.slice A m.length cap)) (fun _ iv _ => l.length - (intOf iv).toNat)
  case atStart => exact ⟨0, s, Nat.zero_le _, rfl, rfl, hs, hr0.out, hX, hbx⟩
  case round =>
    clear hX hbx hr0
    obtain ⟨k, cur, hk, rfl, rfl, hcur, hrun, hB, hbx⟩ := hrel
    have Hrun := hid hrun
    clear hrun
    by_cases hlt : k < l.length
    · have hks : (k : Int) < l.length := by omega
      obtain ⟨bu, ou, hAu, hcell⟩ := Hcu.out k hlt
      subst hAu
      have hx := inB_iff.1 (all_getD _ l 0 hall.out k hlt)
      have hsn := hid (show runM m s (l.take (k + 1)) = nx m (runM m s (l.take k)) (l.getD k 0) by
        rw [List.take_succ_eq_append_getElem hlt]
        unfold runM
        rw [List.foldl_append, List.getD_eq_getElem?_getD, List.getElem?_eq_getElem hlt]
        rfl)
      have c1 := (hB.cell (p := ⟨bu, ou + k, none⟩) (World.block_lt_of_cell? _ _ hcell)).trans hcell
      clear hcell
      generalize l.getD k 0 = x0 at *
      obtain ⟨x, rfl⟩ := Int.eq_ofNat_of_zero_le hx.1
      have hxl : x < letters m := by omega
      obtain ⟨bl, off, r, hA, hcr, hrow⟩ := Hcm.out cur hcur
      subst hA
      have hrl := (Hp5.out cur hcur).1
      obtain ⟨Ar, capr, rfl, -, hce⟩ := id hrow
      rw [hrl] at hcr
      obtain ⟨br, offr, hAr, hct⟩ := hce x (by omega)
      subst hAr
      obtain ⟨hn1, hn⟩ := nx_ok hv (s := cur) hcur (x := (x : Int)) (by omega) (by omega)
      rw [Int.toNat_natCast] at hn
      rw [hn] at hct
      have c2 := (hB.cell (p := ⟨bl, off + cur, none⟩) (World.block_lt_of_cell? _ _ hcr)).trans hcr
      have c3 := (hB.cell (p := ⟨br, offr + x, none⟩) (World.block_lt_of_cell? _ _ hct)).trans hct
      have hsn2 := hid (hsn.out.trans (by rw [Hrun.out] : nx m (runM m s (l.take k)) (x : Int) = nx m cur (x : Int)))
      clear hcr hct hce hrow hrl hn hsn
      generalize nx m cur (x : Int) = t at *
      have i1 : (cur : Int) < m.length := by omega
      have i2 : (x : Int) < letters m := by omega
      go_wp2_with fail
      go_quiet (fail)
      go_wp2
      go_roundw
      case rel => exact ⟨k + 1, t, by omega, by go_num, rfl, hn1, hsn2.out, bdr hB nq, ((below_dr _ nq).cell (p := ⟨w.heap.size, 0, none⟩) (World.block_lt_of_cell? _ _ hbx)).trans hbx⟩
      case measure => simp [intOf]; omega
    · obtain rfl : k = l.length := by omega
      have hks : ¬ ((l.length : Nat) : Int) < l.length := by omega
      have hr := Hrun.out
      rw [List.take_length] at hr
      have Hr := hid hr
      clear hr Hrun
      go_wp2_with fail
      go_ret
      exact ⟨ret_int (by rw [Hr.out]), hB⟩
end Go.Proofs.YtlpfglkopnmlnaaDoor
namespace Go.Proofs.YtlpfglkopnmlnaaDoor
open Go.RowKit Go.Shelf
set_option maxRecDepth 100000 in
set_option maxHeartbeats 2000000 in
theorem tValid_any (v : Value) (m : List (List Int)) (w : World) (h : Rows w v m) :
    Calls Tryd.prog 35 #[.agg #[v]] w fun e w' => e = .returned (.bool (validM m)) ∧ Below w.heap.size w w' := by
  obtain ⟨A, cap, rfl, hl, hc⟩ := h
  unfold big at hl
  by_cases h0 : m.length = 0
  · have d0 : decide ((m.length : Int) < 1) = true := by simp [h0]
    clear hc
    go_enter Tryd.func35, Tryd.ntmps35
    go_wp2
    go_ret
    exact ⟨ret_bool (by simp [validM, inB, h0]), bal (Below.refl _ _) _⟩
  have d0 : decide ((m.length : Int) < 1) = false := by simp; omega
  by_cases h1 : 60 < m.length
  · have d1 : decide ((60 : Int) < m.length) = true := by simp; omega
    clear hc
    go_enter Tryd.func35, Tryd.ntmps35
    go_wp2
    go_ret
    have e1 : inB 1 60 m.length = false := inB_false (.inr (by omega))
    exact ⟨ret_bool (by simp [validM, e1]), bal (Below.refl _ _) _⟩
  have d1 : decide ((60 : Int) < m.length) = false := by simp; omega
  obtain ⟨b, off, r0, hA, hcell0, hr0⟩ := hc 0 (by omega)
  subst hA
  obtain ⟨A0, cap0, rfl, hl0, hc0⟩ := hr0
  unfold big at hl0
  rw [Nat.add_zero] at hcell0
  have hbl : b < w.heap.size := World.block_lt_of_cell? _ _ hcell0
  have hlet : (m.getD 0 []).length = letters m := rfl
  rw [hlet] at hcell0 hl0
  have hin : (0 : Int) < m.length := by omega
  clear hc0 hlet
  have Hc := hid hc
  have hX := bal (Below.refl _ w) (.cells #[.slice (some ⟨b, off, none⟩) m.length cap] 24)
  have hbx := (Boxed.new w 24 (.slice (some ⟨b, off, none⟩) m.length cap)).cell
  have hcX := (hX.cell (p := ⟨b, off, none⟩) hbl).trans hcell0
  have Hv := hid (show (1 ≤ letters m ∧ letters m ≤ 6) → validM m = m.all (rowOk m) by
    rintro ⟨a1, a2⟩
    have e1 : inB 1 60 m.length = true := inB_true (by omega)
    have e2 : inB 1 6 (letters m) = true := inB_true (by omega)
    simp [validM, e1, e2])
  have Hn := hid (show ¬ (1 ≤ letters m ∧ letters m ≤ 6) → validM m = false by
    intro a
    have e2 : inB 1 6 (letters m) = false := by
      by_cases h3 : 1 ≤ letters m
      · exact inB_false (.inr (by omega))
      · exact inB_false (.inl (by omega))
    simp [validM, e2])
  clear hc
  go_enter Tryd.func35, Tryd.ntmps35
  go_wp2_with fail
  go_loopw [4] (fun i wr => ∃ k : Nat, k ≤ m.length ∧ i = .int .i64 k ∧ (m.take k).all (rowOk m) = true ∧ (0 < k → 1 ≤ letters m ∧ letters m ≤ 6) ∧ Below w.heap.size w wr ∧ wr.cell? ⟨w.heap.size, 0, none⟩ = some (.slice (some ⟨b, off, none⟩) m.length cap)) (fun i _ => m.length - (intOf i).toNat)
  case atStart => exact ⟨0, Nat.zero_le _, rfl, rfl, fun h => by omega, hX, hbx⟩
  case round =>
    clear hX hbx hcX
    obtain ⟨k, hk, rfl, hall, hlk, hB, hbox⟩ := hrel
    by_cases hlt : k < m.length
    · have hks : (k : Int) < m.length := by omega
      obtain ⟨b', off', r, hA', hcell, hrow⟩ := Hc.out k hlt
      cases hA'
      have hrowc : wr.cell? ⟨b, off + k, none⟩ = some r := (hB.cell (p := ⟨b, off + k, none⟩) hbl).trans hcell
      have Hs := hid (all_snoc_take (rowOk m) m [] k hlt)
      have Hf := hid (all_false_of (rowOk m) m [] k hlt)
      have Hall := hid hall
      clear hcell hall
      generalize m.getD k [] = row at *
      obtain ⟨Ar, capr, rfl, hlr, hcr⟩ := id hrow
      unfold big at hlr
      by_cases hlen : row.length = letters m
      · by_cases hlo : 1 ≤ letters m
        · by_cases hhi : letters m ≤ 6
          · have e1 : ((row.length : Int) != (letters m : Int)) = false := by simp [hlen]
            have e2 : decide ((letters m : Int) < 1) = false := by simp; omega
            have e3 : decide ((6 : Int) < letters m) = false := by simp; omega
            have Hcr := hid hcr
            have HL := hid hlen
            have HV := hid (Hv.out ⟨hlo, hhi⟩)
            have hok := hid (fun (hx : row.all (inB 0 ((m.length : Int) - 1)) = true) => show rowOk m row = true by simp [rowOk, hlen, hx])
            have hno := hid (fun (hx : row.all (inB 0 ((m.length : Int) - 1)) = false) => show rowOk m row = false by simp [rowOk, hx])
            clear hcr hlen hlk hrow
            obtain ⟨wk, rfl⟩ : ∃ wk : World, wk = wr := ⟨_, rfl⟩
            go_wp2_with fail
            go_loopw [5] (fun i wr => ∃ j : Nat, j ≤ letters m ∧ i = .int .i64 j ∧ (row.take j).all (inB 0 ((m.length : Int) - 1)) = true ∧ Below w.heap.size w wr ∧ wr.cell? ⟨w.heap.size, 0, none⟩ = some (.slice (some ⟨b, off, none⟩) m.length cap) ∧ wr.cell? ⟨b, off + k, none⟩ = some (.slice Ar row.length capr)) (fun i _ => letters m - (intOf i).toNat)
            case atStart => exact ⟨0, Nat.zero_le _, rfl, rfl, hB, hbox, hrowc⟩
            case round =>
              clear hB hbox hrowc
              obtain ⟨j, hj, rfl, hrall, hB, hbox, hrowc⟩ := hrel
              by_cases hjl : j < letters m
              · have hjs : (j : Int) < letters m := by omega
                have hjr : j < row.length := by have := HL.out; omega
                have hjr2 : (j : Int) < row.length := by omega
                obtain ⟨br, offr, hAr, hct⟩ := Hcr.out j hjr
                subst hAr
                have c3 := (hB.cell (p := ⟨br, offr + j, none⟩) (World.block_lt_of_cell? _ _ hct)).trans hct
                have hs2 := all_snoc_take (inB 0 ((m.length : Int) - 1)) row 0 j hjr
                rw [hrall, Bool.true_and] at hs2
                have Hs2 := hid hs2
                have Hf2 := hid (all_false_of (inB 0 ((m.length : Int) - 1)) row 0 j hjr)
                clear hct hs2 hrall
                generalize row.getD j 0 = x at *
                by_cases hx0 : x < 0
                · have f1 : decide (x < 0) = true := by simp [hx0]
                  have Hbad := hid (Hf.out (hno.out (Hf2.out (inB_false (.inl hx0)))))
                  go_wp2_with fail
                  go_quiet (fail)
                  go_wp2
                  go_ret
                  exact ⟨ret_bool (by rw [HV.out, Hbad.out]), bdr hB nq⟩
                · have f1 : decide (x < 0) = false := by simp; omega
                  by_cases hx1 : (m.length : Int) ≤ x
                  · have f2 : decide ((m.length : Int) ≤ x) = true := by simp [hx1]
                    have Hbad := hid (Hf.out (hno.out (Hf2.out (inB_false (.inr (by omega))))))
                    go_wp2_with fail
                    go_quiet (fail)
                    go_wp2
                    go_ret
                    exact ⟨ret_bool (by rw [HV.out, Hbad.out]), bdr hB nq⟩
                  · have f2 : decide ((m.length : Int) ≤ x) = false := by simp; omega
                    have hin2 := hid (show inB 0 ((m.length : Int) - 1) x = true from inB_true (by omega))
                    go_wp2_with fail
                    go_quiet (fail)
                    go_wp2
                    go_roundw
                    case rel => exact ⟨j + 1, by omega, by go_num, by rw [Hs2.out]; exact hin2.out, bdr hB nq, ((below_dr _ nq).cell (p := ⟨w.heap.size, 0, none⟩) (World.block_lt_of_cell? _ _ hbox)).trans hbox, ((below_dr _ nq).cell (p := ⟨b, off + k, none⟩) (World.block_lt_of_cell? _ _ hrowc)).trans hrowc⟩
                    case measure => simp [intOf]; omega
              · have hjs : ¬ (j : Int) < letters m := by omega
                have hrow2 : row.all (inB 0 ((m.length : Int) - 1)) = true := by
                  rw [List.take_of_length_le (by have := HL.out; omega)] at hrall
                  exact hrall
                have Hrow := hid (hok.out hrow2)
                clear hrall hrow2
                go_wp2_with fail
                go_roundw
                case rel => exact ⟨k + 1, by omega, by go_num, by rw [Hs.out, Hall.out, Hrow.out]; rfl, fun _ => ⟨hlo, hhi⟩, hB, hbox⟩
                case measure => simp [intOf]; omega
          · have e1 : ((row.length : Int) != (letters m : Int)) = false := by simp [hlen]
            have e2 : decide ((letters m : Int) < 1) = false := by simp; omega
            have e3 : decide ((6 : Int) < letters m) = true := by simp; omega
            have HN := hid (Hn.out (fun a => hhi a.2))
            clear hcr hlen
            go_wp2_with fail
            go_ret
            exact ⟨ret_bool HN.out.symm, hB⟩
        · have e1 : ((row.length : Int) != (letters m : Int)) = false := by simp [hlen]
          have e2 : decide ((letters m : Int) < 1) = true := by simp; omega
          have HN := hid (Hn.out (fun a => hlo a.1))
          clear hcr hlen
          go_wp2_with fail
          go_ret
          exact ⟨ret_bool HN.out.symm, hB⟩
      · have e1 : ((row.length : Int) != (letters m : Int)) = true := by simp; omega
        have hbad : rowOk m row = false := by simp [rowOk, hlen]
        have HN : Hid (validM m = false) := hid (by
          by_cases hh : 1 ≤ letters m ∧ letters m ≤ 6
          · rw [Hv.out hh]; exact Hf.out hbad
          · exact Hn.out hh)
        clear hcr hlen hbad
        go_wp2_with fail
        go_ret
        exact ⟨ret_bool HN.out.symm, hB⟩
    · obtain rfl : k = m.length := by omega
      have hks : ¬ ((m.length : Nat) : Int) < m.length := by omega
      have hh := hall
      rw [List.take_length] at hh
      have HV := hid ((Hv.out (hlk (by omega))).trans hh)
      clear hall hh
      go_wp2_with fail
      go_ret
      exact ⟨ret_bool HV.out.symm, hB⟩
theorem tValid_bool (v : Value) (m : List (List Int)) (b : Bool) (w : World) (h : Rows w v m) (hb : validM m = b) :
    Calls Tryd.prog 35 #[.agg #[v]] w fun e w' => e = .returned (.bool b) ∧ Below w.heap.size w w' := by
  subst hb; exact tValid_any v m w h
end Go.Proofs.YtlpfglkopnmlnaaDoor
namespace Go.Proofs.YtlpfglkopnmlnaaDoor
open Go.RowKit Go.Shelf
set_option maxRecDepth 100000 in
set_option maxHeartbeats 1000000 in
theorem tTimes_any (v : Value) (l : List Int) (t : Int) (w : World) (h : Ints w v l) (hl6 : l.length ≤ 100) :
    Calls Tryd.prog 76 #[v, .int .i64 t] w fun e w' => e = .returned (.int .i64 (timesL l t : Nat)) ∧ w = w' := by
  obtain ⟨A, cap, rfl, hl, hc⟩ := h
  have Hc := hid hc
  have H0 := hid (show timesL (l.take 0) t = 0 from rfl)
  clear hc hl
  go_enter Tryd.func76, Tryd.ntmps76
  go_wp2
  go_loop [5, 6] (fun nv sv => ∃ k c : Nat, k ≤ l.length ∧ sv = .int .i64 k ∧ nv = .int .i64 c ∧ timesL (l.take k) t = c) (fun _ sv => l.length - (intOf sv).toNat)
  case atStart => exact ⟨0, 0, Nat.zero_le _, rfl, rfl, H0.out⟩
  case round =>
    clear H0
    obtain ⟨k, c, hk, rfl, rfl, hcode⟩ := hrel
    have hc4 : c ≤ 100 := by have := timesL_le (l.take k) t; simp at this; omega
    have Hcode := hid hcode
    clear hcode
    by_cases hlt : k < l.length
    · have hks : (k : Int) < l.length := by omega
      obtain ⟨b, off, hA, hcell⟩ := Hc.out k hlt
      subst hA
      have hs := timesL_snoc (l.take k) (l.getD k 0) t
      rw [← take_snocI hlt, Hcode.out] at hs
      generalize l.getD k 0 = x at *
      by_cases hx : x = t
      · have hb : (x == t) = true := beq_iff_eq.2 hx
        rw [if_pos hx] at hs
        have Hs := hid hs
        subst hx
        clear hs Hcode
        go_wp2
        go_round
        case rel => exact ⟨k + 1, c + 1, by omega, by go_num, by go_num, Hs.out⟩
        case measure => simp [intOf]; omega
      · have hb : (x == t) = false := beq_eq_false_iff_ne.2 hx
        rw [if_neg hx] at hs
        have Hs := hid hs
        clear hs Hcode
        go_wp2
        go_round
        case rel => exact ⟨k + 1, c, by omega, by go_num, rfl, Hs.out⟩
        case measure => simp [intOf]; omega
    · obtain rfl : k = l.length := by omega
      have hc2 := Hcode.out
      rw [List.take_length] at hc2
      have HC := hid hc2
      clear hc2 Hcode
      go_wp2
      go_ret
      exact ⟨ret_int (by rw [HC.out]), rfl⟩
theorem tTimes_as (v : Value) (l : List Int) (t : Int) (x : Nat) (w : World) (h : Ints w v l) (hl : l.length ≤ 100) (hx : Hid (timesL l t = x)) :
    Calls Tryd.prog 76 #[v, .int .i64 t] w fun e w' => e = .returned (.int .i64 x) ∧ Below w.heap.size w w' := by
  rw [← hx.out]
  exact (tTimes_any v l t w h hl).mono fun e w1 he => ⟨he.1, by rw [← he.2]; exact Below.refl _ _⟩
theorem row_zero_of {w : World} {v : Value} {m : List (List Int)} (h : Rows w v m) (hv : validM m = true) : ∃ b off A0 cap0, (∀ A n c, v = .slice A n c → A = some ⟨b, off, none⟩) ∧ w.cell? ⟨b, off, none⟩ = some (.slice A0 (letters m) cap0) := by
  have h1 := (valid_parts hv).1
  obtain ⟨A, cap, rfl, -, hc⟩ := h
  obtain ⟨b, off, r, hA, hcell, hr⟩ := hc 0 (by omega)
  obtain ⟨A0, cap0, rfl, -⟩ := hr
  rw [Nat.add_zero] at hcell
  exact ⟨b, off, A0, cap0, fun A' n c h => by cases h; exact hA, hcell⟩
set_option maxRecDepth 100000 in
set_option maxHeartbeats 1500000 in
theorem tAlike_any (v u : Value) (m k : List (List Int)) (w : World) (h : Rows w v m) (hu : Rows w u k) (hv : validM m = true) (hk : validM k = true) (hsame : sameM m k = true) :
    Calls Tryd.prog 40 #[.agg #[v], .agg #[u]] w fun e w' => e = .returned (.bool true) ∧ Below w.heap.size w w' := by
  obtain ⟨p1, p2, p3, p4, p5⟩ := valid_parts hv
  obtain ⟨q1, q2, q3, q4, q5⟩ := valid_parts hk
  have hlen : m.length = k.length := by rw [sameM, Bool.and_eq_true, Bool.and_eq_true, decide_eq_true_eq, decide_eq_true_eq] at hsame; exact hsame.1.1
  have hlt : letters m = letters k := by rw [sameM, Bool.and_eq_true, Bool.and_eq_true, decide_eq_true_eq, decide_eq_true_eq] at hsame; exact hsame.1.2
  have Hall := hid (show (List.range m.length).all (sameAt m k) = true by rw [sameM, Bool.and_eq_true] at hsame; exact hsame.2)
  obtain ⟨b0, off0, A0, cap0, hA0, hrow0⟩ := row_zero_of h hv
  obtain ⟨b1, off1, A1, cap1, hA1, hrow1⟩ := row_zero_of hu hk
  obtain ⟨A, cap, rfl, -, hcm⟩ := id h
  obtain ⟨Ak, capk, rfl, -, hck⟩ := id hu
  replace hA0 := hA0 A _ cap rfl
  replace hA1 := hA1 Ak _ capk rfl
  subst hA0
  subst hA1
  have Hcm := hid hcm
  have Hck := hid hck
  have Hp5 := hid p5
  have Hq5 := hid q5
  obtain ⟨f0, f1⟩ := two_alloc w (.cells #[.slice (some ⟨b0, off0, none⟩) m.length cap] 24) (.cells #[.slice (some ⟨b1, off1, none⟩) k.length capk] 24)
  have hX := bal (bal (Below.refl _ w) (.cells #[.slice (some ⟨b0, off0, none⟩) m.length cap] 24)) (.cells #[.slice (some ⟨b1, off1, none⟩) k.length capk] 24)
  have Hx := hid hX
  have d0 : ((m.length : Int) != (k.length : Int)) = false := by simp; omega
  have d1 : ((letters m : Int) != (letters k : Int)) = false := by simp; omega
  have Hlen := hid hlen
  clear hcm hck p5 q5 hlen hlt hsame
  go_enter Tryd.func40, Tryd.ntmps40
  go_wp2_with fail
  generalize hWX : (w.alloc (.cells #[.slice (some ⟨b0, off0, none⟩) m.length cap] 24)).alloc (.cells #[.slice (some ⟨b1, off1, none⟩) k.length capk] 24) = X at *
  clear hX hWX
  have hX := Hx.out
  have hl1 : w.heap.size + 1 < X.heap.size := lt_of_block f1
  have hl0 : w.heap.size < X.heap.size := lt_of_block f0
  have c0 := cell_of_one f0
  have c1 := cell_of_one f1
  have hr := h.below hX
  have hs := hu.below hX
  have hc0 := later_cell c0
  have hc1 := later_cell c1
  have hrw0 := (hX.cell (p := ⟨b0, off0, none⟩) (World.block_lt_of_cell? _ _ hrow0)).trans hrow0
  have hrw1 := (hX.cell (p := ⟨b1, off1, none⟩) (World.block_lt_of_cell? _ _ hrow1)).trans hrow1
  have hc2 := later_cell hrw0
  have hc3 := later_cell hrw1
  clear f0 f1
  refine wp_region_later (by kernel_rfl) (by kernel_rfl) ?_
  repeat (go_big_quiet_step ((go_at_call 35; exact later_call (fun w' hb => tValid_bool _ k true _ (hs.below hb) hk))))
  refine wpQuiet_nil ?_
  intro z
  have hz := z.below
  generalize z.world = Z at *
  clear hc0 hc1 hc2 hc3
  have g0 := (hz.cell (p := ⟨w.heap.size, 0, none⟩) hl0).trans c0
  have g1 := (hz.cell (p := ⟨w.heap.size + 1, 0, none⟩) hl1).trans c1
  have hZ := btr hX hz
  clear c0 c1 hr hs hz
  go_wp2_with fail
  go_loopw [5] (fun sv wr => ∃ s : Nat, s ≤ m.length ∧ sv = .int .i64 s ∧ Below w.heap.size w wr ∧ wr.cell? ⟨w.heap.size, 0, none⟩ = some (.slice (some ⟨b0, off0, none⟩) m.length cap) ∧ wr.cell? ⟨w.heap.size + 1, 0, none⟩ = some (.slice (some ⟨b1, off1, none⟩) k.length capk)) (fun sv _ => m.length - (intOf sv).toNat)
  case atStart => exact ⟨0, Nat.zero_le _, rfl, hZ, g0, g1⟩
  case round =>
    clear hZ g0 g1
    obtain ⟨s, hsl, rfl, hB, g0, g1⟩ := hrel
    by_cases hlt : s < m.length
    · have hss : (s : Int) < m.length := by omega
      have hsk : (s : Int) < k.length := by have := Hlen.out; omega
      obtain ⟨wo, rfl⟩ : ∃ wo : World, wo = wr := ⟨_, rfl⟩
      go_wp2_with fail
      go_loopw [6] (fun tv wr => ∃ t : Nat, t ≤ m.length ∧ tv = .int .i64 t ∧ Below w.heap.size w wr ∧ wr.cell? ⟨w.heap.size, 0, none⟩ = some (.slice (some ⟨b0, off0, none⟩) m.length cap) ∧ wr.cell? ⟨w.heap.size + 1, 0, none⟩ = some (.slice (some ⟨b1, off1, none⟩) k.length capk)) (fun tv _ => m.length - (intOf tv).toNat)
      case atStart => exact ⟨0, Nat.zero_le _, rfl, hB, g0, g1⟩
      case round =>
        clear hB g0 g1
        obtain ⟨t, htl, rfl, hB, g0, g1⟩ := hrel
        by_cases htlt : t < m.length
        · have hts : (t : Int) < m.length := by omega
          obtain ⟨b, off, rv, hA, hcell, hrow⟩ := Hcm.out s hlt
          cases hA
          obtain ⟨bk, offk, rk, hAk, hcellk, hrowk⟩ := Hck.out s (by omega)
          cases hAk
          have c2 := (hB.cell (p := ⟨b0, off0 + s, none⟩) (World.block_lt_of_cell? _ _ hcell)).trans hcell
          have c3 := (hB.cell (p := ⟨b1, off1 + s, none⟩) (World.block_lt_of_cell? _ _ hcellk)).trans hcellk
          have hrl := (Hp5.out s hlt).1
          have hkl := (Hq5.out s (by omega)).1
          have hrB := hrow.below hB
          have hkB := hrowk.below hB
          have hst : timesL (m.getD s []) (t : Int) = timesL (k.getD s []) (t : Int) := by
            have h1 := List.all_eq_true.1 Hall.out s (List.mem_range.2 hlt)
            have h2 := List.all_eq_true.1 h1 t (List.mem_range.2 htlt)
            simpa using h2
          obtain ⟨Ar, cr, rfl, -, -⟩ := id hrow
          obtain ⟨Ar2, cr2, rfl, -, -⟩ := id hrowk
          rw [hrl] at c2 hrB
          rw [hkl] at c3 hkB
          have hr6 : (m.getD s []).length ≤ 100 := by omega
          have hk6 : (k.getD s []).length ≤ 100 := by omega
          clear hcell hcellk hrow hrowk hrl hkl
          generalize m.getD s [] = row at *
          generalize k.getD s [] = rowk at *
          obtain ⟨x, hx⟩ : ∃ x, timesL row (t : Int) = x := ⟨_, rfl⟩
          obtain ⟨y, hy⟩ : ∃ y, timesL rowk (t : Int) = y := ⟨_, rfl⟩
          have Hxe := hid hx
          have Hye := hid hy
          have l0 := later_cell g0
          have l1 := later_cell g1
          have l2 := later_cell c2
          have l3 := later_cell c3
          have hxy : x = y := by rw [← hx, ← hy]; exact hst
          have dxy : ((x : Int) != (y : Int)) = false := by simp; omega
          clear hx hy hxy hst
          go_wp2_with fail
          refine wp_region_later (by kernel_rfl) (by kernel_rfl) ?_
          repeat (go_big_quiet_step ((go_at_call 76; exact later_call (fun w' hb => tTimes_as _ _ _ _ _ (by first | exact hrB.below hb | exact hkB.below hb) (by first | exact hr6 | exact hk6) (by first | exact Hxe | exact Hye)))))
          refine wpQuiet_nil ?_
          intro z
          have hz := z.below
          generalize z.world = Z2 at *
          have e0 := (hz.cell (p := ⟨w.heap.size, 0, none⟩) (World.block_lt_of_cell? _ _ g0)).trans g0
          have e1 := (hz.cell (p := ⟨w.heap.size + 1, 0, none⟩) (World.block_lt_of_cell? _ _ g1)).trans g1
          clear l0 l1 l2 l3
          go_wp2
          go_roundw
          case rel => exact ⟨t + 1, by omega, by go_num, btr hB hz, e0, e1⟩
          case measure => simp [intOf]; omega
        · obtain rfl : t = m.length := by omega
          have hts : ¬ ((m.length : Nat) : Int) < m.length := by omega
          go_wp2_with fail
          go_roundw
          case rel => exact ⟨s + 1, by omega, by go_num, hB, g0, g1⟩
          case measure => simp [intOf]; omega
    · obtain rfl : s = m.length := by omega
      have hss : ¬ ((m.length : Nat) : Int) < m.length := by omega
      go_wp2_with fail
      go_ret
      exact ⟨rfl, hB⟩
end Go.Proofs.YtlpfglkopnmlnaaDoor
namespace Go.Proofs.YtlpfglkopnmlnaaDoor
open Go.RowKit Go.Shelf
theorem ints_at {W : World} {ad : Addr} {n c : Nat} {l : List Int} (h : Ints W (.slice (some ad) n c) l) : ∀ j u, (l.map fun x => Value.int .i64 x)[j]? = some u → W.cell? (ad.add j) = some u := by
  intro j u hu
  obtain ⟨A, cap, hv, _, hc⟩ := h
  have hj : j < l.length := by
    have := (List.getElem?_eq_some_iff.1 hu).1
    simpa using this
  obtain ⟨b, off, hA, hcell⟩ := hc j hj
  simp only [Value.slice.injEq] at hv
  obtain ⟨rfl, -, -⟩ := hv
  cases hA
  have e : (⟨b, off, none⟩ : Addr).add j = ⟨b, off + j, none⟩ := by
    by_cases h0 : j = 0
    · subst h0; simp [Addr.add]
    · simp [Addr.add, h0]
  rw [e, hcell]
  simp only [List.getElem?_map, List.getElem?_eq_getElem hj, Option.map_some, Option.some.injEq] at hu
  rw [← hu, getD_elem l j hj]
/-- 'append(row, list...)', the list nil or not. -/
theorem wpList_append_list {w : World} {ops : Array Oper} {rest : List Oper} {o : Oper} {a : Act} {Q : Exit → Act → World → Prop} (hgd : o.guard = none) (s x : Operand)
    (ho : o.op = .call { callee := .builtin .append, args := #[s, x], argTypes := #[41, 41] }) (base n : Nat) (v : Value) (xs : List Value) (ao : Option Addr) (c : Nat) (l : List Int)
    (hs : a.eval s = v) (hown : w.ownsRow base 3 1 v n xs) (hx : a.eval x = .slice ao l.length c) (hc : ao = none → c = 0) (hI : Ints w (.slice ao l.length c) l) (hb : base ≤ w.heap.size) (hlen : n + l.length ≤ 100000)
    (h : ∀ v' w', w'.ownsRow base 3 1 v' (n + l.length) (xs ++ l.map fun x => .int .i64 x) → Below base w w' → wpList Tryd.prog ops Q rest (a.put o.dst v') w') :
    wpList Tryd.prog ops Q (o :: rest) a w := by
  obtain ⟨j0, hj, hy0, hy1, hy2⟩ := info_parts infoInt
  cases ao with
  | none =>
    obtain rfl := hc rfl
    have hl : l = [] := by
      obtain ⟨A, cap, hv, _, hcc⟩ := hI
      cases l with
      | nil => rfl
      | cons y l =>
        obtain ⟨b, off, hA, _⟩ := hcc 0 (by simp)
        simp only [Value.slice.injEq] at hv
        rw [← hv.1] at hA
        cases hA
    subst hl
    refine wpList_append_own_none hgd s x 41 ho base 3 j0 1 Tryd.underlying41 hj v n xs hs hown hx ?_
    exact h v w (by simpa using hown) (Below.refl _ _)
  | some ad =>
    refine wpList_append_own_at w hgd s x 41 ho base 3 j0 (.int .i64 0) 1 8 Tryd.underlying41 hj hy0 hy1 hy2 rfl (by decide) v n xs hs hown ad l.length c (l.map fun x => .int .i64 x) hx (by simp) (ints_at hI) (by simp [Value.oneCell']) (by unfold maxLen; omega) (by omega) hb ?_
    intro v' w' h1 h2 _ _
    refine h v' w' h1 ((Below.refl _ _).grown h2 hb (fun k hk => ?_))
    rcases hown.2 with ⟨rfl, _⟩ | ⟨g, cap, cur, rfl, hg, _⟩
    · cases hk
    · cases hk; exact hg
end Go.Proofs.YtlpfglkopnmlnaaDoor
namespace Go.Proofs.YtlpfglkopnmlnaaDoor
open Go.RowKit Go.Shelf
/-- Which letter is exchanged. -/
def turnY (k : Nat) (tl : List Int) (s x : Nat) : Nat := if s * k + x < tl.length then (tl.getD (s * k + x) 0 % (k : Int)).toNat else x
def turnR (k : Nat) (tl : List Int) (s : Nat) (row : List Int) : Nat → List Int
  | 0 => row
  | x + 1 => swapL (turnR k tl s row x) x (turnY k tl s x)
/-- The colouring. -/
def turnM (m : List (List Int)) (tl : List Int) : List (List Int) := (List.range m.length).map fun s => turnR (letters m) tl s (m.getD s []) (letters m)
theorem turnY_lt {k : Nat} {tl : List Int} {s x : Nat} (hx : x < k) : turnY k tl s x < k := by
  unfold turnY
  split
  · have h1 := Int.emod_nonneg (tl.getD (s * k + x) 0) (show (k : Int) ≠ 0 by omega)
    have h2 := Int.emod_lt_of_pos (tl.getD (s * k + x) 0) (show (0 : Int) < k by omega)
    omega
  · exact hx
theorem turnR_perm {k : Nat} {tl : List Int} {s : Nat} {row : List Int} (hl : row.length = k) : ∀ x, x ≤ k → (turnR k tl s row x).Perm row
  | 0, _ => List.Perm.refl _
  | x + 1, h => by
    have ih := turnR_perm (tl := tl) (s := s) hl x (by omega)
    have hlen := ih.length_eq
    have := turnY_lt (k := k) (tl := tl) (s := s) (show x < k by omega)
    exact (swapL_perm (by omega) (by omega)).trans ih
theorem turnM_length (m : List (List Int)) (tl : List Int) : (turnM m tl).length = m.length := by simp [turnM]
theorem turnM_get (m : List (List Int)) (tl : List Int) (s : Nat) (h : s < m.length) : (turnM m tl).getD s [] = turnR (letters m) tl s (m.getD s []) (letters m) := by simp [turnM, List.getD_eq_getElem?_getD, h]
theorem turnM_perm {m : List (List Int)} (hv : validM m = true) (tl : List Int) : PermR m (turnM m tl) :=
  ⟨turnM_length m tl, fun s hs => by rw [turnM_get m tl s hs]; exact turnR_perm ((valid_parts hv).2.2.2.2 s hs).1 _ (Nat.le_refl _)⟩
theorem turnM_take (m : List (List Int)) (tl : List Int) (s : Nat) (h : s < m.length) : (turnM m tl).take (s + 1) = (turnM m tl).take s ++ [turnR (letters m) tl s (m.getD s []) (letters m)] := by
  rw [take_snocR (show s < (turnM m tl).length by rw [turnM_length]; exact h), turnM_get m tl s h]
set_option maxRecDepth 100000 in
set_option maxHeartbeats 4000000 in
theorem tColoured_any (v u : Value) (m : List (List Int)) (tl : List Int) (w : World) (h : Rows w v m) (hu : Ints w u tl) (hv : validM m = true) :
    Calls Tryd.prog 37 #[.agg #[v], u] w fun e w' => ∃ r, e = .returned (.agg #[r]) ∧ MRows w' w.heap.size r (turnM m tl) ∧ Below w.heap.size w w' := by
  obtain ⟨b0, off0, A0, cap0, hA0, hrow0⟩ := row_zero_of h hv
  obtain ⟨A, cap, rfl, hml, hcm⟩ := id h
  replace hA0 := hA0 A _ cap rfl
  subst hA0
  obtain ⟨Au, capu, rfl, hlu, hcu⟩ := id hu
  unfold big at hlu
  have hn1 := (valid_parts hv).1
  have hn := (valid_parts hv).2.1
  have hlm := (valid_parts hv).2.2.2.1
  have hlm1 := (valid_parts hv).2.2.1
  have Hp5 := hid (valid_parts hv).2.2.2.2
  have Hcu := hid hcu
  have Hcm := hid hcm
  clear hcu hcm
  obtain ⟨f0, f1, f2, fs⟩ := three_alloc4 w (.cells #[.slice (some ⟨b0, off0, none⟩) m.length cap] 24) (.cells #[.slice none 0 0] 24) (.cells #[.slice none 0 0] 24)
  have hX := bal (bal (bal (Below.refl _ w) (.cells #[.slice (some ⟨b0, off0, none⟩) m.length cap] 24)) (.cells #[.slice none 0 0] 24)) (.cells #[.slice none 0 0] 24)
  have Hx := hid hX
  have H0 := hid (show (turnM m tl).take 0 = [] from rfl)
  go_enter Tryd.func37, Tryd.ntmps37
  go_upto_region 2 with fail
  generalize hWX : ((w.alloc (.cells #[.slice (some ⟨b0, off0, none⟩) m.length cap] 24)).alloc (.cells #[.slice none 0 0] 24)).alloc (.cells #[.slice none 0 0] 24) = X at *
  clear hX hWX
  have hX := Hx.out
  have c0 := cell_of_one f0
  have hrw0 := (hX.cell (p := ⟨b0, off0, none⟩) (World.block_lt_of_cell? _ _ hrow0)).trans hrow0
  have hin0 : (0 : Int) < m.length := by omega
  have Fs := hid fs
  have hM0 : MRows X (w.heap.size + 3) (.slice none 0 0) [] := MRows.nil X _
  clear f0 fs hrow0
  go_wp2_with fail
  go_loopw [7] (fun i wr => ∃ (M : List (List Int)) (vv : Value), M.length ≤ m.length ∧ i = .int .i64 M.length ∧ M = (turnM m tl).take M.length ∧ MRows wr (w.heap.size + 3) vv M ∧ Boxed wr (w.heap.size + 2) 24 vv ∧ Below (w.heap.size + 2) X wr ∧ w.heap.size + 3 ≤ wr.heap.size) (fun i _ => m.length - (intOf i).toNat)
  case atStart => exact ⟨[], .slice none 0 0, Nat.zero_le _, rfl, H0.out.symm, hM0, f2, Below.refl _ _, by rw [Fs.out]; exact Nat.le_refl _⟩
  case round =>
    clear f2 hM0 hrw0
    obtain ⟨M, vv, hk, rfl, hMe, hMR, hbx, hBX, hsz⟩ := hrel
    have Hbx := hid hbx
    have HMR := hid hMR
    have HMe := hid hMe
    clear hMe hMR hbx
    have cb := (hBX.cell (p := ⟨w.heap.size, 0, none⟩) (by show w.heap.size < _; omega)).trans c0
    by_cases hlt : M.length < m.length
    · have hkm : (M.length : Int) < m.length := by omega
      obtain ⟨wo, rfl⟩ : ∃ wo : World, wo = wr := ⟨_, rfl⟩
      have hBwo : Below w.heap.size w wo := hX.trans (hBX.mono (by omega))
      obtain ⟨b, off, r, hA, hcell, hrow⟩ := Hcm.out M.length hlt
      cases hA
      have hcr := (hBwo.cell (p := ⟨b0, off0 + M.length, none⟩) (World.block_lt_of_cell? _ _ hcell)).trans hcell
      have hrl := (Hp5.out M.length hlt).1
      have hrB := hrow.below hBwo
      obtain ⟨Ar, capr, rfl, _, hcr2⟩ := id hrow
      have hnr : Ar = none → capr = 0 := fun e => by
        obtain ⟨_, _, hA', _⟩ := hcr2 0 (by omega)
        rw [e] at hA'
        cases hA'
      have Htk := hid (turnM_take m tl M.length hlt)
      have Hper := hid (fun x hx => (turnR_perm (k := letters m) (tl := tl) (s := M.length) hrl x hx).length_eq.trans hrl)
      have Hst := hid (fun x => show turnR (letters m) tl M.length (m.getD M.length []) (x + 1) = swapL (turnR (letters m) tl M.length (m.getD M.length []) x) x (turnY (letters m) tl M.length x) from rfl)
      have Hs0 := hid (show turnR (letters m) tl M.length (m.getD M.length []) 0 = m.getD M.length [] from rfl)
      clear hcell hrow hcr2
      generalize m.getD M.length [] = mrow at *
      rw [hrl] at hcr hrB
      have own0 := World.ownsRow_lit (base := wo.heap.size) (e := 3) (size := 1) wo #[] 0 (Nat.le_refl _) (by unfold maxLen; omega) rfl
      have hrB1 := hrB.below (bal (Below.refl _ wo) (.cells #[] 3))
      have hml2 : mrow.length = letters m := hrl
      rw [← hml2] at hcr hrB1
      have Hml := hid hml2
      clear hml2 hrl hrB
      have ba := bal (Below.refl _ wo) (.cells #[] 3)
      have cb1 := (ba.cell (p := ⟨w.heap.size, 0, none⟩) (World.block_lt_of_cell? _ _ cb)).trans cb
      have hcr1 := (ba.cell (p := ⟨b0, off0 + M.length, none⟩) (World.block_lt_of_cell? _ _ hcr)).trans hcr
      go_wp2_with (at_builtin; refine wpList_append_list rfl _ _ rfl wo.heap.size 0 _ [] Ar capr mrow rfl own0 rfl hnr hrB1 (by simp) (by have := Hml.out; omega) ?_; intro v1 w5 ho1 hb1)
      rw [Nat.zero_add, List.nil_append, Hml.out, ← Hs0.out] at ho1
      obtain ⟨g1, cg, rfl⟩ : ∃ g c, v1 = .slice (some ⟨g, 0, none⟩) (letters m) c := by
        rcases ho1.2 with ⟨_, h0⟩ | ⟨g, cap, cur, he, hg, _⟩
        · omega
        · exact ⟨g, cap, he⟩
      have hB5 := ba.trans hb1
      have Ho1 := hid ho1
      clear ho1 own0 hrB1 hnr cb1 hcr1 ba hb1
      go_wp2_with fail
      go_loopw [9] (fun i wi => ∃ x : Nat, x ≤ letters m ∧ i = .int .i64 x ∧ wi.ownsRow wo.heap.size 3 1 (.slice (some ⟨g1, 0, none⟩) (letters m) cg) (letters m) ((turnR (letters m) tl M.length mrow x).map fun x => .int .i64 x) ∧ Below wo.heap.size wo wi) (fun i _ => letters m - (intOf i).toNat)
      case atStart => exact ⟨0, Nat.zero_le _, rfl, Ho1.out, hB5⟩
      case round =>
        clear Ho1 hB5
        obtain ⟨x, hx, rfl, hO, hBi⟩ := hrel
        by_cases hxl : x < letters m
        · have hxs : (x : Int) < letters m := by omega
          obtain ⟨pp, hpp⟩ : ∃ q, M.length * letters m = q := ⟨_, rfl⟩
          have hp4 : pp ≤ 60 * 6 := by rw [← hpp]; exact Nat.mul_le_mul (by omega) hlm
          have e1 : IntKind.i64.wrap ((M.length : Int) * (letters m : Int)) = (pp : Int) := by
            rw [← hpp, show (M.length : Int) * (letters m : Int) = ((M.length * letters m : Nat) : Int) by simp]
            rw [hpp]
            exact IntWalk.i64_in _ (by omega)
          have hrow := Hper.out x (by omega)
          obtain ⟨yn, hyn⟩ : ∃ y, turnY (letters m) tl M.length x = y := ⟨_, rfl⟩
          have hyl : yn < letters m := by rw [← hyn]; exact turnY_lt hxl
          have hys : (yn : Int) < letters m := by omega
          have hst := Hst.out x
          rw [hyn] at hst
          have hty : yn = (if pp + x < tl.length then (tl.getD (pp + x) 0 % (letters m : Int)).toNat else x) := by rw [← hyn, ← hpp]; rfl
          obtain ⟨R, hR⟩ : ∃ R, turnR (letters m) tl M.length mrow x = R := ⟨_, rfl⟩
          rw [hR] at hst hrow hO
          have Hst2 := hid hst
          have cx := own_at hO (j := x) hxl
          have cy := own_at hO (j := yn) hyl
          have fx := World.ownsRow.frozenAt hO x
          have fy := World.ownsRow.frozenAt hO yn
          have hg1 := ownsRow_blk hO g1 rfl
          have s1 := (World.ownsRow.stored (World.ownsRow.stored hO x (.int .i64 (R.getD yn 0))).1 yn (.int .i64 (R.getD x 0))).1
          have hs : ((R.map fun x => Value.int .i64 x).set x (.int .i64 (R.getD yn 0))).set yn (.int .i64 (R.getD x 0)) = (swapL R x yn).map fun x => .int .i64 x := by unfold swapL; rw [List.map_set, List.map_set]
          rw [hs, ← hst] at s1
          have b5 := (hBi.setCell (p := ⟨g1, x, none⟩) hg1.1 (.int .i64 (R.getD yn 0))).setCell (p := ⟨g1, yn, none⟩) hg1.1 (.int .i64 (R.getD x 0))
          have S1 := hid s1
          have S2 := hid b5
          have cy2 : (wr.setCell ⟨g1, x, none⟩ (.int .i64 (R.getD yn 0))).cell? ⟨g1, yn, none⟩ = some (.int .i64 (R.getD yn 0)) := by
            by_cases e : yn = x
            · subst e; exact World.cell?_setCell_same' _ _ _ (by rw [cx]; rfl)
            · exact (World.cell?_setCell_other wr _ _ _ (by intro he; simp only [Addr.mk.injEq, and_true, true_and] at he; omega)).trans cy
          have fy2 : (wr.setCell ⟨g1, x, none⟩ (.int .i64 (R.getD yn 0))).frozen? ⟨g1, yn, none⟩ = false := by rw [World.frozen?_setCell]; exact fy
          clear hO hst hs s1 b5 hR hyn hpp
          generalize R.getD yn 0 = ry at *
          generalize R.getD x 0 = rx at *
          by_cases hil : pp + x < tl.length
          · rw [if_pos hil] at hty
            have hils : (pp : Int) + x < tl.length := by omega
            obtain ⟨bu, offu, hAu, hcu0⟩ := Hcu.out (pp + x) hil
            subst hAu
            have hBw := hBwo.trans (hBi.mono hBwo.size)
            have hcu1 := (hBw.cell (p := ⟨bu, offu + (pp + x), none⟩) (World.block_lt_of_cell? _ _ hcu0)).trans hcu0
            generalize tl.getD (pp + x) 0 = ty at *
            have hc1 : ty % (letters m : Int) = (yn : Int) := by
              have h1 := Int.emod_nonneg ty (show (letters m : Int) ≠ 0 by omega)
              omega
            have hcyc := tCycle_any ty (letters m) wr (by omega)
            rw [hc1] at hcyc
            clear hcu0 hty
            have Hc1 := hid hc1
            clear hc1
            go_wp2_with fail
            refine hcyc.mono ?_
            rintro e y1 ⟨rfl, rfl⟩
            go_wp2
            go_roundw
            case rel => exact ⟨x + 1, by omega, by go_num, S1.out, S2.out⟩
            case measure => simp [intOf]; omega
          · rw [if_neg hil] at hty
            have hils : ¬ (pp : Int) + x < tl.length := by omega
            subst hty
            obtain rfl : rx = ry := by
              have := cx.symm.trans cy
              simpa using this
            go_wp2
            go_roundw
            case rel => exact ⟨yn + 1, by omega, by go_num, S1.out, S2.out⟩
            case measure => simp [intOf]; omega
        · obtain rfl : x = letters m := by omega
          have hxs : ¬ ((letters m : Nat) : Int) < letters m := by omega
          have hlen := Hper.out (letters m) (Nat.le_refl _)
          obtain ⟨R, hR⟩ : ∃ R, turnR (letters m) tl M.length mrow (letters m) = R := ⟨_, rfl⟩
          rw [hR] at hO hlen Htk
          have hsi := hBi.size
          have hrowb : IntsOff wr (w.heap.size + 3) vv.ownBlock (.slice (some ⟨g1, 0, none⟩) (letters m) cg) R := HMR.out.beside (Nat.le_refl _) hsz (by rw [hlen]; exact hO) (by rw [hlen]; unfold big; omega)
          have hM2 := HMR.out.below hBi
          have hb2 : Boxed wr (w.heap.size + 2) 24 vv := (hBi.block _ Hbx.out.lt).trans Hbx.out
          have m2 := hb2.cell
          have hBB := hBX.trans (hBi.mono (by omega))
          have cb3 := (hBi.cell (p := ⟨w.heap.size, 0, none⟩) (World.block_lt_of_cell? _ _ cb)).trans cb
          obtain ⟨vA, vc, rfl, -⟩ := hM2.slice
          have HM2 := hid hM2
          have Hrowb := hid hrowb
          have Hb2 := hid hb2
          have HBB := hid hBB
          clear hM2 hrowb hBB hO hR hlen hb2
          go_wp2_with (at_builtin; refine wpList_append_mrow rfl _ _ rfl (w.heap.size + 3) (.slice vA M.length vc) (.slice (some ⟨g1, 0, none⟩) (letters m) cg) M R _ wr rfl wr.heap.size rfl rfl HM2.out rfl Hrowb.out (by omega) (by omega) ?_; intro A5 k5 w5 hM5 hB5; have n3 : Boxed w5 (w.heap.size + 2) 24 (.slice vA M.length vc) := (hB5.block _ (by omega)).trans Hb2.out; have n3c := n3.cell; have n3f := n3.frozen)
          have hM6 := hid (hM5.kept (W' := w5.setCell ⟨w.heap.size + 2, 0, none⟩ (.slice A5 (M.length + 1) k5)) (fun b hb _ => Below.heap_setCell _ _ _ _ (by simp; omega)))
          have hB6 := hid ((HBB.out.trans (hB5.mono (by omega))).setCell (p := ⟨w.heap.size + 2, 0, none⟩) (Nat.le_refl _) (.slice A5 (M.length + 1) k5))
          have hb6 := hid (n3.set (.slice A5 (M.length + 1) k5))
          have hsz5 := hB5.size
          clear hM5 hB5 n3 n3c n3f
          go_wp2
          go_roundw
          case rel => exact ⟨M ++ [R], _, by simp; omega, by simp, by rw [List.length_append, List.length_singleton, Htk.out, ← HMe.out], hM6.out, hb6.out, hB6.out, by simp [World.setCell]; omega⟩
          case measure => simp [intOf]; omega
    · have hkp : ¬ (M.length : Int) < m.length := by omega
      have hMM : M = turnM m tl := by
        have h1 := HMe.out
        rw [List.take_of_length_le (by rw [turnM_length]; omega)] at h1
        exact h1
      have o1 := Hbx.out.cell
      have g5 := (hBX.block _ (show w.heap.size + 1 < w.heap.size + 2 by omega)).trans f1
      obtain ⟨vA, vc, rfl, -⟩ := HMR.out.slice
      have d1 := cell_of_one g5
      have d2 := free_of_one g5
      have d3 := store_res g5 (.slice vA M.length vc)
      have g6 : (wr.setCell ⟨w.heap.size + 1, 0, none⟩ (.slice vA M.length vc)).heap[w.heap.size + 1]? = some (.cells #[.slice vA M.length vc] 24 (0, 0)) := by simpa using heap_setCell_same wr (w.heap.size + 1) 0 _ _ (.slice vA M.length vc) g5
      have HB := hid (Below.setCell (hX.trans (hBX.mono (by omega))) (p := ⟨w.heap.size + 1, 0, none⟩) (Nat.le_succ _) (.slice vA M.length vc))
      have HR := hid ((HMR.out.kept (W' := wr.setCell ⟨w.heap.size + 1, 0, none⟩ (.slice vA M.length vc)) (fun q hq hs => Below.heap_setCell _ _ _ _ (by simp; omega))).mono_base (by omega : w.heap.size ≤ w.heap.size + 3))
      have G6 := hid g6
      have HMM := hid hMM
      clear g5 g6 f1 hMM
      go_wp2
      (try simp only [Exit.inBlock, Exit.then])
      refine bodyPost_ret (v := .agg #[.slice vA M.length vc]) ?_ rfl ⟨_, rfl, by rw [← HMM.out]; exact HR.out, HB.out⟩
      exact results_cell_row rfl _ _ _ _ _ _ _ rfl G6.out Tryd.underlying24 rfl (by kernel_rfl)
end Go.Proofs.YtlpfglkopnmlnaaDoor
namespace Go.Proofs.YtlpfglkopnmlnaaDoor
open Go.RowKit Go.Shelf
/-- A list is returned, in memory of its own or as it came. -/
def FreshL (w : World) (L : List Int) (e : Ending) (w' : World) : Prop := ∃ A c, e = .returned (.slice A L.length c) ∧ (A = none → c = 0) ∧ Ints w' (.slice A L.length c) L ∧ Below w.heap.size w w'
theorem own_nil_room {w : World} {b : Nat} {e : TypeId} {s n c k : Nat} {A : Option Addr} {xs : List Value} (h : w.ownsRow b e s (.slice A n c) k xs) : A = none → c = 0 := by
  intro hA
  subst hA
  rcases h.2 with ⟨hu, _⟩ | ⟨g, cap, cur, hu, _⟩
  · simp only [Value.slice.injEq] at hu; exact hu.2.2
  · cases hu
/-- The letters of a word made of any numbers, at most 2000 of them. -/
def properM (m : List (List Int)) (l : List Int) : List Int := (l.take 2000).map fun x => x % (letters m : Int)
theorem properM_len (m : List (List Int)) (l : List Int) : (properM m l).length = min 2000 l.length := by simp [properM]
theorem properM_all {m : List (List Int)} (hv : validM m = true) (l : List Int) : (properM m l).all (inB 0 ((letters m : Int) - 1)) = true := by
  obtain ⟨-, -, p3, -, -⟩ := valid_parts hv
  rw [List.all_eq_true]
  intro y hy
  obtain ⟨x, _, rfl⟩ := List.mem_map.1 hy
  have h1 := Int.emod_nonneg x (show (letters m : Int) ≠ 0 by omega)
  have h2 := Int.emod_lt_of_pos x (show (0 : Int) < letters m by omega)
  exact inB_true (by omega)
theorem properM_get {m : List (List Int)} {l : List Int} {k : Nat} (hk : k < (properM m l).length) : (properM m l).take (k + 1) = (properM m l).take k ++ [l.getD k 0 % (letters m : Int)] := by
  rw [List.take_succ_eq_append_getElem hk]
  congr 2
  have hl : k < l.length := by rw [properM_len] at hk; omega
  simp [properM, List.getD_eq_getElem?_getD, List.getElem?_eq_getElem hl]
set_option maxRecDepth 100000 in
set_option maxHeartbeats 2000000 in
theorem tProper_any (v u : Value) (m : List (List Int)) (l : List Int) (w : World) (h : Rows w v m) (hu : Ints w u l) (hv : validM m = true) :
    Calls Tryd.prog 39 #[.agg #[v], u] w (FreshL w (properM m l)) := by
  obtain ⟨j0, hj, hy0, hy1, hy2⟩ := info_parts infoIntE
  obtain ⟨p1, p2, p3, p4, -⟩ := valid_parts hv
  obtain ⟨A, cap, rfl, hml, -⟩ := id h
  obtain ⟨b, off, A0, cap0, hA, hrow0⟩ := row_zero h hv
  subst hA
  obtain ⟨Au, capu, rfl, hlu, hcu⟩ := hu
  unfold big at hlu
  have hX := bal (Below.refl _ w) (.cells #[.slice (some ⟨b, off, none⟩) m.length cap] 24)
  have hbx := (Boxed.new w 24 (.slice (some ⟨b, off, none⟩) m.length cap)).cell
  have Hcu := hid hcu
  have hin : (0 : Int) < m.length := by omega
  have hLlen := properM_len m l
  have hget := hid (fun k (hk : k < (properM m l).length) => properM_get (m := m) (l := l) hk)
  generalize properM m l = L at *
  have HLL := hid hLlen
  have hLb : L.length ≤ 2000 := by omega
  have hLl : L.length ≤ l.length := by omega
  clear hcu hLlen
  go_enter Tryd.func39, Tryd.ntmps39
  go_wp2_with fail
  go_loopw [5, 6] (fun ov iv wr => ∃ k : Nat, k ≤ L.length ∧ iv = .int .i64 k ∧ wr.ownsRow (w.heap.size + 1) 3 1 ov k ((L.take k).map fun x => .int .i64 x) ∧ Below w.heap.size w wr ∧ wr.cell? ⟨w.heap.size, 0, none⟩ = some (.slice (some ⟨b, off, none⟩) m.length cap)) (fun _ iv _ => L.length - (intOf iv).toNat)
  case atStart => exact ⟨0, Nat.zero_le _, rfl, World.ownsRow_nil _ _ _ _, hX, hbx⟩
  case round =>
    clear hX hbx
    obtain ⟨k, hk, rfl, hO, hB, hbx⟩ := hrel
    obtain ⟨A1, c1, rfl⟩ := ownsRow_slice hO
    have HO := hid hO
    by_cases hlt : k < L.length
    · have hkl : k < l.length := by omega
      have hks : (k : Int) < l.length := by omega
      have d1 : decide ((k : Int) < (l.length : Int)) = true := by simp; omega
      have d2 : decide ((k : Int) < 2000) = true := by simp; omega
      have hk0 : (0 : Int) ≤ k := by omega
      obtain ⟨bu, ou, hAu, hcell⟩ := Hcu.out k hkl
      subst hAu
      have c1' := (hB.cell (p := ⟨bu, ou + k, none⟩) (World.block_lt_of_cell? _ _ hcell)).trans hcell
      have c2' := (hB.cell (p := ⟨b, off, none⟩) (World.block_lt_of_cell? _ _ hrow0)).trans hrow0
      have hsn := hid (hget.out k hlt)
      have hcw := hid hcell
      have hin2 : 0 < m.length := by omega
      clear hcell hO
      generalize l.getD k 0 = x at *
      have keep0 := hid (fun (w' : World) (hb : Below w.heap.size w w') (hc : w'.cell? ⟨w.heap.size, 0, none⟩ = some (.slice (some ⟨b, off, none⟩) m.length cap)) => show w'.cell? ⟨bu, ou + k, none⟩ = some (.int .i64 x) ∧ w'.cell? ⟨w.heap.size, 0, none⟩ = some (.slice (some ⟨b, off, none⟩) m.length cap) ∧ w'.cell? ⟨b, off, none⟩ = some (.slice A0 (letters m) cap0) from ⟨(hb.cell (p := ⟨bu, ou + k, none⟩) (World.block_lt_of_cell? _ _ hcw.out)).trans hcw.out, hc, (hb.cell (p := ⟨b, off, none⟩) (World.block_lt_of_cell? _ _ hrow0)).trans hrow0⟩)
      have keep := hid (fun (w' : World) (hb : Below wr.heap.size wr w') => show w'.cell? ⟨bu, ou + k, none⟩ = some (.int .i64 x) ∧ w'.cell? ⟨w.heap.size, 0, none⟩ = some (.slice (some ⟨b, off, none⟩) m.length cap) ∧ w'.cell? ⟨b, off, none⟩ = some (.slice A0 (letters m) cap0) from ⟨(hb.cell (p := ⟨bu, ou + k, none⟩) (World.block_lt_of_cell? _ _ c1')).trans c1', (hb.cell (p := ⟨w.heap.size, 0, none⟩) (World.block_lt_of_cell? _ _ hbx)).trans hbx, (hb.cell (p := ⟨b, off, none⟩) (World.block_lt_of_cell? _ _ c2')).trans c2'⟩)
      have hbl := World.block_lt_of_cell? _ _ hbx
      simp only at hbl
      obtain ⟨y, hy⟩ : ∃ y, x % (letters m : Int) = y := ⟨_, rfl⟩
      have Hy := hid hy
      have hcy := fun w => (tCycle_any x (letters m : Int) w (by omega))
      rw [hy] at hcy hsn
      have Hcy := hid hcy
      clear hy hcy
      have hge : ∀ q, (Value.slice A1 k c1).ownBlock = some q → w.heap.size + 1 ≤ q ∧ q < wr.heap.size := fun q hq => HO.out.lt q hq
      have KK : Hid (∀ (g1 cap1 : Nat) (w5 : World), w5.ownsRow (w.heap.size + 1) 3 1 (.slice (some ⟨g1, 0, none⟩) (k + 1) cap1) (k + 1) (((L.take k).map fun x => .int .i64 x) ++ [.int .i64 y]) → (wr.drew.alloc (.cells #[.int .i64 y] 3)).grownBy w5 (Value.slice A1 k c1).ownBlock →
          w5.ownsRow (w.heap.size + 1) 3 1 (.slice (some ⟨g1, 0, none⟩) (k + 1) cap1) (k + 1) ((L.take (k + 1)).map fun x => .int .i64 x) ∧ Below w.heap.size w w5 ∧ w5.cell? ⟨w.heap.size, 0, none⟩ = some (.slice (some ⟨b, off, none⟩) m.length cap)) := hid (fun g1 cap1 w5 h1 h2 => ⟨by rw [hsn.out, List.map_append]; exact h1, ((hB.drew).alloc (by have := hB.size; simpa using this) _).grown h2 (by have := hB.size; simp; omega) (fun q hq => by have := hge q hq; omega), (World.cell?_of_block ((h2.block w.heap.size (by simp; omega) (fun e => by have := hge _ e.symm; omega)).trans (Below.heap_alloc wr.drew _ _ (by simpa using hbl)))).trans hbx⟩)
      go_wp2_with fail
      go_region_held3 (fun w' => w'.cell? ⟨bu, ou + k, none⟩ = some (.int .i64 x) ∧ w'.cell? ⟨w.heap.size, 0, none⟩ = some (.slice (some ⟨b, off, none⟩) m.length cap) ∧ w'.cell? ⟨b, off, none⟩ = some (.slice A0 (letters m) cap0)) (first | exact keep.out _ (below_dr wr 1) | exact keep.out _ (bal (below_dr wr 1) _) | exact keep0.out _ K5.2.1 K5.2.2 | assumption)
        (first
          | (go_at_call 74; go_must (refine (Hcy.out _).mono ?_; rintro e y1 ⟨rfl, rfl⟩))
          | (refine step_append_lies _ rfl _ _ 41 rfl (w.heap.size + 1) 3 j0 (.int .i64 0) 1 8 Tryd.underlying41 hj hy0 hy1 hy2 rfl (by decide) (.slice A1 k c1) k ((L.take k).map fun x => .int .i64 x) rfl (by first | exact HO.out.alloc _ | exact (HO.out.alloc _).drew | exact (HO.out.drew).alloc _) ⟨wr.heap.size, 0, none⟩ 1 1 [.int .i64 y] rfl rfl (by first | exact cell_one_new _ _ _ | (intro j u hu; exact cell_one_new _ _ _ j u hu)) (by simp [Value.oneCell']) (by decide) (by unfold maxLen; omega) (by omega) (by simp; omega) _ rfl ?_; intro g1 cap1 w5 hown' hgrow' hat hlt1; have K5 := KK.out g1 cap1 w5 hown' hgrow'))
      all_goals go_wp2
      all_goals go_roundw
      case rel => exact ⟨k + 1, by omega, by go_num, K5.1, K5.2.1, K5.2.2⟩
      case measure => simp [intOf]; omega
    · obtain rfl : k = L.length := by omega
      have hO2 := HO.out
      rw [List.take_length] at hO2
      have hI := Ints.of_own hO2 (by unfold big; omega)
      have hn := own_nil_room hO2
      have HI := hid hI
      have Hn := hid hn
      by_cases hll : L.length < l.length
      · have d1 : decide ((L.length : Int) < (l.length : Int)) = true := by simp; omega
        have d2 : decide ((L.length : Int) < 2000) = false := by have := HLL.out; simp; omega
        clear hI hn hO2 HO hO
        go_wp2_with fail
        go_ret
        exact ⟨A1, c1, rfl, Hn.out, HI.out, hB⟩
      · have d1 : decide ((L.length : Int) < (l.length : Int)) = false := by simp; omega
        clear hI hn hO2 HO hO
        go_wp2_with fail
        go_ret
        exact ⟨A1, c1, rfl, Hn.out, HI.out, hB⟩
end Go.Proofs.YtlpfglkopnmlnaaDoor
namespace Go.Proofs.YtlpfglkopnmlnaaDoor
open Go.RowKit Go.Shelf
def Lb (n : Nat) (f : Nat → Bool) : List Bool := (List.range n).map f
theorem Lb_congr {n : Nat} {f g : Nat → Bool} (h : ∀ i, i < n → f i = g i) : Lb n f = Lb n g := List.map_congr_left fun i hi => h i (List.mem_range.1 hi)
theorem Lb_set {n : Nat} (f : Nat → Bool) (s : Nat) (v : Bool) : (Lb n f).set s v = Lb n (fun i => if i = s then v else f i) := by
  apply List.ext_getElem
  · simp [Lb]
  · intro i h1 h2
    rw [List.getElem_set]
    by_cases e : s = i
    · subst e; simp [Lb]
    · rw [if_neg e]; simp [Lb, Ne.symm e]
theorem Lb_cell {n : Nat} (f : Nat → Bool) {i : Nat} (hi : i < n) : ((Lb n f).map fun x => Value.bool x)[i]? = some (.bool (f i)) := by
  simp [Lb, List.getElem?_map, List.getElem?_range hi]
/-- The rows of a table that is being made: the first k are there. -/
def rowsB (n k : Nat) (B : Nat → Nat) : List Value := (List.range n).map fun p => if p < k then .slice (some ⟨B p, 0, none⟩) n n else .slice none 0 0
theorem rowsB_get {n k : Nat} (B : Nat → Nat) {p : Nat} (hp : p < n) : (rowsB n k B)[p]? = some (if p < k then .slice (some ⟨B p, 0, none⟩) n n else .slice none 0 0) := by
  simp [rowsB, List.getElem?_map, List.getElem?_range hp]
/-- The block g holds n rows, the first k of them in blocks of their own; row p holds f p 0, .., f p (n - 1). -/
structure BTb (W : World) (n₀ g n k : Nat) (B : Nat → Nat) (f : Nat → Nat → Bool) : Prop where
  outer : W.ownsRow n₀ 70 1 (.slice (some ⟨g, 0, none⟩) n n) n (rowsB n k B)
  inner : ∀ p, p < k → W.ownsRow n₀ 4 1 (.slice (some ⟨B p, 0, none⟩) n n) n ((Lb n (f p)).map fun x => .bool x)
  apart : ∀ p, p < k → g ≠ B p
  inj : ∀ p q, p < k → q < k → B p = B q → p = q
section
variable {W W' : World} {n₀ g n k : Nat} {B : Nat → Nat} {f : Nat → Nat → Bool}
theorem BTb.new (h : W.ownsRow n₀ 70 1 (.slice (some ⟨g, 0, none⟩) n n) n (List.replicate n (.slice none 0 0))) : BTb W n₀ g n 0 B f := by
  refine ⟨?_, fun p hp => by omega, fun p hp => by omega, fun p q hp => by omega⟩
  have e : rowsB n 0 B = List.replicate n (.slice none 0 0) := by
    apply List.ext_getElem
    · simp [rowsB]
    · intro i h1 h2; simp [rowsB]
  rw [e]; exact h
theorem BTb.kept (h : BTb W n₀ g n k B f) (hk : ∀ b, n₀ ≤ b → b < W.heap.size → W'.heap[b]? = W.heap[b]?) : BTb W' n₀ g n k B f :=
  ⟨owns_kept h.outer hk, fun p hp => owns_kept (h.inner p hp) hk, h.apart, h.inj⟩
theorem BTb.below (h : BTb W n₀ g n k B f) (hb : Below W.heap.size W W') : BTb W' n₀ g n k B f := h.kept fun b _ hs => hb.block b hs
theorem BTb.congr {e : Nat → Nat → Bool} (h : BTb W n₀ g n k B f) (he : ∀ p q, p < k → q < n → f p q = e p q) : BTb W n₀ g n k B e :=
  ⟨h.outer, fun p hp => by rw [← Lb_congr (n := n) (f := f p) (g := e p) fun q hq => he p q hp hq]; exact h.inner p hp, h.apart, h.inj⟩
theorem BTb.ge (h : BTb W n₀ g n k B f) {p : Nat} (hp : p < k) : n₀ ≤ B p ∧ B p < W.heap.size := ownq_lt (h.inner p hp)
theorem BTb.lt (h : BTb W n₀ g n k B f) : n₀ ≤ g ∧ g < W.heap.size := ownq_lt h.outer
/-- A row is made and stored. -/
theorem BTb.row {b : Nat} (h : BTb W n₀ g n k B f) (hk : k < n) (hg : ∀ c, n₀ ≤ c → c < W.heap.size → W'.heap[c]? = W.heap[c]?) (hb : W.heap.size ≤ b)
    (hr : W'.ownsRow n₀ 4 1 (.slice (some ⟨b, 0, none⟩) n n) n ((Lb n (f k)).map fun x => .bool x)) : BTb (W'.setCell ⟨g, k, none⟩ (.slice (some ⟨b, 0, none⟩) n n)) n₀ g n (k + 1) (fun p => if p = k then b else B p) f := by
  have h' := h.kept hg
  have hgb : g ≠ b := by have := h.lt; omega
  have hBb : ∀ p, p < k → B p ≠ b := fun p hp => by have := h.ge hp; omega
  obtain ⟨s1, s2⟩ := h'.outer.stored k (.slice (some ⟨b, 0, none⟩) n n)
  refine ⟨?_, fun p hp => ?_, fun p hp => ?_, fun p q hp hq e => ?_⟩
  · refine cast ?_ s1
    congr 1
    apply List.ext_getElem
    · simp [rowsB]
    · intro i h1 h2
      rw [List.getElem_set]
      by_cases e : k = i
      · subst e; simp [rowsB]
      · rw [if_neg e]
        simp only [rowsB, List.getElem_map, List.getElem_range]
        by_cases e2 : i < k
        · rw [if_pos e2, if_pos (by omega), if_neg (by omega)]
        · rw [if_neg e2, if_neg (by omega)]
  · by_cases e : p = k
    · subst e; simp only [if_true]
      exact hr.kept s2 (.inr (by simp [Value.ownBlock]; exact fun e => hgb e.symm))
    · simp only [if_neg e]
      exact (h'.inner p (by omega)).kept s2 (.inr (by simp [Value.ownBlock]; exact fun e => h.apart p (by omega) e.symm))
  · by_cases e : p = k
    · subst e; simp only [if_true]; exact hgb
    · simp only [if_neg e]; exact h.apart p (by omega)
  · by_cases e1 : p = k <;> by_cases e2 : q = k
    · omega
    · simp only [if_pos e1, if_neg e2] at e; exact absurd e.symm (hBb q (by omega))
    · simp only [if_neg e1, if_pos e2] at e; exact absurd e (hBb p (by omega))
    · simp only [if_neg e1, if_neg e2] at e; exact h.inj p q (by omega) (by omega) e
theorem BTb.cell (h : BTb W n₀ g n k B f) {p : Nat} (hp : p < n) : W.cell? ⟨g, p, none⟩ = some (if p < k then .slice (some ⟨B p, 0, none⟩) n n else .slice none 0 0) := by
  rw [h.outer.cellAt p (by omega), rowsB_get B hp]
theorem BTb.at (h : BTb W n₀ g n n B f) {p : Nat} (hp : p < n) : W.cell? ⟨g, p, none⟩ = some (.slice (some ⟨B p, 0, none⟩) n n) := by
  rw [h.cell hp, if_pos hp]
theorem BTb.free (h : BTb W n₀ g n k B f) {p : Nat} (hp : p < k) (q : Nat) : W.frozen? ⟨B p, q, none⟩ = false := (h.inner p hp).frozenAt q
/-- A truth value is stored. -/
theorem BTb.set (h : BTb W n₀ g n k B f) {p q : Nat} (hp : p < k) (x : Bool) : BTb (W.setCell ⟨B p, q, none⟩ (.bool x)) n₀ g n k B (fun a b => if a = p ∧ b = q then x else f a b) := by
  obtain ⟨h1, h2⟩ := (h.inner p hp).stored q (.bool x)
  refine ⟨h.outer.kept h2 (.inr (by simp [Value.ownBlock]; exact fun e => h.apart p hp e)), fun a ha => ?_, h.apart, h.inj⟩
  by_cases e : a = p
  · subst e
    rw [← List.map_set_bool, Lb_set] at h1
    refine cast ?_ h1
    congr 2
    exact Lb_congr fun i _ => by simp
  · have : (Lb n fun b => if a = p ∧ b = q then x else f a b) = Lb n (f a) := Lb_congr fun i _ => by rw [if_neg (fun h => e h.1)]
    rw [show (fun b => if a = p ∧ b = q then x else f a b) = fun b => (fun a b => if a = p ∧ b = q then x else f a b) a b from rfl] at this
    rw [this]
    refine (h.inner a ha).kept h2 (.inr ?_)
    intro e2
    simp only [Value.ownBlock, Option.some.injEq] at e2
    exact e (h.inj a p ha hp e2)
end
end Go.Proofs.YtlpfglkopnmlnaaDoor
namespace Go.Proofs.YtlpfglkopnmlnaaDoor
open Go.RowKit Go.Shelf
/-- A list that came in or was made: if it is nil it has no room. -/
def Room (w : World) (v : Value) (l : List Int) : Prop := ∃ A c, v = .slice A l.length c ∧ (A = none → c = 0) ∧ Ints w v l
theorem Room.below {w w' : World} {v : Value} {l : List Int} (h : Room w v l) (hb : Below w.heap.size w w') : Room w' v l := by
  obtain ⟨A, c, h1, h2, h3⟩ := h
  exact ⟨A, c, h1, h2, h3.below hb⟩
/-- The lists of a list that lies in block g. -/
def LRows (w : World) (g n : Nat) (vs : Nat → Value) (ls : List (List Int)) : Prop := ls.length = n ∧ ∀ i, i < n → w.cell? ⟨g, i, none⟩ = some (vs i) ∧ Room w (vs i) (ls.getD i [])
theorem flat_take {ls : List (List Int)} {i : Nat} (h : i < ls.length) : (ls.take (i + 1)).flatten = (ls.take i).flatten ++ ls.getD i [] := by
  rw [List.take_succ_eq_append_getElem h, List.flatten_append]
  simp [List.getD_eq_getElem?_getD, List.getElem?_eq_getElem h]
theorem flat_len {ls : List (List Int)} (i : Nat) : (ls.take i).flatten.length ≤ ls.flatten.length := by
  conv => rhs; rw [← List.take_append_drop i ls, List.flatten_append, List.length_append]
  omega
set_option maxRecDepth 100000 in
set_option maxHeartbeats 2000000 in
theorem tJoined_any (g n : Nat) (vs : Nat → Value) (ls : List (List Int)) (L : List Int) (w : World) (h : LRows w g n vs ls) (hL : ls.flatten = L) (hlen : L.length ≤ 50000) (hn5 : n ≤ 1000) :
    Calls Tryd.prog 42 #[.slice (some ⟨g, 0, none⟩) n n] w (FreshL w L) := by
  obtain ⟨hn, hc⟩ := h
  have Hc := hid hc
  have Hn := hid hn
  have HL := hid hL
  have hft := hid (fun i (hi : i < ls.length) => flat_take hi)
  have hfl := hid (fun i => flat_len (ls := ls) i)
  clear hc hn hL
  go_enter Tryd.func42, Tryd.ntmps42
  go_wp2_with fail
  go_loopw [3, 4] (fun ov iv wr => ∃ i : Nat, i ≤ n ∧ iv = .int .i64 i ∧ wr.ownsRow w.heap.size 3 1 ov ((ls.take i).flatten).length (((ls.take i).flatten).map fun x => .int .i64 x) ∧ Below w.heap.size w wr) (fun _ iv _ => n - (intOf iv).toNat)
  case atStart => exact ⟨0, Nat.zero_le _, rfl, World.ownsRow_nil _ _ _ _, Below.refl _ _⟩
  case round =>
    obtain ⟨i, hi, rfl, hO, hB⟩ := hrel
    have HO := hid hO
    by_cases hlt : i < n
    · have his : (i : Int) < n := by omega
      obtain ⟨k1, k2⟩ := Hc.out i hlt
      have c1 := (hB.cell (p := ⟨g, i, none⟩) (World.block_lt_of_cell? _ _ k1)).trans k1
      have hsn := hid (hft.out i (by have := Hn.out; omega))
      have hl1 := hfl.out (i + 1)
      rw [HL.out, hsn.out, List.length_append] at hl1
      obtain ⟨Ai, ci, hvi, hni, hIi⟩ := k2
      rw [hvi] at c1 hIi
      have hIr := hid (hIi.below hB)
      clear k1 hO hvi hIi
      generalize hLi : ls.getD i [] = Li at *
      have HLi := hid hLi
      clear hLi
      generalize hPi : (ls.take i).flatten = Pi at *
      have HPi := hid hPi
      clear hPi
      go_wp2_with (at_builtin; refine wpList_append_list rfl _ _ rfl w.heap.size _ _ _ Ai ci Li rfl HO.out rfl hni hIr.out hB.size (by omega) ?_; intro v1 w5 ho1 hb1)
      have ho2 : w5.ownsRow w.heap.size 3 1 v1 ((ls.take (i + 1)).flatten).length (((ls.take (i + 1)).flatten).map fun x => .int .i64 x) := by
        rw [hsn.out, List.length_append, List.map_append]; exact ho1
      have HO2 := hid ho2
      have hB5 := hB.trans hb1
      clear ho1 ho2
      go_roundw
      case rel => exact ⟨i + 1, by omega, by go_num, HO2.out, hB5⟩
      case measure => simp [intOf]; omega
    · obtain rfl : i = n := by omega
      have his : ¬ ((i : Nat) : Int) < i := by omega
      have hO2 := HO.out
      rw [List.take_of_length_le (by have := Hn.out; omega), HL.out] at hO2
      obtain ⟨A1, c1, rfl⟩ := ownsRow_slice hO2
      have HI := hid (Ints.of_own hO2 (by unfold big; omega))
      have HN := hid (own_nil_room hO2)
      clear hO hO2 HO
      go_wp2_with fail
      go_ret
      exact ⟨A1, c1, rfl, HN.out, HI.out, hB⟩
/-- What spread has met before state s: nothing, or the one state. -/
def metL (n t s : Nat) : List Bool := if s = 0 then List.replicate n false else (List.replicate n false).set t true
theorem metL_set (n t s : Nat) : (metL n t s).set t true = metL n t (s + 1) := by
  unfold metL
  rw [if_neg (show ¬ s + 1 = 0 by omega)]
  split
  · rfl
  · rw [List.set_set]
theorem metL_at {n t s : Nat} (ht : t < n) : (metL n t s)[t]? = some (decide (0 < s)) := by
  unfold metL
  by_cases h : s = 0
  · rw [if_pos h]; subst h; simp [ht]
  · rw [if_neg h]; simp [ht]; omega
set_option maxRecDepth 100000 in
set_option maxHeartbeats 2000000 in
theorem tSpread_one (v u : Value) (m : List (List Int)) (l : List Int) (t : Nat) (w : World) (h : Rows w v m) (hu : Ints w u l) (hv : validM m = true) (hw : l.all (inB 0 ((letters m : Int) - 1)) = true) (ht : t < m.length) (hall : ∀ s, s < m.length → runM m s l = t) :
    Calls Tryd.prog 38 #[.agg #[v], u] w fun e w' => e = .returned (.int .i64 1) ∧ Below w.heap.size w w' := by
  obtain ⟨j0, hj, hy0, hy1, hy2⟩ := info_parts infoBool
  obtain ⟨p1, p2, -⟩ := valid_parts hv
  obtain ⟨A, cap, rfl, hml, -⟩ := id h
  obtain ⟨Au, capu, rfl, -, -⟩ := id hu
  have hX := bal (Below.refl _ w) (.cells #[.slice A m.length cap] 24)
  have Hall := hid hall
  have Hw := hid hw
  have hts : (t : Int) < m.length := by omega
  clear hall hw
  go_enter Tryd.func38, Tryd.ntmps38
  go_wp2_with (at_make; go_must (refine wpList_make_full _ rfl _ _ 70 rfl (w.heap.size + 1) 4 j0 (.bool false) 1 Tryd.underlying70 hj hy0 hy1 .i64 .i64 _ _ m.length rfl rfl rfl rfl (by rw [hy2]; omega) (by unfold maxLen; omega) (by simp) ?_); intro w1 hown hgrow; rw [show Value.cells (.bool false) = #[.bool false] from rfl, toList_madeCells_one, Nat.mul_one] at hown; simp only [World.size_alloc] at hown)
  have hB1 := hX.grown hgrow (by simp) (fun q hq => by cases hq)
  have bx : w1.cell? ⟨w.heap.size, 0, none⟩ = some (.slice A m.length cap) := (World.cell?_of_block (hgrow.block w.heap.size (by simp) (by simp))).trans (by simp [go_sem])
  have hown0 : w1.ownsRow (w.heap.size + 1) 4 1 (.slice (some ⟨w.heap.size + 1, 0, none⟩) m.length m.length) m.length ((metL m.length t 0).map fun x => .bool x) := by
    simpa [metL] using hown
  clear hown hgrow
  go_loopw [6, 7] (fun nv sv wr => ∃ (s : Nat) (c : Int), s ≤ m.length ∧ sv = .int .i64 s ∧ nv = .int .i64 c ∧ (s = 0 → c = 0) ∧ (0 < s → c = 1) ∧ wr.ownsRow (w.heap.size + 1) 4 1 (.slice (some ⟨w.heap.size + 1, 0, none⟩) m.length m.length) m.length ((metL m.length t s).map fun x => .bool x) ∧ Below w.heap.size w wr ∧ wr.cell? ⟨w.heap.size, 0, none⟩ = some (.slice A m.length cap)) (fun _ sv _ => m.length - (intOf sv).toNat)
  case atStart => exact ⟨0, 0, Nat.zero_le _, rfl, rfl, fun _ => rfl, fun h => by omega, hown0, hB1, bx⟩
  case round =>
    clear hown0 hB1 bx
    obtain ⟨s, c, hs, rfl, rfl, hc0, hc1, hO, hB, hbx⟩ := hrel
    have HO := hid hO
    have Hc0 := hid hc0
    have Hc1 := hid hc1
    clear hO hc0 hc1
    by_cases hlt : s < m.length
    · have hss : (s : Int) < m.length := by omega
      have hrun := Hall.out s hlt
      go_wp2_with fail
      refine (tLead_any _ _ m s l _ (h.below hB) (hu.below hB) hv hlt Hw.out).mono ?_
      rw [hrun]
      rintro e y ⟨rfl, hy⟩
      have hBy := btr hB hy
      have hbxy := (hy.cell (p := ⟨w.heap.size, 0, none⟩) (World.block_lt_of_cell? _ _ hbx)).trans hbx
      have hOy := owns_block HO.out (hy.block _ (ownq_lt HO.out).2)
      have hcA := hOy.cellAt t (by omega)
      have hfA := hOy.frozenAt t
      rw [List.getElem?_map, metL_at ht, Option.map_some] at hcA
      have hSt := (hOy.stored t (.bool true)).1
      rw [← List.map_set_bool, metL_set] at hSt
      have HSt := hid hSt
      have hBs := hid (hBy.setCell (p := ⟨w.heap.size + 1, t, none⟩) (by show w.heap.size ≤ w.heap.size + 1; omega) (.bool true))
      have hbxs : (y.setCell ⟨w.heap.size + 1, t, none⟩ (.bool true)).cell? ⟨w.heap.size, 0, none⟩ = some (.slice A m.length cap) := (World.cell?_of_block (Below.heap_setCell _ _ _ _ (by simp))).trans hbxy
      clear hSt hOy hrun
      by_cases h0 : s = 0
      · subst h0
        have e0 : decide (0 < 0) = false := rfl
        rw [e0] at hcA
        obtain rfl := Hc0.out rfl
        go_wp2_with fail
        go_roundw
        case rel => exact ⟨0 + 1, 1, by omega, by go_num, by go_num, fun h => by omega, fun _ => rfl, HSt.out, hBs.out, hbxs⟩
        case measure => simp [intOf]; omega
      · have e0 : decide (0 < s) = true := decide_eq_true (by omega)
        obtain rfl := Hc1.out (by omega)
        rw [e0] at hcA
        go_wp2_with fail
        go_roundw
        case rel => exact ⟨s + 1, 1, by omega, by go_num, rfl, fun h => by omega, fun _ => rfl, HSt.out, hBs.out, hbxs⟩
        case measure => simp [intOf]; omega
    · have hss : ¬ (s : Int) < m.length := by omega
      obtain rfl := Hc1.out (by omega)
      go_wp2_with fail
      go_ret
      exact ⟨rfl, hB⟩
end Go.Proofs.YtlpfglkopnmlnaaDoor
namespace Go.Proofs.YtlpfglkopnmlnaaDoor
open Go.RowKit Go.Shelf
/-- Whether one of the first s states is led to t. -/
def metP (m : List (List Int)) (l : List Int) (s t : Nat) : Bool := (List.range s).any fun s' => runM m s' l == t
theorem metP_succ (m : List (List Int)) (l : List Int) (s t : Nat) : metP m l (s + 1) t = (metP m l s t || runM m s l == t) := by
  simp [metP, List.range_succ]
def cntP (n : Nat) (f : Nat → Bool) : Nat := ((List.range n).filter f).length
theorem cntP_add : ∀ (n : Nat) (f : Nat → Bool) (t : Nat), cntP n (fun i => f i || t == i) = cntP n f + (if t < n ∧ f t = false then 1 else 0)
  | 0, f, t => by simp [cntP]
  | n + 1, f, t => by
    have ih := cntP_add n f t
    have e : ∀ g : Nat → Bool, cntP (n + 1) g = cntP n g + (if g n = true then 1 else 0) := fun g => by
      unfold cntP
      rw [List.range_succ, List.filter_append, List.length_append]
      cases hg : g n <;> simp [hg]
    rw [e, e, ih]
    by_cases h : t = n
    · subst h
      cases hf : f t <;> simp
    · have h2 : (t == n) = false := beq_eq_false_iff_ne.2 h
      rw [h2, Bool.or_false]
      have e3 : (if t < n + 1 ∧ f t = false then 1 else 0) = (if t < n ∧ f t = false then 1 else 0) := by
        by_cases h3 : t < n ∧ f t = false
        · rw [if_pos h3, if_pos ⟨by omega, h3.2⟩]
        · rw [if_neg h3, if_neg (fun h4 => h3 ⟨by omega, h4.2⟩)]
      rw [e3]
      generalize (if t < n ∧ f t = false then 1 else 0) = z
      generalize (if f n = true then 1 else 0) = y
      omega
theorem cntP_le (n : Nat) (f : Nat → Bool) : cntP n f ≤ n := by
  unfold cntP
  have := List.length_filter_le f (List.range n)
  simpa using this
/-- In the end: as many as there are states to which the word leads. -/
theorem cntP_image {m : List (List Int)} (hv : validM m = true) {l : List Int} (hw : isWordM m l = true) : cntP m.length (metP m l m.length) = (imageM m (allM m.length) l).length := by
  rw [← image_pick hv (allM_set m) hw]
  unfold cntP pick
  rw [List.length_map]
  congr 1
  refine List.filter_congr fun t ht => ?_
  rw [Bool.eq_iff_iff, hasB_mem]
  unfold metP thereM allM pick
  rw [List.any_eq_true]
  constructor
  · rintro ⟨s, hs, he⟩
    refine List.mem_map.2 ⟨(s : Int), List.mem_map.2 ⟨s, by simpa using hs, rfl⟩, ?_⟩
    rw [Int.toNat_natCast, beq_iff_eq.1 he]
  · intro h
    obtain ⟨x, hx, he⟩ := List.mem_map.1 h
    obtain ⟨s, hs, rfl⟩ := List.mem_map.1 hx
    refine ⟨s, by simpa using hs, ?_⟩
    rw [Int.toNat_natCast] at he
    exact beq_iff_eq.2 (by omega)
set_option maxRecDepth 100000 in
set_option maxHeartbeats 2000000 in
theorem tSpread_any (v u : Value) (m : List (List Int)) (l : List Int) (w : World) (h : Rows w v m) (hu : Ints w u l) (hv : validM m = true) (hw : l.all (inB 0 ((letters m : Int) - 1)) = true) :
    Calls Tryd.prog 38 #[.agg #[v], u] w fun e w' => e = .returned (.int .i64 (cntP m.length (metP m l m.length) : Nat)) ∧ Below w.heap.size w w' := by
  obtain ⟨j0, hj, hy0, hy1, hy2⟩ := info_parts infoBool
  obtain ⟨p1, p2, -⟩ := valid_parts hv
  obtain ⟨A, cap, rfl, hml, -⟩ := id h
  obtain ⟨Au, capu, rfl, -, -⟩ := id hu
  have hX := bal (Below.refl _ w) (.cells #[.slice A m.length cap] 24)
  have Hw := hid hw
  clear hw
  go_enter Tryd.func38, Tryd.ntmps38
  go_wp2_with (at_make; go_must (refine wpList_make_full _ rfl _ _ 70 rfl (w.heap.size + 1) 4 j0 (.bool false) 1 Tryd.underlying70 hj hy0 hy1 .i64 .i64 _ _ m.length rfl rfl rfl rfl (by rw [hy2]; omega) (by unfold maxLen; omega) (by simp) ?_); intro w1 hown hgrow; rw [show Value.cells (.bool false) = #[.bool false] from rfl, toList_madeCells_one, Nat.mul_one] at hown; simp only [World.size_alloc] at hown)
  have hB1 := hX.grown hgrow (by simp) (fun q hq => by cases hq)
  have bx : w1.cell? ⟨w.heap.size, 0, none⟩ = some (.slice A m.length cap) := (World.cell?_of_block (hgrow.block w.heap.size (by simp) (by simp))).trans (by simp [go_sem])
  have hown0 : w1.ownsRow (w.heap.size + 1) 4 1 (.slice (some ⟨w.heap.size + 1, 0, none⟩) m.length m.length) m.length ((Lb m.length (metP m l 0)).map fun x => .bool x) := by
    have e : ((Lb m.length (metP m l 0)).map fun x => Value.bool x) = List.replicate m.length (.bool false) := by
      apply List.ext_getElem
      · simp [Lb]
      · intro i h1 h2; simp [Lb, metP]
    rw [e]; simpa using hown
  have hc0 : cntP m.length (metP m l 0) = 0 := by simp [cntP, metP]
  have Hc0 := hid hc0
  clear hown hgrow hc0
  go_loopw [6, 7] (fun nv sv wr => ∃ (s c : Nat), s ≤ m.length ∧ sv = .int .i64 s ∧ nv = .int .i64 c ∧ cntP m.length (metP m l s) = c ∧ wr.ownsRow (w.heap.size + 1) 4 1 (.slice (some ⟨w.heap.size + 1, 0, none⟩) m.length m.length) m.length ((Lb m.length (metP m l s)).map fun x => .bool x) ∧ Below w.heap.size w wr ∧ wr.cell? ⟨w.heap.size, 0, none⟩ = some (.slice A m.length cap)) (fun _ sv _ => m.length - (intOf sv).toNat)
  case atStart => exact ⟨0, 0, Nat.zero_le _, rfl, rfl, Hc0.out, hown0, hB1, bx⟩
  case round =>
    clear hown0 hB1 bx Hc0
    obtain ⟨s, c, hs, rfl, rfl, hc, hO, hB, hbx⟩ := hrel
    have HO := hid hO
    have hcl := cntP_le m.length (metP m l s)
    rw [hc] at hcl
    have Hc := hid hc
    clear hO hc
    by_cases hlt : s < m.length
    · have hss : (s : Int) < m.length := by omega
      have hrl := runM_lt hv l s hlt Hw.out
      go_wp2_with fail
      refine (tLead_any _ _ m s l _ (h.below hB) (hu.below hB) hv hlt Hw.out).mono ?_
      rintro e y ⟨rfl, hy⟩
      have hBy := btr hB hy
      have hbxy := (hy.cell (p := ⟨w.heap.size, 0, none⟩) (World.block_lt_of_cell? _ _ hbx)).trans hbx
      have hOy := owns_block HO.out (hy.block _ (ownq_lt HO.out).2)
      have hfun : (fun i => if i = runM m s l then true else metP m l s i) = metP m l (s + 1) := by
        funext i
        rw [metP_succ]
        by_cases e : i = runM m s l
        · rw [if_pos e, e]; simp
        · rw [if_neg e, beq_eq_false_iff_ne.2 (fun h => e h.symm), Bool.or_false]
      have hcnt : cntP m.length (metP m l (s + 1)) = c + (if runM m s l < m.length ∧ metP m l s (runM m s l) = false then 1 else 0) := by
        rw [← Hc.out, ← cntP_add]
        congr 1
        funext i
        rw [metP_succ]
      generalize runM m s l = t at *
      have hts : (t : Int) < m.length := by omega
      have hcA := hOy.cellAt t (by omega)
      have hfA := hOy.frozenAt t
      rw [Lb_cell _ hrl] at hcA
      have hSt := (hOy.stored t (.bool true)).1
      rw [← List.map_set_bool, Lb_set, hfun] at hSt
      have HSt := hid hSt
      have hBs := hid (hBy.setCell (p := ⟨w.heap.size + 1, t, none⟩) (by show w.heap.size ≤ w.heap.size + 1; omega) (.bool true))
      have hbxs : (y.setCell ⟨w.heap.size + 1, t, none⟩ (.bool true)).cell? ⟨w.heap.size, 0, none⟩ = some (.slice A m.length cap) := (World.cell?_of_block (Below.heap_setCell _ _ _ _ (by simp))).trans hbxy
      clear hSt hOy hfun
      have Hcnt := hid hcnt
      clear hcnt
      cases hmt : metP m l s t with
      | false =>
        rw [hmt] at hcA
        have hcn := hid (show cntP m.length (metP m l (s + 1)) = c + 1 by rw [Hcnt.out, if_pos ⟨hrl, hmt⟩])
        clear hmt Hcnt Hc
        go_wp2_with fail
        go_roundw
        case rel => exact ⟨s + 1, c + 1, by omega, by go_num, by go_num, hcn.out, HSt.out, hBs.out, hbxs⟩
        case measure => simp [intOf]; omega
      | true =>
        rw [hmt] at hcA
        have hcn := hid (show cntP m.length (metP m l (s + 1)) = c by rw [Hcnt.out, if_neg (fun h => by rw [hmt] at h; cases h.2)]; omega)
        clear hmt Hcnt Hc
        go_wp2_with fail
        go_roundw
        case rel => exact ⟨s + 1, c, by omega, by go_num, rfl, hcn.out, HSt.out, hBs.out, hbxs⟩
        case measure => simp [intOf]; omega
    · have hss : ¬ (s : Int) < m.length := by omega
      obtain rfl : s = m.length := by omega
      go_wp2_with fail
      go_ret
      exact ⟨ret_int (by rw [Hc.out]), hB⟩
theorem tSpread_as (v u : Value) (m : List (List Int)) (l : List Int) (k : Nat) (w : World) (h : Rows w v m) (hu : Ints w u l) (hv : validM m = true) (hw : isWordM m l = true) (hk : Hid ((imageM m (allM m.length) l).length = k)) :
    Calls Tryd.prog 38 #[.agg #[v], u] w fun e w' => e = .returned (.int .i64 k) ∧ Below w.heap.size w w' := by
  refine (tSpread_any v u m l w h hu hv (isWordM_all hw)).mono ?_
  rintro e w1 ⟨rfl, h1⟩
  rw [cntP_image hv hw, hk.out]
  exact ⟨rfl, h1⟩
end Go.Proofs.YtlpfglkopnmlnaaDoor
namespace Go.Proofs.YtlpfglkopnmlnaaDoor
open Go.RowKit Go.Shelf
theorem Ints.off {W : World} {b o n c k o' : Nat} {l : List Int} {x : Value} (h : Ints W (.slice (some ⟨b, o, none⟩) n c) l) (hk : b ≠ k) : Ints (W.setCell ⟨k, o', none⟩ x) (.slice (some ⟨b, o, none⟩) n c) l := by
  obtain ⟨A, cap, hv, hl, hc⟩ := h
  refine ⟨A, cap, hv, hl, fun i hi => ?_⟩
  obtain ⟨b', off, hA, hcell⟩ := hc i hi
  refine ⟨b', off, hA, ?_⟩
  simp only [Value.slice.injEq] at hv
  rw [← hv.1] at hA
  simp only [Option.some.injEq, Addr.mk.injEq, and_true] at hA
  obtain ⟨rfl, rfl⟩ := hA
  exact (World.cell?_of_block (Below.heap_setCell _ _ _ _ hk)).trans hcell
/-- The rows of a table that is being made, each of two numbers: the first k are there. -/
def rowsC (n k : Nat) (B : Nat → Nat) : List Value := (List.range n).map fun p => if p < k then .slice (some ⟨B p, 0, none⟩) 2 2 else .slice none 0 0
structure RTb (W : World) (n₀ g n k : Nat) (B : Nat → Nat) (f : Nat → List Int) : Prop where
  outer : W.ownsRow n₀ 41 1 (.slice (some ⟨g, 0, none⟩) n n) n (rowsC n k B)
  inner : ∀ p, p < k → Ints W (.slice (some ⟨B p, 0, none⟩) 2 2) (f p)
  apart : ∀ p, p < k → B p ≠ g ∧ n₀ ≤ B p
section
variable {W W' : World} {n₀ g n k : Nat} {B : Nat → Nat} {f : Nat → List Int}
theorem RTb.new (h : W.ownsRow n₀ 41 1 (.slice (some ⟨g, 0, none⟩) n n) n (List.replicate n (.slice none 0 0))) : RTb W n₀ g n 0 B f := by
  refine ⟨?_, fun p hp => by omega, fun p hp => by omega⟩
  have e : rowsC n 0 B = List.replicate n (.slice none 0 0) := by
    apply List.ext_getElem
    · simp [rowsC]
    · intro i h1 h2; simp [rowsC]
  rw [e]; exact h
theorem RTb.below (h : RTb W n₀ g n k B f) (hb : Below W.heap.size W W') : RTb W' n₀ g n k B f :=
  ⟨owns_kept h.outer fun b _ hs => hb.block b hs, fun p hp => (h.inner p hp).below hb, h.apart⟩
theorem RTb.lt (h : RTb W n₀ g n k B f) : n₀ ≤ g ∧ g < W.heap.size := ownq_lt h.outer
/-- A row is stored: the next one, or in the place of one that was there. -/
theorem RTb.row {p b k' : Nat} {l : List Int} (h : RTb W n₀ g n k B f) (hp : p ≤ k) (hk' : k' = if p = k then k + 1 else k) (hb : b ≠ g ∧ n₀ ≤ b) (hl : Ints W (.slice (some ⟨b, 0, none⟩) 2 2) l) :
    RTb (W.setCell ⟨g, p, none⟩ (.slice (some ⟨b, 0, none⟩) 2 2)) n₀ g n k' (fun i => if i = p then b else B i) (fun i => if i = p then l else f i) := by
  obtain ⟨s1, -⟩ := h.outer.stored p (.slice (some ⟨b, 0, none⟩) 2 2)
  have hlt : ∀ i, i < k' → i ≠ p → i < k := fun i hi hne => by
    by_cases e : p = k
    · rw [if_pos e] at hk'; omega
    · rw [if_neg e] at hk'; omega
  refine ⟨?_, fun i hi => ?_, fun i hi => ?_⟩
  · refine cast ?_ s1
    congr 1
    apply List.ext_getElem
    · simp [rowsC]
    · intro i h1 h2
      rw [List.getElem_set]
      by_cases e : p = i
      · subst e
        have : p < k' := by
          by_cases e2 : p = k
          · rw [if_pos e2] at hk'; omega
          · rw [if_neg e2] at hk'; omega
        simp [rowsC, this]
      · rw [if_neg e]
        simp only [rowsC, List.getElem_map, List.getElem_range]
        have e' : ¬ i = p := fun h => e h.symm
        simp only [e', if_false]
        by_cases e2 : i < k
        · rw [if_pos e2, if_pos (by
            by_cases e3 : p = k
            · rw [if_pos e3] at hk'; omega
            · rw [if_neg e3] at hk'; omega)]
        · rw [if_neg e2, if_neg (fun h3 => e2 (hlt i h3 e'))]
  · by_cases e : i = p
    · subst e; simp only [if_true]; exact hl.off hb.1
    · simp only [if_neg e]; exact (h.inner i (hlt i hi e)).off (h.apart i (hlt i hi e)).1
  · by_cases e : i = p
    · subst e; simp only [if_true]; exact hb
    · simp only [if_neg e]; exact h.apart i (hlt i hi e)
theorem RTb.other {c : Nat} {u : Value} (h : RTb W n₀ g n k B f) (hc : c < n₀) : RTb (W.setCell ⟨c, 0, none⟩ u) n₀ g n k B f :=
  ⟨owns_block h.outer (Below.heap_setCell _ _ _ _ (by have := h.lt; simp; omega)), fun p hp => (h.inner p hp).off (by have := (h.apart p hp).2; omega), h.apart⟩
theorem RTb.cell (h : RTb W n₀ g n k B f) {p : Nat} (hp : p < n) : W.cell? ⟨g, p, none⟩ = some (if p < k then .slice (some ⟨B p, 0, none⟩) 2 2 else .slice none 0 0) := by
  rw [h.outer.cellAt p (by omega)]
  simp [rowsC, List.getElem?_map, List.getElem?_range hp]
theorem RTb.free (h : RTb W n₀ g n k B f) (p : Nat) : W.frozen? ⟨g, p, none⟩ = false := h.outer.frozenAt p
theorem RTb.rows (h : RTb W n₀ g n n B f) (hn : n ≤ 1000) : Rows W (.slice (some ⟨g, 0, none⟩) n n) ((List.range n).map f) := by
  refine ⟨some ⟨g, 0, none⟩, n, by simp, by unfold big; simp; omega, fun i hi => ?_⟩
  simp only [List.length_map, List.length_range] at hi
  refine ⟨g, 0, .slice (some ⟨B i, 0, none⟩) 2 2, rfl, ?_, ?_⟩
  · rw [Nat.zero_add, h.cell hi, if_pos hi]
  · have e : ((List.range n).map f).getD i [] = f i := by simp [List.getD_eq_getElem?_getD, List.getElem?_map, List.getElem?_range hi]
    rw [e]; exact h.inner i hi
end
end Go.Proofs.YtlpfglkopnmlnaaDoor
namespace Go.Proofs.YtlpfglkopnmlnaaDoor
open Go.RowKit Go.Shelf Go.Maps Go.WideAt
/-- A map from numbers to bools that reads as a set. -/
def SeenMapS (w : World) (bm n : Nat) (S : Nat → Bool) : Prop :=
  ∃ D : DataW Unit, w.ownsMap Tryd.prog 79 (plainElem Tryd.prog 4) bm n D ∧ IsMap D ∧ ∀ p : Nat, D.atKey (.int .u64 p) (.lit (.bool false)) = .lit (.bool (S p))
theorem SeenMapS.made (w : World) : SeenMapS (w.alloc (.map #[] 0)) w.heap.size 0 (fun _ => false) :=
  ⟨.map [], World.ownsMap_made w _ _ _, ⟨[], rfl⟩, fun p => rfl⟩
theorem SeenMapS.kept {w w' : World} {bm n : Nat} {S : Nat → Bool} (h : SeenMapS w bm n S) (hk : w'.heap[bm]? = w.heap[bm]?) : SeenMapS w' bm n S := by
  obtain ⟨D, ⟨es, clock, hb, F, hs, hD⟩, hM, hS⟩ := h
  exact ⟨D, ⟨es, clock, hk.trans hb, F, hs, hD⟩, hM, hS⟩
theorem SeenMapS.lt {w : World} {bm n : Nat} {S : Nat → Bool} (h : SeenMapS w bm n S) : bm < w.heap.size := by
  obtain ⟨D, hD, _⟩ := h; exact hD.lt
end Go.Proofs.YtlpfglkopnmlnaaDoor
namespace Go.Proofs.YtlpfglkopnmlnaaDoor
open Go.RowKit Go.Shelf
theorem SeenMapS.isMap {w : World} {bm n : Nat} {S : Nat → Bool} (h : SeenMapS w bm n S) : ∃ es c, w.heap[bm]? = some (.map es c) := by
  obtain ⟨D, ⟨es, clock, hb, _⟩, _⟩ := h
  exact ⟨es, clock, hb⟩
section
variable {J : Blocks → List (Nat × Value) → World → Prop} {n₀ : Nat} {X0 : Blocks} {W : World} {bm b6 b7 i : Nat} {B : Steps} {pre : List (Nat × Value)} {X : Blocks} {g cap : Nat} {wr : World}
end
end Go.Proofs.YtlpfglkopnmlnaaDoor
namespace Go.Proofs.YtlpfglkopnmlnaaDoor
open Go.RowKit Go.Shelf
/-- Two lists, just laid one beside the other; three. -/
theorem LRows.below {w w' : World} {g n : Nat} {vs : Nat → Value} {ls : List (List Int)} (h : LRows w g n vs ls) (hb : Below w.heap.size w w') : LRows w' g n vs ls :=
  ⟨h.1, fun i hi => ⟨(hb.cell (p := ⟨g, i, none⟩) (World.block_lt_of_cell? _ _ (h.2 i hi).1)).trans (h.2 i hi).1, (h.2 i hi).2.below hb⟩⟩
def vs2 (a b : Value) (i : Nat) : Value := if i = 0 then a else b
theorem lrows2 {W : World} {v1 v2 : Value} {l1 l2 : List Int} {t : TypeId} {k : Nat} (hk : k = W.heap.size) (h1 : Room W v1 l1) (h2 : Room W v2 l2) : LRows (W.alloc (.cells #[v1, v2] t)) k 2 (vs2 v1 v2) [l1, l2] := by
  subst hk
  refine ⟨rfl, fun i hi => ?_⟩
  have h3 : i = 0 ∨ i = 1 := by omega
  rcases h3 with rfl | rfl
  · exact ⟨by simp [vs2], h1.below (bal (Below.refl _ _) _)⟩
  · exact ⟨by simp [vs2], h2.below (bal (Below.refl _ _) _)⟩
end Go.Proofs.YtlpfglkopnmlnaaDoor
