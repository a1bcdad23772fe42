/-
  Texts that the proof of the law stands on: Tb, E1, E10, Later, E15, G5, H4, Y7, Y8, Y10, Y40, Y17, Y41, MApp, U6, Y42, U7, U8, U9, Z1, U10, U2, Z10, R9, Z2, Z20, Z22, Z24, Z26, Z30, Z47, U3, Y15, L4, G6.
-/
import Derived.Test.YtphpablchlpagaaDoorDaB
import Derived.BigQuiet
import Derived.Deep.QuietTactic
import Derived.Deep.DeepMust
import Derived.Deep.RegionHeld3
import Derived.Deep.AppendLies
import Derived.Deep.RegionLaw
import Derived.Maps.AppendAt
import Derived.Deep.RegionHeld
import Derived.Deep.CutRange
set_option linter.unusedVariables false
set_option linter.unusedSimpArgs false
namespace Go.Proofs.YtphpablchlpagaaDoor
open Go.RowKit Go.Shelf
/-- The value v is a list of k rows; row p lies in block B p and holds f p 0, .., f p (n - 1). -/
structure Tbl (W : World) (n₀ : Nat) (v : Value) (n k : Nat) (B : Nat → Nat) (f : Nat → Nat → Int) : Prop where
  outer : W.ownsRow n₀ 34 1 v k ((List.range k).map fun p => .slice (some ⟨B p, 0, none⟩) n n)
  inner : ∀ p, p < k → W.ownsRow n₀ 3 1 (.slice (some ⟨B p, 0, none⟩) n n) n ((Lf n (f p)).map fun x => .int .i64 x)
  apart : ∀ p, p < k → v.ownBlock ≠ some (B p)
  inj : ∀ p q, p < k → q < k → B p = B q → p = q
section
variable {W W' : World} {n₀ n k : Nat} {v : Value} {B : Nat → Nat} {f : Nat → Nat → Int}
theorem Tbl.kept (h : Tbl W n₀ v n k B f) (hk : ∀ b, n₀ ≤ b → b < W.heap.size → W'.heap[b]? = W.heap[b]?) : Tbl W' n₀ v n k B f :=
  ⟨owns_kept h.outer hk, fun p hp => owns_kept (h.inner p hp) hk, h.apart, h.inj⟩
theorem Tbl.below (h : Tbl W n₀ v n k B f) (hb : Below W.heap.size W W') : Tbl W' n₀ v n k B f := h.kept fun b _ hs => hb.block b hs
theorem Tbl.congr {g : Nat → Nat → Int} (h : Tbl W n₀ v n k B f) (e : ∀ p q, p < k → q < n → f p q = g p q) : Tbl W n₀ v n k B g :=
  ⟨h.outer, fun p hp => by rw [← Lf_congr (n := n) (f := f p) (g := g p) fun q hq => e p q hp hq]; exact h.inner p hp, h.apart, h.inj⟩
/-- One row more. -/
theorem Tbl.push {v' : Value} {b : Nat} (h : Tbl W n₀ v n k B f) (ho : W'.ownsRow n₀ 34 1 v' (k + 1) (((List.range k).map fun p => .slice (some ⟨B p, 0, none⟩) n n) ++ [.slice (some ⟨b, 0, none⟩) n n]))
    (hr : W'.ownsRow n₀ 3 1 (.slice (some ⟨b, 0, none⟩) n n) n ((Lf n (f k)).map fun x => .int .i64 x)) (hk : ∀ c, n₀ ≤ c → c < W.heap.size → v.ownBlock ≠ some c → W'.heap[c]? = W.heap[c]?)
    (hv : ∀ p, p < k → v'.ownBlock ≠ some (B p)) (hvb : v'.ownBlock ≠ some b) (hb : ∀ p, p < k → B p ≠ b) : Tbl W' n₀ v' n (k + 1) (fun p => if p = k then b else B p) f := by
  have hne : ∀ p, p < k → p ≠ k := fun p hp => by omega
  refine ⟨?_, fun p hp => ?_, fun p hp => ?_, fun p q hp hq e => ?_⟩
  · refine cast ?_ ho
    congr 1
    rw [List.range_succ, List.map_append]
    congr 1
    · refine List.map_congr_left fun p hp => ?_
      rw [if_neg (hne p (List.mem_range.1 hp))]
    · simp
  · by_cases e : p = k
    · subst e; simp only [if_true]; exact hr
    · simp only [if_neg e]
      have hp' : p < k := by omega
      obtain ⟨h1, h2⟩ := h.inner p hp'
      refine ⟨h1, ?_⟩
      rcases h2 with h2 | ⟨g, cap, cur, hv2, hB, hh, r⟩
      · exact .inl h2
      · have hg : g = B p := by
          simp only [Value.slice.injEq, Option.some.injEq, Addr.mk.injEq, and_true, true_and] at hv2
          exact hv2.1.symm
        exact .inr ⟨g, cap, cur, hv2, hB, by rw [hk g hB (lt_of_block hh) (by rw [hg]; exact h.apart p hp')]; exact hh, r⟩
  · by_cases e : p = k
    · subst e; simp only [if_true]; exact hvb
    · simp only [if_neg e]; exact hv p (by omega)
  · by_cases e1 : p = k <;> by_cases e2 : q = k
    · omega
    · simp only [if_pos e1, if_neg e2] at e; exact absurd e.symm (hb q (by omega))
    · simp only [if_neg e1, if_pos e2] at e; exact absurd e (hb p (by omega))
    · simp only [if_neg e1, if_neg e2] at e; exact h.inj p q (by omega) (by omega) e
/-- .. by an append whose element was boxed. -/
theorem Tbl.pushed {w5 : World} {v' : Value} {b : Nat} {o : Obj} (h : Tbl W n₀ v n k B f) (hr : W.ownsRow n₀ 3 1 (.slice (some ⟨b, 0, none⟩) n n) n ((Lf n (f k)).map fun x => .int .i64 x))
    (hvb : v.ownBlock ≠ some b) (hb : ∀ p, p < k → B p ≠ b)
    (hown : w5.ownsRow n₀ 34 1 v' (k + 1) (((List.range k).map fun p => .slice (some ⟨B p, 0, none⟩) n n) ++ [.slice (some ⟨b, 0, none⟩) n n])) (hgrow : (W.alloc o).grownBy w5 v.ownBlock)
    (hat : v'.ownBlock = v.ownBlock ∨ v'.ownBlock = some (W.alloc o).heap.size) : Tbl w5 n₀ v' n (k + 1) (fun p => if p = k then b else B p) f := by
  have hbl := ownq_lt hr
  refine h.push hown ((hr.alloc o).kept hgrow (.inr fun e => hvb (by simpa [Value.ownBlock] using e.symm))) (fun c _ hc hne => ?_) (fun p hp e => ?_) (fun e => ?_) hb
  · rw [hgrow.block c (by simp; omega) (fun e => hne e.symm)]
    exact Below.heap_alloc _ _ _ hc
  · have := (ownq_lt (h.inner p hp)).2
    rcases hat with e2 | e2
    · exact h.apart p hp (e2 ▸ e)
    · rw [e2] at e
      simp at e
      omega
  · rcases hat with e2 | e2
    · exact hvb (e2 ▸ e)
    · rw [e2] at e
      simp at e
      omega
variable {g c : Nat}
theorem Tbl.cell (h : Tbl W n₀ (.slice (some ⟨g, 0, none⟩) k c) n k B f) {p : Nat} (hp : p < k) : W.cell? ⟨g, p, none⟩ = some (.slice (some ⟨B p, 0, none⟩) n n) := by
  rw [h.outer.cellAt p (by omega)]
  simp [List.getElem?_map, List.getElem?_range hp]
/-- A number is stored. -/
theorem Tbl.set (h : Tbl W n₀ v n k B f) {p q : Nat} (hp : p < k) (x : Int) : Tbl (W.setCell ⟨B p, q, none⟩ (.int .i64 x)) n₀ v n k B (fun a b => if a = p ∧ b = q then x else f a b) := by
  obtain ⟨h1, h2⟩ := (h.inner p hp).stored q (.int .i64 x)
  refine ⟨h.outer.kept h2 (.inr (h.apart p hp)), fun a ha => ?_, h.apart, h.inj⟩
  by_cases e : a = p
  · subst e
    rw [← List.map_set (f := fun x => Value.int .i64 x), Lf_set] at h1
    refine cast ?_ h1
    congr 2
    exact Lf_congr fun i _ => by simp
  · have : (Lf n fun b => if a = p ∧ b = q then x else f a b) = Lf n (f a) := Lf_congr fun i _ => by rw [if_neg (fun h => e h.1)]
    rw [show (fun b => if a = p ∧ b = q then x else f a b) = fun b => (fun a b => if a = p ∧ b = q then x else f a b) a b from rfl] at this
    rw [this]
    refine (h.inner a ha).kept h2 (.inr ?_)
    intro e2
    simp only [Value.ownBlock, Option.some.injEq] at e2
    exact e (h.inj a p ha hp e2)
end
/-- The reference's table within round k + 1: the pairs before (p, q) are done. -/
def mixT (m : List (List Int)) (k p q a b : Nat) : Int := if a < p ∨ (a = p ∧ b < q) then mlenAt m (k + 1) a b else mlenAt m k a b
theorem mixT_step (m : List (List Int)) (k p q a b : Nat) : mixT m k p (q + 1) a b = if a = p ∧ b = q then mlenAt m (k + 1) p q else mixT m k p q a b := by
  unfold mixT
  by_cases e : a = p ∧ b = q
  · rw [if_pos e, if_pos (by omega), e.1, e.2]
  · rw [if_neg e]
    by_cases e2 : a < p ∨ (a = p ∧ b < q)
    · rw [if_pos e2, if_pos (by omega)]
    · rw [if_neg e2, if_neg (by omega)]
theorem mixT_row (m : List (List Int)) {n k p a b : Nat} (hb : b < n) : mixT m k p n a b = mixT m k (p + 1) 0 a b := by
  unfold mixT
  by_cases e2 : a < p ∨ (a = p ∧ b < n)
  · rw [if_pos e2, if_pos (by omega)]
  · rw [if_neg e2, if_neg (by omega)]
end Go.Proofs.YtphpablchlpagaaDoor
namespace Go.Proofs.YtphpablchlpagaaDoor
open Go.RowKit Go.Shelf
/-- Within round k + 1, before the pair (p, q): whether something has changed. -/
def moreB (m : List (List Int)) (k p q : Nat) (b : Bool) : Prop :=
  (b = true → ∃ a c, a < m.length ∧ c < m.length ∧ mdist m a c (k + 1)) ∧ (b = false → ∀ a c, a < m.length → c < m.length → mixT m k p q a c = mlenAt m k a c)
theorem moreB.same {m : List (List Int)} {k p q : Nat} {b : Bool} (h : moreB m k p q b) (hs : mlenAt m (k + 1) p q = mlenAt m k p q) : moreB m k p (q + 1) b := by
  refine ⟨h.1, fun hb a c ha hc => ?_⟩
  rw [mixT_step]
  by_cases e : a = p ∧ c = q
  · rw [if_pos e, hs, e.1, e.2]
  · rw [if_neg e]; exact h.2 hb a c ha hc
theorem moreB.row {m : List (List Int)} {k p : Nat} {b : Bool} (h : moreB m k p m.length b) : moreB m k (p + 1) 0 b :=
  ⟨h.1, fun hb a c ha hc => by rw [← mixT_row m hc]; exact h.2 hb a c ha hc⟩
end Go.Proofs.YtphpablchlpagaaDoor
namespace Go.Proofs.YtphpablchlpagaaDoor
open Go.RowKit Go.Shelf
/-- The pairs (p, d) with d below q that are never merged; those of all first states below p. -/
def apartRow (m : List (List Int)) (p q : Nat) : List (Nat × Nat) := ((List.range q).filter fun d => decide (p < d) && decide (mlen m p d < 0)).map fun d => (p, d)
def apartAll (m : List (List Int)) (p : Nat) : List (Nat × Nat) := (List.range p).flatMap fun a => apartRow m a m.length
/-- The pairs that no word merges. -/
def apartL (m : List (List Int)) : List (Nat × Nat) := apartAll m m.length
theorem apartRow_succ (m : List (List Int)) (p q : Nat) : apartRow m p (q + 1) = apartRow m p q ++ (if p < q ∧ mlen m p q < 0 then [(p, q)] else []) := by
  unfold apartRow
  rw [List.range_succ, List.filter_append, List.map_append]
  congr 1
  by_cases h : p < q ∧ mlen m p q < 0
  · rw [if_pos h]; simp [h.1, h.2]
  · rw [if_neg h]
    by_cases h1 : p < q
    · have h2 : ¬ mlen m p q < 0 := fun e => h ⟨h1, e⟩
      simp [h1, h2]
    · simp [h1]
theorem apartRow_start (m : List (List Int)) (p q : Nat) (h : q ≤ p + 1) : apartRow m p q = [] := by
  unfold apartRow
  rw [List.map_eq_nil_iff, List.filter_eq_nil_iff]
  intro d hd
  have := List.mem_range.1 hd
  have h2 : ¬ p < d := by omega
  simp [h2]
theorem apartAll_succ (m : List (List Int)) (p : Nat) : apartAll m (p + 1) = apartAll m p ++ apartRow m p m.length := by
  unfold apartAll
  rw [List.range_succ, List.flatMap_append]
  simp
theorem apartRow_len (m : List (List Int)) (p q : Nat) : (apartRow m p q).length ≤ q := by
  unfold apartRow
  rw [List.length_map]
  have := List.length_filter_le (fun d => decide (p < d) && decide (mlen m p d < 0)) (List.range q)
  simpa using this
theorem apartAll_len (m : List (List Int)) : ∀ p, (apartAll m p).length ≤ p * m.length
  | 0 => by simp [apartAll]
  | p + 1 => by
    have h1 := apartAll_len m p
    have h2 := apartRow_len m p m.length
    rw [apartAll_succ, List.length_append, Nat.succ_mul]
    omega
theorem apartL_mem {m : List (List Int)} {e : Nat × Nat} : e ∈ apartL m ↔ e.1 < e.2 ∧ e.2 < m.length ∧ mlen m e.1 e.2 < 0 := by
  unfold apartL apartAll apartRow
  simp only [List.mem_flatMap, List.mem_range, List.mem_map, List.mem_filter, Bool.and_eq_true, decide_eq_true_eq]
  constructor
  · rintro ⟨a, ha, d, ⟨hd, h1, h2⟩, rfl⟩
    exact ⟨h1, hd, h2⟩
  · rintro ⟨h1, h2, h3⟩
    exact ⟨e.1, by omega, e.2, ⟨h2, h1, h3⟩, rfl⟩
/-- No pairs, and an error. -/
theorem infoArr : (Tryd.prog.info? 74).map (fun i => (i.zero, i.size, i.bytes)) = some (some (.agg #[.int .i64 0, .int .i64 0]), 2, 16) := by kernel_rfl
/-- A list of pairs of the call's own, and no error. -/
def PairsIs (w : World) (L : List (Nat × Nat)) (e : Ending) (w' : World) : Prop := ∃ r, e = .returned (.tuple #[r, .int .i64 0]) ∧ w'.ownsRow w.heap.size 74 2 r L.length (pairCells L) ∧ Below w.heap.size w w'
/-- Behind an append of a pair to a row of the call's own. -/
theorem pairs_pushed2 {w w2 wr w5 : World} {n : Nat} {v bx : Value} {t : TypeId} {xs : List Value} {o : Obj} (hB2 : Below w.heap.size w w2) (hB : Below w2.heap.size w2 wr) (hbx : wr.cell? ⟨w.heap.size, 0, none⟩ = some bx) (hO : wr.ownsRow w2.heap.size t 2 v n xs) (hgrow : (wr.alloc o).grownBy w5 v.ownBlock) (hlt2 : w.heap.size < w2.heap.size) :
    Below w2.heap.size w2 w5 ∧ w5.cell? ⟨w.heap.size, 0, none⟩ = some bx := by
  have hlt := fun k hk => (hO.lt k hk).1
  have k3 := World.block_lt_of_cell? _ _ hbx
  simp only at k3
  exact ⟨(bal hB o).grown hgrow (by have := hB.size; simp; omega) (fun k hk => by have := hlt k hk; omega),
    (World.cell?_of_block (a := ⟨w.heap.size, 0, none⟩) ((hgrow.block w.heap.size (by simp; omega) (fun e => by have := hlt _ e.symm; omega)).trans (Below.heap_alloc _ _ _ k3))).trans hbx⟩
set_option maxRecDepth 100000 in
set_option maxHeartbeats 4000000 in
theorem Apart_ok (v : Value) (m : List (List Int)) (w : World) (h : Rows w v m) (hv : validM m = true) :
    Calls Tryd.prog 34 #[.agg #[v]] w (PairsIs w (apartL m)) := by
  obtain ⟨i0, hi, hz0, hz1, hz2⟩ := info_parts infoArr
  obtain ⟨p1, p2, -⟩ := valid_parts hv
  obtain ⟨A, cap, rfl, hml, -⟩ := id h
  have hX := bal (Below.refl _ w) (.cells #[.slice A m.length cap] 24)
  have hbx := (Boxed.new w 24 (.slice A m.length cap)).cell
  have hXs : (w.alloc (.cells #[.slice A m.length cap] 24)).heap.size = w.heap.size + 1 := World.size_alloc _ _
  go_enter Tryd.func34, Tryd.ntmps34
  go_wp2_with fail
  generalize w.alloc (.cells #[.slice A m.length cap] 24) = X at *
  have hr := h.below hX
  refine (Valid_bool _ m true _ hr hv).mono ?_
  rintro e w1 ⟨rfl, h1⟩
  have e0 := (h1.cell (p := ⟨w.heap.size, 0, none⟩) (World.block_lt_of_cell? _ _ hbx)).trans hbx
  have hr1 := hr.below h1
  have HX := hid (btr hX h1)
  clear hbx hr hX h1
  go_wp2_with fail
  refine (mergers_any _ m _ hr1 hv).mono ?_
  rintro e w2 ⟨B, rfl, hL, h2⟩
  have e1 := (h2.cell (p := ⟨w.heap.size, 0, none⟩) (World.block_lt_of_cell? _ _ e0)).trans e0
  have hB2 := btr HX.out h2
  have Hask := hid (fun (p q : Nat) (w' : World) (hb : Below w2.heap.size w2 w') (hpq : p < q) (hq : q < m.length) => (hL.below hb).ask hv (Nat.le_of_lt hpq) hq)
  have HBB := hid hB2
  have hl2 := World.block_lt_of_cell? _ _ e1
  simp only at hl2
  clear e0 hr1 hL h2 HX hXs
  go_wp2_with fail
  go_loopw [4, 18] (fun lv pv wr => ∃ p : Nat, p ≤ m.length ∧ pv = .int .i64 (p : Nat) ∧ wr.ownsRow w2.heap.size 74 2 lv (apartAll m p).length (pairCells (apartAll m p)) ∧ Below w2.heap.size w2 wr ∧ wr.cell? ⟨w.heap.size, 0, none⟩ = some (.slice A m.length cap)) (fun _ pv _ => m.length - (intOf pv).toNat)
  case atStart => exact ⟨0, Nat.zero_le _, rfl, World.ownsRow_nil _ _ _ _, Below.refl _ _, e1⟩
  case round =>
    clear e1
    obtain ⟨p, hp, rfl, hO, hB, hbx⟩ := hrel
    have hmm60 : m.length * m.length ≤ 3600 := Nat.mul_le_mul (show m.length ≤ 60 by omega) (show m.length ≤ 60 by omega)
    by_cases hpl : p < m.length
    · have hps : (p : Int) < m.length := by omega
      have HO := hid hO
      clear hO
      have hlen := apartAll_len m p
      have hlen2 := Nat.mul_le_mul_right m.length (show p ≤ m.length by omega)
      obtain ⟨wo, rfl⟩ : ∃ wo : World, wo = wr := ⟨_, rfl⟩
      go_wp2_with fail
      go_loopw [4, 7] (fun lv qv wr => ∃ (q : Nat) (Lr : List (Nat × Nat)), p + 1 ≤ q ∧ q ≤ m.length ∧ qv = .int .i64 (q : Nat) ∧ Lr = apartAll m p ++ apartRow m p q ∧ wr.ownsRow w2.heap.size 74 2 lv Lr.length (pairCells Lr) ∧ Below w2.heap.size w2 wr ∧ wr.cell? ⟨w.heap.size, 0, none⟩ = some (.slice A m.length cap)) (fun _ qv _ => m.length - (intOf qv).toNat)
      case atStart => exact ⟨p + 1, apartAll m p, Nat.le_refl _, by omega, by go_num, by rw [apartRow_start m p (p + 1) (Nat.le_refl _), List.append_nil], HO.out, hB, hbx⟩
      case round =>
        clear HO hB hbx
        obtain ⟨q, Lr, hpq, hq, rfl, hLr, hO, hB, hbx⟩ := hrel
        by_cases hql : q < m.length
        · have hqs : (q : Int) < m.length := by omega
          have hask := Hask.out p q wr hB (by omega) hql
          have hrow := apartRow_succ m p q
          have hrl := apartRow_len m p q
          have hLl : Lr.length ≤ 7200 := by rw [hLr, List.length_append]; omega
          have hlb := hB.size
          by_cases hneg : 0 ≤ mlen m p q
          · rw [decide_eq_true hneg] at hask
            rw [if_neg (by omega), List.append_nil] at hrow
            have HLr := hid (show Lr = apartAll m p ++ apartRow m p (q + 1) from by rw [hrow]; exact hLr)
            have HO := hid hO
            clear hO hrow hLr hneg
            generalize len0 m p q = z at *
            go_wp2_with fail
            go_roundw
            case rel => exact ⟨q + 1, Lr, by omega, by omega, by go_num, HLr.out, HO.out, hB, hbx⟩
            case measure => simp [intOf]; omega
          · rw [decide_eq_false hneg] at hask
            rw [if_pos (by omega)] at hrow
            have HLr := hid (show Lr ++ [(p, q)] = apartAll m p ++ apartRow m p (q + 1) from by rw [hrow, hLr, List.append_assoc])
            have HO := hid (hO.alloc (.cells #[.int .i64 p, .int .i64 q] 74))
            have Hp := hid (fun (w5 : World) (o : Obj) (hgrow : (wr.alloc o).grownBy w5 u4.ownBlock) => pairs_pushed2 HBB.out hB hbx hO hgrow hl2)
            clear hO hrow hLr hneg
            generalize len0 m p q = z at *
            go_wp2_with (at_builtin; refine wpList_append_own_at _ rfl _ _ 49 rfl w2.heap.size 74 i0 (.agg #[.int .i64 0, .int .i64 0]) 2 16 Tryd.underlying49 hi hz0 hz1 hz2 rfl (by decide) _ _ _ rfl HO.out ⟨wr.heap.size, 0, none⟩ 1 1 [.int .i64 p, .int .i64 q] rfl rfl (pair_new _ _ _ _ _ rfl) (by simp [Value.oneCell']) (by unfold maxLen; omega) (by omega) (by simp; omega) ?_; intro v' w5 hown' hgrow' _ hat; have HP := hid (Hp.out w5 _ hgrow'); have HN := hid hown'; clear hown' hgrow' hat)
            go_roundw
            case rel =>
              obtain ⟨f1, f2⟩ := HP.out
              refine ⟨q + 1, Lr ++ [(p, q)], by omega, by omega, by go_num, HLr.out, ?_, f1, f2⟩
              rw [List.length_append, pairCells_snoc]
              exact HN.out
            case measure => simp [intOf]; omega
        · obtain rfl : q = m.length := by omega
          have hqs : ¬ ((m.length : Nat) : Int) < m.length := by omega
          have HO := hid (show wr.ownsRow w2.heap.size 74 2 u4 (apartAll m (p + 1)).length (pairCells (apartAll m (p + 1))) from by rw [apartAll_succ, ← hLr]; exact hO)
          clear hO hLr
          go_wp2_with fail
          go_roundw
          case rel => exact ⟨p + 1, by omega, by go_num, HO.out, hB, hbx⟩
          case measure => simp [intOf]; omega
    · obtain rfl : p = m.length := by omega
      have hps : ¬ ((m.length : Nat) : Int) < m.length := by omega
      have HO := hid hO
      have HF := hid (btr HBB.out hB)
      clear hO
      go_wp2_with fail
      go_ret2
      exact ⟨_, rfl, row_mono HO.out HBB.out.size, HF.out⟩
end Go.Proofs.YtphpablchlpagaaDoor
namespace Go.Proofs.YtphpablchlpagaaDoor
open Go.RowKit
/-- A world behind another one: memory has been added. -/
structure LaterW (y : World) where
  world : World
  below : Below y.heap.size y world
instance (y : World) : Nonempty (LaterW y) := ⟨⟨y, Below.refl _ _⟩⟩
end Go.Proofs.YtphpablchlpagaaDoor
namespace Go.Proofs.YtphpablchlpagaaDoor
open Go.RowKit Go.Shelf
theorem apartL_nil {m : List (List Int)} (hv : validM m = true) : apartL m = [] ↔ allMerge m := by
  constructor
  · intro h p q hpq hq
    rcases mlen_spec hv (p := p) (q := q) (by omega) hq with ⟨h1, _⟩ | ⟨j, _, _, h3⟩
    · have : (p, q) ∈ apartL m := apartL_mem.2 ⟨hpq, hq, by simp only; omega⟩
      rw [h] at this
      cases this
    · exact ⟨j, h3.1⟩
  · intro h
    rw [List.eq_nil_iff_forall_not_mem]
    intro e he
    obtain ⟨h1, h2, h3⟩ := apartL_mem.1 he
    obtain ⟨k, hk⟩ := h e.1 e.2 h1 h2
    obtain ⟨j, _, hd⟩ := mdist_some hk
    rw [mlen_of hv (by omega) h2 hd] at h3
    omega
end Go.Proofs.YtphpablchlpagaaDoor
namespace Go.Proofs.YtphpablchlpagaaDoor
open Go.RowKit Go.Shelf
def Lb (n : Nat) (f : Nat → Bool) : List Bool := (List.range n).map f
theorem Lb_len (n : Nat) (f : Nat → Bool) : (Lb n f).length = n := by simp [Lb]
theorem Lb_congr {n : Nat} {f g : Nat → Bool} (h : ∀ i, i < n → f i = g i) : Lb n f = Lb n g := List.map_congr_left fun i hi => h i (List.mem_range.1 hi)
theorem Lb_set {n : Nat} (f : Nat → Bool) (s : Nat) (v : Bool) : (Lb n f).set s v = Lb n (fun i => if i = s then v else f i) := by
  apply List.ext_getElem
  · simp [Lb]
  · intro i h1 h2
    rw [List.getElem_set]
    by_cases e : s = i
    · subst e; simp [Lb]
    · rw [if_neg e]; simp [Lb, Ne.symm e]
theorem Lb_cell {n : Nat} (f : Nat → Bool) {i : Nat} (hi : i < n) : ((Lb n f).map fun x => Value.bool x)[i]? = some (.bool (f i)) := by
  simp [Lb, List.getElem?_map, List.getElem?_range hi]
section
variable {W W' : World} {n₀ g n k : Nat} {B : Nat → Nat} {f : Nat → Nat → Bool}
end
end Go.Proofs.YtphpablchlpagaaDoor
namespace Go.Proofs.YtphpablchlpagaaDoor
open Go.RowKit Go.Shelf
/-- A list that came in or was made: if it is nil it has no room. -/
def Room (w : World) (v : Value) (l : List Int) : Prop := ∃ A c, v = .slice A l.length c ∧ (A = none → c = 0) ∧ Ints w v l
theorem Room.below {w w' : World} {v : Value} {l : List Int} (h : Room w v l) (hb : Below w.heap.size w w') : Room w' v l := by
  obtain ⟨A, c, h1, h2, h3⟩ := h
  exact ⟨A, c, h1, h2, h3.below hb⟩
end Go.Proofs.YtphpablchlpagaaDoor
namespace Go.Proofs.YtphpablchlpagaaDoor
open Go.RowKit Go.Shelf Go.Maps Go.WideAt
theorem keyIntS : Keyed Tryd.prog 61 := int_keyed Tryd.underlying61
/-- A map from numbers to bools that reads as a set. -/
def SeenMapS (w : World) (bm n : Nat) (S : Nat → Bool) : Prop :=
  ∃ D : DataW Unit, w.ownsMap Tryd.prog 61 (plainElem Tryd.prog 4) bm n D ∧ IsMap D ∧ ∀ p : Nat, D.atKey (.int .u64 p) (.lit (.bool false)) = .lit (.bool (S p))
theorem SeenMapS.made (w : World) : SeenMapS (w.alloc (.map #[] 0)) w.heap.size 0 (fun _ => false) :=
  ⟨.map [], World.ownsMap_made w _ _ _, ⟨[], rfl⟩, fun p => rfl⟩
theorem SeenMapS.look {w : World} {bm n : Nat} {S : Nat → Bool} (h : SeenMapS w bm n S) (p : Nat) (hp : p < 1000000) : (Instr.lookup 86 (.map (some bm)) (.int .u64 p) false).run Tryd.prog w = .ok (.bool (S p)) w := by
  obtain ⟨D, hD, _, hS⟩ := h
  obtain ⟨v, ps, hrun, hv⟩ := hD.lookup keyIntS Tryd.underlying86 (zeroB w) (plainB false) (keyOf_int_mk Tryd.underlying61 (WalkArith.wf_u64 (by omega : 0 ≤ (p : Int) ∧ (p : Int) ≤ 18446744073709551615)))
  rw [hS p] at hv
  obtain ⟨b, rfl, hb⟩ := plainB_inv hv
  rw [hrun]
  simp only [DataW.lit.injEq, Lit.bool.injEq] at hb
  rw [hb]
theorem SeenMapS.put {w : World} {bm n : Nat} {S : Nat → Bool} (h : SeenMapS w bm n S) (hn : n < 1000000) (p : Nat) (hp : p < 1000000) : ∃ w', (Instr.mapUpdate 86 (.map (some bm)) (.int .u64 p) (.bool true)).run Tryd.prog w = .ok () w' ∧ SeenMapS w' bm (n + 1) (fun q => decide (q = p) || S q) ∧ w.grownBy w' (some bm) := by
  obtain ⟨D, hD, hM, hS⟩ := h
  obtain ⟨w', hrun, h1, h2⟩ := hD.update keyIntS Tryd.underlying86 (by unfold maxLen; omega) (keyOf_int_mk Tryd.underlying61 (WalkArith.wf_u64 (by omega : 0 ≤ (p : Int) ∧ (p : Int) ≤ 18446744073709551615))) (plainB true)
  refine ⟨w', hrun, ⟨_, h1, ?_, fun q => ?_⟩, h2⟩
  · obtain ⟨es, rfl⟩ := hM; exact ⟨_, rfl⟩
  · by_cases e : q = p
    · subst e
      rw [atKey_put_same hM (by trivial)]; simp
    · rw [atKey_put_other (by simp; omega), hS q]; simp [e]
theorem SeenMapS.kept {w w' : World} {bm n : Nat} {S : Nat → Bool} (h : SeenMapS w bm n S) (hk : w'.heap[bm]? = w.heap[bm]?) : SeenMapS w' bm n S := by
  obtain ⟨D, ⟨es, clock, hb, F, hs, hD⟩, hM, hS⟩ := h
  exact ⟨D, ⟨es, clock, hk.trans hb, F, hs, hD⟩, hM, hS⟩
theorem SeenMapS.lt {w : World} {bm n : Nat} {S : Nat → Bool} (h : SeenMapS w bm n S) : bm < w.heap.size := by
  obtain ⟨D, hD, _⟩ := h; exact hD.lt
end Go.Proofs.YtphpablchlpagaaDoor
namespace Go.Proofs.YtphpablchlpagaaDoor
open Go.RowKit Go.Shelf
/-- The cells of steps. -/
def flatBS (B : Steps) : List Value := B.flatMap fun t => [.int .u64 t.1, .int .i64 t.2.1, .int .i64 t.2.2]
theorem flatBS_snoc (B : Steps) (t : Int × Int × Int) : flatBS (B ++ [t]) = flatBS B ++ [.int .u64 t.1, .int .i64 t.2.1, .int .i64 t.2.2] := by simp [flatBS]
end Go.Proofs.YtphpablchlpagaaDoor
namespace Go.Proofs.YtphpablchlpagaaDoor
open Go.RowKit Go.Shelf
/-- What holds of a word's function when its round begins. -/
def WordGS (F : Steps) (X : Blocks) (x : Nat × Value) (W : World) : Prop :=
  ∃ b6 b7 g cap B base, x.2 = .func (.func 81) #[] #[.pointer (some ⟨b6, 0, none⟩), .pointer (some ⟨b7, 0, none⟩)] ∧ X b6 ∧ X b7 ∧ X g ∧
    Boxed W b6 104 (.slice (some ⟨g, 0, none⟩) B.length cap) ∧ Boxed W b7 3 (.int .i64 x.1) ∧
    W.ownsRow base 103 3 (.slice (some ⟨g, 0, none⟩) B.length cap) B.length (flatBS B) ∧ TreeB B ∧ x.1 < B.length ∧ B.length ≤ 5000 ∧ wordB B x.1 = wordB F x.1
theorem WordGS.keep {F : Steps} {X : Blocks} {x : Nat × Value} {n₀ : Nat} {W W' : World} (h : WordGS F X x W) (k : Keep n₀ X W W') : WordGS F X x W' := by
  obtain ⟨b6, b7, g, cap, B, base, h1, h2, h3, h4, h5, h6, h7, h8⟩ := h
  exact ⟨b6, b7, g, cap, B, base, h1, h2, h3, h4, (k.block b6 h5.lt (.inr h2)).trans h5, (k.block b7 h6.lt (.inr h3)).trans h6, owns_block h7 (k.block g (own_lt h7).2 (.inr h4)), h8⟩
/-- The map and the steps of a search. -/
structure MemS (base : Nat) (X : Blocks) (bm b6 g cap : Nat) (B : Steps) (W : World) : Prop where
  map : SeenMapS W bm B.length (hasP B)
  row : W.ownsRow base 103 3 (.slice (some ⟨g, 0, none⟩) B.length cap) B.length (flatBS B)
  box : Boxed W b6 104 (.slice (some ⟨g, 0, none⟩) B.length cap)
  xm : X bm
  xg : X g
  x6 : X b6
  lm : base ≤ bm
  l6 : base ≤ b6
theorem MemS.keep {base : Nat} {X : Blocks} {bm b6 g cap : Nat} {B : Steps} {W W' : World} {n₀ : Nat} (h : MemS base X bm b6 g cap B W) (k : Keep n₀ X W W') : MemS base X bm b6 g cap B W' :=
  ⟨h.map.kept (k.block bm h.map.lt (.inr h.xm)), owns_block h.row (k.block g (own_lt h.row).2 (.inr h.xg)), (k.block b6 h.box.lt (.inr h.x6)).trans h.box, h.xm, h.xg, h.x6, h.lm, h.l6⟩
theorem MemS.below {base : Nat} {X : Blocks} {bm b6 g cap : Nat} {B : Steps} {W W' : World} (h : MemS base X bm b6 g cap B W) (k : Below W.heap.size W W') : MemS base X bm b6 g cap B W' := h.keep (Keep.of_below (n₀ := 0) k)
theorem MemS.drew {base : Nat} {X : Blocks} {bm b6 g cap : Nat} {B : Steps} {W : World} (h : MemS base X bm b6 g cap B W) : MemS base X bm b6 g cap B W.drew := h.below (below_dr W 1)
theorem SeenMapS.isMap {w : World} {bm n : Nat} {S : Nat → Bool} (h : SeenMapS w bm n S) : ∃ es c, w.heap[bm]? = some (.map es c) := by
  obtain ⟨D, ⟨es, clock, hb, _⟩, _⟩ := h
  exact ⟨es, clock, hb⟩
theorem MemS.apart {base : Nat} {X : Blocks} {bm b6 g cap : Nat} {B : Steps} {W : World} (h : MemS base X bm b6 g cap B W) : bm ≠ b6 ∧ bm ≠ g ∧ b6 ≠ g := by
  obtain ⟨es, c, hm⟩ := h.map.isMap
  refine ⟨fun e => ?_, fun e => ?_, fun e => ?_⟩
  · have h6 := h.box
    unfold Boxed at h6
    rw [← e, hm] at h6; cases h6
  · rcases h.row.2 with ⟨h', _⟩ | ⟨g', cap', cur, h', hB, hh, _⟩
    · cases h'
    · cases h'
      rw [← e, hm] at hh; cases hh
  · exact (h.box.not_row (by decide) h.row) (by rw [e]; rfl)
/-- A step more: the map first, then the row, then the variable. -/
theorem MemS.add {base : Nat} {X : Blocks} {bm b6 g cap g' cap' : Nat} {B : Steps} {p : Nat} {i x : Int} {W w3 w5 : World} {o : Obj} (h : MemS base X bm b6 g cap B W)
    (hm : SeenMapS w3 bm (B.length + 1) (fun q => decide (q = p) || hasP B q)) (hg3 : W.grownBy w3 (some bm))
    (hown : w5.ownsRow base 103 3 (.slice (some ⟨g', 0, none⟩) (B.length + 1) cap') (B.length + 1) (flatBS B ++ [.int .u64 p, .int .i64 i, .int .i64 x])) (hg5 : (w3.alloc o).grownBy w5 (some g)) (hat : g = g' ∨ g' = (w3.alloc o).heap.size) :
    MemS base (fun k => X k ∨ (W.heap.size ≤ k ∧ k < w5.heap.size)) bm b6 g' cap' (B ++ [((p : Int), i, x)]) (w5.setCell ⟨b6, 0, none⟩ (.slice (some ⟨g', 0, none⟩) (B.length + 1) cap')) ∧
      Turn (fun k => X k ∧ base ≤ k) W (w5.setCell ⟨b6, 0, none⟩ (.slice (some ⟨g', 0, none⟩) (B.length + 1) cap')) ∧ w5.heap.size = (w5.setCell ⟨b6, 0, none⟩ (.slice (some ⟨g', 0, none⟩) (B.length + 1) cap')).heap.size := by
  obtain ⟨a1, a2, a3⟩ := h.apart
  have s3 := hg3.size
  have s5 := hg5.size
  have hgl := own_lt h.row
  have hbl := h.box.lt
  have hml := h.map.lt
  have hs : (w3.alloc o).heap.size = w3.heap.size + 1 := by simp
  have hal : ∀ k, k < w3.heap.size → (w3.alloc o).heap[k]? = w3.heap[k]? := fun k hk => Below.heap_alloc w3 o k hk
  have hg'l := own_lt hown
  have hg'6 : g' ≠ b6 := by rcases hat with e | e <;> omega
  have box3 : Boxed w3 b6 104 (.slice (some ⟨g, 0, none⟩) B.length cap) := (hg3.block b6 hbl (by simpa using fun e => a1 e.symm)).trans h.box
  have box5 : Boxed w5 b6 104 (.slice (some ⟨g, 0, none⟩) B.length cap) := ((hg5.block b6 (by omega) (by simpa using a3)).trans (hal b6 (by omega))).trans box3
  have hoth : ∀ k, k ≠ b6 → (w5.setCell ⟨b6, 0, none⟩ (.slice (some ⟨g', 0, none⟩) (B.length + 1) cap')).heap[k]? = w5.heap[k]? := fun k hk => Below.heap_setCell _ _ _ _ (by simpa using hk)
  have hfun : (fun q => decide (q = p) || hasP B q) = hasP (B ++ [((p : Int), i, x)]) := by
    funext q
    rw [hasP_snoc, Bool.or_comm]
    congr 1
    by_cases e : q = p
    · subst e; simp
    · have : ((p : Int) == (q : Int)) = false := by simp; omega
      rw [this]; simp [e]
  rw [hfun] at hm
  refine ⟨⟨?_, ?_, ?_, .inl h.xm, ?_, .inl h.x6, h.lm, h.l6⟩, ⟨?_, ?_, ?_, ?_, fun k hk hX => ?_⟩, by simp [World.setCell]⟩
  · rw [List.length_append]
    exact hm.kept ((hoth bm a1).trans ((hg5.block bm (by omega) (by simpa using a2)).trans (hal bm (by omega))))
  · rw [List.length_append, flatBS_snoc]
    exact owns_block hown (hoth g' hg'6)
  · rw [List.length_append]
    exact box5.set _
  · rcases hat with e | e
    · rw [← e]; exact .inl h.xg
    · exact .inr ⟨by omega, hg'l.2⟩
  · exact hg5.os.trans hg3.os
  · exact hg5.tape.trans hg3.tape
  · exact hg5.output.trans hg3.output
  · simp [World.setCell]; omega
  · have k1 : k ≠ b6 := fun e => hX (e ▸ ⟨h.x6, h.l6⟩)
    have k2 : k ≠ bm := fun e => hX (e ▸ ⟨h.xm, h.lm⟩)
    have k3 : k ≠ g := fun e => hX (e ▸ ⟨h.xg, hgl.1⟩)
    rw [hoth k k1, hg5.block k (by omega) (by simpa using k3), hal k (by omega), hg3.block k hk (by simpa using k2)]
/-- Where a search stands. -/
structure SWS (J : Blocks → List (Nat × Value) → World → Prop) (n₀ : Nat) (X0 : Blocks) (W : World) (bm b6 b7 i : Nat) (B : Steps) (pre : List (Nat × Value)) (X : Blocks) (g cap : Nat) (wr : World) : Prop where
  mem : MemS W.heap.size X bm b6 g cap B wr
  ibox : Boxed wr b7 3 (.int .i64 i)
  x7 : X b7
  l7 : W.heap.size ≤ b7
  j : J X pre wr
  xlt : ∀ k, X k → k < wr.heap.size
  x0 : ∀ k, X0 k → X k
  kept : Keep n₀ X0 W wr
section
variable {J : Blocks → List (Nat × Value) → World → Prop} {n₀ : Nat} {X0 : Blocks} {W : World} {bm b6 b7 i : Nat} {B : Steps} {pre : List (Nat × Value)} {X : Blocks} {g cap : Nat} {wr : World}
theorem SWS.below (h : SWS J n₀ X0 W bm b6 b7 i B pre X g cap wr) (hJ : Minds J) {w' : World} (k : Below wr.heap.size wr w') : SWS J n₀ X0 W bm b6 b7 i B pre X g cap w' :=
  ⟨h.mem.below k, (k.block b7 h.ibox.lt).trans h.ibox, h.x7, h.l7, hJ X X _ _ _ h.j (Turn.of_below k) (fun _ h => .inl h), fun a ha => Nat.lt_of_lt_of_le (h.xlt a ha) k.size, h.x0, h.kept.trans (Keep.of_below k)⟩
theorem SWS.drew (h : SWS J n₀ X0 W bm b6 b7 i B pre X g cap wr) (hJ : Minds J) : SWS J n₀ X0 W bm b6 b7 i B pre X g cap wr.drew := h.below hJ (below_dr wr 1)
theorem SWS.round (h : SWS J n₀ X0 W bm b6 b7 i B pre X g cap wr) {pre' : List (Nat × Value)} {w' : World} (hj : J X pre' w') (k : Keep n₀ X wr w') : SWS J n₀ X0 W bm b6 b7 i B pre' X g cap w' :=
  ⟨h.mem.keep k, (k.block b7 h.ibox.lt (.inr h.x7)).trans h.ibox, h.x7, h.l7, hj, fun a ha => Nat.lt_of_lt_of_le (h.xlt a ha) k.size, h.x0, h.kept.trans (k.mono h.x0)⟩
theorem SWS.add (h : SWS J n₀ X0 W bm b6 b7 i B pre X g cap wr) (hJ : Minds J) (hn : n₀ ≤ W.heap.size) (h0 : ∀ k, X0 k → k < W.heap.size) {g' cap' p : Nat} {x : Int} {w3 w5 : World} {o : Obj}
    (hm : SeenMapS w3 bm (B.length + 1) (fun q => decide (q = p) || hasP B q)) (hg3 : wr.grownBy w3 (some bm))
    (hown : w5.ownsRow W.heap.size 103 3 (.slice (some ⟨g', 0, none⟩) (B.length + 1) cap') (B.length + 1) (flatBS B ++ [.int .u64 p, .int .i64 i, .int .i64 x])) (hg5 : (w3.alloc o).grownBy w5 (some g)) (hat : g = g' ∨ g' = (w3.alloc o).heap.size) :
    ∃ X', SWS J n₀ X0 W bm b6 b7 i (B ++ [((p : Int), (i : Int), x)]) pre X' g' cap' (w5.setCell ⟨b6, 0, none⟩ (.slice (some ⟨g', 0, none⟩) (B.length + 1) cap')) := by
  obtain ⟨m1, m2, m3⟩ := h.mem.add (i := (i : Int)) (x := x) hm hg3 hown hg5 hat
  have s3 := hg3.size
  have s5 := hg5.size
  have hs : (w3.alloc o).heap.size = w3.heap.size + 1 := by simp
  have h7l := h.ibox.lt
  obtain ⟨es, c, hmap⟩ := h.mem.map.isMap
  have k1 : b7 ≠ b6 := fun e => by
    have h6 := h.mem.box
    have h7 := h.ibox
    unfold Boxed at h6 h7
    rw [e, h6] at h7; cases h7
  have k2 : b7 ≠ bm := fun e => by
    have h7 := h.ibox
    unfold Boxed at h7
    rw [e, hmap] at h7; cases h7
  have k3 : some b7 ≠ (Value.slice (some ⟨g, 0, none⟩) B.length cap).ownBlock := h.ibox.not_row (by decide) h.mem.row
  refine ⟨_, ⟨m1, ?_, .inl h.x7, h.l7, hJ _ _ _ _ _ h.j (m2.mono fun k hk => hk.1) (fun k hk => hk.imp id (fun h => h.1)), fun k hk => ?_, fun k hk => .inl (h.x0 k hk), h.kept.trans (Keep.of_turn m2 hn h0)⟩⟩
  · have e1 : (w5.setCell ⟨b6, 0, none⟩ (.slice (some ⟨g', 0, none⟩) (B.length + 1) cap')).heap[b7]? = w5.heap[b7]? := Below.heap_setCell _ _ _ _ (by simpa using k1)
    exact e1.trans ((hg5.block b7 (by omega) k3).trans ((Below.heap_alloc w3 o b7 (by omega)).trans ((hg3.block b7 h7l (by simpa using k2)).trans h.ibox)))
  · rcases hk with hk | hk
    · have := h.xlt k hk; omega
    · omega
/-- The next round has a variable of its own. -/
theorem SWS.next (h : SWS J n₀ X0 W bm b6 b7 i B pre X g cap wr) (hJ : Minds J) {i' : Nat} : ∃ X', SWS J n₀ X0 W bm b6 wr.heap.size i' B pre X' g cap (wr.alloc (.cells #[.int .i64 i'] 3)) := by
  have hb : Below wr.heap.size wr (wr.alloc (.cells #[.int .i64 i'] 3)) := bal (Below.refl _ wr) _
  obtain ⟨a1, a2, a3, a4, a5, a6, a7, a8⟩ := h.mem.below hb
  have hW := h.kept.size
  exact ⟨fun k => X k ∨ k = wr.heap.size, ⟨⟨a1, a2, a3, .inl a4, .inl a5, .inl a6, a7, a8⟩, Boxed.new wr _ _, .inr rfl, hW, hJ _ _ _ _ _ h.j (Turn.of_below hb) (fun k hk => hk.imp id (fun e => Nat.le_of_eq e.symm)),
    fun k hk => by
      simp only [World.size_alloc]
      rcases hk with hk | hk
      · have := h.xlt k hk; omega
      · omega, fun k hk => .inl (h.x0 k hk), h.kept.trans (Keep.of_below hb)⟩⟩
theorem SWS.start (hJ : Minds J) (h0 : J X0 [] W) (hX0 : ∀ k, X0 k → k < W.heap.size) {w1 : World} {s : Nat} (hB1 : Below W.heap.size W w1) (hgs : W.heap.size < w1.heap.size) (hmap : SeenMapS w1 W.heap.size 1 (fun q => decide (q = s) || false)) :
    SWS J n₀ X0 W W.heap.size (w1.heap.size + 1) (w1.heap.size + 1 + 1) 0 [((s : Int), -1, 0)] [] (fun k => X0 k ∨ (W.heap.size ≤ k ∧ k < w1.heap.size + 3)) w1.heap.size 1
      (((w1.alloc (.cells #[.int .u64 s, .int .i64 (-1), .int .i64 0] 103)).alloc (.cells #[.slice (some ⟨w1.heap.size, 0, none⟩) 1 1] 104)).alloc (.cells #[.int .i64 0] 3)) := by
  have b1 : Below w1.heap.size w1 (((w1.alloc (.cells #[.int .u64 s, .int .i64 (-1), .int .i64 0] 103)).alloc (.cells #[.slice (some ⟨w1.heap.size, 0, none⟩) 1 1] 104)).alloc (.cells #[.int .i64 0] 3)) := bal (bal (bal (Below.refl _ w1) _) _) _
  have hBT := btr hB1 b1
  have hfun : (fun q => decide (q = s) || false) = hasP [((s : Int), -1, 0)] := by
    funext q
    by_cases e : q = s
    · subst e; simp [hasP]
    · have : ((s : Int) == (q : Int)) = false := by simp; omega
      simp [hasP, e, this]
  rw [hfun] at hmap
  have hrow := World.ownsRow_lit (base := W.heap.size) (e := 103) (size := 3) w1 #[.int .u64 s, .int .i64 (-1), .int .i64 0] 1 (by omega) (by decide) rfl
  have hrow3 := owns_block (w' := (((w1.alloc (.cells #[.int .u64 s, .int .i64 (-1), .int .i64 0] 103)).alloc (.cells #[.slice (some ⟨w1.heap.size, 0, none⟩) 1 1] 104)).alloc (.cells #[.int .i64 0] 3))) hrow ((bal (bal (Below.refl _ _) _) _).block _ (by simp))
  have q2 := (Boxed.new (w1.alloc (.cells #[.int .u64 s, .int .i64 (-1), .int .i64 0] 103)) 104 (.slice (some ⟨w1.heap.size, 0, none⟩) 1 1)).alloc (.cells #[.int .i64 0] 3)
  have q3 := Boxed.new ((w1.alloc (.cells #[.int .u64 s, .int .i64 (-1), .int .i64 0] 103)).alloc (.cells #[.slice (some ⟨w1.heap.size, 0, none⟩) 1 1] 104)) 3 (.int .i64 0)
  simp only [World.size_alloc] at q2 q3
  refine ⟨⟨hmap.kept (b1.block _ hgs), hrow3, q2, .inr ⟨Nat.le_refl _, by omega⟩, .inr ⟨by omega, by omega⟩, .inr ⟨by omega, by omega⟩, Nat.le_refl _, by omega⟩, q3, .inr ⟨by omega, by omega⟩, by omega, hJ _ _ _ _ _ h0 (Turn.of_below hBT) (fun k hk => hk.imp id (fun h => h.1)), fun k hk => ?_, fun k hk => .inl hk, Keep.of_below hBT⟩
  simp only [World.size_alloc]
  rcases hk with hk | hk
  · have := hX0 k hk; omega
  · omega
end
end Go.Proofs.YtphpablchlpagaaDoor
namespace Go.Proofs.YtphpablchlpagaaDoor
open Go.RowKit Go.Shelf
/-- The number of a set. -/
def codeL (l : List Bool) : Nat := l.foldl (fun n b => 2 * n + b.toNat) 0
theorem codeL_snoc (l : List Bool) (b : Bool) : codeL (l ++ [b]) = 2 * codeL l + b.toNat := by simp [codeL, List.foldl_append]
theorem take_snocB {l : List Bool} {k : Nat} (h : k < l.length) : l.take (k + 1) = l.take k ++ [l.getD k false] := by
  rw [List.take_succ_eq_append_getElem h]
  simp [List.getD_eq_getElem?_getD, List.getElem?_eq_getElem h]
theorem codeL_lt : ∀ (k : Nat) (l : List Bool), k ≤ l.length → codeL (l.take k) < 2 ^ k
  | 0, l, _ => by simp [codeL]
  | k + 1, l, h => by
    have ih := codeL_lt k l (by omega)
    rw [take_snocB (by omega), codeL_snoc, Nat.pow_succ]
    have : (l.getD k false).toNat ≤ 1 := by cases l.getD k false <;> decide
    omega
theorem codeL_inj : ∀ (k : Nat) (l m : List Bool), l.length = k → m.length = k → codeL l = codeL m → l = m
  | 0, l, m, h1, h2, _ => by rw [List.length_eq_zero_iff.1 h1, List.length_eq_zero_iff.1 h2]
  | k + 1, l, m, h1, h2, h => by
    have e1 := take_snocB (l := l) (k := k) (by omega)
    have e2 := take_snocB (l := m) (k := k) (by omega)
    rw [List.take_of_length_le (by omega)] at e1 e2
    rw [e1, e2, codeL_snoc, codeL_snoc] at h
    have hb : ∀ b c : Bool, ∀ x y : Nat, 2 * x + b.toNat = 2 * y + c.toNat → x = y ∧ b = c := fun b c x y h => by
      cases b <;> cases c <;> simp only [Bool.toNat_true, Bool.toNat_false] at h <;> first | exact ⟨by omega, rfl⟩ | omega
    obtain ⟨h3, h4⟩ := hb _ _ _ _ h
    have h5 := codeL_inj k (l.take k) (m.take k) (by simp; omega) (by simp; omega) h3
    rw [e1, e2, h5, h4]
/-- The truth values of a set; its number. -/
def bitL (n S : Nat) : List Bool := Lb n S.testBit
def codeN (n S : Nat) : Nat := codeL (bitL n S)
theorem bitL_len (n S : Nat) : (bitL n S).length = n := Lb_len _ _
theorem codeN_lt (n S : Nat) : codeN n S < 2 ^ n := by
  have := codeL_lt n (bitL n S) (by rw [bitL_len]; exact Nat.le_refl _)
  rwa [List.take_of_length_le (by rw [bitL_len]; exact Nat.le_refl _)] at this
theorem bitL_inj {n S T : Nat} (hS : S < 2 ^ n) (hT : T < 2 ^ n) (h : bitL n S = bitL n T) : S = T := by
  apply Nat.eq_of_testBit_eq
  intro i
  by_cases hi : i < n
  · have e := congrArg (fun l => l.getD i false) h
    simpa [bitL, Lb, List.getD_eq_getElem?_getD, List.getElem?_map, List.getElem?_range hi] using e
  · have hp : 2 ^ n ≤ 2 ^ i := Nat.pow_le_pow_right (by decide) (by omega)
    rw [Nat.testBit_lt_two_pow (by omega), Nat.testBit_lt_two_pow (by omega)]
theorem codeN_inj {n S T : Nat} (hS : S < 2 ^ n) (hT : T < 2 ^ n) (h : codeN n S = codeN n T) : S = T :=
  bitL_inj hS hT (codeL_inj n _ _ (bitL_len _ _) (bitL_len _ _) h)
end Go.Proofs.YtphpablchlpagaaDoor
namespace Go.Proofs.YtphpablchlpagaaDoor
open Go.RowKit Go.Shelf
section
variable {m : List (List Int)}
theorem full_lt (m : List (List Int)) : 2 ^ m.length - 1 < 2 ^ m.length := by have := Nat.two_pow_pos m.length; omega
end
end Go.Proofs.YtphpablchlpagaaDoor
namespace Go.Proofs.YtphpablchlpagaaDoor
open Go.RowKit Go.Shelf
/-- A slice of truth values, of numbers, in blocks of a kind. -/
def BoolsP (W : World) (P : Nat → Prop) (v : Value) (l : List Bool) : Prop :=
  ∃ A cap, v = .slice A l.length cap ∧ l.length ≤ big ∧ ∀ i, i < l.length → ∃ b off, A = some ⟨b, off, none⟩ ∧ P b ∧ W.cell? ⟨b, off + i, none⟩ = some (.bool (l.getD i false))
def IntsP (W : World) (P : Nat → Prop) (v : Value) (l : List Int) : Prop :=
  ∃ A cap, v = .slice A l.length cap ∧ (A = none → cap = 0) ∧ l.length ≤ big ∧ ∀ i, i < l.length → ∃ b off, A = some ⟨b, off, none⟩ ∧ P b ∧ W.cell? ⟨b, off + i, none⟩ = some (.int .i64 (l.getD i 0))
theorem IntsP.ints {W : World} {P : Nat → Prop} {v : Value} {l : List Int} (h : IntsP W P v l) : Ints W v l := by
  obtain ⟨A, cap, rfl, -, hl, hc⟩ := h
  exact ⟨A, cap, rfl, hl, fun i hi => by obtain ⟨b, off, h1, _, h2⟩ := hc i hi; exact ⟨b, off, h1, h2⟩⟩
theorem BoolsP.kept {W W' : World} {P P' : Nat → Prop} {v : Value} {l : List Bool} (h : BoolsP W P v l) (hk : ∀ b, P b → b < W.heap.size → W'.heap[b]? = W.heap[b]?) (hP : ∀ b, P b → b < W.heap.size → P' b) : BoolsP W' P' v l := by
  obtain ⟨A, cap, rfl, hl, hc⟩ := h
  refine ⟨A, cap, rfl, hl, fun i hi => ?_⟩
  obtain ⟨b, off, h1, h2, h3⟩ := hc i hi
  have hb : b < W.heap.size := World.block_lt_of_cell? _ _ h3
  exact ⟨b, off, h1, hP b h2 hb, (World.cell?_of_block (hk b h2 hb)).trans h3⟩
theorem IntsP.kept {W W' : World} {P P' : Nat → Prop} {v : Value} {l : List Int} (h : IntsP W P v l) (hk : ∀ b, P b → b < W.heap.size → W'.heap[b]? = W.heap[b]?) (hP : ∀ b, P b → b < W.heap.size → P' b) : IntsP W' P' v l := by
  obtain ⟨A, cap, rfl, h0, hl, hc⟩ := h
  refine ⟨A, cap, rfl, h0, hl, fun i hi => ?_⟩
  obtain ⟨b, off, h1, h2, h3⟩ := hc i hi
  have hb : b < W.heap.size := World.block_lt_of_cell? _ _ h3
  exact ⟨b, off, h1, hP b h2 hb, (World.cell?_of_block (hk b h2 hb)).trans h3⟩
/-- One set with its word. -/
def EltP (W : World) (P : Nat → Prop) (n : Nat) (vi vw : Value) (e : Nat × List Int) : Prop := BoolsP W P vi (bitL n e.1) ∧ IntsP W P vw e.2
theorem EltP.kept {W W' : World} {P P' : Nat → Prop} {n : Nat} {vi vw : Value} {e : Nat × List Int} (h : EltP W P n vi vw e) (hk : ∀ b, P b → b < W.heap.size → W'.heap[b]? = W.heap[b]?) (hP : ∀ b, P b → b < W.heap.size → P' b) : EltP W' P' n vi vw e :=
  ⟨h.1.kept hk hP, h.2.kept hk hP⟩
theorem EltP.one {W : World} {P : Nat → Prop} {n : Nat} {vi vw : Value} {e : Nat × List Int} (h : EltP W P n vi vw e) : vi.oneCell' = true ∧ vw.oneCell' = true := by
  obtain ⟨⟨A, c, rfl, _⟩, ⟨A', c', rfl, _⟩⟩ := h
  exact ⟨rfl, rfl⟩
/-- All blocks but one are as they were. -/
def KK (mb : Nat) (w w' : World) : Prop := w.heap.size ≤ w'.heap.size ∧ ∀ b, b < w.heap.size → b ≠ mb → w'.heap[b]? = w.heap[b]?
theorem KK.refl (mb : Nat) (w : World) : KK mb w w := ⟨Nat.le_refl _, fun _ _ _ => rfl⟩
theorem KK.trans {mb : Nat} {w w' w'' : World} (h : KK mb w w') (k : KK mb w' w'') : KK mb w w'' :=
  ⟨Nat.le_trans h.1 k.1, fun b hb hne => (k.2 b (Nat.lt_of_lt_of_le hb h.1) hne).trans (h.2 b hb hne)⟩
theorem KK.below {mb n₀ : Nat} {w w' : World} (h : Below n₀ w w') (hn : n₀ = w.heap.size) : KK mb w w' := by
  subst hn
  exact ⟨h.size, fun b hb _ => h.block b hb⟩
theorem KK.step {mb : Nat} {w w' w'' : World} (h : KK mb w w') (k : Below w'.heap.size w' w'') : KK mb w w'' := h.trans (KK.below k rfl)
theorem KK.set {mb o : Nat} {w w' : World} {u : Value} (h : KK mb w w') : KK mb w (w'.setCell ⟨mb, o, none⟩ u) :=
  ⟨by simp [World.setCell]; exact h.1, fun b hb hne => (Below.heap_setCell _ _ _ _ (by simpa using hne)).trans (h.2 b hb hne)⟩
theorem KK.grown {mb n₀ : Nat} {w w' w5 : World} {v : Option Nat} (h : KK mb w w') (hg : w'.grownBy w5 v) (hv : ∀ g, v = some g → w.heap.size ≤ g) : KK mb w w5 :=
  ⟨Nat.le_trans h.1 hg.size, fun b hb hne => (hg.block b (Nat.lt_of_lt_of_le hb h.1) (fun e => by have := hv b e.symm; omega)).trans (h.2 b hb hne)⟩
theorem KK.cell {mb : Nat} {w w' : World} {a : Addr} {u : Value} (h : KK mb w w') (hc : w.cell? a = some u) (hne : a.block ≠ mb) : w'.cell? a = some u :=
  (World.cell?_of_block (h.2 a.block (World.block_lt_of_cell? _ _ hc) hne)).trans hc
/-- A level: sets with their words; no block of it is mb. -/
def LvlAt (W : World) (mb n : Nat) (v : Value) (L : List (Nat × List Int)) : Prop :=
  ∃ A cap, v = .slice A L.length cap ∧ ∀ i, i < L.length → ∃ b off vi vw, A = some ⟨b, off, none⟩ ∧ b ≠ mb ∧ W.cell? ⟨b, off + i * 2, none⟩ = some vi ∧ W.cell? ⟨b, off + i * 2 + 1, none⟩ = some vw ∧ EltP W (fun b => b ≠ mb) n vi vw (L.getD i (0, []))
theorem LvlAt.kk {W W' : World} {mb n : Nat} {v : Value} {L : List (Nat × List Int)} (h : LvlAt W mb n v L) (k : KK mb W W') : LvlAt W' mb n v L := by
  obtain ⟨A, cap, rfl, hc⟩ := h
  refine ⟨A, cap, rfl, fun i hi => ?_⟩
  obtain ⟨b, off, vi, vw, h1, h2, h3, h4, h5⟩ := hc i hi
  exact ⟨b, off, vi, vw, h1, h2, k.cell h3 h2, k.cell h4 h2, h5.kept (fun b hb hs => k.2 b hs hb) (fun _ h _ => h)⟩
section
variable {m : List (List Int)}
/-- The marks of the sets that were met. -/
def markF (n : Nat) (R : Steps) (c : Nat) : Bool := R.any fun t => codeN n t.1.toNat == c
theorem markF_has {n : Nat} {R : Steps} {T : Nat} (hR : GoodB (2 ^ n) R) (hT : T < 2 ^ n) : markF n R (codeN n T) = hasP R T := by
  unfold markF hasP
  rw [Bool.eq_iff_iff, List.any_eq_true, List.any_eq_true]
  constructor
  · rintro ⟨t, ht, he⟩
    refine ⟨t, ht, ?_⟩
    obtain ⟨i, hi, rfl⟩ := List.mem_iff_getElem.1 ht
    obtain ⟨p, hp, hpn⟩ := hR.below i hi
    unfold plB at hp
    rw [List.getD_eq_getElem?_getD, List.getElem?_eq_getElem hi, Option.getD_some] at hp
    rw [hp, Int.toNat_natCast] at he
    rw [hp, codeN_inj hpn hT (beq_iff_eq.1 he)]
    simp
  · rintro ⟨t, ht, he⟩
    refine ⟨t, ht, ?_⟩
    rw [beq_iff_eq.1 he, Int.toNat_natCast]
    simp
theorem markF_snoc (n : Nat) (R : Steps) (T : Nat) (i x : Int) (c : Nat) : markF n (R ++ [((T : Int), i, x)]) c = if c = codeN n T then true else markF n R c := by
  unfold markF
  rw [List.any_append]
  by_cases h : c = codeN n T
  · rw [if_pos h, h]; simp
  · rw [if_neg h]
    have : (codeN n T == c) = false := beq_eq_false_iff_ne.2 (fun e => h e.symm)
    simp [this]
end
end Go.Proofs.YtphpablchlpagaaDoor
namespace Go.Proofs.YtphpablchlpagaaDoor
open Go.RowKit Go.Shelf
theorem MRows.slice {W : World} {base : Nat} {v : Value} {m : List (List Int)} (h : MRows W base v m) : ∃ A c, v = .slice A m.length c ∧ ∀ g, v.ownBlock = some g → base ≤ g ∧ g < W.heap.size := by
  obtain ⟨xs, ho, _⟩ := h
  rcases ho.2 with ⟨hu, h0⟩ | ⟨g, cap, cur, hu, hg, hh, _⟩
  · exact ⟨none, 0, by rw [hu, h0], fun g' h => by rw [hu] at h; cases h⟩
  · exact ⟨_, cap, hu, fun g' h => by rw [hu] at h; cases h; exact ⟨hg, lt_of_block hh⟩⟩
end Go.Proofs.YtphpablchlpagaaDoor
namespace Go.Proofs.YtphpablchlpagaaDoor
open Go.RowKit Go.Shelf
/-- A trail: a set, the letter taken last, and the rest of the trail; in blocks of a kind. -/
def TrailP (W : World) (P : Nat → Prop) : List Int → Value → Nat → Prop
  | [], v, S => ∃ b, v = .pointer (some ⟨b, 0, none⟩) ∧ P b ∧ W.cell? ⟨b, 0, none⟩ = some (.int .u64 S) ∧ W.cell? ⟨b, 2, none⟩ = some (.pointer none)
  | x :: u, v, S => ∃ b r T, v = .pointer (some ⟨b, 0, none⟩) ∧ P b ∧ W.cell? ⟨b, 0, none⟩ = some (.int .u64 S) ∧ W.cell? ⟨b, 1, none⟩ = some (.int .i64 x) ∧ W.cell? ⟨b, 2, none⟩ = some r ∧ TrailP W P u r T
theorem TrailP.kept {W W' : World} {P P' : Nat → Prop} (hk : ∀ b, P b → b < W.heap.size → W'.heap[b]? = W.heap[b]?) (hP : ∀ b, P b → b < W.heap.size → P' b) : ∀ {u : List Int} {v : Value} {S : Nat}, TrailP W P u v S → TrailP W' P' u v S
  | [], v, S, h => by
    obtain ⟨b, h1, h2, h3, h4⟩ := h
    have hb : b < W.heap.size := World.block_lt_of_cell? _ _ h3
    exact ⟨b, h1, hP b h2 hb, (World.cell?_of_block (hk b h2 hb)).trans h3, (World.cell?_of_block (hk b h2 hb)).trans h4⟩
  | x :: u, v, S, h => by
    obtain ⟨b, r, T, h1, h2, h3, h4, h5, h6⟩ := h
    have hb : b < W.heap.size := World.block_lt_of_cell? _ _ h3
    exact ⟨b, r, T, h1, hP b h2 hb, (World.cell?_of_block (hk b h2 hb)).trans h3, (World.cell?_of_block (hk b h2 hb)).trans h4, (World.cell?_of_block (hk b h2 hb)).trans h5, TrailP.kept hk hP h6⟩
theorem TrailP.ptr {W : World} {P : Nat → Prop} {u : List Int} {v : Value} {S : Nat} (h : TrailP W P u v S) : ∃ b, v = .pointer (some ⟨b, 0, none⟩) ∧ P b ∧ b < W.heap.size ∧ W.cell? ⟨b, 0, none⟩ = some (.int .u64 S) := by
  cases u with
  | nil => obtain ⟨b, h1, h2, h3, _⟩ := h; exact ⟨b, h1, h2, World.block_lt_of_cell? _ _ h3, h3⟩
  | cons x u => obtain ⟨b, r, T, h1, h2, h3, _⟩ := h; exact ⟨b, h1, h2, World.block_lt_of_cell? _ _ h3, h3⟩
theorem TrailP.one {W : World} {P : Nat → Prop} {u : List Int} {v : Value} {S : Nat} (h : TrailP W P u v S) : v.oneCell' = true := by
  obtain ⟨b, rfl, _⟩ := h.ptr; rfl
/-- A level: trails; no block of it is mb. -/
def LvlT (W : World) (mb : Nat) (v : Value) (L : List Tr) : Prop :=
  ∃ A cap, v = .slice A L.length cap ∧ ∀ i, i < L.length → ∃ b off p, A = some ⟨b, off, none⟩ ∧ b ≠ mb ∧ W.cell? ⟨b, off + i, none⟩ = some p ∧ TrailP W (fun b => b ≠ mb) (L.getD i (0, [])).2 p (L.getD i (0, [])).1
theorem LvlT.kk {W W' : World} {mb : Nat} {v : Value} {L : List Tr} (h : LvlT W mb v L) (k : KK mb W W') : LvlT W' mb v L := by
  obtain ⟨A, cap, rfl, hc⟩ := h
  refine ⟨A, cap, rfl, fun i hi => ?_⟩
  obtain ⟨b, off, p, h1, h2, h3, h4⟩ := hc i hi
  exact ⟨b, off, p, h1, h2, k.cell h3 h2, h4.kept (fun b hb hs => k.2 b hs hb) (fun _ h _ => h)⟩
/-- A level that is being made, of the call's own from base on. -/
def MTr (W : World) (base mb : Nat) (v : Value) (L : List Tr) : Prop :=
  ∃ xs : List Value, W.ownsRow base 58 1 v L.length xs ∧ ∀ i, i < L.length → ∃ p, xs[i]? = some p ∧ TrailP W (fun b => b ≠ mb ∧ some b ≠ v.ownBlock) (L.getD i (0, [])).2 p (L.getD i (0, [])).1
theorem MTr.nil (W : World) (base mb : Nat) : MTr W base mb (.slice none 0 0) [] := ⟨[], World.ownsRow_nil _ _ _ _, fun i hi => by simp at hi⟩
theorem MTr.slice {W : World} {base mb : Nat} {v : Value} {L : List Tr} (h : MTr W base mb v L) : ∃ A c, v = .slice A L.length c ∧ ∀ g, v.ownBlock = some g → base ≤ g ∧ g < W.heap.size := by
  obtain ⟨xs, ho, _⟩ := h
  rcases ho.2 with ⟨hu, h0⟩ | ⟨g, cap, cur, hu, hg, hh, _⟩
  · exact ⟨none, 0, by rw [hu, h0], fun g' h => by rw [hu] at h; cases h⟩
  · exact ⟨_, cap, hu, fun g' h => by rw [hu] at h; cases h; exact ⟨hg, lt_of_block hh⟩⟩
/-- All blocks but mb may be needed: those are as they were. -/
theorem MTr.kk {W W' : World} {base mb : Nat} {v : Value} {L : List Tr} (h : MTr W base mb v L) (hm : mb < base) (k : KK mb W W') : MTr W' base mb v L := by
  obtain ⟨xs, ho, hx⟩ := h
  refine ⟨xs, owns_kept ho (fun b hb hs => k.2 b hs (by omega)), fun i hi => ?_⟩
  obtain ⟨p, h1, h3⟩ := hx i hi
  exact ⟨p, h1, h3.kept (fun b hb hs => k.2 b hs hb.1) (fun _ h _ => h)⟩
theorem MTr.lvl {W : World} {base mb : Nat} {v : Value} {L : List Tr} (h : MTr W base mb v L) (hm : mb < base) : LvlT W mb v L := by
  obtain ⟨A, c, hv, hb⟩ := h.slice
  obtain ⟨xs, ho, hx⟩ := h
  refine ⟨A, c, hv, fun i hi => ?_⟩
  obtain ⟨p, h1, h3⟩ := hx i hi
  rcases ho.2 with ⟨hu, h0⟩ | ⟨g, cap, cur, hu, hg, hh, _⟩
  · omega
  · rw [hu] at hv
    simp only [Value.slice.injEq] at hv
    obtain ⟨rfl, -, rfl⟩ := hv
    have k := World.ownsRow.cells ho (g := g) (by rw [hu]; rfl)
    have a1 := k _ _ h1
    simp only [Addr.add] at a1
    refine ⟨g, 0, p, rfl, by omega, ?_, h3.kept (fun _ _ _ => rfl) (fun b hb _ => hb.1)⟩
    by_cases e : i = 0
    · rw [e] at a1 ⊢; simpa using a1
    · simpa [e] using a1
/-- One more, by an append. -/
theorem MTr.pushed {W w5 : World} {base mb : Nat} {v v' p : Value} {L : List Tr} {xs : List Value} {e : Tr} (hx : ∀ i, i < L.length → ∃ p, xs[i]? = some p ∧ TrailP W (fun b => b ≠ mb ∧ some b ≠ v.ownBlock) (L.getD i (0, [])).2 p (L.getD i (0, [])).1) (hxl : xs.length = L.length)
    (he : TrailP W (fun b => b ≠ mb ∧ some b ≠ v.ownBlock) e.2 p e.1) (ho : w5.ownsRow base 58 1 v' (L.length + 1) (xs ++ [p])) (hg : W.grownBy w5 v.ownBlock) (hat : v'.ownBlock = v.ownBlock ∨ v'.ownBlock = some W.heap.size) : MTr w5 base mb v' (L ++ [e]) := by
  refine ⟨xs ++ [p], by simpa using ho, fun i hi => ?_⟩
  have key : ∀ {p : Value} {u : List Int} {S : Nat}, TrailP W (fun b => b ≠ mb ∧ some b ≠ v.ownBlock) u p S → TrailP w5 (fun b => b ≠ mb ∧ some b ≠ v'.ownBlock) u p S := fun h =>
    h.kept (fun b hb hs => hg.block b hs (fun e => hb.2 e)) (fun b hb hs => ⟨hb.1, fun e => by
      rcases hat with h1 | h1
      · exact hb.2 (e.trans h1)
      · rw [h1] at e
        have : b = W.heap.size := by simpa using e
        omega⟩)
  simp only [List.length_append, List.length_cons, List.length_nil] at hi
  by_cases hil : i < L.length
  · obtain ⟨p', h1, h3⟩ := hx i hil
    refine ⟨p', by rw [List.getElem?_append_left (by omega)]; exact h1, ?_⟩
    have e2 : (L ++ [e]).getD i (0, []) = L.getD i (0, []) := by simp [List.getD_eq_getElem?_getD, List.getElem?_append_left hil]
    rw [e2]; exact key h3
  · obtain rfl : i = L.length := by omega
    refine ⟨p, by rw [← hxl]; simp, ?_⟩
    have e2 : (L ++ [e]).getD L.length (0, []) = e := by simp [List.getD_eq_getElem?_getD]
    rw [e2]; exact key he
end Go.Proofs.YtphpablchlpagaaDoor
namespace Go.Proofs.YtphpablchlpagaaDoor
open Go.RowKit Go.Shelf
/-- The table of marks. -/
def MetAt (W : World) (n₀ mb n N : Nat) (R : Steps) : Prop := W.ownsRow n₀ 4 1 (.slice (some ⟨mb, 0, none⟩) N N) N ((Lb N (markF n R)).map fun x => .bool x)
theorem MetAt.kept {W W' : World} {n₀ mb n N : Nat} {R : Steps} (h : MetAt W n₀ mb n N R) (hk : W'.heap[mb]? = W.heap[mb]?) : MetAt W' n₀ mb n N R := owns_block h hk
theorem MetAt.lt {W : World} {n₀ mb n N : Nat} {R : Steps} (h : MetAt W n₀ mb n N R) : n₀ ≤ mb ∧ mb < W.heap.size := ownq_lt h
theorem MetAt.cell {W : World} {n₀ mb n N T c : Nat} {R : Steps} (h : MetAt W n₀ mb n N R) (hN : 2 ^ n = N) (hR : GoodB (2 ^ n) R) (hT : T < 2 ^ n) (hc : codeN n T = c) : W.cell? ⟨mb, c, none⟩ = some (.bool (hasP R T)) := by
  have h1 := codeN_lt n T
  unfold MetAt at h
  rw [h.cellAt _ (by omega), Lb_cell _ (by omega), ← hc, markF_has hR hT]
theorem MetAt.set {W : World} {n₀ mb n N T c : Nat} {R : Steps} (h : MetAt W n₀ mb n N R) (hc : codeN n T = c) (i x : Int) : MetAt (W.setCell ⟨mb, c, none⟩ (.bool true)) n₀ mb n N (R ++ [((T : Int), i, x)]) := by
  have h1 := (World.ownsRow.stored h c (.bool true)).1
  rw [← List.map_set_bool, Lb_set] at h1
  have e : Lb N (fun a => if a = c then true else markF n R a) = Lb N (markF n (R ++ [((T : Int), i, x)])) := Lb_congr fun a _ => by rw [markF_snoc, hc]
  rw [e] at h1
  exact h1
end Go.Proofs.YtphpablchlpagaaDoor
namespace Go.Proofs.YtphpablchlpagaaDoor
open Go.RowKit Go.Shelf
theorem infoTrailP : (Tryd.prog.info? 58).map (fun i => (i.zero, i.size, i.bytes)) = some (some (.pointer none), 1, 8) := by kernel_rfl
/-- 'append(longer, &trail{..})'. -/
theorem wpList_append_trail {W : World} {ops : Array Oper} {rest : List Oper} {o : Oper} {a : Act} {Q : Exit → Act → World → Prop} (hgd : o.guard = none) (s x : Operand)
    (ho : o.op = .call { callee := .builtin .append, args := #[s, x], argTypes := #[89, 89] }) (base mb : Nat) (v p : Value) (L : List Tr) (e : Tr) (t : TypeId) (w0 : World) (hW : W = w0.alloc (.cells #[p] t)) (k : Nat) (hk : k = w0.heap.size)
    (hs : a.eval s = v) (hM : MTr w0 base mb v L) (hx : a.eval x = .slice (some ⟨k, 0, none⟩) 1 1) (hu : TrailP w0 (fun b => b ≠ mb ∧ some b ≠ v.ownBlock) e.2 p e.1) (hb : base ≤ w0.heap.size) (hlen : L.length ≤ 100000)
    (h : ∀ A c w', MTr w' base mb (.slice A (L.length + 1) c) (L ++ [e]) → Below base w0 w' → w0.heap.size ≤ w'.heap.size → wpList Tryd.prog ops Q rest (a.put o.dst (.slice A (L.length + 1) c)) w') :
    wpList Tryd.prog ops Q (o :: rest) a W := by
  subst hk
  subst hW
  obtain ⟨i0, hi, hz0, hz1, hz2⟩ := info_parts infoTrailP
  obtain ⟨A0, c0, rfl, hblk⟩ := hM.slice
  obtain ⟨xs, hxo, hxx⟩ := id hM
  have hone : ∀ u' ∈ [p], u'.oneCell' = true := by
    intro u' hu'
    obtain rfl : u' = p := by simpa using hu'
    exact hu.one
  refine wpList_append_own_at _ hgd s x 89 ho base 58 i0 (.pointer none) 1 8 Tryd.underlying89 hi hz0 hz1 hz2 rfl (by decide) _ _ _ hs (hxo.alloc _) ⟨w0.heap.size, 0, none⟩ 1 1 [p] hx rfl (cell_one_new _ _ _) hone (by unfold maxLen; omega) (by omega) (by simp; omega) ?_
  intro v' w5 hown' hgrow' _ hat
  obtain ⟨g', cap', rfl⟩ := ownsRow_succ hown'
  have hB : Below base w0 w5 := ((Below.refl _ _).alloc hb _).grown hgrow' (by simp; omega) (fun q hq => (hblk q hq).1)
  refine h _ _ _ ?_ hB hB.size
  exact MTr.pushed (W := w0.alloc (.cells #[p] t)) (base := base) (v := .slice A0 L.length c0) (L := L) (e := e) (xs := xs) (p := p)
    (fun i hi => by obtain ⟨a, h1, h3⟩ := hxx i hi; exact ⟨a, h1, h3.kept (fun q _ hq => Below.heap_alloc _ _ _ hq) (fun _ h _ => h)⟩) (by have := hxo.1; omega)
    (hu.kept (fun q _ hq => Below.heap_alloc _ _ _ hq) (fun _ h _ => h)) hown' hgrow' hat
set_option maxRecDepth 100000 in
set_option maxHeartbeats 4000000 in
theorem word_any (v : Value) (S : Nat) (u : List Int) (w : World) (h : TrailP w (fun _ => True) u v S) (hl : u.length ≤ 5000) :
    Calls Tryd.prog 42 #[v] w fun e w' => ∃ r, e = .returned r ∧ w'.ownsRow w.heap.size 3 1 r u.length (u.map fun x => .int .i64 x) ∧ Below w.heap.size w w' := by
  obtain ⟨j0, hj, hy0, hy1, hy2⟩ := info_parts infoInt
  have HH := hid h
  clear h
  go_enter Tryd.func42, Tryd.ntmps42
  go_wp2_with fail
  go_loopg [0, 3] (u.length + 1) (fun k tv sv wr => ∃ (pre rest : List Int) (T : Nat), pre ++ rest = u ∧ rest.length + 1 = k ∧ TrailP w (fun _ => True) rest tv T ∧ wr.ownsRow w.heap.size 3 1 sv pre.length (pre.map fun x => .int .i64 x) ∧ Below w.heap.size w wr)
  case atStart => exact ⟨[], u, S, rfl, rfl, HH.out, World.ownsRow_nil _ _ _ _, Below.refl _ _⟩
  case round =>
    clear HH
    obtain ⟨pre, rest, T, hpr, hk, hT, hO, hB⟩ := hrel
    have Hpr := hid hpr
    have Hk := hid hk
    obtain ⟨A3, c3', rfl⟩ := ownsRow_slice hO
    have HO := hid hO
    have HT := hid hT
    have hpl : pre.length ≤ 5000 := by rw [← hpr] at hl; simp at hl; omega
    clear hpr hk
    cases rest with
    | nil =>
      obtain ⟨b, rfl, -, c1, c2⟩ := hT
      have d2 := (hB.cell (p := ⟨b, 2, none⟩) (World.block_lt_of_cell? _ _ c2)).trans c2
      clear hO c1 c2
      go_wp2_with fail
      go_ret
      have e : pre = u := by have := Hpr.out; simpa using this
      exact ⟨_, rfl, by rw [← e]; exact HO.out, hB⟩
    | cons x rest =>
      obtain ⟨b, r, T', rfl, -, c1, c2, c3, hT'⟩ := hT
      obtain ⟨b', rfl, -, -, -⟩ := hT'.ptr
      have d2 := (hB.cell (p := ⟨b, 1, none⟩) (World.block_lt_of_cell? _ _ c2)).trans c2
      have d3 := (hB.cell (p := ⟨b, 2, none⟩) (World.block_lt_of_cell? _ _ c3)).trans c3
      have HT' := hid hT'
      have C3 := hid c3
      have hsz := hB.size
      clear c1 c2 c3 hT'
      go_wp2_with (at_builtin; go_must (refine wpList_append_own_at _ rfl _ _ 34 rfl w.heap.size 3 j0 (.int .i64 0) 1 8 Tryd.underlying34 hj hy0 hy1 hy2 rfl (by decide) _ _ _ rfl (hO.alloc _) ⟨wr.heap.size, 0, none⟩ 1 1 [.int .i64 x] rfl rfl (cell_one_new _ _ _) (by simp [Value.oneCell']) (by unfold maxLen; omega) (by omega) (by simp; omega) ?_); intro v' w5 hown' hgrow' _ hat; have kB := appended_below hB hO hsz hgrow'; have e3 := (kB.cell (p := ⟨b, 2, none⟩) (World.block_lt_of_cell? _ _ C3.out)).trans C3.out)
      go_roundg (rest.length + 1)
      case measure => have := Hk.out; simp at this; omega
      case rel => exact ⟨pre ++ [x], rest, T', by rw [List.append_assoc]; exact Hpr.out, by have := Hk.out; simp at this; omega, HT'.out, by simpa using hown', kB⟩
end Go.Proofs.YtphpablchlpagaaDoor
namespace Go.Proofs.YtphpablchlpagaaDoor
open Go.RowKit Go.Shelf
theorem KK.grownAt {mb : Nat} {w w' w5 : World} (h : KK mb w w') (hg : w'.grownBy w5 (some mb)) : KK mb w w5 :=
  ⟨Nat.le_trans h.1 hg.size, fun b hb hne => (hg.block b (Nat.lt_of_lt_of_le hb h.1) (fun e => hne (by simpa using e))).trans (h.2 b hb hne)⟩
/-- The facts that hold behind each step of the search. -/
structure Srch (m : List (List Int)) (S : Nat) (w : World) (bm base : Nat) (wo wr : World) (L x i : Nat) (tr : List Tr) (seen0 : List Nat) (v : Value) (seen : List Nat) (lg : List Tr) : Prop where
  mid : MidI m S L tr x (tr.take i) seen0 seen lg
  si : SeenI m.length seen
  map : SeenMapS wr bm seen.length (fun T => decide (T ∈ seen))
  row : MTr wr base bm v lg
  len : seen0.length + lg.length = seen.length
  below : Below w.heap.size w wr
  kk : KK bm wo wr
theorem LvlT.elem {W : World} {mb n c i : Nat} {A : Option Addr} {L : List Tr} (h : LvlT W mb (.slice A n c) L) (hi : i < L.length) : ∃ b off p, A = some ⟨b, off, none⟩ ∧ b ≠ mb ∧ W.cell? ⟨b, off + i, none⟩ = some p ∧ TrailP W (fun b => b ≠ mb) (L.getD i (0, [])).2 p (L.getD i (0, [])).1 := by
  obtain ⟨A', c', hv, hc⟩ := h
  simp only [Value.slice.injEq] at hv
  obtain ⟨rfl, -, -⟩ := hv
  exact hc i hi
theorem take_split (L : List Tr) {i : Nat} (hi : i < L.length) : L.take i ++ L.getD i (0, []) :: L.drop (i + 1) = L ∧ L.take (i + 1) = L.take i ++ [L.getD i (0, [])] := by
  have e : L.getD i (0, []) = L[i] := by simp [List.getD_eq_getElem?_getD, hi]
  rw [e]
  exact ⟨by rw [← List.drop_eq_getElem_cons hi, List.take_append_drop], List.take_succ_eq_append_getElem hi⟩
/-- What the search promises. -/
def ExtIs (m : List (List Int)) (S : Nat) (w : World) (e : Ending) (w' : World) : Prop :=
  ((∃ u p T, FirstBig m S u ∧ u.length ≤ 4096 ∧ e = .returned p ∧ TrailP w' (fun _ => True) u p T) ∨ ((∀ u, WDm m u → ¬ szS S < szS (preWord m S u)) ∧ e = .returned (.pointer none))) ∧ Below w.heap.size w w'
set_option maxRecDepth 100000 in
set_option maxHeartbeats 8000000 in
theorem extended_any (v : Value) (m : List (List Int)) (S : Nat) (w : World) (h : Rows w v m) (hv : validM m = true) (h12 : m.length ≤ 12) (hS : S < 2 ^ m.length) :
    Calls Tryd.prog 40 #[.agg #[v], .int .u64 S] w (ExtIs m S w) := by
  obtain ⟨p1, p2, p3, p4, -⟩ := valid_parts hv
  have hr := h
  obtain ⟨A, cap, rfl, hml, hc⟩ := h
  obtain ⟨b0, off0, r0, hA, hc0, A0, cap0, hr0, -, -⟩ := hc 0 (by omega)
  subst hA
  subst hr0
  have hc0 : w.cell? ⟨b0, off0, none⟩ = some (.slice A0 (letters m) cap0) := hc0
  unfold big at hml
  clear hc
  have hpow : 2 ^ m.length ≤ 2 ^ 12 := Nat.pow_le_pow_right (by decide) h12
  have hN4 : 2 ^ m.length ≤ 4096 := hpow
  have hS6 : S < 1000000 := by omega
  have hS64 : S < 18446744073709551616 := by omega
  clear hpow
  obtain ⟨W0, hW0⟩ : ∃ W0, W0 = w.alloc (.cells #[.slice (some ⟨b0, off0, none⟩) m.length cap] 24) := ⟨_, rfl⟩
  have hs0 : W0.heap.size = w.heap.size + 1 := by rw [hW0]; simp
  have hX : Below w.heap.size w W0 := by rw [hW0]; exact bal (Below.refl _ w) _
  obtain ⟨w1, hput, hmap, hgr⟩ := (SeenMapS.made W0).put (by decide) S hS6
  rw [hs0] at hput hmap hgr
  rw [hW0] at hput
  have hmm := @run_makeMap Tryd.prog
  have hgs := hgr.size
  have hB1 : Below w.heap.size w w1 := (hX.alloc (by omega) _).grown hgr (by simp; omega) (fun q hq => by cases hq; omega)
  have hbx : W0.cell? ⟨w.heap.size, 0, none⟩ = some (.slice (some ⟨b0, off0, none⟩) m.length cap) := by rw [hW0]; simp [go_sem]
  have hbx1 : w1.cell? ⟨w.heap.size, 0, none⟩ = some (.slice (some ⟨b0, off0, none⟩) m.length cap) := (World.cell?_of_block ((hgr.block w.heap.size (by simp; omega) (by simp)).trans (Below.heap_alloc _ _ _ (by omega)))).trans hbx
  have hbm1 : w.heap.size + 1 < w1.heap.size := hmap.lt
  have HM := hid hmap
  have HB1 := hid hB1
  clear hmap hgr hbx hX hB1 hgs hs0
  subst hW0
  go_enter Tryd.func40, Tryd.ntmps40
  go_wp2_with fail
  have HL1 := hid (show LvlT ((w1.alloc (.cells #[.int .u64 S, .int .i64 0, .pointer none] 88)).alloc (.cells #[.pointer (some ⟨w1.heap.size, 0, none⟩)] 58)) (w.heap.size + 1) (.slice (some ⟨w1.heap.size + 1, 0, none⟩) 1 1) [(S, [])] from by
    refine ⟨_, 1, rfl, fun i hi => ?_⟩
    obtain rfl : i = 0 := by simpa using hi
    refine ⟨w1.heap.size + 1, 0, .pointer (some ⟨w1.heap.size, 0, none⟩), rfl, by omega, ?_, ⟨w1.heap.size, rfl, by omega, ?_, ?_⟩⟩
    · simp [go_sem]
    · simp [go_sem]
    · simp [go_sem])
  have HB3 := hid (bal (bal HB1.out (.cells #[.int .u64 S, .int .i64 0, .pointer none] 88)) (.cells #[.pointer (some ⟨w1.heap.size, 0, none⟩)] 58))
  have HM3 := hid (show SeenMapS ((w1.alloc (.cells #[.int .u64 S, .int .i64 0, .pointer none] 88)).alloc (.cells #[.pointer (some ⟨w1.heap.size, 0, none⟩)] 58)) (w.heap.size + 1) 1 (fun T => decide (T ∈ [S])) from by
    have e : (fun q : Nat => decide (q = S) || (fun _ => false) q) = fun T => decide (T ∈ [S]) := by funext q; simp
    rw [← e]
    exact HM.out.kept ((Below.heap_alloc _ _ _ (by simp; omega)).trans (Below.heap_alloc _ _ _ hbm1)))
  have hbx3 : ((w1.alloc (.cells #[.int .u64 S, .int .i64 0, .pointer none] 88)).alloc (.cells #[.pointer (some ⟨w1.heap.size, 0, none⟩)] 58)).cell? ⟨w.heap.size, 0, none⟩ = some (.slice (some ⟨b0, off0, none⟩) m.length cap) :=
    (World.cell?_of_block ((Below.heap_alloc _ _ _ (by simp; omega)).trans (Below.heap_alloc _ _ _ (by show w.heap.size < w1.heap.size; omega)))).trans hbx1
  generalize (w1.alloc (.cells #[.int .u64 S, .int .i64 0, .pointer none] 88)).alloc (.cells #[.pointer (some ⟨w1.heap.size, 0, none⟩)] 58) = w3 at *
  have Hr := hid hr
  clear hput hbx1 hr
  go_loopg [6] 4098 (fun k tv wr => ∃ (L : Nat) (tr : List Tr) (seen : List Nat), L + k = 4098 ∧ LvlT wr (w.heap.size + 1) tv tr ∧ LevI m S L seen tr ∧ SeenI m.length seen ∧ SeenMapS wr (w.heap.size + 1) seen.length (fun T => decide (T ∈ seen)) ∧ (tr ≠ [] → L + 1 ≤ seen.length) ∧ tr.length ≤ seen.length ∧ Below w.heap.size w wr ∧ wr.cell? ⟨w.heap.size, 0, none⟩ = some (.slice (some ⟨b0, off0, none⟩) m.length cap))
  case atStart => exact ⟨0, [(S, [])], [S], rfl, HL1.out, LevI.start m S, ⟨by simp, fun T hT => by rw [List.mem_singleton.1 hT]; exact hS⟩, HM3.out, fun _ => by simp, by simp, HB3.out, hbx3⟩
  case round =>
    clear HL1 HB3 HM3 hbx3 HM HB1
    obtain ⟨L, tr, seen0, hLk, hLv, hLev, hsi, hmp, hne, htl, hB, hbx⟩ := hrel
    have hsl := hsi.len
    obtain ⟨A6, c6, rfl⟩ : ∃ A c, u6 = .slice A tr.length c := by obtain ⟨A6, c6, hu, _⟩ := id hLv; exact ⟨A6, c6, hu⟩
    have HLv := hid hLv
    have HLev := hid hLev
    have Hsi := hid hsi
    have Hmp := hid hmp
    have Hne := hid hne
    have HLk := hid hLk
    have hmo := hmp.lt
    have HB := hid hB
    have hcb := (hB.cell (p := ⟨b0, off0, none⟩) (World.block_lt_of_cell? _ _ hc0)).trans hc0
    obtain ⟨wo, rfl⟩ : ∃ wo : World, wo = wr := ⟨_, rfl⟩
    clear hLv hLev hsi hmp hne hLk
    by_cases ht0 : tr.length = 0
    · have d1 : ¬ (0 : Int) < tr.length := by omega
      have d2 : decide ((0 : Int) < tr.length) = false := decide_eq_false d1
      have d3 : decide (0 < tr.length) = false := decide_eq_false (by omega)
      go_wp2_with fail
      go_ret
      obtain rfl : tr = [] := List.eq_nil_of_length_eq_zero ht0
      exact ⟨.inr ⟨HLev.out.none, rfl⟩, HB.out⟩
    · have d1 : (0 : Int) < tr.length := by omega
      have d2 : decide ((0 : Int) < tr.length) = true := decide_eq_true d1
      have d3 : decide (0 < tr.length) = true := decide_eq_true (by omega)
      have d4 : 0 < tr.length := by omega
      have hL1 : L + 1 ≤ seen0.length := Hne.out (fun e => by rw [e] at ht0; simp at ht0)
      go_wp2_with fail
      go_loopw [7, 27] (fun lv xv wx => ∃ (x : Nat) (seen : List Nat) (lg : List Tr), x ≤ letters m ∧ xv = .int .i64 x ∧ Srch m S w (w.heap.size + 1) wo.heap.size wo wx L x 0 tr seen0 lv seen lg) (fun _ xv _ => letters m - (intOf xv).toNat)
      case atStart => exact ⟨0, seen0, [], Nat.zero_le _, rfl, ⟨MidI.start m S L tr seen0, Hsi.out, Hmp.out, MTr.nil _ _ _, by simp, HB.out, KK.refl _ _⟩⟩
      case round =>
        obtain ⟨x, seen, lg, hx, rfl, hS1⟩ := hrel
        have HS1 := hid hS1
        obtain ⟨A7, c7, rfl, -⟩ := hS1.row.slice
        clear hS1
        by_cases hxl : x < letters m
        · have e1 : (x : Int) < letters m := by omega
          have e2 : decide (x < letters m) = true := decide_eq_true hxl
          obtain ⟨wx, rfl⟩ : ∃ wx : World, wx = wr := ⟨_, rfl⟩
          go_wp2_with fail
          go_loopw [7, 32] (fun lv iv wi => ∃ (i : Nat) (seen : List Nat) (lg : List Tr), i ≤ tr.length ∧ iv = .int .i64 i ∧ Srch m S w (w.heap.size + 1) wo.heap.size wo wi L x i tr seen0 lv seen lg) (fun _ iv _ => tr.length - (intOf iv).toNat)
          case atStart => exact ⟨0, seen, lg, Nat.zero_le _, rfl, HS1.out⟩
          case round =>
            clear HS1
            obtain ⟨i, seen, lg, hi, rfl, hS1⟩ := hrel
            have HS1 := hid hS1
            obtain ⟨A7, c7, rfl, hown⟩ := hS1.row.slice
            have hsil := hS1.si.len
            have hlen := hS1.len
            have hkk := hS1.kk
            have hbl := hS1.below
            have hmpl := hS1.map.lt
            clear hS1
            by_cases hil : i < tr.length
            · have f1 : (i : Int) < tr.length := by omega
              have f2 : decide (i < tr.length) = true := decide_eq_true hil
              obtain ⟨b, off, p, hA6, hbm, c1, hTr⟩ := HLv.out.elem hil
              subst hA6
              obtain ⟨hsp, htk⟩ := take_split tr hil
              obtain ⟨T, u, hTu⟩ : ∃ T u, tr.getD i (0, []) = (T, u) := ⟨_, _, rfl⟩
              rw [hTu] at hTr hsp htk
              simp only at hTr
              obtain ⟨c, rfl, hcm, hcl, c2⟩ := hTr.ptr
              have hmem : (T, u) ∈ tr := by rw [← hsp]; simp
              obtain ⟨o1, o2, o3⟩ := HLev.out.ok _ hmem
              simp only at o1 o2 o3
              have hTlt : T < 2 ^ m.length := by rw [o3]; exact preWord_lt hv hS u
              have hT64 : T < 2 ^ 64 := by omega
              obtain ⟨q, hq⟩ : ∃ q, preSet m T (x : Int) = q := ⟨_, rfl⟩
              have hqlt : q < 2 ^ m.length := by rw [← hq]; exact preSet_lt hv T x
              have hq64 : q < 18446744073709551616 := by omega
              have hq6 : q < 1000000 := by omega
              have Hq := hid hq
              have g1 := hkk.cell c1 hbm
              have g2 := hkk.cell c2 hcm
              have g3 := hkk.cell hbx (by show w.heap.size ≠ w.heap.size + 1; omega)
              have hrr := Hr.out.below hbl
              have HTr := hid hTr
              have Hsp := hid hsp
              have Htk := hid htk
              have Ho2 := hid o2
              have Hown := hid hown
              have Hkk := hid hkk
              clear c1 c2 hTr hsp htk hmem o1 o2 o3 hTu hq hown
              obtain ⟨wi, rfl⟩ : ∃ wi : World, wi = wr := ⟨_, rfl⟩
              have HPre := hid (fun n : Nat => (show Calls Tryd.prog 54 #[.int .u64 T, .slice (some ⟨b0, off0, none⟩) m.length cap, .int .i64 x] (wi.drewN n) fun e w' => e = .returned (.int .u64 (q : Nat)) ∧ w' = wi.drewN n from
                (SetPreimage_any _ m T x _ (hrr.drewN _) hv hT64 hxl).mono fun _ _ ⟨h1, h2⟩ => ⟨h1.trans (by rw [← Hq.out]; rfl), h2.symm⟩))
              clear hrr
              go_wp2_with fail
              go_quiet ((go_at_call 54; exact Calls.quiet_of_same (HPre.out _)))
              have bq : Below wi.heap.size wi (wi.drewN nq) := bdr (Below.refl _ _) nq
              have hZ : Srch m S w (w.heap.size + 1) wo.heap.size wo (wi.drewN nq) L x i tr seen0 (.slice A7 lg.length c7) seen lg := by
                have h1 := HS1.out
                exact ⟨h1.mid, h1.si, h1.map.kept (bq.block _ hmpl), h1.row.kk hmo (KK.below bq rfl), h1.len, btr hbl bq, Hkk.out.step bq⟩
              generalize wi.drewN nq = Z at *
              have HZ := hid hZ
              have hmz := hZ.map.lt
              have hbz := hZ.below
              have hlook := hZ.map.look q hq6
              obtain ⟨cq, hcq⟩ : ∃ c, (elems q).length = c := ⟨_, rfl⟩
              obtain ⟨cS, hcS⟩ : ∃ c, (elems S).length = c := ⟨_, rfl⟩
              have hz1 := Size_any q Z hq64
              have hz2 := Size_any S Z hS64
              rw [hcq] at hz1
              rw [hcS] at hz2
              have Hz1 := hid hz1
              have Hz2 := hid hz2
              have Hcq := hid hcq
              have HcS := hid hcS
              have hcq64 : cq ≤ 64 := by rw [← hcq]; exact elems_length q
              have hcS64 : cS ≤ 64 := by rw [← hcS]; exact elems_length S
              have hwiZ := bq.size
              clear HS1 hkk hbl hZ hcq hcS hz1 hz2 g1 g2 g3 HPre hmpl bq
              by_cases hbig : cS < cq
              · have k1 : (cS : Int) < cq := by omega
                have k2 : decide ((cS : Int) < cq) = true := decide_eq_true k1
                have k3 : decide (cS < cq) = true := decide_eq_true hbig
                go_wp2_with fail
                refine Hz1.out.mono ?_
                rintro e w' ⟨rfl, rfl⟩
                go_wp2_with fail
                refine Hz2.out.mono ?_
                rintro e w' ⟨rfl, rfl⟩
                go_wp2_with fail
                go_ret
                have K8 : KK (w.heap.size + 1) wo (Z.alloc (.cells #[.int .u64 q, .int .i64 x, .pointer (some ⟨c, 0, none⟩)] 88)) := HZ.out.kk.step (bal (Below.refl _ Z) _)
                refine ⟨.inl ⟨(x : Int) :: u, _, q, MidI.big HLev.out hxl Hsp.out HZ.out.mid (by rw [Hq.out]; unfold szS; rw [Hcq.out, HcS.out]; exact hbig), by have := Ho2.out; simp; omega, rfl, ⟨Z.heap.size, .pointer (some ⟨c, 0, none⟩), T, rfl, trivial, ?_, ?_, ?_, HTr.out.kept (fun b hb hs => K8.2 b hs hb) (fun _ _ _ => trivial)⟩⟩, bal hbz _⟩
                · simp [go_sem]
                · simp [go_sem]
                · simp [go_sem]
              · have k1 : ¬ (cS : Int) < cq := by omega
                have k2 : decide ((cS : Int) < cq) = false := decide_eq_false k1
                have k3 : decide (cS < cq) = false := decide_eq_false hbig
                cases hse : decide (q ∈ seen) with
                | true =>
                  rw [hse] at hlook
                  go_wp2_with fail
                  refine Hz1.out.mono ?_
                  rintro e w' ⟨rfl, rfl⟩
                  go_wp2_with fail
                  refine Hz2.out.mono ?_
                  rintro e w' ⟨rfl, rfl⟩
                  go_wp2_with fail
                  go_roundw
                  case rel =>
                    have h1 := HZ.out
                    refine ⟨i + 1, seen, lg, by omega, by go_num, ⟨?_, h1.si, h1.map, h1.row, h1.len, h1.below, h1.kk⟩⟩
                    rw [Htk.out]
                    exact MidI.old HLev.out Hsp.out h1.mid (by rw [Hq.out]; unfold szS; rw [Hcq.out, HcS.out]; exact hbig) (by rw [Hq.out]; exact of_decide_eq_true hse)
                  case measure => simp [intOf]; omega
                | false =>
                  rw [hse] at hlook
                  have hno : q ∉ seen := of_decide_eq_false hse
                  obtain ⟨w5, hput5, hmp5, hgr5⟩ := HZ.out.map.put (by have := Hsi.out.len; omega) q hq6
                  have hs5 := hgr5.size
                  have K5 : KK (w.heap.size + 1) wo w5 := HZ.out.kk.grownAt hgr5
                  have K6 : KK (w.heap.size + 1) wo (w5.alloc (.cells #[.int .u64 q, .int .i64 x, .pointer (some ⟨c, 0, none⟩)] 88)) := K5.step (bal (Below.refl _ w5) _)
                  have HMT := hid (HZ.out.row.kk hmo (((KK.refl (w.heap.size + 1) Z).grownAt hgr5).step (bal (Below.refl _ w5) (.cells #[.int .u64 q, .int .i64 x, .pointer (some ⟨c, 0, none⟩)] 88))))
                  have HTP := hid (show TrailP (w5.alloc (.cells #[.int .u64 q, .int .i64 x, .pointer (some ⟨c, 0, none⟩)] 88)) (fun b => b ≠ w.heap.size + 1 ∧ some b ≠ (Value.slice A7 lg.length c7).ownBlock) ((x : Int) :: u) (.pointer (some ⟨w5.heap.size, 0, none⟩)) q from by
                    refine ⟨w5.heap.size, .pointer (some ⟨c, 0, none⟩), T, rfl, ⟨by omega, fun e => by have := (Hown.out _ e.symm).2; omega⟩, ?_, ?_, ?_, HTr.out.kept (fun b hb hs => K6.2 b hs hb) (fun b hb hs => ⟨hb, fun e => by have := (Hown.out _ e.symm).1; omega⟩)⟩
                    · simp [go_sem]
                    · simp [go_sem]
                    · simp [go_sem])
                  have hB5 : Below w.heap.size w w5 := hbz.grown hgr5 (by have := hbz.size; omega) (fun g hg => by
                    have : w.heap.size + 1 = g := by simpa using hg
                    omega)
                  have hwo5 : wo.heap.size ≤ w5.heap.size := K5.1
                  have HK6 := hid K6
                  have HB5 := hid hB5
                  have Hmp5 := hid hmp5
                  clear hgr5 K5 K6 hB5 hmp5
                  go_wp2_with fail
                  refine Hz1.out.mono ?_
                  rintro e w' ⟨rfl, rfl⟩
                  go_wp2_with fail
                  refine Hz2.out.mono ?_
                  rintro e w' ⟨rfl, rfl⟩
                  go_wp2_with (at_builtin; go_must (refine wpList_append_trail rfl _ _ rfl wo.heap.size (w.heap.size + 1) (.slice A7 lg.length c7) (.pointer (some ⟨w5.heap.size, 0, none⟩)) lg (q, (x : Int) :: u) 58 (w5.alloc (.cells #[.int .u64 q, .int .i64 x, .pointer (some ⟨c, 0, none⟩)] 88)) rfl (w5.heap.size + 1) (by simp) rfl HMT.out rfl HTP.out (by simp; omega) (by omega) ?_); intro A8 c8 w8 hM8 hB8 hs8)
                  go_roundw
                  case rel =>
                    have h1 := HZ.out
                    refine ⟨i + 1, q :: seen, lg ++ [(q, (x : Int) :: u)], by omega, by go_num, ⟨?_, h1.si.add hqlt hno, ?_, by simpa using hM8, by simp; omega, ?_, ⟨Nat.le_trans HK6.out.1 hB8.size, fun b hb hne => (hB8.block b hb).trans (HK6.out.2 b hb hne)⟩⟩⟩
                    · rw [Htk.out]
                      have := MidI.add HLev.out hxl Hsp.out h1.mid (by rw [Hq.out]; unfold szS; rw [Hcq.out, HcS.out]; exact hbig)
                      rw [Hq.out] at this
                      exact this
                    · have e : (fun q' : Nat => decide (q' = q) || decide (q' ∈ seen)) = fun T => decide (T ∈ q :: seen) := by funext q'; simp
                      rw [← e]
                      exact Hmp5.out.kept ((hB8.block _ hmo).trans (Below.heap_alloc _ _ _ (by omega)))
                    · exact (bal HB5.out _).trans (hB8.mono (by omega))
                  case measure => simp [intOf]; omega
            · have f1 : ¬ (i : Int) < tr.length := by omega
              have f2 : decide (i < tr.length) = false := decide_eq_false hil
              obtain rfl : i = tr.length := by omega
              go_wp2_with fail
              go_roundw
              case rel =>
                have h1 := HS1.out
                have hm := h1.mid
                rw [List.take_length] at hm
                exact ⟨x + 1, seen, lg, by omega, by go_num, ⟨hm.next, h1.si, h1.map, h1.row, h1.len, h1.below, h1.kk⟩⟩
              case measure => simp [intOf]; omega
        · have e1 : ¬ (x : Int) < letters m := by omega
          have e2 : decide (x < letters m) = false := decide_eq_false hxl
          obtain rfl : x = letters m := by omega
          go_wp2_with fail
          go_roundg (4098 - (L + 1))
          case measure => have := HLk.out; omega
          case rel =>
            have h1 := HS1.out
            exact ⟨L + 1, lg, seen, by omega, h1.row.lvl hmo, MidI.lev HLev.out h1.mid, h1.si, h1.map, fun e => by
              have := h1.len
              have : 0 < lg.length := List.length_pos_iff.2 e
              omega, by have := h1.len; omega, h1.below, h1.kk.cell hbx (by show w.heap.size ≠ w.heap.size + 1; omega)⟩
end Go.Proofs.YtphpablchlpagaaDoor
namespace Go.Proofs.YtphpablchlpagaaDoor
open Go.RowKit Go.Shelf
theorem ints_nilU (w : World) : Ints w (.slice none 0 0) [] := ⟨none, 0, rfl, by simp [big], fun i hi => by simp at hi⟩
theorem nil_word {m : List (List Int)} : isWordM m [] = true := by simp [isWordM]
def ExtP (m : List (List Int)) (S : Nat) (w : World) (p : Value) : Prop :=
  (∃ u T, FirstBig m S u ∧ u.length ≤ 4096 ∧ TrailP w (fun _ => True) u p T) ∨ ((∀ u, WDm m u → ¬ szS S < szS (preWord m S u)) ∧ p = .pointer none)
theorem extended_as (v : Value) (m : List (List Int)) (S : Nat) (w : World) (h : Rows w v m) (hv : validM m = true) (h12 : m.length ≤ 12) (hS : S < 2 ^ m.length) :
    Calls Tryd.prog 40 #[.agg #[v], .int .u64 S] w fun e w' => ∃ p, e = .returned p ∧ ExtP m S w' p ∧ Below w.heap.size w w' := by
  refine (extended_any v m S w h hv h12 hS).mono ?_
  rintro e w' ⟨⟨u, p, T, h1, h2, rfl, h3⟩ | ⟨h1, rfl⟩, hb⟩
  · exact ⟨p, rfl, .inl ⟨u, T, h1, h2, h3⟩, hb⟩
  · exact ⟨_, rfl, .inr ⟨h1, rfl⟩, hb⟩
/-- What Extend returns of an automaton and a set that may be searched. -/
def ExtendIs (m : List (List Int)) (S : Nat) (w : World) (e : Ending) (w' : World) : Prop :=
  ((∃ u r, FirstBig m S u ∧ u.length ≤ 4096 ∧ e = .returned (.tuple #[r, .int .i64 0]) ∧ w'.ownsRow w.heap.size 3 1 r u.length (u.map fun x => .int .i64 x)) ∨
    ((∀ u, WDm m u → ¬ szS S < szS (preWord m S u)) ∧ e = .returned (.tuple #[.slice none 0 0, .int .i64 4]))) ∧ Below w.heap.size w w'
set_option maxRecDepth 100000 in
set_option maxHeartbeats 4000000 in
theorem Extend_ok (v s : Value) (m : List (List Int)) (sl : List Int) (w : World) (hT : Tab w) (h : Rows w v m) (hs : Ints w s sl) (hv : validM m = true) (ha : isSetM m sl = true) (h12 : m.length ≤ 12) :
    Calls Tryd.prog 17 #[.agg #[v], s] w (ExtendIs m (ofList sl) w) := by
  obtain ⟨p1, p2, -⟩ := valid_parts hv
  obtain ⟨A, cap, rfl, hml, -⟩ := id h
  obtain ⟨As, caps, rfl, hls, -⟩ := id hs
  have hSlt := ofList_lt m.length (by omega) sl (isSetM_mem ha)
  have h64 : ∀ x ∈ sl, 0 ≤ x ∧ x < 64 := fun x hx => by have := isSetM_mem ha x hx; omega
  obtain ⟨S, hS⟩ : ∃ S, ofList sl = S := ⟨_, rfl⟩
  rw [hS] at hSlt ⊢
  have HS := hid hS
  clear hS
  have hB := bal (Below.refl _ w) (.cells #[.slice A m.length cap] 24)
  have hbx : (w.alloc (.cells #[.slice A m.length cap] 24)).cell? ⟨w.heap.size, 0, none⟩ = some (.slice A m.length cap) := by simp [go_sem]
  have d1 : ¬ (12 : Int) < m.length := by omega
  have d2 : decide ((12 : Int) < m.length) = false := decide_eq_false d1
  have d3 : decide (12 < m.length) = false := decide_eq_false (by omega)
  go_enter Tryd.func17, Tryd.ntmps17
  go_wp2_with fail
  refine (Preimage_ok _ _ _ m sl [] _ (hT.on hB) (h.below hB) (hs.below hB) (ints_nilU _) hv ha nil_word).mono ?_
  rintro e w1 ⟨r, rfl, hr, h1⟩
  have hb1 := (h1.cell (p := ⟨w.heap.size, 0, none⟩) (World.block_lt_of_cell? _ _ hbx)).trans hbx
  have hB1 := btr hB h1
  have hr1 := h.below hB1
  have hs1 := hs.below hB1
  have HOf := hid (fun (W : World) (hW : Below w.heap.size w W) => (show Calls Tryd.prog 41 #[.slice As sl.length caps] W fun e w' => e = .returned (.int .u64 (S : Nat)) ∧ W = w' from by
    rw [← HS.out]; exact Of_any _ sl W (hs.below hW) h64))
  have hlt1 := World.block_lt_of_cell? _ _ hb1
  clear hr h hs hbx hB h1 hs1
  go_upto_region 6 with fail
  go_cut [8] from 22 to 25 (fun p wc => ExtP m S wc p ∧ Below w1.heap.size w1 wc)
  case first =>
    go_region_held (fun w' => Below w1.heap.size w1 w' ∧ w'.cell? ⟨w.heap.size, 0, none⟩ = some (.slice A m.length cap)) (exact held_one hb1 (by first | exact below_dr w1 1 | assumption)) (first
      | (go_at_call 41; go_must (refine (HOf.out _ (btr hB1 (by first | exact below_dr w1 1 | exact Below.refl _ _))).mono ?_; rintro e y1 ⟨rfl, hy1⟩; have k1 : Below w1.heap.size w1 y1 := (by rw [← hy1]; first | exact below_dr w1 1 | exact Below.refl _ _); clear hy1))
      | (go_at_call 40; go_must (refine (extended_as _ m S _ (hr1.below (by first | exact k1 | exact bdr k1 1)) hv h12 hSlt).mono ?_; rintro e y2 ⟨p8, rfl, hE, hy2⟩; have HE := hid hE; have k2 : Below w1.heap.size w1 y2 := btr (by first | exact k1 | exact bdr k1 1) hy2; clear hE)))
    all_goals (go_wp2_with fail; go_meet; exact ⟨HE.out, k2⟩)
  case rest =>
    obtain ⟨hE, C0⟩ := hcut
    rcases hE with ⟨u, T, hF, hl, hTP⟩ | ⟨hno, rfl⟩
    · obtain ⟨b, rfl, -, -, -⟩ := id hTP.ptr
      have HTP := hid hTP
      have HF := hid hF
      clear hTP hF
      go_wp2_with fail
      refine (word_any _ T u _ HTP.out (by omega)).mono ?_
      rintro e y3 ⟨r3, rfl, ho, hy3⟩
      go_wp2_with fail
      go_ret2
      exact ⟨.inl ⟨u, r3, HF.out, hl, rfl, row_mono ho (by have := hB1.size; have := C0.size; omega)⟩, btr (btr hB1 C0) hy3⟩
    · have Hno := hid hno
      clear hno
      go_wp2_with fail
      go_ret2
      exact ⟨.inr ⟨Hno.out, rfl⟩, btr hB1 C0⟩
end Go.Proofs.YtphpablchlpagaaDoor
namespace Go.Proofs.YtphpablchlpagaaDoor
open Go.RowKit Go.Shelf
/-- The same roads: each state is led to from each state by some letter in both or in neither. -/
def Alike (m k : List (List Int)) : Prop := k.length = m.length ∧ letters k = letters m ∧ ∀ s, s < m.length → ∀ t, (∃ x, x < letters m ∧ nx m s (x : Int) = t) ↔ ∃ x, x < letters m ∧ nx k s (x : Int) = t
theorem Alike.symm {m k : List (List Int)} (h : Alike m k) : Alike k m := by
  obtain ⟨h1, h2, h3⟩ := h
  refine ⟨h1.symm, h2.symm, fun s hs t => ?_⟩
  rw [h2]
  exact (h3 s (by omega) t).symm
section
variable {m k : List (List Int)}
end
/-- How many times a number occurs. -/
def timesL (l : List Int) (n : Int) : Nat := (l.filter fun x => x == n).length
theorem timesL_perm {l k : List Int} (h : l.Perm k) (n : Int) : timesL l n = timesL k n := (h.filter _).length_eq
/-- Equal numbers of roads: the same roads. -/
def sameM (m k : List (List Int)) : Bool := decide (m.length = k.length) && decide (letters m = letters k) && (List.range m.length).all fun s => (List.range m.length).all fun t : Nat => timesL (m.getD s []) t == timesL (k.getD s []) t
end Go.Proofs.YtphpablchlpagaaDoor
namespace Go.Proofs.YtphpablchlpagaaDoor
open Go.RowKit Go.Shelf
/-- The numbers of the rows below s, and the first y of row s. -/
def flatTo (m : List (List Int)) (s y : Nat) : List Int := (m.take s).flatten ++ (m.getD s []).take y
theorem flatTo_next {m : List (List Int)} {s y : Nat} (hy : y < (m.getD s []).length) : flatTo m s (y + 1) = flatTo m s y ++ [(m.getD s []).getD y 0] := by
  unfold flatTo
  generalize m.getD s [] = r at *
  rw [List.take_succ_eq_append_getElem hy, ← List.append_assoc]
  simp [List.getD_eq_getElem?_getD, hy]
theorem flatTo_row {m : List (List Int)} {s k : Nat} (hs : s < m.length) (hk : (m.getD s []).length = k) : flatTo m (s + 1) 0 = flatTo m s k := by
  unfold flatTo
  rw [List.take_zero, List.append_nil, List.take_succ_eq_append_getElem hs, List.flatten_append, ← hk, List.take_length]
  simp [List.getD_eq_getElem?_getD, hs]
theorem flatTo_end (m : List (List Int)) : flatTo m m.length 0 = m.flatten := by unfold flatTo; simp
theorem timesL_snocU (l : List Int) (x n : Int) : timesL (l ++ [x]) n = timesL l n + if x = n then 1 else 0 := by
  unfold timesL
  rw [List.filter_append, List.length_append]
  by_cases e : x = n
  · simp [e]
  · simp [e]
theorem flat_six {k : Nat} : ∀ (m : List (List Int)), (∀ r ∈ m, r.length ≤ k) → m.flatten.length ≤ k * m.length
  | [], _ => by simp
  | r :: m, h => by
    have h1 := h r (by simp)
    have h2 := flat_six m (fun r hr => h r (by simp [hr]))
    rw [List.flatten_cons, List.length_append, List.length_cons, Nat.mul_succ]; omega
theorem row_six {m : List (List Int)} (hv : validM m = true) {r : List Int} (hr : r ∈ m) : r.length ≤ 6 := by
  obtain ⟨i, hi, rfl⟩ := List.mem_iff_getElem.1 hr
  obtain ⟨-, -, -, p4, p5⟩ := valid_parts hv
  have := (p5 i hi).1
  simp only [List.getD_eq_getElem?_getD, List.getElem?_eq_getElem hi, Option.getD_some] at this
  omega
theorem flatTo_len {m : List (List Int)} (hv : validM m = true) {s y : Nat} (hs : s < m.length) : (flatTo m s y).length ≤ 400 := by
  obtain ⟨p1, p2, p3, p4, p5⟩ := valid_parts hv
  have h1 := flat_six (k := 6) (m.take s) (fun r hr => row_six hv (List.mem_of_mem_take hr))
  have h2 := (p5 s hs).1
  unfold flatTo
  rw [List.length_append, List.length_take]
  rw [List.length_take] at h1
  have : min s m.length ≤ 60 := by omega
  have := Nat.mul_le_mul_left 6 this
  omega
theorem timesL_len (l : List Int) (n : Int) : timesL l n ≤ l.length := List.length_filter_le _ _
/-- Counts of the numbers below n. -/
def Lc (n : Nat) (c : Nat → Nat) : List Value := (List.range n).map fun t => .int .i64 (c t : Nat)
theorem Lc_cell {n i : Nat} (c : Nat → Nat) (h : i < n) : (Lc n c)[i]? = some (.int .i64 (c i : Nat)) := by simp [Lc, h]
theorem Lc_set {n i : Nat} (c : Nat → Nat) (v : Nat) : (Lc n c).set i (.int .i64 (v : Nat)) = Lc n (fun t => if t = i then v else c t) := by
  apply List.ext_getElem
  · simp [Lc]
  · intro j h1 h2
    simp only [Lc, List.length_set, List.length_map, List.length_range] at h1
    rw [List.getElem_set]
    by_cases e : i = j
    · subst e; simp [Lc]
    · simp [Lc, e, show ¬ j = i from fun h => e h.symm]
theorem Lc_congr {n : Nat} {c d : Nat → Nat} (h : ∀ t, t < n → c t = d t) : Lc n c = Lc n d := by
  unfold Lc
  exact List.map_congr_left fun t ht => by rw [h t (by simpa using ht)]
def eulB (m : List (List Int)) : Bool := (List.range m.length).all fun t : Nat => timesL m.flatten (t : Int) == letters m
theorem eulB_false {m : List (List Int)} {t : Nat} (ht : t < m.length) (h : timesL m.flatten (t : Int) ≠ letters m) : eulB m = false := by
  unfold eulB
  rw [List.all_eq_false]
  exact ⟨t, List.mem_range.2 ht, by simpa using h⟩
theorem eulB_true {m : List (List Int)} (h : ∀ t, t < m.length → timesL m.flatten (t : Int) = letters m) : eulB m = true := by
  unfold eulB
  rw [List.all_eq_true]
  exact fun t ht => by rw [h t (List.mem_range.1 ht)]; simp
theorem eulB_iff {m : List (List Int)} : eulB m = true ↔ ∀ t, t < m.length → timesL m.flatten (t : Int) = letters m := by
  refine ⟨fun h t ht => ?_, eulB_true⟩
  apply Classical.byContradiction
  intro hn
  rw [eulB_false ht hn] at h
  cases h
set_option maxRecDepth 100000 in
set_option maxHeartbeats 4000000 in
theorem eulerian_any (v : Value) (m : List (List Int)) (w : World) (h : Rows w v m) (hv : validM m = true) :
    Calls Tryd.prog 32 #[.agg #[v]] w fun e w' => e = .returned (.bool (eulB m)) ∧ Below w.heap.size w w' := by
  obtain ⟨j0, hj, hy0, hy1, hy2⟩ := info_parts infoInt
  obtain ⟨p1, p2, p3, p4, p5⟩ := valid_parts hv
  have hr := h
  obtain ⟨A, cap, rfl, hml, hc⟩ := h
  obtain ⟨b0, off0, r0, hA, hc0, A0, cap0, hr0, -, -⟩ := hc 0 (by omega)
  subst hA
  subst hr0
  have hc0 : w.cell? ⟨b0, off0, none⟩ = some (.slice A0 (letters m) cap0) := hc0
  unfold big at hml
  have hX := bal (Below.refl _ w) (.cells #[.slice (some ⟨b0, off0, none⟩) m.length cap] 24)
  have Hc := hid hc
  clear hc
  go_enter Tryd.func32, Tryd.ntmps32
  go_wp2_with (at_make; go_must (refine wpList_make_full _ rfl _ _ 34 rfl (w.heap.size + 1) 3 j0 (.int .i64 0) 1 Tryd.underlying34 hj hy0 hy1 .i64 .i64 _ _ m.length rfl rfl rfl rfl (by rw [hy2]; omega) (by unfold maxLen; omega) (by simp) ?_); intro w1 hown hgrow; rw [show Value.cells (.int .i64 0) = #[.int .i64 0] from rfl, toList_madeCells_one, Nat.mul_one] at hown; simp only [World.size_alloc] at hown; have bx : w1.cell? ⟨w.heap.size, 0, none⟩ = some (.slice (some ⟨b0, off0, none⟩) m.length cap) := (World.cell?_of_block (hgrow.block w.heap.size (by simp) (by simp))).trans (by simp [go_sem]))
  have hB1 := hX.grown hgrow (by simp) (fun q hq => by cases hq)
  have hown0 : w1.ownsRow (w.heap.size + 1) 3 1 (.slice (some ⟨w.heap.size + 1, 0, none⟩) m.length m.length) m.length (Lc m.length fun t => timesL (flatTo m 0 0) t) := by
    have e : (Lc m.length fun t => timesL (flatTo m 0 0) t) = List.replicate m.length (.int .i64 0) := by
      apply List.ext_getElem
      · simp [Lc]
      · intro i h1 h2; simp [Lc, flatTo, timesL]
    rw [e]; simpa using hown
  have Hr := hid hr
  clear hown hgrow hX hr
  go_loopw [17] (fun sv wr => ∃ (s : Nat), s ≤ m.length ∧ sv = .int .i64 s ∧ wr.ownsRow (w.heap.size + 1) 3 1 (.slice (some ⟨w.heap.size + 1, 0, none⟩) m.length m.length) m.length (Lc m.length fun t => timesL (flatTo m s 0) t) ∧ Below w.heap.size w wr ∧ wr.cell? ⟨w.heap.size, 0, none⟩ = some (.slice (some ⟨b0, off0, none⟩) m.length cap)) (fun sv _ => m.length - (intOf sv).toNat)
  case atStart => exact ⟨0, Nat.zero_le _, rfl, hown0, hB1, bx⟩
  case round =>
    clear hown0 hB1 bx
    obtain ⟨s, hs, rfl, hO, hB, hbx⟩ := hrel
    have HO := hid hO
    clear hO
    by_cases hlt : s < m.length
    · have hss : (s : Int) < m.length := by omega
      have hsd : decide (s < m.length) = true := decide_eq_true hlt
      obtain ⟨b, off, r, hA, hcell, hI⟩ := Hc.out s hlt
      simp only [Option.some.injEq, Addr.mk.injEq, and_true] at hA
      obtain ⟨rfl, rfl⟩ := hA
      obtain ⟨As, caps, rfl, hls, hcs⟩ := hI
      obtain ⟨hrl, hrv⟩ := p5 s hlt
      have hcell' := (hB.cell (p := ⟨b0, off0 + s, none⟩) (World.block_lt_of_cell? _ _ hcell)).trans hcell
      have Hnx := hid (fun y (hy : y < letters m) => nx_ok hv hlt (x := (y : Int)) (by omega) (by omega))
      have hfn := fun y => flatTo_next (m := m) (s := s) (y := y)
      have hfr := flatTo_row hlt hrl
      have hfl := fun y => flatTo_len hv (s := s) (y := y) hlt
      rw [hrl] at hls
      obtain ⟨row, hrow⟩ : ∃ r, m.getD s [] = r := ⟨_, rfl⟩
      rw [hrow] at hcell' hcs hrl hfn
      have Hrl := hid hrl
      have Hrow := hid hrow
      rw [hrl] at hcell' hcs
      have Hcs := hid hcs
      have Hfn := hid hfn
      have Hfr := hid hfr
      have Hfl := hid hfl
      clear hcell hcs hrl hrow hrv hfn hfr hfl
      obtain ⟨wo, rfl⟩ : ∃ wo : World, wo = wr := ⟨_, rfl⟩
      go_wp2_with fail
      go_loopw [23] (fun yv wr => ∃ (y : Nat), y ≤ letters m ∧ yv = .int .i64 y ∧ wr.ownsRow (w.heap.size + 1) 3 1 (.slice (some ⟨w.heap.size + 1, 0, none⟩) m.length m.length) m.length (Lc m.length fun t => timesL (flatTo m s y) t) ∧ Below w.heap.size w wr ∧ wr.cell? ⟨w.heap.size, 0, none⟩ = some (.slice (some ⟨b0, off0, none⟩) m.length cap)) (fun yv _ => letters m - (intOf yv).toNat)
      case atStart => exact ⟨0, Nat.zero_le _, rfl, HO.out, hB, hbx⟩
      case round =>
        clear HO hB hbx hcell'
        obtain ⟨y, hy, rfl, hO, hB, hbx⟩ := hrel
        by_cases hyl : y < letters m
        · have hyy : (y : Int) < letters m := by omega
          have hyd : decide (y < letters m) = true := decide_eq_true hyl
          obtain ⟨bs, offs, hAs, hce⟩ := Hcs.out y hyl
          subst hAs
          obtain ⟨q, hq⟩ : ∃ q, nx m s (y : Int) = q := ⟨_, rfl⟩
          obtain ⟨n1, n2⟩ := Hnx.out y hyl
          rw [hq] at n1 n2
          rw [Int.toNat_natCast, Hrow.out] at n2
          rw [n2] at hce
          have hce' := (hB.cell (p := ⟨bs, offs + y, none⟩) (World.block_lt_of_cell? _ _ hce)).trans hce
          have hqq : (q : Int) < m.length := by omega
          have hcA := hO.cellAt q (by omega)
          rw [Lc_cell _ n1] at hcA
          have hfA := hO.frozenAt q
          obtain ⟨c, hcc⟩ : ∃ c, timesL (flatTo m s y) (q : Int) = c := ⟨_, rfl⟩
          have hc400 : c ≤ 400 := by rw [← hcc]; exact Nat.le_trans (timesL_len _ _) (Hfl.out y)
          rw [hcc] at hcA
          have hSt := (hO.stored q (.int .i64 ((c + 1 : Nat) : Int))).1
          have hfun : (Lc m.length fun t => if t = q then c + 1 else timesL (flatTo m s y) t) = Lc m.length fun t => timesL (flatTo m s (y + 1)) t := Lc_congr fun t _ => by
            rw [Hfn.out y (by rw [Hrl.out]; exact hyl), timesL_snocU, n2]
            by_cases e : t = q
            · subst e; rw [if_pos rfl, if_pos rfl, hcc]
            · rw [if_neg e, if_neg (by omega)]; rfl
          rw [Lc_set, hfun] at hSt
          have HSt := hid hSt
          have hBs := hid (hB.setCell (p := ⟨w.heap.size + 1, q, none⟩) (by show w.heap.size ≤ w.heap.size + 1; omega) (.int .i64 ((c + 1 : Nat) : Int)))
          have hbxs : (wr.setCell ⟨w.heap.size + 1, q, none⟩ (.int .i64 ((c + 1 : Nat) : Int))).cell? ⟨w.heap.size, 0, none⟩ = some (.slice (some ⟨b0, off0, none⟩) m.length cap) := (World.cell?_of_block (Below.heap_setCell _ _ _ _ (by simp))).trans hbx
          rw [show ((c + 1 : Nat) : Int) = (c : Int) + 1 from rfl] at HSt hBs hbxs
          clear hSt hfun hO hce hcc n2 hq
          go_wp2_with fail
          go_roundw
          case rel => exact ⟨y + 1, by omega, by go_num, HSt.out, hBs.out, hbxs⟩
          case measure => simp [intOf]; omega
        · have hyy : ¬ (y : Int) < letters m := by omega
          have hyd : decide (y < letters m) = false := decide_eq_false hyl
          obtain rfl : y = letters m := by omega
          have HO := hid hO
          clear hO
          go_wp2_with fail
          go_roundw
          case rel => exact ⟨s + 1, by omega, by go_num, by rw [Hfr.out]; exact HO.out, hB, hbx⟩
          case measure => simp [intOf]; omega
    · have hss : ¬ (s : Int) < m.length := by omega
      have hsd : decide (s < m.length) = false := decide_eq_false hlt
      obtain rfl : s = m.length := by omega
      have hO := HO.out
      rw [flatTo_end] at hO
      have HO := hid hO
      clear hO
      go_wp2_with fail
      go_loopw [37] (fun tv wr => ∃ (t : Nat), t ≤ m.length ∧ tv = .int .i64 t ∧ (∀ t', t' < t → timesL m.flatten (t' : Int) = letters m) ∧ wr.ownsRow (w.heap.size + 1) 3 1 (.slice (some ⟨w.heap.size + 1, 0, none⟩) m.length m.length) m.length (Lc m.length fun t => timesL m.flatten t) ∧ Below w.heap.size w wr ∧ wr.cell? ⟨w.heap.size, 0, none⟩ = some (.slice (some ⟨b0, off0, none⟩) m.length cap)) (fun tv _ => m.length - (intOf tv).toNat)
      case atStart => exact ⟨0, Nat.zero_le _, rfl, fun t' h => by omega, HO.out, hB, hbx⟩
      case round =>
        clear HO hB hbx
        obtain ⟨t, ht, rfl, hpre, hO, hB, hbx⟩ := hrel
        have Hpre := hid hpre
        clear hpre
        by_cases hlt2 : t < m.length
        · have htt : (t : Int) < m.length := by omega
          have htd : decide (t < m.length) = true := decide_eq_true hlt2
          have hcA := hO.cellAt t (by omega)
          rw [Lc_cell _ hlt2] at hcA
          have hc0' := (hB.cell (p := ⟨b0, off0, none⟩) (World.block_lt_of_cell? _ _ hc0)).trans hc0
          obtain ⟨c, hcc⟩ : ∃ c, timesL m.flatten (t : Int) = c := ⟨_, rfl⟩
          rw [hcc] at hcA
          have HO := hid hO
          have Hcc := hid hcc
          clear hO hcc
          by_cases hcl : c = letters m
          · subst hcl
            go_wp2_with fail
            go_roundw
            case rel => exact ⟨t + 1, by omega, by go_num, fun t' h' => by
              by_cases e : t' = t
              · subst e; exact Hcc.out
              · exact Hpre.out t' (by omega), HO.out, hB, hbx⟩
            case measure => simp [intOf]; omega
          · have hne : ¬ ((c : Int) = letters m) := by omega
            have hnd : decide ((c : Int) = letters m) = false := decide_eq_false hne
            have hnb : ((c : Int) == letters m) = false := by simpa using hne
            go_wp2_with fail
            go_ret
            rw [eulB_false hlt2 (by rw [Hcc.out]; exact hcl)]
            exact ⟨rfl, hB⟩
        · have htt : ¬ (t : Int) < m.length := by omega
          have htd : decide (t < m.length) = false := decide_eq_false hlt2
          obtain rfl : t = m.length := by omega
          clear hO
          go_wp2_with fail
          go_ret
          rw [eulB_true Hpre.out]
          exact ⟨rfl, hB⟩
end Go.Proofs.YtphpablchlpagaaDoor
namespace Go.Proofs.YtphpablchlpagaaDoor
def sumI (f : Nat → Int) : Nat → Int
  | 0 => 0
  | t + 1 => sumI f t + f t
theorem sumI_congr {f g : Nat → Int} : ∀ {n : Nat}, (∀ t, t < n → f t = g t) → sumI f n = sumI g n
  | 0, _ => rfl
  | n + 1, h => by show sumI f n + f n = sumI g n + g n; rw [sumI_congr fun t ht => h t (by omega), h n (by omega)]
theorem sumI_add (f g : Nat → Int) : ∀ n, sumI (fun t => f t + g t) n = sumI f n + sumI g n
  | 0 => rfl
  | n + 1 => by show sumI (fun t => f t + g t) n + (f n + g n) = sumI f n + f n + (sumI g n + g n); rw [sumI_add f g n]; omega
theorem sumI_mul (c : Int) (f : Nat → Int) : ∀ n, sumI (fun t => c * f t) n = c * sumI f n
  | 0 => by simp [sumI]
  | n + 1 => by show sumI (fun t => c * f t) n + c * f n = c * (sumI f n + f n); rw [sumI_mul c f n, Int.mul_add]
theorem sumI_const (c : Int) : ∀ n : Nat, sumI (fun _ => c) n = n * c
  | 0 => by simp [sumI]
  | n + 1 => by show sumI (fun _ => c) n + c = ((n + 1 : Nat) : Int) * c; rw [sumI_const c n]; grind
/-- A sum of multiples of vectors. -/
def comb : List (Int × (Nat → Int)) → Nat → Int
  | [], _ => 0
  | (a, u) :: l, t => a * u t + comb l t
theorem comb_append : ∀ (l k : List (Int × (Nat → Int))) (t : Nat), comb (l ++ k) t = comb l t + comb k t
  | [], k, t => by simp [comb]
  | (a, u) :: l, k, t => by show a * u t + comb (l ++ k) t = a * u t + comb l t + comb k t; rw [comb_append l k t, Int.add_assoc]
theorem comb_scale (c : Int) : ∀ (l : List (Int × (Nat → Int))) (t : Nat), comb (l.map fun p => (c * p.1, p.2)) t = c * comb l t
  | [], t => by simp [comb]
  | (a, u) :: l, t => by show c * a * u t + comb _ t = c * (a * u t + comb l t); rw [comb_scale c l t]; grind
/-- v is a combination of vectors of P, on the first n places, up to a factor. -/
def SpanI (n : Nat) (P : (Nat → Int) → Prop) (v : Nat → Int) : Prop := ∃ (c : Int) (l : List (Int × (Nat → Int))), c ≠ 0 ∧ (∀ p ∈ l, P p.2) ∧ ∀ t, t < n → c * v t = comb l t
theorem SpanI.of {n : Nat} {P : (Nat → Int) → Prop} {v : Nat → Int} (h : P v) : SpanI n P v := ⟨1, [(1, v)], by decide, fun p hp => by
  obtain rfl : p = (1, v) := by simpa using hp
  exact h, fun t _ => by simp [comb]⟩
theorem SpanI.mono {n : Nat} {P Q : (Nat → Int) → Prop} {v : Nat → Int} (h : SpanI n P v) (hPQ : ∀ u, P u → Q u) : SpanI n Q v := by
  obtain ⟨c, l, h1, h2, h3⟩ := h
  exact ⟨c, l, h1, fun p hp => hPQ _ (h2 p hp), h3⟩
/-- Combinations of combinations. -/
theorem SpanI.comb {n : Nat} {P : (Nat → Int) → Prop} : ∀ (l : List (Int × (Nat → Int))), (∀ p ∈ l, SpanI n P p.2) → SpanI n P (comb l)
  | [], _ => ⟨1, [], by decide, fun p hp => by simp at hp, fun t _ => by simp [Go.Proofs.YtphpablchlpagaaDoor.comb]⟩
  | (a, u) :: l, h => by
    obtain ⟨c, k, h1, h2, h3⟩ := h (a, u) (by simp)
    obtain ⟨d, j, g1, g2, g3⟩ := SpanI.comb l (fun p hp => h p (by simp [hp]))
    refine ⟨c * d, k.map (fun p => (a * d * p.1, p.2)) ++ j.map (fun p => (c * p.1, p.2)), Int.mul_ne_zero h1 g1, fun p hp => ?_, fun t ht => ?_⟩
    · rcases List.mem_append.1 hp with hp | hp
      · obtain ⟨q, hq, rfl⟩ := List.mem_map.1 hp
        exact h2 q hq
      · obtain ⟨q, hq, rfl⟩ := List.mem_map.1 hp
        exact g2 q hq
    · rw [comb_append, comb_scale, comb_scale, ← h3 t ht, ← g3 t ht]
      show c * d * (a * u t + Go.Proofs.YtphpablchlpagaaDoor.comb l t) = _
      simp only
      grind
theorem SpanI.trans {n : Nat} {P Q : (Nat → Int) → Prop} {v : Nat → Int} (h : SpanI n P v) (hPQ : ∀ u, P u → SpanI n Q u) : SpanI n Q v := by
  obtain ⟨c, l, h1, h2, h3⟩ := h
  obtain ⟨d, k, g1, g2, g3⟩ := SpanI.comb l (fun p hp => hPQ _ (h2 p hp))
  exact ⟨d * c, k, Int.mul_ne_zero g1 h1, g2, fun t ht => by rw [← g3 t ht, ← h3 t ht, Int.mul_assoc]⟩
/-- More vectors than places are dependent. -/
theorem dependent : ∀ (n : Nat) (L : List (Nat → Int)), n < L.length → ∃ A : List Int, A.length = L.length ∧ (∃ a ∈ A, a ≠ 0) ∧ ∀ t, t < n → comb (A.zip L) t = 0
  | 0, L, h => ⟨List.replicate L.length 1, by simp, ⟨1, List.mem_replicate.2 ⟨by omega, rfl⟩, by decide⟩, fun t ht => by omega⟩
  | n + 1, L, h => by
    by_cases hz : ∀ u ∈ L, u n = 0
    · obtain ⟨A, h1, h2, h3⟩ := dependent n L (by omega)
      refine ⟨A, h1, h2, fun t ht => ?_⟩
      by_cases e : t = n
      · subst e
        have key : ∀ (A : List Int) (L : List (Nat → Int)), (∀ u ∈ L, u t = 0) → comb (A.zip L) t = 0 := by
          intro A
          induction A with
          | nil => intro L _; rfl
          | cons a A ih =>
            intro L hL
            cases L with
            | nil => rfl
            | cons u L =>
              show a * u t + comb (A.zip L) t = 0
              rw [hL u (by simp), ih L (fun v hv => hL v (by simp [hv]))]
              simp
        exact key A L hz
      · exact h3 t (by omega)
    · obtain ⟨p, hp, hpn⟩ : ∃ p, p ∈ L ∧ p n ≠ 0 := by
        apply Classical.byContradiction
        intro h2
        exact hz fun u hu => Classical.byContradiction fun h3 => h2 ⟨u, hu, h3⟩
      obtain ⟨B, C, rfl⟩ := List.append_of_mem hp
      obtain ⟨A, h1, ⟨a, ha, ha0⟩, h3⟩ := dependent n ((B ++ C).map fun u t => p n * u t - u n * p t) (by simp at h ⊢; omega)
      rw [List.length_map, List.length_append] at h1
      -- the coefficients: those of B, that of p, those of C
      have hcomb : ∀ (A : List Int) (K : List (Nat → Int)), A.length = K.length → ∃ e : Int, ∀ t, comb (A.zip (K.map fun u t => p n * u t - u n * p t)) t = p n * comb (A.zip K) t - e * p t ∧ comb (A.zip K) n = e := by
        intro A
        induction A with
        | nil => intro K _; exact ⟨0, fun t => by simp [comb]⟩
        | cons a A ih =>
          intro K hK
          cases K with
          | nil => simp at hK
          | cons u K =>
            obtain ⟨e, he⟩ := ih K (by simpa using hK)
            refine ⟨a * u n + e, fun t => ⟨?_, ?_⟩⟩
            · show a * (p n * u t - u n * p t) + comb (A.zip (K.map _)) t = p n * (a * u t + comb (A.zip K) t) - (a * u n + e) * p t
              rw [(he t).1]; grind
            · show a * u n + comb (A.zip K) n = a * u n + e
              rw [(he t).2]
      obtain ⟨e, he⟩ := hcomb A (B ++ C) (by rw [List.length_append]; exact h1)
      have hAs : A = A.take B.length ++ A.drop B.length := (List.take_append_drop _ _).symm
      have hz1 : A.zip (B ++ C) = (A.take B.length).zip B ++ (A.drop B.length).zip C := by
        conv => lhs; rw [hAs]
        exact List.zip_append (by rw [List.length_take]; omega)
      refine ⟨(A.take B.length).map (fun x => p n * x) ++ (-e) :: (A.drop B.length).map (fun x => p n * x), by simp; omega, ⟨p n * a, ?_, Int.mul_ne_zero hpn ha0⟩, fun t ht => ?_⟩
      · rw [hAs] at ha
        rcases List.mem_append.1 ha with ha | ha
        · exact List.mem_append_left _ (List.mem_map.2 ⟨a, ha, rfl⟩)
        · exact List.mem_append_right _ (List.mem_cons_of_mem _ (List.mem_map.2 ⟨a, ha, rfl⟩))
      · have hzz : ((A.take B.length).map (fun x => p n * x) ++ (-e) :: (A.drop B.length).map (fun x => p n * x)).zip (B ++ p :: C) = ((A.take B.length).zip B).map (fun q => (p n * q.1, q.2)) ++ (-e, p) :: ((A.drop B.length).zip C).map (fun q => (p n * q.1, q.2)) := by
          rw [List.zip_append (by simp; omega), List.zip_cons_cons, List.zip_map_left, List.zip_map_left]
          rfl
        rw [hzz, comb_append]
        show comb _ t + (-e * p t + comb _ t) = 0
        rw [comb_scale, comb_scale]
        have h4 := (he t).1
        rw [hz1, comb_append] at h4
        by_cases e2 : t = n
        · subst e2
          have h5 := (he t).2
          rw [hz1, comb_append] at h5
          grind
        · rw [h3 t (by omega)] at h4
          grind
/-- A row of vectors, each of which is no combination of those before it, has no more of them than places. -/
theorem indep_len {n : Nat} {L : List (Nat → Int)} (h : ∀ i, i < L.length → ¬ SpanI n (fun u => u ∈ L.take i) (L.getD i fun _ => 0)) : L.length ≤ n := by
  apply Classical.byContradiction
  intro hlt
  obtain ⟨A, h1, ⟨a, ha, ha0⟩, h3⟩ := dependent n L (by omega)
  -- the last coefficient that is not 0
  have key : ∀ (d : Nat) (A : List Int) (L : List (Nat → Int)), L.length = d → A.length = L.length → (∃ a ∈ A, a ≠ 0) → (∀ t, t < n → comb (A.zip L) t = 0) → ∃ i, i < L.length ∧ SpanI n (fun u => u ∈ L.take i) (L.getD i fun _ => 0) := by
    intro d
    induction d with
    | zero =>
      intro A L hd hA ⟨a, ha, _⟩ _
      rw [List.eq_nil_of_length_eq_zero (by omega : A.length = 0)] at ha
      simp at ha
    | succ d ih =>
      intro A L hd hA ⟨a, ha, ha0⟩ hc
      have hAne : A ≠ [] := fun e => by rw [e] at hA; simp at hA; omega
      have hLne : L ≠ [] := fun e => by rw [e] at hd; simp at hd
      obtain ⟨A', b, rfl⟩ : ∃ A' b, A = A' ++ [b] := ⟨_, _, (List.dropLast_concat_getLast hAne).symm⟩
      obtain ⟨L', u, rfl⟩ : ∃ L' u, L = L' ++ [u] := ⟨_, _, (List.dropLast_concat_getLast hLne).symm⟩
      simp only [List.length_append, List.length_cons, List.length_nil] at hd hA
      have hzip : (A' ++ [b]).zip (L' ++ [u]) = A'.zip L' ++ [(b, u)] := by rw [List.zip_append (by omega)]; rfl
      rw [hzip] at hc
      have hcv : ∀ t, t < n → comb (A'.zip L') t + b * u t = 0 := fun t ht => by
        have := hc t ht
        rw [comb_append] at this
        simpa [comb] using this
      by_cases hb : b = 0
      · have ha' : ∃ a ∈ A', a ≠ 0 := by
          rcases List.mem_append.1 ha with ha | ha
          · exact ⟨a, ha, ha0⟩
          · obtain rfl : a = b := by simpa using ha
            exact absurd hb ha0
        obtain ⟨i, hi, hs⟩ := ih A' L' (by omega) (by omega) ha' (fun t ht => by have := hcv t ht; rw [hb] at this; simpa using this)
        refine ⟨i, by simp; omega, ?_⟩
        rw [List.take_append_of_le_length (by omega)]
        have e : (L' ++ [u]).getD i (fun _ => 0) = L'.getD i (fun _ => 0) := by simp [List.getD_eq_getElem?_getD, List.getElem?_append_left hi]
        rw [e]; exact hs
      · refine ⟨L'.length, by simp, ?_⟩
        have e : (L' ++ [u]).getD L'.length (fun _ => 0) = u := by simp [List.getD_eq_getElem?_getD]
        rw [e, List.take_left]
        refine ⟨-b, A'.zip L', by omega, fun p hp => (List.of_mem_zip hp).2, fun t ht => ?_⟩
        have := hcv t ht
        have e3 : -b * u t = - (b * u t) := Int.neg_mul _ _
        omega
  obtain ⟨i, hi, hs⟩ := key L.length A L rfl h1 ⟨a, ha, ha0⟩ h3
  exact h i hi hs
/-- The vector of a word: how the weights lie before it, less their mean. -/
def vecW (E : Nat → Nat → Nat) (n : Nat) (f : Nat → Int) (w : List Nat) (q : Nat) : Int := n * f (runE E q w) - sumI f n
theorem vecW_cons (E : Nat → Nat → Nat) (n : Nat) (f : Nat → Int) (x : Nat) (w : List Nat) (q : Nat) : vecW E n f (x :: w) q = vecW E n f w (E q x) := rfl
theorem vecW_sum (E : Nat → Nat → Nat) (n : Nat) (f : Nat → Int) (w : List Nat) : sumI (vecW E n f w) n = n * (sumI (fun q => f (runE E q w)) n - sumI f n) := by
  have e : sumI (vecW E n f w) n = sumI (fun q => n * f (runE E q w) + -(sumI f n)) n := sumI_congr fun t _ => by unfold vecW; omega
  rw [e, sumI_add, sumI_mul, sumI_const]
  grind
/-- Sums that vanish: the last place follows from the others. -/
theorem span_drop {n : Nat} {P : (Nat → Int) → Prop} {v : Nat → Int} (hP : ∀ u, P u → sumI u (n + 1) = 0) (hv : sumI v (n + 1) = 0) (h : SpanI n P v) : SpanI (n + 1) P v := by
  obtain ⟨c, l, h1, h2, h3⟩ := h
  refine ⟨c, l, h1, h2, fun t ht => ?_⟩
  by_cases e : t < n
  · exact h3 t e
  obtain rfl : t = n := by omega
  have hs : sumI (comb l) (t + 1) = 0 := by
    have key : ∀ l : List (Int × (Nat → Int)), (∀ p ∈ l, P p.2) → sumI (comb l) (t + 1) = 0 := by
      intro l
      induction l with
      | nil => intro _; have : sumI (comb []) (t + 1) = sumI (fun _ => 0) (t + 1) := sumI_congr fun _ _ => rfl; rw [this, sumI_const]; simp
      | cons p l ih =>
        intro hp
        obtain ⟨a, u⟩ := p
        have : sumI (comb ((a, u) :: l)) (t + 1) = sumI (fun s => a * u s + comb l s) (t + 1) := sumI_congr fun _ _ => rfl
        rw [this, sumI_add, sumI_mul, hP u (hp (a, u) (by simp)), ih (fun q hq => hp q (by simp [hq]))]
        simp
    exact key l h2
  have hs2 : sumI (fun s => c * v s) (t + 1) = 0 := by rw [sumI_mul, hv]; simp
  have h4 : sumI (fun s => c * v s) t = sumI (comb l) t := sumI_congr h3
  have h5 : sumI (fun s => c * v s) t + c * v t = 0 := hs2
  have h6 : sumI (comb l) t + comb l t = 0 := hs
  omega
/-- KARI: where no word of fewer than n letters turns the weight, none does. -/
theorem kari_lin {n k : Nat} {E : Nat → Nat → Nat} (hE : Ok n k E) {f : Nat → Int} (hne : ∃ p q, p < n ∧ q < n ∧ f p ≠ f q) (hs : ∀ w, Wd k w → w.length < n → sumI (fun q => f (runE E q w)) n = sumI f n) : ∀ w, Wd k w → sumI (fun q => f (runE E q w)) n = sumI f n := by
  obtain ⟨p0, q0, hp0, hq0, hf⟩ := hne
  have hn : 0 < n := by omega
  have hzero : ∀ w, Wd k w → w.length < n → sumI (vecW E n f w) n = 0 := fun w hw hl => by rw [vecW_sum, hs w hw hl]; simp
  -- some length brings nothing new
  obtain ⟨d, hd, hdn⟩ : ∃ d, d < n ∧ ∀ w, Wd k w → w.length = d → SpanI n (fun u => ∃ v, Wd k v ∧ v.length < d ∧ u = vecW E n f v) (vecW E n f w) := by
    apply Classical.byContradiction
    intro hno
    have hnew : ∀ d, ∃ w, d < n → Wd k w ∧ w.length = d ∧ ¬ SpanI n (fun u => ∃ v, Wd k v ∧ v.length < d ∧ u = vecW E n f v) (vecW E n f w) := fun d => by
      by_cases h : d < n
      · apply Classical.byContradiction
        intro h2
        exact hno ⟨d, h, fun w hw hl => Classical.byContradiction fun h3 => h2 ⟨w, fun _ => ⟨hw, hl, h3⟩⟩⟩
      · exact ⟨[], fun h2 => absurd h2 h⟩
    obtain ⟨ω, hω⟩ := Classical.axiomOfChoice hnew
    obtain ⟨m, rfl⟩ : ∃ m, n = m + 1 := ⟨n - 1, by omega⟩
    have := indep_len (n := m) (L := (List.range (m + 1)).map fun d => vecW E (m + 1) f (ω d)) (fun i hi hsp => by
      have him : i < m + 1 := by simpa using hi
      obtain ⟨a1, a2, a3⟩ := hω i him
      apply a3
      have e1 : ((List.range (m + 1)).map fun d => vecW E (m + 1) f (ω d)).getD i (fun _ => 0) = vecW E (m + 1) f (ω i) := by simp [List.getD_eq_getElem?_getD, him]
      rw [e1] at hsp
      refine span_drop (fun u hu => ?_) (hzero _ a1 (by omega)) (hsp.mono fun u hu => ?_)
      · obtain ⟨v, v1, v2, rfl⟩ := hu
        exact hzero v v1 (by omega)
      · rw [← List.map_take, List.take_range, List.mem_map] at hu
        obtain ⟨j, hj, rfl⟩ := hu
        have hj := List.mem_range.1 hj
        obtain ⟨b1, b2, _⟩ := hω j (by omega)
        exact ⟨ω j, b1, by omega, rfl⟩)
    simp at this
    omega
  -- all longer words bring nothing new
  have hall : ∀ (N : Nat) (w : List Nat), w.length = N → Wd k w → SpanI n (fun u => ∃ v, Wd k v ∧ v.length < d ∧ u = vecW E n f v) (vecW E n f w) := by
    intro N
    induction N with
    | zero =>
      intro w hl hw
      by_cases h0 : 0 < d
      · exact SpanI.of ⟨w, hw, by omega, rfl⟩
      · exact hdn w hw (by omega)
    | succ N ih =>
      intro w hl hw
      rcases Nat.lt_trichotomy (N + 1) d with h | h | h
      · exact SpanI.of ⟨w, hw, by omega, rfl⟩
      · exact hdn w hw (by omega)
      · cases w with
        | nil => simp at hl
        | cons x w =>
          have hx := hw x (by simp)
          obtain ⟨c, l, h1, h2, h3⟩ := ih w (by simpa using hl) (fun z hz => hw z (by simp [hz]))
          have hstep : SpanI n (fun u => ∃ v, Wd k v ∧ v.length < d + 1 ∧ u = vecW E n f v) (vecW E n f (x :: w)) := by
            refine ⟨c, l.map (fun p => (p.1, fun q => p.2 (E q x))), h1, fun p hp => ?_, fun t ht => ?_⟩
            · obtain ⟨q, hq, rfl⟩ := List.mem_map.1 hp
              obtain ⟨v, v1, v2, v3⟩ := h2 q hq
              exact ⟨x :: v, v1.cons hx, by simp; omega, by funext s; show q.2 (E s x) = _; rw [v3]; rfl⟩
            · rw [vecW_cons, h3 _ (hE t x ht hx)]
              clear h2 h3
              induction l with
              | nil => rfl
              | cons p l ihl => show p.1 * p.2 (E t x) + comb l (E t x) = p.1 * p.2 (E t x) + comb _ t; rw [ihl]
          refine hstep.trans fun u hu => ?_
          obtain ⟨v, v1, v2, rfl⟩ := hu
          by_cases e : v.length = d
          · exact hdn v v1 e
          · exact SpanI.of ⟨v, v1, by omega, rfl⟩
  intro w hw
  obtain ⟨c, l, h1, h2, h3⟩ := hall _ w rfl hw
  have hz : sumI (comb l) n = 0 := by
    clear h3
    induction l with
    | nil => have : sumI (comb []) n = sumI (fun _ => 0) n := sumI_congr fun _ _ => rfl; rw [this, sumI_const]; simp
    | cons p l ih =>
      obtain ⟨a, u⟩ := p
      have e : sumI (comb ((a, u) :: l)) n = sumI (fun s => a * u s + comb l s) n := sumI_congr fun _ _ => rfl
      obtain ⟨v, v1, v2, v3⟩ := h2 (a, u) (by simp)
      simp only at v3
      rw [e, sumI_add, sumI_mul, v3, hzero v v1 (by omega), ih (fun q hq => h2 q (by simp [hq]))]
      simp
  have h5 : c * sumI (vecW E n f w) n = 0 := by rw [← sumI_mul, sumI_congr h3, hz]
  have h6 : sumI (vecW E n f w) n = 0 := by
    rcases Int.mul_eq_zero.1 h5 with h | h
    · exact absurd h h1
    · exact h
  rw [vecW_sum] at h6
  rcases Int.mul_eq_zero.1 h6 with h | h
  · omega
  · omega
end Go.Proofs.YtphpablchlpagaaDoor
namespace Go.Proofs.YtphpablchlpagaaDoor
open Go.RowKit Go.Shelf
/-- The rows of a state hold each number as often. -/
def sameAt (m k : List (List Int)) (s : Nat) : Bool := (List.range m.length).all fun t : Nat => timesL (m.getD s []) t == timesL (k.getD s []) t
end Go.Proofs.YtphpablchlpagaaDoor
namespace Go.Proofs.YtphpablchlpagaaDoor
open Go.RowKit Go.Shelf
/-- A row of rows, all of them the call's own, no two in one block; P: what is known of the rows' blocks. -/
structure Jag (W : World) (base Z n cap : Nat) (xs : List Value) (L : Nat → List Int) (P : Nat → Prop) : Prop where
  outer : W.ownsRow base 34 1 (.slice (some ⟨Z, 0, none⟩) n cap) n xs
  row : ∀ i, i < n → W.ownsRow base 3 1 (xs.getD i .nilIface) (L i).length ((L i).map fun x => .int .i64 x)
  off : ∀ i, i < n → ∀ g, (xs.getD i .nilIface).ownBlock = some g → g ≠ Z ∧ P g
  apart : ∀ i j, i < n → j < n → i ≠ j → ∀ g, (xs.getD i .nilIface).ownBlock = some g → (xs.getD j .nilIface).ownBlock ≠ some g
theorem ownsRow_blk {w : World} {base : Nat} {e : TypeId} {s : Nat} {v : Value} {n : Nat} {xs : List Value} (h : w.ownsRow base e s v n xs) : ∀ g, v.ownBlock = some g → base ≤ g ∧ g < w.heap.size := by
  intro g hg
  rcases h.2 with ⟨rfl, _⟩ | ⟨g', cap, cur, rfl, hb, hh, _⟩
  · cases hg
  · cases hg; exact ⟨hb, lt_of_block hh⟩
theorem Jag.kept {W W' : World} {base Z n cap : Nat} {xs : List Value} {L : Nat → List Int} {P : Nat → Prop} (h : Jag W base Z n cap xs L P) (hk : ∀ k, k < W.heap.size → base ≤ k → k = Z ∨ P k → W'.heap[k]? = W.heap[k]?) : Jag W' base Z n cap xs L P := by
  refine ⟨ownsRow_same h.outer fun g hg => ?_, fun i hi => ownsRow_same (h.row i hi) fun g hg => ?_, h.off, h.apart⟩
  · have := ownsRow_blk h.outer g hg
    cases hg
    exact hk _ this.2 this.1 (.inl rfl)
  · have := ownsRow_blk (h.row i hi) g hg
    exact hk _ this.2 this.1 (.inr (h.off i hi g hg).2)
theorem getD_set_same {xs : List Value} {s : Nat} (v : Value) (h : s < xs.length) : (xs.set s v).getD s .nilIface = v := by simp [List.getD_eq_getElem?_getD, List.getElem?_set, h]
theorem getD_set_other {xs : List Value} {s i : Nat} (v : Value) (h : i ≠ s) : (xs.set s v).getD i .nilIface = xs.getD i .nilIface := by
  simp only [List.getD_eq_getElem?_getD]
  rw [List.getElem?_set_ne (fun e => h e.symm)]
/-- One row has grown, and its new value is stored. -/
theorem Jag.step {W W5 : World} {base Z n cap s g1 c1 kk : Nat} {xs : List Value} {L L' : Nat → List Int} {P : Nat → Prop} {x : Int} {o : Obj} {ls : List Int} (h : Jag W base Z n cap xs L P) (hs : s < n) (hls : L s = ls) (hkk : ls.length = kk)
    (hg : (W.alloc o).grownBy W5 (xs.getD s .nilIface).ownBlock)
    (ho : W5.ownsRow base 3 1 (.slice (some ⟨g1, 0, none⟩) (kk + 1) c1) (kk + 1) ((ls.map fun x => .int .i64 x) ++ [.int .i64 x]))
    (hat : (xs.getD s .nilIface).ownBlock = some g1 ∨ g1 = W.heap.size + 1) (hP : P (W.heap.size + 1)) (hL' : ∀ i, L' i = if i = s then ls ++ [x] else L i) :
    Jag (W5.setCell ⟨Z, s, none⟩ (.slice (some ⟨g1, 0, none⟩) (kk + 1) c1)) base Z n cap (xs.set s (.slice (some ⟨g1, 0, none⟩) (kk + 1) c1)) L' P := by
  subst hls
  subst hkk
  obtain rfl : L' = fun i => if i = s then L s ++ [x] else L i := funext hL'
  clear hL'
  have hxl : xs.length = n := by have := h.outer.1; omega
  have hZ := (ownsRow_blk h.outer Z rfl).2
  have hZ5 : W5.heap[Z]? = W.heap[Z]? := (hg.block Z (by simp; omega) (fun e => (h.off s hs Z e.symm).1 rfl)).trans (Below.heap_alloc _ _ _ hZ)
  have hO5 := owns_block h.outer hZ5
  have hg1 : g1 ≠ Z ∧ P g1 := by
    rcases hat with e | e
    · exact h.off s hs g1 e
    · subst e; exact ⟨by omega, hP⟩
  have hother : ∀ i, i < n → i ≠ s → ∀ g, (xs.getD i .nilIface).ownBlock = some g → g ≠ g1 ∧ (W5.setCell ⟨Z, s, none⟩ (.slice (some ⟨g1, 0, none⟩) ((L s).length + 1) c1)).heap[g]? = W.heap[g]? := by
    intro i hi his g he
    have hb := ownsRow_blk (h.row i hi) g he
    refine ⟨fun e => ?_, ?_⟩
    · subst e
      rcases hat with e | e
      · exact h.apart i s hi hs his g he e
      · omega
    · rw [Below.heap_setCell _ _ _ _ (by have := (h.off i hi g he).1; simpa using this), hg.block g (by simp; omega) (fun e => h.apart i s hi hs his g he e.symm), Below.heap_alloc _ _ _ hb.2]
  refine ⟨(hO5.stored s _).1, fun i hi => ?_, fun i hi g he => ?_, fun i j hi hj hij g he => ?_⟩
  · by_cases e : i = s
    · subst e
      rw [getD_set_same _ (by omega)]
      simp only [if_true, List.length_append, List.length_cons, List.length_nil, List.map_append, List.map_cons, List.map_nil]
      exact owns_block ho (Below.heap_setCell _ _ _ _ (by simpa using hg1.1))
    · rw [getD_set_other _ e]
      simp only [if_neg e]
      exact ownsRow_same (h.row i hi) fun g he => (hother i hi e g he).2
  · by_cases e : i = s
    · subst e
      rw [getD_set_same _ (by omega)] at he
      cases he
      exact hg1
    · rw [getD_set_other _ e] at he
      exact h.off i hi g he
  · by_cases e : i = s
    · subst e
      rw [getD_set_same _ (by omega)] at he
      cases he
      rw [getD_set_other _ (fun e => hij e.symm)]
      exact fun he' => (hother j hj (fun e => hij e.symm) _ he').1 rfl
    · rw [getD_set_other _ e] at he
      by_cases e2 : j = s
      · subst e2
        rw [getD_set_same _ (by omega)]
        intro he'
        cases he'
        exact (hother i hi e _ he).1 rfl
      · rw [getD_set_other _ e2]
        exact h.apart i j hi hj hij g he
theorem Jag.congr {W : World} {base Z n cap : Nat} {xs : List Value} {L L' : Nat → List Int} {P : Nat → Prop} (h : Jag W base Z n cap xs L P) (hL : ∀ i, i < n → L i = L' i) : Jag W base Z n cap xs L' P :=
  ⟨h.outer, fun i hi => by rw [← hL i hi]; exact h.row i hi, h.off, h.apart⟩
/-- Rows that are all nil. -/
theorem Jag.start {W : World} {base Z n cap : Nat} {P : Nat → Prop} {L : Nat → List Int} (h : W.ownsRow base 34 1 (.slice (some ⟨Z, 0, none⟩) n cap) n (List.replicate n (.slice none 0 0))) (hL : ∀ i, L i = []) : Jag W base Z n cap (List.replicate n (.slice none 0 0)) L P := by
  have hget : ∀ i, i < n → (List.replicate n (Value.slice none 0 0)).getD i .nilIface = .slice none 0 0 := fun i hi => by simp [List.getD_eq_getElem?_getD, List.getElem?_replicate, hi]
  refine ⟨h, fun i hi => ?_, fun i hi g he => ?_, fun i j hi hj _ g he => ?_⟩
  · rw [hget i hi, hL i]; exact ⟨rfl, .inl ⟨rfl, rfl⟩⟩
  · rw [hget i hi] at he; cases he
  · rw [hget i hi] at he; cases he
end Go.Proofs.YtphpablchlpagaaDoor
namespace Go.Proofs.YtphpablchlpagaaDoor
def pivI (l : List Int) : Nat → Nat
  | 0 => 0
  | i + 1 => if l.getD (i + 1) 0 ≤ l.getD i 0 then pivI l i else i + 1
def pivot (l : List Int) : Nat := pivI l (l.length - 1)
def findJ (r : List Int) (a : Int) : Nat → Nat → Nat
  | 0, j => j
  | f + 1, j => if r.getD j 0 ≤ a then findJ r a f (j + 1) else j
def turned (l : List Int) (i : Nat) : List Int := l.take i ++ (l.drop i).reverse
def swapL (r : List Int) (p j : Nat) : List Int := (r.set p (r.getD j 0)).set j (r.getD p 0)
def nextP (l : List Int) : List Int :=
  if pivot l = 0 then turned l 0 else swapL (turned l (pivot l)) (pivot l - 1) (findJ (turned l (pivot l)) ((turned l (pivot l)).getD (pivot l - 1) 0) l.length (pivot l))
def iterP : Nat → List Int → List Int
  | 0, l => l
  | n + 1, l => iterP n (nextP l)
end Go.Proofs.YtphpablchlpagaaDoor
namespace Go.Proofs.YtphpablchlpagaaDoor
open Go.RowKit Go.Shelf
/-- After how many steps a row comes back. -/
def perGo (l : List Int) : Nat → List Int → Nat → Nat
  | 0, _, i => i
  | f + 1, q, i => if q = l then i else perGo l f (nextP q) (i + 1)
def perP (l : List Int) : Nat := perGo l 721 (nextP l) 1
def rowsP (l : List Int) (i : Nat) : List (List Int) := (List.range i).map fun j => iterP j l
/-- All orders of a row, the row itself first. -/
def orbP (l : List Int) : List (List Int) := rowsP l (perP l)
/-- A list of one row, made by the call. -/
theorem MRows.one {w : World} {base : Nat} {u : Value} {l : List Int} (hu : IntsOff w base none u l) (hb : base ≤ w.heap.size) : MRows (w.alloc (.cells #[u] 34)) base (.slice (some ⟨w.heap.size, 0, none⟩) 1 1) [l] := by
  refine ⟨[u], ?_, fun i hi => ?_⟩
  · exact World.ownsRow_lit (e := 34) w #[u] 1 hb (by unfold maxLen; omega) rfl
  · obtain rfl : i = 0 := by simpa using hi
    refine IntsOff.kept (g := none) (W := w) hu (fun k _ hk _ => Below.heap_alloc _ _ _ hk) (fun k hk _ e => ?_)
    have e2 := Option.some.inj e
    simp at e2
    omega
end Go.Proofs.YtphpablchlpagaaDoor
namespace Go.Proofs.YtphpablchlpagaaDoor
open Go.RowKit Go.Shelf
theorem IntsOff.mono {W : World} {base base' : Nat} {g : Option Nat} {v : Value} {l : List Int} (h : IntsOff W base g v l) (hb : base' ≤ base) : IntsOff W base' g v l := by
  obtain ⟨A, cap, hv, hl, hc⟩ := h
  refine ⟨A, cap, hv, hl, fun i hi => ?_⟩
  obtain ⟨b, off, hA, h1, h2⟩ := hc i hi
  exact ⟨b, off, hA, by omega, h2⟩
theorem MRows.mono {W : World} {base base' : Nat} {v : Value} {m : List (List Int)} (h : MRows W base v m) (hb : base' ≤ base) : MRows W base' v m := by
  obtain ⟨xs, ho, hx⟩ := h
  exact ⟨xs, row_mono ho hb, fun i hi => (hx i hi).mono hb⟩
/-- The orders of the first s states. -/
def OrdT (W : World) (base g : Nat) (m : List (List Int)) (s : Nat) : Prop :=
  ∃ xs : List Value, W.ownsRow base 22 1 (.slice (some ⟨g, 0, none⟩) m.length m.length) m.length xs ∧ ∀ j, j < s → MRows W (g + 1) (xs.getD j .nilIface) (orbP (m.getD j []))
theorem OrdT.lt {W : World} {base g s : Nat} {m : List (List Int)} (h : OrdT W base g m s) : base ≤ g ∧ g < W.heap.size := by
  obtain ⟨xs, ho, _⟩ := h
  exact ownsRow_blk ho g rfl
theorem OrdT.kept {W W' : World} {base g s : Nat} {m : List (List Int)} (h : OrdT W base g m s) (hk : ∀ k, g ≤ k → k < W.heap.size → W'.heap[k]? = W.heap[k]?) : OrdT W' base g m s := by
  obtain ⟨xs, ho, hx⟩ := h
  have hl := ownsRow_blk ho g rfl
  exact ⟨xs, owns_block ho (hk g (Nat.le_refl _) hl.2), fun j hj => (hx j hj).kept fun k h1 h2 => hk k (by omega) h2⟩
theorem OrdT.below {W W' : World} {base g s : Nat} {m : List (List Int)} (h : OrdT W base g m s) (hb : Below W.heap.size W W') : OrdT W' base g m s := h.kept fun k _ hk => hb.block k hk
theorem OrdT.put {W W' : World} {base g k n1 : Nat} {m : List (List Int)} {u : Value} (h : OrdT W base g m k) (hb : Below W.heap.size W W') (hM : MRows W' n1 u (orbP (m.getD k []))) (hn : g < n1) (hk : k < m.length) : OrdT (W'.setCell ⟨g, k, none⟩ u) base g m (k + 1) := by
  obtain ⟨xs, ho, hx⟩ := h.below hb
  have hxl : xs.length = m.length := by have := ho.1; omega
  refine ⟨xs.set k u, (World.ownsRow.stored ho k u).1, fun j hj => ?_⟩
  have hsame : ∀ q, g + 1 ≤ q → q < W'.heap.size → (W'.setCell ⟨g, k, none⟩ u).heap[q]? = W'.heap[q]? := fun q hq _ => Below.heap_setCell _ _ _ _ (by simp; omega)
  by_cases e : j = k
  · subst e
    rw [getD_set_same _ (by omega)]
    exact (hM.mono (by omega)).kept hsame
  · rw [getD_set_other _ e]
    exact (hx j (by omega)).kept hsame
theorem OrdT.cell {W : World} {base g s : Nat} {m : List (List Int)} (h : OrdT W base g m s) {j : Nat} (hj : j < m.length) : ∃ u, W.cell? ⟨g, j, none⟩ = some u ∧ (j < s → MRows W (g + 1) u (orbP (m.getD j []))) := by
  obtain ⟨xs, ho, hx⟩ := h
  have hxl : xs.length = m.length := by have := ho.1; omega
  refine ⟨xs.getD j .nilIface, ?_, fun hs => hx j hs⟩
  rw [ho.cellAt j (by omega)]
  simp [List.getD_eq_getElem?_getD, List.getElem?_eq_getElem (show j < xs.length by omega)]
end Go.Proofs.YtphpablchlpagaaDoor
namespace Go.Proofs.YtphpablchlpagaaDoor
open Go.RowKit Go.Shelf
theorem Turn.below {X : Blocks} {W W' : World} {n : Nat} (h : Turn X W W') (hX : ∀ k, X k → n ≤ k) (hn : n ≤ W.heap.size) : Below n W W' :=
  ⟨h.os, h.tape, h.output, h.size, fun k hk => h.block k (by omega) (fun hx => by have := hX k hx; omega)⟩
end Go.Proofs.YtphpablchlpagaaDoor
namespace Go.Proofs.YtphpablchlpagaaDoor
open Go.RowKit Go.Shelf
attribute [local go_sem] Oper.semAt_some
def NumG (N : Nat) (X : Blocks) (x : Value × List (List Int)) (W : World) : Prop :=
  ∃ nb W1, N ≤ nb ∧ MRows W1 nb x.1 x.2 ∧ W1.heap.size ≤ W.heap.size ∧ ∀ k, nb ≤ k → k < W1.heap.size → X k ∧ W.heap[k]? = W1.heap[k]?
theorem NumG.keep {N : Nat} {X : Blocks} {x : Value × List (List Int)} {n₀ : Nat} {W W' : World} (h : NumG N X x W) (k : Keep n₀ X W W') : NumG N X x W' := by
  obtain ⟨nb, W1, h0, h1, h2, h3⟩ := h
  exact ⟨nb, W1, h0, h1, Nat.le_trans h2 k.size, fun q hq hs => ⟨(h3 q hq hs).1, (k.block q (by omega) (.inr (h3 q hq hs).1)).trans (h3 q hq hs).2⟩⟩
end Go.Proofs.YtphpablchlpagaaDoor
namespace Go.Proofs.YtphpablchlpagaaDoor
/-- The rows of one automaton are orders of those of another one. -/
def PermR (m k : List (List Int)) : Prop := k.length = m.length ∧ ∀ s, s < m.length → (k.getD s []).Perm (m.getD s [])
theorem PermR.lets {m k : List (List Int)} (h : PermR m k) (hv : validM m = true) : letters k = letters m := by
  obtain ⟨p1, p2, p3, p4, p5⟩ := valid_parts hv
  show (k.getD 0 []).length = letters m
  rw [(h.2 0 (by omega)).length_eq, (p5 0 (by omega)).1]
theorem PermR.same {m k : List (List Int)} (h : PermR m k) (hv : validM m = true) : sameM m k = true := by
  rw [sameM, decide_eq_true h.1.symm, decide_eq_true (h.lets hv).symm, Bool.true_and, Bool.true_and, List.all_eq_true]
  intro s hs
  rw [List.all_eq_true]
  intro t _
  rw [beq_iff_eq]
  exact timesL_perm (h.2 s (List.mem_range.1 hs)).symm _
end Go.Proofs.YtphpablchlpagaaDoor
namespace Go.Proofs.YtphpablchlpagaaDoor
def roadsE (m : List (List Int)) (s x : Nat) : Nat := nx m s (x : Int)
theorem roads_run (m : List (List Int)) : ∀ (w : List Nat) (s : Nat), runE (roadsE m) s w = runM m s (w.map fun x : Nat => (x : Int))
  | [], _ => rfl
  | x :: w, s => roads_run m w (nx m s (x : Int))
theorem roads_ok {m : List (List Int)} (hv : validM m = true) : Ok m.length (letters m) (roadsE m) := fun s x hs hx => (nx_ok hv hs (x := (x : Int)) (by omega) (by omega)).1
end Go.Proofs.YtphpablchlpagaaDoor
namespace Go.Proofs.YtphpablchlpagaaDoor
theorem sumI_swap (f : Nat → Nat → Int) (n : Nat) : ∀ k, sumI (fun x => sumI (fun q => f x q) n) k = sumI (fun q => sumI (fun x => f x q) k) n
  | 0 => by
    show (0 : Int) = sumI (fun _ => 0) n
    rw [sumI_const]; simp
  | k + 1 => by
    show sumI (fun x => sumI (fun q => f x q) n) k + sumI (fun q => f k q) n = sumI (fun q => sumI (fun x => f x q) k + f k q) n
    rw [sumI_swap f n k, sumI_add]
theorem sumI_one (g : Nat → Int) (t : Nat) : ∀ n, sumI (fun s => if t = s then g s else 0) n = if t < n then g t else 0
  | 0 => rfl
  | n + 1 => by
    show sumI (fun s => if t = s then g s else 0) n + (if t = n then g n else 0) = _
    rw [sumI_one g t n]
    by_cases h : t = n
    · subst h; simp
    · by_cases h2 : t < n
      · simp [h, h2, show t < n + 1 by omega]
      · simp [h, h2, show ¬ t < n + 1 by omega]
theorem sumI_le {f g : Nat → Int} : ∀ {n : Nat}, (∀ t, t < n → f t ≤ g t) → sumI f n ≤ sumI g n
  | 0, _ => Int.le_refl _
  | n + 1, h => by
    show sumI f n + f n ≤ sumI g n + g n
    have := sumI_le (n := n) (fun t ht => h t (by omega)); have := h n (by omega); omega
theorem sumI_lt {f g : Nat → Int} {s : Nat} : ∀ {n : Nat}, s < n → f s < g s → (∀ t, t < n → f t ≤ g t) → sumI f n < sumI g n
  | n + 1, hs, hl, h => by
    show sumI f n + f n < sumI g n + g n
    by_cases e : s = n
    · subst e
      have := sumI_le (n := s) (f := f) (g := g) (fun t ht => h t (by omega)); omega
    · have := sumI_lt (n := n) (by omega) hl (fun t ht => h t (by omega)); have := h n (by omega); omega
/-- 1 in the set, 0 beside it. -/
def bitI (S q : Nat) : Int := if S.testBit q = true then 1 else 0
theorem filter_sum (p : Nat → Bool) : ∀ n, ((((List.range n).filter p).length : Nat) : Int) = sumI (fun q => if p q = true then 1 else 0) n
  | 0 => rfl
  | n + 1 => by
    rw [List.range_succ, List.filter_append, List.length_append]
    show _ = sumI (fun q => if p q = true then 1 else 0) n + (if p n = true then 1 else 0)
    rw [← filter_sum p n]
    by_cases h : p n = true
    · simp [h]
    · simp [h]
theorem szS_sum {n S : Nat} (hS : S < 2 ^ n) (hn : n ≤ 64) : (szS S : Int) = sumI (bitI S) n := by
  unfold szS; rw [elems_range hS hn, filter_sum]; rfl
theorem szS_le {n S : Nat} (hS : S < 2 ^ n) (hn : n ≤ 64) : szS S ≤ n := by
  unfold szS; rw [elems_range hS hn]
  exact Nat.le_trans (List.length_filter_le _ _) (by simp)
theorem WDm.all {m : List (List Int)} {u : List Int} (h : WDm m u) : u.all (inB 0 ((letters m : Int) - 1)) = true := List.all_eq_true.2 fun x hx => inB_true (by have := h x hx; omega)
theorem WDm.of_all {m : List (List Int)} {u : List Int} (h : u.all (inB 0 ((letters m : Int) - 1)) = true) : WDm m u := fun x hx => by
  have := inB_iff.1 (List.all_eq_true.1 h x hx); omega
theorem WDm.ofNat {m : List (List Int)} {w : List Nat} (h : Wd (letters m) w) : WDm m (w.map fun x : Nat => (x : Int)) := fun x hx => by
  obtain ⟨y, hy, rfl⟩ := List.mem_map.1 hx
  have := h y hy; omega
theorem WDm.toNat {m : List (List Int)} : ∀ {u : List Int}, WDm m u → ∃ w, Wd (letters m) w ∧ w.length = u.length ∧ u = w.map fun x : Nat => (x : Int)
  | [], _ => ⟨[], fun x hx => by simp at hx, rfl, rfl⟩
  | x :: u, h => by
    have hx := h x (by simp)
    obtain ⟨y, rfl⟩ := Int.eq_ofNat_of_zero_le hx.1
    obtain ⟨w, h1, h2, h3⟩ := WDm.toNat (u := u) fun z hz => h z (by simp [hz])
    refine ⟨y :: w, fun z hz => ?_, by simp [h2], by rw [h3]; rfl⟩
    rcases List.mem_cons.1 hz with e | e
    · subst e; omega
    · exact h1 z e
theorem pre_sum {m : List (List Int)} (hv : validM m = true) {S : Nat} (hS : S < 2 ^ m.length) {w : List Nat} (hw : Wd (letters m) w) : (szS (preWord m S (w.map fun x : Nat => (x : Int))) : Int) = sumI (fun q => bitI S (runE (roadsE m) q w)) m.length := by
  have hn : m.length ≤ 64 := by have := (valid_parts hv).2.1; omega
  rw [szS_sum (preWord_lt hv hS _) hn]
  refine sumI_congr fun q hq => ?_
  unfold bitI
  rw [preWord_testBit hv S _ q hq (WDm.ofNat hw).all, roads_run]
/-- As many roads lead to each state as there are letters. -/
def inR (m : List (List Int)) (t : Nat) : Int := sumI (fun q => sumI (fun x => if roadsE m q x = t then 1 else 0) (letters m)) m.length
def eulM (m : List (List Int)) : Prop := ∀ t, t < m.length → inR m t = letters m
theorem in_sum {m : List (List Int)} (hv : validM m = true) (g : Nat → Int) : sumI (fun x => sumI (fun q => g (roadsE m q x)) m.length) (letters m) = sumI (fun t => g t * inR m t) m.length := by
  rw [sumI_swap]
  have h1 : sumI (fun q => sumI (fun x => g (roadsE m q x)) (letters m)) m.length = sumI (fun q => sumI (fun t => sumI (fun x => if roadsE m q x = t then g t else 0) (letters m)) m.length) m.length := by
    refine sumI_congr fun q hq => ?_
    rw [← sumI_swap (fun x t => if roadsE m q x = t then g t else 0)]
    refine sumI_congr fun x hx => ?_
    rw [sumI_one g (roadsE m q x), if_pos (roads_ok hv q x hq hx)]
  rw [h1, sumI_swap]
  refine sumI_congr fun t ht => ?_
  unfold inR
  rw [← sumI_mul]
  refine sumI_congr fun q hq => ?_
  rw [← sumI_mul]
  refine sumI_congr fun x hx => ?_
  by_cases e : roadsE m q x = t
  · simp [e]
  · simp [e]
theorem eul_sum {m : List (List Int)} (hv : validM m = true) (he : eulM m) (g : Nat → Int) : sumI (fun x => sumI (fun q => g (roadsE m q x)) m.length) (letters m) = letters m * sumI g m.length := by
  rw [in_sum hv, ← sumI_mul]
  exact sumI_congr fun t ht => by rw [he t ht, Int.mul_comm]
/-- The sizes of the preimages by all letters. -/
theorem pre_one {m : List (List Int)} (hv : validM m = true) {S x : Nat} (hS : S < 2 ^ m.length) (hx : x < letters m) : (szS (preSet m S (x : Int)) : Int) = sumI (fun q => bitI S (roadsE m q x)) m.length :=
  pre_sum hv hS (w := [x]) (fun y hy => by obtain rfl : y = x := by simpa using hy
                                           exact hx)
theorem eul_size {m : List (List Int)} (hv : validM m = true) (he : eulM m) {S : Nat} (hS : S < 2 ^ m.length) : sumI (fun x : Nat => (szS (preSet m S (x : Int)) : Int)) (letters m) = letters m * szS S := by
  have hn : m.length ≤ 64 := by have := (valid_parts hv).2.1; omega
  rw [szS_sum hS hn, ← eul_sum hv he]
  exact sumI_congr fun x hx => pre_one hv hS hx
theorem reset_toU {m : List (List Int)} (hv : validM m = true) (hall : allMerge m) : ∃ t, t < m.length ∧ ∀ s, s < m.length → runM m s (resetW m) = t := by
  obtain ⟨p1, p2, -⟩ := valid_parts hv
  obtain ⟨c1, c2, -⟩ := resetW_ok hv hall
  have hpow := Nat.two_pow_pos m.length
  have hn : m.length ≤ 64 := by omega
  have hS : 2 ^ m.length - 1 < 2 ^ m.length := by omega
  have hel := elems_range (imgWord_lt hv (resetW m) _ hS c1) hn
  have hmem : ∀ s, s < m.length → runM m s (resetW m) ∈ elems (imgWord m (2 ^ m.length - 1) (resetW m)) := fun s hs => by
    have ht : (imgWord m (2 ^ m.length - 1) (resetW m)).testBit (runM m s (resetW m)) = true := (imgWord_mem hv (resetW m) _ _ hS c1).2 ⟨s, hs, by rw [testBit_below]; simpa using hs, rfl⟩
    rw [mem_elems]
    refine ⟨?_, ht⟩
    apply Classical.byContradiction
    intro hge
    have : imgWord m (2 ^ m.length - 1) (resetW m) < 2 ^ runM m s (resetW m) := Nat.lt_of_lt_of_le (imgWord_lt hv (resetW m) _ hS c1) (Nat.pow_le_pow_right (by decide) (by omega))
    rw [Nat.testBit_lt_two_pow this] at ht
    simp at ht
  match hl : elems (imgWord m (2 ^ m.length - 1) (resetW m)), c2 with
  | [t], _ =>
    have key : ∀ s, s < m.length → runM m s (resetW m) = t := fun s hs => by
      have := hmem s hs
      rw [hl] at this
      simpa using this
    refine ⟨t, ?_, key⟩
    have h0 := hmem 0 (by omega)
    have := elems_lt (imgWord_lt hv (resetW m) _ hS c1) h0
    rw [key 0 (by omega)] at this
    exact this
/-- KARI. -/
theorem kari_more {m : List (List Int)} (hv : validM m = true) (he : eulM m) (hall : allMerge m) {S : Nat} (hS : S < 2 ^ m.length) (h0 : 0 < szS S) (h1 : szS S < m.length) :
    ∃ w, WDm m w ∧ w.length + 1 ≤ m.length ∧ szS S < szS (preWord m S w) := by
  obtain ⟨p1, p2, p3, -⟩ := valid_parts hv
  have hn : m.length ≤ 64 := by omega
  have hsz := szS_sum hS hn
  -- some word changes the size
  have hsome : ∃ w, Wd (letters m) w ∧ w.length < m.length ∧ sumI (fun q => bitI S (runE (roadsE m) q w)) m.length ≠ sumI (bitI S) m.length := by
    apply Classical.byContradiction
    intro hno
    have hk := kari_lin (roads_ok hv) (f := bitI S) (by
      apply Classical.byContradiction
      intro hc
      have hcon : ∀ q, q < m.length → bitI S q = bitI S 0 := fun q hq => Classical.byContradiction fun h => hc ⟨q, 0, hq, by omega, h⟩
      have : sumI (bitI S) m.length = sumI (fun _ => bitI S 0) m.length := sumI_congr hcon
      rw [sumI_const] at this
      unfold bitI at this
      by_cases hb : S.testBit 0 = true
      · rw [if_pos hb] at this; unfold bitI at hsz; omega
      · rw [if_neg hb] at this; unfold bitI at hsz; omega) (fun w hw hl => Classical.byContradiction fun h => hno ⟨w, hw, hl, h⟩)
    obtain ⟨t, ht, hr⟩ := reset_toU hv hall
    obtain ⟨w, w1, w2, w3⟩ := (WDm.of_all (resetW_ok hv hall).1).toNat
    have := hk w w1
    have e : sumI (fun q => bitI S (runE (roadsE m) q w)) m.length = sumI (fun _ => bitI S t) m.length := sumI_congr fun q hq => by rw [roads_run, ← w3, hr q hq]
    rw [e, sumI_const] at this
    unfold bitI at this
    by_cases hb : S.testBit t = true
    · rw [if_pos hb] at this; unfold bitI at hsz; omega
    · rw [if_neg hb] at this; unfold bitI at hsz; omega
  obtain ⟨L, ⟨w, hw, hlL, hl, hd⟩, hmin⟩ := least_natR (P := fun L => ∃ w, Wd (letters m) w ∧ w.length = L ∧ w.length < m.length ∧ sumI (fun q => bitI S (runE (roadsE m) q w)) m.length ≠ sumI (bitI S) m.length) (by
    obtain ⟨w, a, b, c⟩ := hsome
    exact ⟨_, w, a, rfl, b, c⟩)
  cases w with
  | nil => exact absurd rfl hd
  | cons x v =>
    have hx := hw x (by simp)
    have hvw : Wd (letters m) v := fun z hz => hw z (by simp [hz])
    simp only [List.length_cons] at hlL hl
    have hv0 : sumI (fun q => bitI S (runE (roadsE m) q v)) m.length = sumI (bitI S) m.length := Classical.byContradiction fun h => hmin v.length (by omega) ⟨v, hvw, rfl, by omega, h⟩
    have hT : (szS (preWord m S (v.map fun x : Nat => (x : Int))) : Int) = szS S := by rw [pre_sum hv hS hvw, hv0, hsz]
    have hTl := preWord_lt hv hS (v.map fun x : Nat => (x : Int))
    have hx0 : (szS (preSet m (preWord m S (v.map fun x : Nat => (x : Int))) (x : Int)) : Int) ≠ szS S := by
      have := pre_sum hv hS hw
      rw [← hsz, ← this] at hd
      exact hd
    have hav := eul_size hv he hTl
    rw [hT] at hav
    apply Classical.byContradiction
    intro hno
    have hle : ∀ y, y < letters m → (szS (preSet m (preWord m S (v.map fun x : Nat => (x : Int))) (y : Int)) : Int) ≤ szS S := fun y hy => by
      apply Classical.byContradiction
      intro h
      exact hno ⟨(y : Int) :: v.map (fun x : Nat => (x : Int)), (WDm.ofNat hvw).cons hy, by simp; omega, by rw [preWord_cons]; omega⟩
    have := sumI_lt (f := fun y : Nat => (szS (preSet m (preWord m S (v.map fun x : Nat => (x : Int))) (y : Int)) : Int)) (g := fun _ => (szS S : Int)) hx (by have := hle x hx; omega) hle
    rw [hav, sumI_const] at this
    omega
end Go.Proofs.YtphpablchlpagaaDoor
namespace Go.Proofs.YtphpablchlpagaaDoor
open Go.RowKit Go.Shelf
theorem Ints.off {W : World} {b o n c k o' : Nat} {l : List Int} {x : Value} (h : Ints W (.slice (some ⟨b, o, none⟩) n c) l) (hk : b ≠ k) : Ints (W.setCell ⟨k, o', none⟩ x) (.slice (some ⟨b, o, none⟩) n c) l := by
  obtain ⟨A, cap, hv, hl, hc⟩ := h
  refine ⟨A, cap, hv, hl, fun i hi => ?_⟩
  obtain ⟨b', off, hA, hcell⟩ := hc i hi
  refine ⟨b', off, hA, ?_⟩
  simp only [Value.slice.injEq] at hv
  rw [← hv.1] at hA
  simp only [Option.some.injEq, Addr.mk.injEq, and_true] at hA
  obtain ⟨rfl, rfl⟩ := hA
  exact (World.cell?_of_block (Below.heap_setCell _ _ _ _ hk)).trans hcell
/-- The rows of a table that is being made, each of two numbers: the first k are there. -/
def rowsC (n k : Nat) (B : Nat → Nat) : List Value := (List.range n).map fun p => if p < k then .slice (some ⟨B p, 0, none⟩) 2 2 else .slice none 0 0
structure RTb (W : World) (n₀ g n k : Nat) (B : Nat → Nat) (f : Nat → List Int) : Prop where
  outer : W.ownsRow n₀ 34 1 (.slice (some ⟨g, 0, none⟩) n n) n (rowsC n k B)
  inner : ∀ p, p < k → Ints W (.slice (some ⟨B p, 0, none⟩) 2 2) (f p)
  apart : ∀ p, p < k → B p ≠ g ∧ n₀ ≤ B p
section
variable {W W' : World} {n₀ g n k : Nat} {B : Nat → Nat} {f : Nat → List Int}
theorem RTb.new (h : W.ownsRow n₀ 34 1 (.slice (some ⟨g, 0, none⟩) n n) n (List.replicate n (.slice none 0 0))) : RTb W n₀ g n 0 B f := by
  refine ⟨?_, fun p hp => by omega, fun p hp => by omega⟩
  have e : rowsC n 0 B = List.replicate n (.slice none 0 0) := by
    apply List.ext_getElem
    · simp [rowsC]
    · intro i h1 h2; simp [rowsC]
  rw [e]; exact h
theorem RTb.below (h : RTb W n₀ g n k B f) (hb : Below W.heap.size W W') : RTb W' n₀ g n k B f :=
  ⟨owns_kept h.outer fun b _ hs => hb.block b hs, fun p hp => (h.inner p hp).below hb, h.apart⟩
theorem RTb.lt (h : RTb W n₀ g n k B f) : n₀ ≤ g ∧ g < W.heap.size := ownq_lt h.outer
/-- A row is stored: the next one, or in the place of one that was there. -/
theorem RTb.row {p b k' : Nat} {l : List Int} (h : RTb W n₀ g n k B f) (hp : p ≤ k) (hk' : k' = if p = k then k + 1 else k) (hb : b ≠ g ∧ n₀ ≤ b) (hl : Ints W (.slice (some ⟨b, 0, none⟩) 2 2) l) :
    RTb (W.setCell ⟨g, p, none⟩ (.slice (some ⟨b, 0, none⟩) 2 2)) n₀ g n k' (fun i => if i = p then b else B i) (fun i => if i = p then l else f i) := by
  obtain ⟨s1, -⟩ := h.outer.stored p (.slice (some ⟨b, 0, none⟩) 2 2)
  have hlt : ∀ i, i < k' → i ≠ p → i < k := fun i hi hne => by
    by_cases e : p = k
    · rw [if_pos e] at hk'; omega
    · rw [if_neg e] at hk'; omega
  refine ⟨?_, fun i hi => ?_, fun i hi => ?_⟩
  · refine cast ?_ s1
    congr 1
    apply List.ext_getElem
    · simp [rowsC]
    · intro i h1 h2
      rw [List.getElem_set]
      by_cases e : p = i
      · subst e
        have : p < k' := by
          by_cases e2 : p = k
          · rw [if_pos e2] at hk'; omega
          · rw [if_neg e2] at hk'; omega
        simp [rowsC, this]
      · rw [if_neg e]
        simp only [rowsC, List.getElem_map, List.getElem_range]
        have e' : ¬ i = p := fun h => e h.symm
        simp only [e', if_false]
        by_cases e2 : i < k
        · rw [if_pos e2, if_pos (by
            by_cases e3 : p = k
            · rw [if_pos e3] at hk'; omega
            · rw [if_neg e3] at hk'; omega)]
        · rw [if_neg e2, if_neg (fun h3 => e2 (hlt i h3 e'))]
  · by_cases e : i = p
    · subst e; simp only [if_true]; exact hl.off hb.1
    · simp only [if_neg e]; exact (h.inner i (hlt i hi e)).off (h.apart i (hlt i hi e)).1
  · by_cases e : i = p
    · subst e; simp only [if_true]; exact hb
    · simp only [if_neg e]; exact h.apart i (hlt i hi e)
theorem RTb.other {c : Nat} {u : Value} (h : RTb W n₀ g n k B f) (hc : c < n₀) : RTb (W.setCell ⟨c, 0, none⟩ u) n₀ g n k B f :=
  ⟨owns_block h.outer (Below.heap_setCell _ _ _ _ (by have := h.lt; simp; omega)), fun p hp => (h.inner p hp).off (by have := (h.apart p hp).2; omega), h.apart⟩
theorem RTb.cell (h : RTb W n₀ g n k B f) {p : Nat} (hp : p < n) : W.cell? ⟨g, p, none⟩ = some (if p < k then .slice (some ⟨B p, 0, none⟩) 2 2 else .slice none 0 0) := by
  rw [h.outer.cellAt p (by omega)]
  simp [rowsC, List.getElem?_map, List.getElem?_range hp]
theorem RTb.rows (h : RTb W n₀ g n n B f) (hn : n ≤ 1000) : Rows W (.slice (some ⟨g, 0, none⟩) n n) ((List.range n).map f) := by
  refine ⟨some ⟨g, 0, none⟩, n, by simp, by unfold big; simp; omega, fun i hi => ?_⟩
  simp only [List.length_map, List.length_range] at hi
  refine ⟨g, 0, .slice (some ⟨B i, 0, none⟩) 2 2, rfl, ?_, ?_⟩
  · rw [Nat.zero_add, h.cell hi, if_pos hi]
  · have e : ((List.range n).map f).getD i [] = f i := by simp [List.getD_eq_getElem?_getD, List.getElem?_map, List.getElem?_range hi]
    rw [e]; exact h.inner i hi
end
end Go.Proofs.YtphpablchlpagaaDoor
namespace Go.Proofs.YtphpablchlpagaaDoor
open Go.RowKit Go.Shelf
theorem Ints.nil (w : World) : Ints w (.slice none 0 0) [] := ⟨none, 0, rfl, by simp, fun i hi => by simp at hi⟩
end Go.Proofs.YtphpablchlpagaaDoor
namespace Go.Proofs.YtphpablchlpagaaDoor
open Go.RowKit Go.Shelf
/-- What Reset returns beside the word. -/
theorem Reset_code (v : Value) (m : List (List Int)) (c : Int) (w : World) (hT : Tab w) (h : Rows w v m) (hv : validM m = true) (hc : Hid ((allMerge m ∧ c = 0) ∨ (¬ allMerge m ∧ c = 4))) :
    Calls Tryd.prog 21 #[.agg #[v]] w fun e w' => ∃ r, e = .returned (.tuple #[r, .int .i64 c]) ∧ Below w.heap.size w w' := by
  rcases hc.out with ⟨ha, rfl⟩ | ⟨ha, rfl⟩
  · refine (Reset_ok v m w hT h hv ha).mono ?_
    rintro e w' ⟨r, rfl, _, hb⟩
    exact ⟨r, rfl, hb⟩
  · refine (Reset_none v m w h hv ha).mono ?_
    rintro e w' ⟨rfl, hb⟩
    exact ⟨_, rfl, hb⟩
end Go.Proofs.YtphpablchlpagaaDoor
