/-
  Texts that the proof of the law stands on: Tb, E1, E10, E14, E15, E16, L4, K6, G1, G2, L2, G3.
-/
import Derived.Test.YtmfbcnigefjgpaaDoorRbB
import Derived.Deep.DeepMust
import Derived.Deep.RegionHeld3
import Derived.Deep.CutRange
import Derived.Maps.AppendAt
import Derived.Laws.AppendOwnNone
namespace Go.Proofs.YtmfbcnigefjgpaaDoor
open Go.RowKit Go.Shelf
/-- The value v is a list of k rows; row p lies in block B p and holds f p 0, .., f p (n - 1). -/
structure Tbl (W : World) (n₀ : Nat) (v : Value) (n k : Nat) (B : Nat → Nat) (f : Nat → Nat → Int) : Prop where
  outer : W.ownsRow n₀ 25 1 v k ((List.range k).map fun p => .slice (some ⟨B p, 0, none⟩) n n)
  inner : ∀ p, p < k → W.ownsRow n₀ 3 1 (.slice (some ⟨B p, 0, none⟩) n n) n ((Lf n (f p)).map fun x => .int .i64 x)
  apart : ∀ p, p < k → v.ownBlock ≠ some (B p)
  inj : ∀ p q, p < k → q < k → B p = B q → p = q
section
variable {W W' : World} {n₀ n k : Nat} {v : Value} {B : Nat → Nat} {f : Nat → Nat → Int}
theorem Tbl.empty (W : World) (n₀ n : Nat) (B : Nat → Nat) (f : Nat → Nat → Int) : Tbl W n₀ (.slice none 0 0) n 0 B f :=
  ⟨World.ownsRow_nil _ _ _ _, fun p hp => by omega, fun p hp => by omega, fun p q hp => by omega⟩
theorem Tbl.kept (h : Tbl W n₀ v n k B f) (hk : ∀ b, n₀ ≤ b → b < W.heap.size → W'.heap[b]? = W.heap[b]?) : Tbl W' n₀ v n k B f :=
  ⟨owns_kept h.outer hk, fun p hp => owns_kept (h.inner p hp) hk, h.apart, h.inj⟩
theorem Tbl.below (h : Tbl W n₀ v n k B f) (hb : Below W.heap.size W W') : Tbl W' n₀ v n k B f := h.kept fun b _ hs => hb.block b hs
theorem Tbl.congr {g : Nat → Nat → Int} (h : Tbl W n₀ v n k B f) (e : ∀ p q, p < k → q < n → f p q = g p q) : Tbl W n₀ v n k B g :=
  ⟨h.outer, fun p hp => by rw [← Lf_congr (n := n) (f := f p) (g := g p) fun q hq => e p q hp hq]; exact h.inner p hp, h.apart, h.inj⟩
/-- One row more. -/
theorem Tbl.push {v' : Value} {b : Nat} (h : Tbl W n₀ v n k B f) (ho : W'.ownsRow n₀ 25 1 v' (k + 1) (((List.range k).map fun p => .slice (some ⟨B p, 0, none⟩) n n) ++ [.slice (some ⟨b, 0, none⟩) n n]))
    (hr : W'.ownsRow n₀ 3 1 (.slice (some ⟨b, 0, none⟩) n n) n ((Lf n (f k)).map fun x => .int .i64 x)) (hk : ∀ c, n₀ ≤ c → c < W.heap.size → v.ownBlock ≠ some c → W'.heap[c]? = W.heap[c]?)
    (hv : ∀ p, p < k → v'.ownBlock ≠ some (B p)) (hvb : v'.ownBlock ≠ some b) (hb : ∀ p, p < k → B p ≠ b) : Tbl W' n₀ v' n (k + 1) (fun p => if p = k then b else B p) f := by
  have hne : ∀ p, p < k → p ≠ k := fun p hp => by omega
  refine ⟨?_, fun p hp => ?_, fun p hp => ?_, fun p q hp hq e => ?_⟩
  · refine cast ?_ ho
    congr 1
    rw [List.range_succ, List.map_append]
    congr 1
    · refine List.map_congr_left fun p hp => ?_
      rw [if_neg (hne p (List.mem_range.1 hp))]
    · simp
  · by_cases e : p = k
    · subst e; simp only [if_true]; exact hr
    · simp only [if_neg e]
      have hp' : p < k := by omega
      obtain ⟨h1, h2⟩ := h.inner p hp'
      refine ⟨h1, ?_⟩
      rcases h2 with h2 | ⟨g, cap, cur, hv2, hB, hh, r⟩
      · exact .inl h2
      · have hg : g = B p := by
          simp only [Value.slice.injEq, Option.some.injEq, Addr.mk.injEq, and_true, true_and] at hv2
          exact hv2.1.symm
        exact .inr ⟨g, cap, cur, hv2, hB, by rw [hk g hB (lt_of_block hh) (by rw [hg]; exact h.apart p hp')]; exact hh, r⟩
  · by_cases e : p = k
    · subst e; simp only [if_true]; exact hvb
    · simp only [if_neg e]; exact hv p (by omega)
  · by_cases e1 : p = k <;> by_cases e2 : q = k
    · omega
    · simp only [if_pos e1, if_neg e2] at e; exact absurd e.symm (hb q (by omega))
    · simp only [if_neg e1, if_pos e2] at e; exact absurd e (hb p (by omega))
    · simp only [if_neg e1, if_neg e2] at e; exact h.inj p q (by omega) (by omega) e
/-- .. by an append whose element was boxed. -/
theorem Tbl.pushed {w5 : World} {v' : Value} {b : Nat} {o : Obj} (h : Tbl W n₀ v n k B f) (hr : W.ownsRow n₀ 3 1 (.slice (some ⟨b, 0, none⟩) n n) n ((Lf n (f k)).map fun x => .int .i64 x))
    (hvb : v.ownBlock ≠ some b) (hb : ∀ p, p < k → B p ≠ b)
    (hown : w5.ownsRow n₀ 25 1 v' (k + 1) (((List.range k).map fun p => .slice (some ⟨B p, 0, none⟩) n n) ++ [.slice (some ⟨b, 0, none⟩) n n])) (hgrow : (W.alloc o).grownBy w5 v.ownBlock)
    (hat : v'.ownBlock = v.ownBlock ∨ v'.ownBlock = some (W.alloc o).heap.size) : Tbl w5 n₀ v' n (k + 1) (fun p => if p = k then b else B p) f := by
  have hbl := ownq_lt hr
  refine h.push hown ((hr.alloc o).kept hgrow (.inr fun e => hvb (by simpa [Value.ownBlock] using e.symm))) (fun c _ hc hne => ?_) (fun p hp e => ?_) (fun e => ?_) hb
  · rw [hgrow.block c (by simp; omega) (fun e => hne e.symm)]
    exact Below.heap_alloc _ _ _ hc
  · have := (ownq_lt (h.inner p hp)).2
    rcases hat with e2 | e2
    · exact h.apart p hp (e2 ▸ e)
    · rw [e2] at e
      simp at e
      omega
  · rcases hat with e2 | e2
    · exact hvb (e2 ▸ e)
    · rw [e2] at e
      simp at e
      omega
variable {g c : Nat}
theorem Tbl.cell (h : Tbl W n₀ (.slice (some ⟨g, 0, none⟩) k c) n k B f) {p : Nat} (hp : p < k) : W.cell? ⟨g, p, none⟩ = some (.slice (some ⟨B p, 0, none⟩) n n) := by
  rw [h.outer.cellAt p (by omega)]
  simp [List.getElem?_map, List.getElem?_range hp]
theorem Tbl.num (h : Tbl W n₀ v n k B f) {p q : Nat} (hp : p < k) (hq : q < n) : W.cell? ⟨B p, q, none⟩ = some (.int .i64 (f p q)) := by
  rw [(h.inner p hp).cellAt q (by omega), Lf_cell _ hq]
theorem Tbl.free (h : Tbl W n₀ v n k B f) {p : Nat} (hp : p < k) (q : Nat) : W.frozen? ⟨B p, q, none⟩ = false := (h.inner p hp).frozenAt q
theorem Tbl.ge (h : Tbl W n₀ v n k B f) {p : Nat} (hp : p < k) : n₀ ≤ B p ∧ B p < W.heap.size := ownq_lt (h.inner p hp)
/-- A number is stored. -/
theorem Tbl.set (h : Tbl W n₀ v n k B f) {p q : Nat} (hp : p < k) (x : Int) : Tbl (W.setCell ⟨B p, q, none⟩ (.int .i64 x)) n₀ v n k B (fun a b => if a = p ∧ b = q then x else f a b) := by
  obtain ⟨h1, h2⟩ := (h.inner p hp).stored q (.int .i64 x)
  refine ⟨h.outer.kept h2 (.inr (h.apart p hp)), fun a ha => ?_, h.apart, h.inj⟩
  by_cases e : a = p
  · subst e
    rw [← List.map_set (f := fun x => Value.int .i64 x), Lf_set] at h1
    refine cast ?_ h1
    congr 2
    exact Lf_congr fun i _ => by simp
  · have : (Lf n fun b => if a = p ∧ b = q then x else f a b) = Lf n (f a) := Lf_congr fun i _ => by rw [if_neg (fun h => e h.1)]
    rw [show (fun b => if a = p ∧ b = q then x else f a b) = fun b => (fun a b => if a = p ∧ b = q then x else f a b) a b from rfl] at this
    rw [this]
    refine (h.inner a ha).kept h2 (.inr ?_)
    intro e2
    simp only [Value.ownBlock, Option.some.injEq] at e2
    exact e (h.inj a p ha hp e2)
end
/-- The reference's table within round k + 1: the pairs before (p, q) are done. -/
def mixT (m : List (List Int)) (k p q a b : Nat) : Int := if a < p ∨ (a = p ∧ b < q) then mlenAt m (k + 1) a b else mlenAt m k a b
theorem mlenAt_keeps (m : List (List Int)) (k p q : Nat) : mlenAt m (k + 1) p q = (k : Int) ↔ mlenAt m k p q = (k : Int) := by
  have h := mlenAt_range m k p q
  simp only [mlenAt]
  by_cases e : 0 ≤ mlenAt m k p q
  · rw [if_pos e]
  · rw [if_neg e]
    split
    · constructor <;> intro h2 <;> omega
    · constructor <;> intro h2 <;> omega
theorem mixT_keeps (m : List (List Int)) (k p q a b : Nat) : mixT m k p q a b = (k : Int) ↔ mlenAt m k a b = (k : Int) := by
  unfold mixT
  split
  · exact mlenAt_keeps m k a b
  · exact Iff.rfl
theorem mixT_range (m : List (List Int)) (k p q a b : Nat) : -1 ≤ mixT m k p q a b ∧ mixT m k p q a b ≤ k + 1 := by
  have h1 := mlenAt_range m k a b
  have h2 := mlenAt_range m (k + 1) a b
  unfold mixT
  split <;> omega
theorem mixT_step (m : List (List Int)) (k p q a b : Nat) : mixT m k p (q + 1) a b = if a = p ∧ b = q then mlenAt m (k + 1) p q else mixT m k p q a b := by
  unfold mixT
  by_cases e : a = p ∧ b = q
  · rw [if_pos e, if_pos (by omega), e.1, e.2]
  · rw [if_neg e]
    by_cases e2 : a < p ∨ (a = p ∧ b < q)
    · rw [if_pos e2, if_pos (by omega)]
    · rw [if_neg e2, if_neg (by omega)]
theorem mixT_row (m : List (List Int)) {n k p a b : Nat} (hb : b < n) : mixT m k p n a b = mixT m k (p + 1) 0 a b := by
  unfold mixT
  by_cases e2 : a < p ∨ (a = p ∧ b < n)
  · rw [if_pos e2, if_pos (by omega)]
  · rw [if_neg e2, if_neg (by omega)]
theorem mixT_at (m : List (List Int)) (k p q : Nat) : mixT m k p q p q = mlenAt m k p q := by
  unfold mixT
  rw [if_neg (by omega)]
end Go.Proofs.YtmfbcnigefjgpaaDoor
namespace Go.Proofs.YtmfbcnigefjgpaaDoor
open Go.RowKit Go.Shelf
/-- Within round k + 1, before the pair (p, q): whether something has changed. -/
def moreB (m : List (List Int)) (k p q : Nat) (b : Bool) : Prop :=
  (b = true → ∃ a c, a < m.length ∧ c < m.length ∧ mdist m a c (k + 1)) ∧ (b = false → ∀ a c, a < m.length → c < m.length → mixT m k p q a c = mlenAt m k a c)
theorem mlenAt_found {m : List (List Int)} {k p q : Nat} (h : mlenAt m (k + 1) p q = (k : Int) + 1) : mdist m p q (k + 1) := by
  rcases mlenAt_spec m (k + 1) p q with ⟨h1, _⟩ | ⟨j, h1, h2, h3⟩
  · omega
  · obtain rfl : j = k + 1 := by omega
    exact h3
theorem moreB.same {m : List (List Int)} {k p q : Nat} {b : Bool} (h : moreB m k p q b) (hs : mlenAt m (k + 1) p q = mlenAt m k p q) : moreB m k p (q + 1) b := by
  refine ⟨h.1, fun hb a c ha hc => ?_⟩
  rw [mixT_step]
  by_cases e : a = p ∧ c = q
  · rw [if_pos e, hs, e.1, e.2]
  · rw [if_neg e]; exact h.2 hb a c ha hc
theorem moreB.row {m : List (List Int)} {k p : Nat} {b : Bool} (h : moreB m k p m.length b) : moreB m k (p + 1) 0 b :=
  ⟨h.1, fun hb a c ha hc => by rw [← mixT_row m hc]; exact h.2 hb a c ha hc⟩
theorem infoRows : (Tryd.prog.info? 25).map (fun i => (i.zero, i.size, i.bytes)) = some (some (.slice none 0 0), 1, 24) := by kernel_rfl
set_option maxRecDepth 100000 in
set_option maxHeartbeats 8000000 in
theorem rTable_any (v : Value) (m : List (List Int)) (w : World) (h : Rows w v m) (hv : validM m = true) :
    Calls Tryd.prog 17 #[.agg #[v]] w fun e w' => ∃ V B, e = .returned V ∧ Tbl w' (w.heap.size + 1) V m.length m.length B (mlen m) ∧ Below w.heap.size w w' := by
  obtain ⟨i0, hi, hz0, hz1, hz2⟩ := info_parts infoInt
  obtain ⟨r0, hri, hrz0, hrz1, hrz2⟩ := info_parts infoRows
  obtain ⟨p1, p2, p3, p4, p5⟩ := valid_parts hv
  obtain ⟨A, cap, rfl, hml, hcm⟩ := id h
  have Hcm := hid hcm
  have Hp5 := hid p5
  have hX := bal (Below.refl _ w) (.cells #[.slice A m.length cap] 24)
  have hbx := (Boxed.new w 24 (.slice A m.length cap)).cell
  clear p5 hcm
  go_enter Tryd.func17, Tryd.ntmps17
  go_wp2_with fail
  go_loopw [4, 5] (fun ov pv wr => ∃ p B, p ≤ m.length ∧ pv = .int .i64 (p : Nat) ∧ Tbl wr (w.heap.size + 1) ov m.length p B (mlenAt m 0) ∧ Below w.heap.size w wr ∧ wr.cell? ⟨w.heap.size, 0, none⟩ = some (.slice A m.length cap)) (fun _ p _ => m.length - (intOf p).toNat)
  case atStart => exact ⟨0, fun _ => 0, Nat.zero_le _, rfl, Tbl.empty _ _ _ _ _, hX, hbx⟩
  case round =>
    clear hbx hX
    obtain ⟨p, B, hp, rfl, hT, hB, hbx⟩ := hrel
    by_cases hlt : p < m.length
    · have hps : (p : Int) < m.length := by omega
      have hlb := World.block_lt_of_cell? _ _ hbx
      obtain ⟨wo, rfl⟩ : ∃ wo : World, wo = wr := ⟨_, rfl⟩
      have HT := hid hT
      clear hT
      go_wp2_with (at_make; go_must (refine wpList_make_full _ rfl _ _ 25 rfl (w.heap.size + 1) 3 i0 (.int .i64 0) 1 Tryd.underlying25 hi hz0 hz1 .i64 .i64 _ _ m.length rfl rfl rfl rfl (by rw [hz2]; omega) (by unfold maxLen; omega) (by simp only at hlb; omega) ?_); intro w1 hown hgrow; rw [show Value.cells (.int .i64 0) = #[.int .i64 0] from rfl, toList_madeCells_one, Nat.mul_one] at hown; have hB1 := hB.grown hgrow (by simp only at hlb; omega) (fun q hq => by cases hq); have hT1 := HT.out.kept (W' := w1) (fun b _ hb => hgrow.block b hb (by simp)))
      have hbx1 : w1.cell? ⟨w.heap.size, 0, none⟩ = some (.slice A m.length cap) := (World.cell?_of_block (hgrow.block w.heap.size hlb (by simp))).trans hbx
      have hO0 : w1.ownsRow (w.heap.size + 1) 3 1 (.slice (some ⟨wo.heap.size, 0, none⟩) m.length m.length) m.length ((Lf m.length fun i => if i < 0 then mlenAt m 0 p i else 0).map fun x => .int .i64 x) := by
        have e : (Lf m.length fun i => if i < 0 then mlenAt m 0 p i else 0) = List.replicate m.length 0 := by
          apply List.ext_getElem
          · simp [Lf]
          · intro i h1 h2; simp [Lf]
        rw [e]; simpa using hown
      have hBb : ∀ a, a < p → B a ≠ wo.heap.size := fun a ha e => by have := (HT.out.ge ha).2; omega
      have hVb : u4.ownBlock ≠ some wo.heap.size := fun e => by have := HT.out.outer.lt _ e; omega
      generalize wo.heap.size = b at *
      clear hown hgrow hbx hB
      go_loopw [7] (fun qv wq => ∃ q : Nat, q ≤ m.length ∧ qv = .int .i64 q ∧ wq.ownsRow (w.heap.size + 1) 3 1 (.slice (some ⟨b, 0, none⟩) m.length m.length) m.length ((Lf m.length fun i => if i < q then mlenAt m 0 p i else 0).map fun x => .int .i64 x) ∧ Tbl wq (w.heap.size + 1) u4 m.length p B (mlenAt m 0) ∧ Below w.heap.size w wq ∧ wq.cell? ⟨w.heap.size, 0, none⟩ = some (.slice A m.length cap)) (fun q _ => m.length - (intOf q).toNat)
      case atStart => exact ⟨0, Nat.zero_le _, rfl, hO0, hT1, hB1, hbx1⟩
      case round =>
        clear hO0 hT1 hB1 hbx1
        obtain ⟨q, hq, rfl, hO, hT, hB, hbx⟩ := hrel
        by_cases hql : q < m.length
        · have hqs : (q : Int) < m.length := by omega
          by_cases e : q = p
          · subst e
            have hne : ((q : Int) != (q : Int)) = false := by simp
            have hO2 : wr.ownsRow (w.heap.size + 1) 3 1 (.slice (some ⟨b, 0, none⟩) m.length m.length) m.length ((Lf m.length fun i => if i < q + 1 then mlenAt m 0 q i else 0).map fun x => .int .i64 x) := by
              rw [show (Lf m.length fun i => if i < q + 1 then mlenAt m 0 q i else 0) = Lf m.length (fun i => if i < q then mlenAt m 0 q i else 0) from Lf_congr fun i _ => by
                by_cases e : i = q
                · subst e; rw [if_pos (by omega), if_neg (by omega)]; simp [mlenAt]
                · by_cases e2 : i < q
                  · rw [if_pos e2, if_pos (by omega)]
                  · rw [if_neg e2, if_neg (by omega)]]
              exact hO
            have HO2 := hid hO2
            have HT := hid hT
            clear hO hO2 hT
            go_wp2
            go_roundw
            case rel => exact ⟨q + 1, by omega, by go_num, HO2.out, HT.out, hB, hbx⟩
            case measure => simp [intOf]; omega
          · have hne : ((q : Int) != (p : Int)) = true := by simp; omega
            have hcA := hO.cellAt q (by omega)
            have hfA := hO.frozenAt q
            rw [Lf_cell _ hql] at hcA
            have hSt := (hO.stored q (.int .i64 (-1))).1
            rw [← List.map_set (f := fun x => Value.int .i64 x), Lf_set] at hSt
            have hSt2 := hid (show (wr.setCell ⟨b, q, none⟩ (.int .i64 (-1))).ownsRow (w.heap.size + 1) 3 1 (.slice (some ⟨b, 0, none⟩) m.length m.length) m.length ((Lf m.length fun i => if i < q + 1 then mlenAt m 0 p i else 0).map fun x => .int .i64 x) by
              rw [show (Lf m.length fun i => if i < q + 1 then mlenAt m 0 p i else 0) = Lf m.length (fun i => if i = q then -1 else if i < q then mlenAt m 0 p i else 0) from Lf_congr fun i _ => by
                by_cases e3 : i = q
                · subst e3; rw [if_pos (by omega), if_pos rfl]; simp only [mlenAt]; rw [if_neg (fun h => e h.symm)]
                · rw [if_neg e3]
                  by_cases e2 : i < q
                  · rw [if_pos e2, if_pos (by omega)]
                  · rw [if_neg e2, if_neg (by omega)]]
              exact hSt)
            have hbge := (ownq_lt hO).1
            have hBs := hid (hB.setCell (p := ⟨b, q, none⟩) (by show w.heap.size ≤ b; omega) (.int .i64 (-1)))
            have hbs : (wr.setCell ⟨b, q, none⟩ (.int .i64 (-1))).cell? ⟨w.heap.size, 0, none⟩ = some (.slice A m.length cap) := (World.cell?_of_block (Below.heap_setCell _ _ _ _ (by simp; omega))).trans hbx
            have hTs : Tbl (wr.setCell ⟨b, q, none⟩ (.int .i64 (-1))) (w.heap.size + 1) u4 m.length p B (mlenAt m 0) := by
              have hg := (hO.stored q (.int .i64 (-1))).2
              exact ⟨hT.outer.kept hg (.inr hVb), fun a ha => (hT.inner a ha).kept hg (.inr (by simpa [Value.ownBlock] using hBb a ha)), hT.apart, hT.inj⟩
            have HTs := hid hTs
            clear hO hSt hT hTs
            go_wp2
            go_roundw
            case rel => exact ⟨q + 1, by omega, by go_num, hSt2.out, HTs.out, hBs.out, hbs⟩
            case measure => simp [intOf]; omega
        · obtain rfl : q = m.length := by omega
          have hqs : ¬ ((m.length : Nat) : Int) < m.length := by omega
          rw [show (Lf m.length fun i => if i < m.length then mlenAt m 0 p i else 0) = Lf m.length (mlenAt m 0 p) from Lf_congr fun i hi => by rw [if_pos hi]] at hO
          have hlb := World.block_lt_of_cell? _ _ hbx
          have HO := hid hO
          have HT := hid hT
          have hxo := hT.outer
          have hvge : ∀ c, u4.ownBlock = some c → w.heap.size ≤ c := fun c hc => by have := (hT.outer.lt c hc).1; omega
          have hvne : ∀ c, c ≤ w.heap.size → some c ≠ u4.ownBlock := fun c hc e => by have := (hT.outer.lt c e.symm).1; omega
          have hBq := bal hB (.cells #[.slice (some ⟨b, 0, none⟩) m.length m.length] 25)
          clear hO hT
          go_wp2_with (at_builtin; refine wpList_append_own_at _ rfl _ _ 22 rfl (w.heap.size + 1) 25 r0 (.slice none 0 0) 1 24 Tryd.underlying22 hri hrz0 hrz1 hrz2 rfl (by decide) _ _ _ rfl (hxo.alloc _) ⟨wr.heap.size, 0, none⟩ 1 1 [.slice (some ⟨b, 0, none⟩) m.length m.length] rfl rfl (cell_one_new _ _ _) (by simp [Value.oneCell']) (by unfold maxLen; omega) (by omega) (by simp; simp only at hlb; omega) ?_; intro v' w5 hown' hgrow' _ hat; have hT5 := HT.out.pushed HO.out hVb hBb hown' hgrow' hat; have hB5 := hBq.grown hgrow' (by simp; simp only at hlb; omega) (fun c hc => hvge c hc); have hbx5 : w5.cell? ⟨w.heap.size, 0, none⟩ = some (.slice A m.length cap) := (World.cell?_of_block ((hgrow'.block w.heap.size (by simp; simp only at hlb; omega) (hvne _ (Nat.le_refl _))).trans (Below.heap_alloc _ _ _ hlb))).trans hbx)
          go_roundw
          case rel => exact ⟨p + 1, _, by omega, by go_num, hT5, hB5, hbx5⟩
          case measure => simp [intOf]; omega
    · obtain rfl : p = m.length := by omega
      have hps : ¬ ((m.length : Nat) : Int) < m.length := by omega
      have hVs : ∃ g c, u4 = .slice (some ⟨g, 0, none⟩) m.length c := ownsRow_pos' hT.outer (by omega)
      obtain ⟨g, c, rfl⟩ := hVs
      have HT := hid hT
      have hnn : 0 < m.length * m.length := Nat.mul_pos (by omega) (by omega)
      clear hT
      go_wp2_with fail
      go_loopw [8, 9] (fun kv bv wr => ∃ (k : Nat) (b : Bool), kv = .int .i64 ((k : Int) + 1) ∧ bv = .bool b ∧ Tbl wr (w.heap.size + 1) (.slice (some ⟨g, 0, none⟩) m.length c) m.length m.length B (mlenAt m k) ∧ (b = true → k < m.length * m.length) ∧ (b = false → ∀ p q, p < m.length → q < m.length → mlenAt m k p q = mlen m p q) ∧ Below w.heap.size w wr ∧ wr.cell? ⟨w.heap.size, 0, none⟩ = some (.slice A m.length cap)) (fun k _ _ => m.length * m.length + 1 - ((intOf k).toNat - 1))
      case atStart => exact ⟨0, true, rfl, rfl, HT.out, fun _ => hnn, fun h => (by cases h), hB, hbx⟩
      case round =>
        clear HT hB hbx
        obtain ⟨k, b, rfl, rfl, hT, hk, hend, hB, hbx⟩ := hrel
        cases b with
        | false =>
          have hT2 := hT.congr (g := mlen m) (fun p q hp hq => hend rfl p q hp hq)
          have HT2 := hid hT2
          clear hT hT2 hend
          go_wp2
          go_ret
          exact ⟨_, _, rfl, HT2.out, hB⟩
        | true =>
          have hkn := hk rfl
          have hn60 : m.length * m.length ≤ 3600 := Nat.mul_le_mul (show m.length ≤ 60 by omega) (show m.length ≤ 60 by omega)
          have hT0 : Tbl wr (w.heap.size + 1) (.slice (some ⟨g, 0, none⟩) m.length c) m.length m.length B (mixT m k 0 0) := hT.congr fun a b _ _ => by unfold mixT; rw [if_neg (by omega)]
          have hM0 : moreB m k 0 0 false := ⟨fun h => (by cases h), fun _ a c _ _ => by unfold mixT; rw [if_neg (by omega)]⟩
          obtain ⟨wo, rfl⟩ : ∃ wo : World, wo = wr := ⟨_, rfl⟩
          clear hT hend hk
          go_wp2_with fail
          go_loopw [9, 10] (fun bv pv wr => ∃ (p : Nat) (b : Bool), p ≤ m.length ∧ pv = .int .i64 p ∧ bv = .bool b ∧ Tbl wr (w.heap.size + 1) (.slice (some ⟨g, 0, none⟩) m.length c) m.length m.length B (mixT m k p 0) ∧ moreB m k p 0 b ∧ Below w.heap.size w wr ∧ wr.cell? ⟨w.heap.size, 0, none⟩ = some (.slice A m.length cap)) (fun _ p _ => m.length - (intOf p).toNat)
          case atStart => exact ⟨0, false, Nat.zero_le _, rfl, rfl, hT0, hM0, hB, hbx⟩
          case round =>
            clear hT0 hM0 hB hbx
            obtain ⟨p, b, hp, rfl, rfl, hT, hM, hB, hbx⟩ := hrel
            by_cases hpl : p < m.length
            · have hps : (p : Int) < m.length := by omega
              obtain ⟨wo2, rfl⟩ : ∃ wo : World, wo = wr := ⟨_, rfl⟩
              go_wp2_with fail
              go_loopw [9, 11] (fun bv qv wr => ∃ (q : Nat) (b : Bool), q ≤ m.length ∧ qv = .int .i64 q ∧ bv = .bool b ∧ Tbl wr (w.heap.size + 1) (.slice (some ⟨g, 0, none⟩) m.length c) m.length m.length B (mixT m k p q) ∧ moreB m k p q b ∧ Below w.heap.size w wr ∧ wr.cell? ⟨w.heap.size, 0, none⟩ = some (.slice A m.length cap)) (fun _ q _ => m.length - (intOf q).toNat)
              case atStart => exact ⟨0, b, Nat.zero_le _, rfl, rfl, hT, hM, hB, hbx⟩
              case round =>
                clear hT hM hB hbx
                obtain ⟨q, b, hq, rfl, rfl, hT, hM, hB, hbx⟩ := hrel
                by_cases hql : q < m.length
                · have hqs : (q : Int) < m.length := by omega
                  have hcur := mixT_at m k p q
                  obtain ⟨wi, rfl⟩ : ∃ wi : World, wi = wr := ⟨_, rfl⟩
                  have hc1 := hT.cell hpl
                  have hc2 := hT.num hpl hql
                  rw [hcur] at hc2
                  by_cases hneg : 0 ≤ mlenAt m k p q
                  · have hsame : mlenAt m (k + 1) p q = mlenAt m k p q := by simp only [mlenAt]; rw [if_pos hneg]
                    have hT2 : Tbl wi (w.heap.size + 1) (.slice (some ⟨g, 0, none⟩) m.length c) m.length m.length B (mixT m k p (q + 1)) := hT.congr fun a d _ _ => by
                      rw [mixT_step]
                      by_cases e : a = p ∧ d = q
                      · rw [if_pos e, hsame, e.1, e.2, mixT_at]
                      · rw [if_neg e]
                    have HT2 := hid hT2
                    have HM2 := hid (hM.same hsame)
                    have hn2 : ¬ mlenAt m k p q < 0 := by omega
                    clear hT hT2 hM hsame hcur
                    generalize mlenAt m k p q = z at *
                    go_wp2_with fail
                    go_loopw [9, 12] (fun bv xv wr => bv = .bool b ∧ xv = .int .i64 0 ∧ wr = wi) (fun _ _ _ => 0)
                    case atStart => exact ⟨rfl, rfl, rfl⟩
                    case round =>
                      obtain ⟨rfl, rfl, rfl⟩ := hrel
                      go_wp2
                      go_roundw
                      case rel => exact ⟨q + 1, b, by omega, by go_num, rfl, HT2.out, HM2.out, hB, hbx⟩
                      case measure => simp [intOf]; omega
                  · have hup := hid (show mlenAt m (k + 1) p q = if (List.range (letters m)).any (fun x : Nat => mlenAt m k (nx m p (x : Int)) (nx m q (x : Int)) == (k : Int)) then (k : Int) + 1 else -1 by simp only [mlenAt]; rw [if_neg hneg])
                    have hzr := mlenAt_range m k p q
                    have hz1 : mlenAt m k p q = -1 := by omega
                    rw [hz1] at hc2
                    have Hz1 := hid hz1
                    have HM := hid hM
                    clear hM hcur hzr hz1 hneg hc1 hc2
                    go_wp2_with fail
                    go_loopw [9, 12] (fun bv xv wr => ∃ (x : Nat) (b' : Bool), x ≤ letters m ∧ xv = .int .i64 x ∧ bv = .bool b' ∧ (((∀ y, y < x → mlenAt m k (nx m p (y : Int)) (nx m q (y : Int)) ≠ (k : Int)) ∧ b' = b ∧ Tbl wr (w.heap.size + 1) (.slice (some ⟨g, 0, none⟩) m.length c) m.length m.length B (mixT m k p q)) ∨ (mlenAt m (k + 1) p q = (k : Int) + 1 ∧ b' = true ∧ Tbl wr (w.heap.size + 1) (.slice (some ⟨g, 0, none⟩) m.length c) m.length m.length B (mixT m k p (q + 1)))) ∧ Below w.heap.size w wr ∧ wr.cell? ⟨w.heap.size, 0, none⟩ = some (.slice A m.length cap)) (fun _ x _ => letters m - (intOf x).toNat)
                    case atStart => exact ⟨0, b, Nat.zero_le _, rfl, rfl, .inl ⟨fun y hy => by omega, rfl, hT⟩, hB, hbx⟩
                    case round =>
                      clear hT hB hbx
                      obtain ⟨x, b', hx, rfl, rfl, hO, hB, hbx⟩ := hrel
                      rcases hO with ⟨hno, rfl, hT⟩ | ⟨hfound, rfl, hT⟩
                      · have hc1 := hT.cell hpl
                        have hc2 := hT.num hpl hql
                        rw [mixT_at, Hz1.out] at hc2
                        have Hno := hid hno
                        have HT := hid hT
                        clear hno hT
                        go_wp2_with fail
                        refine (rLetters_any _ m _ (h.below hB) hv).mono ?_
                        rintro e y1 ⟨rfl, hy1⟩
                        have hB1 := btr hB hy1
                        have hbx1 := (hy1.cell (p := ⟨w.heap.size, 0, none⟩) (World.block_lt_of_cell? _ _ hbx)).trans hbx
                        have HT1 := hid (HT.out.below hy1)
                        clear hc1 hc2 hbx hB
                        by_cases hxl : x < letters m
                        · have hxs : (x : Int) < letters m := by omega
                          obtain ⟨b1, o1, r1, hA, hcell, hrow⟩ := Hcm.out p hpl
                          subst hA
                          have hrl := (Hp5.out p hpl).1
                          obtain ⟨Ar, capr, rfl, -, hcr⟩ := id hrow
                          rw [hrl] at hcell
                          obtain ⟨br, offr, hAr, hct⟩ := hcr x (by omega)
                          subst hAr
                          obtain ⟨hn1, hn⟩ := nx_ok hv (s := p) hpl (x := (x : Int)) (by omega) (by omega)
                          rw [Int.toNat_natCast] at hn
                          rw [hn] at hct
                          have hcell2 := (hB1.cell (p := ⟨b1, o1 + p, none⟩) (World.block_lt_of_cell? _ _ hcell)).trans hcell
                          have hct2 := (hB1.cell (p := ⟨br, offr + x, none⟩) (World.block_lt_of_cell? _ _ hct)).trans hct
                          obtain ⟨b2, o2, r2, hA2, hcellq, hrowq⟩ := Hcm.out q hql
                          cases hA2
                          have hrlq := (Hp5.out q hql).1
                          obtain ⟨Aq, capq, rfl, -, hcq⟩ := id hrowq
                          rw [hrlq] at hcellq
                          obtain ⟨bq, offq, hAq, hctq⟩ := hcq x (by omega)
                          subst hAq
                          obtain ⟨hq1, hqn⟩ := nx_ok hv (s := q) hql (x := (x : Int)) (by omega) (by omega)
                          rw [Int.toNat_natCast] at hqn
                          rw [hqn] at hctq
                          have hcellq2 := (hB1.cell (p := ⟨b1, o1 + q, none⟩) (World.block_lt_of_cell? _ _ hcellq)).trans hcellq
                          have hctq2 := (hB1.cell (p := ⟨bq, offq + x, none⟩) (World.block_lt_of_cell? _ _ hctq)).trans hctq
                          have hkeep := mixT_keeps m k p q (nx m p (x : Int)) (nx m q (x : Int))
                          have hrange := mixT_range m k p q (nx m p (x : Int)) (nx m q (x : Int))
                          have hd1 := HT1.out.cell hn1
                          have hd2 := HT1.out.num hn1 hq1
                          have hc1 := HT1.out.cell hpl
                          have hc2 := HT1.out.num hpl hql
                          have hfr := HT1.out.free hpl q
                          have hge := (HT1.out.ge hpl).1
                          rw [mixT_at, Hz1.out] at hc2
                          have hany := hid (fun (he : mlenAt m k (nx m p (x : Int)) (nx m q (x : Int)) = (k : Int)) => show mlenAt m (k + 1) p q = (k : Int) + 1 by
                            rw [hup.out, if_pos (List.any_eq_true.2 ⟨x, List.mem_range.2 hxl, by rw [he]; simp⟩)])
                          have hnext := hid (fun (he : mlenAt m k (nx m p (x : Int)) (nx m q (x : Int)) ≠ (k : Int)) => show ∀ y, y < x + 1 → mlenAt m k (nx m p (y : Int)) (nx m q (y : Int)) ≠ (k : Int) from fun y hy => by
                            by_cases e : y = x
                            · subst e; exact he
                            · exact Hno.out y (by omega))
                          clear hcr hrow hn hrl hcell hct hcq hrowq hqn hrlq hcellq hctq
                          generalize mixT m k p q (nx m p (x : Int)) (nx m q (x : Int)) = z at *
                          generalize nx m p (x : Int) = d at *
                          generalize nx m q (x : Int) = d' at *
                          have hds : (d : Int) < m.length := by omega
                          have hds' : (d' : Int) < m.length := by omega
                          by_cases hqk : z = (k : Int)
                          · have hf := hany.out (hkeep.1 hqk)
                            have HSt := hid (fun nq => ((HT1.out.below (below_dr y1 nq)).set hpl (q := q) ((k : Int) + 1)).congr (g := mixT m k p (q + 1)) fun a e _ _ => by rw [mixT_step, hf])
                            have Hf := hid hf
                            have hBs := hid (fun nq => (btr hB1 (below_dr y1 nq)).setCell (p := ⟨B p, q, none⟩) (by show w.heap.size ≤ B p; omega) (.int .i64 ((k : Int) + 1)))
                            have hbs := hid (fun nq => show ((y1.drewN nq).setCell ⟨B p, q, none⟩ (.int .i64 ((k : Int) + 1))).cell? ⟨w.heap.size, 0, none⟩ = some (.slice (some ⟨b1, o1, none⟩) m.length cap) from (World.cell?_of_block (Below.heap_setCell _ _ _ _ (by simp; omega))).trans (((below_dr y1 nq).cell (p := ⟨w.heap.size, 0, none⟩) (World.block_lt_of_cell? _ _ hbx1)).trans hbx1))
                            subst hqk
                            clear hf hkeep
                            go_wp2_with fail
                            go_quiet (fail)
                            go_wp2
                            go_roundw
                            case rel => exact ⟨x + 1, true, by omega, by go_num, rfl, .inr ⟨Hf.out, rfl, HSt.out nq⟩, hBs.out nq, hbs.out nq⟩
                            case measure => simp [intOf]; omega
                          · have hne2 : (z == (k : Int)) = false := by rw [beq_eq_false_iff_ne]; exact hqk
                            have hnx := hid (hnext.out (fun e => hqk (hkeep.2 e)))
                            clear hkeep hany hnext
                            go_wp2_with fail
                            go_quiet (fail)
                            go_wp2
                            go_roundw
                            case rel => exact ⟨x + 1, b', by omega, by go_num, rfl, .inl ⟨hnx.out, rfl, HT1.out.below (below_dr y1 nq)⟩, btr hB1 (below_dr y1 nq), hbx1⟩
                            case measure => simp [intOf]; omega
                        · obtain rfl : x = letters m := by omega
                          have hxs : ¬ ((letters m : Nat) : Int) < letters m := by omega
                          have hm1 : mlenAt m (k + 1) p q = mlenAt m k p q := by
                            rw [Hz1.out, hup.out, if_neg]
                            intro h2
                            obtain ⟨y, hy, he⟩ := List.any_eq_true.1 h2
                            exact Hno.out y (List.mem_range.1 hy) (beq_iff_eq.1 he)
                          have hT3 : Tbl y1 (w.heap.size + 1) (.slice (some ⟨g, 0, none⟩) m.length c) m.length m.length B (mixT m k p (q + 1)) := HT1.out.congr fun a d _ _ => by
                            rw [mixT_step]
                            by_cases e : a = p ∧ d = q
                            · rw [if_pos e, hm1, e.1, e.2, mixT_at]
                            · rw [if_neg e]
                          have HT3 := hid hT3
                          have HM3 := hid (HM.out.same hm1)
                          clear hT3 hm1
                          go_wp2
                          go_roundw
                          case rel => exact ⟨q + 1, b', by omega, by go_num, rfl, HT3.out, HM3.out, hB1, hbx1⟩
                          case measure => simp [intOf]; omega
                      · have hc1 := hT.cell hpl
                        have hc2 := hT.num hpl hql
                        have hcur2 : mixT m k p (q + 1) p q = (k : Int) + 1 := by rw [mixT_step, if_pos ⟨rfl, rfl⟩, hfound]
                        rw [hcur2] at hc2
                        have HT := hid hT
                        have HM4 := hid (show moreB m k p (q + 1) true from ⟨fun _ => ⟨p, q, hpl, hql, mlenAt_found hfound⟩, fun h => (by cases h)⟩)
                        have t1 : ¬ (k : Int) + 1 < 0 := by omega
                        clear hT hcur2 hfound
                        go_wp2
                        go_roundw
                        case rel => exact ⟨q + 1, true, by omega, by go_num, rfl, HT.out, HM4.out, hB, hbx⟩
                        case measure => simp [intOf]; omega
                · obtain rfl : q = m.length := by omega
                  have hqs : ¬ ((m.length : Nat) : Int) < m.length := by omega
                  have HT5 := hid (hT.congr (g := mixT m k (p + 1) 0) fun a d _ hd => mixT_row m hd)
                  have HM5 := hid hM.row
                  clear hT hM
                  go_wp2
                  go_roundw
                  case rel => exact ⟨p + 1, b, by omega, by go_num, rfl, HT5.out, HM5.out, hB, hbx⟩
                  case measure => simp [intOf]; omega
            · obtain rfl : p = m.length := by omega
              have hps : ¬ ((m.length : Nat) : Int) < m.length := by omega
              have hT2 := hid (hT.congr (g := mlenAt m (k + 1)) fun a b ha _ => by unfold mixT; rw [if_pos (.inl ha)])
              have hb1 := hid (fun (hb : b = true) => show k + 1 < m.length * m.length by
                obtain ⟨a, c, ha, hc, hd⟩ := hM.1 hb
                exact mdist_lt hv ha hc hd)
              have hb2 := hid (fun (hb : b = false) => show ∀ p q, p < m.length → q < m.length → mlenAt m (k + 1) p q = mlen m p q by
                have hs : ∀ p q, p < m.length → q < m.length → mlenAt m (k + 1) p q = mlenAt m k p q := fun p q hp hq => by
                  have := hM.2 hb p q hp hq
                  unfold mixT at this
                  rwa [if_pos (.inl hp)] at this
                exact fun p q hp hq => (hs p q hp hq).trans (mlen_stop hv hs hp hq))
              clear hT hM
              go_wp2
              go_roundw
              case rel => exact ⟨k + 1, b, by go_num, rfl, hT2.out, hb1.out, hb2.out, hB, hbx⟩
              case measure => simp [intOf]; omega
end Go.Proofs.YtmfbcnigefjgpaaDoor
namespace Go.Proofs.YtmfbcnigefjgpaaDoor
open Go.RowKit Go.Shelf
/-- The pairs (p, d) with d below q that are never merged; those of all first states below p. -/
def apartRow (m : List (List Int)) (p q : Nat) : List (Nat × Nat) := ((List.range q).filter fun d => decide (p < d) && decide (mlen m p d < 0)).map fun d => (p, d)
def apartAll (m : List (List Int)) (p : Nat) : List (Nat × Nat) := (List.range p).flatMap fun a => apartRow m a m.length
/-- The pairs that no word merges. -/
def apartL (m : List (List Int)) : List (Nat × Nat) := apartAll m m.length
theorem apartRow_succ (m : List (List Int)) (p q : Nat) : apartRow m p (q + 1) = apartRow m p q ++ (if p < q ∧ mlen m p q < 0 then [(p, q)] else []) := by
  unfold apartRow
  rw [List.range_succ, List.filter_append, List.map_append]
  congr 1
  by_cases h : p < q ∧ mlen m p q < 0
  · rw [if_pos h]; simp [h.1, h.2]
  · rw [if_neg h]
    by_cases h1 : p < q
    · have h2 : ¬ mlen m p q < 0 := fun e => h ⟨h1, e⟩
      simp [h1, h2]
    · simp [h1]
theorem apartRow_start (m : List (List Int)) (p q : Nat) (h : q ≤ p + 1) : apartRow m p q = [] := by
  unfold apartRow
  rw [List.map_eq_nil_iff, List.filter_eq_nil_iff]
  intro d hd
  have := List.mem_range.1 hd
  have h2 : ¬ p < d := by omega
  simp [h2]
theorem apartAll_succ (m : List (List Int)) (p : Nat) : apartAll m (p + 1) = apartAll m p ++ apartRow m p m.length := by
  unfold apartAll
  rw [List.range_succ, List.flatMap_append]
  simp
theorem apartRow_len (m : List (List Int)) (p q : Nat) : (apartRow m p q).length ≤ q := by
  unfold apartRow
  rw [List.length_map]
  have := List.length_filter_le (fun d => decide (p < d) && decide (mlen m p d < 0)) (List.range q)
  simpa using this
theorem apartAll_len (m : List (List Int)) : ∀ p, (apartAll m p).length ≤ p * m.length
  | 0 => by simp [apartAll]
  | p + 1 => by
    have h1 := apartAll_len m p
    have h2 := apartRow_len m p m.length
    rw [apartAll_succ, List.length_append, Nat.succ_mul]
    omega
theorem apartL_mem {m : List (List Int)} {e : Nat × Nat} : e ∈ apartL m ↔ e.1 < e.2 ∧ e.2 < m.length ∧ mlen m e.1 e.2 < 0 := by
  unfold apartL apartAll apartRow
  simp only [List.mem_flatMap, List.mem_range, List.mem_map, List.mem_filter, Bool.and_eq_true, decide_eq_true_eq]
  constructor
  · rintro ⟨a, ha, d, ⟨hd, h1, h2⟩, rfl⟩
    exact ⟨h1, hd, h2⟩
  · rintro ⟨h1, h2, h3⟩
    exact ⟨e.1, by omega, e.2, ⟨h2, h1, h3⟩, rfl⟩
/-- No pairs, and an error. -/
theorem infoArr : (Tryd.prog.info? 47).map (fun i => (i.zero, i.size, i.bytes)) = some (some (.agg #[.int .i64 0, .int .i64 0]), 2, 16) := by kernel_rfl
/-- A list of pairs of the call's own, and no error. -/
def PairsIs (w : World) (L : List (Nat × Nat)) (e : Ending) (w' : World) : Prop := ∃ r, e = .returned (.tuple #[r, .int .i64 0]) ∧ w'.ownsRow w.heap.size 47 2 r L.length (pairCells L) ∧ Below w.heap.size w w'
/-- Behind an append of a pair to a row of the call's own. -/
theorem pairs_pushed2 {w w2 wr w5 : World} {n : Nat} {v bx : Value} {t : TypeId} {xs : List Value} {o : Obj} (hB2 : Below w.heap.size w w2) (hB : Below w2.heap.size w2 wr) (hbx : wr.cell? ⟨w.heap.size, 0, none⟩ = some bx) (hO : wr.ownsRow w2.heap.size t 2 v n xs) (hgrow : (wr.alloc o).grownBy w5 v.ownBlock) (hlt2 : w.heap.size < w2.heap.size) :
    Below w2.heap.size w2 w5 ∧ w5.cell? ⟨w.heap.size, 0, none⟩ = some bx := by
  have hlt := fun k hk => (hO.lt k hk).1
  have k3 := World.block_lt_of_cell? _ _ hbx
  simp only at k3
  exact ⟨(bal hB o).grown hgrow (by have := hB.size; simp; omega) (fun k hk => by have := hlt k hk; omega),
    (World.cell?_of_block (a := ⟨w.heap.size, 0, none⟩) ((hgrow.block w.heap.size (by simp; omega) (fun e => by have := hlt _ e.symm; omega)).trans (Below.heap_alloc _ _ _ k3))).trans hbx⟩
set_option maxRecDepth 100000 in
set_option maxHeartbeats 4000000 in
theorem Apart_ok (v : Value) (m : List (List Int)) (w : World) (h : Rows w v m) (hv : validM m = true) :
    Calls Tryd.prog 10 #[.agg #[v]] w (PairsIs w (apartL m)) := by
  obtain ⟨i0, hi, hz0, hz1, hz2⟩ := info_parts infoArr
  obtain ⟨p1, p2, -⟩ := valid_parts hv
  obtain ⟨A, cap, rfl, hml, -⟩ := id h
  have hX := bal (Below.refl _ w) (.cells #[.slice A m.length cap] 24)
  have hbx := (Boxed.new w 24 (.slice A m.length cap)).cell
  have hXs : (w.alloc (.cells #[.slice A m.length cap] 24)).heap.size = w.heap.size + 1 := World.size_alloc _ _
  go_enter Tryd.func10, Tryd.ntmps10
  go_wp2_with fail
  generalize w.alloc (.cells #[.slice A m.length cap] 24) = X at *
  have hr := h.below hX
  refine (Valid_bool _ m true _ hr hv).mono ?_
  rintro e w1 ⟨rfl, h1⟩
  have e0 := (h1.cell (p := ⟨w.heap.size, 0, none⟩) (World.block_lt_of_cell? _ _ hbx)).trans hbx
  have hr1 := hr.below h1
  have HX := hid (btr hX h1)
  clear hbx hr hX h1
  go_wp2_with fail
  refine (mergers_any _ m _ hr1 hv).mono ?_
  rintro e w2 ⟨B, rfl, hL, h2⟩
  have e1 := (h2.cell (p := ⟨w.heap.size, 0, none⟩) (World.block_lt_of_cell? _ _ e0)).trans e0
  have hB2 := btr HX.out h2
  have Hask := hid (fun (p q : Nat) (w' : World) (hb : Below w2.heap.size w2 w') (hpq : p < q) (hq : q < m.length) => (hL.below hb).ask hv (Nat.le_of_lt hpq) hq)
  have HBB := hid hB2
  have hl2 := World.block_lt_of_cell? _ _ e1
  simp only at hl2
  clear e0 hr1 hL h2 HX hXs
  go_wp2_with fail
  go_loopw [4, 18] (fun lv pv wr => ∃ p : Nat, p ≤ m.length ∧ pv = .int .i64 (p : Nat) ∧ wr.ownsRow w2.heap.size 47 2 lv (apartAll m p).length (pairCells (apartAll m p)) ∧ Below w2.heap.size w2 wr ∧ wr.cell? ⟨w.heap.size, 0, none⟩ = some (.slice A m.length cap)) (fun _ pv _ => m.length - (intOf pv).toNat)
  case atStart => exact ⟨0, Nat.zero_le _, rfl, World.ownsRow_nil _ _ _ _, Below.refl _ _, e1⟩
  case round =>
    clear e1
    obtain ⟨p, hp, rfl, hO, hB, hbx⟩ := hrel
    have hmm60 : m.length * m.length ≤ 3600 := Nat.mul_le_mul (show m.length ≤ 60 by omega) (show m.length ≤ 60 by omega)
    by_cases hpl : p < m.length
    · have hps : (p : Int) < m.length := by omega
      have HO := hid hO
      clear hO
      have hlen := apartAll_len m p
      have hlen2 := Nat.mul_le_mul_right m.length (show p ≤ m.length by omega)
      obtain ⟨wo, rfl⟩ : ∃ wo : World, wo = wr := ⟨_, rfl⟩
      go_wp2_with fail
      go_loopw [4, 7] (fun lv qv wr => ∃ (q : Nat) (Lr : List (Nat × Nat)), p + 1 ≤ q ∧ q ≤ m.length ∧ qv = .int .i64 (q : Nat) ∧ Lr = apartAll m p ++ apartRow m p q ∧ wr.ownsRow w2.heap.size 47 2 lv Lr.length (pairCells Lr) ∧ Below w2.heap.size w2 wr ∧ wr.cell? ⟨w.heap.size, 0, none⟩ = some (.slice A m.length cap)) (fun _ qv _ => m.length - (intOf qv).toNat)
      case atStart => exact ⟨p + 1, apartAll m p, Nat.le_refl _, by omega, by go_num, by rw [apartRow_start m p (p + 1) (Nat.le_refl _), List.append_nil], HO.out, hB, hbx⟩
      case round =>
        clear HO hB hbx
        obtain ⟨q, Lr, hpq, hq, rfl, hLr, hO, hB, hbx⟩ := hrel
        by_cases hql : q < m.length
        · have hqs : (q : Int) < m.length := by omega
          have hask := Hask.out p q wr hB (by omega) hql
          have hrow := apartRow_succ m p q
          have hrl := apartRow_len m p q
          have hLl : Lr.length ≤ 7200 := by rw [hLr, List.length_append]; omega
          have hlb := hB.size
          by_cases hneg : 0 ≤ mlen m p q
          · rw [decide_eq_true hneg] at hask
            rw [if_neg (by omega), List.append_nil] at hrow
            have HLr := hid (show Lr = apartAll m p ++ apartRow m p (q + 1) from by rw [hrow]; exact hLr)
            have HO := hid hO
            clear hO hrow hLr hneg
            generalize len0 m p q = z at *
            go_wp2_with fail
            go_roundw
            case rel => exact ⟨q + 1, Lr, by omega, by omega, by go_num, HLr.out, HO.out, hB, hbx⟩
            case measure => simp [intOf]; omega
          · rw [decide_eq_false hneg] at hask
            rw [if_pos (by omega)] at hrow
            have HLr := hid (show Lr ++ [(p, q)] = apartAll m p ++ apartRow m p (q + 1) from by rw [hrow, hLr, List.append_assoc])
            have HO := hid (hO.alloc (.cells #[.int .i64 p, .int .i64 q] 47))
            have Hp := hid (fun (w5 : World) (o : Obj) (hgrow : (wr.alloc o).grownBy w5 u4.ownBlock) => pairs_pushed2 HBB.out hB hbx hO hgrow hl2)
            clear hO hrow hLr hneg
            generalize len0 m p q = z at *
            go_wp2_with (at_builtin; refine wpList_append_own_at _ rfl _ _ 29 rfl w2.heap.size 47 i0 (.agg #[.int .i64 0, .int .i64 0]) 2 16 Tryd.underlying29 hi hz0 hz1 hz2 rfl (by decide) _ _ _ rfl HO.out ⟨wr.heap.size, 0, none⟩ 1 1 [.int .i64 p, .int .i64 q] rfl rfl (pair_new _ _ _ _ _ rfl) (by simp [Value.oneCell']) (by unfold maxLen; omega) (by omega) (by simp; omega) ?_; intro v' w5 hown' hgrow' _ hat; have HP := hid (Hp.out w5 _ hgrow'); have HN := hid hown'; clear hown' hgrow' hat)
            go_roundw
            case rel =>
              obtain ⟨f1, f2⟩ := HP.out
              refine ⟨q + 1, Lr ++ [(p, q)], by omega, by omega, by go_num, HLr.out, ?_, f1, f2⟩
              rw [List.length_append, pairCells_snoc]
              exact HN.out
            case measure => simp [intOf]; omega
        · obtain rfl : q = m.length := by omega
          have hqs : ¬ ((m.length : Nat) : Int) < m.length := by omega
          have HO := hid (show wr.ownsRow w2.heap.size 47 2 u4 (apartAll m (p + 1)).length (pairCells (apartAll m (p + 1))) from by rw [apartAll_succ, ← hLr]; exact hO)
          clear hO hLr
          go_wp2_with fail
          go_roundw
          case rel => exact ⟨p + 1, by omega, by go_num, HO.out, hB, hbx⟩
          case measure => simp [intOf]; omega
    · obtain rfl : p = m.length := by omega
      have hps : ¬ ((m.length : Nat) : Int) < m.length := by omega
      have HO := hid hO
      have HF := hid (btr HBB.out hB)
      clear hO
      go_wp2_with fail
      go_ret2
      exact ⟨_, rfl, row_mono HO.out HBB.out.size, HF.out⟩
end Go.Proofs.YtmfbcnigefjgpaaDoor
namespace Go.Proofs.YtmfbcnigefjgpaaDoor
open Go.RowKit Go.Shelf
set_option maxRecDepth 100000 in
set_option maxHeartbeats 4000000 in
theorem rApart_any (v : Value) (m : List (List Int)) (w : World) (h : Rows w v m) (hv : validM m = true) :
    Calls Tryd.prog 14 #[.agg #[v]] w fun e w' => ∃ r, e = .returned r ∧ w'.ownsRow w.heap.size 47 2 r (apartL m).length (pairCells (apartL m)) ∧ Below w.heap.size w w' := by
  obtain ⟨i0, hi, hz0, hz1, hz2⟩ := info_parts infoArr
  obtain ⟨p1, p2, -⟩ := valid_parts hv
  obtain ⟨A, cap, rfl, hml, -⟩ := id h
  have hX := bal (Below.refl _ w) (.cells #[.slice A m.length cap] 24)
  go_enter Tryd.func14, Tryd.ntmps14
  go_wp2_with fail
  generalize w.alloc (.cells #[.slice A m.length cap] 24) = X at *
  have hr := h.below hX
  refine (rTable_any _ m _ hr hv).mono ?_
  rintro e w2 ⟨V, B, rfl, hT, h2⟩
  obtain ⟨g, gc, rfl⟩ := ownsRow_pos' hT.outer p1
  have HBB := hid (btr hX h2)
  have HT := hid (fun (w' : World) (hb : Below w2.heap.size w2 w') => hT.below hb)
  clear hT h2 hX hr h
  go_wp2_with fail
  go_loopw [4, 5] (fun lv pv wr => ∃ p : Nat, p ≤ m.length ∧ pv = .int .i64 (p : Nat) ∧ wr.ownsRow w2.heap.size 47 2 lv (apartAll m p).length (pairCells (apartAll m p)) ∧ Below w2.heap.size w2 wr) (fun _ pv _ => m.length - (intOf pv).toNat)
  case atStart => exact ⟨0, Nat.zero_le _, rfl, World.ownsRow_nil _ _ _ _, Below.refl _ _⟩
  case round =>
    obtain ⟨p, hp, rfl, hO, hB⟩ := hrel
    have hmm60 : m.length * m.length ≤ 3600 := Nat.mul_le_mul (show m.length ≤ 60 by omega) (show m.length ≤ 60 by omega)
    by_cases hpl : p < m.length
    · have hps : (p : Int) < m.length := by omega
      have HO := hid hO
      clear hO
      have hlen := apartAll_len m p
      have hlen2 := Nat.mul_le_mul_right m.length (show p ≤ m.length by omega)
      obtain ⟨wo, rfl⟩ : ∃ wo : World, wo = wr := ⟨_, rfl⟩
      go_wp2_with fail
      go_loopw [4, 6] (fun lv qv wr => ∃ (q : Nat) (Lr : List (Nat × Nat)), p + 1 ≤ q ∧ q ≤ m.length ∧ qv = .int .i64 (q : Nat) ∧ Lr = apartAll m p ++ apartRow m p q ∧ wr.ownsRow w2.heap.size 47 2 lv Lr.length (pairCells Lr) ∧ Below w2.heap.size w2 wr) (fun _ qv _ => m.length - (intOf qv).toNat)
      case atStart => exact ⟨p + 1, apartAll m p, Nat.le_refl _, by omega, by go_num, by rw [apartRow_start m p (p + 1) (Nat.le_refl _), List.append_nil], HO.out, hB⟩
      case round =>
        clear HO hB
        obtain ⟨q, Lr, hpq, hq, rfl, hLr, hO, hB⟩ := hrel
        by_cases hql : q < m.length
        · have hqs : (q : Int) < m.length := by omega
          have hTr := HT.out _ hB
          have hc1 := hTr.cell hpl
          have hc2 := hTr.num hpl hql
          have hrow := apartRow_succ m p q
          have hrl := apartRow_len m p q
          have hLl : Lr.length ≤ 7200 := by rw [hLr, List.length_append]; omega
          have hlb := hB.size
          by_cases hneg : 0 ≤ mlen m p q
          · rw [if_neg (by omega), List.append_nil] at hrow
            have HLr := hid (show Lr = apartAll m p ++ apartRow m p (q + 1) from by rw [hrow]; exact hLr)
            have HO := hid hO
            have hn2 : ¬ mlen m p q < 0 := by omega
            clear hO hrow hLr hTr
            generalize mlen m p q = z at *
            go_wp2_with fail
            go_roundw
            case rel => exact ⟨q + 1, Lr, by omega, by omega, by go_num, HLr.out, HO.out, hB⟩
            case measure => simp [intOf]; omega
          · rw [if_pos (by omega)] at hrow
            have HLr := hid (show Lr ++ [(p, q)] = apartAll m p ++ apartRow m p (q + 1) from by rw [hrow, hLr, List.append_assoc])
            have HO := hid (hO.alloc (.cells #[.int .i64 p, .int .i64 q] 47))
            have Hp := hid (fun (w5 : World) (o : Obj) (hgrow : (wr.alloc o).grownBy w5 u4.ownBlock) => (bal hB o).grown hgrow (by have := hB.size; simp; omega) (fun k hk => (hO.lt k hk).1))
            have hn2 : mlen m p q < 0 := by omega
            clear hO hrow hLr hneg hTr
            generalize mlen m p q = z at *
            go_wp2_with (at_builtin; refine wpList_append_own_at _ rfl _ _ 29 rfl w2.heap.size 47 i0 (.agg #[.int .i64 0, .int .i64 0]) 2 16 Tryd.underlying29 hi hz0 hz1 hz2 rfl (by decide) _ _ _ rfl HO.out ⟨wr.heap.size, 0, none⟩ 1 1 [.int .i64 p, .int .i64 q] rfl rfl (pair_new _ _ _ _ _ rfl) (by simp [Value.oneCell']) (by unfold maxLen; omega) (by omega) (by simp; omega) ?_; intro v' w5 hown' hgrow' _ hat; have HP := hid (Hp.out w5 _ hgrow'); have HN := hid hown'; clear hown' hgrow' hat)
            go_roundw
            case rel =>
              refine ⟨q + 1, Lr ++ [(p, q)], by omega, by omega, by go_num, HLr.out, ?_, HP.out⟩
              rw [List.length_append, pairCells_snoc]
              exact HN.out
            case measure => simp [intOf]; omega
        · obtain rfl : q = m.length := by omega
          have hqs : ¬ ((m.length : Nat) : Int) < m.length := by omega
          have HO := hid (show wr.ownsRow w2.heap.size 47 2 u4 (apartAll m (p + 1)).length (pairCells (apartAll m (p + 1))) from by rw [apartAll_succ, ← hLr]; exact hO)
          clear hO hLr
          go_wp2_with fail
          go_roundw
          case rel => exact ⟨p + 1, by omega, by go_num, HO.out, hB⟩
          case measure => simp [intOf]; omega
    · obtain rfl : p = m.length := by omega
      have hps : ¬ ((m.length : Nat) : Int) < m.length := by omega
      have HO := hid hO
      have HF := hid (btr HBB.out hB)
      clear hO
      go_wp2_with fail
      go_ret
      exact ⟨_, rfl, row_mono HO.out HBB.out.size, HF.out⟩
/-- A list of pairs of the call's own, in the one way or the other. -/
theorem pair_cells {w : World} {n₀ g cap l n : Nat} {t : TypeId} {L : List (Nat × Nat)} (h : w.ownsRow n₀ t 2 (.slice (some ⟨g, 0, none⟩) l cap) n (pairCells L)) {i : Nat} {e : Nat × Nat} (he : L[i]? = some e) :
    w.cell? ⟨g, i * 2, none⟩ = some (.int .i64 (e.1 : Nat)) ∧ w.cell? ⟨g, i * 2 + 1, none⟩ = some (.int .i64 (e.2 : Nat)) := by
  obtain ⟨h1, h2⟩ := pairCells_get L i e he
  have k := World.ownsRow.cells h (g := g) rfl
  have a1 := k _ _ h1
  have a2 := k _ _ h2
  simp only [Addr.add] at a1 a2
  refine ⟨?_, ?_⟩
  · by_cases e : i * 2 = 0
    · rw [e] at a1 ⊢; simpa using a1
    · simpa [e] using a1
  · simpa using a2
set_option maxHeartbeats 2000000 in
theorem rPairs_any (u v : Value) (L M : List (Nat × Nat)) (n1 n2 : Nat) (w : World) (hL : w.ownsRow n1 47 2 u L.length (pairCells L)) (hM : w.ownsRow n2 47 2 v M.length (pairCells M)) (hl : L.length ≤ 1000000) (hm : M.length ≤ 1000000) :
    Calls Tryd.prog 13 #[u, v] w fun e w' => e = .returned (.bool (decide (L = M))) ∧ Below w.heap.size w w' := by
  obtain ⟨uA, uc, rfl⟩ := ownsRow_slice hL
  obtain ⟨vA, vc, rfl⟩ := ownsRow_slice hM
  have HL := hid hL
  have HM := hid hM
  clear hL hM
  by_cases hlen : L.length = M.length
  · have hle : ((L.length : Int) != (M.length : Int)) = false := by simp [hlen]
    have hle2 : (L.length != M.length) = false := by simp [hlen]
    have Hlen := hid hlen
    clear hlen
    go_enter Tryd.func13, Tryd.ntmps13
    go_wp2_with fail
    go_loopw [5] (fun iv wr => ∃ i : Nat, i ≤ L.length ∧ iv = .int .i64 (i : Nat) ∧ L.take i = M.take i ∧ Below w.heap.size w wr) (fun iv _ => L.length - (intOf iv).toNat)
    case atStart => exact ⟨0, Nat.zero_le _, rfl, rfl, Below.refl _ _⟩
    case round =>
      obtain ⟨i, hi, rfl, htk, hB⟩ := hrel
      have Htk := hid htk
      clear htk
      by_cases hil : i < L.length
      · have his : (i : Int) < L.length := by omega
        have him : i < M.length := by have := Hlen.out; omega
        have hism : (i : Int) < M.length := by omega
        have hLi := List.getElem?_eq_getElem hil
        have hMi := List.getElem?_eq_getElem him
        obtain ⟨gu, cu, hgu⟩ := ownsRow_pos' HL.out (by omega)
        obtain ⟨gv, cv, hgv⟩ := ownsRow_pos' HM.out (by omega)
        simp only [Value.slice.injEq] at hgu hgv
        obtain ⟨rfl, -, rfl⟩ := hgu
        obtain ⟨rfl, -, rfl⟩ := hgv
        obtain ⟨c1, c2⟩ := pair_cells HL.out hLi
        obtain ⟨c3, c4⟩ := pair_cells HM.out hMi
        have d1 := (hB.cell (p := ⟨gu, i * 2, none⟩) (World.block_lt_of_cell? _ _ c1)).trans c1
        have d2 := (hB.cell (p := ⟨gu, i * 2 + 1, none⟩) (World.block_lt_of_cell? _ _ c2)).trans c2
        have d3 := (hB.cell (p := ⟨gv, i * 2, none⟩) (World.block_lt_of_cell? _ _ c3)).trans c3
        have d4 := (hB.cell (p := ⟨gv, i * 2 + 1, none⟩) (World.block_lt_of_cell? _ _ c4)).trans c4
        have hng := noGuard2
        have heq := fun a b c d w => equalIn_pair Tryd.underlying47 a b c d w
        have hsL := hid (show L.take (i + 1) = L.take i ++ [L[i]] from List.take_succ_eq_append_getElem hil)
        have hsM := hid (show M.take (i + 1) = M.take i ++ [M[i]] from List.take_succ_eq_append_getElem him)
        have hLM := hid (show L = M → L[i] = M[i] from fun e => by subst e; rfl)
        clear c1 c2 c3 c4 hLi hMi
        generalize L[i] = a at *
        generalize M[i] = b at *
        obtain ⟨a1, a2⟩ := a
        obtain ⟨b1, b2⟩ := b
        simp only at d1 d2 d3 d4
        by_cases hab : a1 = b1 ∧ a2 = b2
        · obtain ⟨rfl, rfl⟩ := hab
          have hbb : (!(((a1 : Int) == (a1 : Int)) && ((a2 : Int) == (a2 : Int)))) = false := by simp
          go_wp2_with fail
          go_quiet (fail)
          go_wp2
          go_roundw
          case rel => exact ⟨i + 1, by omega, by go_num, by rw [hsL.out, hsM.out, Htk.out], bdr hB nq⟩
          case measure => simp [intOf]; omega
        · have hbb : (((a1 : Int) == (b1 : Int)) && ((a2 : Int) == (b2 : Int))) = false := by
            rw [Bool.eq_false_iff]
            simp
            intro h1 h2
            exact hab ⟨by omega, by omega⟩
          have hne := hid (show decide (L = M) = false from decide_eq_false fun e => hab (by simpa using hLM.out e))
          clear hab
          go_wp2_with fail
          go_quiet (fail)
          go_wp2
          go_ret
          exact ⟨ret_bool hne.out.symm, bdr hB nq⟩
      · obtain rfl : i = L.length := by omega
        have his : ¬ ((L.length : Nat) : Int) < L.length := by omega
        have hT := hid (show decide (L = M) = true from decide_eq_true (by have := Htk.out; rwa [List.take_length, List.take_of_length_le (by have := Hlen.out; omega)] at this))
        go_wp2_with fail
        go_ret
        exact ⟨ret_bool hT.out.symm, hB⟩
  · have hle : ((L.length : Int) != (M.length : Int)) = true := by simp; omega
    have hle2 : (L.length != M.length) = true := by simp; omega
    have hne := hid (show decide (L = M) = false from decide_eq_false fun e => hlen (by rw [e]))
    clear hlen
    go_enter Tryd.func13, Tryd.ntmps13
    go_wp2_with fail
    go_ret
    exact ⟨ret_bool hne.out.symm, Below.refl _ _⟩
end Go.Proofs.YtmfbcnigefjgpaaDoor
namespace Go.Proofs.YtmfbcnigefjgpaaDoor
open Go.RowKit Go.Shelf
theorem apartL_nil {m : List (List Int)} (hv : validM m = true) : apartL m = [] ↔ allMerge m := by
  constructor
  · intro h p q hpq hq
    rcases mlen_spec hv (p := p) (q := q) (by omega) hq with ⟨h1, _⟩ | ⟨j, _, _, h3⟩
    · have : (p, q) ∈ apartL m := apartL_mem.2 ⟨hpq, hq, by simp only; omega⟩
      rw [h] at this
      cases this
    · exact ⟨j, h3.1⟩
  · intro h
    rw [List.eq_nil_iff_forall_not_mem]
    intro e he
    obtain ⟨h1, h2, h3⟩ := apartL_mem.1 he
    obtain ⟨k, hk⟩ := h e.1 e.2 h1 h2
    obtain ⟨j, _, hd⟩ := mdist_some hk
    rw [mlen_of hv (by omega) h2 hd] at h3
    omega
open Classical in
theorem rHome_any (v : Value) (m : List (List Int)) (b : Bool) (w : World) (h : Rows w v m) (hv : validM m = true) (hb : decide (allMerge m) = b) :
    Calls Tryd.prog 20 #[.agg #[v]] w fun e w' => e = .returned (.bool b) ∧ Below w.heap.size w w' := by
  obtain ⟨A, cap, rfl, hml, -⟩ := id h
  have hX := bal (Below.refl _ w) (.cells #[.slice A m.length cap] 24)
  have hr := h.below hX
  have hbl : ((((apartL m).length : Nat) : Int) == 0) = b := by
    rw [← hb, Bool.eq_iff_iff]
    rw [decide_eq_true_iff, ← apartL_nil hv, beq_iff_eq, ← List.length_eq_zero_iff]
    omega
  have Hbl := hid hbl
  clear hbl hb
  go_enter Tryd.func20, Tryd.ntmps20
  go_wp2_with fail
  refine (rApart_any _ m _ hr hv).mono ?_
  rintro e w2 ⟨r, rfl, ho, h2⟩
  obtain ⟨rA, rc, rfl⟩ := ownsRow_slice ho
  have HB := hid (btr hX h2)
  clear ho h2 hr h
  generalize (apartL m).length = n at *
  go_wp2
  go_ret
  exact ⟨ret_bool Hbl.out, HB.out⟩
set_option maxHeartbeats 1000000 in
theorem rMost_any (n : Nat) (w : World) (hn : n ≤ 60) :
    Calls Tryd.prog 21 #[.int .i64 n] w fun e w' => e = .returned (.int .i64 (((n * n * n - n) / 6 : Nat) : Int)) ∧ w = w' := by
  have h2 : n * n ≤ 60 * 60 := Nat.mul_le_mul hn hn
  have h3 : n * n * n ≤ 60 * 60 * 60 := Nat.mul_le_mul h2 hn
  have h4 : n ≤ n * n * n := by
    rcases Nat.eq_zero_or_pos n with e | e
    · subst e; simp
    · have : 1 * n ≤ n * n * n := Nat.mul_le_mul_right n (Nat.mul_pos e e)
      omega
  have e2 : (n : Int) * n = ((n * n : Nat) : Int) := by push_cast; rfl
  have e3 : (n : Int) * n * n = ((n * n * n : Nat) : Int) := by push_cast; rfl
  have b2 : (n : Int) * n ≤ 3600 := by rw [e2]; omega
  have b2' : 0 ≤ (n : Int) * n := by rw [e2]; omega
  have b3 : (n : Int) * n * n ≤ 216000 := by rw [e3]; omega
  have b3' : 0 ≤ (n : Int) * n * n := by rw [e3]; omega
  have b4 : (n : Int) ≤ (n : Int) * n * n := by rw [e3]; omega
  have Hend := hid (show ((n : Int) * n * n - n) / 6 = (((n * n * n - n) / 6 : Nat) : Int) from by rw [e3]; omega)
  clear e2 e3
  go_enter Tryd.func21, Tryd.ntmps21
  go_wp2
  go_ret
  exact ⟨ret_int Hend.out, rfl⟩
theorem ofList_all {n : Nat} (hn : n ≤ 64) : ofList (allM n) = 2 ^ n - 1 := by
  have hp : (2 : Nat) ^ n ≤ 2 ^ 64 := Nat.pow_le_pow_right (by decide) hn
  have h0 := Nat.two_pow_pos n
  have hm : ∀ x ∈ allM n, 0 ≤ x ∧ x < n := fun x hx => by
    unfold allM pick at hx
    simp at hx
    obtain ⟨a, ha, rfl⟩ := hx
    omega
  refine eq_of_elems _ _ (Nat.lt_of_lt_of_le (ofList_lt n hn _ hm) hp) (by omega) fun i _ => ?_
  rw [testBit_below, allM, pick_testBit]
  simp
theorem image_len {m : List (List Int)} (hm : m.length ≤ 64) (u : List Int) : (imageM m (allM m.length) u).length = (elems (imgWord m (2 ^ m.length - 1) u)).length := by
  rw [imageM, ofList_all hm, intsOf, List.length_map]
theorem resetW_word {m : List (List Int)} (hv : validM m = true) (hall : allMerge m) : isWordM m (resetW m) = true := by
  obtain ⟨p1, p2, -⟩ := valid_parts hv
  obtain ⟨c1, -, c3⟩ := resetW_ok hv hall
  have hcube : m.length * m.length * m.length ≤ 60 * 60 * 60 := Nat.mul_le_mul (Nat.mul_le_mul p2 p2) p2
  unfold isWordM
  rw [c1, Bool.and_true]
  exact decide_eq_true (by omega)
set_option maxHeartbeats 2000000 in
theorem rResets_yes (v u : Value) (m : List (List Int)) (l : List Int) (w : World) (h : Rows w v m) (hu : Ints w u l) (hv : validM m = true) (hw : isWordM m l = true) (h1 : (imageM m (allM m.length) l).length = 1) :
    Calls Tryd.prog 22 #[.agg #[v], u] w fun e w' => e = .returned (.bool true) ∧ Below w.heap.size w w' := by
  obtain ⟨p1, p2, -⟩ := valid_parts hv
  obtain ⟨A, cap, rfl, hml, -⟩ := id h
  obtain ⟨uA, uc, rfl, -, -⟩ := id hu
  have hX := bal (Below.refl _ w) (.cells #[.slice A m.length cap] 24)
  have hbx := (Boxed.new w 24 (.slice A m.length cap)).cell
  have Hx := hid hX
  have hset := allM_set m
  obtain ⟨x, hx⟩ : ∃ x, imageM m (allM m.length) l = [x] := by
    match hi : imageM m (allM m.length) l, h1 with
    | [x], _ => exact ⟨x, rfl⟩
  have Hx1 := hid hx
  have HAL := hid (show allM m.length = allM m.length from rfl)
  have Hset := hid hset
  clear hset hx h1
  go_enter Tryd.func22, Tryd.ntmps22
  go_wp2_with fail
  have hr := h.below hX
  have hu2 := hu.below hX
  generalize w.alloc (.cells #[.slice A m.length cap] 24) = X at *
  clear hX h hu
  go_region_held3 (fun w' => Below X.heap.size X w' ∧ w'.cell? ⟨w.heap.size, 0, none⟩ = some (.slice A m.length cap)) (exact held_one hbx (by first | exact below_dr X 1 | assumption)) (first
    | (go_at_call 24; go_must (refine (rWord_bool _ _ m l true _ (hr.below (by first | exact below_dr X 1 | exact Below.refl _ _)) hv (hu2.below (by first | exact below_dr X 1 | exact Below.refl _ _)) hw).mono ?_; rintro e y1 ⟨rfl, hy1⟩; have k1 : Below X.heap.size X y1 := btr (by first | exact below_dr X 1 | exact Below.refl _ _) hy1))
    | (go_at_call 26; go_must (refine (rAll_any m.length _ (by omega)).mono ?_; rintro e y2 ⟨rv, rfl, i2, hy2⟩; have k2 : Below X.heap.size X y2 := btr k1 hy2; obtain ⟨rA, rc, rfl, -, -⟩ := id i2))
    | (go_at_call 45; go_must (refine (rImage_any _ _ _ m _ l _ (hr.below k2) i2 (hu2.below k2) hv Hset.out hw).mono ?_; rintro e y3 ⟨rv3, rfl, i3, hy3⟩; rw [Hx1.out] at i3; have k3 : Below X.heap.size X y3 := btr k2 hy3; obtain ⟨rA3, rc3, rfl, -, -⟩ := id i3)))
  all_goals go_wp2
  all_goals go_ret
  all_goals exact ⟨rfl, btr Hx.out k3⟩
end Go.Proofs.YtmfbcnigefjgpaaDoor
namespace Go.Proofs.YtmfbcnigefjgpaaDoor
open Go.RowKit Go.Shelf
def m3a : List (List Int) := [[1, 0], [0, 0]]
def m3b : List (List Int) := [[1, 1], [0, 0]]
def m3c : List (List Int) := [[1, 0], [2, 1], [0, 0]]
theorem m3a_valid : validM m3a = true := by decide +kernel
theorem m3b_valid : validM m3b = true := by decide +kernel
theorem m3c_valid : validM m3c = true := by decide +kernel
theorem m3a_len : mlen m3a 0 1 = 1 := by decide +kernel
theorem m3a_word : mW m3a 1 0 1 = [1] := by decide +kernel
theorem m3a_dist : mdist m3a 0 1 1 := by
  rcases mlen_spec m3a_valid (p := 0) (q := 1) (by decide) (by decide) with ⟨h1, _⟩ | ⟨j, _, h2, h3⟩
  · rw [m3a_len] at h1; omega
  · rw [m3a_len] at h2
    obtain rfl : j = 1 := by omega
    exact h3
theorem m3b_apart : apartL m3b = [(0, 1)] := by decide +kernel
theorem m3b_none : ¬ allMerge m3b := fun h => by
  have := (apartL_nil m3b_valid).2 h
  rw [m3b_apart] at this
  cases this
theorem m3c_apart : apartL m3c = [] := by decide +kernel
theorem m3c_all : allMerge m3c := (apartL_nil m3c_valid).1 m3c_apart
theorem m3c_reset : (resetW m3c).length = 4 := by decide +kernel
/-- .. as the program is told of them. -/
theorem merge_m3a (v : Value) (w : World) (h : Rows w v m3a) : Calls Tryd.prog 9 #[.agg #[v], .int .i64 0, .int .i64 1] w fun e w' => ∃ A c, e = .returned (.tuple #[.slice A 1 c, .int .i64 0]) ∧ Ints w' (.slice A 1 c) [1] ∧ Below w.heap.size w w' := by
  refine (Merge_ok v m3a 0 1 1 w h m3a_valid (by decide) (by decide) m3a_dist).mono ?_
  rintro e w1 ⟨r, rfl, ho, hb⟩
  rw [m3a_word] at ho
  have hi : Ints w1 r [1] := Ints.of_own ho (by decide)
  obtain ⟨A, c, rfl, _⟩ := id hi
  exact ⟨A, c, rfl, hi, hb⟩
theorem apart_m3b (v : Value) (w : World) (h : Rows w v m3b) : Calls Tryd.prog 10 #[.agg #[v]] w fun e w' => ∃ A c, e = .returned (.tuple #[.slice A 1 c, .int .i64 0]) ∧ w'.ownsRow w.heap.size 47 2 (.slice A 1 c) 1 [.int .i64 0, .int .i64 1] ∧ Below w.heap.size w w' := by
  refine (Apart_ok v m3b w h m3b_valid).mono ?_
  rintro e w1 ⟨r, rfl, ho, hb⟩
  rw [m3b_apart] at ho
  obtain ⟨A, c, rfl⟩ := ownsRow_slice ho
  exact ⟨A, c, rfl, ho, hb⟩
theorem reset_m3b (v : Value) (w : World) (h : Rows w v m3b) : Calls Tryd.prog 19 #[.agg #[v]] w fun e w' => e = .returned (.tuple #[.slice none 0 0, .int .i64 4]) ∧ Below w.heap.size w w' := Reset_none v m3b w h m3b_valid m3b_none
theorem reset_m3c (v : Value) (w : World) (hT : Tab w) (h : Rows w v m3c) : Calls Tryd.prog 19 #[.agg #[v]] w fun e w' => ∃ A c, e = .returned (.tuple #[.slice A 4 c, .int .i64 0]) ∧ Below w.heap.size w w' := by
  refine (Reset_ok v m3c w hT h m3c_valid m3c_all).mono ?_
  rintro e w1 ⟨r, rfl, ho, hb⟩
  rw [m3c_reset] at ho
  obtain ⟨A, c, rfl⟩ := ownsRow_slice ho
  exact ⟨A, c, rfl, hb⟩
theorem lit2_rows (w : World) (a b c d : Int) : Rows (((w.alloc (.cells #[.int .i64 a, .int .i64 b] 3)).alloc (.cells #[.int .i64 c, .int .i64 d] 3)).alloc
    (.cells #[.slice (some ⟨w.heap.size, 0, none⟩) 2 2, .slice (some ⟨w.heap.size + 1, 0, none⟩) 2 2] 25)) (.slice (some ⟨w.heap.size + 1 + 1, 0, none⟩) 2 2) [[a, b], [c, d]] :=
  rows2 _ _ _ _ _ _ _ (by simp) ((Ints.two' w a b _ _ rfl).alloc _) (Ints.two' _ c d _ _ (by simp))
/-- A list of one pair, just made. -/
theorem pairs_lit (w : World) (a b : Nat) (t : TypeId) (B : Nat) (hB : w.heap.size = B) : (w.alloc (.cells #[.int .i64 a, .int .i64 b] t)).ownsRow 0 t 2 (.slice (some ⟨B, 0, none⟩) 1 1) 1 [.int .i64 a, .int .i64 b] := by
  subst hB
  exact ⟨rfl, .inr ⟨w.heap.size, 1, #[.int .i64 a, .int .i64 b], rfl, Nat.zero_le _, World.alloc_heap_new _ _, Nat.le_refl _, by unfold maxLen; omega, rfl, rfl⟩⟩
theorem rPairs_one (u v : Value) (n1 n2 : Nat) (w : World) (hL : w.ownsRow n1 47 2 u 1 [.int .i64 0, .int .i64 1]) (hM : w.ownsRow n2 47 2 v 1 [.int .i64 0, .int .i64 1]) :
    Calls Tryd.prog 13 #[u, v] w fun e w' => e = .returned (.bool true) ∧ Below w.heap.size w w' :=
  rPairs_any u v [(0, 1)] [(0, 1)] n1 n2 w hL hM (by decide) (by decide)
set_option maxRecDepth 100000 in
set_option maxHeartbeats 2000000 in
theorem awake3_any (w : World) (hT : Tab w) :
    Calls Tryd.prog 12 #[] w fun e w' => e = .returned (.bool true) ∧ Below w.heap.size w w' := by
  go_enter Tryd.func12, Tryd.ntmps12
  go_wp2_with fail
  have hR0 := lit2_rows w 1 0 0 0
  have hX := bal (bal (bal (Below.refl _ w) (.cells #[.int .i64 1, .int .i64 0] 3)) (.cells #[.int .i64 0, .int .i64 0] 3)) (.cells #[.slice (some ⟨w.heap.size, 0, none⟩) 2 2, .slice (some ⟨w.heap.size + 1, 0, none⟩) 2 2] 25)
  refine (merge_m3a _ _ hR0).mono ?_
  rintro e w1 ⟨A1, c1, rfl, i1, h1⟩
  have B1 := btr hX h1
  clear hX hR0 h1
  go_wp2_with fail
  have hR1 := (lit2_rows w1 1 1 0 0).alloc (.cells #[.slice (some ⟨w1.heap.size + 1 + 1, 0, none⟩) 2 2] 24)
  have hX1 := bal (bal (bal (bal (Below.refl _ w1) (.cells #[.int .i64 1, .int .i64 1] 3)) (.cells #[.int .i64 0, .int .i64 0] 3)) (.cells #[.slice (some ⟨w1.heap.size, 0, none⟩) 2 2, .slice (some ⟨w1.heap.size + 1, 0, none⟩) 2 2] 25)) (.cells #[.slice (some ⟨w1.heap.size + 1 + 1, 0, none⟩) 2 2] 24)
  have hbx := (Boxed.new (((w1.alloc (.cells #[.int .i64 1, .int .i64 1] 3)).alloc (.cells #[.int .i64 0, .int .i64 0] 3)).alloc (.cells #[.slice (some ⟨w1.heap.size, 0, none⟩) 2 2, .slice (some ⟨w1.heap.size + 1, 0, none⟩) 2 2] 25)) 24 (.slice (some ⟨w1.heap.size + 1 + 1, 0, none⟩) 2 2)).cell
  simp only [World.size_alloc] at hbx
  generalize hWX : ((((w1.alloc (.cells #[.int .i64 1, .int .i64 1] 3)).alloc (.cells #[.int .i64 0, .int .i64 0] 3)).alloc (.cells #[.slice (some ⟨w1.heap.size, 0, none⟩) 2 2, .slice (some ⟨w1.heap.size + 1, 0, none⟩) 2 2] 25)).alloc (.cells #[.slice (some ⟨w1.heap.size + 1 + 1, 0, none⟩) 2 2] 24)) = X at *
  clear hWX
  generalize w1.heap.size + 1 + 1 = B at *
  have hlt := World.block_lt_of_cell? _ _ hbx
  have i1X := i1.below hX1
  have B1X := btr B1 hX1
  clear B1 hX1 i1
  refine (apart_m3b _ _ hR1).mono ?_
  rintro e w2 ⟨A2, c2, rfl, o2, h2⟩
  have e2 := (h2.cell (p := ⟨B + 1, 0, none⟩) hlt).trans hbx
  have i12 := i1X.below h2
  have B2 := btr B1X h2
  clear B1X i1X hbx
  go_wp2_with fail
  refine (reset_m3b _ _ (hR1.below h2)).mono ?_
  rintro e w3 ⟨rfl, h3⟩
  have i13 := i12.below h3
  have B3 := btr B2 h3
  have o3 := hid (ownsRow_same o2 fun g hg => h3.block g (o2.lt g hg).2)
  clear i12 B2 e2 o2 h2 h3 hR1
  go_wp2_with fail
  have hR3 := lit_rows w3 1 0 2 1 0 0
  have hX3 := bal (bal (bal (bal (Below.refl _ w3) (.cells #[.int .i64 1, .int .i64 0] 3)) (.cells #[.int .i64 2, .int .i64 1] 3)) (.cells #[.int .i64 0, .int .i64 0] 3)) (.cells #[.slice (some ⟨w3.heap.size, 0, none⟩) 2 2, .slice (some ⟨w3.heap.size + 1, 0, none⟩) 2 2, .slice (some ⟨w3.heap.size + 1 + 1, 0, none⟩) 2 2] 25)
  refine (reset_m3c _ _ (hT.on (btr B3 hX3)) hR3).mono ?_
  rintro e w4 ⟨A4, c4, rfl, h4⟩
  have b4 := btr hX3 h4
  have i14 := i13.below b4
  have B4 := btr B3 b4
  have o4 := hid (ownsRow_same o3.out fun g hg => b4.block g (o3.out.lt g hg).2)
  clear i13 B3 hX3 hR3 h4 b4 o3
  go_wp2_with fail
  refine (rSame_eq _ _ [1] _ (i14.alloc _) (Ints.one' w4 1 3 _ rfl)).mono ?_
  rintro e w5 ⟨rfl, h5⟩
  have b5 := btr (bal (Below.refl _ w4) (.cells #[.int .i64 1] 3)) h5
  have o5 := hid ((ownsRow_same o4.out fun g hg => b5.block g (o4.out.lt g hg).2).alloc (.cells #[.int .i64 0, .int .i64 1] 47))
  have B5 := btr B4 b5
  clear i14 B4 o4 h5 b5
  go_wp2_with fail
  refine (rPairs_one _ _ _ _ _ o5.out (pairs_lit w5 0 1 47 _ rfl)).mono ?_
  rintro e w6 ⟨rfl, h6⟩
  have B6 := btr (bal B5 (.cells #[.int .i64 0, .int .i64 1] 47)) h6
  go_wp2
  go_ret
  exact ⟨rfl, B6⟩
end Go.Proofs.YtmfbcnigefjgpaaDoor
namespace Go.Proofs.YtmfbcnigefjgpaaDoor
open Go.RowKit Go.Shelf
theorem Ints.nil (w : World) : Ints w (.slice none 0 0) [] := ⟨none, 0, rfl, by simp, fun i hi => by simp at hi⟩
end Go.Proofs.YtmfbcnigefjgpaaDoor
namespace Go.Proofs.YtmfbcnigefjgpaaDoor
open Go.RowKit Go.Shelf
theorem state_nat {m : List (List Int)} {s : Int} (h : stateM m s = true) : ∃ k : Nat, s = k ∧ k < m.length := by
  unfold stateM inB at h
  simp at h
  exact ⟨s.toNat, by omega, by omega⟩
end Go.Proofs.YtmfbcnigefjgpaaDoor
namespace Go.Proofs.YtmfbcnigefjgpaaDoor
open Go.RowKit Go.Shelf
theorem own_below {w w' : World} {n₀ s n : Nat} {t : TypeId} {v : Value} {xs : List Value} (h : w.ownsRow n₀ t s v n xs) (hb : Below w.heap.size w w') : w'.ownsRow n₀ t s v n xs := ownsRow_same h fun g hg => hb.block g (h.lt g hg).2
/-- What Merge returns of two states, and what the reference says. -/
def MergeRes (m : List (List Int)) (p q : Nat) (code : Int) (u : List Int) : Prop := (mlen m p q = -1 ∧ code = 4 ∧ u = []) ∨ ∃ j, mdist m p q j ∧ code = 0 ∧ u = mW m j p q
theorem mergeRes_some {m : List (List Int)} (hv : validM m = true) {p q : Nat} (hp : p < m.length) (hq : q < m.length) : ∃ c u, MergeRes m p q c u := by
  rcases mlen_spec hv hp hq with ⟨h1, _⟩ | ⟨j, _, _, h3⟩
  · exact ⟨4, [], .inl ⟨h1, rfl, rfl⟩⟩
  · exact ⟨0, _, .inr ⟨j, h3, rfl, rfl⟩⟩
theorem Merge_res (v : Value) (m : List (List Int)) (p q : Nat) (c : Int) (u : List Int) (w : World) (h : Rows w v m) (hv : validM m = true) (hp : p < m.length) (hq : q < m.length) (hr : Hid (MergeRes m p q c u)) :
    Calls Tryd.prog 9 #[.agg #[v], .int .i64 p, .int .i64 q] w fun e w' => ∃ A k, e = .returned (.tuple #[.slice A u.length k, .int .i64 c]) ∧ w'.ownsRow w.heap.size 3 1 (.slice A u.length k) u.length (u.map fun x => .int .i64 x) ∧ Below w.heap.size w w' := by
  rcases hr.out with ⟨h1, rfl, rfl⟩ | ⟨j, h1, rfl, rfl⟩
  · exact (Merge_none v m p q w h hv hp hq h1).mono fun e w' ⟨he, hb⟩ => ⟨none, 0, he, World.ownsRow_nil _ _ _ _, hb⟩
  · refine (Merge_ok v m p q j w h hv hp hq h1).mono ?_
    rintro e w' ⟨r, rfl, ho, hb⟩
    obtain ⟨A, k, rfl⟩ := ownsRow_slice ho
    exact ⟨A, k, rfl, ho, hb⟩
theorem mergeRes_len {m : List (List Int)} (hv : validM m = true) {p q : Nat} (hp : p < m.length) (hq : q < m.length) {c : Int} {u : List Int} (h : MergeRes m p q c u) : u.length ≤ 3600 ∧ (c = 0 ∨ c = 4) ∧ u.all (inB 0 ((letters m : Int) - 1)) = true := by
  rcases h with ⟨_, rfl, rfl⟩ | ⟨j, h1, rfl, rfl⟩
  · exact ⟨by simp, .inr rfl, rfl⟩
  · obtain ⟨a1, a2, _⟩ := mW_ok hv j p q hp hq h1
    have := mdist_lt hv hp hq h1
    have h2 : m.length * m.length ≤ 60 * 60 := Nat.mul_le_mul (valid_parts hv).2.1 (valid_parts hv).2.1
    exact ⟨by omega, .inl rfl, a1⟩
end Go.Proofs.YtmfbcnigefjgpaaDoor
namespace Go.Proofs.YtmfbcnigefjgpaaDoor
open Go.RowKit Go.Shelf
set_option maxRecDepth 100000 in
set_option maxHeartbeats 2000000 in
theorem finds_form (v : Value) (m : List (List Int)) (w : World) (hT : Tab w) (h : Rows w v m) (hv : validM m = false) :
    Calls Tryd.prog 4 #[.agg #[v]] w fun e w' => e = .returned (.bool true) ∧ Below w.heap.size w w' := by
  obtain ⟨A, cap, rfl, hml, -⟩ := id h
  have hX := bal (Below.refl _ w) (.cells #[.slice A m.length cap] 24)
  have hbx := (Boxed.new w 24 (.slice A m.length cap)).cell
  go_enter Tryd.func4, Tryd.ntmps4
  go_wp2_with fail
  have hr := h.below hX
  have hTX := hT.on hX
  generalize w.alloc (.cells #[.slice A m.length cap] 24) = X at *
  refine (Reset_form _ m _ hr hv).mono ?_
  rintro e w1 ⟨rfl, h1⟩
  have c1 := (h1.cell (p := ⟨w.heap.size, 0, none⟩) (World.block_lt_of_cell? _ _ hbx)).trans hbx
  have hr1 := hr.below h1
  go_wp2_with fail
  refine (rValid_bool _ m false _ hr1 hv).mono ?_
  rintro e w3 ⟨rfl, h3⟩
  have B3 := btr h1 h3
  go_wp2_with fail
  refine (awake3_any w3 (hTX.on B3)).mono ?_
  rintro e w4 ⟨rfl, h4⟩
  go_wp2
  go_ret
  exact ⟨rfl, btr hX (btr B3 h4)⟩
set_option maxRecDepth 100000 in
set_option maxHeartbeats 2000000 in
theorem finds_none (v : Value) (m : List (List Int)) (w : World) (hT : Tab w) (h : Rows w v m) (hv : validM m = true) (hno : ¬ allMerge m) :
    Calls Tryd.prog 4 #[.agg #[v]] w fun e w' => e = .returned (.bool true) ∧ Below w.heap.size w w' := by
  obtain ⟨A, cap, rfl, hml, -⟩ := id h
  have hX := bal (Below.refl _ w) (.cells #[.slice A m.length cap] 24)
  have hbx := (Boxed.new w 24 (.slice A m.length cap)).cell
  have Hno := hid hno
  clear hno
  go_enter Tryd.func4, Tryd.ntmps4
  go_wp2_with fail
  have hr := h.below hX
  have hTX := hT.on hX
  generalize w.alloc (.cells #[.slice A m.length cap] 24) = X at *
  refine (Reset_none _ m _ hr hv Hno.out).mono ?_
  rintro e w1 ⟨rfl, h1⟩
  have c1 := (h1.cell (p := ⟨w.heap.size, 0, none⟩) (World.block_lt_of_cell? _ _ hbx)).trans hbx
  have hr1 := hr.below h1
  go_wp2_with fail
  refine (rValid_bool _ m true _ hr1 hv).mono ?_
  rintro e w2 ⟨rfl, h2⟩
  have c2 := (h2.cell (p := ⟨w.heap.size, 0, none⟩) (World.block_lt_of_cell? _ _ c1)).trans c1
  have hr2 := hr1.below h2
  go_wp2_with fail
  refine (rHome_any _ m false _ hr2 hv (by simpa using Hno.out)).mono ?_
  rintro e w3 ⟨rfl, h3⟩
  have B3 := btr (btr h1 h2) h3
  go_wp2_with fail
  refine (awake3_any w3 (hTX.on B3)).mono ?_
  rintro e w4 ⟨rfl, h4⟩
  go_wp2
  go_ret
  exact ⟨rfl, btr hX (btr B3 h4)⟩
theorem reset_one {m : List (List Int)} (hv : validM m = true) (hall : allMerge m) : (imageM m (allM m.length) (resetW m)).length = 1 := by
  rw [image_len (by have := (valid_parts hv).2.1; omega)]
  exact (resetW_ok hv hall).2.1
set_option maxRecDepth 100000 in
set_option maxHeartbeats 2000000 in
theorem finds_ok (v : Value) (m : List (List Int)) (w : World) (hT : Tab w) (h : Rows w v m) (hv : validM m = true) (hall : allMerge m) :
    Calls Tryd.prog 4 #[.agg #[v]] w fun e w' => e = .returned (.bool true) ∧ Below w.heap.size w w' := by
  obtain ⟨p1, p2, -⟩ := valid_parts hv
  obtain ⟨A, cap, rfl, hml, -⟩ := id h
  have hX := bal (Below.refl _ w) (.cells #[.slice A m.length cap] 24)
  have hbx := (Boxed.new w 24 (.slice A m.length cap)).cell
  have Hall := hid hall
  have hw := hid (resetW_word hv hall)
  have h1i := hid (reset_one hv hall)
  have hlen := (resetW_ok hv hall).2.2
  have hcube : m.length * m.length * m.length ≤ 60 * 60 * 60 := Nat.mul_le_mul (Nat.mul_le_mul p2 p2) p2
  have hrb : (resetW m).length ≤ 36000 := by omega
  have hbig : (resetW m).length ≤ big := by unfold big; omega
  obtain ⟨W, hW⟩ : ∃ W, resetW m = W := ⟨_, rfl⟩
  rw [hW] at hw h1i hlen hrb hbig
  have HW := hid hW
  obtain ⟨K, hK⟩ : ∃ K, (m.length * m.length * m.length - m.length) / 6 = K := ⟨_, rfl⟩
  rw [hK] at hlen
  have HK := hid hK
  have hle : (W.length : Int) ≤ K := by omega
  clear hall hW hK hcube
  go_enter Tryd.func4, Tryd.ntmps4
  go_wp2_with fail
  have hr := h.below hX
  have hTX := hT.on hX
  generalize w.alloc (.cells #[.slice A m.length cap] 24) = X at *
  refine (Reset_ok _ m _ hTX hr hv Hall.out).mono ?_
  rintro e w1 ⟨r, rfl, ho, h1⟩
  rw [HW.out] at ho
  obtain ⟨rA, rc, rfl⟩ := ownsRow_slice ho
  have HO := hid ho
  have c1 := (h1.cell (p := ⟨w.heap.size, 0, none⟩) (World.block_lt_of_cell? _ _ hbx)).trans hbx
  have hr1 := hr.below h1
  clear ho
  go_wp2_with fail
  refine (rValid_bool _ m true _ hr1 hv).mono ?_
  rintro e w2 ⟨rfl, h2⟩
  have c2 := (h2.cell (p := ⟨w.heap.size, 0, none⟩) (World.block_lt_of_cell? _ _ c1)).trans c1
  have hr2 := hr1.below h2
  go_wp2_with fail
  refine (rHome_any _ m true _ hr2 hv (by simpa using Hall.out)).mono ?_
  rintro e w3 ⟨rfl, h3⟩
  have c3 := (h3.cell (p := ⟨w.heap.size, 0, none⟩) (World.block_lt_of_cell? _ _ c2)).trans c2
  have hr3 := hr2.below h3
  have B3 := btr (btr h1 h2) h3
  have HO3 := hid (own_below (own_below HO.out h2) h3)
  clear h1 h2 h3 c1 c2 hr hr1 hr2 hbx HO
  have hmost := rMost_any m.length w3 p2
  rw [HK.out] at hmost
  have Hm := hid hmost
  clear hmost
  go_wp2_with fail
  refine Hm.out.mono ?_
  rintro e w3' ⟨rfl, rfl⟩
  go_wp2_with fail
  refine (rResets_yes _ _ m W _ hr3 (Ints.of_own HO3.out hbig) hv hw.out h1i.out).mono ?_
  rintro e w4 ⟨rfl, h4⟩
  have B4 := btr B3 h4
  go_wp2_with fail
  refine (awake3_any w4 (hTX.on B4)).mono ?_
  rintro e w5 ⟨rfl, h5⟩
  go_wp2
  go_ret
  exact ⟨rfl, btr hX (btr B4 h5)⟩
theorem resetFinds_any (v : Value) (m : List (List Int)) (w : World) (hT : Tab w) (h : Rows w v m) :
    Calls Tryd.prog 4 #[.agg #[v]] w fun e w' => e = .returned (.bool true) ∧ Below w.heap.size w w' := by
  cases hv : validM m with
  | false => exact finds_form v m w hT h hv
  | true =>
    by_cases ha : allMerge m
    · exact finds_ok v m w hT h hv ha
    · exact finds_none v m w hT h hv ha
end Go.Proofs.YtmfbcnigefjgpaaDoor
namespace Go.Proofs.YtmfbcnigefjgpaaDoor
open Go.RowKit Go.Shelf
theorem ints_at {W : World} {ad : Addr} {n c : Nat} {l : List Int} (h : Ints W (.slice (some ad) n c) l) : ∀ j u, (l.map fun x => Value.int .i64 x)[j]? = some u → W.cell? (ad.add j) = some u := by
  intro j u hu
  obtain ⟨A, cap, hv, _, hc⟩ := h
  have hj : j < l.length := by
    have := (List.getElem?_eq_some_iff.1 hu).1
    simpa using this
  obtain ⟨b, off, hA, hcell⟩ := hc j hj
  simp only [Value.slice.injEq] at hv
  obtain ⟨rfl, -, -⟩ := hv
  cases hA
  have e : (⟨b, off, none⟩ : Addr).add j = ⟨b, off + j, none⟩ := by
    by_cases h0 : j = 0
    · subst h0; simp [Addr.add]
    · simp [Addr.add, h0]
  rw [e, hcell]
  simp only [List.getElem?_map, List.getElem?_eq_getElem hj, Option.map_some, Option.some.injEq] at hu
  rw [← hu, getD_elem l j hj]
/-- 'append(row, list...)', the list nil or not. -/
theorem wpList_append_list {w : World} {ops : Array Oper} {rest : List Oper} {o : Oper} {a : Act} {Q : Exit → Act → World → Prop} (hgd : o.guard = none) (s x : Operand)
    (ho : o.op = .call { callee := .builtin .append, args := #[s, x], argTypes := #[25, 25] }) (base n : Nat) (v : Value) (xs : List Value) (ao : Option Addr) (c : Nat) (l : List Int)
    (hs : a.eval s = v) (hown : w.ownsRow base 3 1 v n xs) (hx : a.eval x = .slice ao l.length c) (hc : ao = none → c = 0) (hI : Ints w (.slice ao l.length c) l) (hb : base ≤ w.heap.size) (hlen : n + l.length ≤ 100000)
    (h : ∀ v' w', w'.ownsRow base 3 1 v' (n + l.length) (xs ++ l.map fun x => .int .i64 x) → Below base w w' → wpList Tryd.prog ops Q rest (a.put o.dst v') w') :
    wpList Tryd.prog ops Q (o :: rest) a w := by
  obtain ⟨j0, hj, hy0, hy1, hy2⟩ := info_parts infoInt
  cases ao with
  | none =>
    obtain rfl := hc rfl
    have hl : l = [] := by
      obtain ⟨A, cap, hv, _, hcc⟩ := hI
      cases l with
      | nil => rfl
      | cons y l =>
        obtain ⟨b, off, hA, _⟩ := hcc 0 (by simp)
        simp only [Value.slice.injEq] at hv
        rw [← hv.1] at hA
        cases hA
    subst hl
    refine wpList_append_own_none hgd s x 25 ho base 3 j0 1 Tryd.underlying25 hj v n xs hs hown hx ?_
    exact h v w (by simpa using hown) (Below.refl _ _)
  | some ad =>
    refine wpList_append_own_at w hgd s x 25 ho base 3 j0 (.int .i64 0) 1 8 Tryd.underlying25 hj hy0 hy1 hy2 rfl (by decide) v n xs hs hown ad l.length c (l.map fun x => .int .i64 x) hx (by simp) (ints_at hI) (by simp [Value.oneCell']) (by unfold maxLen; omega) (by omega) hb ?_
    intro v' w' h1 h2 _ _
    refine h v' w' h1 ((Below.refl _ _).grown h2 hb (fun k hk => ?_))
    rcases hown.2 with ⟨rfl, _⟩ | ⟨g, cap, cur, rfl, hg, _⟩
    · cases hk
    · cases hk; exact hg
end Go.Proofs.YtmfbcnigefjgpaaDoor
namespace Go.Proofs.YtmfbcnigefjgpaaDoor
open Go.RowKit Go.Shelf
set_option maxRecDepth 100000 in
set_option maxHeartbeats 2000000 in
theorem more_form (v u1 u2 : Value) (m : List (List Int)) (ul vl : List Int) (w : World) (hT : Tab w) (h : Rows w v m) (hu1 : Ints w u1 ul) (hu2 : Ints w u2 vl) (hbad : (validM m && (isWordM m ul && isWordM m vl)) = false) :
    Calls Tryd.prog 6 #[.agg #[v], u1, u2] w fun e w' => e = .returned (.bool true) ∧ Below w.heap.size w w' := by
  obtain ⟨A, cap, rfl, hml, -⟩ := id h
  obtain ⟨Au, capu, rfl, -, -⟩ := id hu1
  obtain ⟨Av, capv, rfl, -, -⟩ := id hu2
  have hX := bal (Below.refl _ w) (.cells #[.slice A m.length cap] 24)
  have hbx := (Boxed.new w 24 (.slice A m.length cap)).cell
  have Hbad := hid hbad
  clear hbad
  go_enter Tryd.func6, Tryd.ntmps6
  go_wp2_with fail
  have hr := h.below hX
  have hTX := hT.on hX
  have hua := hu1.below hX
  have hub := hu2.below hX
  generalize w.alloc (.cells #[.slice A m.length cap] 24) = X at *
  cases hv : validM m with
  | false =>
    refine (rValid_bool _ m false _ hr hv).mono ?_
    rintro e w1 ⟨rfl, h1⟩
    go_wp2_with fail
    refine (awake3_any w1 (hTX.on h1)).mono ?_
    rintro e w4 ⟨rfl, h4⟩
    go_wp2
    go_ret
    exact ⟨rfl, btr hX (btr h1 h4)⟩
  | true =>
    refine (rValid_bool _ m true _ hr hv).mono ?_
    rintro e w1 ⟨rfl, h1⟩
    have c1 := (h1.cell (p := ⟨w.heap.size, 0, none⟩) (World.block_lt_of_cell? _ _ hbx)).trans hbx
    have hr1 := hr.below h1
    cases hwu : isWordM m ul with
    | false =>
      go_wp2_with fail
      refine (rWord_bool _ _ m ul false _ hr1 hv (hua.below h1) hwu).mono ?_
      rintro e w2 ⟨rfl, h2⟩
      have B2 := btr h1 h2
      go_wp2_with fail
      refine (awake3_any w2 (hTX.on B2)).mono ?_
      rintro e w4 ⟨rfl, h4⟩
      go_wp2
      go_ret
      exact ⟨rfl, btr hX (btr B2 h4)⟩
    | true =>
      go_wp2_with fail
      refine (rWord_bool _ _ m ul true _ hr1 hv (hua.below h1) hwu).mono ?_
      rintro e w2 ⟨rfl, h2⟩
      have B2 := btr h1 h2
      have c2 := (h2.cell (p := ⟨w.heap.size, 0, none⟩) (World.block_lt_of_cell? _ _ c1)).trans c1
      have hwv : isWordM m vl = false := by have := Hbad.out; rw [hv, hwu] at this; simpa using this
      go_wp2_with fail
      refine (rWord_bool _ _ m vl false _ (hr.below B2) hv (hub.below B2) hwv).mono ?_
      rintro e w3 ⟨rfl, h3⟩
      have B3 := btr B2 h3
      go_wp2_with fail
      refine (awake3_any w3 (hTX.on B3)).mono ?_
      rintro e w4 ⟨rfl, h4⟩
      go_wp2
      go_ret
      exact ⟨rfl, btr hX (btr B3 h4)⟩
set_option maxRecDepth 100000 in
set_option maxHeartbeats 2000000 in
theorem more_none (v u1 u2 : Value) (m : List (List Int)) (ul vl : List Int) (w : World) (hT : Tab w) (h : Rows w v m) (hu1 : Ints w u1 ul) (hu2 : Ints w u2 vl) (hv : validM m = true) (hwu : isWordM m ul = true) (hwv : isWordM m vl = true) (hno : ¬ allMerge m) :
    Calls Tryd.prog 6 #[.agg #[v], u1, u2] w fun e w' => e = .returned (.bool true) ∧ Below w.heap.size w w' := by
  obtain ⟨A, cap, rfl, hml, -⟩ := id h
  obtain ⟨Au, capu, rfl, -, -⟩ := id hu1
  obtain ⟨Av, capv, rfl, -, -⟩ := id hu2
  have hX := bal (Below.refl _ w) (.cells #[.slice A m.length cap] 24)
  have hbx := (Boxed.new w 24 (.slice A m.length cap)).cell
  have Hno := hid hno
  clear hno
  go_enter Tryd.func6, Tryd.ntmps6
  go_wp2_with fail
  have hr := h.below hX
  have hTX := hT.on hX
  have hua := hu1.below hX
  have hub := hu2.below hX
  generalize w.alloc (.cells #[.slice A m.length cap] 24) = X at *
  refine (rValid_bool _ m true _ hr hv).mono ?_
  rintro e w1 ⟨rfl, h1⟩
  have c1 := (h1.cell (p := ⟨w.heap.size, 0, none⟩) (World.block_lt_of_cell? _ _ hbx)).trans hbx
  have hr1 := hr.below h1
  go_wp2_with fail
  refine (rWord_bool _ _ m ul true _ hr1 hv (hua.below h1) hwu).mono ?_
  rintro e w2 ⟨rfl, h2⟩
  have B2 := btr h1 h2
  have c2 := (h2.cell (p := ⟨w.heap.size, 0, none⟩) (World.block_lt_of_cell? _ _ c1)).trans c1
  go_wp2_with fail
  refine (rWord_bool _ _ m vl true _ (hr.below B2) hv (hub.below B2) hwv).mono ?_
  rintro e w3 ⟨rfl, h3⟩
  have B3 := btr B2 h3
  have c3 := (h3.cell (p := ⟨w.heap.size, 0, none⟩) (World.block_lt_of_cell? _ _ c2)).trans c2
  go_wp2_with fail
  refine (Reset_none _ m _ (hr.below B3) hv Hno.out).mono ?_
  rintro e w4 ⟨rfl, h4⟩
  have B4 := btr B3 h4
  go_wp2_with fail
  refine (awake3_any w4 (hTX.on B4)).mono ?_
  rintro e w5 ⟨rfl, h5⟩
  go_wp2
  go_ret
  exact ⟨rfl, btr hX (btr B4 h5)⟩
/-- A reset word with letters before it and behind it. -/
theorem more_one {m : List (List Int)} (hv : validM m = true) {a r b : List Int} (ha : isWordM m a = true) (hr : isWordM m r = true) (hall : isWordM m (a ++ r ++ b) = true) (h1 : (imageM m (allM m.length) r).length = 1) : (imageM m (allM m.length) (a ++ r ++ b)).length = 1 := by
  obtain ⟨p1, -⟩ := valid_parts hv
  obtain ⟨x, hx⟩ : ∃ x, imageM m (allM m.length) r = [x] := by
    match hi : imageM m (allM m.length) r, h1 with
    | [x], _ => exact ⟨x, rfl⟩
  obtain ⟨t, rfl, ht⟩ := image_one hv hr hx
  have hrun : ∀ s, s < m.length → runM m s (a ++ r ++ b) = runM m t b := fun s hs => by
    rw [runM_append, runM_append, ht _ (runM_lt hv a s hs (by simp only [isWordM, Bool.and_eq_true] at ha; exact ha.2))]
  have hset := imageM_set hv (allM_set m) hall
  have hone : ∀ y : Nat, hasB (imageM m (allM m.length) (a ++ r ++ b)) y = true ↔ y = runM m t b := fun y => by
    rw [hasB_all hv hall]
    constructor
    · rintro ⟨s, hs, he⟩
      rw [← he, hrun s hs]
    · intro e
      exact ⟨0, by omega, by rw [hrun 0 (by omega), e]⟩
  generalize hI : imageM m (allM m.length) (a ++ r ++ b) = I at *
  have hmem : ∀ y ∈ I, y = ((runM m t b : Nat) : Int) := fun y hy => by
    obtain ⟨k, rfl⟩ := Int.eq_ofNat_of_zero_le (isSetM_mem hset y hy).1
    have := (hone k).1 (by unfold hasB; rw [List.any_eq_true]; exact ⟨_, hy, by simp⟩)
    rw [this]
  have hin : ((runM m t b : Nat) : Int) ∈ I := by
    have := (hone (runM m t b)).2 rfl
    unfold hasB at this
    obtain ⟨y, hy, he⟩ := List.any_eq_true.1 this
    simp at he
    rw [← he]; exact hy
  match I, hset, hmem, hin with
  | [], _, _, hin => cases hin
  | [y], _, _, _ => rfl
  | y :: z :: l, hset, hmem, _ =>
    have e1 := hmem y (by simp)
    have e2 := hmem z (by simp)
    exfalso
    simp only [isSetM, Bool.and_eq_true] at hset
    have h3 := List.all_eq_true.1 hset.1 0 (List.mem_range.2 (by simp))
    simp at h3
    omega
set_option maxRecDepth 100000 in
set_option maxHeartbeats 4000000 in
theorem more_ok (v u1 u2 : Value) (m : List (List Int)) (ul vl : List Int) (w : World) (hT : Tab w) (h : Rows w v m) (hu1 : Ints w u1 ul) (hu2 : Ints w u2 vl) (hv : validM m = true) (hwu : isWordM m ul = true) (hwv : isWordM m vl = true) (hall : allMerge m)
    (hn1 : ∀ A n c, u1 = .slice A n c → A = none → c = 0) (hn2 : ∀ A n c, u2 = .slice A n c → A = none → c = 0) :
    Calls Tryd.prog 6 #[.agg #[v], u1, u2] w fun e w' => e = .returned (.bool true) ∧ Below w.heap.size w w' := by
  obtain ⟨p1, p2, -⟩ := valid_parts hv
  obtain ⟨A, cap, rfl, hml, -⟩ := id h
  obtain ⟨Au, capu, rfl, -, -⟩ := id hu1
  obtain ⟨Av, capv, rfl, -, -⟩ := id hu2
  replace hn1 := hn1 _ _ _ rfl
  replace hn2 := hn2 _ _ _ rfl
  have hlu : ul.length ≤ 40000 := by simp only [isWordM, Bool.and_eq_true, decide_eq_true_eq] at hwu; exact hwu.1
  have hlv : vl.length ≤ 40000 := by simp only [isWordM, Bool.and_eq_true, decide_eq_true_eq] at hwv; exact hwv.1
  have hX := bal (Below.refl _ w) (.cells #[.slice A m.length cap] 24)
  have hbx := (Boxed.new w 24 (.slice A m.length cap)).cell
  have Hall := hid hall
  have hww := hid (resetW_word hv hall)
  have h1i := hid (reset_one hv hall)
  have hlen := (resetW_ok hv hall).2.2
  have hcube : m.length * m.length * m.length ≤ 60 * 60 * 60 := Nat.mul_le_mul (Nat.mul_le_mul p2 p2) p2
  have hrb : (resetW m).length ≤ 36000 := by omega
  have hbig : (resetW m).length ≤ big := by unfold big; omega
  obtain ⟨R, hR⟩ : ∃ R, resetW m = R := ⟨_, rfl⟩
  rw [hR] at hww h1i hlen hrb hbig
  have HR := hid hR
  have HAL := hid (show allM m.length = allM m.length from rfl)
  have hset := hid (allM_set m)
  clear hall hR hcube hlen
  go_enter Tryd.func6, Tryd.ntmps6
  go_wp2_with fail
  have hr := h.below hX
  have hTX := hT.on hX
  have hua := hu1.below hX
  have hub := hu2.below hX
  generalize w.alloc (.cells #[.slice A m.length cap] 24) = X at *
  refine (rValid_bool _ m true _ hr hv).mono ?_
  rintro e w1 ⟨rfl, h1⟩
  have c1 := (h1.cell (p := ⟨w.heap.size, 0, none⟩) (World.block_lt_of_cell? _ _ hbx)).trans hbx
  have hr1 := hr.below h1
  go_wp2_with fail
  refine (rWord_bool _ _ m ul true _ hr1 hv (hua.below h1) hwu).mono ?_
  rintro e w2 ⟨rfl, h2⟩
  have B2 := btr h1 h2
  have c2 := (h2.cell (p := ⟨w.heap.size, 0, none⟩) (World.block_lt_of_cell? _ _ c1)).trans c1
  go_wp2_with fail
  refine (rWord_bool _ _ m vl true _ (hr.below B2) hv (hub.below B2) hwv).mono ?_
  rintro e w3 ⟨rfl, h3⟩
  have B3 := btr B2 h3
  have c3 := (h3.cell (p := ⟨w.heap.size, 0, none⟩) (World.block_lt_of_cell? _ _ c2)).trans c2
  go_wp2_with fail
  refine (Reset_ok _ m _ (hTX.on B3) (hr.below B3) hv Hall.out).mono ?_
  rintro e w4 ⟨r, rfl, ho, h4⟩
  rw [HR.out] at ho
  obtain ⟨gR, cR, hgR⟩ : ∃ A c, r = .slice A R.length c := ownsRow_slice ho
  subst hgR
  have B4 := btr B3 h4
  have c4 := (h4.cell (p := ⟨w.heap.size, 0, none⟩) (World.block_lt_of_cell? _ _ c3)).trans c3
  have hua4 := hua.below B4
  have hub4 := hub.below B4
  have hR4 := Ints.of_own ho hbig
  have hnR : gR = none → cR = 0 := fun e => by
    subst e
    rcases ho.2 with ⟨hu, _⟩ | ⟨g, cap, cur, hu, _⟩
    · simp only [Value.slice.injEq] at hu; exact hu.2.2
    · cases hu
  have Hbx := hid hbx
  clear ho c1 c2 c3 h1 h2 h3 h4 hbx hr1
  by_cases hsum : (40000 : Int) < (ul.length : Int) + R.length + vl.length
  · have hd : decide ((40000 : Int) < (ul.length : Int) + R.length + vl.length) = true := by simp; omega
    go_wp2_with fail
    refine (awake3_any w4 (hTX.on B4)).mono ?_
    rintro e w5 ⟨rfl, h5⟩
    go_wp2
    go_ret
    exact ⟨rfl, btr hX (btr B4 h5)⟩
  · have hd : decide ((40000 : Int) < (ul.length : Int) + R.length + vl.length) = false := by simp; omega
    have hw40 := hid (isWordM_append (isWordM_append hwu hww.out (by omega)) hwv (by rw [List.length_append]; omega))
    have hone := hid (more_one hv hwu hww.out hw40.out h1i.out)
    go_upto_region 6 with fail
    go_cut [9] from 47 to 54 (fun b wc => (∃ A c, b = .slice A (ul ++ R ++ vl).length c) ∧ Ints wc b (ul ++ R ++ vl) ∧ Below X.heap.size X wc)
    case first =>
      have own0 := World.ownsRow_lit (base := w4.heap.size) (e := 3) (size := 1) w4 #[] 0 (Nat.le_refl _) (by unfold maxLen; omega) rfl
      have b0 := bal (Below.refl _ w4) (.cells #[] 3)
      have hu5 := hua4.alloc (.cells #[] 3)
      go_wp2_with (first
        | (at_builtin; refine wpList_append_list rfl _ _ rfl w4.heap.size 0 _ [] Au capu ul rfl own0 rfl hn1 hu5 (by simp) (by omega) ?_; intro v1 wa ho1 hb1)
        | (at_builtin; refine wpList_append_list rfl _ _ rfl w4.heap.size _ _ _ gR cR R rfl ho1 rfl hnR (hR4.below (b0.trans hb1)) (by have := hb1.size; simp at this; omega) (by omega) ?_; intro v2 wb ho2 hb2)
        | (at_builtin; refine wpList_append_list rfl _ _ rfl w4.heap.size _ _ _ Av capv vl rfl ho2 rfl hn2 (hub4.below ((b0.trans hb1).trans hb2)) (by have := hb1.size; have := hb2.size; simp at *; omega) (by omega) ?_; intro v3 wc3 ho3 hb3))
      go_meet
      have hfin : wc3.ownsRow w4.heap.size 3 1 v3 (ul ++ R ++ vl).length ((ul ++ R ++ vl).map fun x => .int .i64 x) := by
        simpa [List.map_append, List.length_append, Nat.add_assoc] using ho3
      have hI := Ints.of_own hfin (by unfold big; simp only [List.length_append]; omega)
      refine ⟨?_, hI, B4.trans (((b0.trans hb1).trans (hb2.trans hb3)).mono B4.size)⟩
      obtain ⟨A', c', hA', _⟩ := id hI
      exact ⟨A', c', hA'⟩
    case rest =>
      obtain ⟨⟨Ab, cb, rfl⟩, hbY, BX⟩ := hcut
      have d0 := (BX.cell (p := ⟨w.heap.size, 0, none⟩) (World.block_lt_of_cell? _ _ Hbx.out)).trans Hbx.out
      have hrY := hr.below BX
      have hTY := hTX.on BX
      obtain ⟨x, hx⟩ : ∃ x, imageM m (allM m.length) (ul ++ R ++ vl) = [x] := by
        match hi : imageM m (allM m.length) (ul ++ R ++ vl), hone.out with
        | [x], _ => exact ⟨x, rfl⟩
      have Hx1 := hid hx
      have BW := hid BX
      clear hx hua hub hua4 hub4 hR4 c4 B2 B3 B4 BX hr
      generalize ul ++ R ++ vl = L at *
      go_wp2_with fail
      go_region_held3 (fun w' => Below wc.heap.size wc w' ∧ w'.cell? ⟨w.heap.size, 0, none⟩ = some (.slice A m.length cap)) (exact held_one d0 (by first | exact below_dr wc 1 | assumption)) (first
        | (go_at_call 26; go_must (refine (rAll_any m.length _ (by omega)).mono ?_; rintro e y2 ⟨rv, rfl, i2, hy2⟩; have k2 : Below wc.heap.size wc y2 := btr (by first | exact below_dr wc 1 | exact Below.refl _ _) hy2; obtain ⟨rA, rc, rfl, -, -⟩ := id i2))
        | (go_at_call 25; go_must (refine (Image_as _ _ _ m (allM m.length) L [x] _ (hTY.on k2) (hrY.below k2) i2 (hbY.below k2) hv hset.out hw40.out Hx1).mono ?_; rintro e y3 ⟨rv3, rfl, i3, hy3⟩; have k3 : Below wc.heap.size wc y3 := btr k2 hy3; obtain ⟨rA3, rc3, rfl, -, -⟩ := id i3)))
      have BZ := hid (btr BW.out k3)
      clear hy2 hy3
      go_wp2_with fail
      refine (awake3_any _ (hTX.on BZ.out)).mono ?_
      rintro e w9 ⟨rfl, h9⟩
      go_wp2
      go_ret
      exact ⟨rfl, btr hX (btr BZ.out h9)⟩
theorem resetMore_any (v u1 u2 : Value) (m : List (List Int)) (ul vl : List Int) (w : World) (hT : Tab w) (h : Rows w v m) (hu1 : Ints w u1 ul) (hu2 : Ints w u2 vl)
    (hn1 : ∀ A n c, u1 = .slice A n c → A = none → c = 0) (hn2 : ∀ A n c, u2 = .slice A n c → A = none → c = 0) :
    Calls Tryd.prog 6 #[.agg #[v], u1, u2] w fun e w' => e = .returned (.bool true) ∧ Below w.heap.size w w' := by
  cases hv : (validM m && (isWordM m ul && isWordM m vl)) with
  | false => exact more_form v u1 u2 m ul vl w hT h hu1 hu2 hv
  | true =>
    simp only [Bool.and_eq_true] at hv
    by_cases ha : allMerge m
    · exact more_ok v u1 u2 m ul vl w hT h hu1 hu2 hv.1 hv.2.1 hv.2.2 ha hn1 hn2
    · exact more_none v u1 u2 m ul vl w hT h hu1 hu2 hv.1 hv.2.1 hv.2.2 ha
end Go.Proofs.YtmfbcnigefjgpaaDoor
