/-
  Texts that the proof of the law stands on: U5, H1, N21, Q1, N9, N10, N11, N12, N13, N22, N23, N14, N24, Q2, N27, Q8, Q11, D1, D2, E2, N25, N26, Q9, E4, Map, E5, D3, E6, E7, E8, N4, N28, L6, K1, K2, E9, RangeIn, Round, PairEq, F1, F2, D4.
-/
import Derived.Test.YtphpablchlpagaaDoorDbA
import Derived.Deep.AppendLies
import Derived.Deep.RegionLaw
import Derived.Laws.EntriesVeiled
import Derived.Handy
import Derived.Deep.RegionHeld
import Derived.BigQuiet
import Derived.Deep.QuietTactic
import Derived.Deep.RegionHeld3
import Derived.Maps.Own
import Derived.Maps.OwnOps
import Derived.Maps.OwnSet
import Derived.Maps.Views
import Derived.Test.YtphpablchlpagaaDoorProg
import Derived.WideKeyPair
import Derived.WideKeyEntry
import Derived.WideKeyElems3
import Derived.Maps.Keyed
import Derived.Maps.AppendAt
import Derived.RegionTactic
import Derived.ChangeAlike
import Derived.Maps.OwnIn
import Derived.Deep.CutRange
import Derived.Deep.DeepMust
import Derived.OrdersIn
import Derived.Deep.Quiet
import Derived.ChangeKeysEq
import Derived.Laws.StructEq
set_option linter.unusedVariables false
set_option linter.unusedSimpArgs false
namespace Go.Proofs.YtphpablchlpagaaDoor
section
variable {m : List (List Int)} {S L x : Nat} {tr : List Tr} {seen0 seen : List Nat} {lg pre ts : List Tr} {T : Nat} {u : List Int}
/-- A larger preimage: the first one. -/
theorem MidI.big (hL : LevI m S L seen0 tr) (hx : x < letters m) (hp : pre ++ (T, u) :: ts = tr) (h : MidI m S L tr x pre seen0 seen lg) (hb : szS S < szS (preSet m T x)) : FirstBig m S ((x : Int) :: u) := by
  rcases rowX_spec hL hx ((T, u) :: ts) pre seen lg hp h with ⟨u', s, l, h1, h2⟩ | ⟨s, l, h1, h2⟩
  · unfold rowX at h1
    rw [if_pos hb] at h1
    simp only [Prod.mk.injEq, Option.some.injEq] at h1
    rw [h1.1]; exact h2
  · unfold rowX at h1
    rw [if_pos hb] at h1
    simp at h1
theorem MidI.old (hL : LevI m S L seen0 tr) (hp : pre ++ (T, u) :: ts = tr) (h : MidI m S L tr x pre seen0 seen lg) (hb : ¬ szS S < szS (preSet m T x)) (hs : preSet m T x ∈ seen) : MidI m S L tr x (pre ++ [(T, u)]) seen0 seen lg := by
  have hmem : (T, u) ∈ tr := by rw [← hp]; simp
  obtain ⟨o1, o2, o3⟩ := hL.ok _ hmem
  simp only at o1 o2 o3
  have hrise := hL.rise
  rw [← hp, List.pairwise_append] at hrise
  obtain ⟨_, hr2, hr3⟩ := hrise
  refine ⟨h.ok, h.rise, fun t ht => ?_, h.seen, fun y p hd => ?_⟩
  · obtain ⟨y, p, e1, e2⟩ := h.below t ht
    exact ⟨y, p, e1, e2.imp id fun ⟨a, b⟩ => ⟨a, by simp [b]⟩⟩
  · rcases hd with hd | ⟨rfl, hd⟩
    · exact h.done y p (.inl hd)
    · rcases List.mem_append.1 hd with hd | hd
      · exact h.done y p (.inr ⟨rfl, hd⟩)
      · obtain rfl : p = (T, u) := by simpa using hd
        refine ⟨hb, ?_⟩
        rcases (h.seen _).1 hs with h1 | ⟨t, h1, h2⟩
        · exact .inl h1
        · refine .inr ⟨t, h1, h2, ?_⟩
          obtain ⟨z, p, e1, e2⟩ := h.below t h1
          have tl := (h.ok t h1).2.1
          rcases e2 with ⟨hz, _⟩ | ⟨rfl, hpp⟩
          · rw [e1]; rw [e1] at tl
            exact .inr (.inr ⟨by simp at tl ⊢; omega, .inl (by omega)⟩)
          · rw [e1]; rw [e1] at tl
            exact .inr (.inr ⟨by simp at tl ⊢; omega, .inr ⟨rfl, hr3 p hpp (T, u) (by simp)⟩⟩)
theorem MidI.add (hL : LevI m S L seen0 tr) (hx : x < letters m) (hp : pre ++ (T, u) :: ts = tr) (h : MidI m S L tr x pre seen0 seen lg) (hb : ¬ szS S < szS (preSet m T x)) : MidI m S L tr x (pre ++ [(T, u)]) seen0 (preSet m T x :: seen) (lg ++ [(preSet m T x, (x : Int) :: u)]) := by
  have hmem : (T, u) ∈ tr := by rw [← hp]; simp
  obtain ⟨o1, o2, o3⟩ := hL.ok _ hmem
  simp only at o1 o2 o3
  have hpw : preWord m S ((x : Int) :: u) = preSet m T x := by rw [preWord_cons, ← o3]
  have hrise := hL.rise
  rw [← hp, List.pairwise_append] at hrise
  obtain ⟨_, hr2, hr3⟩ := hrise
  have hlt : ∀ t ∈ lg, lexLt t.2 ((x : Int) :: u) := fun t ht => by
    obtain ⟨z, p, e1, e2⟩ := h.below t ht
    rw [e1]
    rcases e2 with ⟨hz, _⟩ | ⟨rfl, hpp⟩
    · exact .inl (by omega)
    · exact .inr ⟨rfl, hr3 p hpp (T, u) (by simp)⟩
  refine ⟨fun t ht => ?_, ?_, fun t ht => ?_, fun A => ?_, fun y p hd => ?_⟩
  · rcases List.mem_append.1 ht with ht | ht
    · exact h.ok t ht
    · obtain rfl : t = (preSet m T x, (x : Int) :: u) := by simpa using ht
      exact ⟨o1.cons hx, by simp [o2], hpw.symm⟩
  · rw [List.pairwise_append]
    refine ⟨h.rise, List.pairwise_singleton _ _, fun a ha b hb => ?_⟩
    obtain rfl : b = (preSet m T x, (x : Int) :: u) := by simpa using hb
    exact hlt a ha
  · rcases List.mem_append.1 ht with ht | ht
    · obtain ⟨y, p, e1, e2⟩ := h.below t ht
      exact ⟨y, p, e1, e2.imp id fun ⟨a, b⟩ => ⟨a, by simp [b]⟩⟩
    · obtain rfl : t = (preSet m T x, (x : Int) :: u) := by simpa using ht
      exact ⟨x, (T, u), rfl, .inr ⟨rfl, by simp⟩⟩
  · rw [List.mem_cons, h.seen]
    constructor
    · rintro (e | e | ⟨t, e1, e2⟩)
      · exact .inr ⟨(preSet m T x, (x : Int) :: u), by simp, e.symm⟩
      · exact .inl e
      · exact .inr ⟨t, by simp [e1], e2⟩
    · rintro (e | ⟨t, e1, e2⟩)
      · exact .inr (.inl e)
      · rcases List.mem_append.1 e1 with e1 | e1
        · exact .inr (.inr ⟨t, e1, e2⟩)
        · obtain rfl : t = (preSet m T x, (x : Int) :: u) := by simpa using e1
          exact .inl e2.symm
  · have old : ∀ (y : Nat) (p : Tr), (y < x ∧ p ∈ tr ∨ y = x ∧ p ∈ pre) → ¬ szS S < szS (preSet m p.1 y) ∧ (preSet m p.1 y ∈ seen0 ∨ ∃ t ∈ lg ++ [(preSet m T x, (x : Int) :: u)], t.1 = preSet m p.1 y ∧ SLe t.2 ((y : Int) :: p.2)) := fun y p hd => by
      obtain ⟨k1, k2⟩ := h.done y p hd
      exact ⟨k1, k2.imp id fun ⟨t, a, b⟩ => ⟨t, by simp [a], b⟩⟩
    rcases hd with hd | ⟨rfl, hd⟩
    · exact old y p (.inl hd)
    · rcases List.mem_append.1 hd with hd | hd
      · exact old y p (.inr ⟨rfl, hd⟩)
      · obtain rfl : p = (T, u) := by simpa using hd
        exact ⟨hb, .inr ⟨(preSet m T y, (y : Int) :: u), by simp, rfl, .inl rfl⟩⟩
end
theorem MidI.start (m : List (List Int)) (S L : Nat) (tr : List Tr) (seen0 : List Nat) : MidI m S L tr 0 [] seen0 seen0 [] := ⟨fun t ht => by simp at ht, List.Pairwise.nil, fun t ht => by simp at ht, fun T => by simp, fun y p hd => by
  rcases hd with ⟨a, _⟩ | ⟨_, b⟩
  · omega
  · simp at b⟩
/-- The sets that have been seen: as many as sets at most. -/
structure SeenI (n : Nat) (seen : List Nat) : Prop where
  nodup : seen.Nodup
  lt : ∀ T ∈ seen, T < 2 ^ n
theorem SeenI.len {n : Nat} {seen : List Nat} (h : SeenI n seen) : seen.length ≤ 2 ^ n := by
  have := nodup_lenR (l := seen) (k := List.range (2 ^ n)) h.nodup (fun x hx => by simpa using h.lt x hx)
  simpa using this
theorem SeenI.add {n T : Nat} {seen : List Nat} (h : SeenI n seen) (hT : T < 2 ^ n) (hn : T ∉ seen) : SeenI n (T :: seen) :=
  ⟨List.nodup_cons.2 ⟨hn, h.nodup⟩, fun A hA => by
    rcases List.mem_cons.1 hA with rfl | hA
    · exact hT
    · exact h.lt A hA⟩
end Go.Proofs.YtphpablchlpagaaDoor
namespace Go.Proofs.YtphpablchlpagaaDoor
open Go.RowKit Go.Shelf
/-- Row 0, where the letters are counted. -/
theorem row_zero {w : World} {A : Option Addr} {n cap : Nat} {m : List (List Int)} (h : Rows w (.slice A n cap) m) (hv : validM m = true) : ∃ b off A0 cap0, A = some ⟨b, off, none⟩ ∧ w.cell? ⟨b, off, none⟩ = some (.slice A0 (letters m) cap0) := by
  obtain ⟨p1, -⟩ := valid_parts hv
  obtain ⟨A', cap', hA, -, hc⟩ := h
  simp only [Value.slice.injEq] at hA
  obtain ⟨rfl, rfl, rfl⟩ := hA
  obtain ⟨b, off, r0, hA, hcell0, hr0⟩ := hc 0 (by omega)
  obtain ⟨A0, cap0, rfl, -, -⟩ := hr0
  exact ⟨b, off, A0, cap0, hA, hcell0⟩
set_option maxRecDepth 100000 in
set_option maxHeartbeats 1000000 in
theorem tRight_any (v u : Value) (m : List (List Int)) (l : List Int) (w : World) (h : Rows w v m) (hu : Ints w u l) (hv : validM m = true) (hw : isWordM m l = true) :
    Calls Tryd.prog 29 #[.agg #[v], u] w fun e w' => e = .returned (.bool true) ∧ Below w.heap.size w w' := by
  obtain ⟨p1, p2, p3, p4, -⟩ := valid_parts hv
  have hl : l.length ≤ 40000 := by simp only [isWordM, Bool.and_eq_true, decide_eq_true_eq] at hw; exact hw.1
  have hall := hid (isWordM_all hw)
  obtain ⟨A, cap, rfl, hml, -⟩ := id h
  obtain ⟨b, off, A0, cap0, hA, hrow0⟩ := row_zero h hv
  subst hA
  obtain ⟨Au, capu, rfl, -, hcu⟩ := hu
  have hX := bal (Below.refl _ w) (.cells #[.slice (some ⟨b, off, none⟩) m.length cap] 24)
  have hbx := (Boxed.new w 24 (.slice (some ⟨b, off, none⟩) m.length cap)).cell
  have Hcu := hid hcu
  have hin : (0 : Int) < m.length := by omega
  have hle : decide ((l.length : Int) ≤ 40000) = true := by simp; omega
  clear hcu
  go_enter Tryd.func29, Tryd.ntmps29
  go_wp2_with fail
  go_loopw [5] (fun iv wr => ∃ k : Nat, k ≤ l.length ∧ iv = .int .i64 k ∧ Below w.heap.size w wr ∧ wr.cell? ⟨w.heap.size, 0, none⟩ = some (.slice (some ⟨b, off, none⟩) m.length cap)) (fun iv _ => l.length - (intOf iv).toNat)
  case atStart => exact ⟨0, Nat.zero_le _, rfl, hX, hbx⟩
  case round =>
    clear hX hbx
    obtain ⟨k, hk, rfl, hB, hbx⟩ := hrel
    by_cases hlt : k < l.length
    · have hks : (k : Int) < l.length := by omega
      obtain ⟨bu, ou, hAu, hcell⟩ := Hcu.out k hlt
      subst hAu
      have c1 := (hB.cell (p := ⟨bu, ou + k, none⟩) (World.block_lt_of_cell? _ _ hcell)).trans hcell
      have c2 := (hB.cell (p := ⟨b, off, none⟩) (World.block_lt_of_cell? _ _ hrow0)).trans hrow0
      have hx := inB_iff.1 (all_getD _ l 0 hall.out k hlt)
      clear hcell
      generalize l.getD k 0 = x at *
      have d1 : decide (x < 0) = false := by simp; omega
      have d2 : decide ((letters m : Int) ≤ x) = false := by simp; omega
      go_wp2_with fail
      go_quiet (fail)
      go_wp2
      go_roundw
      case rel => exact ⟨k + 1, by omega, by go_num, bdr hB nq, ((below_dr _ nq).cell (p := ⟨w.heap.size, 0, none⟩) (World.block_lt_of_cell? _ _ hbx)).trans hbx⟩
      case measure => simp [intOf]; omega
    · have hks : ¬ (k : Int) < l.length := by omega
      go_wp2_with fail
      go_ret
      exact ⟨rfl, hB⟩
set_option maxRecDepth 100000 in
set_option maxHeartbeats 1000000 in
theorem tLead_any (v u : Value) (m : List (List Int)) (s : Nat) (l : List Int) (w : World) (h : Rows w v m) (hu : Ints w u l) (hv : validM m = true) (hs : s < m.length) (hw : l.all (inB 0 ((letters m : Int) - 1)) = true) :
    Calls Tryd.prog 30 #[.agg #[v], .int .i64 s, u] w fun e w' => e = .returned (.int .i64 (runM m s l : Nat)) ∧ Below w.heap.size w w' := by
  obtain ⟨p1, p2, p3, p4, p5⟩ := valid_parts hv
  obtain ⟨A, cap, rfl, hml, hcm⟩ := id h
  obtain ⟨Au, capu, rfl, hlu, hcu⟩ := hu
  have hX := bal (Below.refl _ w) (.cells #[.slice A m.length cap] 24)
  have hbx := (Boxed.new w 24 (.slice A m.length cap)).cell
  unfold big at hlu
  have Hcu := hid hcu
  have Hcm := hid hcm
  have Hp5 := hid p5
  have hall := hid hw
  have hr0 := hid (show runM m s (l.take 0) = s from rfl)
  clear hcu hcm p5 hw
  go_enter Tryd.func30, Tryd.ntmps30
  go_wp2_with fail
  go_loopw [1, 7] (fun sv iv wr => ∃ k cur : Nat, k ≤ l.length ∧ iv = .int .i64 k ∧ sv = .int .i64 cur ∧ cur < m.length ∧ runM m s (l.take k) = cur ∧ Below w.heap.size w wr ∧ wr.cell? ⟨w.heap.size, 0, none⟩ = some (.slice A m.length cap)) (fun _ iv _ => l.length - (intOf iv).toNat)
  case atStart => exact ⟨0, s, Nat.zero_le _, rfl, rfl, hs, hr0.out, hX, hbx⟩
  case round =>
    clear hX hbx hr0
    obtain ⟨k, cur, hk, rfl, rfl, hcur, hrun, hB, hbx⟩ := hrel
    have Hrun := hid hrun
    clear hrun
    by_cases hlt : k < l.length
    · have hks : (k : Int) < l.length := by omega
      obtain ⟨bu, ou, hAu, hcell⟩ := Hcu.out k hlt
      subst hAu
      have hx := inB_iff.1 (all_getD _ l 0 hall.out k hlt)
      have hsn := hid (show runM m s (l.take (k + 1)) = nx m (runM m s (l.take k)) (l.getD k 0) by
        rw [List.take_succ_eq_append_getElem hlt]
        unfold runM
        rw [List.foldl_append, List.getD_eq_getElem?_getD, List.getElem?_eq_getElem hlt]
        rfl)
      have c1 := (hB.cell (p := ⟨bu, ou + k, none⟩) (World.block_lt_of_cell? _ _ hcell)).trans hcell
      clear hcell
      generalize l.getD k 0 = x0 at *
      obtain ⟨x, rfl⟩ := Int.eq_ofNat_of_zero_le hx.1
      have hxl : x < letters m := by omega
      obtain ⟨bl, off, r, hA, hcr, hrow⟩ := Hcm.out cur hcur
      subst hA
      have hrl := (Hp5.out cur hcur).1
      obtain ⟨Ar, capr, rfl, -, hce⟩ := id hrow
      rw [hrl] at hcr
      obtain ⟨br, offr, hAr, hct⟩ := hce x (by omega)
      subst hAr
      obtain ⟨hn1, hn⟩ := nx_ok hv (s := cur) hcur (x := (x : Int)) (by omega) (by omega)
      rw [Int.toNat_natCast] at hn
      rw [hn] at hct
      have c2 := (hB.cell (p := ⟨bl, off + cur, none⟩) (World.block_lt_of_cell? _ _ hcr)).trans hcr
      have c3 := (hB.cell (p := ⟨br, offr + x, none⟩) (World.block_lt_of_cell? _ _ hct)).trans hct
      have hsn2 := hid (hsn.out.trans (by rw [Hrun.out] : nx m (runM m s (l.take k)) (x : Int) = nx m cur (x : Int)))
      clear hcr hct hce hrow hrl hn hsn
      generalize nx m cur (x : Int) = t at *
      have i1 : (cur : Int) < m.length := by omega
      have i2 : (x : Int) < letters m := by omega
      go_wp2_with fail
      go_quiet (fail)
      go_wp2
      go_roundw
      case rel => exact ⟨k + 1, t, by omega, by go_num, rfl, hn1, hsn2.out, bdr hB nq, ((below_dr _ nq).cell (p := ⟨w.heap.size, 0, none⟩) (World.block_lt_of_cell? _ _ hbx)).trans hbx⟩
      case measure => simp [intOf]; omega
    · obtain rfl : k = l.length := by omega
      have hks : ¬ ((l.length : Nat) : Int) < l.length := by omega
      have hr := Hrun.out
      rw [List.take_length] at hr
      have Hr := hid hr
      clear hr Hrun
      go_wp2_with fail
      go_ret
      exact ⟨ret_int (by rw [Hr.out]), hB⟩
end Go.Proofs.YtphpablchlpagaaDoor
namespace Go.Proofs.YtphpablchlpagaaDoor
open Go.RowKit Go.Shelf
/-- A slice of bools that reads as a list. -/
def Bools (w : World) (v : Value) (l : List Bool) : Prop :=
  ∃ A cap, v = .slice A l.length cap ∧ l.length ≤ big ∧ ∀ i, i < l.length → ∃ b off, A = some ⟨b, off, none⟩ ∧ w.cell? ⟨b, off + i, none⟩ = some (.bool (l.getD i false))
theorem Bools.below {w w' : World} {v : Value} {l : List Bool} (h : Bools w v l) (hb : Below w.heap.size w w') : Bools w' v l := by
  obtain ⟨A, cap, hv, hl, hc⟩ := h
  refine ⟨A, cap, hv, hl, fun i hi => ?_⟩
  obtain ⟨b, off, hA, hcell⟩ := hc i hi
  exact ⟨b, off, hA, (hb.cell (p := ⟨b, off + i, none⟩) (World.block_lt_of_cell? _ _ hcell)).trans hcell⟩
theorem Bools.of_own {W : World} {n₀ : Nat} {e : TypeId} {v : Value} {l : List Bool} (h : W.ownsRow n₀ e 1 v l.length (l.map fun x => .bool x)) (hl : l.length ≤ big) : Bools W v l := by
  rcases h.2 with ⟨rfl, h0⟩ | ⟨g, cap, cur, rfl, hb, hg, hn, hc, hs, ht⟩
  · exact ⟨none, 0, by rw [h0], hl, fun i hi => by omega⟩
  · refine ⟨some ⟨g, 0, none⟩, cap, rfl, hl, fun i hi => ⟨g, 0, rfl, ?_⟩⟩
    have h1 : (l.map fun x => Value.bool x)[i]? = some (.bool (l.getD i false)) := by
      simp [List.getElem?_map, List.getElem?_eq_getElem hi, List.getD_eq_getElem?_getD]
    rw [← ht, List.getElem?_take, if_pos (by omega)] at h1
    simp only [World.cell?, hg]
    simpa using h1
end Go.Proofs.YtphpablchlpagaaDoor
namespace Go.Proofs.YtphpablchlpagaaDoor
open Go.RowKit Go.Shelf
theorem ownq_lt {W : World} {base : Nat} {e : TypeId} {s : Nat} {g n c k : Nat} {xs : List Value} (h : W.ownsRow base e s (.slice (some ⟨g, 0, none⟩) n c) k xs) : base ≤ g ∧ g < W.heap.size := by
  rcases h.2 with ⟨h', _⟩ | ⟨g', cap, cur, h', hb, hh, _⟩
  · cases h'
  · cases h'; exact ⟨hb, (Array.getElem?_eq_some_iff.1 hh).1⟩
theorem List.map_set_bool (l : List Bool) (i : Nat) (b : Bool) : (l.set i b).map (fun x => Value.bool x) = (l.map fun x => Value.bool x).set i (.bool b) := by rw [List.map_set]
end Go.Proofs.YtphpablchlpagaaDoor
namespace Go.Proofs.YtphpablchlpagaaDoor
open Go.RowKit Go.Shelf
/-- WHAT AN ITERATOR PROMISES: gf with what comes before and behind yield among its arguments; encs: yield's arguments; n₀: what it reads lies below; G: what holds of an element while its round begins. -/
def SeqO {α : Type} (gf : Nat) (fb lb : Array Value) (encs : α → Array Value) (n₀ : Nat) (G : Blocks → α → World → Prop) (S Sp : List α → Prop) (w0 : World) (X0 : Blocks) : Prop :=
  ∀ (l : Nat) (J Jx : Blocks → List α → World → Prop) (W : World), Below w0.heap.size w0 W → Minds J → Minds Jx →
    (∀ X pre x W1, (∀ k, X k → k < W1.heap.size) → J X pre W1 → G X x W1 → Sp (pre ++ [x]) → YieldAt Fence.wide 0 Tryd.prog l (encs x) W1 fun e W' =>
      ((e = .returned (.bool true) ∧ J X (pre ++ [x]) W') ∨ (e = .returned (.bool false) ∧ Jx X (pre ++ [x]) W')) ∧ Keep n₀ X W1 W') →
    J X0 [] W →
    Calls Tryd.prog gf ((fb ++ #[.func (.yield l) #[] #[]]) ++ lb) W fun e W' => (∃ v, e = .returned v) ∧ ((∃ X xs, S xs ∧ J X xs W') ∨ (∃ X pre, Sp pre ∧ Jx X pre W'))
/-- THE STATEMENT 'for .. := range f { .. }' over an iterator that keeps its promise. -/
theorem range_lawO {α : Type} {g : Operand} {ps : Array Tmp} {assign body : Code} {Q : Exit → Act → World → Prop} {a : Act} {w : World} {gf : Nat} {fb lb : Array Value}
    (hg : a.eval g = .func (.func gf) fb lb) (eg : ∀ args w, (callFunc gf args).run Tryd.prog w = .ok (.enter gf args) w)
    {encs : α → Array Value} {n₀ : Nat} {G : Blocks → α → World → Prop} {S Sp : List α → Prop} {w0 : World} {X0 : Blocks} (hseq : SeqO gf fb lb encs n₀ G S Sp w0 X0) (hX0 : ∀ k, X0 k → k < w.heap.size)
    (hG : ∀ X x W W', G X x W → Keep n₀ X W W' → G X x W') (hn : n₀ ≤ w.heap.size) (hb0 : Below w0.heap.size w0 w) (hps : ∀ x, (encs x).size = ps.size)
    (I : Blocks → List α → World → Prop) (Ix : Code → Blocks → List α → World → Prop) (hI : Stable w.heap.size I) (hIx : ∀ c, Stable w.heap.size (Ix c)) (h0 : I X0 [] w)
    (Ax : α → Act → World → Prop) (hAx : ∀ x a', Stable w.heap.size (fun _ (_ : Unit) W => Ax x a' W))
    (hassign : ∀ (l : Nat) (X : Blocks) (pre : List α) (x : α) (W : World) (K : Act → World → Prop), I X pre W → (∀ a' W', KeepsFrom w.heap.size W W' → Keep n₀ X W W' → I X pre W' → Ax x a' W' → K a' W') →
      assign.wpIn (Fence.wide.inRound l) 0 Tryd.prog (Exit.then K (fun _ _ _ => False)) { tmps := (ps.zip (encs x)).foldl (fun t (p, v) => t.setIfInBounds p v) a.tmps, defers := [] } W)
    (hbody : ∀ (l : Nat) (X : Blocks) (pre : List α) (x : α) (a' : Act) (W : World), w.heap.size ≤ l → (∃ r, W.heap[l]? = some (.loop r)) → ¬ X l → (∀ k, X k → k < W.heap.size) → I X pre W → G X x W → Ax x a' W → Sp (pre ++ [x]) →
      body.wpIn (Fence.wide.inRound l) 0 Tryd.prog (postX w.heap.size n₀ I Ix X (pre ++ [x]) W) a' W)
    (hdone : ∀ (D : Nat) (X : Blocks) (xs : List α) (W : World), w.heap.size ≤ D → S xs → I X xs W → W.heap[D]? = some (.deferred (some [])) → Q .normal { a with defers := { target := .collected D, args := #[] } :: a.defers } W)
    (hstop : ∀ (D : Nat) (X : Blocks) (c : Code) (pre : List α) (W : World), w.heap.size ≤ D → Sp pre → Ix c X pre W → W.heap[D]? = some (.deferred (some [])) → c.wpIn Fence.wide 0 Tryd.prog Q { a with defers := { target := .collected D, args := #[] } :: a.defers } W) :
    (Code.rangeFunc g ps assign body).wpIn Fence.wide 0 Tryd.prog Q a w := by
  refine wpIn_rangeFunc ?_
  intro fn hfn
  obtain ⟨rec, hrec⟩ : ∃ rec : LoopState → Option Code → Loop, rec = fun st pe => { state := st, pending := pe, fn, tmps := a.tmps, params := ps, assign, body, defers := w.heap.size } := ⟨_, rfl⟩
  obtain ⟨W1, hW1⟩ : ∃ W1, (w.alloc (.deferred (some []))).alloc (.loop (rec .ready none)) = W1 := ⟨_, rfl⟩
  have hL1 : W1.heap[w.heap.size + 1]? = some (.loop (rec .ready none)) := by
    rw [← hW1]; have := World.alloc_heap_new (w.alloc (.deferred (some []))) (.loop (rec .ready none)); rwa [World.size_alloc] at this
  have hK1 : W1.heap[w.heap.size]? = some (.deferred (some [])) := by
    rw [← hW1]; exact (Below.heap_alloc _ _ _ (by simp)).trans (World.alloc_heap_new w _)
  have hI1 : I X0 [] W1 := by rw [← hW1]; exact hI.new _ (hI.new _ h0)
  have hb1 : Below w0.heap.size w0 W1 := by
    rw [← hW1]; exact hb0.trans ((((Below.refl _ w).alloc (Nat.le_refl _) _).alloc (by simp) _).mono hb0.size)
  refine ⟨w.heap.size + 1, [{ target := .collected w.heap.size, args := #[] }], W1, { target := .fn (.func gf) lb, args := fb ++ #[.func (.yield (w.heap.size + 1)) #[] #[]] }, W1, gf,
    (fb ++ #[.func (.yield (w.heap.size + 1)) #[] #[]]) ++ lb, W1, ?_, ?_, fun f' _ => trivial, ?_, fun h => by simp [Fence.wide] at h, ?_⟩
  · rw [← hW1, hrec]; exact run_enterLoop_outer _ _ _ _ _
  · simp only [resolve, hg]
    simp [go_sem, Deferred.ofValue]
  · simp [invoke, go_sem, eg]
  · refine callsIn_wide.2 ?_
    refine (hseq (w.heap.size + 1)
      (fun X pre W => I X pre W ∧ ¬ X (w.heap.size + 1) ∧ ¬ X w.heap.size ∧ W.heap[w.heap.size + 1]? = some (.loop (rec .ready none)) ∧ W.heap[w.heap.size]? = some (.deferred (some [])))
      (fun X pre W => ∃ c, Ix c X pre W ∧ ¬ X (w.heap.size + 1) ∧ ¬ X w.heap.size ∧ W.heap[w.heap.size + 1]? = some (.loop (rec .done (some c))) ∧ W.heap[w.heap.size]? = some (.deferred (some [])))
      W1 hb1 ?_ ?_ ?_ ⟨hI1, fun h => by have := hX0 _ h; omega, fun h => by have := hX0 _ h; omega, hL1, hK1⟩).mono ?_
    · rintro X X' s A B ⟨h1, h2, h3, h4, h5⟩ ht hX
      have l4 := (Array.getElem?_eq_some_iff.1 h4).1
      refine ⟨hI X X' s A B h1 ht.os ht.tape ht.output ht.size (fun k o hk hx _ => (ht.block k (Array.getElem?_eq_some_iff.1 hk).1 hx).trans hk) hX, fun h => ?_, fun h => ?_, (ht.block _ l4 h2).trans h4, (ht.block _ (by omega) h3).trans h5⟩
      · rcases hX _ h with h | h
        · exact h2 h
        · omega
      · rcases hX _ h with h | h
        · exact h3 h
        · omega
    · rintro X X' s A B ⟨c, h1, h2, h3, h4, h5⟩ ht hX
      have l4 := (Array.getElem?_eq_some_iff.1 h4).1
      refine ⟨c, hIx c X X' s A B h1 ht.os ht.tape ht.output ht.size (fun k o hk hx _ => (ht.block k (Array.getElem?_eq_some_iff.1 hk).1 hx).trans hk) hX, fun h => ?_, fun h => ?_, (ht.block _ l4 h2).trans h4, (ht.block _ (by omega) h3).trans h5⟩
      · rcases hX _ h with h | h
        · exact h2 h
        · omega
      · rcases hX _ h with h | h
        · exact h3 h
        · omega
    · -- one round
      rintro X pre x W hXs ⟨hi, hXl, hXd, hl, hk⟩ hgx hsp
      have hy := run_yield (P := Tryd.prog) (args := encs x) hl (by rw [hrec]; exact hps x)
      rw [hrec] at hy
      refine ⟨fn, _, assign, body, hy, roundIn_of_wpIn trivial (hassign _ X pre x W _ hi ?_)⟩
      clear hy
      intro a' Wa hkfa hkpa hia hax
      have hl' := hkfa.same _ _ (by omega) hl rfl
      have hk' := hkfa.same _ _ (Nat.le_refl _) hk rfl
      have hlt := (Array.getElem?_eq_some_iff.1 hl').1
      refine ⟨_, run_beginRound hl' (by rw [hrec]), ?_⟩
      have hl2 : (Wa.putObj (w.heap.size + 1) (.loop { rec .ready none with state := .busy })).heap[w.heap.size + 1]? = some (.loop { rec .ready none with state := .busy }) := World.putObj_heap_same hlt
      have hk2 : (Wa.putObj (w.heap.size + 1) (.loop { rec .ready none with state := .busy })).heap[w.heap.size]? = some (.deferred (some [])) := (World.putObj_heap_other (by omega)).trans hk'
      have hkp2 : Keep n₀ X Wa (Wa.putObj (w.heap.size + 1) (.loop { rec .ready none with state := .busy })) := keep_put _ (by omega) hXl
      refine wpIn_mono (hbody _ X pre x a' _ (by omega) ⟨_, hl2⟩ hXl (fun k hk => by have h1 := hXs k hk; have h2 := hkpa.size; simp; omega) (hI.put _ hia (by omega) hl' rfl) (hG _ _ _ _ hgx (hkpa.trans hkp2)) ((hAx x a').put (X := X) (s := ()) _ hax (by omega) hl' rfl) hsp) ?_
      have fin : ∀ (jump : Option Code) (W3 : World), KeepsFrom w.heap.size (Wa.putObj (w.heap.size + 1) (.loop { rec .ready none with state := .busy })) W3 →
          (Instr.endRound (w.heap.size + 1) jump).run Tryd.prog W3 = .ok (.bool jump.isNone) (W3.putObj (w.heap.size + 1) (.loop (rec (if jump.isNone then .ready else .done) jump))) ∧
          W3.heap[w.heap.size + 1]? = some (.loop { rec .ready none with state := .busy }) ∧
          (W3.putObj (w.heap.size + 1) (.loop (rec (if jump.isNone then .ready else .done) jump))).heap[w.heap.size + 1]? = some (.loop (rec (if jump.isNone then .ready else .done) jump)) ∧
          (W3.putObj (w.heap.size + 1) (.loop (rec (if jump.isNone then .ready else .done) jump))).heap[w.heap.size]? = some (.deferred (some [])) := fun jump W3 hk3 => by
        have hl3 := hk3.same _ _ (by omega) hl2 rfl
        have := run_endRound (P := Tryd.prog) jump hl3
        rw [hrec] at this ⊢
        exact ⟨this, by rw [hrec] at hl3; exact hl3, World.putObj_heap_same (Array.getElem?_eq_some_iff.1 hl3).1, (World.putObj_heap_other (by omega)).trans (hk3.same _ _ (Nat.le_refl _) hk2 rfl)⟩
      have kp : ∀ (W3 : World) (o : Obj), Keep n₀ X (Wa.putObj (w.heap.size + 1) (.loop { rec .ready none with state := .busy })) W3 → Keep n₀ X W (W3.putObj (w.heap.size + 1) o) := fun W3 o h3 =>
        ((hkpa.trans hkp2).trans h3).trans (keep_put _ (by omega) hXl)
      rintro e a3 W3 hp
      cases e with
      | normal =>
        obtain ⟨hk3, hkp3, hi3⟩ := hp
        obtain ⟨hr, hl3, hl4, hk4⟩ := fin none W3 hk3
        exact ⟨_, _, hr, .inl ⟨rfl, hI.put _ hi3 (by omega) hl3 rfl, hXl, hXd, hl4, hk4⟩, kp _ _ hkp3⟩
      | ret =>
        obtain ⟨hk3, hkp3, hi3⟩ := hp
        obtain ⟨hr, hl3, hl4, hk4⟩ := fin (some .ret) W3 hk3
        exact ⟨_, _, hr, .inr ⟨rfl, .ret, (hIx _).put _ hi3 (by omega) hl3 rfl, hXl, hXd, hl4, hk4⟩, kp _ _ hkp3⟩
      | exit id =>
        obtain ⟨hk3, hkp3, hi3⟩ := hp
        obtain ⟨hr, hl3, hl4, hk4⟩ := fin (some (.exit id)) W3 hk3
        exact ⟨_, _, hr, .inr ⟨rfl, .exit id, (hIx _).put _ hi3 (by omega) hl3 rfl, hXl, hXd, hl4, hk4⟩, kp _ _ hkp3⟩
      | goto t =>
        obtain ⟨hk3, hkp3, hi3⟩ := hp
        obtain ⟨hr, hl3, hl4, hk4⟩ := fin (some (.goto t)) W3 hk3
        exact ⟨_, _, hr, .inr ⟨rfl, .goto t, (hIx _).put _ hi3 (by omega) hl3 rfl, hXl, hXd, hl4, hk4⟩, kp _ _ hkp3⟩
      | panic ch => exact hp.elim
      | outgrown => exact hp.elim
    · -- behind the iterator
      rintro e W2 ⟨⟨v, rfl⟩, (⟨X, xs, hS, hi, _, _, hl, hk⟩ | ⟨X, pre, hSp, c, hi, _, _, hl, hk⟩)⟩
      · exact ⟨none, _, by have := run_endLoop (P := Tryd.prog) hl (by rw [hrec]; simp); rw [hrec] at this; exact this, hdone _ X xs _ (Nat.le_refl _) hS (hI.put _ hi (by omega) hl rfl) ((World.putObj_heap_other (by omega)).trans hk)⟩
      · exact ⟨some c, _, by have := run_endLoop (P := Tryd.prog) hl (by rw [hrec]; simp); rw [hrec] at this; exact this, hstop _ X c pre _ (Nat.le_refl _) hSp ((hIx c).put _ hi (by omega) hl rfl) ((World.putObj_heap_other (by omega)).trans hk)⟩
end Go.Proofs.YtphpablchlpagaaDoor
namespace Go.Proofs.YtphpablchlpagaaDoor
open Go.RowKit Go.Shelf
theorem own_lt {W : World} {base : Nat} {e : TypeId} {s : Nat} {g n c k : Nat} {xs : List Value} (h : W.ownsRow base e s (.slice (some ⟨g, 0, none⟩) n c) k xs) : base ≤ g ∧ g < W.heap.size := by
  rcases h.2 with ⟨h', _⟩ | ⟨g', cap, cur, h', hb, hh, _⟩
  · cases h'
  · cases h'; exact ⟨hb, lt_of_block hh⟩
theorem SeenMap.isMap {w : World} {bm n : Nat} {S : Nat → Bool} (h : SeenMap w bm n S) : ∃ es c, w.heap[bm]? = some (.map es c) := by
  obtain ⟨D, ⟨es, clock, hb, _⟩, _⟩ := h
  exact ⟨es, clock, hb⟩
theorem Turn.mono {X Y : Blocks} {W W' : World} (h : Turn X W W') (hXY : ∀ k, X k → Y k) : Turn Y W W' := ⟨h.os, h.tape, h.output, h.size, fun k hk hY => h.block k hk (fun hX => hY (hXY k hX))⟩
theorem Keep.mono {n₀ : Nat} {X Y : Blocks} {W W' : World} (h : Keep n₀ Y W W') (hXY : ∀ k, X k → Y k) : Keep n₀ X W W' := ⟨h.os, h.tape, h.output, h.size, fun k hk hc => h.block k hk (hc.imp id (hXY k))⟩
/-- What lay there when the search began stays. -/
theorem Keep.of_turn {n₀ base : Nat} {X0 X : Blocks} {W W' : World} (h : Turn (fun k => X k ∧ base ≤ k) W W') (hn : n₀ ≤ base) (h0 : ∀ k, X0 k → k < base) : Keep n₀ X0 W W' :=
  ⟨h.os, h.tape, h.output, h.size, fun k hk hc => h.block k hk (fun hX => by
    obtain ⟨_, h2⟩ := hX
    rcases hc with h1 | h1
    · omega
    · have := h0 k h1; omega)⟩
section
variable {J : Blocks → List (Nat × Value) → World → Prop} {n₀ : Nat} {X0 : Blocks} {W : World} {bm b6 b7 i : Nat} {B : Steps} {pre : List (Nat × Value)} {X : Blocks} {g cap : Nat} {wr : World}
end
end Go.Proofs.YtphpablchlpagaaDoor
namespace Go.Proofs.YtphpablchlpagaaDoor
open Go.RowKit Go.Shelf
attribute [local go_sem] Oper.semAt_some
/-- The number that a box holds. -/
def boxI (v : Value) (w : World) : Nat := match v with
  | .pointer (some a) => (match w.cell? a with | some (.int _ x) => x.toNat | _ => 0)
  | _ => 0
theorem keep_cell {n₀ b : Nat} {X : Blocks} {W W' : World} {v : Value} (h : Keep n₀ X W W') (hX : X b) (hc : W.cell? ⟨b, 0, none⟩ = some v) : W'.cell? ⟨b, 0, none⟩ = some v :=
  (World.cell?_of_block (w := W) (w' := W') (a := ⟨b, 0, none⟩) (h.block b (World.block_lt_of_cell? _ _ hc) (.inr hX))).trans hc
theorem cells_three (w : World) (t : TypeId) (a b c : Value) : ∀ (j : Nat) (u : Value), [a, b, c][j]? = some u → (w.alloc (.cells #[a, b, c] t)).cell? ((⟨w.heap.size, 0, none⟩ : Addr).add j) = some u := by
  intro j u hu
  have hj : j < 3 := by
    have := (List.getElem?_eq_some_iff.1 hu).1
    simpa using this
  have h3 : j = 0 ∨ j = 1 ∨ j = 2 := by omega
  rcases h3 with rfl | rfl | rfl <;> simp at hu <;> subst hu <;> simp [Addr.add]
end Go.Proofs.YtphpablchlpagaaDoor
namespace Go.Proofs.YtphpablchlpagaaDoor
open Go.RowKit Go.Shelf
attribute [local go_sem] Oper.semAt_some
theorem row_blk2 {w : World} {base : Nat} {e : TypeId} {s : Nat} {v : Value} {n : Nat} {xs : List Value} (h : w.ownsRow base e s v n xs) : ∀ g, v.ownBlock = some g → base ≤ g ∧ g < w.heap.size := by
  intro g hg
  rcases h.2 with ⟨rfl, _⟩ | ⟨g', cap, cur, rfl, hb, hh, _⟩
  · cases hg
  · cases hg; exact ⟨hb, lt_of_block hh⟩
theorem row_mono {w : World} {base base' : Nat} {e : TypeId} {s : Nat} {v : Value} {n : Nat} {xs : List Value} (h : w.ownsRow base e s v n xs) (hb : base' ≤ base) : w.ownsRow base' e s v n xs := by
  refine ⟨h.1, ?_⟩
  rcases h.2 with h' | ⟨g, cap, cur, hv, hg, r⟩
  · exact .inl h'
  · exact .inr ⟨g, cap, cur, hv, Nat.le_trans hb hg, r⟩
theorem put_boxed {W : World} {b D : Nat} {t : TypeId} {v : Value} {x : Option (List Deferred)} (h : Boxed W b t v) (hD : W.heap[D]? = some (.deferred x)) : Boxed (W.putObj D (.deferred none)) b t v :=
  (World.putObj_heap_other (fun e => by
    unfold Boxed at h
    rw [e, hD] at h; cases h)).trans h
theorem sp_last {pre : List (Nat × Value)} {x : Nat × Value} {k : Nat} (h : (pre ++ [x]).map (·.1) = List.range k) : k = pre.length + 1 ∧ x.1 = pre.length := by
  have hl := congrArg List.length h
  simp at hl
  refine ⟨hl.symm, ?_⟩
  have h2 := congrArg (fun l => l[pre.length]?) h
  rw [← hl] at h2
  simpa using h2
end Go.Proofs.YtphpablchlpagaaDoor
namespace Go.Proofs.YtphpablchlpagaaDoor
open Go.RowKit Go.Shelf
attribute [local go_sem] Oper.semAt_some
theorem held_pair {w1 w' : World} {p q : Addr} {u v : Value} (h1 : w1.cell? p = some u) (h2 : w1.cell? q = some v) (hb : Below w1.heap.size w1 w') : Below w1.heap.size w1 w' ∧ w'.cell? p = some u ∧ w'.cell? q = some v :=
  ⟨hb, (hb.cell (p := p) (World.block_lt_of_cell? _ _ h1)).trans h1, (hb.cell (p := q) (World.block_lt_of_cell? _ _ h2)).trans h2⟩
/-- The search from a state of an automaton. -/
def bfsM (m : List (List Int)) (s : Nat) : Steps := bfsTo (fun p x => nx m p (x : Int)) (letters m) s m.length
end Go.Proofs.YtphpablchlpagaaDoor
namespace Go.Proofs.YtphpablchlpagaaDoor
open Go.RowKit Go.Shelf
theorem nat_word {m : List (List Int)} {u : List Int} (h : u.all (inB 0 ((letters m : Int) - 1)) = true) : ∀ x ∈ u.map Int.toNat, x < letters m := by
  intro x hx
  obtain ⟨y, hy, rfl⟩ := List.mem_map.1 hx
  have h1 := List.all_eq_true.1 h y hy
  unfold inB at h1
  simp at h1; omega
theorem ldM_ok {m : List (List Int)} (hv : validM m = true) : ∀ p x, p < m.length → x < letters m → nx m p (x : Int) < m.length := fun p x hp hx => by
  obtain ⟨p1, p2, p3, p4, p5⟩ := valid_parts hv
  exact (nx_ok hv hp (x := (x : Int)) (by omega) (by omega)).1
end Go.Proofs.YtphpablchlpagaaDoor
namespace Go.Proofs.YtphpablchlpagaaDoor
open Go.RowKit Go.Shelf
/-- The letters of the steps but the first one are letters. -/
def LetB (K : Nat) (B : Steps) : Prop := ∀ k, 0 < k → k < B.length → 0 ≤ leB B k ∧ leB B k < K
theorem LetB.add {K : Nat} {B : Steps} (h : LetB K B) (ld : Nat → Nat → Nat) (p i : Nat) {x : Nat} (hx : x < K) : LetB K (addB ld B p i x) := by
  unfold addB
  split
  · exact h
  · obtain ⟨s1, s2, s3⟩ := snoc_pl B (ld p x) (i : Int) (x : Int)
    have hpre : B <+: B ++ [(((ld p x : Nat) : Int), (i : Int), (x : Int))] := List.prefix_append _ _
    intro k h0 hk
    by_cases e : k < B.length
    · rw [(pre_pl hpre k e).2.2]; exact h k h0 e
    · have e2 : k = B.length := by rw [List.length_append] at hk; simp at hk; omega
      subst e2
      rw [s3]; omega
theorem LetB.row {K : Nat} {B : Steps} (h : LetB K B) (ld : Nat → Nat → Nat) (p i : Nat) : ∀ x, x ≤ K → LetB K (rowB ld B p i x)
  | 0, _ => h
  | x + 1, hx => (LetB.row h ld p i x (by omega)).add ld p i (by omega)
theorem LetB.bfs (ld : Nat → Nat → Nat) (K s : Nat) : ∀ i, LetB K (bfsTo ld K s i)
  | 0 => fun k h0 hk => by simp [bfsTo] at hk; omega
  | i + 1 => by
    have ih := LetB.bfs ld K s i
    have e : bfsTo ld K s (i + 1) = (if i < (bfsTo ld K s i).length then rowB ld (bfsTo ld K s i) (plB (bfsTo ld K s i) i).toNat i K else bfsTo ld K s i) := rfl
    rw [e]
    split
    · exact ih.row ld _ i K (Nat.le_refl _)
    · exact ih
theorem word_letters {K : Nat} {B : Steps} (hT : TreeB B) (hL : LetB K B) : ∀ j, j < B.length → (wordB B j).all (inB 0 ((K : Int) - 1)) = true := by
  intro j
  induction j using Nat.strongRecOn with
  | _ j ih =>
    intro hj
    rcases Nat.eq_zero_or_pos j with e | e
    · subst e; rw [wordB_root hT]; rfl
    · obtain ⟨b1, b2⟩ := hT.2.2 j e hj
      obtain ⟨l1, l2⟩ := hL j e hj
      rw [wordB_step hT e hj, List.all_append, ih (frB B j).toNat (by omega) (by omega)]
      simp only [List.all_cons, List.all_nil, Bool.and_true, Bool.true_and]
      exact inB_true ⟨l1, by omega⟩
end Go.Proofs.YtphpablchlpagaaDoor
namespace Go.Proofs.YtphpablchlpagaaDoor
open Go.RowKit Go.Shelf
/-- No word, and an error. -/
def NoWord (w : World) (c : Int) (e : Ending) (w' : World) : Prop := e = .returned (.tuple #[.slice none 0 0, .int .i64 c]) ∧ Below w.heap.size w w'
end Go.Proofs.YtphpablchlpagaaDoor
namespace Go.Proofs.YtphpablchlpagaaDoor
open Go.RowKit Go.Shelf
/-- The row of the lengths behind k steps. -/
def lensTo (F : Steps) (n : Nat) : Nat → List Int
  | 0 => List.replicate n 0
  | k + 1 => (lensTo F n k).set (plB F k).toNat ((wordB F k).length : Int)
theorem SLe.len {a b : List Int} (h : SLe a b) : a.length ≤ b.length := by
  rcases h with rfl | h | ⟨h, _⟩ <;> omega
/-- The lengths of the shortest words from state 0. -/
def lensM (m : List (List Int)) : List Int := lensTo (bfsM m 0) m.length (bfsM m 0).length
/-- How much longer the way by a letter is. -/
def excM (L : List Int) (m : List (List Int)) (s x : Nat) : Nat := (L.getD s 0 + 1 - L.getD (nx m s (x : Int)) 0).toNat
def gRow (L : List Int) (m : List (List Int)) (s d : Nat) : Nat → Nat
  | 0 => d
  | x + 1 => Nat.gcd (excM L m s x) (gRow L m s d x)
def gAll (L : List Int) (m : List (List Int)) : Nat → Nat
  | 0 => 0
  | s + 1 => gRow L m s (gAll L m s) (letters m)
/-- The period. -/
def perM (m : List (List Int)) : Nat := gAll (lensM m) m m.length
section
variable {m : List (List Int)} (hv : validM m = true) (hc : connM m = true)
include hv hc
end
end Go.Proofs.YtphpablchlpagaaDoor
namespace Go.Proofs.YtphpablchlpagaaDoor
open Go.RowKit Go.Shelf
theorem runQ_lt {m : List (List Int)} (hv : validM m = true) {s : Nat} (hs : s < m.length) {u : List Int} (hu : u.all (inB 0 ((letters m : Int) - 1)) = true) : runM m s u < m.length := by
  induction u generalizing s with
  | nil => exact hs
  | cons x u ih =>
    obtain ⟨hx, hu'⟩ := all_cons_parts hu
    obtain ⟨xn, rfl⟩ := Int.eq_ofNat_of_zero_le hx.1
    exact ih (nx_ok hv hs hx.1 hx.2).1 hu'
end Go.Proofs.YtphpablchlpagaaDoor
namespace Go.Proofs.YtphpablchlpagaaDoor
open Go.RowKit Go.Shelf
theorem runQ_append (m : List (List Int)) (s : Nat) (u v : List Int) : runM m s (u ++ v) = runM m (runM m s u) v := by
  unfold runM; rw [List.foldl_append]
theorem all_append_ok {K : Nat} {u v : List Int} (hu : u.all (inB 0 ((K : Int) - 1)) = true) (hv : v.all (inB 0 ((K : Int) - 1)) = true) : (u ++ v).all (inB 0 ((K : Int) - 1)) = true := by
  rw [List.all_append, hu, hv]; rfl
section
variable {m : List (List Int)} (hv : validM m = true) (hc : connM m = true)
include hv hc
end
end Go.Proofs.YtphpablchlpagaaDoor
namespace Go.Proofs.YtphpablchlpagaaDoor
open Go.RowKit Go.Shelf
theorem lexLt_irrefl : ∀ a : List Int, ¬ lexLt a a
  | [], h => h
  | x :: a, h => by
    rcases h with h | ⟨_, h⟩
    · omega
    · exact lexLt_irrefl a h
end Go.Proofs.YtphpablchlpagaaDoor
namespace Go.Proofs.YtphpablchlpagaaDoor
open Go.RowKit Go.Shelf
theorem least_nat {p : Nat → Prop} : ∀ n, p n → ∃ k, p k ∧ k ≤ n ∧ ∀ j, p j → ¬ j < k := by
  intro n
  induction n using Nat.strongRecOn with
  | _ n ih =>
    intro hn
    by_cases h : ∃ j, p j ∧ j < n
    · obtain ⟨j, hj, hlt⟩ := h
      obtain ⟨k, h1, h2, h3⟩ := ih j hlt hj
      exact ⟨k, h1, by omega, h3⟩
    · exact ⟨n, hn, Nat.le_refl _, fun j hj hlt => h ⟨j, hj, hlt⟩⟩
theorem allw_take {K : Nat} {u : List Int} (h : u.all (inB 0 ((K : Int) - 1)) = true) (i : Nat) : (u.take i).all (inB 0 ((K : Int) - 1)) = true := by
  rw [List.all_eq_true] at h ⊢
  exact fun x hx => h x (List.mem_of_mem_take hx)
theorem allw_drop {K : Nat} {u : List Int} (h : u.all (inB 0 ((K : Int) - 1)) = true) (i : Nat) : (u.drop i).all (inB 0 ((K : Int) - 1)) = true := by
  rw [List.all_eq_true] at h ⊢
  exact fun x hx => h x (List.mem_of_mem_drop hx)
theorem run_split (m : List (List Int)) (a : Nat) (u : List Int) (i : Nat) : runM m (runM m a (u.take i)) (u.drop i) = runM m a u := by
  rw [← runQ_append, List.take_append_drop]
theorem pigeon {n k : Nat} (f : Nat → Nat) (hf : ∀ i, i ≤ k → f i < n) (hk : n ≤ k) : ∃ i j, i < j ∧ j ≤ k ∧ f i = f j := by
  apply Classical.byContradiction
  intro hno
  have hnd : ((List.range (k + 1)).map fun i => ((f i : Nat) : Int)).Nodup := by
    unfold List.Nodup
    rw [List.pairwise_map]
    refine List.Pairwise.imp_of_mem (fun {i j} _ hj hlt e => hno ⟨i, j, hlt, ?_, by omega⟩) List.pairwise_lt_range
    have := List.mem_range.1 hj
    omega
  have := nodup_len n _ hnd (fun x hx => by
    obtain ⟨i, hi, rfl⟩ := List.mem_map.1 hx
    have h1 := List.mem_range.1 hi
    have h2 := hf i (by omega)
    omega)
  simp at this
  omega
section
variable {m : List (List Int)} (hv : validM m = true) (hc : connM m = true) (hp : perM m = 1)
include hv hc hp
end
end Go.Proofs.YtphpablchlpagaaDoor
namespace Go.Proofs.YtphpablchlpagaaDoor
open Go.RowKit Go.Shelf
/-- A word of k letters merges the two states. -/
def mergeP (m : List (List Int)) (p q k : Nat) : Prop := ∃ u : List Int, u.all (inB 0 ((letters m : Int) - 1)) = true ∧ u.length = k ∧ runM m p u = runM m q u
theorem mergeP_zero {m : List (List Int)} {p q : Nat} : mergeP m p q 0 ↔ p = q := by
  constructor
  · rintro ⟨u, _, h2, h3⟩
    obtain rfl : u = [] := List.length_eq_zero_iff.1 h2
    exact h3
  · rintro rfl; exact ⟨[], rfl, rfl, rfl⟩
theorem mergeP_cons {m : List (List Int)} {p q x k : Nat} (hx : x < letters m) (h : mergeP m (nx m p (x : Int)) (nx m q (x : Int)) k) : mergeP m p q (k + 1) := by
  obtain ⟨u, h1, h2, h3⟩ := h
  refine ⟨(x : Int) :: u, ?_, by simp [h2], h3⟩
  rw [List.all_cons, h1, Bool.and_true]
  exact inB_true ⟨by omega, by omega⟩
theorem mergeP_head {m : List (List Int)} {p q k : Nat} (h : mergeP m p q (k + 1)) : ∃ x, x < letters m ∧ mergeP m (nx m p (x : Int)) (nx m q (x : Int)) k := by
  obtain ⟨u, h1, h2, h3⟩ := h
  cases u with
  | nil => simp at h2
  | cons y u =>
    obtain ⟨hy, hu⟩ := all_cons_parts h1
    obtain ⟨x, rfl⟩ := Int.eq_ofNat_of_zero_le hy.1
    exact ⟨x, by omega, u, hu, by simpa using h2, h3⟩
theorem mergeP_symm {m : List (List Int)} {p q k : Nat} (h : mergeP m p q k) : mergeP m q p k := by
  obtain ⟨u, h1, h2, h3⟩ := h
  exact ⟨u, h1, h2, h3.symm⟩
/-- A shortest word that merges the two states has k letters. -/
def mdist (m : List (List Int)) (p q k : Nat) : Prop := mergeP m p q k ∧ ∀ i, i < k → ¬ mergeP m p q i
theorem mdist_symm {m : List (List Int)} {p q k : Nat} (h : mdist m p q k) : mdist m q p k := ⟨mergeP_symm h.1, fun i hi k => h.2 i hi (mergeP_symm k)⟩
theorem mdist_zero {m : List (List Int)} {p q : Nat} : mdist m p q 0 ↔ p = q := by
  constructor
  · exact fun h => mergeP_zero.1 h.1
  · exact fun h => ⟨mergeP_zero.2 h, fun i hi => by omega⟩
theorem mdist_unique {m : List (List Int)} {p q i j : Nat} (h : mdist m p q i) (k : mdist m p q j) : i = j := by
  rcases Nat.lt_trichotomy i j with e | e | e
  · exact absurd h.1 (k.2 i e)
  · exact e
  · exact absurd k.1 (h.2 j e)
theorem mdist_some {m : List (List Int)} {p q k : Nat} (h : mergeP m p q k) : ∃ j, j ≤ k ∧ mdist m p q j := by
  obtain ⟨j, h1, h2, h3⟩ := least_nat (p := mergeP m p q) k h
  exact ⟨j, h2, h1, fun i hi hp => h3 i hp hi⟩
theorem mdist_step {m : List (List Int)} {p q k : Nat} (h : mdist m p q (k + 1)) : ∃ x, x < letters m ∧ mdist m (nx m p (x : Int)) (nx m q (x : Int)) k := by
  obtain ⟨x, hx, he⟩ := mergeP_head h.1
  exact ⟨x, hx, he, fun i hi h2 => h.2 (i + 1) (by omega) (mergeP_cons hx h2)⟩
theorem mdist_up {m : List (List Int)} {p q x k : Nat} (hx : x < letters m) (h : mdist m (nx m p (x : Int)) (nx m q (x : Int)) k) (hn : ∀ i, i ≤ k → ¬ mergeP m p q i) : mdist m p q (k + 1) := ⟨mergeP_cons hx h.1, fun i hi => hn i (by omega)⟩
/-- Where there is a length, there are all the shorter ones. -/
theorem mdist_down {m : List (List Int)} (hv : validM m = true) : ∀ k p q, p < m.length → q < m.length → mdist m p q k → ∀ j, j ≤ k → ∃ p' q', p' < m.length ∧ q' < m.length ∧ mdist m p' q' j
  | 0, p, q, hp, hq, h, j, hj => ⟨p, q, hp, hq, by rw [show j = 0 by omega]; exact h⟩
  | k + 1, p, q, hp, hq, h, j, hj => by
    by_cases e : j = k + 1
    · subst e; exact ⟨p, q, hp, hq, h⟩
    · obtain ⟨x, hx, h2⟩ := mdist_step h
      exact mdist_down hv k _ _ (ldM_ok hv p x hp hx) (ldM_ok hv q x hq hx) h2 j (by omega)
theorem mdist_lt {m : List (List Int)} (hv : validM m = true) {p q k : Nat} (hp : p < m.length) (hq : q < m.length) (h : mdist m p q k) : k < m.length * m.length := by
  apply Classical.byContradiction
  intro hk
  have hf : ∀ j, ∃ c, j ≤ k → ∃ p' q', p' < m.length ∧ q' < m.length ∧ mdist m p' q' j ∧ c = p' * m.length + q' := fun j => by
    by_cases hj : j ≤ k
    · obtain ⟨p', q', h1, h2, h3⟩ := mdist_down hv k p q hp hq h j hj
      exact ⟨_, fun _ => ⟨p', q', h1, h2, h3, rfl⟩⟩
    · exact ⟨0, fun h => absurd h hj⟩
  obtain ⟨f, hf⟩ := Classical.axiomOfChoice hf
  obtain ⟨i, j, h1, h2, h3⟩ := pigeon (n := m.length * m.length) (k := k) f (fun i hi => by
    obtain ⟨p', q', a1, a2, _, a4⟩ := hf i hi
    rw [a4]
    have := Nat.mul_le_mul_right m.length (show p' + 1 ≤ m.length by omega)
    rw [Nat.succ_mul] at this
    omega) (by omega)
  obtain ⟨p1, q1, a1, a2, a3, a4⟩ := hf i (by omega)
  obtain ⟨p2, q2, b1, b2, b3, b4⟩ := hf j h2
  rw [a4, b4] at h3
  have e1 : p1 = p2 := by
    have := congrArg (· / m.length) h3
    simp only [Nat.add_comm (_ * _), Nat.add_mul_div_right _ _ (show 0 < m.length by omega), Nat.div_eq_of_lt a2, Nat.div_eq_of_lt b2] at this
    omega
  subst e1
  have e2 : q1 = q2 := by omega
  subst e2
  have := mdist_unique a3 b3
  omega
/-- Behind k rounds: the length of a shortest word, or -1. -/
def mlenAt (m : List (List Int)) : Nat → Nat → Nat → Int
  | 0, p, q => if p = q then 0 else -1
  | k + 1, p, q => if 0 ≤ mlenAt m k p q then mlenAt m k p q else if (List.range (letters m)).any (fun x : Nat => mlenAt m k (nx m p (x : Int)) (nx m q (x : Int)) == (k : Int)) then (k : Int) + 1 else -1
theorem mlenAt_spec (m : List (List Int)) : ∀ k p q, (mlenAt m k p q = -1 ∧ ∀ i, i ≤ k → ¬ mergeP m p q i) ∨ ∃ j : Nat, j ≤ k ∧ mlenAt m k p q = j ∧ mdist m p q j
  | 0, p, q => by
    by_cases e : p = q
    · exact .inr ⟨0, Nat.le_refl _, by simp [mlenAt, e], mdist_zero.2 e⟩
    · refine .inl ⟨by simp [mlenAt, e], fun i hi h => ?_⟩
      obtain rfl : i = 0 := by omega
      exact e (mergeP_zero.1 h)
  | k + 1, p, q => by
    have ih := mlenAt_spec m k
    rcases ih p q with ⟨h1, h2⟩ | ⟨j, h1, h2, h3⟩
    · have hneg : ¬ (0 : Int) ≤ mlenAt m k p q := by rw [h1]; omega
      cases hany : (List.range (letters m)).any (fun x : Nat => mlenAt m k (nx m p (x : Int)) (nx m q (x : Int)) == (k : Int)) with
      | true =>
        obtain ⟨x, hx, he⟩ := List.any_eq_true.1 hany
        have hx' := List.mem_range.1 hx
        have he' : mlenAt m k (nx m p (x : Int)) (nx m q (x : Int)) = (k : Int) := beq_iff_eq.1 he
        rcases ih (nx m p (x : Int)) (nx m q (x : Int)) with ⟨a1, _⟩ | ⟨j, a1, a2, a3⟩
        · omega
        · obtain rfl : j = k := by omega
          refine .inr ⟨j + 1, Nat.le_refl _, ?_, mdist_up hx' a3 h2⟩
          simp only [mlenAt]
          rw [if_neg hneg, if_pos hany]; rfl
      | false =>
        refine .inl ⟨?_, fun i hi h => ?_⟩
        · simp only [mlenAt]
          rw [if_neg hneg, hany]; rfl
        · by_cases e : i ≤ k
          · exact h2 i e h
          · obtain rfl : i = k + 1 := by omega
            obtain ⟨x, hx, hxe⟩ := mergeP_head h
            have hne := List.any_eq_false.1 hany x (List.mem_range.2 hx)
            rcases ih (nx m p (x : Int)) (nx m q (x : Int)) with ⟨a1, a2⟩ | ⟨j, a1, a2, a3⟩
            · exact a2 k (Nat.le_refl _) hxe
            · by_cases e2 : j = k
              · subst e2
                rw [a2] at hne
                simp at hne
              · exact h2 (j + 1) (by omega) (mergeP_cons hx a3.1)
    · refine .inr ⟨j, by omega, ?_, h3⟩
      simp only [mlenAt]
      rw [if_pos (by omega)]
      exact h2
theorem mlenAt_range (m : List (List Int)) (k p q : Nat) : -1 ≤ mlenAt m k p q ∧ mlenAt m k p q ≤ k := by
  rcases mlenAt_spec m k p q with ⟨h1, _⟩ | ⟨j, h1, h2, _⟩ <;> omega
/-- The length of a shortest word that merges, or -1. -/
def mlen (m : List (List Int)) (p q : Nat) : Int := mlenAt m (m.length * m.length) p q
theorem mlen_spec {m : List (List Int)} (hv : validM m = true) {p q : Nat} (hp : p < m.length) (hq : q < m.length) : (mlen m p q = -1 ∧ ∀ k, ¬ mergeP m p q k) ∨ ∃ j : Nat, j < m.length * m.length ∧ mlen m p q = j ∧ mdist m p q j := by
  rcases mlenAt_spec m (m.length * m.length) p q with ⟨h1, h2⟩ | ⟨j, h1, h2, h3⟩
  · refine .inl ⟨h1, fun k h => ?_⟩
    obtain ⟨j, hj, hd⟩ := mdist_some h
    exact h2 j (by have := mdist_lt hv hp hq hd; omega) hd.1
  · exact .inr ⟨j, mdist_lt hv hp hq h3, h2, h3⟩
theorem mlen_of {m : List (List Int)} (hv : validM m = true) {p q j : Nat} (hp : p < m.length) (hq : q < m.length) (h : mdist m p q j) : mlen m p q = j := by
  rcases mlen_spec hv hp hq with ⟨_, h2⟩ | ⟨i, h1, h2, h3⟩
  · exact absurd h.1 (h2 j)
  · rw [h2, mdist_unique h3 h]
theorem mlen_symm {m : List (List Int)} (hv : validM m = true) {p q : Nat} (hp : p < m.length) (hq : q < m.length) : mlen m p q = mlen m q p := by
  rcases mlen_spec hv hp hq with ⟨h1, h2⟩ | ⟨i, h1, h2, h3⟩
  · rcases mlen_spec hv hq hp with ⟨k1, k2⟩ | ⟨j, k1, k2, k3⟩
    · rw [h1, k1]
    · exact absurd (mergeP_symm k3.1) (h2 j)
  · rw [h2, mlen_of hv hq hp (mdist_symm h3)]
/-- A round that changes nothing is the last one. -/
theorem mlen_stop {m : List (List Int)} (hv : validM m = true) {k : Nat} (h : ∀ p q, p < m.length → q < m.length → mlenAt m (k + 1) p q = mlenAt m k p q) {p q : Nat} (hp : p < m.length) (hq : q < m.length) : mlenAt m k p q = mlen m p q := by
  have hno : ∀ p q, p < m.length → q < m.length → ¬ mdist m p q (k + 1) := fun p q hp hq hd => by
    rcases mlenAt_spec m (k + 1) p q with ⟨_, a2⟩ | ⟨j, a1, a2, a3⟩
    · exact a2 _ (Nat.le_refl _) hd.1
    · have e := mdist_unique a3 hd
      have := h p q hp hq
      have := mlenAt_range m k p q
      omega
  rcases mlenAt_spec m k p q with ⟨h1, h2⟩ | ⟨j, h1, h2, h3⟩
  · rcases mlen_spec hv hp hq with ⟨k1, _⟩ | ⟨j, k1, k2, k3⟩
    · rw [h1, k1]
    · exfalso
      have hj : k + 1 ≤ j := Nat.lt_of_not_le fun e => h2 j e k3.1
      obtain ⟨p', q', b1, b2, b3⟩ := mdist_down hv j p q hp hq k3 (k + 1) hj
      exact hno p' q' b1 b2 b3
  · rw [h2, mlen_of hv hp hq h3]
/-- The first letter that leads one nearer. -/
def mX (m : List (List Int)) (p q : Nat) : Nat := ((List.range (letters m)).find? fun x : Nat => mlen m (nx m p (x : Int)) (nx m q (x : Int)) == mlen m p q - 1).getD 0
/-- The word that is made so. -/
def mW (m : List (List Int)) : Nat → Nat → Nat → List Int
  | 0, _, _ => []
  | j + 1, p, q => (mX m p q : Int) :: mW m j (nx m p (mX m p q : Int)) (nx m q (mX m p q : Int))
theorem mX_spec {m : List (List Int)} (hv : validM m = true) {p q j : Nat} (hp : p < m.length) (hq : q < m.length) (h : mdist m p q (j + 1)) :
    mX m p q < letters m ∧ mdist m (nx m p (mX m p q : Int)) (nx m q (mX m p q : Int)) j ∧ mlen m (nx m p (mX m p q : Int)) (nx m q (mX m p q : Int)) = mlen m p q - 1 ∧ ∀ y, y < mX m p q → mlen m (nx m p (y : Int)) (nx m q (y : Int)) ≠ mlen m p q - 1 := by
  have hls := mlen_of hv hp hq h
  obtain ⟨x0, hx0, hd0⟩ := mdist_step h
  have hl0 := mlen_of hv (ldM_ok hv p x0 hp hx0) (ldM_ok hv q x0 hq hx0) hd0
  have hfind : ∃ x, (List.range (letters m)).find? (fun x : Nat => mlen m (nx m p (x : Int)) (nx m q (x : Int)) == mlen m p q - 1) = some x := by
    cases he : (List.range (letters m)).find? (fun x : Nat => mlen m (nx m p (x : Int)) (nx m q (x : Int)) == mlen m p q - 1) with
    | some x => exact ⟨x, rfl⟩
    | none =>
      have := List.find?_eq_none.1 he x0 (List.mem_range.2 hx0)
      rw [hl0, hls] at this
      exact absurd (by simp) this
  obtain ⟨x, hx⟩ := hfind
  have hrx : mX m p q = x := by rw [mX, hx]; rfl
  have hpx := List.find?_some hx
  have hmem := List.mem_of_find?_eq_some hx
  have hxl := List.mem_range.1 hmem
  have hp' : mlen m (nx m p (x : Int)) (nx m q (x : Int)) = mlen m p q - 1 := beq_iff_eq.1 hpx
  rw [hrx]
  refine ⟨hxl, ?_, hp', fun y hy => ?_⟩
  · rcases mlen_spec hv (ldM_ok hv p x hp hxl) (ldM_ok hv q x hq hxl) with ⟨a1, _⟩ | ⟨i, a1, a2, a3⟩
    · omega
    · obtain rfl : i = j := by omega
      exact a3
  · obtain ⟨xa, bs, hab, hno⟩ := (List.find?_eq_some_iff_append.1 hx).2
    have hy2 : y ∈ xa := by
      have hyr : y ∈ List.range (letters m) := List.mem_range.2 (by omega)
      rw [hab] at hyr
      rcases List.mem_append.1 hyr with h1 | h1
      · exact h1
      · have hsort : (List.range (letters m)).Pairwise (· < ·) := List.pairwise_lt_range
        rw [hab] at hsort
        have h2 := (List.pairwise_append.1 hsort).2.1
        rcases List.mem_cons.1 h1 with e | e
        · omega
        · have := (List.pairwise_cons.1 h2).1 y e
          omega
    have := hno y hy2
    intro e
    rw [e] at this
    simp at this
theorem mW_ok {m : List (List Int)} (hv : validM m = true) : ∀ j p q, p < m.length → q < m.length → mdist m p q j → (mW m j p q).all (inB 0 ((letters m : Int) - 1)) = true ∧ (mW m j p q).length = j ∧ runM m p (mW m j p q) = runM m q (mW m j p q)
  | 0, p, q, hp, hq, h => ⟨rfl, rfl, mergeP_zero.1 h.1⟩
  | j + 1, p, q, hp, hq, h => by
    obtain ⟨a1, a2, a3, a4⟩ := mX_spec hv hp hq h
    obtain ⟨b1, b2, b3⟩ := mW_ok hv j _ _ (ldM_ok hv p _ hp a1) (ldM_ok hv q _ hq a1) a2
    refine ⟨?_, by simp [mW, b2], b3⟩
    rw [mW, List.all_cons, b1, Bool.and_true]
    exact inB_true ⟨by omega, by omega⟩
theorem mX_symm {m : List (List Int)} (hv : validM m = true) {p q : Nat} (hp : p < m.length) (hq : q < m.length) : mX m p q = mX m q p := by
  have hs := mlen_symm hv hp hq
  have : ∀ l : List Nat, (∀ x ∈ l, x < letters m) → l.find? (fun x : Nat => mlen m (nx m p (x : Int)) (nx m q (x : Int)) == mlen m p q - 1) = l.find? (fun x : Nat => mlen m (nx m q (x : Int)) (nx m p (x : Int)) == mlen m q p - 1) := by
    intro l
    induction l with
    | nil => intro _; rfl
    | cons x l ih =>
      intro hl
      have hx := hl x (by simp)
      rw [List.find?_cons, List.find?_cons, ih fun y hy => hl y (by simp [hy]), mlen_symm hv (ldM_ok hv p x hp hx) (ldM_ok hv q x hq hx), hs]
  unfold mX
  rw [this _ fun x hx => List.mem_range.1 hx]
theorem mW_symm {m : List (List Int)} (hv : validM m = true) : ∀ j p q, p < m.length → q < m.length → mdist m p q j → mW m j p q = mW m j q p
  | 0, _, _, _, _, _ => rfl
  | j + 1, p, q, hp, hq, h => by
    obtain ⟨a1, a2, _, _⟩ := mX_spec hv hp hq h
    rw [mW, mW, ← mX_symm hv hp hq, mW_symm hv j _ _ (ldM_ok hv p _ hp a1) (ldM_ok hv q _ hq a1) a2]
end Go.Proofs.YtphpablchlpagaaDoor
namespace Go.Proofs.YtphpablchlpagaaDoor
open Go.RowKit Go.Shelf
/-- The two states in their order. -/
def canon (p q : Nat) : Nat × Nat := (min p q, max p q)
theorem canon_cases (p q : Nat) : (p ≤ q ∧ canon p q = (p, q)) ∨ (q ≤ p ∧ canon p q = (q, p)) := by
  unfold canon
  rcases Nat.le_total p q with h | h
  · exact .inl ⟨h, by rw [Nat.min_eq_left h, Nat.max_eq_right h]⟩
  · exact .inr ⟨h, by rw [Nat.min_eq_right h, Nat.max_eq_left h]⟩
theorem canon_mdist {m : List (List Int)} {p q k : Nat} : mdist m (canon p q).1 (canon p q).2 k ↔ mdist m p q k := by
  rcases canon_cases p q with ⟨_, e⟩ | ⟨_, e⟩ <;> rw [e]
  exact ⟨mdist_symm, mdist_symm⟩
theorem canon_le (p q : Nat) : (canon p q).1 ≤ (canon p q).2 := by unfold canon; exact Nat.le_trans (Nat.min_le_left _ _) (Nat.le_max_left _ _)
theorem canon_lt {n p q : Nat} (hp : p < n) (hq : q < n) : (canon p q).2 < n := by
  rcases canon_cases p q with ⟨_, e⟩ | ⟨_, e⟩ <;> rw [e] <;> assumption
/-- Where the search stands at entry i: what it has found, with lengths. -/
structure MB (m : List (List Int)) (F : List (Nat × Nat × Nat)) (i : Nat) : Prop where
  ok : ∀ e ∈ F, e.1 ≤ e.2.1 ∧ e.2.1 < m.length ∧ mdist m e.1 e.2.1 e.2.2
  uniq : (F.map fun e => (e.1, e.2.1)).Nodup
  sorted : F.Pairwise fun a b => a.2.2 ≤ b.2.2
  near : ∀ e, F[i]? = some e → ∀ f ∈ F, f.2.2 ≤ e.2.2 + 1
  diag : ∀ s, s < m.length → (s, s, 0) ∈ F
  closed : ∀ j, j < i → ∀ e, F[j]? = some e → ∀ p q x, p < q → q < m.length → x < letters m → canon (nx m p (x : Int)) (nx m q (x : Int)) = (e.1, e.2.1) → ∃ l, (p, q, l) ∈ F
theorem MB.full {m : List (List Int)} {F : List (Nat × Nat × Nat)} {i : Nat} (hv : validM m = true) (h : MB m F i) : ∀ l p q, p ≤ q → q < m.length → mdist m p q l → (∀ e, F[i]? = some e → l ≤ e.2.2) → (i < F.length ∨ i = F.length) → (p, q, l) ∈ F ∨ (∃ e, F[i]? = some e ∧ l = e.2.2 + 1)
  | 0, p, q, hpq, hq, hd, _, _ => by
    obtain rfl := mdist_zero.1 hd
    exact .inl (h.diag p hq)
  | l + 1, p, q, hpq, hq, hd, hi, hil => by
    have hne : p ≠ q := fun e => by
      have := mdist_unique hd (mdist_zero.2 e)
      omega
    obtain ⟨x, hx, h2⟩ := mdist_step hd
    have n1 := ldM_ok hv p x (by omega) hx
    have n2 := ldM_ok hv q x hq hx
    rcases MB.full hv h l _ _ (canon_le _ _) (canon_lt n1 n2) (canon_mdist.2 h2) (fun e he => by have := hi e he; omega) hil with h3 | ⟨e, he, hl⟩
    · obtain ⟨j, hj, hje⟩ := List.mem_iff_getElem.1 h3
      have hji : j < i := by
        apply Classical.byContradiction
        intro hji
        rcases hil with hlt | heq
        · have he : F[i]? = some F[i] := List.getElem?_eq_getElem hlt
          have hle := hi _ he
          by_cases e : j = i
          · subst e
            rw [hje] at hle
            simp at hle
            omega
          · have := List.pairwise_iff_getElem.1 h.sorted i j hlt hj (by omega)
            rw [hje] at this
            simp at this
            omega
        · omega
      obtain ⟨l', hl'⟩ := h.closed j hji _ (by rw [List.getElem?_eq_getElem hj, hje]) p q x (by omega) hq hx rfl
      have := mdist_unique (h.ok _ hl').2.2 hd
      simp only at this
      subst this
      exact .inl hl'
    · have := hi e he
      omega
theorem MB.all {m : List (List Int)} {F : List (Nat × Nat × Nat)} (hv : validM m = true) (h : MB m F F.length) {l p q : Nat} (hpq : p ≤ q) (hq : q < m.length) (hd : mdist m p q l) : (p, q, l) ∈ F := by
  rcases h.full hv l p q hpq hq hd (fun e he => by simp at he) (.inr rfl) with h1 | ⟨e, he, _⟩
  · exact h1
  · simp at he
theorem MB.add {m : List (List Int)} {F : List (Nat × Nat × Nat)} {i : Nat} (hv : validM m = true) (h : MB m F i) {e : Nat × Nat × Nat} (he : F[i]? = some e) {p q x : Nat} (hpq : p < q) (hq : q < m.length) (hx : x < letters m)
    (hc : canon (nx m p (x : Int)) (nx m q (x : Int)) = (e.1, e.2.1)) (hno : ∀ l, (p, q, l) ∉ F) : MB m (F ++ [(p, q, e.2.2 + 1)]) i := by
  have hil : i < F.length := (List.getElem?_eq_some_iff.1 he).1
  have hee := List.mem_of_getElem? he
  have hme := (h.ok e hee).2.2
  have hm1 : mdist m (nx m p (x : Int)) (nx m q (x : Int)) e.2.2 := canon_mdist.1 (by rw [hc]; exact hme)
  have hd : mdist m p q (e.2.2 + 1) := by
    refine mdist_up hx hm1 fun j hj hp => ?_
    obtain ⟨j', hj', hd'⟩ := mdist_some hp
    rcases h.full hv j' p q (by omega) hq hd' (fun e' he' => by rw [he] at he'; cases he'; omega) (.inl hil) with h1 | ⟨e', he', hl⟩
    · exact hno _ h1
    · rw [he] at he'; cases he'; omega
  refine ⟨?_, ?_, ?_, ?_, fun s hs => List.mem_append_left _ (h.diag s hs), ?_⟩
  · intro f hf
    rcases List.mem_append.1 hf with h1 | h1
    · exact h.ok f h1
    · obtain rfl := List.mem_singleton.1 h1
      exact ⟨by simp; omega, hq, hd⟩
  · rw [List.map_append, List.nodup_append]
    refine ⟨h.uniq, by simp, ?_⟩
    rintro a ha b hb rfl
    obtain ⟨f, hf, rfl⟩ := List.mem_map.1 ha
    simp at hb
    exact hno f.2.2 (by rw [← hb.1, ← hb.2]; exact hf)
  · rw [List.pairwise_append]
    refine ⟨h.sorted, by simp, fun a ha b hb => ?_⟩
    obtain rfl := List.mem_singleton.1 hb
    exact h.near e he a ha
  · intro e' he' f hf
    rw [List.getElem?_append_left hil, he] at he'
    cases he'
    rcases List.mem_append.1 hf with h1 | h1
    · exact h.near e he f h1
    · obtain rfl := List.mem_singleton.1 h1
      exact Nat.le_refl _
  · intro j hj e' he' p' q' x' a1 a2 a3 a4
    rw [List.getElem?_append_left (by omega)] at he'
    obtain ⟨l, hl⟩ := h.closed j hj e' he' p' q' x' a1 a2 a3 a4
    exact ⟨l, List.mem_append_left _ hl⟩
theorem MB.next {m : List (List Int)} {F : List (Nat × Nat × Nat)} {i : Nat} (h : MB m F i) {e : Nat × Nat × Nat} (he : F[i]? = some e)
    (hall : ∀ p q x, p < q → q < m.length → x < letters m → canon (nx m p (x : Int)) (nx m q (x : Int)) = (e.1, e.2.1) → ∃ l, (p, q, l) ∈ F) : MB m F (i + 1) := by
  refine ⟨h.ok, h.uniq, h.sorted, ?_, h.diag, ?_⟩
  · intro e' he' f hf
    obtain ⟨b1, b2⟩ := List.getElem?_eq_some_iff.1 he
    obtain ⟨c1, c2⟩ := List.getElem?_eq_some_iff.1 he'
    have := List.pairwise_iff_getElem.1 h.sorted i (i + 1) b1 c1 (by omega)
    rw [b2, c2] at this
    have := h.near e he f hf
    omega
  · intro j hj e' he' p q x a1 a2 a3 a4
    by_cases hji : j = i
    · subst hji
      rw [he] at he'; cases he'
      exact hall p q x a1 a2 a3 a4
    · exact h.closed j (by omega) e' he' p q x a1 a2 a3 a4
/-- The merged pairs. -/
def diag0 (n : Nat) : List (Nat × Nat × Nat) := (List.range n).map fun s => (s, s, 0)
theorem MB.start (m : List (List Int)) : MB m (diag0 m.length) 0 := by
  refine ⟨?_, ?_, ?_, ?_, ?_, fun j hj => by omega⟩
  · intro e he
    obtain ⟨s, hs, rfl⟩ := List.mem_map.1 he
    exact ⟨Nat.le_refl _, List.mem_range.1 hs, mdist_zero.2 rfl⟩
  · unfold diag0 List.Nodup
    rw [List.map_map, List.pairwise_map]
    refine List.Pairwise.imp (fun {a b} hlt e => ?_) List.pairwise_lt_range
    simp at e
    omega
  · unfold diag0
    rw [List.pairwise_map]
    exact List.Pairwise.imp (fun _ => Nat.le_refl _) List.pairwise_lt_range
  · intro e he f hf
    obtain ⟨s, hs, rfl⟩ := List.mem_map.1 hf
    exact Nat.zero_le _
  · exact fun s hs => List.mem_map.2 ⟨s, List.mem_range.2 hs, rfl⟩
/-- No more than n^2 are found. -/
theorem MB.len {m : List (List Int)} {F : List (Nat × Nat × Nat)} {i : Nat} (h : MB m F i) : F.length ≤ m.length * m.length := by
  have hnd : (F.map fun e => ((e.1 * m.length + e.2.1 : Nat) : Int)).Nodup := by
    have hu := h.uniq
    unfold List.Nodup at hu ⊢
    rw [List.pairwise_map] at hu ⊢
    refine List.Pairwise.imp_of_mem (fun {a b} ha hb hne e => hne ?_) hu
    have e' : a.1 * m.length + a.2.1 = b.1 * m.length + b.2.1 := by omega
    have l1 := (h.ok a ha).2.1
    have l2 := (h.ok b hb).2.1
    have e1 : a.1 = b.1 := by
      have := congrArg (· / m.length) e'
      simp only [Nat.add_comm (_ * _), Nat.add_mul_div_right _ _ (show 0 < m.length by omega), Nat.div_eq_of_lt l1, Nat.div_eq_of_lt l2] at this
      omega
    rw [e1] at e'
    rw [e1, show a.2.1 = b.2.1 by omega]
  have := nodup_len (m.length * m.length) _ hnd (fun x hx => by
    obtain ⟨e, he, rfl⟩ := List.mem_map.1 hx
    have l1 := h.ok e he
    have := Nat.mul_le_mul_right m.length (show e.1 + 1 ≤ m.length by omega)
    rw [Nat.succ_mul] at this
    omega)
  simpa using this
end Go.Proofs.YtphpablchlpagaaDoor
namespace Go.Proofs.YtphpablchlpagaaDoor
open Go.RowKit Go.Shelf
theorem canon_ints (p q : Nat) : (((canon p q).1 : Nat) : Int) = min (p : Int) (q : Int) ∧ (((canon p q).2 : Nat) : Int) = max (p : Int) (q : Int) := by
  unfold canon
  constructor <;> simp only <;> omega
set_option maxHeartbeats 1000000 in
theorem pairOf_any (p q : Nat) (w : World) (hp : p < 1000000) (hq : q < 1000000) :
    Calls Tryd.prog 78 #[.int .i64 p, .int .i64 q] w fun e w' => e = .returned (.agg #[.int .i64 ((canon p q).1 : Nat), .int .i64 ((canon p q).2 : Nat)]) ∧ Below w.heap.size w w' := by
  obtain ⟨e1, e2⟩ := canon_ints p q
  rw [e1, e2]
  go_enter Tryd.func78, Tryd.ntmps78
  go_wp2
  all_goals
    go_returns
    refine ⟨?_, bal (Below.refl _ _) _⟩
    simp only [Ending.returned.injEq, Value.agg.injEq, Array.mk.injEq, List.cons.injEq, Value.int.injEq, and_true, true_and]
    try omega
end Go.Proofs.YtphpablchlpagaaDoor
namespace Go.Proofs.YtphpablchlpagaaDoor
open Go.RowKit Go.Shelf
attribute [local go_sem] Oper.semAt_some
theorem ownsRow_pos' {w : World} {base : Nat} {e : TypeId} {s : Nat} {v : Value} {n : Nat} {xs : List Value} (h : w.ownsRow base e s v n xs) (hn : 1 ≤ n) : ∃ g cap, v = .slice (some ⟨g, 0, none⟩) n cap := by
  rcases h.2 with ⟨_, h0⟩ | ⟨g, cap, cur, hv, _⟩
  · omega
  · exact ⟨g, cap, hv⟩
theorem ownsRow_slice {w : World} {base : Nat} {e : TypeId} {s : Nat} {v : Value} {n : Nat} {xs : List Value} (h : w.ownsRow base e s v n xs) : ∃ A cap, v = .slice A n cap := by
  rcases h.2 with ⟨hu, h0⟩ | ⟨g, cap, cur, hv, _⟩
  · exact ⟨none, 0, by rw [hu, h0]⟩
  · exact ⟨_, cap, hv⟩
theorem keep_set_at {n₀ : Nat} {X : Blocks} (W : World) (b i : Nat) (u : Value) (hn : n₀ ≤ b) (hX : ¬ X b) : Keep n₀ X W (W.setCell ⟨b, i, none⟩ u) :=
  ⟨rfl, rfl, rfl, by simp [World.setCell], fun k hk hc => Below.heap_setCell _ _ _ _ (by
    show k ≠ b
    intro e
    subst e
    rcases hc with h | h
    · omega
    · exact hX h)⟩
end Go.Proofs.YtphpablchlpagaaDoor
namespace Go.Proofs.YtphpablchlpagaaDoor
open Go.RowKit Go.Shelf
theorem getI_cell {l : List Int} {i : Nat} (hi : i < l.length) : (l.map fun x => Value.int .i64 x)[i]? = some (.int .i64 (l.getD i 0)) := by
  simp [List.getElem?_map, List.getElem?_eq_getElem hi, List.getD_eq_getElem?_getD]
end Go.Proofs.YtphpablchlpagaaDoor
namespace Go.Proofs.YtphpablchlpagaaDoor
open Go.RowKit Go.Shelf
/-- A list by a function. -/
def Lf (n : Nat) (f : Nat → Int) : List Int := (List.range n).map f
theorem Lf_len (n : Nat) (f : Nat → Int) : (Lf n f).length = n := by simp [Lf]
theorem Lf_get {n : Nat} (f : Nat → Int) {i : Nat} (hi : i < n) : (Lf n f).getD i 0 = f i := by
  simp [Lf, List.getD_eq_getElem?_getD, List.getElem?_map, List.getElem?_range hi]
theorem Lf_congr {n : Nat} {f g : Nat → Int} (h : ∀ i, i < n → f i = g i) : Lf n f = Lf n g := List.map_congr_left fun i hi => h i (List.mem_range.1 hi)
theorem Lf_set {n : Nat} (f : Nat → Int) (s : Nat) (v : Int) : (Lf n f).set s v = Lf n (fun i => if i = s then v else f i) := by
  apply List.ext_getElem
  · simp [Lf]
  · intro i h1 h2
    rw [List.getElem_set]
    simp only [Lf, List.getElem_map, List.getElem_range]
    by_cases e : s = i
    · rw [if_pos e, if_pos e.symm]
    · rw [if_neg e, if_neg (fun h => e h.symm)]
theorem Lf_cell {n : Nat} (f : Nat → Int) {i : Nat} (hi : i < n) : ((Lf n f).map fun x => Value.int .i64 x)[i]? = some (.int .i64 (f i)) := by
  rw [getI_cell (by rw [Lf_len]; exact hi), Lf_get f hi]
end Go.Proofs.YtphpablchlpagaaDoor
namespace Go.Proofs.YtphpablchlpagaaDoor
open Go.RowKit Go.Shelf
theorem new_cell (w : World) (cs : Array Value) (t : TypeId) (i : Nat) (v : Value) (h : cs[i]? = some v) : (w.alloc (.cells cs t)).cell? ⟨w.heap.size, i, none⟩ = some v := by
  unfold World.cell?
  simp only [World.alloc_heap_new]
  simpa using h
theorem new_cell' (w : World) (cs : Array Value) (t : TypeId) (i : Nat) (v : Value) {k : Nat} (hk : w.heap.size = k) (h : cs[i]? = some v) : (w.alloc (.cells cs t)).cell? ⟨k, i, none⟩ = some v := by subst hk; exact new_cell w cs t i v h
theorem pair_block {w : World} {R : Nat} {t : TypeId} {u v : Value} (h : w.heap[R]? = some (.cells #[u, v] t (0, 0))) : w.cell? ⟨R, 0, none⟩ = some u ∧ w.cell? ⟨R, 1, none⟩ = some v ∧ w.frozen? ⟨R, 0, none⟩ = false ∧ w.frozen? ⟨R, 1, none⟩ = false := by
  refine ⟨?_, ?_, ?_, ?_⟩ <;> simp [World.cell?, World.frozen?, h]
theorem pair_stored {w : World} {R : Nat} {t : TypeId} {u v : Value} (h : w.heap[R]? = some (.cells #[u, v] t (0, 0))) (a b : Value) : ((w.setCell ⟨R, 0, none⟩ a).setCell ⟨R, 1, none⟩ b).heap[R]? = some (.cells #[a, b] t (0, 0)) := by
  have h1 : (w.setCell ⟨R, 0, none⟩ a).heap[R]? = some (.cells #[a, v] t (0, 0)) := by
    simp [World.setCell, Array.getElem?_modify, h]
  unfold World.setCell at h1 ⊢
  simp only [Array.getElem?_modify, if_true] at h1 ⊢
  rw [h] at h1 ⊢
  simp
/-- What the region's loads read. -/
def LeadS (w : World) (R : Nat) (a1 a2 a3 a4 a5 a6 a7 : Addr) (u1 u2 u3 u4 u5 u6 u7 : Value) (w' : World) : Prop :=
  Below w.heap.size w w' ∧ w'.cell? a1 = some u1 ∧ w'.cell? a2 = some u2 ∧ w'.cell? a3 = some u3 ∧ w'.cell? a4 = some u4 ∧ w'.cell? a5 = some u5 ∧ w'.cell? a6 = some u6 ∧ w'.cell? a7 = some u7
theorem held_lead {w X : World} {R : Nat} {a1 a2 a3 a4 a5 a6 a7 : Addr} {u1 u2 u3 u4 u5 u6 u7 : Value} (h : LeadS w R a1 a2 a3 a4 a5 a6 a7 u1 u2 u3 u4 u5 u6 u7 X) {w' : World} (hb : Below X.heap.size X w') : LeadS w R a1 a2 a3 a4 a5 a6 a7 u1 u2 u3 u4 u5 u6 u7 w' := by
  obtain ⟨h0, c1, c2, c3, c4, c5, c6, c7⟩ := h
  have k := fun (a : Addr) (u : Value) (c : X.cell? a = some u) => (hb.cell (p := a) (World.block_lt_of_cell? _ _ c)).trans c
  exact ⟨btr h0 hb, k _ _ c1, k _ _ c2, k _ _ c3, k _ _ c4, k _ _ c5, k _ _ c6, k _ _ c7⟩
theorem held_lead_set {w X : World} {R i : Nat} {u : Value} {a1 a2 a3 a4 a5 a6 a7 : Addr} {u1 u2 u3 u4 u5 u6 u7 : Value} (N : w.heap.size ≤ R ∧ a1.block ≠ R ∧ a2.block ≠ R ∧ a3.block ≠ R ∧ a4.block ≠ R ∧ a5.block ≠ R ∧ a6.block ≠ R ∧ a7.block ≠ R) (h : LeadS w R a1 a2 a3 a4 a5 a6 a7 u1 u2 u3 u4 u5 u6 u7 X) : LeadS w R a1 a2 a3 a4 a5 a6 a7 u1 u2 u3 u4 u5 u6 u7 (X.setCell ⟨R, i, none⟩ u) := by
  obtain ⟨h0, c1, c2, c3, c4, c5, c6, c7⟩ := h
  obtain ⟨hR, n1, n2, n3, n4, n5, n6, n7⟩ := N
  have k := fun (a : Addr) (v : Value) (hn : a.block ≠ R) (c : X.cell? a = some v) => show (X.setCell ⟨R, i, none⟩ u).cell? a = some v from (World.cell?_of_block (Below.heap_setCell _ _ _ _ hn)).trans c
  exact ⟨h0.setCell (p := ⟨R, i, none⟩) hR u, k _ _ n1 c1, k _ _ n2 c2, k _ _ n3 c3, k _ _ n4 c4, k _ _ n5 c5, k _ _ n6 c6, k _ _ n7 c7⟩
set_option maxRecDepth 100000 in
set_option maxHeartbeats 2000000 in
theorem lead_pair (v : Value) (m : List (List Int)) (p q x : Nat) (w : World) (h : Rows w v m) (hv : validM m = true) (hp : p < m.length) (hq : q < m.length) (hx : x < letters m) :
    Calls Tryd.prog 67 #[.agg #[v], .agg #[.int .i64 p, .int .i64 q], .int .i64 x] w fun e w' => e = .returned (.agg #[.int .i64 ((canon (nx m p (x : Int)) (nx m q (x : Int))).1 : Nat), .int .i64 ((canon (nx m p (x : Int)) (nx m q (x : Int))).2 : Nat)]) ∧ Below w.heap.size w w' := by
  obtain ⟨p1, p2, p3, p4, p5⟩ := valid_parts hv
  obtain ⟨A, cap, rfl, hml, hcm⟩ := id h
  obtain ⟨b, off, r, hA, hcell, hrow⟩ := hcm p hp
  subst hA
  have hrl := (p5 p hp).1
  obtain ⟨Ar, capr, rfl, -, hcr⟩ := id hrow
  rw [hrl] at hcell
  obtain ⟨br, offr, hAr, hct⟩ := hcr x (by omega)
  subst hAr
  obtain ⟨hn1, hn⟩ := nx_ok hv (s := p) hp (x := (x : Int)) (by omega) (by omega)
  rw [Int.toNat_natCast] at hn
  rw [hn] at hct
  obtain ⟨b2, o2, r2, hA2, hcellq, hrowq⟩ := hcm q hq
  cases hA2
  have hrlq := (p5 q hq).1
  obtain ⟨Aq, capq, rfl, -, hcq⟩ := id hrowq
  rw [hrlq] at hcellq
  obtain ⟨bq, offq, hAq, hctq⟩ := hcq x (by omega)
  subst hAq
  obtain ⟨hq1, hqn⟩ := nx_ok hv (s := q) hq (x := (x : Int)) (by omega) (by omega)
  rw [Int.toNat_natCast] at hqn
  rw [hqn] at hctq
  clear hcr hrow hn hrl hcq hrowq hqn hrlq hcm p5
  generalize nx m p (x : Int) = d at *
  generalize nx m q (x : Int) = d' at *
  have hps : (p : Int) < m.length := by omega
  have hqs : (q : Int) < m.length := by omega
  have hxs : (x : Int) < letters m := by omega
  go_enter Tryd.func67, Tryd.ntmps67
  go_wp2_with fail
  have hX := bal (bal (bal (Below.refl _ w) (.cells #[.slice (some ⟨b, off, none⟩) m.length cap] 24)) (.cells #[.int .i64 p, .int .i64 q] 75)) (.cells #[.int .i64 0, .int .i64 0] 75)
  have c0 := (bal (bal (Below.refl _ _) (.cells #[.int .i64 p, .int .i64 q] 75)) (.cells #[.int .i64 0, .int .i64 0] 75)).cell (p := ⟨w.heap.size, 0, none⟩) (by simp) |>.trans (new_cell w #[.slice (some ⟨b, off, none⟩) m.length cap] 24 0 _ rfl)
  have c1 := (bal (Below.refl _ ((w.alloc (.cells #[.slice (some ⟨b, off, none⟩) m.length cap] 24)).alloc (.cells #[.int .i64 p, .int .i64 q] 75))) (.cells #[.int .i64 0, .int .i64 0] 75)).cell (p := ⟨w.heap.size + 1, 0, none⟩) (by simp) |>.trans (new_cell' (w.alloc (.cells #[.slice (some ⟨b, off, none⟩) m.length cap] 24)) #[.int .i64 p, .int .i64 q] 75 0 _ (by simp) rfl)
  have c2 := (bal (Below.refl _ ((w.alloc (.cells #[.slice (some ⟨b, off, none⟩) m.length cap] 24)).alloc (.cells #[.int .i64 p, .int .i64 q] 75))) (.cells #[.int .i64 0, .int .i64 0] 75)).cell (p := ⟨w.heap.size + 1, 1, none⟩) (by simp) |>.trans (new_cell' (w.alloc (.cells #[.slice (some ⟨b, off, none⟩) m.length cap] 24)) #[.int .i64 p, .int .i64 q] 75 1 _ (by simp) rfl)
  have c3 : (((w.alloc (.cells #[.slice (some ⟨b, off, none⟩) m.length cap] 24)).alloc (.cells #[.int .i64 p, .int .i64 q] 75)).alloc (.cells #[.int .i64 0, .int .i64 0] 75)).heap[w.heap.size + 1 + 1]? = some (.cells #[.int .i64 0, .int .i64 0] 75 (0, 0)) := by
    have := World.alloc_heap_new ((w.alloc (.cells #[.slice (some ⟨b, off, none⟩) m.length cap] 24)).alloc (.cells #[.int .i64 p, .int .i64 q] 75)) (.cells #[.int .i64 0, .int .i64 0] 75)
    rwa [World.size_alloc, World.size_alloc] at this
  generalize hWX : ((w.alloc (.cells #[.slice (some ⟨b, off, none⟩) m.length cap] 24)).alloc (.cells #[.int .i64 p, .int .i64 q] 75)).alloc (.cells #[.int .i64 0, .int .i64 0] 75) = X at *
  clear hWX
  have k1 := (hX.cell (p := ⟨b, off + p, none⟩) (World.block_lt_of_cell? _ _ hcell)).trans hcell
  have k2 := (hX.cell (p := ⟨b, off + q, none⟩) (World.block_lt_of_cell? _ _ hcellq)).trans hcellq
  have k3 := (hX.cell (p := ⟨br, offr + x, none⟩) (World.block_lt_of_cell? _ _ hct)).trans hct
  have k4 := (hX.cell (p := ⟨bq, offq + x, none⟩) (World.block_lt_of_cell? _ _ hctq)).trans hctq
  have HX := hid hX
  have l1 := World.block_lt_of_cell? _ _ hcell
  have l2 := World.block_lt_of_cell? _ _ hct
  have l3 := World.block_lt_of_cell? _ _ hctq
  simp only at l1 l2 l3
  have S0 : LeadS w (w.heap.size + 1 + 1) ⟨w.heap.size, 0, none⟩ ⟨w.heap.size + 1, 0, none⟩ ⟨w.heap.size + 1, 1, none⟩ ⟨b, off + p, none⟩ ⟨b, off + q, none⟩ ⟨br, offr + x, none⟩ ⟨bq, offq + x, none⟩ _ _ _ _ _ _ _ X := ⟨hX, c0, c1, c2, k1, k2, k3, k4⟩
  have keep := hid (fun (w' : World) (hb : Below X.heap.size X w') => held_lead S0 hb)
  have N := hid (show w.heap.size ≤ w.heap.size + 1 + 1 ∧ w.heap.size ≠ w.heap.size + 1 + 1 ∧ w.heap.size + 1 ≠ w.heap.size + 1 + 1 ∧ w.heap.size + 1 ≠ w.heap.size + 1 + 1 ∧ b ≠ w.heap.size + 1 + 1 ∧ b ≠ w.heap.size + 1 + 1 ∧ br ≠ w.heap.size + 1 + 1 ∧ bq ≠ w.heap.size + 1 + 1 by omega)
  have Hc3 := hid c3
  clear hcell hcellq hct hctq h hml hX S0 k1 k2 k3 k4 l1 l2 l3 c0 c1 c2 c3
  go_region_held3 (fun w' => Below w.heap.size w w' ∧ w'.cell? ⟨w.heap.size, 0, none⟩ = some (.slice (some ⟨b, off, none⟩) m.length cap) ∧ w'.cell? ⟨w.heap.size + 1, 0, none⟩ = some (.int .i64 p) ∧ w'.cell? ⟨w.heap.size + 1, 1, none⟩ = some (.int .i64 q) ∧ w'.cell? ⟨b, off + p, none⟩ = some (.slice (some ⟨br, offr, none⟩) (letters m) capr) ∧ w'.cell? ⟨b, off + q, none⟩ = some (.slice (some ⟨bq, offq, none⟩) (letters m) capq) ∧ w'.cell? ⟨br, offr + x, none⟩ = some (.int .i64 d) ∧ w'.cell? ⟨bq, offq + x, none⟩ = some (.int .i64 d')) (first | exact keep.out _ (below_dr X 1) | exact keep.out _ (by assumption) | exact held_lead_set (a1 := ⟨w.heap.size, 0, none⟩) (a2 := ⟨w.heap.size + 1, 0, none⟩) (a3 := ⟨w.heap.size + 1, 1, none⟩) (a4 := ⟨b, off + p, none⟩) (a5 := ⟨b, off + q, none⟩) (a6 := ⟨br, offr + x, none⟩) (a7 := ⟨bq, offq + x, none⟩) N.out (held_lead_set (a1 := ⟨w.heap.size, 0, none⟩) (a2 := ⟨w.heap.size + 1, 0, none⟩) (a3 := ⟨w.heap.size + 1, 1, none⟩) (a4 := ⟨b, off + p, none⟩) (a5 := ⟨b, off + q, none⟩) (a6 := ⟨br, offr + x, none⟩) (a7 := ⟨bq, offq + x, none⟩) N.out (by assumption)))
    (first | (go_at_call 78; go_must (refine (pairOf_any d d' _ (by omega) (by omega)).mono ?_; rintro e y1 ⟨rfl, hy1⟩; have g1 : Below X.heap.size X y1 := btr (by first | exact below_dr X 1 | exact Below.refl _ _ | assumption) hy1; obtain ⟨r1, r2, r3, r4⟩ := pair_block ((g1.block _ (Array.getElem?_eq_some_iff.1 Hc3.out).1).trans Hc3.out))))
  have e1 := pair_stored ((g1.block _ (Array.getElem?_eq_some_iff.1 Hc3.out).1).trans Hc3.out) (.int .i64 ((canon d d').1 : Nat)) (.int .i64 ((canon d d').2 : Nat))
  obtain ⟨r5, r6, -, -⟩ := pair_block e1
  clear e1
  have HB := hid (show Below w.heap.size w _ from (btr HX.out g1).setCell (p := ⟨w.heap.size + 1 + 1, 0, none⟩) (by show w.heap.size ≤ w.heap.size + 1 + 1; omega) (.int .i64 ((canon d d').1 : Nat)) |>.setCell (p := ⟨w.heap.size + 1 + 1, 1, none⟩) (by show w.heap.size ≤ w.heap.size + 1 + 1; omega) (.int .i64 ((canon d d').2 : Nat)))
  generalize (y1.setCell ⟨w.heap.size + 1 + 1, 0, none⟩ (.int .i64 ((canon d d').1 : Nat))).setCell ⟨w.heap.size + 1 + 1, 1, none⟩ (.int .i64 ((canon d d').2 : Nat)) = Y at *
  rename_i hh
  clear hh
  clear r1 r2 r3 r4 Hc3 keep N hy1 g1 HX
  go_wp2
  exact bodyPost_ret (v := .agg #[.int .i64 ((canon d d').1 : Nat), .int .i64 ((canon d d').2 : Nat)]) (by simp [results, Tryd.results67, go_sem, r5, r6]) rfl ⟨rfl, HB.out⟩
end Go.Proofs.YtphpablchlpagaaDoor
namespace Go.Proofs.YtphpablchlpagaaDoor
open Go.RowKit Go.Maps Go.WideAt
def heldR (v : Value) : Option (DataW Value × List MemPlace) := some (.held v, [])
/-- Block b is a map of at most n entries, c of them; the key l holds S l (z where there is none), and is there if T l. -/
def ValMap (w : World) (P : Program) (k : TypeId) (b n : Nat) (z : Value) (S : Lit → Value) (T : Lit → Bool) (c : Nat) : Prop :=
  ∃ D : DataW Value, w.ownsMap P k heldR b n D ∧ IsMap D ∧ Maps.size D = c ∧ ∀ l, D.atKey l (.held z) = .held (S l) ∧ Maps.has D l = T l
section
variable {w : World} {P : Program} {k : TypeId} {b n c : Nat} {z : Value} {S : Lit → Value} {T : Lit → Bool}
theorem ValMap.made (w : World) (P : Program) (k : TypeId) (z : Value) : ValMap (w.alloc (.map #[] 0)) P k w.heap.size 0 z (fun _ => z) (fun _ => false) 0 :=
  ⟨.map [], World.ownsMap_made w _ _ _, ⟨[], rfl⟩, rfl, fun l => ⟨rfl, rfl⟩⟩
theorem ValMap.look {t e : TypeId} (h : ValMap w P k b n z S T c) (K : Keyed P k) (ht : P.underlying t = some (.map k e)) (hz : (zeroValue e).run P w = .ok z w) {key : Value} {kl : Lit} (hkey : keyOf P k key = some kl) :
    (Instr.lookup t (.map (some b)) key false).run P w = .ok (S kl) w := by
  obtain ⟨D, hD, _, _, hS⟩ := h
  obtain ⟨v, ps, hrun, hv⟩ := hD.lookup K ht hz (rfl : heldR z = some (.held z, [])) hkey
  rw [(hS kl).1] at hv
  simp only [heldR, Option.some.injEq, Prod.mk.injEq, DataW.held.injEq] at hv
  rw [hrun, hv.1]
theorem ValMap.look_ok {t e : TypeId} (h : ValMap w P k b n z S T c) (K : Keyed P k) (ht : P.underlying t = some (.map k e)) (hz : (zeroValue e).run P w = .ok z w) {key : Value} {kl : Lit} (hkey : keyOf P k key = some kl) :
    (Instr.lookup t (.map (some b)) key true).run P w = .ok (.tuple #[S kl, .bool (T kl)]) w := by
  obtain ⟨D, hD, _, _, hS⟩ := h
  obtain ⟨v, ps, hrun, hv⟩ := hD.look_ok K ht hz (rfl : heldR z = some (.held z, [])) hkey
  rw [(hS kl).1] at hv
  simp only [heldR, Option.some.injEq, Prod.mk.injEq, DataW.held.injEq] at hv
  rw [hrun, hv.1, (hS kl).2]
open Classical in
theorem ValMap.put {t e : TypeId} (h : ValMap w P k b n z S T c) (K : Keyed P k) (ht : P.underlying t = some (.map k e)) (hn : n < maxLen) {key : Value} {kl : Lit} (hkey : keyOf P k key = some kl) (v : Value) :
    ∃ w', (Instr.mapUpdate t (.map (some b)) key v).run P w = .ok () w' ∧ ValMap w' P k b (n + 1) z (fun l => if l = kl then v else S l) (fun l => if l = kl then true else T l) (if T kl = true then c else c + 1) ∧ w.grownBy w' (some b) := by
  obtain ⟨D, hD, hM, hc, hS⟩ := h
  obtain ⟨w', hrun, h1, h2⟩ := hD.update K ht hn hkey (rfl : heldR v = some (.held v, []))
  refine ⟨w', hrun, ⟨_, h1, ?_, ?_, fun l => ?_⟩, h2⟩
  · obtain ⟨es, rfl⟩ := hM; exact ⟨_, rfl⟩
  · rw [size_put (hD.tidy K), hc, (hS kl).2]
  · by_cases e : l = kl
    · subst e
      rw [atKey_put_same hM (K.key hkey), has_put_same hM (K.key hkey)]
      simp
    · rw [atKey_put_other e, has_put_other e]
      simp only [if_neg e]
      exact hS l
theorem ValMap.kept {w' : World} (h : ValMap w P k b n z S T c) (hk : w'.heap[b]? = w.heap[b]?) : ValMap w' P k b n z S T c := by
  obtain ⟨D, ⟨es, clock, hb, F, hs, hD⟩, hM, hS⟩ := h
  exact ⟨D, ⟨es, clock, hk.trans hb, F, hs, hD⟩, hM, hS⟩
theorem ValMap.lt (h : ValMap w P k b n z S T c) : b < w.heap.size := by
  obtain ⟨D, hD, _⟩ := h; exact hD.lt
theorem ValMap.len {t e : TypeId} (h : ValMap w P k b n z S T c) (ht : P.underlying t = some (.map k e)) (ty : TypeId) : (Builtin.len_ #[t] ty #[.map (some b)]).run P w = .ok (.int .i64 c) w := by
  obtain ⟨D, hD, _, rfl, _⟩ := h
  exact hD.len ht ty
end
end Go.Proofs.YtphpablchlpagaaDoor
namespace Go.Proofs.YtphpablchlpagaaDoor
open Go.RowKit Go.Shelf Go.Maps Go.WideAt Go.WideMaps Go.WideElems
theorem arrPair : ArrKey Tryd.prog 75 3 2 := ⟨Tryd.underlying75, by kernel_rfl, by kernel_rfl, by kernel_rfl⟩
theorem lawPair : KeyLaw Tryd.prog 75 := arrPair.law
theorem keyPair : Keyed Tryd.prog 75 := Keyed.of_law lawPair
/-- A pair as a key. -/
def keyL (p q : Nat) : Lit := .string (keyBytes [.int .i64 p, .int .i64 q])
theorem keyOf_PV (p q : Nat) (hp : p < 1000000) (hq : q < 1000000) : keyOf Tryd.prog 75 (.agg #[.int .i64 p, .int .i64 q]) = some (keyL p q) :=
  keyOf_pair arrPair Tryd.underlying3 ⟨Tryd.prog.types.size - 1, by kernel_rfl⟩ (WalkArith.wf_i64 (by omega)) (WalkArith.wf_i64 (by omega))
theorem keyL_inj {p q p' q' : Nat} (hp : p < 1000000) (hq : q < 1000000) (hp' : p' < 1000000) (hq' : q' < 1000000) (h : keyL p q = keyL p' q') : p = p' ∧ q = q' := by
  have h1 := keyOf_PV p q hp hq
  rw [h] at h1
  have := keyPair.inj h1 (keyOf_PV p' q' hp' hq')
  simp only [Value.agg.injEq, Array.mk.injEq, List.cons.injEq, Value.int.injEq, and_true, true_and] at this
  omega
theorem zeroPairs (w : World) : (zeroValue 93).run Tryd.prog w = .ok (.slice none 0 0) w := by kernel_rfl
theorem zeroInt (w : World) : (zeroValue 3).run Tryd.prog w = .ok (.int .i64 0) w := by kernel_rfl
open Classical in
/-- The entry at a key, and the store that belongs to it. -/
theorem ValMap.entry {w : World} {P : Program} {k t e : TypeId} {b n c : Nat} {z : Value} {S : Lit → Value} {T : Lit → Bool} (h : ValMap w P k b n z S T c) (K : KeyLaw P k) (ht : P.underlying t = some (.map k e)) (hz : ∀ u : World, (zeroValue e).run P u = .ok z u) (hn : n < maxLen) {key : Value} {kl : Lit} (hkey : keyOf P k key = some kl) :
    ∃ st w1, (Instr.mapEntry t (.map (some b)) key).run P w = .ok (.tuple #[S kl, goInt st]) w1 ∧ w.grownBy w1 (some b) ∧ w1.heap.size = w.heap.size ∧
      ∀ (w2 : World) (v : Value), w2.heap[b]? = w1.heap[b]? → ∃ w3 c', (Instr.entryStore t (.map (some b)) (goInt st) v).run P w2 = .ok () w3 ∧ ValMap w3 P k b (n + 1) z (fun l => if l = kl then v else S l) (fun l => if l = kl then true else T l) c' ∧ w2.grownBy w3 (some b) := by
  have h0 := h
  obtain ⟨D, ⟨es, clock, hb, F, hs, rfl⟩, hM, hc, hS⟩ := h
  obtain ⟨v0, st, es1, clock1, hrun, hv0, hback⟩ := entry_then_store K ht hz hb F hkey
  have hv : v0 = S kl := by
    have hs1 := (hS kl).1
    rcases hv0 with ⟨e0, hm0, h3, rfl⟩ | ⟨hno, rfl⟩
    · have := atKey_some K F hkey hm0 h3 (rfl : heldR e0.val = some (.held e0.val, [])) (.held z)
      rw [this] at hs1
      simpa using hs1
    · have := atKey_none K F hkey hno (.held v0)
      rw [this] at hs1
      simpa using hs1
  subst hv
  refine ⟨st, _, hrun, ⟨rfl, rfl, rfl, by simp [Go.ChangeMaps.setBlock], fun i _ hi => Go.ChangeMaps.heap_setBlock_other hb _ (fun e => hi (by rw [e]))⟩, by simp [Go.ChangeMaps.setBlock], fun w2 v hw2 => ?_⟩
  have hb1 : (Go.ChangeMaps.setBlock w b (.map es1 clock1)).heap[b]? = some (.map es1 clock1) := Go.ChangeMaps.heap_setBlock_same hb _
  obtain ⟨es', clock', hr2, hr3⟩ := hback w2 v (hw2.trans hb1)
  obtain ⟨w', hp1, hp2, hp3⟩ := h0.put (Keyed.of_law K) ht hn hkey v
  rw [hr3] at hp1
  simp only [Result.ok.injEq, true_and] at hp1
  subst hp1
  have hb2 := hw2.trans hb1
  refine ⟨_, _, hr2, hp2.kept ?_, ⟨rfl, rfl, rfl, by simp [Go.ChangeMaps.setBlock], fun i _ hi => Go.ChangeMaps.heap_setBlock_other hb2 _ (fun e => hi (by rw [e]))⟩⟩
  rw [Go.ChangeMaps.heap_setBlock_same hb2, Go.ChangeMaps.heap_setBlock_same hb]
/-- A map of the call's own whose keys are pairs: V: what they hold (z where there is nothing), T: which are there, c: how many. -/
def PMap (w : World) (b n : Nat) (z : Value) (V : Nat → Nat → Value) (T : Nat → Nat → Bool) (c : Nat) : Prop :=
  ∃ S T', ValMap w Tryd.prog 75 b n z S T' c ∧ ∀ p q, p < 1000000 → q < 1000000 → S (keyL p q) = V p q ∧ T' (keyL p q) = T p q
section
variable {w : World} {b n c : Nat} {z : Value} {V : Nat → Nat → Value} {T : Nat → Nat → Bool}
theorem PMap.made (w : World) (z : Value) : PMap (w.alloc (.map #[] 0)) w.heap.size 0 z (fun _ _ => z) (fun _ _ => false) 0 :=
  ⟨_, _, ValMap.made w _ _ z, fun _ _ _ _ => ⟨rfl, rfl⟩⟩
theorem PMap.kept {w' : World} (h : PMap w b n z V T c) (hk : w'.heap[b]? = w.heap[b]?) : PMap w' b n z V T c := by
  obtain ⟨S, T', h1, h2⟩ := h
  exact ⟨S, T', h1.kept hk, h2⟩
theorem PMap.lt (h : PMap w b n z V T c) : b < w.heap.size := by
  obtain ⟨S, T', h1, h2⟩ := h; exact h1.lt
theorem PMap.below {w' : World} (h : PMap w b n z V T c) (hb : Below w.heap.size w w') : PMap w' b n z V T c := h.kept (hb.block b h.lt)
theorem PMap.congr {V' : Nat → Nat → Value} {T' : Nat → Nat → Bool} (h : PMap w b n z V T c) (h2 : ∀ p q, p < 1000000 → q < 1000000 → V p q = V' p q ∧ T p q = T' p q) : PMap w b n z V' T' c := by
  obtain ⟨S, T0, h1, h3⟩ := h
  exact ⟨S, T0, h1, fun p q hp hq => ⟨(h3 p q hp hq).1.trans (h2 p q hp hq).1, (h3 p q hp hq).2.trans (h2 p q hp hq).2⟩⟩
theorem PMap.look {t e : TypeId} (h : PMap w b n z V T c) (ht : Tryd.prog.underlying t = some (.map 75 e)) (hz : (zeroValue e).run Tryd.prog w = .ok z w) {p q : Nat} (hp : p < 1000000) (hq : q < 1000000) :
    (Instr.lookup t (.map (some b)) (.agg #[.int .i64 p, .int .i64 q]) false).run Tryd.prog w = .ok (V p q) w := by
  obtain ⟨S, T', h1, h2⟩ := h
  rw [h1.look keyPair ht hz (keyOf_PV p q hp hq), (h2 p q hp hq).1]
theorem PMap.look_ok {t e : TypeId} (h : PMap w b n z V T c) (ht : Tryd.prog.underlying t = some (.map 75 e)) (hz : (zeroValue e).run Tryd.prog w = .ok z w) {p q : Nat} (hp : p < 1000000) (hq : q < 1000000) :
    (Instr.lookup t (.map (some b)) (.agg #[.int .i64 p, .int .i64 q]) true).run Tryd.prog w = .ok (.tuple #[V p q, .bool (T p q)]) w := by
  obtain ⟨S, T', h1, h2⟩ := h
  rw [h1.look_ok keyPair ht hz (keyOf_PV p q hp hq), (h2 p q hp hq).1, (h2 p q hp hq).2]
theorem PMap.len {t e : TypeId} (h : PMap w b n z V T c) (ht : Tryd.prog.underlying t = some (.map 75 e)) (ty : TypeId) : (Builtin.len_ #[t] ty #[.map (some b)]).run Tryd.prog w = .ok (.int .i64 c) w := by
  obtain ⟨S, T', h1, h2⟩ := h
  exact h1.len ht ty
open Classical in
theorem keyL_upd {α : Type} {S : Lit → α} {V : Nat → Nat → α} {p q : Nat} (hp : p < 1000000) (hq : q < 1000000) (v : α) (h : ∀ a b, a < 1000000 → b < 1000000 → S (keyL a b) = V a b) {a b : Nat} (ha : a < 1000000) (hb : b < 1000000) :
    (if keyL a b = keyL p q then v else S (keyL a b)) = if a = p ∧ b = q then v else V a b := by
  by_cases e : a = p ∧ b = q
  · rw [if_pos e, if_pos (by rw [e.1, e.2])]
  · rw [if_neg e, if_neg (fun h => e (keyL_inj ha hb hp hq h))]
    exact h a b ha hb
theorem PMap.put {t e : TypeId} (h : PMap w b n z V T c) (ht : Tryd.prog.underlying t = some (.map 75 e)) (hn : n < maxLen) {p q : Nat} (hp : p < 1000000) (hq : q < 1000000) (v : Value) :
    ∃ w', (Instr.mapUpdate t (.map (some b)) (.agg #[.int .i64 p, .int .i64 q]) v).run Tryd.prog w = .ok () w' ∧ PMap w' b (n + 1) z (fun a d => if a = p ∧ d = q then v else V a d) (fun a d => if a = p ∧ d = q then true else T a d) (if T p q = true then c else c + 1) ∧ w.grownBy w' (some b) := by
  obtain ⟨S, T', h1, h2⟩ := h
  obtain ⟨w', g1, g2, g3⟩ := h1.put keyPair ht hn (keyOf_PV p q hp hq) v
  rw [(h2 p q hp hq).2] at g2
  exact ⟨w', g1, ⟨_, _, g2, fun a d ha hd => ⟨keyL_upd hp hq v (fun a b ha hb => (h2 a b ha hb).1) ha hd, keyL_upd hp hq true (fun a b ha hb => (h2 a b ha hb).2) ha hd⟩⟩, g3⟩
theorem PMap.entry {t e : TypeId} (h : PMap w b n z V T c) (ht : Tryd.prog.underlying t = some (.map 75 e)) (hz : ∀ u : World, (zeroValue e).run Tryd.prog u = .ok z u) (hn : n < maxLen) {p q : Nat} (hp : p < 1000000) (hq : q < 1000000) :
    ∃ st w1, (Instr.mapEntry t (.map (some b)) (.agg #[.int .i64 p, .int .i64 q])).run Tryd.prog w = .ok (.tuple #[V p q, goInt st]) w1 ∧ w.grownBy w1 (some b) ∧ w1.heap.size = w.heap.size ∧
      ∀ (w2 : World) (v : Value), w2.heap[b]? = w1.heap[b]? → ∃ w3 c', (Instr.entryStore t (.map (some b)) (goInt st) v).run Tryd.prog w2 = .ok () w3 ∧
        PMap w3 b (n + 1) z (fun a d => if a = p ∧ d = q then v else V a d) (fun a d => if a = p ∧ d = q then true else T a d) c' ∧ w2.grownBy w3 (some b) := by
  obtain ⟨S, T', h1, h2⟩ := h
  obtain ⟨st, w1, g1, g2, g3, g4⟩ := h1.entry lawPair ht hz hn (keyOf_PV p q hp hq)
  rw [(h2 p q hp hq).1] at g1
  refine ⟨st, w1, g1, g2, g3, fun w2 v hw2 => ?_⟩
  obtain ⟨w3, c', k1, k2, k3⟩ := g4 w2 v hw2
  exact ⟨w3, c', k1, ⟨_, _, k2, fun a d ha hd => ⟨keyL_upd hp hq v (fun a b ha hb => (h2 a b ha hb).1) ha hd, keyL_upd hp hq true (fun a b ha hb => (h2 a b ha hb).2) ha hd⟩⟩, k3⟩
end
/-- The cells of a list of pairs. -/
def pairCells (L : List (Nat × Nat)) : List Value := L.flatMap fun e => [.int .i64 (e.1 : Nat), .int .i64 (e.2 : Nat)]
theorem pairCells_snoc (L : List (Nat × Nat)) (p q : Nat) : pairCells (L ++ [(p, q)]) = pairCells L ++ [.int .i64 p, .int .i64 q] := by
  unfold pairCells
  rw [List.flatMap_append]
  simp
theorem pairCells_get : ∀ (L : List (Nat × Nat)) (i : Nat) (e : Nat × Nat), L[i]? = some e → (pairCells L)[i * 2]? = some (.int .i64 (e.1 : Nat)) ∧ (pairCells L)[i * 2 + 1]? = some (.int .i64 (e.2 : Nat))
  | [], i, e, h => by simp at h
  | f :: L, 0, e, h => by
    simp at h
    subst h
    exact ⟨rfl, rfl⟩
  | f :: L, i + 1, e, h => by
    have := pairCells_get L i e (by simpa using h)
    unfold pairCells at this ⊢
    rw [List.flatMap_cons, show (i + 1) * 2 = i * 2 + 1 + 1 by omega]
    exact this
/-- A slice of pairs of the call's own. -/
def PRow (w : World) (n₀ : Nat) (v : Value) (L : List (Nat × Nat)) : Prop := w.ownsRow n₀ 75 2 v L.length (pairCells L)
theorem PRow.cell {w : World} {n₀ g cap l : Nat} {L : List (Nat × Nat)} (h : PRow w n₀ (.slice (some ⟨g, 0, none⟩) l cap) L) {i : Nat} {e : Nat × Nat} (he : L[i]? = some e) :
    w.cell? ⟨g, i * 2, none⟩ = some (.int .i64 (e.1 : Nat)) ∧ w.cell? ⟨g, i * 2 + 1, none⟩ = some (.int .i64 (e.2 : Nat)) := by
  obtain ⟨h1, h2⟩ := pairCells_get L i e he
  have k := World.ownsRow.cells h (g := g) rfl
  have a1 := k _ _ h1
  have a2 := k _ _ h2
  simp only [Addr.add] at a1 a2
  refine ⟨?_, ?_⟩
  · by_cases e : i * 2 = 0
    · rw [e] at a1 ⊢; simpa using a1
    · simpa [e] using a1
  · simpa using a2
/-- The slices of pairs, one for each key, each in a block of its own. -/
structure Grp (w : World) (n₀ b N : Nat) (V : Nat → Nat → Value) (L : Nat → Nat → List (Nat × Nat)) : Prop where
  map : ∃ T c, PMap w b N (.slice none 0 0) V T c
  rows : ∀ i j, PRow w n₀ (V i j) (L i j)
  apart : ∀ i j i' j' k, (V i j).ownBlock = some k → (V i' j').ownBlock = some k → i = i' ∧ j = j'
  off : ∀ i j, (V i j).ownBlock ≠ some b
theorem Grp.made (w : World) (n₀ : Nat) : Grp (w.alloc (.map #[] 0)) n₀ w.heap.size 0 (fun _ _ => .slice none 0 0) (fun _ _ => []) :=
  ⟨⟨_, _, PMap.made w _⟩, fun _ _ => World.ownsRow_nil _ _ _ _, fun _ _ _ _ _ h => by simp [Value.ownBlock] at h, fun _ _ h => by simp [Value.ownBlock] at h⟩
theorem Grp.below {w w' : World} {n₀ b N : Nat} {V : Nat → Nat → Value} {L : Nat → Nat → List (Nat × Nat)} (h : Grp w n₀ b N V L) (hb : Below w.heap.size w w') : Grp w' n₀ b N V L := by
  obtain ⟨T, c, hm⟩ := h.map
  exact ⟨⟨T, c, hm.below hb⟩, fun i j => ownsRow_same (h.rows i j) fun g hg => hb.block g ((h.rows i j).lt g hg).2, h.apart, h.off⟩
end Go.Proofs.YtphpablchlpagaaDoor
namespace Go.Proofs.YtphpablchlpagaaDoor
open Go.RowKit Go.Shelf
theorem mlen_canon {m : List (List Int)} (hv : validM m = true) {p q : Nat} (hp : p < m.length) (hq : q < m.length) : mlen m (canon p q).1 (canon p q).2 = mlen m p q := by
  rcases canon_cases p q with ⟨_, e⟩ | ⟨_, e⟩ <;> rw [e]
  exact mlen_symm hv hq hp
theorem mW_canon {m : List (List Int)} (hv : validM m = true) {p q j : Nat} (hp : p < m.length) (hq : q < m.length) (h : mdist m p q j) : mW m j (canon p q).1 (canon p q).2 = mW m j p q := by
  rcases canon_cases p q with ⟨_, e⟩ | ⟨_, e⟩ <;> rw [e]
  exact (mW_symm hv j p q hp hq h).symm
/-- All pairs of states, the first not greater. -/
def allPairs (n : Nat) : List (Nat × Nat) := (List.range n).flatMap fun q => (List.range (q + 1)).map fun p => (p, q)
theorem allPairs_mem {n : Nat} {k : Nat × Nat} : k ∈ allPairs n ↔ k.1 ≤ k.2 ∧ k.2 < n := by
  unfold allPairs
  simp only [List.mem_flatMap, List.mem_map, List.mem_range]
  constructor
  · rintro ⟨q, hq, p, hp, rfl⟩; exact ⟨by simp only; omega, hq⟩
  · rintro ⟨h1, h2⟩; exact ⟨k.2, h2, k.1, by omega, rfl⟩
theorem allPairs_succ (n : Nat) : allPairs (n + 1) = allPairs n ++ (List.range (n + 1)).map fun p => (p, n) := by
  unfold allPairs
  rw [List.range_succ, List.flatMap_append]
  simp [List.range_succ]
theorem allPairs_len : ∀ n, 2 * (allPairs n).length = n * (n + 1)
  | 0 => rfl
  | n + 1 => by
    rw [allPairs_succ, List.length_append, List.length_map, List.length_range, Nat.mul_add, allPairs_len n]
    grind
theorem allPairs_nodup : ∀ n, (allPairs n).Nodup
  | 0 => by simp [allPairs]
  | n + 1 => by
    rw [allPairs_succ, List.nodup_append]
    refine ⟨allPairs_nodup n, ?_, ?_⟩
    · unfold List.Nodup
      rw [List.pairwise_map]
      refine List.Pairwise.imp (fun {a b} hlt e => ?_) List.pairwise_lt_range
      have := congrArg Prod.fst e
      simp only at this
      omega
    · rintro a ha b hb rfl
      have h1 := allPairs_mem.1 ha
      obtain ⟨p, _, rfl⟩ := List.mem_map.1 hb
      exact absurd h1.2 (Nat.lt_irrefl _)
theorem nodup_sub {K : Type} [DecidableEq K] : ∀ {A B : List K}, A.Nodup → (∀ x ∈ A, x ∈ B) → A.length ≤ B.length
  | [], _, _, _ => Nat.zero_le _
  | x :: A, B, hA, h => by
    have hx := h x (by simp)
    have h1 := List.nodup_cons.1 hA
    have := nodup_sub (B := B.erase x) h1.2 fun y hy => (List.mem_erase_of_ne fun e => by subst e; exact h1.1 hy).2 (h y (by simp [hy]))
    rw [List.length_erase_of_mem hx] at this
    have := List.length_pos_of_mem hx
    simp only [List.length_cons]
    omega
/-- The search has found n(n + 1)/2 pairs if and only if each pair is merged. -/
theorem MB.count {m : List (List Int)} {F : List (Nat × Nat × Nat)} (hv : validM m = true) (h : MB m F F.length) : m.length * (m.length + 1) ≤ 2 * F.length ↔ ∀ p q, p < q → q < m.length → ∃ k, mergeP m p q k := by
  have hF : F.length = (F.map fun e => (e.1, e.2.1)).length := by simp
  have hsub : ∀ x ∈ (F.map fun e => (e.1, e.2.1)), x ∈ allPairs m.length := fun x hx => by
    obtain ⟨e, he, rfl⟩ := List.mem_map.1 hx
    exact allPairs_mem.2 ⟨(h.ok e he).1, (h.ok e he).2.1⟩
  have hl := allPairs_len m.length
  constructor
  · intro hc p q hpq hq
    apply Classical.byContradiction
    intro hno
    have hni : (p, q) ∉ (F.map fun e => (e.1, e.2.1)) := fun hm => by
      obtain ⟨e, he, hee⟩ := List.mem_map.1 hm
      simp only [Prod.mk.injEq] at hee
      have := (h.ok e he).2.2.1
      rw [hee.1, hee.2] at this
      exact hno ⟨_, this⟩
    have hle := nodup_sub (A := (p, q) :: (F.map fun e => (e.1, e.2.1))) (B := allPairs m.length) (List.nodup_cons.2 ⟨hni, h.uniq⟩) (fun x hx => by
      rcases List.mem_cons.1 hx with rfl | hx
      · exact allPairs_mem.2 ⟨by simp only; omega, hq⟩
      · exact hsub x hx)
    rw [List.length_cons, ← hF] at hle
    omega
  · intro hall
    have hle := nodup_sub (A := allPairs m.length) (B := (F.map fun e => (e.1, e.2.1))) (allPairs_nodup _) (fun x hx => by
      have hx' := allPairs_mem.1 hx
      rcases Nat.lt_or_ge x.1 x.2 with hlt | hge
      · obtain ⟨k, hk⟩ := hall x.1 x.2 hlt hx'.2
        obtain ⟨j, _, hd⟩ := mdist_some hk
        exact List.mem_map.2 ⟨_, h.all hv hx'.1 hx'.2 hd, rfl⟩
      · exact List.mem_map.2 ⟨_, h.diag x.1 (by omega), by simp only; exact Prod.ext rfl (by simp only; omega)⟩)
    rw [← hF] at hle
    omega
end Go.Proofs.YtphpablchlpagaaDoor
namespace Go.Proofs.YtphpablchlpagaaDoor
open Go.RowKit Go.Shelf
/-- Behind an entry, an append to its slice and the store of what came. -/
theorem Grp.step {W W1 w' w3 : World} {n₀ b N i j p q c' : Nat} {V : Nat → Nat → Value} {L : Nat → Nat → List (Nat × Nat)} {T : Nat → Nat → Bool} {v' : Value} (h : Grp W n₀ b N V L) (h1 : W.grownBy W1 (some b)) (hs1 : W1.heap.size = W.heap.size)
    (ho : w'.ownsRow n₀ 75 2 v' ((L i j).length + 1) (pairCells (L i j) ++ [.int .i64 p, .int .i64 q])) (h2 : W1.grownBy w' (V i j).ownBlock) (hat : v'.ownBlock = (V i j).ownBlock ∨ v'.ownBlock = some W1.heap.size)
    (hm : PMap w3 b (N + 1) (.slice none 0 0) (fun a d => if a = i ∧ d = j then v' else V a d) T c') (h3 : w'.grownBy w3 (some b)) :
    Grp w3 n₀ b (N + 1) (fun a d => if a = i ∧ d = j then v' else V a d) (fun a d => if a = i ∧ d = j then L i j ++ [(p, q)] else L a d) := by
  obtain ⟨T0, c0, hm0⟩ := h.map
  have hbl := hm0.lt
  have hvb : v'.ownBlock ≠ some b := by
    rcases hat with e | e
    · rw [e]; exact h.off i j
    · rw [e]; intro e2; simp at e2; omega
  have hold : ∀ a d k, (V a d).ownBlock = some k → k < W.heap.size := fun a d k hk => ((h.rows a d).lt k hk).2
  refine ⟨⟨_, _, hm⟩, fun a d => ?_, fun a d a' d' k e1 e2 => ?_, fun a d => ?_⟩
  · by_cases e : a = i ∧ d = j
    · simp only [if_pos e]
      unfold PRow
      rw [List.length_append, pairCells_snoc]
      exact ho.kept h3 (.inr hvb)
    · simp only [if_neg e]
      refine ownsRow_same (h.rows a d) fun g hg => ?_
      have hgl := hold a d g hg
      have hgb : g ≠ b := fun e2 => h.off a d (e2 ▸ hg)
      have hgv : some g ≠ (V i j).ownBlock := fun e2 => e (h.apart a d i j g hg e2.symm)
      have z1 := h1.block g hgl (by simpa using hgb)
      have z2 := h2.block g (by omega) hgv
      have z3 := h3.block g (Nat.lt_of_lt_of_le (by omega) h2.size) (by simpa using hgb)
      exact z3.trans (z2.trans z1)
  · by_cases x1 : a = i ∧ d = j <;> by_cases x2 : a' = i ∧ d' = j
    · exact ⟨x1.1.trans x2.1.symm, x1.2.trans x2.2.symm⟩
    · simp only [if_pos x1, if_neg x2] at e1 e2
      rcases hat with e | e
      · rw [e] at e1
        obtain ⟨y1, y2⟩ := h.apart _ _ _ _ _ e1 e2
        exact absurd ⟨y1.symm, y2.symm⟩ x2
      · rw [e] at e1
        have := hold _ _ _ e2
        simp at e1
        omega
    · simp only [if_neg x1, if_pos x2] at e1 e2
      rcases hat with e | e
      · rw [e] at e2
        obtain ⟨y1, y2⟩ := h.apart _ _ _ _ _ e1 e2
        exact absurd ⟨y1, y2⟩ x1
      · rw [e] at e2
        have := hold _ _ _ e1
        simp at e2
        omega
    · simp only [if_neg x1, if_neg x2] at e1 e2
      exact h.apart _ _ _ _ _ e1 e2
  · by_cases e : a = i ∧ d = j
    · simp only [if_pos e]; exact hvb
    · simp only [if_neg e]; exact h.off a d
/-- .. and the rest lies as it lay. -/
theorem Grp.turned {w W W1 w' w3 : World} {n₀ b N i j : Nat} {V : Nat → Nat → Value} {L : Nat → Nat → List (Nat × Nat)} (h : Grp W n₀ b N V L) (hn : n₀ = w.heap.size + 1) (hb : w.heap.size < b) (hB : Below w.heap.size w W) (h1 : W.grownBy W1 (some b)) (h2 : W1.grownBy w' (V i j).ownBlock) (h3 : w'.grownBy w3 (some b)) :
    Below w.heap.size w w3 ∧ w3.heap.size ≥ W.heap.size ∧ ∀ u, W.cell? ⟨w.heap.size, 0, none⟩ = some u → w3.cell? ⟨w.heap.size, 0, none⟩ = some u := by
  have hlt := fun k hk => ((h.rows i j).lt k hk).1
  have s1 := h1.size
  have s2 := h2.size
  have s3 := h3.size
  have s0 := hB.size
  refine ⟨((hB.grown h1 (by omega) (fun q hq => by cases hq; omega)).grown h2 (by omega) (fun q hq => by have := hlt q hq; omega)).grown h3 (by omega) (fun q hq => by cases hq; omega), by omega, fun u hu => ?_⟩
  refine h3.cell (h2.cell (h1.cell hu ?_) (fun e => ?_)) ?_
  · simp; omega
  · have := hlt _ e.symm; simp at this; omega
  · simp; omega
/-- The pair (p', q') with the letter x' was looked at before (p, q) with x. -/
def doneL (m : List (List Int)) (p q x p' q' x' : Nat) : Prop := p' < q' ∧ q' < m.length ∧ x' < letters m ∧ (p' < p ∨ (p' = p ∧ (q' < q ∨ (q' = q ∧ x' < x))))
def LB (m : List (List Int)) (p q x : Nat) (L : Nat → Nat → List (Nat × Nat)) : Prop :=
  ∀ i j e, e ∈ L i j ↔ ∃ x', doneL m p q x e.1 e.2 x' ∧ canon (nx m e.1 (x' : Int)) (nx m e.2 (x' : Int)) = (i, j)
theorem LB.start (m : List (List Int)) : LB m 0 1 0 (fun _ _ => []) := fun i j e => by
  simp only [List.not_mem_nil, false_iff]
  rintro ⟨x', ⟨h1, _, _, h2⟩, _⟩
  omega
theorem LB.same {m : List (List Int)} {p q x p2 q2 x2 : Nat} {L : Nat → Nat → List (Nat × Nat)} (h : LB m p q x L) (hd : ∀ p' q' x', doneL m p q x p' q' x' ↔ doneL m p2 q2 x2 p' q' x') : LB m p2 q2 x2 L := fun i j e => by
  rw [h i j e]
  exact exists_congr fun x' => and_congr_left fun _ => hd _ _ _
theorem LB.nextq {m : List (List Int)} {p q : Nat} {L : Nat → Nat → List (Nat × Nat)} (h : LB m p q (letters m) L) : LB m p (q + 1) 0 L := h.same fun p' q' x' => by unfold doneL; omega
theorem LB.nextp {m : List (List Int)} {p : Nat} {L : Nat → Nat → List (Nat × Nat)} (h : LB m p m.length 0 L) : LB m (p + 1) (p + 1 + 1) 0 L := h.same fun p' q' x' => by unfold doneL; omega
theorem LB.add {m : List (List Int)} {p q x i j : Nat} {L : Nat → Nat → List (Nat × Nat)} (h : LB m p q x L) (hpq : p < q) (hq : q < m.length) (hx : x < letters m) (hc : canon (nx m p (x : Int)) (nx m q (x : Int)) = (i, j)) :
    LB m p q (x + 1) (fun a d => if a = i ∧ d = j then L i j ++ [(p, q)] else L a d) := fun a d e => by
  have hsplit : (∃ x', doneL m p q (x + 1) e.1 e.2 x' ∧ canon (nx m e.1 (x' : Int)) (nx m e.2 (x' : Int)) = (a, d)) ↔ (e ∈ L a d ∨ (e = (p, q) ∧ (i, j) = (a, d))) := by
    rw [h a d e]
    constructor
    · rintro ⟨x', h1, h2⟩
      by_cases e1 : e.1 = p ∧ e.2 = q ∧ x' = x
      · obtain ⟨e2, e3, rfl⟩ := e1
        rw [e2, e3, hc] at h2
        exact .inr ⟨Prod.ext e2 e3, h2⟩
      · exact .inl ⟨x', by unfold doneL at h1 ⊢; omega, h2⟩
    · rintro (⟨x', h1, h2⟩ | ⟨rfl, h2⟩)
      · exact ⟨x', by unfold doneL at h1 ⊢; omega, h2⟩
      · exact ⟨x, ⟨hpq, hq, hx, .inr ⟨rfl, .inr ⟨rfl, Nat.lt_succ_self _⟩⟩⟩, by simp only; rw [hc, h2]⟩
  rw [hsplit]
  by_cases e1 : a = i ∧ d = j
  · simp only [if_pos e1]
    obtain ⟨rfl, rfl⟩ := e1
    simp
  · simp only [if_neg e1, Prod.mk.injEq]
    constructor
    · exact .inl
    · rintro (h | ⟨_, h1, h2⟩)
      · exact h
      · exact absurd ⟨h1.symm, h2.symm⟩ e1
theorem LB.done {m : List (List Int)} {q : Nat} {L : Nat → Nat → List (Nat × Nat)} (h : LB m m.length q 0 L) (i j : Nat) (e : Nat × Nat) : e ∈ L i j ↔ e.1 < e.2 ∧ e.2 < m.length ∧ ∃ x', x' < letters m ∧ canon (nx m e.1 (x' : Int)) (nx m e.2 (x' : Int)) = (i, j) := by
  rw [h i j e]
  constructor
  · rintro ⟨x', ⟨a1, a2, a3, a4⟩, h2⟩
    exact ⟨a1, a2, x', a3, h2⟩
  · rintro ⟨a1, a2, x', a3, h2⟩
    exact ⟨x', ⟨a1, a2, a3, by omega⟩, h2⟩
/-- No list is longer than the number of rounds. -/
theorem upd_len {L : Nat → Nat → List (Nat × Nat)} {N i j : Nat} {e : Nat × Nat} (h : ∀ a d, (L a d).length ≤ N) : ∀ a d, (if a = i ∧ d = j then L i j ++ [e] else L a d).length ≤ N + 1 := fun a d => by
  by_cases e1 : a = i ∧ d = j
  · rw [if_pos e1, List.length_append]; have := h i j; simp; omega
  · rw [if_neg e1]; have := h a d; omega
/-- The length that was found for a pair (0: none), and whether one was. -/
def lenIn (F : List (Nat × Nat × Nat)) (p q : Nat) : Nat := match F.find? (fun e => e.1 == p && e.2.1 == q) with
  | some e => e.2.2
  | none => 0
def inF (F : List (Nat × Nat × Nat)) (p q : Nat) : Bool := F.any fun e => e.1 == p && e.2.1 == q
theorem inF_iff {F : List (Nat × Nat × Nat)} {p q : Nat} : inF F p q = true ↔ ∃ l, (p, q, l) ∈ F := by
  unfold inF
  rw [List.any_eq_true]
  constructor
  · rintro ⟨e, he, h⟩
    simp only [Bool.and_eq_true, beq_iff_eq] at h
    exact ⟨e.2.2, by rw [← h.1, ← h.2]; exact he⟩
  · rintro ⟨l, h⟩
    exact ⟨_, h, by simp⟩
theorem inF_false {F : List (Nat × Nat × Nat)} {p q : Nat} (h : inF F p q = false) (l : Nat) : (p, q, l) ∉ F := fun hm => by
  rw [inF_iff.2 ⟨l, hm⟩] at h
  cases h
theorem lenIn_snoc {F : List (Nat × Nat × Nat)} {p q l : Nat} (h : inF F p q = false) (a d : Nat) : lenIn (F ++ [(p, q, l)]) a d = if a = p ∧ d = q then l else lenIn F a d := by
  unfold lenIn
  rw [List.find?_append]
  by_cases e : a = p ∧ d = q
  · obtain ⟨rfl, rfl⟩ := e
    have : F.find? (fun e => e.1 == a && e.2.1 == d) = none := by
      rw [List.find?_eq_none]
      intro x hx
      unfold inF at h
      simpa using List.any_eq_false.1 h x hx
    rw [this]
    simp
  · rw [if_neg e]
    cases hf : F.find? (fun e => e.1 == a && e.2.1 == d) with
    | some x => simp
    | none =>
      have : ((p == a) && (q == d)) = false := by
        rw [Bool.eq_false_iff]
        simp
        intro h1 h2
        exact e ⟨h1.symm, h2.symm⟩
      simp [this]
theorem inF_snoc (F : List (Nat × Nat × Nat)) (p q l : Nat) (a d : Nat) : inF (F ++ [(p, q, l)]) a d = if a = p ∧ d = q then true else inF F a d := by
  unfold inF
  rw [List.any_append]
  by_cases e : a = p ∧ d = q
  · obtain ⟨rfl, rfl⟩ := e
    simp
  · rw [if_neg e]
    have : ((p == a) && (q == d)) = false := by
      rw [Bool.eq_false_iff]
      simp
      intro h1 h2
      exact e ⟨h1.symm, h2.symm⟩
    simp [this]
theorem lenIn_mem {m : List (List Int)} {F : List (Nat × Nat × Nat)} {i : Nat} (h : MB m F i) {p q l : Nat} (hm : (p, q, l) ∈ F) : lenIn F p q = l := by
  unfold lenIn
  cases hf : F.find? (fun e => e.1 == p && e.2.1 == q) with
  | none =>
    have := List.find?_eq_none.1 hf _ hm
    simp at this
  | some e =>
    have h1 := List.find?_some hf
    have h2 := List.mem_of_find?_eq_some hf
    simp only [Bool.and_eq_true, beq_iff_eq] at h1
    have a1 := (h.ok _ h2).2.2
    rw [h1.1, h1.2] at a1
    exact mdist_unique a1 (h.ok _ hm).2.2
/-- The program's map of lengths. -/
def LMap (w : World) (B : Nat) (F : List (Nat × Nat × Nat)) : Prop := PMap w B F.length (.int .i64 0) (fun p q => .int .i64 (lenIn F p q : Nat)) (inF F) F.length
theorem LMap.made (w : World) : LMap (w.alloc (.map #[] 0)) w.heap.size [] := (PMap.made w (.int .i64 0)).congr fun p q _ _ => ⟨rfl, rfl⟩
theorem LMap.put {w : World} {B : Nat} {F : List (Nat × Nat × Nat)} (h : LMap w B F) (hn : F.length < 1000000) {p q : Nat} (hp : p < 1000000) (hq : q < 1000000) (l : Nat) (hno : inF F p q = false) :
    ∃ w', (Instr.mapUpdate 69 (.map (some B)) (.agg #[.int .i64 p, .int .i64 q]) (.int .i64 l)).run Tryd.prog w = .ok () w' ∧ LMap w' B (F ++ [(p, q, l)]) ∧ w.grownBy w' (some B) := by
  obtain ⟨w', h1, h2, h3⟩ := PMap.put h Tryd.underlying69 (by unfold maxLen; omega) hp hq (.int .i64 l)
  refine ⟨w', h1, ?_, h3⟩
  rw [hno] at h2
  unfold LMap
  rw [List.length_append, List.length_singleton]
  refine PMap.congr (by simpa using h2) fun a d _ _ => ⟨?_, (inF_snoc F p q l a d).symm⟩
  simp only [lenIn_snoc hno]
  split <;> rfl
theorem inF_diag (s : Nat) : inF (diag0 s) s s = false := by
  unfold inF diag0
  rw [List.any_eq_false]
  intro e he
  obtain ⟨t, ht, rfl⟩ := List.mem_map.1 he
  have := List.mem_range.1 ht
  simp
  omega
theorem diag0_succ (s : Nat) : diag0 (s + 1) = diag0 s ++ [(s, s, 0)] := by unfold diag0; rw [List.range_succ, List.map_append]; rfl
theorem diag0_len (s : Nat) : (diag0 s).length = s := by simp [diag0]
/-- The length of a shortest word that merges two states; 0: there is none. -/
def len0 (m : List (List Int)) (p q : Nat) : Int := if 0 ≤ mlen m p q then mlen m p q else 0
/-- What the search hands back. -/
def LenMap (m : List (List Int)) (w : World) (B : Nat) : Prop :=
  ∃ n V T c, PMap w B n (.int .i64 0) V T c ∧ (∀ p q, p ≤ q → q < m.length → V p q = .int .i64 (len0 m p q) ∧ T p q = decide (0 ≤ mlen m p q)) ∧
    (m.length * (m.length + 1) ≤ 2 * c ↔ ∀ p q, p < q → q < m.length → ∃ k, mergeP m p q k) ∧ c ≤ 3600
theorem LenMap.below {m : List (List Int)} {w w' : World} {B : Nat} (h : LenMap m w B) (hb : Below w.heap.size w w') : LenMap m w' B := by
  obtain ⟨n, V, T, c, h1, h2⟩ := h
  exact ⟨n, V, T, c, h1.below hb, h2⟩
theorem LMap.done {m : List (List Int)} {w : World} {B : Nat} {F : List (Nat × Nat × Nat)} (hv : validM m = true) (hm : m.length ≤ 60) (h : LMap w B F) (hM : MB m F F.length) : LenMap m w B := by
  refine ⟨_, _, _, _, h, fun p q hpq hq => ?_, hM.count hv, ?_⟩
  · rcases mlen_spec hv (p := p) (q := q) (by omega) hq with ⟨h1, h2⟩ | ⟨j, h1, h2, h3⟩
    · have hno : ∀ l, (p, q, l) ∉ F := fun l hm => h2 l (hM.ok _ hm).2.2.1
      have hf : inF F p q = false := by
        rw [Bool.eq_false_iff]
        intro e
        obtain ⟨l, hl⟩ := inF_iff.1 e
        exact hno l hl
      have hl : lenIn F p q = 0 := by
        unfold lenIn
        cases hf2 : F.find? (fun e => e.1 == p && e.2.1 == q) with
        | none => rfl
        | some e =>
          have h1 := List.find?_some hf2
          have h2 := List.mem_of_find?_eq_some hf2
          simp only [Bool.and_eq_true, beq_iff_eq] at h1
          exact absurd h2 (by rw [show e = (p, q, e.2.2) from by rw [← h1.1, ← h1.2]]; exact hno _)
      refine ⟨?_, ?_⟩
      · rw [hl, len0, if_neg (by omega)]; rfl
      · rw [hf, h1]; rfl
    · have hmem := hM.all hv hpq hq h3
      refine ⟨?_, ?_⟩
      · rw [lenIn_mem hM hmem, len0, if_pos (by omega), h2]
      · rw [inF_iff.2 ⟨j, hmem⟩, h2]
        exact (decide_eq_true (by omega)).symm
  · have := hM.len
    have h2 : m.length * m.length ≤ 60 * 60 := Nat.mul_le_mul hm hm
    omega
/-- The found pairs. -/
def keysF (F : List (Nat × Nat × Nat)) : List (Nat × Nat) := F.map fun e => (e.1, e.2.1)
theorem keysF_snoc (F : List (Nat × Nat × Nat)) (p q l : Nat) : keysF (F ++ [(p, q, l)]) = keysF F ++ [(p, q)] := by simp [keysF]
theorem keysF_len (F : List (Nat × Nat × Nat)) : (keysF F).length = F.length := by simp [keysF]
theorem keysF_get {F : List (Nat × Nat × Nat)} {i : Nat} {e : Nat × Nat × Nat} (h : F[i]? = some e) : (keysF F)[i]? = some (e.1, e.2.1) := by simp [keysF, h]
theorem LMap.kept {w w' : World} {B : Nat} {F : List (Nat × Nat × Nat)} (h : LMap w B F) (hk : w'.heap[B]? = w.heap[B]?) : LMap w' B F := PMap.kept h hk
/-- Behind the store into the map. -/
theorem found_stored {W0 wr w2 : World} {fv : Value} {K : List (Nat × Nat)} (hB : Below W0.heap.size W0 wr) (hP : PRow wr (W0.heap.size + 1) fv K) (hg : wr.grownBy w2 (some W0.heap.size)) : Below W0.heap.size W0 w2 ∧ PRow w2 (W0.heap.size + 1) fv K :=
  ⟨hB.grown hg hB.size (fun q hq => by cases hq; exact Nat.le_refl _), World.ownsRow.kept hP hg (.inr fun e => by have := (World.ownsRow.lt hP _ e).1; omega)⟩
/-- Behind the append to the list of what was found. -/
theorem found_pushed {W0 w2 w5 : World} {fv v' : Value} {K : List (Nat × Nat)} {F : List (Nat × Nat × Nat)} {p q : Nat} (o : Obj) (hB : Below W0.heap.size W0 w2) (hP : PRow w2 (W0.heap.size + 1) fv K) (hM : LMap w2 W0.heap.size F)
    (hown : w5.ownsRow (W0.heap.size + 1) 75 2 v' (K.length + 1) (pairCells K ++ [.int .i64 p, .int .i64 q])) (hgrow : (w2.alloc o).grownBy w5 fv.ownBlock) :
    Below W0.heap.size W0 w5 ∧ LMap w5 W0.heap.size F ∧ PRow w5 (W0.heap.size + 1) v' (K ++ [(p, q)]) := by
  have hlt := fun k hk => (World.ownsRow.lt hP k hk).1
  have hml := PMap.lt hM
  refine ⟨(bal hB o).grown hgrow (by have := hB.size; simp; omega) (fun k hk => by have := hlt k hk; omega), hM.kept ?_, ?_⟩
  · rw [hgrow.block _ (by simp; omega) (fun e => by have := hlt _ e.symm; omega)]
    exact Below.heap_alloc _ _ _ hml
  · unfold PRow
    rw [List.length_append, pairCells_snoc]
    exact hown
end Go.Proofs.YtphpablchlpagaaDoor
namespace Go.Proofs.YtphpablchlpagaaDoor
open Go.RowKit Go.Shelf
theorem infoPair : (Tryd.prog.info? 75).map (fun i => (i.zero, i.size, i.bytes)) = some (some (.agg #[.int .i64 0, .int .i64 0]), 2, 16) := by kernel_rfl
theorem add_block (a : Addr) (k : Nat) : (a.add k).block = a.block := by unfold Addr.add; split <;> rfl
theorem pair_new (w : World) (t : TypeId) (u v : Value) (B : Nat) (hB : w.heap.size = B) : ∀ k x, [u, v][k]? = some x → (w.alloc (.cells #[u, v] t)).cell? ((⟨B, 0, none⟩ : Addr).add k) = some x := by
  subst hB
  intro k x hx
  have hk : k < 2 := by
    have := (List.getElem?_eq_some_iff.1 hx).1
    simpa using this
  have h2 : k = 0 ∨ k = 1 := by omega
  rcases h2 with rfl | rfl <;> simp at hx <;> subst hx <;> simp [Addr.add]
set_option maxRecDepth 100000 in
set_option maxHeartbeats 8000000 in
theorem mergers_any (v : Value) (m : List (List Int)) (w : World) (h : Rows w v m) (hv : validM m = true) :
    Calls Tryd.prog 46 #[.agg #[v]] w fun e w' => ∃ B, e = .returned (.map (some B)) ∧ LenMap m w' B ∧ Below w.heap.size w w' := by
  obtain ⟨i0, hi, hz0, hz1, hz2⟩ := info_parts infoPair
  obtain ⟨p1, p2, p3, p4, p5⟩ := valid_parts hv
  obtain ⟨A, cap, rfl, hml, hcm⟩ := id h
  have Hcm := hid hcm
  have Hp5 := hid p5
  have hX := bal (bal (Below.refl _ w) (.cells #[.slice A m.length cap] 24)) (.map #[] 0)
  have hbx := (Boxed.new w 24 (.slice A m.length cap)).cell
  have hbx1 := ((bal (Below.refl _ _) (.map #[] 0)).cell (p := ⟨w.heap.size, 0, none⟩) (World.block_lt_of_cell? _ _ hbx)).trans hbx
  have hG0 := Grp.made (w.alloc (.cells #[.slice A m.length cap] 24)) (w.heap.size + 1)
  rw [World.size_alloc] at hG0
  have hmm := @run_makeMap Tryd.prog
  clear p5 hcm hbx
  go_enter Tryd.func46, Tryd.ntmps46
  go_wp2_with fail
  generalize hWX : (w.alloc (.cells #[.slice A m.length cap] 24)).alloc (.map #[] 0) = X at *
  clear hWX
  go_loopw [20] (fun pv wr => ∃ (p N : Nat) (V : Nat → Nat → Value) (L : Nat → Nat → List (Nat × Nat)), p ≤ m.length ∧ pv = .int .i64 (p : Nat) ∧ N ≤ p * 3600 ∧ Grp wr (w.heap.size + 1) (w.heap.size + 1) N V L ∧ LB m p (p + 1) 0 L ∧ (∀ a d, (L a d).length ≤ N) ∧ Below w.heap.size w wr ∧ wr.cell? ⟨w.heap.size, 0, none⟩ = some (.slice A m.length cap)) (fun pv _ => m.length - (intOf pv).toNat)
  case atStart => exact ⟨0, 0, _, _, Nat.zero_le _, rfl, Nat.le_refl _, hG0, LB.start m, fun _ _ => Nat.le_refl _, hX, hbx1⟩
  case round =>
    clear hG0 hX hbx1
    obtain ⟨p, N, V, L, hp, rfl, hN, hG, hL, hLN, hB, hbx⟩ := hrel
    by_cases hpl : p < m.length
    · have hps : (p : Int) < m.length := by omega
      obtain ⟨b1, o1, r1, hA, hcell, hrow⟩ := Hcm.out p hpl
      subst hA
      have hrl := (Hp5.out p hpl).1
      obtain ⟨Ar, capr, rfl, -, -⟩ := id hrow
      rw [hrl] at hcell
      have HG := hid hG
      have HL := hid hL
      have HLN := hid hLN
      clear hG hL hLN hrow
      obtain ⟨wo, rfl⟩ : ∃ wo : World, wo = wr := ⟨_, rfl⟩
      go_wp2_with fail
      go_loopw [5] (fun qv wr => ∃ (q N : Nat) (V : Nat → Nat → Value) (L : Nat → Nat → List (Nat × Nat)), p + 1 ≤ q ∧ q ≤ m.length ∧ qv = .int .i64 (q : Nat) ∧ N ≤ p * 3600 + q * 60 ∧ Grp wr (w.heap.size + 1) (w.heap.size + 1) N V L ∧ LB m p q 0 L ∧ (∀ a d, (L a d).length ≤ N) ∧ Below w.heap.size w wr ∧ wr.cell? ⟨w.heap.size, 0, none⟩ = some (.slice (some ⟨b1, o1, none⟩) m.length cap)) (fun qv _ => m.length - (intOf qv).toNat)
      case atStart => exact ⟨p + 1, N, V, L, Nat.le_refl _, by omega, by go_num, by omega, HG.out, HL.out, HLN.out, hB, hbx⟩
      case round =>
        clear HG HL HLN hB hbx
        obtain ⟨q, N, V, L, hpq, hq, rfl, hN, hG, hL, hLN, hB, hbx⟩ := hrel
        by_cases hql : q < m.length
        · have hqs : (q : Int) < m.length := by omega
          have HG := hid hG
          have HL := hid hL
          have HLN := hid hLN
          have hcell1 := (hB.cell (p := ⟨b1, o1 + p, none⟩) (World.block_lt_of_cell? _ _ hcell)).trans hcell
          clear hG hL hLN
          obtain ⟨wo2, rfl⟩ : ∃ wo : World, wo = wr := ⟨_, rfl⟩
          go_wp2_with fail
          go_loopw [38] (fun xv wr => ∃ (x N : Nat) (V : Nat → Nat → Value) (L : Nat → Nat → List (Nat × Nat)), x ≤ letters m ∧ xv = .int .i64 (x : Nat) ∧ N ≤ p * 3600 + q * 60 + x ∧ Grp wr (w.heap.size + 1) (w.heap.size + 1) N V L ∧ LB m p q x L ∧ (∀ a d, (L a d).length ≤ N) ∧ Below w.heap.size w wr ∧ wr.cell? ⟨w.heap.size, 0, none⟩ = some (.slice (some ⟨b1, o1, none⟩) m.length cap)) (fun xv _ => letters m - (intOf xv).toNat)
          case atStart => exact ⟨0, N, V, L, Nat.zero_le _, rfl, by omega, HG.out, HL.out, HLN.out, hB, hbx⟩
          case round =>
            clear HG HL HLN hB hbx
            obtain ⟨x, N, V, L, hx, rfl, hN, hG, hL, hLN, hB, hbx⟩ := hrel
            by_cases hxl : x < letters m
            · have hxs : (x : Int) < letters m := by omega
              have HG := hid hG
              have HL := hid hL
              have HLN := hid hLN
              clear hG hL hLN
              obtain ⟨hn1, -⟩ := nx_ok hv (s := p) hpl (x := (x : Int)) (by omega) (by omega)
              obtain ⟨hq1, -⟩ := nx_ok hv (s := q) hql (x := (x : Int)) (by omega) (by omega)
              have hHb := h.below hB
              go_wp2_with fail
              refine (lead_pair _ m p q x _ hHb hv hpl hql hxl).mono ?_
              rintro e y1 ⟨rfl, hy1⟩
              have hcl := canon_le (nx m p (x : Int)) (nx m q (x : Int))
              have hct := canon_lt hn1 hq1
              obtain ⟨i, j, hij⟩ : ∃ i j, canon (nx m p (x : Int)) (nx m q (x : Int)) = (i, j) := ⟨_, _, rfl⟩
              have HIJ := hid hij
              simp only [hij] at hcl hct ⊢
              clear hij
              have hB1 := btr hB hy1
              have hZ : Below wr.heap.size wr ((y1.alloc (.cells #[.int .i64 i, .int .i64 j] 75)).alloc (.cells #[.int .i64 p, .int .i64 q] 75)) := bal (bal hy1 _) _
              have hGZ := HG.out.below hZ
              obtain ⟨T0, c0, hm0⟩ := hGZ.map
              obtain ⟨st, W1, he1, he2, he3, he4⟩ := hm0.entry Tryd.underlying91 zeroPairs (by unfold maxLen; omega) (p := i) (q := j) (by omega) (by omega)
              have hbl := hm0.lt
              obtain ⟨_, _, hm9⟩ := HG.out.map
              have hbl0 := hm9.lt
              clear hm9
              have hrow1 := (hGZ.rows i j).kept he2 (.inr (hGZ.off i j))
              have hnews := fun k u (hu : [Value.int .i64 (p : Nat), .int .i64 (q : Nat)][k]? = some u) => he2.cell (pair_new (y1.alloc (.cells #[.int .i64 i, .int .i64 j] 75)) 75 _ _ _ (World.size_alloc _ _) k u hu) (by
                have := hy1.size
                rw [add_block]
                intro e
                injection e with e
                simp only at e
                omega)
              have hNij := HLN.out i j
              have hbxZ := (hZ.cell (p := ⟨w.heap.size, 0, none⟩) (World.block_lt_of_cell? _ _ hbx)).trans hbx
              have hBZ := btr hB hZ
              have Hfin := hid (fun (w' w3 : World) (h2 : W1.grownBy w' (V i j).ownBlock) (h3 : w'.grownBy w3 (some (w.heap.size + 1))) => hGZ.turned rfl (Nat.lt_succ_self _) hBZ he2 h2 h3)
              have Hstep := hid (fun (w' w3 : World) (v' : Value) (T : Nat → Nat → Bool) (c' : Nat) (ho) (h2) (hat) (hm) (h3) => hGZ.step (w' := w') (w3 := w3) (i := i) (j := j) (p := p) (q := q) (c' := c') (T := T) (v' := v') he2 he3 ho h2 hat hm h3)
              have Hoff := hid (hGZ.off i j)
              have Hrow1 := hid hrow1
              have Hnews := hid hnews
              have Hhe4 := hid he4
              have hs1 : W1.heap.size = y1.heap.size + 1 + 1 := by rw [he3]; simp
              have hsz1 := hB1.size
              have Hs1 := hid hs1
              have Hbx := hid (hbxZ)
              have HBl := hid hbl
              clear hrow1 hnews he4 hGZ hm0 hbl hZ hBZ hs1 hy1 hHb hbx hbxZ he2 he3
              go_wp2_with (at_builtin; refine wpList_append_own_at _ rfl _ _ 93 rfl (w.heap.size + 1) 75 i0 (.agg #[.int .i64 0, .int .i64 0]) 2 16 Tryd.underlying93 hi hz0 hz1 hz2 rfl (by decide) _ _ _ rfl Hrow1.out ⟨y1.heap.size + 1, 0, none⟩ 1 1 [.int .i64 p, .int .i64 q] rfl rfl Hnews.out (by simp [Value.oneCell']) (by unfold maxLen; omega) (by omega) (by rw [Hs1.out]; omega) ?_; intro v' w5 hown' hgrow' _ hat; obtain ⟨w3, c', k1, k2, k3⟩ := Hhe4.out w5 v' (hgrow'.block _ (by rw [Hs1.out]; omega) (fun e => Hoff.out e.symm)); have k1' : (Instr.entryStore 91 (.map (some (w.heap.size + 1))) (.int .i64 st) v').run Tryd.prog w5 = .ok () w3 := k1; have HG3 := hid (Hstep.out w5 w3 v' _ c' hown' hgrow' hat k2 k3); have HF3 := hid (Hfin.out w5 w3 hgrow' k3); clear k1 k2 k3 hown' hgrow' hat)
              go_roundw
              case rel =>
                obtain ⟨f1, _, f3⟩ := HF3.out
                exact ⟨x + 1, N + 1, _, _, by omega, by go_num, by omega, HG3.out, HL.out.add (by omega) hql hxl HIJ.out, upd_len HLN.out, f1, f3 _ Hbx.out⟩
              case measure => simp [intOf]; omega
            · obtain rfl : x = letters m := by omega
              have hxs : ¬ ((letters m : Nat) : Int) < letters m := by omega
              have HG := hid hG
              have HL := hid hL
              have HLN := hid hLN
              clear hG hL hLN
              go_wp2_with fail
              go_roundw
              case rel => exact ⟨q + 1, N, V, L, by omega, by omega, by go_num, by omega, HG.out, HL.out.nextq, HLN.out, hB, hbx⟩
              case measure => simp [intOf]; omega
        · obtain rfl : q = m.length := by omega
          have hqs : ¬ ((m.length : Nat) : Int) < m.length := by omega
          have HG := hid hG
          have HL := hid hL
          have HLN := hid hLN
          clear hG hL hLN
          go_wp2_with fail
          go_roundw
          case rel => exact ⟨p + 1, N, V, L, by omega, by go_num, by omega, HG.out, HL.out.nextp, HLN.out, hB, hbx⟩
          case measure => simp [intOf]; omega
    · obtain rfl : p = m.length := by omega
      have hps : ¬ ((m.length : Nat) : Int) < m.length := by omega
      have HG := hid hG
      have HLd := hid hL.done
      have HLN := hid hLN
      clear hG hL hLN
      have hlb := World.block_lt_of_cell? _ _ hbx
      simp only at hlb
      have hbx2 := ((bal (Below.refl _ wr) (.map #[] 0)).cell (p := ⟨w.heap.size, 0, none⟩) hlb).trans hbx
      have hM0 := hid (LMap.made wr)
      go_wp2_with fail
      obtain ⟨W0, rfl⟩ : ∃ wo : World, wo = wr := ⟨_, rfl⟩
      have hB0 := bal (Below.refl _ W0) (.map #[] 0)
      have HB := hid hB
      have Hbx := hid hbx
      go_loopw [9, 63] (fun fv sv wr => ∃ s : Nat, s ≤ m.length ∧ sv = .int .i64 (s : Nat) ∧ LMap wr W0.heap.size (diag0 s) ∧ PRow wr (W0.heap.size + 1) fv (keysF (diag0 s)) ∧ Below W0.heap.size W0 wr) (fun _ sv _ => m.length - (intOf sv).toNat)
      case atStart => exact ⟨0, Nat.zero_le _, rfl, hM0.out, World.ownsRow_nil _ _ _ _, hB0⟩
      case round =>
        clear hM0 hB0 hbx2 hB hbx
        obtain ⟨s, hs, rfl, hM, hP, hB⟩ := hrel
        by_cases hsl : s < m.length
        · have hss : (s : Int) < m.length := by omega
          have hkl : (keysF (diag0 s)).length = s := by rw [keysF_len, diag0_len]
          obtain ⟨w2, g1, g2, g3⟩ := hM.put (by rw [diag0_len]; omega) (p := s) (q := s) (by omega) (by omega) 0 (inF_diag s)
          have g1' : (Instr.mapUpdate 69 (.map (some W0.heap.size)) (.agg #[.int .i64 s, .int .i64 s]) (.int .i64 0)).run Tryd.prog wr = .ok () w2 := g1
          obtain ⟨B2, P2⟩ := found_stored hB hP g3
          have P2' : w2.ownsRow (W0.heap.size + 1) 75 2 u9 s (pairCells (keysF (diag0 s))) := by have := P2; unfold PRow at this; rwa [hkl] at this
          have Hfin := hid (fun (w5 : World) (v' : Value) (o : Obj) (hown : w5.ownsRow (W0.heap.size + 1) 75 2 v' (s + 1) (pairCells (keysF (diag0 s)) ++ [.int .i64 s, .int .i64 s])) (hgrow : (w2.alloc o).grownBy w5 u9.ownBlock) =>
            found_pushed (p := s) (q := s) o B2 P2 g2 (by rw [hkl]; exact hown) hgrow)
          have hw2 := B2.size
          have HP2 := hid (P2'.alloc (.cells #[.int .i64 s, .int .i64 s] 75))
          clear hM hP g1 g2 g3 B2 P2 P2' hB
          go_wp2_with (at_builtin; refine wpList_append_own_at _ rfl _ _ 93 rfl (W0.heap.size + 1) 75 i0 (.agg #[.int .i64 0, .int .i64 0]) 2 16 Tryd.underlying93 hi hz0 hz1 hz2 rfl (by decide) _ _ _ rfl HP2.out ⟨w2.heap.size, 0, none⟩ 1 1 [.int .i64 s, .int .i64 s] rfl rfl (pair_new w2 75 _ _ _ rfl) (by simp [Value.oneCell']) (by unfold maxLen; omega) (by omega) (by simp; omega) ?_; intro v' w5 hown' hgrow' _ hat; have HF := hid (Hfin.out w5 v' _ hown' hgrow'); clear hown' hgrow' hat)
          go_roundw
          case rel =>
            obtain ⟨f1, f2, f3⟩ := HF.out
            refine ⟨s + 1, by omega, by go_num, ?_, ?_, f1⟩
            · rw [diag0_succ]; exact f2
            · rw [diag0_succ, keysF_snoc]; exact f3
          case measure => simp [intOf]; omega
        · obtain rfl : s = m.length := by omega
          have hss : ¬ ((m.length : Nat) : Int) < m.length := by omega
          have HM := hid hM
          have HP := hid hP
          clear hM hP
          go_wp2_with fail
          have hmm60 : m.length * m.length ≤ 3600 := Nat.mul_le_mul (show m.length ≤ 60 by omega) (show m.length ≤ 60 by omega)
          go_loopw [9, 11] (fun fv iv wr => ∃ (i : Nat) (F : List (Nat × Nat × Nat)), i ≤ F.length ∧ iv = .int .i64 (i : Nat) ∧ MB m F i ∧ LMap wr W0.heap.size F ∧ PRow wr (W0.heap.size + 1) fv (keysF F) ∧ Below W0.heap.size W0 wr) (fun _ iv _ => 3600 - (intOf iv).toNat)
          case atStart => exact ⟨0, _, Nat.zero_le _, rfl, MB.start m, HM.out, HP.out, hB⟩
          case round =>
            clear HM HP hB
            obtain ⟨i, F, hi', rfl, hMB, hM, hP, hB⟩ := hrel
            have hFl := hMB.len
            have HM := hid hM
            have HMB := hid hMB
            obtain ⟨fA, fcap, hfv⟩ := ownsRow_slice hP
            rw [keysF_len] at hfv
            subst hfv
            by_cases hil : i < F.length
            · have his : (i : Int) < F.length := by omega
              obtain ⟨e, he⟩ : ∃ e, F[i]? = some e := ⟨_, List.getElem?_eq_getElem hil⟩
              obtain ⟨e1, e2, el⟩ := e
              have hee := hMB.ok _ (List.mem_of_getElem? he)
              simp only at hee
              have hP' := hP
              unfold PRow at hP'
              obtain ⟨g, cg, hgs⟩ := ownsRow_pos' hP' (by rw [keysF_len]; omega)
              simp only [Value.slice.injEq] at hgs
              obtain ⟨rfl, -, rfl⟩ := hgs
              have hc := hP.cell (keysF_get he)
              simp only at hc
              obtain ⟨c1, c2⟩ := hc
              have hGr := HG.out.below hB
              obtain ⟨T0, c0, hm0⟩ := hGr.map
              have hlk := hm0.look Tryd.underlying91 (zeroPairs wr) (p := e1) (q := e2) (by omega) (by omega)
              have hrow := hGr.rows e1 e2
              unfold PRow at hrow
              obtain ⟨LA, lcap, hVs⟩ := ownsRow_slice hrow
              rw [hVs] at hlk hrow
              have Hrow := hid hrow
              have HVs := hid hVs
              have He := hid he
              have HP := hid hP
              have HLd2 := hid (fun x => HLd.out e1 e2 x)
              have hln := HLN.out e1 e2
              clear hVs hrow hm0 hGr hP hP' he hM hMB
              obtain ⟨wo, rfl⟩ : ∃ wo : World, wo = wr := ⟨_, rfl⟩
              go_wp2_with fail
              go_loopw [9, 90] (fun fv kv wr => ∃ (k : Nat) (F : List (Nat × Nat × Nat)), k ≤ (L e1 e2).length ∧ kv = .int .i64 (k : Nat) ∧ MB m F i ∧ F[i]? = some (e1, e2, el) ∧ (∀ j, j < k → ∀ d, (L e1 e2)[j]? = some d → ∃ l, (d.1, d.2, l) ∈ F) ∧ LMap wr W0.heap.size F ∧ PRow wr (W0.heap.size + 1) fv (keysF F) ∧ Below W0.heap.size W0 wr) (fun _ kv _ => (L e1 e2).length - (intOf kv).toNat)
              case atStart => exact ⟨0, F, Nat.zero_le _, rfl, HMB.out, He.out, fun j hj => by omega, HM.out, HP.out, hB⟩
              case round =>
                clear HMB He HM HP hB hlk c1 c2
                obtain ⟨k, F, hk, rfl, hMB, he, hcl, hM, hP, hB⟩ := hrel
                have hFl := hMB.len
                have hil := (List.getElem?_eq_some_iff.1 he).1
                have his : (i : Int) < F.length := by omega
                have hee := hMB.ok _ (List.mem_of_getElem? he)
                simp only at hee
                have hel := mdist_lt hv (by omega) hee.2.1 hee.2.2
                have hP' := hP
                unfold PRow at hP'
                obtain ⟨g, fcap, rfl⟩ := ownsRow_pos' hP' (by rw [keysF_len]; omega)
                rw [keysF_len] at hP hP' ⊢
                have HP := hid hP
                have HMB := hid hMB
                have He := hid he
                have Hcl := hid hcl
                by_cases hkl : k < (L e1 e2).length
                · have hks : (k : Int) < (L e1 e2).length := by omega
                  obtain ⟨d, hd⟩ : ∃ d, (L e1 e2)[k]? = some d := ⟨_, List.getElem?_eq_getElem hkl⟩
                  have hdm := (HLd2.out d).1 (List.mem_of_getElem? hd)
                  obtain ⟨p, q⟩ := d
                  simp only at hdm
                  obtain ⟨hpq, hq, x', hx', hcan⟩ := hdm
                  have hGr := HG.out.below hB
                  have hrow := hGr.rows e1 e2
                  unfold PRow at hrow
                  rw [HVs.out] at hrow
                  obtain ⟨g2, cg2, hgs⟩ := ownsRow_pos' hrow (by omega)
                  simp only [Value.slice.injEq] at hgs
                  obtain ⟨rfl, -, rfl⟩ := hgs
                  have hc := PRow.cell hrow hd
                  simp only at hc
                  obtain ⟨c1, c2⟩ := hc
                  have hMZ : LMap (wr.alloc (.cells #[.int .i64 p, .int .i64 q] 75)) W0.heap.size F := hM.kept (Below.heap_alloc _ _ _ (PMap.lt hM))
                  have hlk := PMap.look_ok hMZ Tryd.underlying69 (zeroInt _) (p := p) (q := q) (by omega) (by omega)
                  have Hd := hid hd
                  clear hrow hGr hd hP' hMB he hcl
                  cases hin : inF F p q with
                  | true =>
                    rw [hin] at hlk
                    have HMZ := hid hMZ
                    have Hin := hid hin
                    have hBZ := bal hB (.cells #[.int .i64 p, .int .i64 q] 75)
                    have HPZ := hid (World.ownsRow.alloc hP (.cells #[.int .i64 p, .int .i64 q] 75))
                    clear hM hMZ hP hin hB HP
                    go_wp2_with fail
                    go_roundw
                    case rel =>
                      refine ⟨k + 1, F, by omega, by go_num, HMB.out, He.out, fun j hj d hd => ?_, HMZ.out, HPZ.out, hBZ⟩
                      by_cases e : j = k
                      · subst e
                        rw [Hd.out] at hd
                        cases hd
                        exact inF_iff.1 Hin.out
                      · exact Hcl.out j (by omega) d hd
                    case measure => simp [intOf]; omega
                  | false =>
                    rw [hin] at hlk
                    have hBZ := bal hB (.cells #[.int .i64 p, .int .i64 q] 75)
                    have hPZ : PRow (wr.alloc (.cells #[.int .i64 p, .int .i64 q] 75)) (W0.heap.size + 1) (.slice (some ⟨g, 0, none⟩) F.length fcap) (keysF F) := World.ownsRow.alloc hP _
                    have k1 : (wr.alloc (.cells #[.int .i64 p, .int .i64 q] 75)).cell? ⟨wr.heap.size, 0, none⟩ = some (.int .i64 p) := new_cell wr #[.int .i64 p, .int .i64 q] 75 0 _ rfl
                    have k2 : (wr.alloc (.cells #[.int .i64 p, .int .i64 q] 75)).cell? ⟨wr.heap.size, 1, none⟩ = some (.int .i64 q) := new_cell wr #[.int .i64 p, .int .i64 q] 75 1 _ rfl
                    have hsz := hB.size
                    have hM1 := PMap.lt hM
                    go_wp2_with fail
                    generalize hWZ : wr.alloc (.cells #[.int .i64 p, .int .i64 q] 75) = Z at *
                    have hMD : LMap Z.drew W0.heap.size F := hMZ
                    have hPD : PRow Z.drew (W0.heap.size + 1) (.slice (some ⟨g, 0, none⟩) F.length fcap) (keysF F) := hPZ
                    have hBD : Below W0.heap.size W0 Z.drew := bdrew hBZ
                    have hlk2 := PMap.look hMD Tryd.underlying69 (zeroInt _) (p := e1) (q := e2) (by omega) (by omega)
                    have hle : lenIn F e1 e2 = el := lenIn_mem HMB.out (List.mem_of_getElem? He.out)
                    rw [hle] at hlk2
                    have hcF := hPD.cell (keysF_get He.out)
                    simp only at hcF
                    obtain ⟨c3, c4⟩ := hcF
                    obtain ⟨w2, g1, g2, g3⟩ := hMD.put (by omega) (p := p) (q := q) (by omega) (by omega) (el + 1) hin
                    have g1' : (Instr.mapUpdate 69 (.map (some W0.heap.size)) (.agg #[.int .i64 p, .int .i64 q]) (.int .i64 ((el : Int) + 1))).run Tryd.prog Z.drew = .ok () w2 := g1
                    obtain ⟨B2, P2⟩ := found_stored hBD hPD g3
                    have hkl2 := keysF_len F
                    have P2' : w2.ownsRow (W0.heap.size + 1) 75 2 (.slice (some ⟨g, 0, none⟩) F.length fcap) F.length (pairCells (keysF F)) := by have := P2; unfold PRow at this; rwa [hkl2] at this
                    have Hfin := hid (fun (w5 : World) (v' : Value) (o : Obj) (hown : w5.ownsRow (W0.heap.size + 1) 75 2 v' (F.length + 1) (pairCells (keysF F) ++ [.int .i64 p, .int .i64 q])) (hgrow : (w2.alloc o).grownBy w5 (Value.slice (some ⟨g, 0, none⟩) F.length fcap).ownBlock) =>
                      found_pushed (p := p) (q := q) o B2 P2 g2 (by rw [hkl2]; exact hown) hgrow)
                    have hw2 := B2.size
                    have HP2 := hid (P2'.alloc (.cells #[.int .i64 p, .int .i64 q] 75))
                    have k3 : w2.cell? ⟨wr.heap.size, 0, none⟩ = some (.int .i64 p) := g3.cell (a := ⟨wr.heap.size, 0, none⟩) k1 (by simp; omega)
                    have k4 : w2.cell? ⟨wr.heap.size, 1, none⟩ = some (.int .i64 q) := g3.cell (a := ⟨wr.heap.size, 1, none⟩) k2 (by simp; omega)
                    have Hadd := hid (MB.add hv HMB.out He.out hpq hq hx' hcan (inF_false hin))
                    simp only at Hadd
                    have c3' := c3
                    have c4' := c4
                    clear hM hMZ hP HP hPZ hMD hPD hBD hBZ g1 g2 g3 B2 P2 P2' hkl2 hle hB hWZ hlk hin hcan c1 c2
                    go_region
                    go_wp2_with (at_builtin; refine wpList_append_own_at _ rfl _ _ 93 rfl (W0.heap.size + 1) 75 i0 (.agg #[.int .i64 0, .int .i64 0]) 2 16 Tryd.underlying93 hi hz0 hz1 hz2 rfl (by decide) _ _ _ rfl HP2.out ⟨w2.heap.size, 0, none⟩ 1 1 [.int .i64 p, .int .i64 q] rfl rfl (pair_new w2 75 _ _ _ rfl) (by simp [Value.oneCell']) (by unfold maxLen; omega) (by omega) (by simp; omega) ?_; intro v' w5 hown' hgrow' _ hat; have HF := hid (Hfin.out w5 v' _ hown' hgrow'); clear hown' hgrow' hat)
                    go_roundw
                    case rel =>
                      obtain ⟨f1, f2, f3⟩ := HF.out
                      refine ⟨k + 1, F ++ [(p, q, el + 1)], by omega, by go_num, Hadd.out, by rw [List.getElem?_append_left hil]; exact He.out, fun j hj d hd => ?_, f2, by rw [keysF_snoc]; exact f3, f1⟩
                      by_cases e : j = k
                      · subst e
                        rw [Hd.out] at hd
                        cases hd
                        exact ⟨el + 1, List.mem_append_right _ (by simp)⟩
                      · obtain ⟨l, hl⟩ := Hcl.out j (by omega) d hd
                        exact ⟨l, List.mem_append_left _ hl⟩
                    case measure => simp [intOf]; omega
                · obtain rfl : k = (L e1 e2).length := by omega
                  have hks : ¬ (((L e1 e2).length : Nat) : Int) < (L e1 e2).length := by omega
                  have HM := hid hM
                  clear hM hP hP' hMB he hcl
                  go_wp2_with fail
                  go_roundw
                  case rel =>
                    refine ⟨i + 1, F, by omega, by go_num, HMB.out.next He.out fun p q x a1 a2 a3 a4 => ?_, HM.out, HP.out, hB⟩
                    have hmem := (HLd2.out (p, q)).2 ⟨a1, a2, x, a3, a4⟩
                    obtain ⟨j, hj, hje⟩ := List.mem_iff_getElem.1 hmem
                    exact Hcl.out j hj (p, q) (by rw [List.getElem?_eq_getElem hj, hje])
                  case measure => simp [intOf]; omega
            · obtain rfl : i = F.length := by omega
              have his : ¬ ((F.length : Nat) : Int) < F.length := by omega
              have HLM := hid (LMap.done hv p2 hM hMB)
              have HBB := hid ((HB.out).trans (hB.mono HB.out.size))
              clear hM hMB hP
              go_wp2_with fail
              go_ret
              exact ⟨_, rfl, HLM.out, HBB.out⟩
end Go.Proofs.YtphpablchlpagaaDoor
namespace Go.Proofs.YtphpablchlpagaaDoor
open Go.RowKit Go.Shelf
/-- How many elements a slice has. -/
def sliceLen : Value → Nat
  | .slice _ n _ => n
  | _ => 0
theorem LenMap.find {m : List (List Int)} {w : World} {B : Nat} (hv : validM m = true) (hL : LenMap m w B) {p q r : Nat} (hpq : p ≤ q) (hq : q < m.length) (hd : mdist m p q r) :
    (Instr.lookup 69 (.map (some B)) (.agg #[.int .i64 p, .int .i64 q]) false).run Tryd.prog w = .ok (.int .i64 r) w := by
  obtain ⟨p1, p2, -⟩ := valid_parts hv
  obtain ⟨n, V, T, c, h1, h2, -⟩ := hL
  rw [h1.look Tryd.underlying69 (zeroInt _) (p := p) (q := q) (by omega) (by omega), (h2 p q hpq hq).1]
  have := mlen_of hv (by omega) hq hd
  rw [len0, this, if_pos (by omega)]
theorem LenMap.ask {m : List (List Int)} {w : World} {B : Nat} (hv : validM m = true) (hL : LenMap m w B) {p q : Nat} (hpq : p ≤ q) (hq : q < m.length) :
    (Instr.lookup 69 (.map (some B)) (.agg #[.int .i64 p, .int .i64 q]) true).run Tryd.prog w = .ok (.tuple #[.int .i64 (len0 m p q), .bool (decide (0 ≤ mlen m p q))]) w := by
  obtain ⟨p1, p2, -⟩ := valid_parts hv
  obtain ⟨n, V, T, c, h1, h2, -⟩ := hL
  rw [h1.look_ok Tryd.underlying69 (zeroInt _) (p := p) (q := q) (by omega) (by omega), (h2 p q hpq hq).1, (h2 p q hpq hq).2]
theorem one_new (w : World) (t : TypeId) (u : Value) (B : Nat) (hB : w.heap.size = B) : ∀ k x, [u][k]? = some x → (w.alloc (.cells #[u] t)).cell? ((⟨B, 0, none⟩ : Addr).add k) = some x := by
  subst hB
  exact cell_one_new w u t
theorem BZ_block {wo Z : World} (h : Below wo.heap.size wo Z) {base : Nat} {e : TypeId} {s n : Nat} {v : Value} {xs : List Value} (hO : wo.ownsRow base e s v n xs) {g : Nat} (hg : v.ownBlock = some g) : Z.heap[g]? = wo.heap[g]? := h.block g (hO.lt g hg).2
/-- Behind the append to the word. -/
theorem merger_grown {w wo Z w5 : World} {sv bx u1 u2 : Value} {a b n N : Nat} {t tE : TypeId} {xs : List Value} (o : Obj) (hO : wo.ownsRow (w.heap.size + 1 + 1) tE 1 sv n xs) (hBZ : Below wo.heap.size wo Z) (hBwZ : Below w.heap.size w Z)
    (hpb : Z.heap[w.heap.size + 1]? = some (.cells #[.int .i64 a, .int .i64 b] t (0, 0))) (hbx : Z.cell? ⟨w.heap.size, 0, none⟩ = some bx) (hnew : Z.heap[N]? = some (.cells #[u1, u2] t (0, 0))) (hN : wo.heap.size ≤ N) (hgrow : (Z.alloc o).grownBy w5 sv.ownBlock) :
    w5.heap[N]? = some (.cells #[u1, u2] t (0, 0)) ∧ w5.heap[w.heap.size + 1]? = some (.cells #[.int .i64 a, .int .i64 b] t (0, 0)) ∧ w5.cell? ⟨w.heap.size, 0, none⟩ = some bx ∧ Below w.heap.size w w5 := by
  have hlt := fun k hk => hO.lt k hk
  have k1 := (Array.getElem?_eq_some_iff.1 hnew).1
  have k2 := (Array.getElem?_eq_some_iff.1 hpb).1
  have k3 := World.block_lt_of_cell? _ _ hbx
  simp only at k3
  refine ⟨?_, ?_, ?_, ?_⟩
  · rw [hgrow.block N (by simp; omega) (fun e => by have := (hlt _ e.symm).2; omega), Below.heap_alloc _ _ _ k1, hnew]
  · rw [hgrow.block (w.heap.size + 1) (by simp; omega) (fun e => by have := (hlt _ e.symm).1; omega), Below.heap_alloc _ _ _ k2, hpb]
  · exact (World.cell?_of_block (a := ⟨w.heap.size, 0, none⟩) ((hgrow.block w.heap.size (by simp; omega) (fun e => by have := (hlt _ e.symm).1; omega)).trans (Below.heap_alloc _ _ _ k3))).trans hbx
  · exact (bal hBwZ o).grown hgrow (by have := hBwZ.size; simp; omega) (fun k hk => by have := (hlt k hk).1; omega)
/-- .. and behind the store of the pair. -/
theorem merger_stored {w w5 : World} {v' bx : Value} {a b i j n : Nat} {t tE : TypeId} {xs : List Value} (hown : w5.ownsRow (w.heap.size + 1 + 1) tE 1 v' n xs) (hpb : w5.heap[w.heap.size + 1]? = some (.cells #[.int .i64 a, .int .i64 b] t (0, 0))) (hbx : w5.cell? ⟨w.heap.size, 0, none⟩ = some bx) (hB : Below w.heap.size w w5) :
    ∀ w6, w6 = (w5.setCell ⟨w.heap.size + 1, 0, none⟩ (.int .i64 i)).setCell ⟨w.heap.size + 1, 1, none⟩ (.int .i64 j) →
    w6.ownsRow (w.heap.size + 1 + 1) tE 1 v' n xs ∧ Below w.heap.size w w6 ∧ w6.cell? ⟨w.heap.size, 0, none⟩ = some bx ∧ w6.heap[w.heap.size + 1]? = some (.cells #[.int .i64 i, .int .i64 j] t (0, 0)) ∧ w6.heap.size = w5.heap.size := by
  rintro w6 rfl
  refine ⟨ownsRow_same hown fun g hg => ?_, ?_, ?_, pair_stored hpb _ _, by simp [World.setCell]⟩
  · have := (hown.lt g hg).1
    rw [Below.heap_setCell _ _ _ _ (by show g ≠ w.heap.size + 1; omega), Below.heap_setCell _ _ _ _ (by show g ≠ w.heap.size + 1; omega)]
  · exact (hB.setCell (p := ⟨w.heap.size + 1, 0, none⟩) (by show w.heap.size ≤ w.heap.size + 1; omega) _).setCell (p := ⟨w.heap.size + 1, 1, none⟩) (by show w.heap.size ≤ w.heap.size + 1; omega) _
  · refine (World.cell?_of_block (a := ⟨w.heap.size, 0, none⟩) ?_).trans hbx
    rw [Below.heap_setCell _ _ _ _ (by show w.heap.size ≠ w.heap.size + 1; omega), Below.heap_setCell _ _ _ _ (by show w.heap.size ≠ w.heap.size + 1; omega)]
theorem infoIntE : (Tryd.prog.info? 3).map (fun i => (i.zero, i.size, i.bytes)) = some (some (.int .i64 0), 1, 8) := by kernel_rfl
set_option maxRecDepth 100000 in
set_option maxHeartbeats 8000000 in
theorem merger_any (v : Value) (m : List (List Int)) (p q j B : Nat) (w : World) (h : Rows w v m) (hv : validM m = true) (hpq : p ≤ q) (hq : q < m.length) (hd : mdist m p q j) (hL : LenMap m w B) :
    Calls Tryd.prog 49 #[.agg #[v], .map (some B), .agg #[.int .i64 p, .int .i64 q]] w fun e w' => ∃ r, e = .returned r ∧ w'.ownsRow w.heap.size 3 1 r j ((mW m j p q).map fun x => .int .i64 x) ∧ Below w.heap.size w w' := by
  obtain ⟨i0, hi, hz0, hz1, hz2⟩ := info_parts infoIntE
  obtain ⟨p1, p2, p3, p4, p5⟩ := valid_parts hv
  obtain ⟨A, cap, rfl, hml, hcm⟩ := id h
  have Hcm := hid hcm
  have Hp5 := hid p5
  have hX := bal (bal (Below.refl _ w) (.cells #[.slice A m.length cap] 24)) (.cells #[.int .i64 p, .int .i64 q] 75)
  have hbx := (Boxed.new w 24 (.slice A m.length cap)).cell
  have hbx1 := ((bal (Below.refl _ _) (.cells #[.int .i64 p, .int .i64 q] 75)).cell (p := ⟨w.heap.size, 0, none⟩) (World.block_lt_of_cell? _ _ hbx)).trans hbx
  have hpb : ((w.alloc (.cells #[.slice A m.length cap] 24)).alloc (.cells #[.int .i64 p, .int .i64 q] 75)).heap[w.heap.size + 1]? = some (.cells #[.int .i64 p, .int .i64 q] 75 (0, 0)) := by
    have := World.alloc_heap_new (w.alloc (.cells #[.slice A m.length cap] 24)) (.cells #[.int .i64 p, .int .i64 q] 75)
    rwa [World.size_alloc] at this
  have hj := mdist_lt hv (by omega) hq hd
  have hmm60 : m.length * m.length ≤ 3600 := Nat.mul_le_mul (show m.length ≤ 60 by omega) (show m.length ≤ 60 by omega)
  have Hd := hid hd
  have hBl : B < w.heap.size := by
    obtain ⟨n, V, T, c, h1, -⟩ := hL
    exact PMap.lt h1
  clear p5 hcm hbx hd
  go_enter Tryd.func49, Tryd.ntmps49
  go_wp2_with fail
  generalize hWX : (w.alloc (.cells #[.slice A m.length cap] 24)).alloc (.cells #[.int .i64 p, .int .i64 q] 75) = X at *
  have hXs : X.heap.size = w.heap.size + 1 + 1 := by rw [← hWX]; simp
  clear hWX
  go_loopw [7] (fun sv wr => ∃ (a b r : Nat) (pre : List Int), a ≤ b ∧ b < m.length ∧ mdist m a b r ∧ mW m j p q = pre ++ mW m r a b ∧ pre.length + r = j ∧ wr.ownsRow (w.heap.size + 1 + 1) 3 1 sv pre.length (pre.map fun x => .int .i64 x) ∧ Below w.heap.size w wr ∧ wr.cell? ⟨w.heap.size, 0, none⟩ = some (.slice A m.length cap) ∧ wr.heap[w.heap.size + 1]? = some (.cells #[.int .i64 a, .int .i64 b] 75 (0, 0)) ∧ w.heap.size + 1 + 1 ≤ wr.heap.size) (fun sv _ => j - sliceLen sv)
  case atStart => exact ⟨p, q, j, [], hpq, hq, Hd.out, rfl, by simp, World.ownsRow_nil _ _ _ _, hX, hbx1, hpb, by omega⟩
  case round =>
    clear hpb hX hbx1 hXs
    obtain ⟨a, b, r, pre, hab, hb, hd, hmw, hpl, hO, hB, hbx, hpb, hsz⟩ := hrel
    obtain ⟨c1, c2, f1, f2⟩ := pair_block hpb
    have hLr := hL.below hB
    have hlk := hLr.find hv hab hb hd
    have Hmw := hid hmw
    have Hd0 := hid hd
    have Hpb := hid hpb
    obtain ⟨sA, scap, rfl⟩ := ownsRow_slice hO
    have HO := hid hO
    have hpl2 := hid hpl
    have hprj : pre.length ≤ 3600 := by omega
    have hrj : r ≤ 3600 := by omega
    have hlenr := mlen_of hv (by omega) hb hd
    by_cases hr : r = 0
    · subst hr
      have HR := hid (show wr.ownsRow w.heap.size 3 1 (.slice sA pre.length scap) j ((mW m j p q).map fun x => .int .i64 x) from by
        rw [Hmw.out, show mW m 0 a b = [] from rfl, List.append_nil]
        have e : pre.length = j := by have := hpl2.out; omega
        rw [← e]
        exact row_mono hO (by omega))
      clear hmw hd hpl hpb hO hlenr
      go_wp2_with fail
      go_ret
      exact ⟨_, rfl, HR.out, hB⟩
    · have hr0 : (0 : Int) < r := by omega
      obtain ⟨b1, o1, r1, hA, hcell, hrow⟩ := Hcm.out a (by omega)
      subst hA
      have hrl := (Hp5.out a (by omega)).1
      obtain ⟨Ar, capr, rfl, -, -⟩ := id hrow
      rw [hrl] at hcell
      have hcellr := (hB.cell (p := ⟨b1, o1 + a, none⟩) (World.block_lt_of_cell? _ _ hcell)).trans hcell
      have has : (a : Int) < m.length := by omega
      obtain ⟨r', rfl⟩ : ∃ r', r = r' + 1 := ⟨r - 1, by omega⟩
      have hmX := mX_spec hv (by omega) hb hd
      obtain ⟨x1, x2, x3, x4⟩ := hmX
      have X2 := hid x2
      have X3 := hid x3
      have X4 := hid x4
      have hms : mW m (r' + 1) a b = (mX m a b : Int) :: mW m r' (nx m a (mX m a b : Int)) (nx m b (mX m a b : Int)) := rfl
      have Hms := hid hms
      have Hlenr := hid hlenr
      have hBr0 := hid hB
      clear hmw hd hpl hpb hO hrow hcell x2 x3 x4 hms hlenr
      obtain ⟨wo, rfl⟩ : ∃ wo : World, wo = wr := ⟨_, rfl⟩
      go_wp2_with fail
      go_loopw [7, 23] (fun sv xv wr => ∃ x : Nat, x ≤ mX m a b ∧ xv = .int .i64 (x : Nat) ∧ sv = .slice sA pre.length scap ∧ Below wo.heap.size wo wr) (fun _ xv _ => letters m - (intOf xv).toNat)
      case atStart => exact ⟨0, Nat.zero_le _, rfl, rfl, Below.refl _ _⟩
      case round =>
        obtain ⟨x, hx, rfl, rfl, hBi⟩ := hrel
        have hxl : x < letters m := by omega
        have hxs : (x : Int) < letters m := by omega
        have hBw := btr hB hBi
        have hHb := h.below hBw
        have hbx2 := (hBi.cell (p := ⟨w.heap.size, 0, none⟩) (World.block_lt_of_cell? _ _ hbx)).trans hbx
        have hpb2 := (hBi.block _ (Array.getElem?_eq_some_iff.1 Hpb.out).1).trans Hpb.out
        obtain ⟨d1, d2, f3, f4⟩ := pair_block hpb2
        obtain ⟨hn1, -⟩ := nx_ok hv (s := a) (by omega) (x := (x : Int)) (by omega) (by omega)
        obtain ⟨hn2, -⟩ := nx_ok hv (s := b) hb (x := (x : Int)) (by omega) (by omega)
        have Hpb2 := hid hpb2
        have hLi := hLr.below hBi
        have hszi := hBi.size
        clear hbx hpb2 c1 c2 f1 f2 hcellr hlk
        go_wp2_with fail
        refine (lead_pair _ m a b x _ hHb hv (by omega) hb hxl).mono ?_
        rintro e y1 ⟨rfl, hy1⟩
        have hcl := canon_le (nx m a (x : Int)) (nx m b (x : Int))
        have hct := canon_lt hn1 hn2
        have hml2 := mlen_canon hv hn1 hn2
        have hmw2 := fun (j : Nat) (hd : mdist m (nx m a (x : Int)) (nx m b (x : Int)) j) => mW_canon hv hn1 hn2 hd
        have hcd := fun (k : Nat) => canon_mdist (m := m) (p := nx m a (x : Int)) (q := nx m b (x : Int)) (k := k)
        obtain ⟨i, j', hij⟩ : ∃ i j', canon (nx m a (x : Int)) (nx m b (x : Int)) = (i, j') := ⟨_, _, rfl⟩
        simp only [hij] at hcl hct hml2 hmw2 hcd ⊢
        clear hij
        have hZ : Below wr.heap.size wr (y1.alloc (.cells #[.int .i64 i, .int .i64 j'] 75)) := bal hy1 _
        have e1 := (hZ.cell (p := ⟨w.heap.size, 0, none⟩) (World.block_lt_of_cell? _ _ hbx2)).trans hbx2
        have hpbZ := (hZ.block _ (Array.getElem?_eq_some_iff.1 Hpb2.out).1).trans Hpb2.out
        obtain ⟨g1, g2, g3, g4⟩ := pair_block hpbZ
        have hLZ := hLi.below hZ
        have hask := hLZ.ask hv hcl hct
        have hfind := hLZ.find hv hab hb Hd0.out
        have hy1s := hy1.size
        have hBZ := hid (btr hBi hZ)
        have hBwZ := hid (btr hBw hZ)
        have HpbZ := hid hpbZ
        have Hml2 := hid hml2
        have Hmw2 := hid hmw2
        have Hcd := hid hcd
        clear hbx2 hZ hpbZ hLZ hy1 hLi hHb d1 d2 f3 f4 hml2 hmw2 hcd hBi hBw
        by_cases hxe : x = mX m a b
        · have hml : mlen m i j' = (r' : Int) := by
            have := X3.out
            rw [← hxe] at this
            rw [Hml2.out, this, Hlenr.out]
            omega
          rw [show decide (0 ≤ mlen m i j') = true from decide_eq_true (by omega), show len0 m i j' = (r' : Int) from by rw [len0, hml, if_pos (by omega)]] at hask
          have Hxe := hid hxe
          clear hml hxe
          have hnew : (y1.alloc (.cells #[.int .i64 i, .int .i64 j'] 75)).heap[y1.heap.size]? = some (.cells #[.int .i64 i, .int .i64 j'] 75 (0, 0)) := World.alloc_heap_new _ _
          have hOZ := hid ((ownsRow_same HO.out fun g hg => BZ_block hBZ.out HO.out hg).alloc (.cells #[.int .i64 x] 3))
          have hszw := hid (show wo.heap.size ≤ y1.heap.size by omega)
          have Hgr := hid (fun (w5 : World) (o : Obj) (hgrow : ((y1.alloc (.cells #[.int .i64 i, .int .i64 j'] 75)).alloc o).grownBy w5 (Value.slice sA pre.length scap).ownBlock) => merger_grown o HO.out hBZ.out hBwZ.out HpbZ.out e1 hnew hszw.out hgrow)
          go_wp2_with (at_builtin; refine wpList_append_own_at _ rfl _ _ 34 rfl (w.heap.size + 1 + 1) 3 i0 (.int .i64 0) 1 8 Tryd.underlying34 hi hz0 hz1 hz2 rfl (by decide) _ _ _ rfl hOZ.out ⟨y1.heap.size + 1, 0, none⟩ 1 1 [.int .i64 x] rfl rfl (one_new _ _ _ _ (World.size_alloc _ _)) (by simp [Value.oneCell']) (by unfold maxLen; omega) (by omega) (by simp; omega) ?_; intro v' w5 hown' hgrow' _ hat; obtain ⟨vA, vcap, rfl⟩ := ownsRow_slice hown'; obtain ⟨q1, q2, q3, q4⟩ := Hgr.out w5 _ hgrow'; obtain ⟨s1, s2, -, -⟩ := pair_block q1; obtain ⟨s3, s4, s5, s6⟩ := pair_block q2; have HS := hid (merger_stored (i := i) (j := j') hown' q2 q3 q4); have hgs := hgrow'.size; simp only [World.size_alloc] at hgs; clear q1 q2 q3 q4 hown' hgrow' hat)
          generalize hW6 : (w5.setCell ⟨w.heap.size + 1, 0, none⟩ (.int .i64 i)).setCell ⟨w.heap.size + 1, 1, none⟩ (.int .i64 j') = w6
          obtain ⟨t1, t2, t3, t4, t5⟩ := HS.out w6 hW6.symm
          have T1 := hid t1
          have T4 := hid t4
          clear t1 t4 hW6 HS s1 s2 s3 s4 s5 s6
          go_roundw
          case rel =>
            refine ⟨i, j', r', pre ++ [(x : Int)], hcl, hct, (Hcd.out _).2 (by rw [Hxe.out]; exact X2.out), ?_, by have := hpl2.out; rw [List.length_append, List.length_singleton]; omega, ?_, t2, t3, T4.out, by omega⟩
            · rw [Hmw.out, Hms.out, ← Hxe.out, List.append_assoc, Hmw2.out r' (by rw [Hxe.out]; exact X2.out)]
              rfl
            · rw [List.length_append, List.map_append]
              exact T1.out
          case measure => have := hpl2.out; simp [sliceLen]; omega
        · have hlt : x < mX m a b := by omega
          have hne : mlen m i j' ≠ (r' : Int) := by
            have := X4.out x hlt
            rw [Hlenr.out] at this
            rw [Hml2.out]
            omega
          have hrg := mlenAt_range m (m.length * m.length) i j'
          have hsp : mlen m i j' = -1 ∨ ∃ t : Nat, mlen m i j' = (t : Int) ∧ t ≠ r' ∧ t ≤ 3600 := by
            rcases mlen_spec hv (p := i) (q := j') (by omega) hct with ⟨h1, _⟩ | ⟨t, h1, h2, _⟩
            · exact .inl h1
            · exact .inr ⟨t, h2, by omega, by omega⟩
          clear hne hrg hxe
          rcases hsp with hm1 | ⟨t, hm1, htr, ht⟩
          · rw [show decide (0 ≤ mlen m i j') = false from decide_eq_false (by omega)] at hask
            have Hm1 := hid hm1
            clear hm1
            generalize len0 m i j' = z at *
            go_wp2_with fail
            go_roundw
            case rel => exact ⟨x + 1, by omega, by go_num, rfl, hBZ.out⟩
            case measure => simp [intOf]; omega
          · rw [show decide (0 ≤ mlen m i j') = true from decide_eq_true (by omega), show len0 m i j' = (t : Int) from by rw [len0, hm1, if_pos (by omega)]] at hask
            have hne : ((t : Int) == (r' : Int)) = false := by rw [beq_eq_false_iff_ne]; omega
            clear hm1
            go_wp2_with fail
            go_roundw
            case rel => exact ⟨x + 1, by omega, by go_num, rfl, hBZ.out⟩
            case measure => simp [intOf]; omega
end Go.Proofs.YtphpablchlpagaaDoor
namespace Go.Proofs.YtphpablchlpagaaDoor
open Go.RowKit Go.Shelf
attribute [local go_sem] Oper.semAt_some
/-- What is behind the marks of loops over functions: only those marks are turned. -/
def MarksOff (B : Nat) (W W' : World) : Prop := Below B W W' ∧ ∀ (k : Nat) (o : Obj), W.heap[k]? = some o → o.isCells = true → W'.heap[k]? = some o
theorem MarksOff.refl (B : Nat) (W : World) (h : B ≤ W.heap.size) : MarksOff B W W := ⟨(Below.refl _ W).mono h, fun _ _ h _ => h⟩
end Go.Proofs.YtphpablchlpagaaDoor
namespace Go.Proofs.YtphpablchlpagaaDoor
open Go.RowKit Go.Shelf
theorem rows3 (w : World) (a b c : List Int) (va vb vc : Value) (t : TypeId) (k : Nat) (hk : k = w.heap.size) (ha : Ints w va a) (hb : Ints w vb b) (hc : Ints w vc c) : Rows (w.alloc (.cells #[va, vb, vc] t)) (.slice (some ⟨k, 0, none⟩) 3 3) [a, b, c] := by
  subst hk
  refine ⟨_, 3, rfl, by unfold big; simp, fun i hi => ?_⟩
  have h3 : i = 0 ∨ i = 1 ∨ i = 2 := by simp at hi; omega
  rcases h3 with rfl | rfl | rfl
  · exact ⟨w.heap.size, 0, va, rfl, by simp, ha.alloc _⟩
  · exact ⟨w.heap.size, 0, vb, rfl, by simp, hb.alloc _⟩
  · exact ⟨w.heap.size, 0, vc, rfl, by simp, hc.alloc _⟩
theorem lit_rows (w : World) (a b c d e f : Int) : Rows ((((w.alloc (.cells #[.int .i64 a, .int .i64 b] 3)).alloc (.cells #[.int .i64 c, .int .i64 d] 3)).alloc (.cells #[.int .i64 e, .int .i64 f] 3)).alloc
    (.cells #[.slice (some ⟨w.heap.size, 0, none⟩) 2 2, .slice (some ⟨w.heap.size + 1, 0, none⟩) 2 2, .slice (some ⟨w.heap.size + 1 + 1, 0, none⟩) 2 2] 34)) (.slice (some ⟨w.heap.size + 1 + 1 + 1, 0, none⟩) 3 3) [[a, b], [c, d], [e, f]] :=
  rows3 _ _ _ _ _ _ _ _ _ (by simp) (((Ints.two' w a b _ _ rfl).alloc _).alloc _) ((Ints.two' _ c d _ _ (by simp)).alloc _) (Ints.two' _ e f _ _ (by simp))
end Go.Proofs.YtphpablchlpagaaDoor
namespace Go.Proofs.YtphpablchlpagaaDoor
open Go.RowKit Go.Shelf
theorem pick_mem {p : Nat → Bool} {n : Nat} {x : Int} : x ∈ pick p n ↔ ∃ t, t < n ∧ p t = true ∧ x = (t : Int) := by
  simp only [pick, List.mem_map, List.mem_filter, List.mem_range]
  constructor
  · rintro ⟨t, ⟨h1, h2⟩, rfl⟩; exact ⟨t, h1, h2, rfl⟩
  · rintro ⟨t, h1, h2, rfl⟩; exact ⟨t, ⟨h1, h2⟩, rfl⟩
theorem pick_set {m : List (List Int)} (p : Nat → Bool) : isSetM m (pick p m.length) = true := by
  refine isSetM_of_sorted (intsOf_sorted (List.Pairwise.filter _ List.pairwise_lt_range)) (fun x hx => ?_)
  obtain ⟨t, h1, _, rfl⟩ := pick_mem.1 hx
  omega
theorem pick_testBit (p : Nat → Bool) (n t : Nat) : (ofList (pick p n)).testBit t = (decide (t < n) && p t) := by
  rw [ofList_testBit, Bool.eq_iff_iff, List.any_eq_true, Bool.and_eq_true, decide_eq_true_eq]
  constructor
  · rintro ⟨x, hx, e⟩
    obtain ⟨q, h1, h2, rfl⟩ := pick_mem.1 hx
    have := of_decide_eq_true e
    rw [Int.toNat_natCast] at this
    subst this
    exact ⟨h1, h2⟩
  · rintro ⟨h1, h2⟩
    exact ⟨t, pick_mem.2 ⟨t, h1, h2, rfl⟩, by simp⟩
theorem hasB_testBit {l : List Int} (h : ∀ x ∈ l, 0 ≤ x) (t : Nat) : hasB l t = (ofList l).testBit t := by
  rw [ofList_testBit, hasB, Bool.eq_iff_iff, List.any_eq_true, List.any_eq_true]
  constructor
  · rintro ⟨x, hx, e⟩
    exact ⟨x, hx, by rw [beq_iff_eq] at e; simp [e]⟩
  · rintro ⟨x, hx, e⟩
    have h1 := of_decide_eq_true e
    have h2 := h x hx
    exact ⟨x, hx, by rw [beq_iff_eq]; omega⟩
theorem set_pos {m : List (List Int)} {l : List Int} (h : isSetM m l = true) : ∀ x ∈ l, 0 ≤ x := fun x hx => (isSetM_mem h x hx).1
theorem hasB_image {m : List (List Int)} (hv : validM m = true) {s u : List Int} (hs : isSetM m s = true) (hu : isWordM m u = true) (t : Nat) : hasB (imageM m s u) t = (imgWord m (ofList s) u).testBit t := by
  have hm : m.length ≤ 64 := by have := (valid_parts hv).2.1; omega
  have hu' := hu
  simp only [isWordM, Bool.and_eq_true] at hu'
  have hA := imgWord_lt hv u _ (ofList_lt m.length hm s (isSetM_mem hs)) hu'.2
  rw [hasB_testBit (set_pos (imageM_set hv hs hu)), imageM, ofList_elems (Nat.lt_of_lt_of_le hA (Nat.pow_le_pow_right (by decide) hm))]
end Go.Proofs.YtphpablchlpagaaDoor
namespace Go.Proofs.YtphpablchlpagaaDoor
open Go.RowKit Go.Shelf
theorem hasB_intsOf (l : List Nat) (t : Nat) : hasB (intsOf l) t = true ↔ t ∈ l := by
  unfold hasB intsOf
  rw [List.any_eq_true]
  constructor
  · rintro ⟨x, hx, he⟩
    obtain ⟨y, hy, rfl⟩ := List.mem_map.1 hx
    have e : y = t := by have := beq_iff_eq.1 he; omega
    rw [← e]; exact hy
  · intro h
    exact ⟨(t : Int), List.mem_map.2 ⟨t, h, rfl⟩, by simp⟩
/-- All states. -/
def allM (n : Nat) : List Int := pick (fun _ => true) n
theorem allM_set (m : List (List Int)) : isSetM m (allM m.length) = true := pick_set _
theorem hasB_all {m : List (List Int)} (hv : validM m = true) {u : List Int} (hu : isWordM m u = true) (t : Nat) : hasB (imageM m (allM m.length) u) t = true ↔ ∃ s, s < m.length ∧ runM m s u = t := by
  have hm : m.length ≤ 64 := by have := (valid_parts hv).2.1; omega
  rw [hasB_image hv (allM_set m) hu]
  have hu' := hu
  simp only [isWordM, Bool.and_eq_true] at hu'
  rw [imgWord_mem hv u _ t (ofList_lt m.length hm _ (isSetM_mem (allM_set m))) hu'.2]
  constructor
  · rintro ⟨q, h1, h2, h3⟩; exact ⟨q, h1, h3⟩
  · rintro ⟨q, h1, h3⟩
    refine ⟨q, h1, ?_, h3⟩
    rw [allM, pick_testBit]
    simp [h1]
theorem image_one {m : List (List Int)} (hv : validM m = true) {u : List Int} (hu : isWordM m u = true) {x : Int} (h : imageM m (allM m.length) u = [x]) : ∃ t : Nat, x = t ∧ ∀ s, s < m.length → runM m s u = t := by
  have h0 : 0 < m.length := by have := (valid_parts hv).1; omega
  have key : ∀ s, s < m.length → ((runM m s u : Nat) : Int) = x := fun s hs => by
    have := (hasB_all hv hu (runM m s u)).2 ⟨s, hs, rfl⟩
    rw [h] at this
    simp [hasB] at this
    exact this.symm
  exact ⟨runM m 0 u, (key 0 h0).symm, fun s hs => by have := key s hs; have := key 0 h0; omega⟩
end Go.Proofs.YtphpablchlpagaaDoor
namespace Go.Proofs.YtphpablchlpagaaDoor
open Go.RowKit Go.Shelf
theorem held_one {w1 w' : World} {p : Addr} {u : Value} (h1 : w1.cell? p = some u) (hb : Below w1.heap.size w1 w') : Below w1.heap.size w1 w' ∧ w'.cell? p = some u :=
  ⟨hb, (hb.cell (p := p) (World.block_lt_of_cell? _ _ h1)).trans h1⟩
end Go.Proofs.YtphpablchlpagaaDoor
namespace Go.Proofs.YtphpablchlpagaaDoor
open Go.RowKit Go.Shelf
/-- A word of the call's own, and no error. -/
def WordIs (w : World) (u : List Int) (e : Ending) (w' : World) : Prop := ∃ r, e = .returned (.tuple #[r, .int .i64 0]) ∧ w'.ownsRow w.heap.size 3 1 r u.length (u.map fun x => .int .i64 x) ∧ Below w.heap.size w w'
end Go.Proofs.YtphpablchlpagaaDoor
namespace Go.Proofs.YtphpablchlpagaaDoor
open Go.RowKit Go.Shelf
/-- THE STATEMENT 'for .. := range f { .. }' within a round of loop l₀. -/
theorem range_law_in {α : Type} {g : Operand} {ps : Array Tmp} {assign body : Code} {Q : Exit → Act → World → Prop} {a : Act} {w : World} {gf l₀ : Nat} {fb lb : Array Value} (hl₀ : ∃ r₀, w.heap[l₀]? = some (.loop r₀))
    (hg : a.eval g = .func (.func gf) fb lb) (eg : ∀ args w, (callFunc gf args).run Tryd.prog w = .ok (.enter gf args) w)
    {encs : α → Array Value} {n₀ : Nat} {G : Blocks → α → World → Prop} {S Sp : List α → Prop} {w0 : World} (hseq : SeqX gf fb lb encs n₀ G S Sp w0)
    (hG : ∀ X x W W', G X x W → Keep n₀ X W W' → G X x W') (hn : n₀ ≤ w.heap.size) (hb0 : Below w0.heap.size w0 w) (hps : ∀ x, (encs x).size = ps.size)
    (I : Blocks → List α → World → Prop) (Ix : Code → Blocks → List α → World → Prop) (hI : Stable w.heap.size I) (hIx : ∀ c, Stable w.heap.size (Ix c)) (h0 : I (fun _ => False) [] w)
    (Ax : α → Act → World → Prop) (hAx : ∀ x a', Stable w.heap.size (fun _ (_ : Unit) W => Ax x a' W))
    (hassign : ∀ (l : Nat) (X : Blocks) (pre : List α) (x : α) (W : World) (K : Act → World → Prop), I X pre W → (∀ a' W', KeepsFrom w.heap.size W W' → Keep n₀ X W W' → I X pre W' → Ax x a' W' → K a' W') →
      assign.wpIn (Fence.wide.inRound l) 0 Tryd.prog (Exit.then K (fun _ _ _ => False)) { tmps := (ps.zip (encs x)).foldl (fun t (p, v) => t.setIfInBounds p v) a.tmps, defers := [] } W)
    (hbody : ∀ (l : Nat) (X : Blocks) (pre : List α) (x : α) (a' : Act) (W : World), w.heap.size ≤ l → (∃ r, W.heap[l]? = some (.loop r)) → ¬ X l → (∀ k, X k → k < W.heap.size) → I X pre W → G X x W → Ax x a' W → Sp (pre ++ [x]) →
      body.wpIn (Fence.wide.inRound l) 0 Tryd.prog (postX w.heap.size n₀ I Ix X (pre ++ [x]) W) a' W)
    (hdone : ∀ (X : Blocks) (xs : List α) (W : World), S xs → I X xs W → Q .normal a W)
    (hstop : ∀ (X : Blocks) (c : Code) (pre : List α) (W : World), Sp pre → Ix c X pre W → c.wpIn (Fence.wide.inRound l₀) 0 Tryd.prog Q a W) :
    (Code.rangeFunc g ps assign body).wpIn (Fence.wide.inRound l₀) 0 Tryd.prog Q a w := by
  refine wpIn_rangeFunc ?_
  intro fn hfn
  obtain ⟨r₀, hr₀⟩ := hl₀
  obtain ⟨rec, hrec⟩ : ∃ rec : LoopState → Option Code → Loop, rec = fun st pe => { state := st, pending := pe, fn, tmps := a.tmps, params := ps, assign, body, defers := r₀.defers } := ⟨_, rfl⟩
  obtain ⟨W1, hW1⟩ : ∃ W1, w.alloc (.loop (rec .ready none)) = W1 := ⟨_, rfl⟩
  have hL1 : W1.heap[w.heap.size]? = some (.loop (rec .ready none)) := by rw [← hW1]; exact World.alloc_heap_new w _
  have hI1 : I (fun _ => False) [] W1 := by rw [← hW1]; exact hI.new _ h0
  have hb1 : Below w0.heap.size w0 W1 := by
    rw [← hW1]; exact hb0.trans (((Below.refl _ w).alloc (Nat.le_refl _) _).mono hb0.size)
  refine ⟨w.heap.size, [], W1, { target := .fn (.func gf) lb, args := fb ++ #[.func (.yield w.heap.size) #[] #[]] }, W1, gf,
    (fb ++ #[.func (.yield w.heap.size) #[] #[]]) ++ lb, W1, ?_, ?_, fun f' _ => trivial, ?_, fun h => by simp [Fence.wide, Fence.inRound] at h, ?_⟩
  · rw [← hW1, hrec]; exact run_enterLoop_inner hr₀ _ _ _ _ _
  · simp only [resolve, hg]
    simp [go_sem, Deferred.ofValue]
  · simp [invoke, go_sem, eg]
  · refine CallsIn.inRound l₀ (callsIn_wide.2 ?_)
    refine (hseq w.heap.size
      (fun X pre W => I X pre W ∧ ¬ X w.heap.size ∧ W.heap[w.heap.size]? = some (.loop (rec .ready none)))
      (fun X pre W => ∃ c, Ix c X pre W ∧ ¬ X w.heap.size ∧ W.heap[w.heap.size]? = some (.loop (rec .done (some c))))
      W1 hb1 ?_ ?_ ?_ ⟨hI1, fun h => h, hL1⟩).mono ?_
    · rintro X X' s A B ⟨h1, h2, h4⟩ ht hX
      have l4 := (Array.getElem?_eq_some_iff.1 h4).1
      refine ⟨hI X X' s A B h1 ht.os ht.tape ht.output ht.size (fun k o hk hx _ => (ht.block k (Array.getElem?_eq_some_iff.1 hk).1 hx).trans hk) hX, fun h => ?_, (ht.block _ l4 h2).trans h4⟩
      · rcases hX _ h with h | h
        · exact h2 h
        · omega
    · rintro X X' s A B ⟨c, h1, h2, h4⟩ ht hX
      have l4 := (Array.getElem?_eq_some_iff.1 h4).1
      refine ⟨c, hIx c X X' s A B h1 ht.os ht.tape ht.output ht.size (fun k o hk hx _ => (ht.block k (Array.getElem?_eq_some_iff.1 hk).1 hx).trans hk) hX, fun h => ?_, (ht.block _ l4 h2).trans h4⟩
      · rcases hX _ h with h | h
        · exact h2 h
        · omega
    · -- one round
      rintro X pre x W hXs ⟨hi, hXl, hl⟩ hgx hsp
      have hy := run_yield (P := Tryd.prog) (args := encs x) hl (by rw [hrec]; exact hps x)
      rw [hrec] at hy
      refine ⟨fn, _, assign, body, hy, roundIn_of_wpIn trivial (hassign _ X pre x W _ hi ?_)⟩
      clear hy
      intro a' Wa hkfa hkpa hia hax
      have hl' := hkfa.same _ _ (Nat.le_refl _) hl rfl
      have hlt := (Array.getElem?_eq_some_iff.1 hl').1
      refine ⟨_, run_beginRound hl' (by rw [hrec]), ?_⟩
      have hl2 : (Wa.putObj w.heap.size (.loop { rec .ready none with state := .busy })).heap[w.heap.size]? = some (.loop { rec .ready none with state := .busy }) := World.putObj_heap_same hlt
      have hkp2 : Keep n₀ X Wa (Wa.putObj w.heap.size (.loop { rec .ready none with state := .busy })) := keep_put _ (by omega) hXl
      refine wpIn_mono (hbody _ X pre x a' _ (Nat.le_refl _) ⟨_, hl2⟩ hXl (fun k hk => by have h1 := hXs k hk; have h2 := hkpa.size; simp; omega) (hI.put _ hia (Nat.le_refl _) hl' rfl) (hG _ _ _ _ hgx (hkpa.trans hkp2)) ((hAx x a').put (X := X) (s := ()) _ hax (Nat.le_refl _) hl' rfl) hsp) ?_
      have fin : ∀ (jump : Option Code) (W3 : World), KeepsFrom w.heap.size (Wa.putObj w.heap.size (.loop { rec .ready none with state := .busy })) W3 →
          (Instr.endRound w.heap.size jump).run Tryd.prog W3 = .ok (.bool jump.isNone) (W3.putObj w.heap.size (.loop (rec (if jump.isNone then .ready else .done) jump))) ∧
          W3.heap[w.heap.size]? = some (.loop { rec .ready none with state := .busy }) ∧
          (W3.putObj w.heap.size (.loop (rec (if jump.isNone then .ready else .done) jump))).heap[w.heap.size]? = some (.loop (rec (if jump.isNone then .ready else .done) jump)) := fun jump W3 hk3 => by
        have hl3 := hk3.same _ _ (Nat.le_refl _) hl2 rfl
        have := run_endRound (P := Tryd.prog) jump hl3
        rw [hrec] at this ⊢
        exact ⟨this, by rw [hrec] at hl3; exact hl3, World.putObj_heap_same (Array.getElem?_eq_some_iff.1 hl3).1⟩
      have kp : ∀ (W3 : World) (o : Obj), Keep n₀ X (Wa.putObj w.heap.size (.loop { rec .ready none with state := .busy })) W3 → Keep n₀ X W (W3.putObj w.heap.size o) := fun W3 o h3 =>
        ((hkpa.trans hkp2).trans h3).trans (keep_put _ (by omega) hXl)
      rintro e a3 W3 hp
      cases e with
      | normal =>
        obtain ⟨hk3, hkp3, hi3⟩ := hp
        obtain ⟨hr, hl3, hl4⟩ := fin none W3 hk3
        exact ⟨_, _, hr, .inl ⟨rfl, hI.put _ hi3 (Nat.le_refl _) hl3 rfl, hXl, hl4⟩, kp _ _ hkp3⟩
      | ret =>
        obtain ⟨hk3, hkp3, hi3⟩ := hp
        obtain ⟨hr, hl3, hl4⟩ := fin (some .ret) W3 hk3
        exact ⟨_, _, hr, .inr ⟨rfl, .ret, (hIx _).put _ hi3 (Nat.le_refl _) hl3 rfl, hXl, hl4⟩, kp _ _ hkp3⟩
      | exit id =>
        obtain ⟨hk3, hkp3, hi3⟩ := hp
        obtain ⟨hr, hl3, hl4⟩ := fin (some (.exit id)) W3 hk3
        exact ⟨_, _, hr, .inr ⟨rfl, .exit id, (hIx _).put _ hi3 (Nat.le_refl _) hl3 rfl, hXl, hl4⟩, kp _ _ hkp3⟩
      | goto t =>
        obtain ⟨hk3, hkp3, hi3⟩ := hp
        obtain ⟨hr, hl3, hl4⟩ := fin (some (.goto t)) W3 hk3
        exact ⟨_, _, hr, .inr ⟨rfl, .goto t, (hIx _).put _ hi3 (Nat.le_refl _) hl3 rfl, hXl, hl4⟩, kp _ _ hkp3⟩
      | panic ch => exact hp.elim
      | outgrown => exact hp.elim
    · -- behind the iterator
      rintro e W2 ⟨⟨v, rfl⟩, (⟨X, xs, hS, hi, _, hl⟩ | ⟨X, pre, hSp, c, hi, _, hl⟩)⟩
      · exact ⟨none, _, by have := run_endLoop (P := Tryd.prog) hl (by rw [hrec]; simp); rw [hrec] at this; exact this, hdone X xs _ hS (hI.put _ hi (Nat.le_refl _) hl rfl)⟩
      · exact ⟨some c, _, by have := run_endLoop (P := Tryd.prog) hl (by rw [hrec]; simp); rw [hrec] at this; exact this, hstop X c pre _ hSp ((hIx c).put _ hi (Nat.le_refl _) hl rfl)⟩
/-- THE STATEMENT 'for .. := range f { .. }' whose variable lies in a box of its own. -/
theorem range_law2 {α : Type} {g : Operand} {ps : Array Tmp} {assign body : Code} {Q : Exit → Act → World → Prop} {a : Act} {w : World} {gf : Nat} {fb lb : Array Value}
    (hg : a.eval g = .func (.func gf) fb lb) (eg : ∀ args w, (callFunc gf args).run Tryd.prog w = .ok (.enter gf args) w)
    {encs : α → Array Value} {n₀ : Nat} {G : Blocks → α → World → Prop} {S Sp : List α → Prop} {w0 : World} (hseq : SeqX gf fb lb encs n₀ G S Sp w0)
    (hG : ∀ X x W W', G X x W → Keep n₀ X W W' → G X x W') (hn : n₀ ≤ w.heap.size) (hb0 : Below w0.heap.size w0 w) (hps : ∀ x, (encs x).size = ps.size)
    (I : Blocks → List α → World → Prop) (Ix : Code → Blocks → List α → World → Prop) (hI : Stable w.heap.size I) (hIx : ∀ c, Stable w.heap.size (Ix c)) (h0 : I (fun _ => False) [] w)
    (Ax : Blocks → α → Act → World → Prop) (hAx : ∀ X x a' W l o o', Ax X x a' W → w.heap.size ≤ l → W.heap[l]? = some o → o.isCells = false → Ax X x a' (W.putObj l o'))
    (hassign : ∀ (l : Nat) (X : Blocks) (pre : List α) (x : α) (W : World) (K : Act → World → Prop), (∀ k, X k → k < W.heap.size) → I X pre W → (∀ a' W', KeepsFrom w.heap.size W W' → Keep n₀ X W W' → I X pre W' → Ax X x a' W' → K a' W') →
      assign.wpIn (Fence.wide.inRound l) 0 Tryd.prog (Exit.then K (fun _ _ _ => False)) { tmps := (ps.zip (encs x)).foldl (fun t (p, v) => t.setIfInBounds p v) a.tmps, defers := [] } W)
    (hbody : ∀ (l : Nat) (X : Blocks) (pre : List α) (x : α) (a' : Act) (W : World), w.heap.size ≤ l → (∃ r, W.heap[l]? = some (.loop r)) → ¬ X l → (∀ k, X k → k < W.heap.size) → I X pre W → G X x W → Ax X x a' W → Sp (pre ++ [x]) →
      body.wpIn (Fence.wide.inRound l) 0 Tryd.prog (postX w.heap.size n₀ I Ix X (pre ++ [x]) W) a' W)
    (hdone : ∀ (D : Nat) (X : Blocks) (xs : List α) (W : World), w.heap.size ≤ D → S xs → I X xs W → W.heap[D]? = some (.deferred (some [])) → Q .normal { a with defers := { target := .collected D, args := #[] } :: a.defers } W)
    (hstop : ∀ (D : Nat) (X : Blocks) (c : Code) (pre : List α) (W : World), w.heap.size ≤ D → Sp pre → Ix c X pre W → W.heap[D]? = some (.deferred (some [])) → c.wpIn Fence.wide 0 Tryd.prog Q { a with defers := { target := .collected D, args := #[] } :: a.defers } W) :
    (Code.rangeFunc g ps assign body).wpIn Fence.wide 0 Tryd.prog Q a w := by
  refine wpIn_rangeFunc ?_
  intro fn hfn
  obtain ⟨rec, hrec⟩ : ∃ rec : LoopState → Option Code → Loop, rec = fun st pe => { state := st, pending := pe, fn, tmps := a.tmps, params := ps, assign, body, defers := w.heap.size } := ⟨_, rfl⟩
  obtain ⟨W1, hW1⟩ : ∃ W1, (w.alloc (.deferred (some []))).alloc (.loop (rec .ready none)) = W1 := ⟨_, rfl⟩
  have hL1 : W1.heap[w.heap.size + 1]? = some (.loop (rec .ready none)) := by
    rw [← hW1]; have := World.alloc_heap_new (w.alloc (.deferred (some []))) (.loop (rec .ready none)); rwa [World.size_alloc] at this
  have hK1 : W1.heap[w.heap.size]? = some (.deferred (some [])) := by
    rw [← hW1]; exact (Below.heap_alloc _ _ _ (by simp)).trans (World.alloc_heap_new w _)
  have hI1 : I (fun _ => False) [] W1 := by rw [← hW1]; exact hI.new _ (hI.new _ h0)
  have hb1 : Below w0.heap.size w0 W1 := by
    rw [← hW1]; exact hb0.trans ((((Below.refl _ w).alloc (Nat.le_refl _) _).alloc (by simp) _).mono hb0.size)
  refine ⟨w.heap.size + 1, [{ target := .collected w.heap.size, args := #[] }], W1, { target := .fn (.func gf) lb, args := fb ++ #[.func (.yield (w.heap.size + 1)) #[] #[]] }, W1, gf,
    (fb ++ #[.func (.yield (w.heap.size + 1)) #[] #[]]) ++ lb, W1, ?_, ?_, fun f' _ => trivial, ?_, fun h => by simp [Fence.wide] at h, ?_⟩
  · rw [← hW1, hrec]; exact run_enterLoop_outer _ _ _ _ _
  · simp only [resolve, hg]
    simp [go_sem, Deferred.ofValue]
  · simp [invoke, go_sem, eg]
  · refine callsIn_wide.2 ?_
    refine (hseq (w.heap.size + 1)
      (fun X pre W => I X pre W ∧ ¬ X (w.heap.size + 1) ∧ ¬ X w.heap.size ∧ W.heap[w.heap.size + 1]? = some (.loop (rec .ready none)) ∧ W.heap[w.heap.size]? = some (.deferred (some [])))
      (fun X pre W => ∃ c, Ix c X pre W ∧ ¬ X (w.heap.size + 1) ∧ ¬ X w.heap.size ∧ W.heap[w.heap.size + 1]? = some (.loop (rec .done (some c))) ∧ W.heap[w.heap.size]? = some (.deferred (some [])))
      W1 hb1 ?_ ?_ ?_ ⟨hI1, fun h => h, fun h => h, hL1, hK1⟩).mono ?_
    · rintro X X' s A B ⟨h1, h2, h3, h4, h5⟩ ht hX
      have l4 := (Array.getElem?_eq_some_iff.1 h4).1
      refine ⟨hI X X' s A B h1 ht.os ht.tape ht.output ht.size (fun k o hk hx _ => (ht.block k (Array.getElem?_eq_some_iff.1 hk).1 hx).trans hk) hX, fun h => ?_, fun h => ?_, (ht.block _ l4 h2).trans h4, (ht.block _ (by omega) h3).trans h5⟩
      · rcases hX _ h with h | h
        · exact h2 h
        · omega
      · rcases hX _ h with h | h
        · exact h3 h
        · omega
    · rintro X X' s A B ⟨c, h1, h2, h3, h4, h5⟩ ht hX
      have l4 := (Array.getElem?_eq_some_iff.1 h4).1
      refine ⟨c, hIx c X X' s A B h1 ht.os ht.tape ht.output ht.size (fun k o hk hx _ => (ht.block k (Array.getElem?_eq_some_iff.1 hk).1 hx).trans hk) hX, fun h => ?_, fun h => ?_, (ht.block _ l4 h2).trans h4, (ht.block _ (by omega) h3).trans h5⟩
      · rcases hX _ h with h | h
        · exact h2 h
        · omega
      · rcases hX _ h with h | h
        · exact h3 h
        · omega
    · -- one round
      rintro X pre x W hXs ⟨hi, hXl, hXd, hl, hk⟩ hgx hsp
      have hy := run_yield (P := Tryd.prog) (args := encs x) hl (by rw [hrec]; exact hps x)
      rw [hrec] at hy
      refine ⟨fn, _, assign, body, hy, roundIn_of_wpIn trivial (hassign _ X pre x W _ hXs hi ?_)⟩
      clear hy
      intro a' Wa hkfa hkpa hia hax
      have hl' := hkfa.same _ _ (by omega) hl rfl
      have hk' := hkfa.same _ _ (Nat.le_refl _) hk rfl
      have hlt := (Array.getElem?_eq_some_iff.1 hl').1
      refine ⟨_, run_beginRound hl' (by rw [hrec]), ?_⟩
      have hl2 : (Wa.putObj (w.heap.size + 1) (.loop { rec .ready none with state := .busy })).heap[w.heap.size + 1]? = some (.loop { rec .ready none with state := .busy }) := World.putObj_heap_same hlt
      have hk2 : (Wa.putObj (w.heap.size + 1) (.loop { rec .ready none with state := .busy })).heap[w.heap.size]? = some (.deferred (some [])) := (World.putObj_heap_other (by omega)).trans hk'
      have hkp2 : Keep n₀ X Wa (Wa.putObj (w.heap.size + 1) (.loop { rec .ready none with state := .busy })) := keep_put _ (by omega) hXl
      refine wpIn_mono (hbody _ X pre x a' _ (by omega) ⟨_, hl2⟩ hXl (fun k hk => by have h1 := hXs k hk; have h2 := hkpa.size; simp; omega) (hI.put _ hia (by omega) hl' rfl) (hG _ _ _ _ hgx (hkpa.trans hkp2)) (hAx X x a' _ _ _ _ hax (by omega) hl' rfl) hsp) ?_
      have fin : ∀ (jump : Option Code) (W3 : World), KeepsFrom w.heap.size (Wa.putObj (w.heap.size + 1) (.loop { rec .ready none with state := .busy })) W3 →
          (Instr.endRound (w.heap.size + 1) jump).run Tryd.prog W3 = .ok (.bool jump.isNone) (W3.putObj (w.heap.size + 1) (.loop (rec (if jump.isNone then .ready else .done) jump))) ∧
          W3.heap[w.heap.size + 1]? = some (.loop { rec .ready none with state := .busy }) ∧
          (W3.putObj (w.heap.size + 1) (.loop (rec (if jump.isNone then .ready else .done) jump))).heap[w.heap.size + 1]? = some (.loop (rec (if jump.isNone then .ready else .done) jump)) ∧
          (W3.putObj (w.heap.size + 1) (.loop (rec (if jump.isNone then .ready else .done) jump))).heap[w.heap.size]? = some (.deferred (some [])) := fun jump W3 hk3 => by
        have hl3 := hk3.same _ _ (by omega) hl2 rfl
        have := run_endRound (P := Tryd.prog) jump hl3
        rw [hrec] at this ⊢
        exact ⟨this, by rw [hrec] at hl3; exact hl3, World.putObj_heap_same (Array.getElem?_eq_some_iff.1 hl3).1, (World.putObj_heap_other (by omega)).trans (hk3.same _ _ (Nat.le_refl _) hk2 rfl)⟩
      have kp : ∀ (W3 : World) (o : Obj), Keep n₀ X (Wa.putObj (w.heap.size + 1) (.loop { rec .ready none with state := .busy })) W3 → Keep n₀ X W (W3.putObj (w.heap.size + 1) o) := fun W3 o h3 =>
        ((hkpa.trans hkp2).trans h3).trans (keep_put _ (by omega) hXl)
      rintro e a3 W3 hp
      cases e with
      | normal =>
        obtain ⟨hk3, hkp3, hi3⟩ := hp
        obtain ⟨hr, hl3, hl4, hk4⟩ := fin none W3 hk3
        exact ⟨_, _, hr, .inl ⟨rfl, hI.put _ hi3 (by omega) hl3 rfl, hXl, hXd, hl4, hk4⟩, kp _ _ hkp3⟩
      | ret =>
        obtain ⟨hk3, hkp3, hi3⟩ := hp
        obtain ⟨hr, hl3, hl4, hk4⟩ := fin (some .ret) W3 hk3
        exact ⟨_, _, hr, .inr ⟨rfl, .ret, (hIx _).put _ hi3 (by omega) hl3 rfl, hXl, hXd, hl4, hk4⟩, kp _ _ hkp3⟩
      | exit id =>
        obtain ⟨hk3, hkp3, hi3⟩ := hp
        obtain ⟨hr, hl3, hl4, hk4⟩ := fin (some (.exit id)) W3 hk3
        exact ⟨_, _, hr, .inr ⟨rfl, .exit id, (hIx _).put _ hi3 (by omega) hl3 rfl, hXl, hXd, hl4, hk4⟩, kp _ _ hkp3⟩
      | goto t =>
        obtain ⟨hk3, hkp3, hi3⟩ := hp
        obtain ⟨hr, hl3, hl4, hk4⟩ := fin (some (.goto t)) W3 hk3
        exact ⟨_, _, hr, .inr ⟨rfl, .goto t, (hIx _).put _ hi3 (by omega) hl3 rfl, hXl, hXd, hl4, hk4⟩, kp _ _ hkp3⟩
      | panic ch => exact hp.elim
      | outgrown => exact hp.elim
    · -- behind the iterator
      rintro e W2 ⟨⟨v, rfl⟩, (⟨X, xs, hS, hi, _, _, hl, hk⟩ | ⟨X, pre, hSp, c, hi, _, _, hl, hk⟩)⟩
      · exact ⟨none, _, by have := run_endLoop (P := Tryd.prog) hl (by rw [hrec]; simp); rw [hrec] at this; exact this, hdone _ X xs _ (Nat.le_refl _) hS (hI.put _ hi (by omega) hl rfl) ((World.putObj_heap_other (by omega)).trans hk)⟩
      · exact ⟨some c, _, by have := run_endLoop (P := Tryd.prog) hl (by rw [hrec]; simp); rw [hrec] at this; exact this, hstop _ X c pre _ (Nat.le_refl _) hSp ((hIx c).put _ hi (by omega) hl rfl) ((World.putObj_heap_other (by omega)).trans hk)⟩
end Go.Proofs.YtphpablchlpagaaDoor
namespace Go.Proofs.YtphpablchlpagaaDoor
open Go.RowKit
/-- No operation defers a call. -/
def noDefer (ops : List Oper) : Bool := ops.all fun o => match o.op with
  | .defer _ => false
  | _ => true
theorem noDefer_of {ops : List Oper} (h : noDefer ops = true) {o : Oper} (ho : o ∈ ops) : ∀ c, o.op ≠ .defer c := fun c e => by
  have := List.all_eq_true.1 h o ho
  rw [e] at this
  cases this
section
variable {P : Program} {ops : Array Oper} {md : Region.Mode} {C : World → Prop} (l : Nat)
theorem quiet_round {o : Oper} (hd : ∀ c, o.op ≠ .defer c) {a : Act} {K : Act → Prop} {K' : Act → World → Prop} {Q' : Exit → Act → World → Prop} {w : World} (hw : C w) (h : ∀ a w', C w' → K a → K' a w') (hh : o.quiet P a C K) : o.wpIn (Fence.wide.inRound l) 0 P a w K' Q' := by
  obtain ⟨v, h1, h2⟩ := hh
  have h3 := h1 w hw
  unfold Oper.quietAt at h3
  refine ⟨fun _ _ => trivial, ?_⟩
  rw [show (Fence.wide.inRound l).round = some l from rfl, Oper.semAt_some l _ _ hd]
  generalize (execOp a.eval o).run P w = r at *
  cases r with
  | ok n w' =>
    cases n <;> simp only [Oper.quietUpon] at h3 <;> simp only [Oper.uponIn]
    case value u =>
      obtain ⟨e1, e2⟩ := h3
      rw [e1, e2]
      exact h _ _ hw h2
    case skip =>
      obtain ⟨e1, e2⟩ := h3
      rw [e1, ← e2]
      exact h _ _ hw h2
    case enter f args =>
      obtain ⟨e1, hc⟩ := h3
      rw [e1]
      exact ⟨fun h => by simp [Fence.wide] at h, CallsIn.inRound l (callsIn_wide.2 (hc.mono fun e w'' ⟨he, hw''⟩ => by subst he; exact h _ _ hw'' h2))⟩
  | halt x w' => simp only [Oper.quietUpon] at h3
theorem qOp_round (hd : noDefer ops.toList = true) {i : Nat} {a : Act} {K : Act → Prop} {K' : Act → World → Prop} {Q' : Exit → Act → World → Prop} {w : World} (hC : C w) (h : ∀ a w', C w' → K a → K' a w') (hh : qOp P ops C i K a) : wpOpIn (Fence.wide.inRound l) 0 P ops Q' i K' a w := by
  unfold qOp at hh
  unfold wpOpIn
  split
  · rename_i ho; simp only [ho] at hh; exact h _ _ hC hh
  · rename_i o ho
    simp only [ho] at hh
    have hm : o ∈ ops.toList := Array.mem_toList_iff.2 (Array.mem_of_getElem? ho)
    split
    · rename_i hw; simp only [hw, if_true] at hh; exact quiet_round l (noDefer_of hd hm) hC h hh
    · rename_i hw; simp only [hw] at hh; exact ⟨fun _ _ => trivial, h _ _ hC hh⟩
theorem wpAny_round (hd : noDefer ops.toList = true) {Q : Act → Prop} {Q' : Exit → Act → World → Prop} (hQ : ∀ a w, C w → Q a → Q' .normal a w) : ∀ (fuel : Nat) (listed : Array Bool) (a : Act) (w : World), C w →
    wpAnyQ P md ops C Q fuel listed a → wpAnyIn (Fence.wide.inRound l) 0 P md ops Q' fuel listed a w
  | 0, _, _, _, hw, h => ⟨h.1, hQ _ _ hw h.2⟩
  | fuel + 1, _, _, _, hw, h => ⟨fun h0 => hQ _ _ hw (h.1 h0), fun i hi => qOp_round l hd hw (fun a' w' hw' => wpAny_round hd hQ fuel _ a' w' hw') (h.2 i hi)⟩
theorem wp_region_round {id : Nat} {Q : Exit → Act → World → Prop} {a : Act} {w : World} {rs : List Oper} (hm : P.follows .mixedOrders = true) (hB : Region.lexB .any rs.toArray = true) (hd : noDefer rs = true)
    (h : wpQuiet P rs.toArray (fun w' => ∃ n, w' = w.drewN n) (fun a' => ∀ nq, Q .normal a' (w.drewN nq)) rs a) : (Code.region id rs.toArray true).wpIn (Fence.wide.inRound l) 0 P Q a w := by
  simp only [Region.lexB, Bool.and_eq_true] at hB
  refine wpIn_region_any hm (wpAny_round (C := fun w' => ∃ n, w' = w.drewN n) (Q := fun a' => ∀ nq, Q .normal a' (w.drewN nq)) l (by simpa using hd) (fun a' w' ⟨n, hn⟩ h => by rw [hn]; exact h n) _ _ _ _ ⟨1, rfl⟩ ?_)
  have := wpAnyQ_lex (P := P) (C := fun w' => ∃ n, w' = w.drewN n) (md := .any) hB.1 rs 0 (Array.replicate rs.length false) a (by simp) (by simpa using hB.2) h
  simpa using this
end
end Go.Proofs.YtphpablchlpagaaDoor
namespace Go.Proofs.YtphpablchlpagaaDoor
open Go.RowKit Go.Shelf Go.Maps Go.WideAt Go.WideMaps
theorem plainInt : Tryd.prog.plainKey 3 = true := by kernel_rfl
theorem cellsInt : Tryd.prog.cellsOf 3 = 1 := by kernel_rfl
theorem equalIn_pair {t : TypeId} (ht : Tryd.prog.underlying t = some (.array 2 3)) (a b c d : Int) (w : World) : (Op.equalIn 10000 t (.agg #[.int .i64 a, .int .i64 b]) (.agg #[.int .i64 c, .int .i64 d])).run Tryd.prog w = .ok (a == c && b == d) w := by
  obtain ⟨i, hi, -⟩ := info_parts infoInt
  rw [show (10000 : Nat) = 9999 + 1 from rfl, run_equalIn_array w 9999 _ _ ht hi, cellsInt, show List.range 2 = [0, 1] from rfl]
  have p0 : (part 3 #[.int .i64 a, .int .i64 b] (0 * 1)).run Tryd.prog w = .ok (.int .i64 a) w := run_part_plain w plainInt rfl
  have p1 : (part 3 #[.int .i64 a, .int .i64 b] (1 * 1)).run Tryd.prog w = .ok (.int .i64 b) w := run_part_plain w plainInt rfl
  have q0 : (part 3 #[.int .i64 c, .int .i64 d] (0 * 1)).run Tryd.prog w = .ok (.int .i64 c) w := run_part_plain w plainInt rfl
  have q1 : (part 3 #[.int .i64 c, .int .i64 d] (1 * 1)).run Tryd.prog w = .ok (.int .i64 d) w := run_part_plain w plainInt rfl
  have e0 : (Op.equalIn 9999 3 (.int .i64 a) (.int .i64 c)).run Tryd.prog w = .ok (a == c) w := run_equalIn_int w 9998 _ _ _ _ _ Tryd.underlying3
  have e1 : (Op.equalIn 9999 3 (.int .i64 b) (.int .i64 d)).run Tryd.prog w = .ok (b == d) w := run_equalIn_int w 9998 _ _ _ _ _ Tryd.underlying3
  unfold Op.eqItems
  rw [Sem.run_bind, p0, Result.andThen_ok, Sem.run_bind, q0, Result.andThen_ok, Sem.run_bind, e0, Result.andThen_ok]
  cases h : a == c with
  | false => simp
  | true =>
    unfold Op.eqItems
    simp only [Bool.not_true, Bool.false_eq_true, if_false]
    rw [Sem.run_bind, p1, Result.andThen_ok, Sem.run_bind, q1, Result.andThen_ok, Sem.run_bind, e1, Result.andThen_ok]
    cases h2 : b == d <;> simp [Op.eqItems]
theorem noGuard1 : Tryd.prog.eqGuardType Tryd.prog.depth 75 = false := by kernel_rfl
end Go.Proofs.YtphpablchlpagaaDoor
namespace Go.Proofs.YtphpablchlpagaaDoor
def dotS {K : Type} (S : List K) (a b : K → Int) : Int := (S.map fun x => a x * b x).sum
theorem dotS_cons {K : Type} (x : K) (S : List K) (a b : K → Int) : dotS (x :: S) a b = a x * b x + dotS S a b := by simp [dotS]
theorem dotS_erase {K : Type} [DecidableEq K] {c : K} {S : List K} (h : c ∈ S) (a b : K → Int) : dotS S a b = a c * b c + dotS (S.erase c) a b := by
  induction S with
  | nil => cases h
  | cons x S ih =>
    rw [List.erase_cons]
    by_cases e : x = c
    · subst e; simp [dotS_cons]
    · have hm : c ∈ S := by
        rcases List.mem_cons.1 h with h | h
        · exact absurd h.symm e
        · exact h
      rw [if_neg (by simpa using e), dotS_cons, dotS_cons, ih hm]
      omega
theorem dotS_zero {K : Type} {S : List K} {a : K → Int} (b : K → Int) (h : ∀ x ∈ S, a x = 0) : dotS S a b = 0 := by
  induction S with
  | nil => rfl
  | cons x S ih => rw [dotS_cons, h x (by simp), ih fun y hy => h y (by simp [hy])]; simp
theorem dotS_lin {K : Type} (S : List K) (u v : Int) (a a' b : K → Int) : dotS S (fun x => u * a x - v * a' x) b = u * dotS S a b - v * dotS S a' b := by
  induction S with
  | nil => simp [dotS]
  | cons x S ih => rw [dotS_cons, dotS_cons, dotS_cons, ih]; grind
/-- A triangle of t rows wants t coordinates. -/
theorem triangle {K : Type} [DecidableEq K] : ∀ (N t : Nat) (S : List K) (a b : Nat → K → Int), S.length = N → (∀ i, i < t → dotS S (a i) (b i) ≠ 0) → (∀ j i, j < i → i < t → dotS S (a j) (b i) = 0) → t ≤ N
  | N, 0, _, _, _, _, _, _ => Nat.zero_le _
  | 0, t + 1, S, a, b, hS, h1, _ => by
    obtain rfl := List.length_eq_zero_iff.1 hS
    exact absurd rfl (h1 0 (by omega))
  | N + 1, t + 1, S, a, b, hS, h1, h2 => by
    have hc : ∃ c, c ∈ S ∧ a 0 c ≠ 0 := by
      apply Classical.byContradiction
      intro hno
      exact h1 0 (by omega) (dotS_zero (b 0) fun x hx => Classical.byContradiction fun hne => hno ⟨x, hx, hne⟩)
    obtain ⟨c, hc, hne⟩ := hc
    have hred : ∀ j i, i < t → dotS (S.erase c) (fun x => a 0 c * a (j + 1) x - a (j + 1) c * a 0 x) (b (i + 1)) = a 0 c * dotS S (a (j + 1)) (b (i + 1)) := fun j i hi => by
      have e1 := dotS_erase hc (fun x => a 0 c * a (j + 1) x - a (j + 1) c * a 0 x) (b (i + 1))
      rw [dotS_lin, h2 0 (i + 1) (by omega) (by omega)] at e1
      have e2 : a 0 c * a (j + 1) c - a (j + 1) c * a 0 c = 0 := by grind
      simp only [e2] at e1
      omega
    have := triangle N t (S.erase c) (fun j x => a 0 c * a (j + 1) x - a (j + 1) c * a 0 x) (fun i => b (i + 1)) (by rw [List.length_erase_of_mem hc]; omega)
      (fun i hi => by
        rw [hred i i hi]
        exact Int.mul_ne_zero hne (h1 (i + 1) (by omega)))
      (fun j i hji hi => by
        rw [hred j i hi, h2 (j + 1) (i + 1) (by omega) (by omega), Int.mul_zero])
    omega
/-- Polynomials in two letters as lists of terms. -/
def mono (s u : Int) (k : Nat × Nat) : Int := s ^ k.1 * u ^ k.2
def evL (L : List (Int × Nat × Nat)) (s u : Int) : Int := (L.map fun x => x.1 * mono s u x.2).sum
def mulL (e : Int) : List (Int × Nat × Nat) → List (Int × Nat × Nat)
  | [] => []
  | x :: L => (e * e * x.1, x.2.1, x.2.2) :: (-e * x.1, x.2.1 + 1, x.2.2) :: (x.1, x.2.1, x.2.2 + 1) :: mulL e L
theorem evL_cons (x : Int × Nat × Nat) (L : List (Int × Nat × Nat)) (s u : Int) : evL (x :: L) s u = x.1 * mono s u x.2 + evL L s u := by simp [evL]
theorem evL_mul (e : Int) (s u : Int) : ∀ L, evL (mulL e L) s u = (e * e - e * s + u) * evL L s u
  | [] => by simp [mulL, evL]
  | x :: L => by
    rw [mulL, evL_cons, evL_cons, evL_cons, evL_cons, evL_mul e s u L]
    simp only [mono, Int.pow_succ]
    grind
def polyD : List Nat → List (Int × Nat × Nat)
  | [] => [(1, 0, 0)]
  | e :: D => mulL e (polyD D)
/-- The product over a set of states. -/
def prodD (p q : Int) : List Nat → Int
  | [] => 1
  | e :: D => ((e : Int) - p) * ((e : Int) - q) * prodD p q D
theorem evL_polyD (p q : Int) : ∀ D, evL (polyD D) (p + q) (p * q) = prodD p q D
  | [] => by simp [polyD, evL, mono, prodD]
  | e :: D => by rw [polyD, evL_mul, evL_polyD p q D, prodD]; grind
theorem mulL_deg {e : Int} {d : Nat} : ∀ {L : List (Int × Nat × Nat)}, (∀ x ∈ L, x.2.1 + x.2.2 ≤ d) → ∀ x ∈ mulL e L, x.2.1 + x.2.2 ≤ d + 1
  | [], _, x, hx => by simp [mulL] at hx
  | y :: L, h, x, hx => by
    have hy := h y (by simp)
    rw [mulL] at hx
    rcases List.mem_cons.1 hx with rfl | hx
    · simp only; omega
    rcases List.mem_cons.1 hx with rfl | hx
    · simp only; omega
    rcases List.mem_cons.1 hx with rfl | hx
    · simp only; omega
    exact mulL_deg (fun z hz => h z (by simp [hz])) x hx
theorem polyD_deg : ∀ D : List Nat, ∀ x ∈ polyD D, x.2.1 + x.2.2 ≤ D.length
  | [], x, hx => by simp [polyD] at hx; subst hx; simp
  | e :: D, x, hx => mulL_deg (polyD_deg D) x hx
/-- The coefficients. -/
def coefL (L : List (Int × Nat × Nat)) (k : Nat × Nat) : Int := (L.map fun x => if x.2 = k then x.1 else 0).sum
theorem coefL_cons (x : Int × Nat × Nat) (L : List (Int × Nat × Nat)) (k : Nat × Nat) : coefL (x :: L) k = (if x.2 = k then x.1 else 0) + coefL L k := by simp [coefL]
theorem ne_of_erase {K : Type} [DecidableEq K] {S : List K} (hS : S.Nodup) {x k : K} (h : x ∈ S.erase k) : x ≠ k := ((List.Nodup.mem_erase_iff hS).1 h).1
theorem dot_single {S : List (Nat × Nat)} (hS : S.Nodup) (c : Int) {k : Nat × Nat} (hk : k ∈ S) (b : Nat × Nat → Int) : dotS S (fun x => if k = x then c else 0) b = c * b k := by
  rw [dotS_erase hk, dotS_zero]
  · simp
  · intro x hx
    rw [if_neg (Ne.symm (ne_of_erase hS hx))]
theorem dotS_add {K : Type} (S : List K) (a a' b : K → Int) : dotS S (fun x => a x + a' x) b = dotS S a b + dotS S a' b := by
  induction S with
  | nil => rfl
  | cons x S ih => rw [dotS_cons, dotS_cons, dotS_cons, ih]; grind
theorem dot_evL {S : List (Nat × Nat)} (hS : S.Nodup) (s u : Int) : ∀ L : List (Int × Nat × Nat), (∀ x ∈ L, x.2 ∈ S) → dotS S (coefL L) (mono s u) = evL L s u
  | [], _ => by
    exact dotS_zero (a := coefL []) (mono s u) (fun x _ => rfl)
  | x :: L, h => by
    have e : coefL (x :: L) = fun k => (if x.2 = k then x.1 else 0) + coefL L k := funext fun k => coefL_cons x L k
    rw [e, dotS_add, dot_single hS x.1 (h x (by simp)), dot_evL hS s u L fun y hy => h y (by simp [hy]), evL_cons]
/-- The exponents of degree d and less. -/
def expo : Nat → List (Nat × Nat)
  | 0 => [(0, 0)]
  | d + 1 => expo d ++ (List.range (d + 2)).map fun i => (i, d + 1 - i)
theorem expo_mem : ∀ d k, k ∈ expo d ↔ k.1 + k.2 ≤ d
  | 0, k => by
    rw [expo, List.mem_singleton]
    constructor
    · rintro rfl; simp
    · intro h; exact Prod.ext (by simp; omega) (by simp; omega)
  | d + 1, k => by
    rw [expo, List.mem_append, expo_mem d k, List.mem_map]
    constructor
    · rintro (h | ⟨i, hi, rfl⟩)
      · omega
      · have := List.mem_range.1 hi
        simp only; omega
    · intro h
      by_cases e : k.1 + k.2 ≤ d
      · exact .inl e
      · exact .inr ⟨k.1, List.mem_range.2 (by omega), Prod.ext rfl (by simp only; omega)⟩
theorem expo_nodup : ∀ d, (expo d).Nodup
  | 0 => by simp [expo]
  | d + 1 => by
    rw [expo, List.nodup_append]
    refine ⟨expo_nodup d, ?_, ?_⟩
    · unfold List.Nodup
      rw [List.pairwise_map]
      refine List.Pairwise.imp (fun {a b} hlt e => ?_) List.pairwise_lt_range
      have := congrArg Prod.fst e
      simp only at this
      omega
    · rintro a ha b hb rfl
      have h1 := (expo_mem d a).1 ha
      obtain ⟨i, hi, rfl⟩ := List.mem_map.1 hb
      have := List.mem_range.1 hi
      simp only at h1
      omega
theorem expo_len : ∀ d, 2 * (expo d).length = (d + 1) * (d + 2)
  | 0 => by simp [expo]
  | d + 1 => by
    rw [expo, List.length_append, List.length_map, List.length_range, Nat.mul_add, expo_len d]
    grind
theorem prodD_zero {p q : Int} : ∀ {D : List Nat}, (∃ e ∈ D, (e : Int) = p ∨ (e : Int) = q) → prodD p q D = 0
  | [], h => by obtain ⟨e, he, _⟩ := h; cases he
  | y :: D, h => by
    obtain ⟨e, he, h2⟩ := h
    rw [prodD]
    rcases List.mem_cons.1 he with rfl | he
    · rcases h2 with h2 | h2
      · rw [h2, Int.sub_self, Int.zero_mul, Int.zero_mul]
      · rw [h2, Int.sub_self, Int.mul_zero, Int.zero_mul]
    · rw [prodD_zero ⟨e, he, h2⟩, Int.mul_zero]
theorem prodD_ne {p q : Int} : ∀ {D : List Nat}, (∀ e ∈ D, (e : Int) ≠ p ∧ (e : Int) ≠ q) → prodD p q D ≠ 0
  | [], _ => by simp [prodD]
  | y :: D, h => by
    rw [prodD]
    have h1 := h y (by simp)
    exact Int.mul_ne_zero (Int.mul_ne_zero (by omega) (by omega)) (prodD_ne fun e he => h e (by simp [he]))
/-- The bound: pairs P i and sets D i of d states; P i meets each earlier D j, and not its own. -/
theorem pairs_bound {d t : Nat} (D : Nat → List Nat) (p q : Nat → Nat) (hd : ∀ i, i < t → (D i).length ≤ d) (h1 : ∀ i, i < t → p i ∉ D i ∧ q i ∉ D i) (h2 : ∀ j i, j < i → i < t → p i ∈ D j ∨ q i ∈ D j) : 2 * t ≤ (d + 1) * (d + 2) := by
  have hev : ∀ j i, j < t → dotS (expo d) (coefL (polyD (D j))) (mono ((p i : Int) + q i) ((p i : Int) * q i)) = prodD (p i) (q i) (D j) := fun j i hj => by
    rw [dot_evL (expo_nodup d) _ _ _ fun x hx => (expo_mem d x.2).2 (Nat.le_trans (polyD_deg (D j) x hx) (hd j hj)), evL_polyD]
  have := triangle (expo d).length t (expo d) (fun j => coefL (polyD (D j))) (fun i => mono ((p i : Int) + q i) ((p i : Int) * q i)) rfl
    (fun i hi => by
      rw [hev i i hi]
      refine prodD_ne fun e he => ⟨fun h => (h1 i hi).1 ?_, fun h => (h1 i hi).2 ?_⟩
      · rwa [← show e = p i by omega]
      · rwa [← show e = q i by omega])
    (fun j i hji hi => by
      rw [hev j i (by omega)]
      rcases h2 j i hji hi with h | h
      · exact prodD_zero ⟨_, h, .inl rfl⟩
      · exact prodD_zero ⟨_, h, .inr rfl⟩)
  have := expo_len d
  omega
end Go.Proofs.YtphpablchlpagaaDoor
namespace Go.Proofs.YtphpablchlpagaaDoor
open Go.RowKit Go.Shelf
theorem merge_bound {m : List (List Int)} (hv : validM m = true) {C : List Nat} (hC : C.Nodup) (hlt : ∀ c ∈ C, c < m.length) {p q t : Nat} (hp : p ∈ C) (hq : q ∈ C) (hpq : p ≠ q) (hd : mergeP m p q t)
    (hmin : ∀ a ∈ C, ∀ b ∈ C, a ≠ b → ∀ j, j < t → ¬ mergeP m a b j) : 2 * t ≤ (m.length - C.length + 1) * (m.length - C.length + 2) := by
  obtain ⟨u, hu, hul, hur⟩ := hd
  have hinj : ∀ i, i < t → ∀ a ∈ C, ∀ b ∈ C, a ≠ b → runM m a (u.take i) ≠ runM m b (u.take i) := fun i hi a ha b hb hab e =>
    hmin a ha b hb hab i hi ⟨u.take i, allw_take hu i, by rw [List.length_take]; omega, e⟩
  obtain ⟨I, hI⟩ : ∃ I : Nat → List Nat, I = fun i => C.map fun c => runM m c (u.take i) := ⟨_, rfl⟩
  have hIi : ∀ i, I i = C.map fun c => runM m c (u.take i) := fun i => by rw [hI]
  have hIm : ∀ i x, x ∈ I i ↔ ∃ c ∈ C, runM m c (u.take i) = x := fun i x => by rw [hIi, List.mem_map]
  obtain ⟨D, hD⟩ : ∃ D : Nat → List Nat, D = fun i => (List.range m.length).filter fun s => decide (s ∉ I i) := ⟨_, rfl⟩
  have hDm : ∀ i x, x ∈ D i ↔ x < m.length ∧ x ∉ I i := fun i x => by rw [hD]; simp [List.mem_filter]
  refine pairs_bound (d := m.length - C.length) D (fun i => runM m p (u.take i)) (fun i => runM m q (u.take i)) ?_ ?_ ?_
  · intro i hi
    have hnd : ((I i ++ D i).map fun x : Nat => (x : Int)).Nodup := by
      have h0 : (I i ++ D i).Nodup := by
        rw [List.nodup_append]
        refine ⟨?_, ?_, ?_⟩
        · rw [hIi]
          unfold List.Nodup
          rw [List.pairwise_map]
          exact List.Pairwise.imp_of_mem (fun {a b} ha hb hab => hinj i hi a ha b hb hab) hC
        · rw [hD]
          exact List.Pairwise.filter _ (List.nodup_range)
        · rintro a ha b hb rfl
          exact ((hDm i a).1 hb).2 ha
      unfold List.Nodup at h0 ⊢
      rw [List.pairwise_map]
      exact List.Pairwise.imp (fun {a b} hab e => hab (by omega)) h0
    have := nodup_len m.length _ hnd (fun x hx => by
      obtain ⟨y, hy, rfl⟩ := List.mem_map.1 hx
      have : y < m.length := by
        rcases List.mem_append.1 hy with h | h
        · obtain ⟨c, hc, rfl⟩ := (hIm i y).1 h
          exact runQ_lt hv (hlt c hc) (allw_take hu i)
        · exact ((hDm i y).1 h).1
      omega)
    rw [List.length_map, List.length_append, hIi, List.length_map] at this
    omega
  · intro i hi
    exact ⟨fun h => ((hDm i _).1 h).2 ((hIm i _).2 ⟨p, hp, rfl⟩), fun h => ((hDm i _).1 h).2 ((hIm i _).2 ⟨q, hq, rfl⟩)⟩
  · intro j i hji hi
    apply Classical.byContradiction
    intro hno
    have hpl := runQ_lt hv (hlt p hp) (allw_take hu i)
    have hql := runQ_lt hv (hlt q hq) (allw_take hu i)
    have hpI : runM m p (u.take i) ∈ I j := Classical.byContradiction fun h => hno (.inl ((hDm j _).2 ⟨hpl, h⟩))
    have hqI : runM m q (u.take i) ∈ I j := Classical.byContradiction fun h => hno (.inr ((hDm j _).2 ⟨hql, h⟩))
    obtain ⟨a, ha, ea⟩ := (hIm j _).1 hpI
    obtain ⟨b, hb, eb⟩ := (hIm j _).1 hqI
    have hab : a ≠ b := fun e => by
      subst e
      exact hinj i hi p hp q hq hpq (ea.symm.trans eb)
    refine hmin a ha b hb hab (j + (t - i)) (by omega) ⟨u.take j ++ u.drop i, all_append_ok (allw_take hu j) (allw_drop hu i), ?_, ?_⟩
    · rw [List.length_append, List.length_take, List.length_drop]; omega
    · rw [runQ_append, runQ_append, ea, eb, run_split, run_split]
      exact hur
/-- Summed over the sizes. -/
theorem steps_sum {n k k' len t : Nat} (h : 6 * len ≤ (n - k) * (n - k + 1) * (n - k + 2)) (ht : 2 * t ≤ (n - k + 1) * (n - k + 2)) (hk : k' < k) (hkn : k ≤ n) : 6 * (len + t) ≤ (n - k') * (n - k' + 1) * (n - k' + 2) := by
  obtain ⟨d, hd⟩ : ∃ d, d = n - k := ⟨_, rfl⟩
  rw [← hd] at h ht
  have h1 : (d + 1) * (d + 1 + 1) * (d + 1 + 2) ≤ (n - k') * (n - k' + 1) * (n - k' + 2) :=
    Nat.mul_le_mul (Nat.mul_le_mul (by omega) (by omega)) (by omega)
  have h2 : (d + 1) * (d + 1 + 1) * (d + 1 + 2) = d * (d + 1) * (d + 2) + 3 * ((d + 1) * (d + 2)) := by grind
  omega
theorem steps_most {n len : Nat} (hn : 1 ≤ n) (h : 6 * len ≤ (n - 1) * (n - 1 + 1) * (n - 1 + 2)) : len ≤ (n * n * n - n) / 6 := by
  obtain ⟨d, rfl⟩ : ∃ d, n = d + 1 := ⟨n - 1, by omega⟩
  have h2 : (d + 1) * (d + 1) * (d + 1) = (d + 1 - 1) * (d + 1 - 1 + 1) * (d + 1 - 1 + 2) + (d + 1) := by
    rw [show d + 1 - 1 = d by omega]; grind
  omega
end Go.Proofs.YtphpablchlpagaaDoor
namespace Go.Proofs.YtphpablchlpagaaDoor
open Go.RowKit Go.Shelf
def soonStep (m : List (List Int)) (best x : Nat × Nat) : Nat × Nat := if x.1 < x.2 ∧ (best = (0, 0) ∨ mlen m x.1 x.2 < mlen m best.1 best.2) then x else best
/-- The first of the pairs whose shortest words are shortest; (0, 0): there is no pair. -/
def soonOf (m : List (List Int)) (Q : List (Nat × Nat)) : Nat × Nat := Q.foldl (soonStep m) (0, 0)
def soonOk (m : List (List Int)) (Q : List (Nat × Nat)) (r : Nat × Nat) : Prop := (r = (0, 0) ∧ ∀ x ∈ Q, ¬ x.1 < x.2) ∨ (r ∈ Q ∧ r.1 < r.2 ∧ ∀ x ∈ Q, x.1 < x.2 → mlen m r.1 r.2 ≤ mlen m x.1 x.2)
theorem soonOk_step {m : List (List Int)} {Q : List (Nat × Nat)} {r : Nat × Nat} (h : soonOk m Q r) (x : Nat × Nat) : soonOk m (Q ++ [x]) (soonStep m r x) := by
  unfold soonStep
  by_cases e : x.1 < x.2 ∧ (r = (0, 0) ∨ mlen m x.1 x.2 < mlen m r.1 r.2)
  · rw [if_pos e]
    refine .inr ⟨by simp, e.1, fun y hy hlt => ?_⟩
    rcases List.mem_append.1 hy with hy | hy
    · rcases h with ⟨_, h2⟩ | ⟨_, h2, h3⟩
      · exact absurd hlt (h2 y hy)
      · have := h3 y hy hlt
        rcases e.2 with e2 | e2
        · rw [e2] at h2; exact absurd h2 (Nat.lt_irrefl _)
        · omega
    · obtain rfl := List.mem_singleton.1 hy
      exact Int.le_refl _
  · rw [if_neg e]
    rcases h with ⟨h1, h2⟩ | ⟨h1, h2, h3⟩
    · refine .inl ⟨h1, fun y hy => ?_⟩
      rcases List.mem_append.1 hy with hy | hy
      · exact h2 y hy
      · obtain rfl := List.mem_singleton.1 hy
        exact fun hlt => e ⟨hlt, .inl h1⟩
    · refine .inr ⟨List.mem_append_left _ h1, h2, fun y hy hlt => ?_⟩
      rcases List.mem_append.1 hy with hy | hy
      · exact h3 y hy hlt
      · obtain rfl := List.mem_singleton.1 hy
        exact Int.not_lt.1 fun hl => e ⟨hlt, .inr hl⟩
theorem soonOf_snoc (m : List (List Int)) (Q : List (Nat × Nat)) (x : Nat × Nat) : soonOf m (Q ++ [x]) = soonStep m (soonOf m Q) x := by simp [soonOf, List.foldl_append]
theorem soonOf_ok (m : List (List Int)) (Q : List (Nat × Nat)) : soonOk m Q (soonOf m Q) := by
  have : ∀ (Q : List (Nat × Nat)) (k : Nat), k ≤ Q.length → soonOk m (Q.take k) (soonOf m (Q.take k)) := by
    intro Q k
    induction k with
    | zero => exact fun _ => .inl ⟨rfl, fun x hx => by simp at hx⟩
    | succ k ih =>
      intro hk
      rw [List.take_succ_eq_append_getElem (by omega), soonOf_snoc]
      exact soonOk_step (ih (by omega)) _
  have h := this Q Q.length (Nat.le_refl _)
  rwa [List.take_length] at h
/-- All pairs of a list, row by row. -/
def prodL (C : List Nat) : List (Nat × Nat) := C.flatMap fun p => C.map fun q => (p, q)
theorem prodL_mem {C : List Nat} {x : Nat × Nat} : x ∈ prodL C ↔ x.1 ∈ C ∧ x.2 ∈ C := by
  unfold prodL
  simp only [List.mem_flatMap, List.mem_map]
  constructor
  · rintro ⟨p, hp, q, hq, rfl⟩; exact ⟨hp, hq⟩
  · rintro ⟨h1, h2⟩; exact ⟨x.1, h1, x.2, h2, rfl⟩
section
variable {m : List (List Int)} (hv : validM m = true) {C : List Nat} (hC : C.Nodup) (hlt : ∀ c ∈ C, c < m.length) (h2 : 2 ≤ C.length)
include hv hC hlt h2
/-- The pair is one of the set, its word merges it, and is short. -/
theorem greedy_pair (hall : ∀ p q, p < q → q < m.length → ∃ k, mergeP m p q k) : ∃ t, (soonOf m (prodL C)).1 ∈ C ∧ (soonOf m (prodL C)).2 ∈ C ∧ (soonOf m (prodL C)).1 < (soonOf m (prodL C)).2 ∧ mdist m (soonOf m (prodL C)).1 (soonOf m (prodL C)).2 t ∧ 2 * t ≤ (m.length - C.length + 1) * (m.length - C.length + 2) := by
  generalize hr : soonOf m (prodL C) = r
  have hok := soonOf_ok m (prodL C)
  rw [hr] at hok
  rcases hok with ⟨_, hno⟩ | ⟨h3, h4, h5⟩
  · exfalso
    match C, hC, h2 with
    | a :: b :: l, hC, _ =>
      have hne : a ≠ b := fun e => by
        subst e
        exact (List.nodup_cons.1 hC).1 (by simp)
      have := hno (a, b) (prodL_mem.2 ⟨by simp, by simp⟩)
      have := hno (b, a) (prodL_mem.2 ⟨by simp, by simp⟩)
      simp only at *
      omega
  · obtain ⟨a1, a2⟩ := prodL_mem.1 h3
    obtain ⟨k, hk⟩ := hall r.1 r.2 h4 (hlt _ a2)
    obtain ⟨t, _, hd⟩ := mdist_some hk
    refine ⟨t, a1, a2, h4, hd, merge_bound hv hC hlt a1 a2 (by omega) hd.1 fun a ha b hb hab j hj hm => ?_⟩
    have hle : mlen m r.1 r.2 ≤ mlen m a b := by
      rcases Nat.lt_or_ge a b with h | h
      · exact h5 (a, b) (prodL_mem.2 ⟨ha, hb⟩) h
      · rw [mlen_symm hv (hlt a ha) (hlt b hb)]
        exact h5 (b, a) (prodL_mem.2 ⟨hb, ha⟩) (by simp only; omega)
    obtain ⟨i, hi, hdi⟩ := mdist_some hm
    rw [mlen_of hv (hlt _ a1) (hlt _ a2) hd, mlen_of hv (hlt a ha) (hlt b hb) hdi] at hle
    omega
end
/-- A word that merges two states of a set leads to fewer states. -/
theorem image_less {m : List (List Int)} {C C' : List Nat} (hC' : C'.Nodup) {u : List Int} (him : ∀ x ∈ C', ∃ c ∈ C, runM m c u = x) {p q : Nat} (hp : p ∈ C) (hq : q ∈ C) (hpq : p ≠ q) (hu : runM m p u = runM m q u) : C'.length < C.length := by
  have h1 := nodup_sub (A := C') (B := (C.erase q).map fun c => runM m c u) hC' fun x hx => by
    obtain ⟨c, hc, rfl⟩ := him x hx
    by_cases e : c = q
    · subst e
      exact List.mem_map.2 ⟨p, (List.mem_erase_of_ne hpq).2 hp, hu⟩
    · exact List.mem_map.2 ⟨c, (List.mem_erase_of_ne e).2 hc, rfl⟩
  rw [List.length_map, List.length_erase_of_mem hq] at h1
  have := List.length_pos_of_mem hq
  omega
end Go.Proofs.YtphpablchlpagaaDoor
