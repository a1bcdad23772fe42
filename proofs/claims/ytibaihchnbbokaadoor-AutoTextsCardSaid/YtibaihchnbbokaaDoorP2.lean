/-
  Parse of a string that reads as an automaton.
-/
import Derived.Test.YtibaihchnbbokaaDoorP1
import Derived.Maps.AppendAt
import Derived.Lib.SplitLaws
namespace Go.Proofs.YtibaihchnbbokaaDoor
open Go.RowKit Go.Shelf

theorem infoRow : (Tryd.prog.info? 25).map (fun i => (i.zero, i.size, i.bytes)) = some (some (.slice none 0 0), 1, 24) := by kernel_rfl

theorem owns_kept {B n : Nat} {e : TypeId} {s : Nat} {v : Value} {xs : List Value} {w w' : World} (h : w.ownsRow B e s v n xs) (hk : ∀ k, B ≤ k → k < w.heap.size → w'.heap[k]? = w.heap[k]?) : w'.ownsRow B e s v n xs := by
  obtain ⟨h1, h2⟩ := h
  refine ⟨h1, ?_⟩
  rcases h2 with h2 | ⟨g, cap, cur, hv, hB, hh, r⟩
  · exact .inl h2
  · exact .inr ⟨g, cap, cur, hv, hB, by rw [hk g hB (lt_of_block hh)]; exact hh, r⟩

/-- A slice of ints that lies beside a row. -/
def IntsOff (W : World) (base : Nat) (g : Option Nat) (v : Value) (l : List Int) : Prop :=
  ∃ A cap, v = .slice A l.length cap ∧ l.length ≤ big ∧ (∀ i, i < l.length → ∃ b off, A = some ⟨b, off, none⟩ ∧ base ≤ b ∧ some b ≠ g ∧ W.cell? ⟨b, off + i, none⟩ = some (.int .i64 (l.getD i 0)))

theorem IntsOff.ints {W : World} {base : Nat} {g : Option Nat} {v : Value} {l : List Int} (h : IntsOff W base g v l) : Ints W v l := by
  obtain ⟨A, cap, rfl, hl, hc⟩ := h
  exact ⟨A, cap, rfl, hl, fun i hi => by obtain ⟨b, off, hA, _, _, hcell⟩ := hc i hi; exact ⟨b, off, hA, hcell⟩⟩

/-- A row of the call's own from base on, whose elements are slices of ints beside it. -/
def MRows (W : World) (base : Nat) (v : Value) (m : List (List Int)) : Prop :=
  ∃ xs : List Value, W.ownsRow base 25 1 v m.length xs ∧ ∀ i, i < m.length → IntsOff W base v.ownBlock (xs.getD i .nilIface) (m.getD i [])

theorem MRows.nil (W : World) (base : Nat) : MRows W base (.slice none 0 0) [] := ⟨[], ⟨rfl, .inl ⟨rfl, rfl⟩⟩, fun i hi => by simp at hi⟩

theorem MRows.rows {W : World} {base : Nat} {v : Value} {m : List (List Int)} (h : MRows W base v m) (hl : m.length ≤ big) : Rows W v m := by
  obtain ⟨xs, ho, hx⟩ := h
  have hxl : xs.length = m.length := by have := ho.1; omega
  rcases ho.2 with ⟨rfl, h0⟩ | ⟨g, cap, cur, rfl, hb, hg, hn, hc, hs, ht⟩
  · exact ⟨none, 0, by rw [h0], hl, fun i hi => by omega⟩
  · refine ⟨some ⟨g, 0, none⟩, cap, rfl, hl, fun i hi => ⟨g, 0, xs.getD i .nilIface, rfl, ?_, (hx i hi).ints⟩⟩
    have h1 : xs[i]? = some (xs.getD i .nilIface) := by
      simp [List.getElem?_eq_getElem (show i < xs.length by omega), List.getD_eq_getElem?_getD]
    rw [← ht, List.getElem?_take, if_pos (by omega)] at h1
    simp only [World.cell?, hg]
    rw [← ht]
    simpa using h1

/-- Kept by a world that leaves the blocks from base on, but the row's own, as they lay. -/
theorem IntsOff.kept {W W' : World} {base : Nat} {g : Option Nat} {v : Value} {l : List Int} (h : IntsOff W base g v l) (hk : ∀ k, base ≤ k → k < W.heap.size → some k ≠ g → W'.heap[k]? = W.heap[k]?) {g' : Option Nat} (hg : ∀ k, k < W.heap.size → some k ≠ g → some k ≠ g') : IntsOff W' base g' v l := by
  obtain ⟨A, cap, rfl, hl, hc⟩ := h
  refine ⟨A, cap, rfl, hl, fun i hi => ?_⟩
  obtain ⟨b, off, hA, hB, hne, hcell⟩ := hc i hi
  have hb := World.block_lt_of_cell? _ _ hcell
  refine ⟨b, off, hA, hB, hg _ hb hne, ?_⟩
  rw [← hcell]
  exact World.cell?_of_block (w := W) (hk _ hB hb hne)

theorem MRows.kept {W W' : World} {base : Nat} {v : Value} {m : List (List Int)} (h : MRows W base v m) (hk : ∀ k, base ≤ k → k < W.heap.size → W'.heap[k]? = W.heap[k]?) : MRows W' base v m := by
  obtain ⟨xs, ho, hx⟩ := h
  exact ⟨xs, owns_kept ho hk, fun i hi => (hx i hi).kept (fun k hb hs _ => hk k hb hs) (fun _ _ h => h)⟩
theorem MRows.below {W W' : World} {base : Nat} {v : Value} {m : List (List Int)} (h : MRows W base v m) (hb : Below W.heap.size W W') : MRows W' base v m := h.kept fun k _ hk => hb.block k hk

/-- Behind an append of a slice that lies beside. -/
theorem MRows.appended {W W' : World} {base : Nat} {v v' u : Value} {m : List (List Int)} {l : List Int} {xs : List Value} (hx : ∀ i, i < m.length → IntsOff W base v.ownBlock (xs.getD i .nilIface) (m.getD i [])) (hxl : xs.length = m.length)
    (hu : IntsOff W base v.ownBlock u l) (ho : W'.ownsRow base 25 1 v' (m.length + 1) (xs ++ [u])) (hg : W.grownBy W' v.ownBlock) (hat : v'.ownBlock = v.ownBlock ∨ v'.ownBlock = some W.heap.size) : MRows W' base v' (m ++ [l]) := by
  refine ⟨xs ++ [u], by simpa using ho, fun i hi => ?_⟩
  have key : ∀ {x : Value} {r : List Int}, IntsOff W base v.ownBlock x r → IntsOff W' base v'.ownBlock x r := by
    intro x r h
    refine h.kept (fun k _ hk hne => hg.block k hk (fun e => hne e)) (fun k hk hne e => ?_)
    rcases hat with h1 | h1
    · exact hne (e.trans h1)
    · rw [h1] at e
      have : k = W.heap.size := by simpa using e
      omega
  simp only [List.length_append, List.length_cons, List.length_nil] at hi
  by_cases hil : i < m.length
  · have e1 : (xs ++ [u]).getD i .nilIface = xs.getD i .nilIface := by simp [List.getD_eq_getElem?_getD, List.getElem?_append_left (show i < xs.length by omega)]
    have e2 : (m ++ [l]).getD i [] = m.getD i [] := by simp [List.getD_eq_getElem?_getD, List.getElem?_append_left hil]
    rw [e1, e2]
    exact key (hx i hil)
  · obtain rfl : i = m.length := by omega
    have e1 : (xs ++ [u]).getD m.length .nilIface = u := by rw [← hxl]; simp [List.getD_eq_getElem?_getD]
    have e2 : (m ++ [l]).getD m.length [] = l := by simp [List.getD_eq_getElem?_getD]
    rw [e1, e2]
    exact key hu

def parts (sep : UInt8) (s : ByteArray) : List ByteArray := Lib.splitB ⟨#[sep]⟩ 0 (Lib.countB s ⟨#[sep]⟩) s
theorem parts_length (sep : UInt8) (s : ByteArray) : (parts sep s).length = Lib.countB s ⟨#[sep]⟩ + 1 := Lib.splitB_all _ (by show 1 ≤ 1; omega) _ _ _ rfl

/-- The string reads as these numbers. -/
def Reads (s : ByteArray) (m : List (List Int)) : Prop :=
  s.size ≤ 1080 ∧ (parts 32 s).length = m.length ∧ ∀ i, i < m.length → ((parts 32 s).getD i ⟨#[]⟩).size ≤ 1080 ∧ (parts 46 ((parts 32 s).getD i ⟨#[]⟩)).length = (m.getD i []).length ∧
    ∀ j, j < (m.getD i []).length → ((parts 46 ((parts 32 s).getD i ⟨#[]⟩)).getD j ⟨#[]⟩).size ≤ 1080 ∧ Lib.atoiAll ((parts 46 ((parts 32 s).getD i ⟨#[]⟩)).getD j ⟨#[]⟩).data.toList = .ok ((m.getD i []).getD j 0)

theorem awake_reads : Reads ⟨#[49, 46, 48, 32, 48, 46, 48]⟩ [[1, 0], [0, 0]] := by
  refine ⟨by decide, by decide +kernel, fun i hi => ?_⟩
  have h2 : i = 0 ∨ i = 1 := by simp at hi; omega
  rcases h2 with rfl | rfl
  · refine ⟨by decide +kernel, by decide +kernel, fun j hj => ?_⟩
    have h3 : j = 0 ∨ j = 1 := by simp at hj; omega
    rcases h3 with rfl | rfl
    · exact ⟨by decide +kernel, by kernel_rfl⟩
    · exact ⟨by decide +kernel, by kernel_rfl⟩
  · refine ⟨by decide +kernel, by decide +kernel, fun j hj => ?_⟩
    have h3 : j = 0 ∨ j = 1 := by simp at hj; omega
    rcases h3 with rfl | rfl
    · exact ⟨by decide +kernel, by kernel_rfl⟩
    · exact ⟨by decide +kernel, by kernel_rfl⟩
end Go.Proofs.YtibaihchnbbokaaDoor
