/-
  Texts that the proof of the law stands on: N11, N12, N13, N22, N23, N19, N20, N24, N21, Q1, Q2, N27, Q11, N25, N26, N13a, N4, N5, R7, N28, N29, K4, Q3, Q12, Q4, K11.
-/
import Derived.Test.YtpbbpogeleolaaaDoorNdA
import Derived.Laws.EntriesVeiled
import Derived.Deep.RegionHeld
import Derived.BigQuiet
import Derived.Deep.QuietTactic
import Derived.Maps.OwnIn
import Derived.Shelf.RegionOpen
import Derived.WalkMore
import Derived.Scope
import Derived.Deep.RegionWith
import Derived.Maps.AppendAt
import Derived.Deep.CutRange
namespace Go.Proofs.YtpbbpogeleolaaaDoor
open Go.RowKit Go.Shelf
attribute [local go_sem] Oper.semAt_some
/-- What yield is told of a step. -/
def encW (F : Steps) (x : Nat × Value) : Array Value := #[.int .i64 (plB F x.1), x.2]
/-- The number that a box holds. -/
def boxI (v : Value) (w : World) : Nat := match v with
  | .pointer (some a) => (match w.cell? a with | some (.int _ x) => x.toNat | _ => 0)
  | _ => 0
theorem keep_cell {n₀ b : Nat} {X : Blocks} {W W' : World} {v : Value} (h : Keep n₀ X W W') (hX : X b) (hc : W.cell? ⟨b, 0, none⟩ = some v) : W'.cell? ⟨b, 0, none⟩ = some v :=
  (World.cell?_of_block (w := W) (w' := W') (a := ⟨b, 0, none⟩) (h.block b (World.block_lt_of_cell? _ _ hc) (.inr hX))).trans hc
theorem cells_three (w : World) (t : TypeId) (a b c : Value) : ∀ (j : Nat) (u : Value), [a, b, c][j]? = some u → (w.alloc (.cells #[a, b, c] t)).cell? ((⟨w.heap.size, 0, none⟩ : Addr).add j) = some u := by
  intro j u hu
  have hj : j < 3 := by
    have := (List.getElem?_eq_some_iff.1 hu).1
    simpa using this
  have h3 : j = 0 ∨ j = 1 ∨ j = 2 := by omega
  rcases h3 with rfl | rfl | rfl <;> simp at hu <;> subst hu <;> simp [Addr.add]
set_option maxRecDepth 100000 in
set_option maxHeartbeats 2000000 in
theorem Words_seq (ld : Nat → Nat → Nat) (n K s ab b1 b2 b3 n₀ : Nat) (R : World → Prop) (W0 : World) (X0 : Blocks) (hn60 : n ≤ 1000) (hK : K ≤ 1000) (hs : s < n) (hld : ∀ p x, p < n → x < K → ld p x < n)
    (h1 : X0 b1) (h2 : X0 b2) (h3 : X0 b3) (hX0 : ∀ k, X0 k → k < W0.heap.size) (hn₀ : n₀ ≤ W0.heap.size) (hR : ∀ W W', R W → Keep n₀ X0 W W' → R W') (hRW : R W0)
    (hlead : ∀ p x W, R W → p < n → x < K → Calls Tryd.prog 37 #[.int .i64 (p : Nat), .int .i64 (x : Nat), .pointer (some ⟨ab, 0, none⟩)] W fun e W' => e = .returned (.int .i64 (ld p x : Nat)) ∧ Below W.heap.size W W')
    (c1 : W0.cell? ⟨b1, 0, none⟩ = some (.int .i64 s)) (c2 : W0.cell? ⟨b2, 0, none⟩ = some (.int .i64 K)) (c3 : W0.cell? ⟨b3, 0, none⟩ = some (.func (.func 37) #[] #[.pointer (some ⟨ab, 0, none⟩)])) :
    SeqO 38 #[] #[.pointer (some ⟨b1, 0, none⟩), .pointer (some ⟨b2, 0, none⟩), .pointer (some ⟨b3, 0, none⟩)] (encW (bfsTo ld K s n)) n₀ (WordG (bfsTo ld K s n))
      (fun xs => xs.map (·.1) = List.range (bfsTo ld K s n).length) (fun pre => ∃ k, k ≤ (bfsTo ld K s n).length ∧ pre.map (·.1) = List.range k) W0 X0 := by
  obtain ⟨j0, hj, hy0, hy1, hy2⟩ := info_parts infoStep
  intro l J Jx W hW hJ hJx hY h0
  have hWs := hW.size
  have k0 : Keep n₀ X0 W0 W := Keep.of_below hW
  have d1 := (hW.cell (p := ⟨b1, 0, none⟩) (hX0 _ h1)).trans c1
  have d2 := (hW.cell (p := ⟨b2, 0, none⟩) (hX0 _ h2)).trans c2
  have d3 := (hW.cell (p := ⟨b3, 0, none⟩) (hX0 _ h3)).trans c3
  have hRw := hR _ _ hRW k0
  have hsz := hid hX0
  have Hlead := hid hlead
  have HY := hid hY
  have HR := hid hR
  clear hlead hY hR c1 c2 c3 hX0
  obtain ⟨w1, hput, hmap, hgr⟩ := (SeenMap.made W).put (by decide) s (by omega)
  have hmm := @run_makeMap Tryd.prog
  have hgs := hgr.size
  have hWs1 : (W.alloc (.map #[] 0)).heap.size = W.heap.size + 1 := by simp
  have e1 : (W.alloc (.map #[] 0)).cell? ⟨b1, 0, none⟩ = some (.int .i64 s) := ((bal (Below.refl _ W) _).cell (p := ⟨b1, 0, none⟩) (World.block_lt_of_cell? _ _ d1)).trans d1
  have hB1 : Below W.heap.size W w1 := (bal (Below.refl _ W) _).grown hgr (by simp) (fun q hq => by cases hq; exact Nat.le_refl _)
  have f1 := (hB1.cell (p := ⟨b1, 0, none⟩) (World.block_lt_of_cell? _ _ d1)).trans d1
  have f2 := (hB1.cell (p := ⟨b2, 0, none⟩) (World.block_lt_of_cell? _ _ d2)).trans d2
  have f3 := (hB1.cell (p := ⟨b3, 0, none⟩) (World.block_lt_of_cell? _ _ d3)).trans d3
  refine (callsIn_wide (n := 0)).1 ?_
  refine callsIn_of_wp Tryd.func38 rfl trivial ?_ rfl
  simp only [Tryd.ntmps38, List.size_toArray, List.length_cons, List.length_nil, Nat.reduceAdd, Nat.reduceSub, Array.replicate_succ, Array.replicate_zero, List.push_toArray, List.append_toArray, List.nil_append, List.cons_append]
  refine wpIn_wide.2 ?_
  have hX0W : ∀ k, X0 k → k < W.heap.size := fun k hk => by have := hsz.out k hk; omega
  have hST := SW.start (n₀ := n₀) hJ h0 hX0W hB1 (by omega) hmap
  have hgood := hid (fun i => GoodB.bfs (n := n) (K := K) (s := s) (ld := ld) hs hK hld i)
  have hsuc := hid (fun i => show bfsTo ld K s (i + 1) = (if i < (bfsTo ld K s i).length then rowB ld (bfsTo ld K s i) (plB (bfsTo ld K s i) i).toNat i K else bfsTo ld K s i) from rfl)
  have Hld := hid hld
  have HST := hid hST
  clear hST hmap hld
  go_wp2_with fail
  go_loopw [7] (fun r wr => ∃ (i b7 : Nat) (pre : List (Nat × Value)) (X : Blocks) (g cap : Nat), r = .pointer (some ⟨b7, 0, none⟩) ∧ i ≤ (bfsTo ld K s i).length ∧ pre.map (·.1) = List.range i ∧ SW J n₀ X0 W W.heap.size (w1.heap.size + 1) b7 i (bfsTo ld K s i) pre X g cap wr) (fun r wr => n + 1 - boxI r wr)
  case atStart => exact ⟨0, _, [], _, _, _, rfl, Nat.zero_le _, rfl, HST.out⟩
  case round =>
    obtain ⟨i, b7, pre, X, g, cap, rfl, hi, hpre, hSW⟩ := hrel
    have hgi := hgood.out i
    have hlen := hgi.len
    have m7 := hSW.ibox.cell
    have m7f := hSW.ibox.frozen
    have m6 := hSW.mem.box.cell
    have Hpre := hid hpre
    have HS := hid hSW
    clear hpre
    by_cases hlt : i < (bfsTo ld K s i).length
    · have hlts : (i : Int) < (bfsTo ld K s i).length := by omega
      obtain ⟨q1, _, _⟩ := flatB_get _ i hlt
      rw [← hSW.mem.row.cellAt (i * 3) (by omega)] at q1
      obtain ⟨p, hp, hpn⟩ := hgi.below i hlt
      rw [hp] at q1
      have hs1 := hsuc.out i
      rw [if_pos hlt, hp, Int.toNat_natCast] at hs1
      have hpreF : bfsTo ld K s i <+: bfsTo ld K s n := by
        have := bfs_pre_le ld K s i (n - i)
        rwa [show i + (n - i) = n by omega] at this
      have hgn := hgood.out n
      have hFl := hpreF.length_le
      have hpF : plB (bfsTo ld K s n) i = (p : Int) := (pre_pl hpreF i hlt).1.trans hp
      have hwF := wordB_pre hpreF hgi hgn i hlt
      have hG : WordG (bfsTo ld K s n) X (i, .func (.func 39) #[] #[.pointer (some ⟨w1.heap.size + 1, 0, none⟩), .pointer (some ⟨b7, 0, none⟩)]) wr :=
        ⟨_, _, g, cap, _, _, rfl, hSW.mem.x6, hSW.x7, hSW.mem.xg, hSW.mem.box, hSW.ibox, hSW.mem.row, hgi.tree, hlt, by omega, hwF.symm⟩
      have hsp : ∃ k, k ≤ (bfsTo ld K s n).length ∧ (pre ++ [(i, Value.func (.func 39) #[] #[.pointer (some ⟨w1.heap.size + 1, 0, none⟩), .pointer (some ⟨b7, 0, none⟩)])]).map (·.1) = List.range k :=
        ⟨i + 1, by omega, by rw [List.map_append, Hpre.out, List.range_succ]; rfl⟩
      have hy0 := HY.out X pre _ wr hSW.xlt hSW.j hG hsp
      rw [show encW (bfsTo ld K s n) (i, Value.func (.func 39) #[] #[.pointer (some ⟨w1.heap.size + 1, 0, none⟩), .pointer (some ⟨b7, 0, none⟩)]) = #[.int .i64 (p : Nat), Value.func (.func 39) #[] #[.pointer (some ⟨w1.heap.size + 1, 0, none⟩), .pointer (some ⟨b7, 0, none⟩)]] from by unfold encW; rw [hpF]] at hy0
      have Hsp := hid hsp
      have Hs1 := hid hs1
      have HG := hid hgi
      clear hs1 hsp hG hpreF hgn hpF hwF hp hSW hgi
      obtain ⟨pre', hpr'⟩ : ∃ q, pre ++ [(i, Value.func (.func 39) #[] #[.pointer (some ⟨w1.heap.size + 1, 0, none⟩), .pointer (some ⟨b7, 0, none⟩)])] = q := ⟨_, rfl⟩
      rw [hpr'] at hy0 Hsp
      have hpr1 : pre'.map (·.1) = List.range (i + 1) := by rw [← hpr', List.map_append, Hpre.out, List.range_succ]; rfl
      clear hpr'
      obtain ⟨fn, tmps, assign, body, hy, hRd⟩ := hy0
      have Hrd := hid hRd
      have Hpr1 := hid hpr1
      clear hRd hpr1
      have hm0 : boxI (.pointer (some ⟨b7, 0, none⟩)) wr = i := by simp [boxI, m7]
      generalize hBB : bfsTo ld K s i = B at *
      go_upto_region 6 with fail
      refine (wpIn_wide (n := 0)).1 ?_
      gi_wp2_with fail
      refine ⟨rfl, Hrd.out.mono ?_⟩
      rintro e W3 ⟨⟨rfl, hJ3⟩ | ⟨rfl, hJ3⟩, hk3⟩
      · have S3 := HS.out.round hJ3 hk3
        have r2 := keep_cell S3.kept h2 d2
        clear HS m7 m6 q1 hk3 hJ3
        gi_wp2_with fail
        go_wp2_with fail
        go_loopw [34] (fun r wr => ∃ (x : Nat) (X : Blocks) (g cap : Nat), x ≤ K ∧ r = .int .i64 x ∧ SW J n₀ X0 W W.heap.size (w1.heap.size + 1) b7 i (rowB ld B p i x) pre' X g cap wr) (fun r _ => K - (intOf r).toNat)
        case atStart => exact ⟨0, X, g, cap, Nat.zero_le _, rfl, S3⟩
        case round =>
          clear S3 r2
          obtain ⟨x, X, g, cap, hx, rfl, hS⟩ := hrel
          by_cases hxl : x < K
          · have hxs : (x : Int) < K := by omega
            have hgx := GoodB.row HG.out hlt x (by omega) (fun y hy => Hld.out p y hpn (by omega))
            have hlx := hgx.len
            have hRr := HR.out _ _ hRw hS.kept
            have hL := Hlead.out p x wr hRr hpn hxl
            have hqn := Hld.out p x hpn hxl
            have r3 := keep_cell hS.kept h3 d3
            have HSx := hid hS
            have Hs2 := hid (show rowB ld B p i (x + 1) = (if hasP (rowB ld B p i x) (ld p x) then rowB ld B p i x else rowB ld B p i x ++ [(((ld p x : Nat) : Int), (i : Int), (x : Int))]) from rfl)
            clear hS hgx
            generalize rowB ld B p i x = C at *
            generalize ld p x = q at *
            go_wp2_with fail
            refine hL.mono ?_
            rintro e w2 ⟨rfl, hb⟩
            have S2 := HSx.out.below hJ hb
            have hlk := S2.mem.map.look q (by omega)
            cases hb' : hasP C q with
            | true =>
              rw [hb'] at hlk
              have HS2 := hid S2
              clear S2
              go_wp2
              go_roundw
              case rel => exact ⟨x + 1, X, g, cap, by omega, by go_num, by rw [Hs2.out, if_pos hb']; exact HS2.out⟩
              case measure => simp [intOf]; omega
            | false =>
              rw [hb'] at hlk
              obtain ⟨w3, hput3, hm3, hg3⟩ := S2.mem.map.put (by omega) q (by omega)
              obtain ⟨a1, a2, a3⟩ := S2.mem.apart
              have hs3 := hg3.size
              have hgl := own_lt S2.mem.row
              have hbl := S2.mem.box.lt
              have h7l := S2.ibox.lt
              have hml := S2.mem.map.lt
              have hw2 := S2.kept.size
              have t6 : Boxed w3 (w1.heap.size + 1) 72 (.slice (some ⟨g, 0, none⟩) C.length cap) := (hg3.block _ hbl (by simpa using fun e => a1 e.symm)).trans S2.mem.box
              have t7 : Boxed w3 b7 3 (.int .i64 i) := (hg3.block b7 h7l (fun e => by
                obtain ⟨es, c, hmp⟩ := S2.mem.map.isMap
                have h7 := S2.ibox
                unfold Boxed at h7
                cases e
                rw [hmp] at h7; cases h7)).trans S2.ibox
              have tr := owns_block S2.mem.row (hg3.block g hgl.2 (by simpa using fun e => a2 e.symm))
              have t6c := t6.cell
              have t7c := t7.cell
              have HS2 := hid S2
              have Htr := hid tr
              have Hm3 := hid hm3
              have T6 := hid t6
              have hb7' := hid hb'
              clear S2 tr hm3 t6 t7
              have hts : (Value.slice (some ⟨g, 0, none⟩) C.length cap).ownBlock = some g := rfl
              go_wp2_with (at_builtin; refine wpList_append_lies _ rfl _ _ 72 rfl W.heap.size 71 j0 (.agg #[.int .i64 0, .int .i64 0, .int .i64 0]) 3 24 Tryd.underlying72 hj hy0 hy1 hy2 rfl (by decide) (.slice (some ⟨g, 0, none⟩) C.length cap) C.length (flatB C) rfl (owns_block Htr.out (Below.heap_alloc w3 _ _ (by omega))) ⟨w3.heap.size, 0, none⟩ 1 1 [.int .i64 (q : Int), .int .i64 (i : Int), .int .i64 (x : Int)] rfl rfl (cells_three _ _ _ _ _) (by simp [Value.oneCell']) (by decide) (by unfold maxLen; omega) (by omega) (by simp; omega) _ rfl ?_; intro g1 cap1 w5 hown' hgrow' hat hlt1; have t6w : Boxed w5 (w1.heap.size + 1) 72 (.slice (some ⟨g, 0, none⟩) C.length cap) := (hgrow'.block _ (by simp; omega) (by rw [hts]; simpa using a3)).trans ((Below.heap_alloc w3 _ _ (by omega)).trans T6.out); have t6wc := t6w.cell; have t6wf := t6w.frozen)
              obtain ⟨X', hX'⟩ := HS2.out.add hJ (by omega) hX0W Hm3.out hg3 hown' hgrow' (hat.imp (fun e => by rw [hts] at e; exact Option.some.inj e) id)
              have HX := hid hX'
              clear hX'
              go_wp2
              go_roundw
              case rel => exact ⟨x + 1, X', g1, cap1, by omega, by go_num, by rw [Hs2.out, if_neg (by rw [hb7'.out]; decide)]; exact HX.out⟩
              case measure => simp [intOf]; omega
          · obtain rfl : x = K := by omega
            obtain ⟨X', hX'⟩ := hS.next hJ (i' := i + 1)
            have n7 := hS.ibox.cell
            have n7f := hS.ibox.frozen
            have hle := (rowB_pre ld B p i x).length_le
            have HX := hid hX'
            have Hle := hid hle
            clear hS hX' hle
            go_wp2
            go_roundw
            case rel => exact ⟨i + 1, _, pre', X', g, cap, rfl, by rw [Hs1.out]; have := Hle.out; omega, Hpr1.out, by rw [Hs1.out]; exact HX.out⟩
            case measure =>
              have hi1 : boxI (.pointer (some ⟨wr.heap.size, 0, none⟩)) (wr.alloc (.cells #[.int .i64 ((i : Int) + 1)] 3)) = i + 1 := by simp [boxI]
              simp only [hm0, hi1]; omega
      · gi_wp2_with fail
        go_wp2
        (try simp only [Exit.inBlock, Exit.then])
        refine bodyPost_ret (results_none rfl _ _ _) rfl ?_
        exact ⟨⟨_, rfl⟩, .inr ⟨_, pre', Hsp.out, hJ3⟩⟩
    · have hF : bfsTo ld K s n = bfsTo ld K s i := by
        have := bfs_stop ld K s i (by omega) (n - i)
        rwa [show i + (n - i) = n by omega] at this
      have hil : i = (bfsTo ld K s i).length := by omega
      have hlts : ¬ ((i : Int) < (bfsTo ld K s i).length) := by omega
      have HF := hid (show pre.map (·.1) = List.range (bfsTo ld K s n).length by rw [hF, ← hil]; exact Hpre.out)
      have Hj := hid hSW.j
      clear hF hil hSW hgi
      generalize hBB : bfsTo ld K s i = B at *
      go_wp2
      refine bodyPost_end (results_none rfl _ _ _) rfl ?_
      exact ⟨⟨_, rfl⟩, .inl ⟨_, pre, HF.out, Hj.out⟩⟩
end Go.Proofs.YtpbbpogeleolaaaDoor
namespace Go.Proofs.YtpbbpogeleolaaaDoor
open Go.RowKit Go.Shelf
attribute [local go_sem] Oper.semAt_some
set_option maxRecDepth 100000 in
set_option maxHeartbeats 400000 in
theorem lead_any (A : Option Addr) (cap : Nat) (m : List (List Int)) (ab p x : Nat) (w : World) (hc : w.cell? ⟨ab, 0, none⟩ = some (.slice A m.length cap)) (h : Rows w (.slice A m.length cap) m) (hv : validM m = true) (hp : p < m.length) (hx : x < letters m) :
    Calls Tryd.prog 37 #[.int .i64 (p : Nat), .int .i64 (x : Nat), .pointer (some ⟨ab, 0, none⟩)] w fun e w' => e = .returned (.int .i64 (nx m p (x : Int) : Nat)) ∧ Below w.heap.size w w' := by
  obtain ⟨p1, p2, p3, p4, p5⟩ := valid_parts hv
  obtain ⟨A', cap', hA0, hml, hcm⟩ := id h
  cases hA0
  obtain ⟨b, off, r, hA, hcell, hrow⟩ := hcm p hp
  subst hA
  have hrl := (p5 p hp).1
  obtain ⟨Ar, capr, rfl, _, hcr⟩ := id hrow
  rw [hrl] at hcell
  obtain ⟨br, offr, hAr, hct⟩ := hcr x (by omega)
  subst hAr
  have hn := (nx_ok hv hp (x := (x : Int)) (by omega) (by omega)).2
  rw [Int.toNat_natCast] at hn
  rw [hn] at hct
  have hps : (p : Int) < m.length := by omega
  have hxs : (x : Int) < letters m := by omega
  clear hcr hrow hn p5 hcm h hrl
  go_enter Tryd.func37, Tryd.ntmps37
  go_wp2
  go_ret
  exact ⟨rfl, Below.refl _ _⟩
set_option maxRecDepth 100000 in
set_option maxHeartbeats 400000 in
theorem Words_fn (s K : Int) (gf : Nat) (lb : Array Value) (w : World) :
    Calls Tryd.prog 27 #[.int .i64 s, .int .i64 K, .func (.func gf) #[] lb] w fun e w' => e = .returned (.func (.func 38) #[] #[.pointer (some ⟨w.heap.size, 0, none⟩), .pointer (some ⟨w.heap.size + 1, 0, none⟩), .pointer (some ⟨w.heap.size + 1 + 1, 0, none⟩)]) ∧
      w' = ((w.alloc (.cells #[.int .i64 s] 3)).alloc (.cells #[.int .i64 K] 3)).alloc (.cells #[.func (.func gf) #[] lb] 56) := by
  go_enter Tryd.func27, Tryd.ntmps27
  go_wp2
  go_ret
  exact ⟨rfl, rfl⟩
/-- What First returns. -/
def FirstIs (F : Steps) (fnd : Int → Bool) (w : World) (e : Ending) (w' : World) : Prop :=
  ((∃ i r, i < F.length ∧ fnd (plB F i) = true ∧ (∀ j, j < i → fnd (plB F j) = false) ∧ e = .returned (.tuple #[r, .bool true]) ∧ w'.ownsRow w.heap.size 3 1 r (wordB F i).length ((wordB F i).map fun x => .int .i64 x)) ∨
    ((∀ j, j < F.length → fnd (plB F j) = false) ∧ e = .returned (.tuple #[.slice none 0 0, .bool false]))) ∧ Below w.heap.size w w'
/-- None of the places so far was found. -/
def NoneYet (F : Steps) (fnd : Int → Bool) (k : Nat) : Prop := ∀ j, j < k → fnd (plB F j) = false
theorem row_blk2 {w : World} {base : Nat} {e : TypeId} {s : Nat} {v : Value} {n : Nat} {xs : List Value} (h : w.ownsRow base e s v n xs) : ∀ g, v.ownBlock = some g → base ≤ g ∧ g < w.heap.size := by
  intro g hg
  rcases h.2 with ⟨rfl, _⟩ | ⟨g', cap, cur, rfl, hb, hh, _⟩
  · cases hg
  · cases hg; exact ⟨hb, lt_of_block hh⟩
theorem row_mono {w : World} {base base' : Nat} {e : TypeId} {s : Nat} {v : Value} {n : Nat} {xs : List Value} (h : w.ownsRow base e s v n xs) (hb : base' ≤ base) : w.ownsRow base' e s v n xs := by
  refine ⟨h.1, ?_⟩
  rcases h.2 with h' | ⟨g, cap, cur, hv, hg, r⟩
  · exact .inl h'
  · exact .inr ⟨g, cap, cur, hv, Nat.le_trans hb hg, r⟩
theorem put_boxed {W : World} {b D : Nat} {t : TypeId} {v : Value} {x : Option (List Deferred)} (h : Boxed W b t v) (hD : W.heap[D]? = some (.deferred x)) : Boxed (W.putObj D (.deferred none)) b t v :=
  (World.putObj_heap_other (fun e => by
    unfold Boxed at h
    rw [e, hD] at h; cases h)).trans h
theorem sp_last {pre : List (Nat × Value)} {x : Nat × Value} {k : Nat} (h : (pre ++ [x]).map (·.1) = List.range k) : k = pre.length + 1 ∧ x.1 = pre.length := by
  have hl := congrArg List.length h
  simp at hl
  refine ⟨hl.symm, ?_⟩
  have h2 := congrArg (fun l => l[pre.length]?) h
  rw [← hl] at h2
  simpa using h2
set_option maxRecDepth 100000 in
set_option maxHeartbeats 2000000 in
theorem First_any (ld : Nat → Nat → Nat) (n K s ab tb : Nat) (fnd : Int → Bool) (w : World) (hn60 : n ≤ 1000) (hK : K ≤ 1000) (hs : s < n) (hld : ∀ p x, p < n → x < K → ld p x < n)
    (hlead : ∀ p x W, Below w.heap.size w W → p < n → x < K → Calls Tryd.prog 37 #[.int .i64 (p : Nat), .int .i64 (x : Nat), .pointer (some ⟨ab, 0, none⟩)] W fun e W' => e = .returned (.int .i64 (ld p x : Nat)) ∧ Below W.heap.size W W')
    (hfound : ∀ (p : Int) W, Below w.heap.size w W → Calls Tryd.prog 26 #[.int .i64 p, .pointer (some ⟨tb, 0, none⟩)] W fun e W' => e = .returned (.bool (fnd p)) ∧ W = W') :
    Calls Tryd.prog 24 #[.int .i64 s, .int .i64 K, .func (.func 37) #[] #[.pointer (some ⟨ab, 0, none⟩)], .func (.func 26) #[] #[.pointer (some ⟨tb, 0, none⟩)]] w (FirstIs (bfsTo ld K s n) fnd w) := by
  have Hlead := hid hlead
  have Hfound := hid hfound
  clear hlead hfound
  refine (callsIn_wide (n := 0)).1 ?_
  refine callsIn_of_wp_marks Tryd.func24 rfl trivial ?_ rfl
  simp only [Tryd.ntmps24, List.size_toArray, List.length_cons, List.length_nil, Nat.reduceAdd, Nat.reduceSub, Array.replicate_succ, Array.replicate_zero, List.push_toArray, List.append_toArray, List.nil_append, List.cons_append]
  refine wpIn_wide.2 ?_
  go_wp2_with fail
  refine (Words_fn s K _ _ _).mono ?_
  rintro e w2 ⟨rfl, rfl⟩
  go_wp2_with fail
  have q7 := Boxed.new w 58 (.func (.func 26) #[] #[.pointer (some ⟨tb, 0, none⟩)])
  obtain ⟨T1, hT1⟩ : ∃ T, w.alloc (.cells #[.func (.func 26) #[] #[.pointer (some ⟨tb, 0, none⟩)]] 58) = T := ⟨_, rfl⟩
  rw [hT1] at q7
  have z1 : T1.heap.size = w.heap.size + 1 := by rw [← hT1]; simp
  have y1 : Below w.heap.size w T1 := by rw [← hT1]; exact bal (Below.refl _ _) _
  have q8 := Boxed.new T1 35 (.slice none 0 0)
  have q9 := Boxed.new (T1.alloc (.cells #[.slice none 0 0] 35)) 4 (.bool false)
  have p1 := Boxed.new ((T1.alloc (.cells #[.slice none 0 0] 35)).alloc (.cells #[.bool false] 4)) 3 (.int .i64 s)
  have p2 := Boxed.new (((T1.alloc (.cells #[.slice none 0 0] 35)).alloc (.cells #[.bool false] 4)).alloc (.cells #[.int .i64 s] 3)) 3 (.int .i64 K)
  have p3 := Boxed.new ((((T1.alloc (.cells #[.slice none 0 0] 35)).alloc (.cells #[.bool false] 4)).alloc (.cells #[.int .i64 s] 3)).alloc (.cells #[.int .i64 K] 3)) 56 (.func (.func 37) #[] #[.pointer (some ⟨ab, 0, none⟩)])
  have yT := bal (bal (bal (bal (bal y1 (.cells #[.slice none 0 0] 35)) (.cells #[.bool false] 4)) (.cells #[.int .i64 s] 3)) (.cells #[.int .i64 K] 3)) (.cells #[.func (.func 37) #[] #[.pointer (some ⟨ab, 0, none⟩)]] 56)
  have q7 := ((((q7.alloc (.cells #[.slice none 0 0] 35)).alloc (.cells #[.bool false] 4)).alloc (.cells #[.int .i64 s] 3)).alloc (.cells #[.int .i64 K] 3)).alloc (.cells #[.func (.func 37) #[] #[.pointer (some ⟨ab, 0, none⟩)]] 56)
  have q8 := (((q8.alloc (.cells #[.bool false] 4)).alloc (.cells #[.int .i64 s] 3)).alloc (.cells #[.int .i64 K] 3)).alloc (.cells #[.func (.func 37) #[] #[.pointer (some ⟨ab, 0, none⟩)]] 56)
  have q9 := ((q9.alloc (.cells #[.int .i64 s] 3)).alloc (.cells #[.int .i64 K] 3)).alloc (.cells #[.func (.func 37) #[] #[.pointer (some ⟨ab, 0, none⟩)]] 56)
  have p1 := (p1.alloc (.cells #[.int .i64 K] 3)).alloc (.cells #[.func (.func 37) #[] #[.pointer (some ⟨ab, 0, none⟩)]] 56)
  have p2 := p2.alloc (.cells #[.func (.func 37) #[] #[.pointer (some ⟨ab, 0, none⟩)]] 56)
  simp only [World.size_alloc, z1] at q8 q9 p1 p2 p3
  have hTs : (((((T1.alloc (.cells #[.slice none 0 0] 35)).alloc (.cells #[.bool false] 4)).alloc (.cells #[.int .i64 s] 3)).alloc (.cells #[.int .i64 K] 3)).alloc (.cells #[.func (.func 37) #[] #[.pointer (some ⟨ab, 0, none⟩)]] 56)).heap.size = w.heap.size + 6 := by simp only [World.size_alloc, z1]
  rw [hT1]
  generalize (((((T1.alloc (.cells #[.slice none 0 0] 35)).alloc (.cells #[.bool false] 4)).alloc (.cells #[.int .i64 s] 3)).alloc (.cells #[.int .i64 K] 3)).alloc (.cells #[.func (.func 37) #[] #[.pointer (some ⟨ab, 0, none⟩)]] 56)) = T at *
  clear hT1 z1 y1
  have hXT : ∀ k, (k = w.heap.size + 1 + 1 + 1 ∨ k = w.heap.size + 1 + 1 + 1 + 1 ∨ k = w.heap.size + 1 + 1 + 1 + 1 + 1) → k < T.heap.size := fun k hk => by omega
  have hseq := Words_seq ld n K s ab _ _ _ w.heap.size (fun W => Below w.heap.size w W) T (fun k => k = w.heap.size + 1 + 1 + 1 ∨ k = w.heap.size + 1 + 1 + 1 + 1 ∨ k = w.heap.size + 1 + 1 + 1 + 1 + 1) hn60 hK hs hld (.inl rfl) (.inr (.inl rfl)) (.inr (.inr rfl)) hXT yT.size (fun W W' h k => h.trans (k.below h.size)) yT Hlead.out p1.cell p2.cell p3.cell
  generalize bfsTo ld K s n = F at *
  refine (wpIn_wide (n := 0)).1 ?_
  refine range_lawO (gf := 38) (fb := #[]) (lb := #[.pointer (some ⟨w.heap.size + 1 + 1 + 1, 0, none⟩), .pointer (some ⟨w.heap.size + 1 + 1 + 1 + 1, 0, none⟩), .pointer (some ⟨w.heap.size + 1 + 1 + 1 + 1 + 1, 0, none⟩)]) rfl (enters_of Tryd.func38 (by kernel_rfl) rfl)
    hseq hXT (fun _ _ _ _ h k => h.keep k) yT.size (Below.refl _ _) (fun _ => rfl)
    (fun X pre W => (NoneYet F fnd pre.length ∧ Mine X W w.heap.size 58 (.func (.func 26) #[] #[.pointer (some ⟨tb, 0, none⟩)])) ∧ (Mine X W (w.heap.size + 1) 35 (.slice none 0 0) ∧ (Mine X W (w.heap.size + 1 + 1) 4 (.bool false) ∧ Base w.heap.size w X W)))
    (fun c X pre W => (c = .ret ∧ 0 < pre.length ∧ pre.length ≤ F.length ∧ fnd (plB F (pre.length - 1)) = true ∧ NoneYet F fnd (pre.length - 1)) ∧ (MineRow w.heap.size X W (w.heap.size + 1) 35 3 ((wordB F (pre.length - 1)).map fun x => .int .i64 x) ∧ (Mine X W (w.heap.size + 1 + 1) 4 (.bool true) ∧ Base w.heap.size w X W)))
    (Stable.and (Stable.and (stable_pure _ (fun pre : List (Nat × Value) => NoneYet F fnd pre.length)) (stable_box _ _ _ (fun _ => _))) (Stable.and (stable_box _ _ _ (fun _ => _)) (Stable.and (stable_box _ _ _ (fun _ => _)) (stable_base _ _ _ yT.size (Nat.le_refl _)))))
    (fun c => Stable.and (stable_pure _ (fun pre : List (Nat × Value) => c = .ret ∧ 0 < pre.length ∧ pre.length ≤ F.length ∧ fnd (plB F (pre.length - 1)) = true ∧ NoneYet F fnd (pre.length - 1))) (Stable.and (stable_row _ _ _ _ _ (fun pre : List (Nat × Value) => (wordB F (pre.length - 1)).map fun x => .int .i64 x)) (Stable.and (stable_box _ _ _ (fun _ => _)) (stable_base _ _ _ yT.size (Nat.le_refl _)))))
    ⟨⟨fun j hj => absurd hj (Nat.not_lt_zero j), ⟨q7, fun h => by omega⟩⟩, ⟨q8, fun h => by omega⟩, ⟨q9, fun h => by omega⟩, ⟨fun k hk => by omega, yT⟩⟩
    (fun x a' _ => a' = { tmps := #[.int .i64 s, .int .i64 K, .func (.func 37) #[] #[.pointer (some ⟨ab, 0, none⟩)], .func (.func 26) #[] #[.pointer (some ⟨tb, 0, none⟩)], undef, undef, undef, .pointer (some ⟨w.heap.size, 0, none⟩), .pointer (some ⟨w.heap.size + 1, 0, none⟩), .pointer (some ⟨w.heap.size + 1 + 1, 0, none⟩), .int .i64 (plB F x.1), x.2, .int .i64 s, .int .i64 K, .func (.func 37) #[] #[.pointer (some ⟨ab, 0, none⟩)], .func (.func 38) #[] #[.pointer (some ⟨w.heap.size + 1 + 1 + 1, 0, none⟩), .pointer (some ⟨w.heap.size + 1 + 1 + 1 + 1, 0, none⟩), .pointer (some ⟨w.heap.size + 1 + 1 + 1 + 1 + 1, 0, none⟩)], .int .i64 (plB F x.1), x.2, undef, undef, undef, undef, undef], defers := [] })
    (fun _ _ _ _ _ _ _ hs _ _ _ _ _ _ => hs) ?assign ?body ?done ?stop
  case assign =>
    intro l X pre x W' K' hi hK'
    unfold encW
    gi_wp2
    exact hK' _ _ (KeepsFrom.refl _ _) (Keep.refl _ _ _) hi rfl
  case body =>
    rintro l X pre ⟨i, fv⟩ a' W hl hrec hXl hXs ⟨⟨hnone, b7⟩, b8, b9, hB⟩ hG rfl hsp
    obtain ⟨k, hk, hkr⟩ := hsp
    obtain ⟨hk1, hix⟩ := sp_last hkr
    simp only at hix
    subst hix
    obtain ⟨c6, c7, g, cap, B', base, hfv, _⟩ := id hG
    simp only at hfv
    subst hfv
    have hword := word_any F X _ c6 c7 W hG
    have hF := Hfound.out (plB F pre.length) W hB.2
    have m7 := b7.cell; have m8 := b8.cell; have m8f := b8.frozen; have m9 := b9.cell; have m9f := b9.frozen
    cases hf : fnd (plB F pre.length) with
    | false =>
      rw [hf] at hF
      gi_wp2_with fail
      refine ⟨trivial, rfl, (inr l _ hF).mono ?_⟩
      rintro e w' ⟨rfl, rfl⟩
      gi_wp2
      refine ⟨KeepsFrom.refl _ _, Keep.refl _ _ _, ⟨fun j hj => ?_, b7⟩, b8, b9, hB⟩
      by_cases e : j < pre.length
      · exact hnone j e
      · obtain rfl : j = pre.length := by simp at hj; omega
        exact hf
    | true =>
      rw [hf] at hF
      have hlt9 := b9.lt
      have hWb : w.heap.size ≤ W.heap.size := hB.2.size
      gi_wp2_with fail
      refine ⟨trivial, rfl, (inr l _ hF).mono ?_⟩
      rintro e w' ⟨rfl, rfl⟩
      gi_wp2_with fail
      refine ⟨trivial, rfl, (inr l _ hword).mono ?_⟩
      rintro e w3 ⟨r, rfl, hr, hb3⟩
      have d8 := b8.below hb3
      have d9 := b9.below hb3
      have e8 := d8.cell; have e8f := d8.frozen; have e9 := d9.cell; have e9f := d9.frozen
      have hrb : ∀ g, r.ownBlock = some g → W.heap.size ≤ g ∧ g < w3.heap.size := row_blk2 hr
      obtain ⟨rA, rn, rc, rfl⟩ : ∃ A k c, r = .slice A k c := by
        rcases hr.2 with ⟨hu, h0⟩ | ⟨g, cap, cur, hu, hg, hh, _⟩
        · exact ⟨none, 0, 0, hu⟩
        · exact ⟨_, _, cap, hu⟩
      have Hr := hid (row_mono hr hWb)
      clear hr hword
      gi_wp2
      have hpl : (pre ++ [((pre.length : Nat), Value.func (.func 39) #[] #[.pointer (some ⟨c6, 0, none⟩), .pointer (some ⟨c7, 0, none⟩)])]).length = pre.length + 1 := by simp
      refine ⟨((kf_below hb3).trans (kf_set _ _ _ _)).trans (kf_set _ _ _ _), ((Keep.of_below hb3).trans (keep_set _ _ _ (by omega) b8.2)).trans (keep_set _ _ _ (by omega) b9.2), ⟨rfl, by omega, by omega, by rw [hpl]; exact hf, by rw [hpl]; exact hnone⟩, ⟨_, (d8.set _).other (by omega) _, ?_, fun j hj hXj => ?_⟩, (d9.other (by omega) _).set _, hB.step ?_⟩
      · rw [hpl, List.length_map]
        refine ownsRow_same Hr.out fun g hg => ?_
        have := hrb g hg
        rw [Below.heap_setCell _ _ _ _ (by simp; omega), Below.heap_setCell _ _ _ _ (by simp; omega)]
      · have h1 := hrb j hj
        have h2 := hXs j hXj
        omega
      · exact (((hb3.mono hWb)).setCell (p := ⟨w.heap.size + 1, 0, none⟩) (by show w.heap.size ≤ w.heap.size + 1; omega) _).setCell (p := ⟨w.heap.size + 1 + 1, 0, none⟩) (by show w.heap.size ≤ w.heap.size + 1 + 1; omega) _
  case done =>
    rintro D X xs W hD hS ⟨⟨hnone, b7⟩, b8, b9, hB⟩ hK'
    have m8 := b8.cell; have m8f := b8.frozen; have m9 := b9.cell; have m9f := b9.frozen
    have hlen : xs.length = F.length := by have := congrArg List.length hS; simpa using this
    have hTsz := yT.size
    have hDw := (Array.getElem?_eq_some_iff.1 hK').1
    gi_wp2
    go_wp2
    have f1 : (W.setCell ⟨w.heap.size + 1, 0, none⟩ (.slice none 0 0)).heap[D]? = W.heap[D]? := Below.heap_setCell _ _ _ _ (by simp; omega)
    have f2 : ((W.setCell ⟨w.heap.size + 1, 0, none⟩ (.slice none 0 0)).setCell ⟨w.heap.size + 1 + 1, 0, none⟩ (.bool false)).heap[D]? = some (.deferred (some [])) := (Below.heap_setCell _ _ _ _ (by simp; omega)).trans (f1.trans hK')
    have g8 := ((b8.set (.slice none 0 0)).other (b' := w.heap.size + 1 + 1) (by omega) (.bool false)).1
    have g9 := ((b9.other (b' := w.heap.size + 1) (by omega) (.slice none 0 0)).set (.bool false)).1
    have hBW := (hB.2.setCell (p := ⟨w.heap.size + 1, 0, none⟩) (by show w.heap.size ≤ w.heap.size + 1; omega) (.slice none 0 0)).setCell (p := ⟨w.heap.size + 1 + 1, 0, none⟩) (by show w.heap.size ≤ w.heap.size + 1 + 1; omega) (.bool false)
    generalize (W.setCell ⟨w.heap.size + 1, 0, none⟩ (.slice none 0 0)).setCell ⟨w.heap.size + 1 + 1, 0, none⟩ (.bool false) = W9 at *
    refine ⟨by simp, .inl ⟨_, _, rfl, run_takeDeferred f2, ?_⟩⟩
    have k8 := (put_boxed g8 f2).cell
    have k9 := (put_boxed g9 f2).cell
    refine ⟨.tuple #[.slice none 0 0, .bool false], ?_, ⟨.inr ⟨fun j hj => hnone j (by omega), rfl⟩, hBW.trans (belowK_b (w := w) (Nat.le_refl _) _ D _ _ (by omega) f2 rfl rfl)⟩⟩
    · simp only [results, Tryd.results24]
      go_simp
  case stop =>
    rintro D X c pre W hD hSp ⟨⟨rfl, hpos, hle, hfd, hno⟩, ⟨v, hm, ho, hx⟩, b9, hB⟩ hK'
    have hTsz := yT.size
    gi_wp2
    refine ⟨by simp, .inl ⟨_, _, rfl, run_takeDeferred hK', ?_⟩⟩
    obtain ⟨rA, rn, rc, rfl⟩ : ∃ A k c, v = .slice A k c := by
      rcases ho.2 with ⟨hu, h0⟩ | ⟨g, cap, cur, hu, hg, hh, _⟩
      · exact ⟨none, 0, 0, hu⟩
      · exact ⟨_, _, cap, hu⟩
    have k8 := (put_boxed hm.1 hK').cell
    have k9 := (put_boxed b9.1 hK').cell
    have hr := ownsRow_putObj ho (.deferred none) hK' rfl
    rw [List.length_map] at hr
    refine ⟨.tuple #[.slice rA rn rc, .bool true], ?_, ⟨.inl ⟨pre.length - 1, _, by omega, hfd, hno, rfl, hr⟩, hB.2.trans (belowK_b (w := w) (Nat.le_refl _) _ D _ _ (by omega) hK' rfl rfl)⟩⟩
    · simp only [results, Tryd.results24]
      go_simp
end Go.Proofs.YtpbbpogeleolaaaDoor
namespace Go.Proofs.YtpbbpogeleolaaaDoor
open Go.RowKit Go.Shelf
attribute [local go_sem] Oper.semAt_some
set_option maxRecDepth 100000 in
set_option maxHeartbeats 400000 in
theorem lead_fn (v : Value) (w : World) :
    Calls Tryd.prog 25 #[.agg #[v]] w fun e w' => e = .returned (.func (.func 37) #[] #[.pointer (some ⟨w.heap.size, 0, none⟩)]) ∧ w' = w.alloc (.cells #[v] 24) := by
  go_enter Tryd.func25, Tryd.ntmps25
  go_wp2
  go_ret
  exact ⟨rfl, rfl⟩
set_option maxRecDepth 100000 in
set_option maxHeartbeats 400000 in
theorem found_any (p t : Int) (tb : Nat) (w : World) (hc : w.cell? ⟨tb, 0, none⟩ = some (.int .i64 t)) :
    Calls Tryd.prog 26 #[.int .i64 p, .pointer (some ⟨tb, 0, none⟩)] w fun e w' => e = .returned (.bool (decide (p = t))) ∧ w = w' := by
  go_enter Tryd.func26, Tryd.ntmps26
  go_wp2
  go_ret
  exact ⟨by congr, rfl⟩
theorem held_pair {w1 w' : World} {p q : Addr} {u v : Value} (h1 : w1.cell? p = some u) (h2 : w1.cell? q = some v) (hb : Below w1.heap.size w1 w') : Below w1.heap.size w1 w' ∧ w'.cell? p = some u ∧ w'.cell? q = some v :=
  ⟨hb, (hb.cell (p := p) (World.block_lt_of_cell? _ _ h1)).trans h1, (hb.cell (p := q) (World.block_lt_of_cell? _ _ h2)).trans h2⟩
/-- What Path returns of an automaton and two states. -/
def PathIs (F : Steps) (t : Nat) (w : World) (e : Ending) (w' : World) : Prop :=
  ((∃ i r, i < F.length ∧ plB F i = (t : Int) ∧ e = .returned (.tuple #[r, .int .i64 0]) ∧ w'.ownsRow w.heap.size 3 1 r (wordB F i).length ((wordB F i).map fun x => .int .i64 x)) ∨
    ((∀ j, j < F.length → plB F j ≠ (t : Int)) ∧ e = .returned (.tuple #[.slice none 0 0, .int .i64 4]))) ∧ Below w.heap.size w w'
/-- The search from a state of an automaton. -/
def bfsM (m : List (List Int)) (s : Nat) : Steps := bfsTo (fun p x => nx m p (x : Int)) (letters m) s m.length
theorem First_path (A : Option Addr) (cap : Nat) (m : List (List Int)) (s t ab tb : Nat) (w : World) (hv : validM m = true) (h : Rows w (.slice A m.length cap) m) (hs : s < m.length) (ha : w.cell? ⟨ab, 0, none⟩ = some (.slice A m.length cap)) (ht : w.cell? ⟨tb, 0, none⟩ = some (.int .i64 t)) :
    Calls Tryd.prog 24 #[.int .i64 s, .int .i64 (letters m), .func (.func 37) #[] #[.pointer (some ⟨ab, 0, none⟩)], .func (.func 26) #[] #[.pointer (some ⟨tb, 0, none⟩)]] w (FirstIs (bfsM m s) (fun p => decide (p = (t : Int))) w) := by
  obtain ⟨p1, p2, p3, p4, p5⟩ := valid_parts hv
  exact First_any _ m.length (letters m) s ab tb _ w (by omega) (by omega) hs (fun p x hp hx => (nx_ok hv hp (x := (x : Int)) (by omega) (by omega)).1)
    (fun p x W hB hp hx => lead_any A cap m ab p x W ((hB.cell (p := ⟨ab, 0, none⟩) (World.block_lt_of_cell? _ _ ha)).trans ha) (h.below hB) hv hp hx)
    (fun p W hB => found_any p t tb W ((hB.cell (p := ⟨tb, 0, none⟩) (World.block_lt_of_cell? _ _ ht)).trans ht))
theorem follows_late : Tryd.prog.follows .lateStores = true := by kernel_rfl
theorem path_yes {F : Steps} {t : Nat} {w : World} (hex : ∃ i, i < F.length ∧ plB F i = (t : Int)) (e : Ending) (w' : World) (h : FirstIs F (fun p => decide (p = (t : Int))) w e w') :
    ∃ i A k c, e = .returned (.tuple #[.slice A k c, .bool true]) ∧ (i < F.length ∧ plB F i = (t : Int) ∧ w'.ownsRow w.heap.size 3 1 (.slice A k c) (wordB F i).length ((wordB F i).map fun x => .int .i64 x) ∧ Below w.heap.size w w') := by
  obtain ⟨⟨i, r, hi, hf, _, he, hr⟩ | ⟨hno, _⟩, hb⟩ := h
  · obtain ⟨rA, rn, rc, rfl⟩ : ∃ A k c, r = .slice A k c := by
      rcases hr.2 with ⟨hu, h0⟩ | ⟨g, cap, cur, hu, hg, hh, _⟩
      · exact ⟨none, 0, 0, hu⟩
      · exact ⟨_, _, cap, hu⟩
    exact ⟨i, rA, rn, rc, he, hi, of_decide_eq_true hf, hr, hb⟩
  · obtain ⟨i, hi, hp⟩ := hex
    have := hno i hi
    simp [hp] at this
end Go.Proofs.YtpbbpogeleolaaaDoor
namespace Go.Proofs.YtpbbpogeleolaaaDoor
open Go.RowKit Go.Shelf
theorem foldl_nat (m : List (List Int)) : ∀ (u : List Int) (s : Nat), u.all (inB 0 ((letters m : Int) - 1)) = true → u.foldl (nx m) s = (u.map Int.toNat).foldl (fun (p x : Nat) => nx m p (x : Int)) s
  | [], _, _ => rfl
  | x :: u, s, h => by
    rw [List.all_cons, Bool.and_eq_true] at h
    have h0 : 0 ≤ x := by
      have h1 := h.1
      unfold inB at h1
      simp at h1; omega
    rw [List.foldl_cons, List.map_cons, List.foldl_cons, foldl_nat m u _ h.2, Int.toNat_of_nonneg h0]
theorem nat_word {m : List (List Int)} {u : List Int} (h : u.all (inB 0 ((letters m : Int) - 1)) = true) : ∀ x ∈ u.map Int.toNat, x < letters m := by
  intro x hx
  obtain ⟨y, hy, rfl⟩ := List.mem_map.1 hx
  have h1 := List.all_eq_true.1 h y hy
  unfold inB at h1
  simp at h1; omega
theorem ldM_ok {m : List (List Int)} (hv : validM m = true) : ∀ p x, p < m.length → x < letters m → nx m p (x : Int) < m.length := fun p x hp hx => by
  obtain ⟨p1, p2, p3, p4, p5⟩ := valid_parts hv
  exact (nx_ok hv hp (x := (x : Int)) (by omega) (by omega)).1
/-- What a word reaches the search reaches. -/
theorem bfsM_has {m : List (List Int)} (hv : validM m = true) {s t : Nat} (hs : s < m.length) (h : reachP m s t) : ∃ j, j < (bfsM m s).length ∧ plB (bfsM m s) j = (t : Int) := by
  obtain ⟨p1, p2, p3, p4, p5⟩ := valid_parts hv
  obtain ⟨u, hu, hr⟩ := h
  obtain ⟨z1, z2⟩ := bfs_zero (fun p x => nx m p (x : Int)) (letters m) s m.length
  obtain ⟨j, h1, h2, _⟩ := bfs_runs hs (by omega) (ldM_ok hv) (u.map Int.toNat) s 0 (nat_word hu) z1 z2
  refine ⟨j, h1, ?_⟩
  rw [bfsM, h2, ← foldl_nat m u s hu]
  show ((runM m s u : Nat) : Int) = t
  rw [hr]
/-- The word of a step is the first shortest one that leads to its place. -/
theorem bfsM_least {m : List (List Int)} (hv : validM m = true) {s : Nat} (hs : s < m.length) {u : List Int} (hu : u.all (inB 0 ((letters m : Int) - 1)) = true) {j : Nat} (hj : j < (bfsM m s).length) (hp : plB (bfsM m s) j = ((runM m s u : Nat) : Int)) : SLe (wordB (bfsM m s) j) u := by
  obtain ⟨p1, p2, p3, p4, p5⟩ := valid_parts hv
  obtain ⟨j', h1, h2, h3⟩ := word_least hs (by omega : letters m ≤ 1000) (ldM_ok hv) _ (u.map Int.toNat) rfl (nat_word hu)
  rw [← foldl_nat m u s hu] at h2
  have hg := GoodB.bfs (n := m.length) (K := letters m) (s := s) (ld := fun p x => nx m p (x : Int)) hs (by omega) (ldM_ok hv) m.length
  obtain rfl := place_once hg hj h1 (hp.trans h2.symm)
  have e : ((u.map Int.toNat).map fun x : Nat => (x : Int)) = u := by
    rw [List.map_map]
    refine (List.map_congr_left fun x hx => ?_).trans (List.map_id u)
    have h4 := List.all_eq_true.1 hu x hx
    unfold inB at h4
    simp at h4
    simp; omega
  rw [e] at h3
  exact h3
end Go.Proofs.YtpbbpogeleolaaaDoor
namespace Go.Proofs.YtpbbpogeleolaaaDoor
open Go.RowKit Go.Shelf
/-- The letters of the steps but the first one are letters. -/
def LetB (K : Nat) (B : Steps) : Prop := ∀ k, 0 < k → k < B.length → 0 ≤ leB B k ∧ leB B k < K
theorem LetB.add {K : Nat} {B : Steps} (h : LetB K B) (ld : Nat → Nat → Nat) (p i : Nat) {x : Nat} (hx : x < K) : LetB K (addB ld B p i x) := by
  unfold addB
  split
  · exact h
  · obtain ⟨s1, s2, s3⟩ := snoc_pl B (ld p x) (i : Int) (x : Int)
    have hpre : B <+: B ++ [(((ld p x : Nat) : Int), (i : Int), (x : Int))] := List.prefix_append _ _
    intro k h0 hk
    by_cases e : k < B.length
    · rw [(pre_pl hpre k e).2.2]; exact h k h0 e
    · have e2 : k = B.length := by rw [List.length_append] at hk; simp at hk; omega
      subst e2
      rw [s3]; omega
theorem LetB.row {K : Nat} {B : Steps} (h : LetB K B) (ld : Nat → Nat → Nat) (p i : Nat) : ∀ x, x ≤ K → LetB K (rowB ld B p i x)
  | 0, _ => h
  | x + 1, hx => (LetB.row h ld p i x (by omega)).add ld p i (by omega)
theorem LetB.bfs (ld : Nat → Nat → Nat) (K s : Nat) : ∀ i, LetB K (bfsTo ld K s i)
  | 0 => fun k h0 hk => by simp [bfsTo] at hk; omega
  | i + 1 => by
    have ih := LetB.bfs ld K s i
    have e : bfsTo ld K s (i + 1) = (if i < (bfsTo ld K s i).length then rowB ld (bfsTo ld K s i) (plB (bfsTo ld K s i) i).toNat i K else bfsTo ld K s i) := rfl
    rw [e]
    split
    · exact ih.row ld _ i K (Nat.le_refl _)
    · exact ih
theorem word_letters {K : Nat} {B : Steps} (hT : TreeB B) (hL : LetB K B) : ∀ j, j < B.length → (wordB B j).all (inB 0 ((K : Int) - 1)) = true := by
  intro j
  induction j using Nat.strongRecOn with
  | _ j ih =>
    intro hj
    rcases Nat.eq_zero_or_pos j with e | e
    · subst e; rw [wordB_root hT]; rfl
    · obtain ⟨b1, b2⟩ := hT.2.2 j e hj
      obtain ⟨l1, l2⟩ := hL j e hj
      rw [wordB_step hT e hj, List.all_append, ih (frB B j).toNat (by omega) (by omega)]
      simp only [List.all_cons, List.all_nil, Bool.and_true, Bool.true_and]
      exact inB_true ⟨l1, by omega⟩
/-- The word of a step is a word, and leads to its place. -/
theorem bfsM_word {m : List (List Int)} (hv : validM m = true) {s : Nat} (hs : s < m.length) {j : Nat} (hj : j < (bfsM m s).length) :
    (wordB (bfsM m s) j).all (inB 0 ((letters m : Int) - 1)) = true ∧ plB (bfsM m s) j = ((runM m s (wordB (bfsM m s) j) : Nat) : Int) := by
  obtain ⟨p1, p2, p3, p4, p5⟩ := valid_parts hv
  have hg := GoodB.bfs (n := m.length) (K := letters m) (s := s) (ld := fun p x => nx m p (x : Int)) hs (by omega) (ldM_ok hv) m.length
  have hw := word_letters hg.tree (LetB.bfs (fun p x => nx m p (x : Int)) (letters m) s m.length) j hj
  refine ⟨hw, ?_⟩
  have h := word_leads hs (by omega : letters m ≤ 1000) (ldM_ok hv) j hj
  have e := foldl_nat m (wordB (bfsM m s) j) s hw
  unfold runM
  rw [e]
  exact h
end Go.Proofs.YtpbbpogeleolaaaDoor
namespace Go.Proofs.YtpbbpogeleolaaaDoor
open Go.RowKit Go.Shelf
set_option maxRecDepth 100000 in
set_option maxHeartbeats 1000000 in
theorem periodic_form (v : Value) (m : List (List Int)) (w : World) (h : Rows w v m) (hv : validM m = false) :
    Calls Tryd.prog 17 #[.agg #[v]] w fun e w' => e = .returned (.tuple #[.int .i64 0, .slice none 0 0, .int .i64 1]) ∧ Below w.heap.size w w' := by
  obtain ⟨A, cap, rfl, hml, -⟩ := id h
  have hr := h.alloc (.cells #[.slice A m.length cap] 24)
  go_enter Tryd.func17, Tryd.ntmps17
  go_wp2_with fail
  refine (Valid_bool _ m false _ hr hv).mono ?_
  rintro e w1 ⟨rfl, h1⟩
  go_wp2
  go_ret3
  exact ⟨rfl, btr (bal (Below.refl _ _) _) h1⟩
set_option maxRecDepth 100000 in
set_option maxHeartbeats 1000000 in
theorem periodic_arg (v : Value) (m : List (List Int)) (w : World) (h : Rows w v m) (hv : validM m = true) (hc : connM m = false) :
    Calls Tryd.prog 17 #[.agg #[v]] w fun e w' => e = .returned (.tuple #[.int .i64 0, .slice none 0 0, .int .i64 2]) ∧ Below w.heap.size w w' := by
  obtain ⟨A, cap, rfl, hml, -⟩ := id h
  have hr := h.alloc (.cells #[.slice A m.length cap] 24)
  go_enter Tryd.func17, Tryd.ntmps17
  go_wp2_with fail
  refine (Valid_bool _ m true _ hr hv).mono ?_
  rintro e w1 ⟨rfl, h1⟩
  have hbx : w1.cell? ⟨w.heap.size, 0, none⟩ = some (.slice A m.length cap) := (h1.cell (p := ⟨w.heap.size, 0, none⟩) (by simp)).trans (by simp [go_sem])
  have hr1 := hr.below h1
  have hcm := connected_any _ m _ hr1 hv
  rw [hc] at hcm
  go_wp2_with fail
  refine hcm.mono ?_
  rintro e w2 ⟨rfl, h2⟩
  go_wp2
  go_ret3
  exact ⟨rfl, btr (btr (bal (Below.refl _ _) _) h1) h2⟩
end Go.Proofs.YtpbbpogeleolaaaDoor
namespace Go.Proofs.YtpbbpogeleolaaaDoor
open Go.RowKit Go.Shelf
/-- An automaton that has no period, and the error that says so. -/
def BadM (m : List (List Int)) (c : Int) : Prop := (validM m = false ∧ c = 1) ∨ (validM m = true ∧ connM m = false ∧ c = 2)
theorem periodic_bad (v : Value) (m : List (List Int)) (c : Int) (w : World) (h : Rows w v m) (hb : BadM m c) :
    Calls Tryd.prog 17 #[.agg #[v]] w fun e w' => e = .returned (.tuple #[.int .i64 0, .slice none 0 0, .int .i64 c]) ∧ Below w.heap.size w w' := by
  rcases hb with ⟨h1, rfl⟩ | ⟨h1, h2, rfl⟩
  · exact periodic_form v m w h h1
  · exact periodic_arg v m w h h1 h2
set_option maxRecDepth 100000 in
set_option maxHeartbeats 1000000 in
theorem Period_bad (v : Value) (m : List (List Int)) (c : Int) (w : World) (h : Rows w v m) (hb : BadM m c) :
    Calls Tryd.prog 6 #[.agg #[v]] w fun e w' => e = .returned (.tuple #[.int .i64 0, .int .i64 c]) ∧ Below w.heap.size w w' := by
  obtain ⟨A, cap, rfl, hml, -⟩ := id h
  have hr := h.alloc (.cells #[.slice A m.length cap] 24)
  go_enter Tryd.func6, Tryd.ntmps6
  go_wp2_with fail
  refine (periodic_bad _ m c _ hr hb).mono ?_
  rintro e w1 ⟨rfl, h1⟩
  go_wp2
  go_ret2
  exact ⟨rfl, btr (bal (Below.refl _ _) _) h1⟩
end Go.Proofs.YtpbbpogeleolaaaDoor
namespace Go.Proofs.YtpbbpogeleolaaaDoor
open Go.RowKit Go.Shelf
/-- The row of the lengths behind k steps. -/
def lensTo (F : Steps) (n : Nat) : Nat → List Int
  | 0 => List.replicate n 0
  | k + 1 => (lensTo F n k).set (plB F k).toNat ((wordB F k).length : Int)
theorem lensTo_len (F : Steps) (n : Nat) : ∀ k, (lensTo F n k).length = n
  | 0 => by simp [lensTo]
  | k + 1 => by simp [lensTo, lensTo_len F n k]
theorem lensTo_get {F : Steps} {n : Nat} (hF : GoodB n F) : ∀ k, k ≤ F.length → ∀ j, j < k → (lensTo F n k).getD (plB F j).toNat 0 = ((wordB F j).length : Int)
  | 0, _, j, hj => by omega
  | k + 1, hk, j, hj => by
    obtain ⟨p, hp, hpn⟩ := hF.below k (by omega)
    obtain ⟨q, hq, hqn⟩ := hF.below j (by omega)
    have hl := lensTo_len F n k
    simp only [lensTo, List.getD_eq_getElem?_getD, List.getElem?_set]
    by_cases e : (plB F k).toNat = (plB F j).toNat
    · have e2 : plB F k = plB F j := by rw [hp, hq] at e ⊢; simp at e; omega
      have := place_once hF (by omega : k < F.length) (by omega : j < F.length) e2
      subst this
      rw [if_pos e, if_pos (by rw [hp, hl]; simpa using hpn), Option.getD_some]
    · rw [if_neg e, ← List.getD_eq_getElem?_getD]
      by_cases e3 : j = k
      · subst e3; exact absurd rfl e
      · exact lensTo_get hF k (by omega) j (by omega)
theorem lensTo_bound {F : Steps} {n : Nat} (hF : GoodB n F) : ∀ k, k ≤ F.length → ∀ x ∈ lensTo F n k, 0 ≤ x ∧ x ≤ (F.length : Int)
  | 0, _, x, hx => by
    simp only [lensTo] at hx
    obtain ⟨_, rfl⟩ := List.mem_replicate.1 hx
    omega
  | k + 1, hk, x, hx => by
    simp only [lensTo] at hx
    rcases List.mem_or_eq_of_mem_set hx with h | rfl
    · exact lensTo_bound hF k (by omega) x h
    · have := wordB_len hF.tree k (by omega)
      omega
theorem SLe.len {a b : List Int} (h : SLe a b) : a.length ≤ b.length := by
  rcases h with rfl | h | ⟨h, _⟩ <;> omega
/-- The lengths of the shortest words from state 0. -/
def lensM (m : List (List Int)) : List Int := lensTo (bfsM m 0) m.length (bfsM m 0).length
theorem bfsM_good {m : List (List Int)} (hv : validM m = true) {s : Nat} (hs : s < m.length) : GoodB m.length (bfsM m s) := by
  obtain ⟨p1, p2, p3, p4, p5⟩ := valid_parts hv
  exact GoodB.bfs (n := m.length) (K := letters m) (s := s) (ld := fun p x => nx m p (x : Int)) hs (by omega) (ldM_ok hv) m.length
theorem lensM_len (m : List (List Int)) : (lensM m).length = m.length := lensTo_len _ _ _
theorem lensM_get {m : List (List Int)} (hv : validM m = true) (hc : connM m = true) {s : Nat} (hs : s < m.length) :
    ∃ u : List Int, u.all (inB 0 ((letters m : Int) - 1)) = true ∧ runM m 0 u = s ∧ (lensM m).getD s 0 = (u.length : Int) ∧ u.length < m.length ∧ ∀ u' : List Int, u'.all (inB 0 ((letters m : Int) - 1)) = true → runM m 0 u' = s → u.length ≤ u'.length := by
  obtain ⟨p1, p2, p3, p4, p5⟩ := valid_parts hv
  have h0 : 0 < m.length := by omega
  have hg := bfsM_good hv h0
  obtain ⟨j, hj, hp⟩ := bfsM_has hv h0 ((connM_iff m (by omega)).1 hc 0 s h0 hs)
  obtain ⟨w1, w2⟩ := bfsM_word hv h0 hj
  have hl := lensTo_get hg _ (Nat.le_refl _) j hj
  rw [hp, Int.toNat_natCast] at hl
  refine ⟨wordB (bfsM m 0) j, w1, ?_, hl, ?_, fun u' hu' hr => ?_⟩
  · rw [hp] at w2; omega
  · have a1 := wordB_len hg.tree j hj
    have a2 := hg.len
    omega
  · have := bfsM_least hv h0 hu' hj (by rw [hp, hr])
    exact this.len
/-- How much longer the way by a letter is. -/
def excM (L : List Int) (m : List (List Int)) (s x : Nat) : Nat := (L.getD s 0 + 1 - L.getD (nx m s (x : Int)) 0).toNat
def gRow (L : List Int) (m : List (List Int)) (s d : Nat) : Nat → Nat
  | 0 => d
  | x + 1 => Nat.gcd (excM L m s x) (gRow L m s d x)
def gAll (L : List Int) (m : List (List Int)) : Nat → Nat
  | 0 => 0
  | s + 1 => gRow L m s (gAll L m s) (letters m)
/-- The period. -/
def perM (m : List (List Int)) : Nat := gAll (lensM m) m m.length
theorem gcd_le_both {a b B : Nat} (ha : a ≤ B) (hb : b ≤ B) : Nat.gcd a b ≤ B := by
  rcases Nat.eq_zero_or_pos a with e | e
  · subst e; rw [Nat.gcd_zero_left]; exact hb
  · exact Nat.le_trans (Nat.gcd_le_left b e) ha
theorem gRow_le {L : List Int} {m : List (List Int)} {s d B : Nat} (he : ∀ x, excM L m s x ≤ B) (hd : d ≤ B) : ∀ x, gRow L m s d x ≤ B
  | 0 => hd
  | x + 1 => gcd_le_both (he x) (gRow_le he hd x)
theorem gAll_le {L : List Int} {m : List (List Int)} {B : Nat} (he : ∀ s x, excM L m s x ≤ B) : ∀ s, gAll L m s ≤ B
  | 0 => Nat.zero_le _
  | s + 1 => gRow_le (he s) (gAll_le he s) _
theorem gRow_dvd {L : List Int} {m : List (List Int)} {s d : Nat} : ∀ x, gRow L m s d x ∣ d ∧ ∀ y, y < x → gRow L m s d x ∣ excM L m s y
  | 0 => ⟨Nat.dvd_refl _, fun y hy => by omega⟩
  | x + 1 => by
    obtain ⟨h1, h2⟩ := gRow_dvd (L := L) (m := m) (s := s) (d := d) x
    have k1 : gRow L m s d (x + 1) ∣ gRow L m s d x := Nat.gcd_dvd_right _ _
    refine ⟨Nat.dvd_trans k1 h1, fun y hy => ?_⟩
    by_cases e : y = x
    · subst e; exact Nat.gcd_dvd_left _ _
    · exact Nat.dvd_trans k1 (h2 y (by omega))
theorem gAll_dvd {L : List Int} {m : List (List Int)} : ∀ k, ∀ s, s < k → ∀ x, x < letters m → gAll L m k ∣ excM L m s x
  | 0, s, hs, _, _ => by omega
  | k + 1, s, hs, x, hx => by
    obtain ⟨h1, h2⟩ := gRow_dvd (L := L) (m := m) (s := k) (d := gAll L m k) (letters m)
    by_cases e : s = k
    · subst e; exact h2 x hx
    · exact Nat.dvd_trans h1 (gAll_dvd k s (by omega) x hx)
theorem dvd_gRow {L : List Int} {m : List (List Int)} {s d c : Nat} (hd : c ∣ d) : ∀ x, (∀ y, y < x → c ∣ excM L m s y) → c ∣ gRow L m s d x
  | 0, _ => hd
  | x + 1, h => Nat.dvd_gcd (h x (by omega)) (dvd_gRow hd x (fun y hy => h y (by omega)))
theorem dvd_gAll {L : List Int} {m : List (List Int)} {c : Nat} : ∀ k, (∀ s, s < k → ∀ x, x < letters m → c ∣ excM L m s x) → c ∣ gAll L m k
  | 0, _ => Nat.dvd_zero _
  | k + 1, h => dvd_gRow (dvd_gAll k (fun s hs => h s (by omega))) _ (h k (by omega))
section
variable {m : List (List Int)} (hv : validM m = true) (hc : connM m = true)
include hv hc
theorem lensM_bound : ∀ s, s < m.length → 0 ≤ (lensM m).getD s 0 ∧ (lensM m).getD s 0 < m.length := fun s hs => by
  obtain ⟨u, _, _, h3, h4, _⟩ := lensM_get hv hc hs
  omega
/-- A letter leads at most one further. -/
theorem lensM_step {s x : Nat} (hs : s < m.length) (hx : x < letters m) : (lensM m).getD (nx m s (x : Int)) 0 ≤ (lensM m).getD s 0 + 1 := by
  obtain ⟨u, h1, h2, h3, h4, h5⟩ := lensM_get hv hc hs
  have hn := ldM_ok hv s x hs hx
  obtain ⟨u', k1, k2, k3, k4, k5⟩ := lensM_get hv hc hn
  have := k5 (u ++ [(x : Int)]) (by
    rw [List.all_append, h1]
    simp only [List.all_cons, List.all_nil, Bool.and_true, Bool.true_and]
    exact inB_true ⟨by omega, by omega⟩) (by
    unfold runM at h2 ⊢
    rw [List.foldl_append, h2]; rfl)
  simp at this
  omega
theorem excM_eq {s x : Nat} (hs : s < m.length) (hx : x < letters m) : ((excM (lensM m) m s x : Nat) : Int) = (lensM m).getD s 0 + 1 - (lensM m).getD (nx m s (x : Int)) 0 := by
  have := lensM_step hv hc hs hx
  unfold excM
  omega
end
theorem excM_le {L : List Int} {m : List (List Int)} {B : Int} (hB : 0 ≤ B) (hL : ∀ i, 0 ≤ L.getD i 0 ∧ L.getD i 0 ≤ B) (s x : Nat) : (excM L m s x : Int) ≤ B + 1 := by
  have h1 := hL s
  have h2 := hL (nx m s (x : Int))
  unfold excM
  omega
theorem lensM_any (m : List (List Int)) (hv : validM m = true) (i : Nat) : 0 ≤ (lensM m).getD i 0 ∧ (lensM m).getD i 0 ≤ 60 := by
  obtain ⟨p1, p2, p3, p4, p5⟩ := valid_parts hv
  have hg := bfsM_good hv (s := 0) (by omega)
  have hl := hg.len
  rw [List.getD_eq_getElem?_getD]
  cases h : (lensM m)[i]? with
  | none => simp
  | some x =>
    have := lensTo_bound hg _ (Nat.le_refl _) x (List.mem_of_getElem? h)
    simp; omega
theorem perM_le (m : List (List Int)) (hv : validM m = true) (k : Nat) : gAll (lensM m) m k ≤ 61 := gAll_le (fun s x => by have := excM_le (L := lensM m) (m := m) (B := 60) (by omega) (lensM_any m hv) s x; omega) k
end Go.Proofs.YtpbbpogeleolaaaDoor
namespace Go.Proofs.YtpbbpogeleolaaaDoor
open Go.RowKit Go.Shelf
/-- A slice of bools that reads as a list. -/
def Bools (w : World) (v : Value) (l : List Bool) : Prop :=
  ∃ A cap, v = .slice A l.length cap ∧ l.length ≤ big ∧ ∀ i, i < l.length → ∃ b off, A = some ⟨b, off, none⟩ ∧ w.cell? ⟨b, off + i, none⟩ = some (.bool (l.getD i false))
theorem Bools.below {w w' : World} {v : Value} {l : List Bool} (h : Bools w v l) (hb : Below w.heap.size w w') : Bools w' v l := by
  obtain ⟨A, cap, hv, hl, hc⟩ := h
  refine ⟨A, cap, hv, hl, fun i hi => ?_⟩
  obtain ⟨b, off, hA, hcell⟩ := hc i hi
  exact ⟨b, off, hA, (hb.cell (p := ⟨b, off + i, none⟩) (World.block_lt_of_cell? _ _ hcell)).trans hcell⟩
theorem Bools.of_own {W : World} {n₀ : Nat} {e : TypeId} {v : Value} {l : List Bool} (h : W.ownsRow n₀ e 1 v l.length (l.map fun x => .bool x)) (hl : l.length ≤ big) : Bools W v l := by
  rcases h.2 with ⟨rfl, h0⟩ | ⟨g, cap, cur, rfl, hb, hg, hn, hc, hs, ht⟩
  · exact ⟨none, 0, by rw [h0], hl, fun i hi => by omega⟩
  · refine ⟨some ⟨g, 0, none⟩, cap, rfl, hl, fun i hi => ⟨g, 0, rfl, ?_⟩⟩
    have h1 : (l.map fun x => Value.bool x)[i]? = some (.bool (l.getD i false)) := by
      simp [List.getElem?_map, List.getElem?_eq_getElem hi, List.getD_eq_getElem?_getD]
    rw [← ht, List.getElem?_take, if_pos (by omega)] at h1
    simp only [World.cell?, hg]
    simpa using h1
set_option maxHeartbeats 400000 in
theorem rFull_any (v : Value) (l : List Bool) (w : World) (h : Bools w v l) :
    Calls Tryd.prog 9 #[v] w fun e w' => e = .returned (.bool (l.all id)) ∧ w = w' := by
  obtain ⟨A, cap, rfl, hl, hc⟩ := h
  unfold big at hl
  go_enter Tryd.func9, Tryd.ntmps9
  go_wp2
  go_loop [3] (fun i => ∃ k : Nat, k ≤ l.length ∧ i = .int .i64 k ∧ (l.take k).all id = true) (fun i => l.length - (intOf i).toNat)
  case atStart => exact ⟨0, Nat.zero_le _, rfl, rfl⟩
  case round =>
    obtain ⟨k, hk, rfl, hall⟩ := hrel
    by_cases hlt : k < l.length
    · obtain ⟨b, off, hA, hcell⟩ := hc k hlt
      have hs := all_snoc_take id l false k hlt
      rw [hall, Bool.true_and] at hs
      have hf := all_false_of id l false k hlt
      have Hs := hid hs
      have Hf := hid hf
      clear hs hf hall hc
      generalize hx : l.getD k false = x at *
      clear hx
      subst hA
      have hks : (k : Int) < l.length := by omega
      cases x with
      | false =>
        go_wp2
        go_ret
        exact ⟨ret_bool (Hf.out rfl).symm, rfl⟩
      | true =>
        go_wp2
        go_round
        case rel => exact ⟨k + 1, by omega, by go_num, Hs.out⟩
        case measure => simp [intOf]; omega
    · obtain rfl : k = l.length := by omega
      rw [List.take_length] at hall
      have hks : ¬ ((l.length : Int) < l.length) := by omega
      go_wp2
      go_ret
      exact ⟨rfl, rfl⟩
theorem infoBool : (Tryd.prog.info? 4).map (fun i => (i.zero, i.size, i.bytes)) = some (some (.bool false), 1, 1) := by kernel_rfl
/-- The states of which one alone is true. -/
def onlyL (n s : Nat) : List Bool := (List.replicate n false).set s true
set_option maxRecDepth 100000 in
set_option maxHeartbeats 1000000 in
theorem rOnly_any (v : Value) (m : List (List Int)) (s : Nat) (w : World) (h : Rows w v m) (hm : m.length ≤ 1000) (hs : s < m.length) :
    Calls Tryd.prog 7 #[.agg #[v], .int .i64 s] w fun e w' => ∃ r, e = .returned r ∧ w'.ownsRow w.heap.size 4 1 r (onlyL m.length s).length ((onlyL m.length s).map fun x => .bool x) ∧ Below w.heap.size w w' := by
  obtain ⟨j0, hj, hy0, hy1, hy2⟩ := info_parts infoBool
  obtain ⟨A, cap, rfl, hml, -⟩ := id h
  clear h
  have hX := bal (Below.refl _ w) (.cells #[.slice A m.length cap] 24)
  have hss : (s : Int) < m.length := by omega
  generalize hM : m.length = n at *
  clear hM
  go_enter Tryd.func7, Tryd.ntmps7
  go_wp2_with (at_make; refine wpList_make_full _ rfl _ _ 30 rfl w.heap.size 4 j0 (.bool false) 1 Tryd.underlying30 hj hy0 hy1 .i64 .i64 _ _ n rfl rfl rfl rfl (by rw [hy2]; omega) (by unfold maxLen; omega) (by simp) ?_; intro w1 hown hgrow; rw [show Value.cells (.bool false) = #[.bool false] from rfl, toList_madeCells_one, Nat.mul_one] at hown; simp only [World.size_alloc] at hown; have hB1 := hX.grown hgrow (by simp) (fun q hq => by cases hq); have hcA := hown.cellAt s (by omega); have hfA := hown.frozenAt s; rw [List.getElem?_replicate, if_pos hs] at hcA; have hst := (hown.stored s (.bool true)).1)
  go_ret
  have hlen : (onlyL n s).length = n := by simp [onlyL]
  have hmap : (onlyL n s).map (fun x => Value.bool x) = (List.replicate n (Value.bool false)).set s (.bool true) := by simp [onlyL, List.map_set]
  refine ⟨_, rfl, ?_, hB1.setCell (p := ⟨w.heap.size + 1, s, none⟩) (by show w.heap.size ≤ w.heap.size + 1; omega) _⟩
  rw [hmap, hlen]
  exact hst
end Go.Proofs.YtpbbpogeleolaaaDoor
namespace Go.Proofs.YtpbbpogeleolaaaDoor
open Go.RowKit Go.Shelf
def stX (m : List (List Int)) (s : Nat) (out : List Bool) : Nat → List Bool
  | 0 => out
  | x + 1 => (stX m s out x).set (nx m s (x : Int)) true
def stTo (m : List (List Int)) (l : List Bool) : Nat → List Bool
  | 0 => List.replicate l.length false
  | s + 1 => if l.getD s false then stX m s (stTo m l s) (letters m) else stTo m l s
/-- The states to which some letter leads from some states. -/
def stepM (m : List (List Int)) (l : List Bool) : List Bool := stTo m l l.length
theorem stX_len (m : List (List Int)) (s : Nat) (out : List Bool) : ∀ x, (stX m s out x).length = out.length
  | 0 => rfl
  | x + 1 => by simp [stX, stX_len m s out x]
theorem stTo_len (m : List (List Int)) (l : List Bool) : ∀ s, (stTo m l s).length = l.length
  | 0 => by simp [stTo]
  | s + 1 => by
    simp only [stTo]
    split
    · rw [stX_len, stTo_len m l s]
    · exact stTo_len m l s
theorem stepM_len (m : List (List Int)) (l : List Bool) : (stepM m l).length = l.length := stTo_len m l _
theorem getD_set_true {l : List Bool} {i j : Nat} (hi : i < l.length) : (l.set i true).getD j false = (decide (i = j) || l.getD j false) := by
  simp only [List.getD_eq_getElem?_getD, List.getElem?_set]
  by_cases e : i = j
  · subst e; simp [hi]
  · simp [e]
theorem stX_get {m : List (List Int)} {s : Nat} {out : List Bool} (hn : ∀ x, x < letters m → nx m s (x : Int) < out.length) : ∀ k, k ≤ letters m → ∀ t, (stX m s out k).getD t false = true ↔ out.getD t false = true ∨ ∃ x, x < k ∧ nx m s (x : Int) = t
  | 0, _, t => by simp [stX]
  | k + 1, hk, t => by
    simp only [stX]
    rw [getD_set_true (by rw [stX_len]; exact hn k (by omega)), Bool.or_eq_true, decide_eq_true_eq, stX_get hn k (by omega) t]
    constructor
    · rintro (h | h | ⟨x, hx, h⟩)
      · exact .inr ⟨k, by omega, h⟩
      · exact .inl h
      · exact .inr ⟨x, by omega, h⟩
    · rintro (h | ⟨x, hx, h⟩)
      · exact .inr (.inl h)
      · by_cases e : x = k
        · subst e; exact .inl h
        · exact .inr (.inr ⟨x, by omega, h⟩)
theorem stTo_get {m : List (List Int)} {l : List Bool} (hv : validM m = true) (hl : l.length = m.length) : ∀ k, k ≤ l.length → ∀ t, (stTo m l k).getD t false = true ↔ ∃ s, s < k ∧ l.getD s false = true ∧ ∃ x, x < letters m ∧ nx m s (x : Int) = t
  | 0, _, t => by simp [stTo, List.getD_eq_getElem?_getD, List.getElem?_replicate]; split <;> simp
  | k + 1, hk, t => by
    have ih := stTo_get hv hl k (by omega) t
    simp only [stTo]
    have hn : ∀ x, x < letters m → nx m k (x : Int) < (stTo m l k).length := fun x hx => by
      obtain ⟨p1, p2, p3, p4, p5⟩ := valid_parts hv
      rw [stTo_len, hl]
      exact (nx_ok hv (s := k) (by omega) (x := (x : Int)) (by omega) (by omega)).1
    cases hb : l.getD k false with
    | false =>
      rw [if_neg (by decide), ih]
      constructor
      · rintro ⟨s, hs, h⟩; exact ⟨s, by omega, h⟩
      · rintro ⟨s, hs, h1, h⟩
        have : s ≠ k := fun e => by subst e; rw [hb] at h1; cases h1
        exact ⟨s, by omega, h1, h⟩
    | true =>
      rw [if_pos rfl, stX_get hn _ (Nat.le_refl _) t, ih]
      constructor
      · rintro (⟨s, hs, h⟩ | h)
        · exact ⟨s, by omega, h⟩
        · exact ⟨k, by omega, hb, h⟩
      · rintro ⟨s, hs, h1, h⟩
        by_cases e : s = k
        · subst e; exact .inr h
        · exact .inl ⟨s, by omega, h1, h⟩
theorem stepM_get {m : List (List Int)} {l : List Bool} (hv : validM m = true) (hl : l.length = m.length) (t : Nat) : (stepM m l).getD t false = true ↔ ∃ s, s < m.length ∧ l.getD s false = true ∧ ∃ x, x < letters m ∧ nx m s (x : Int) = t := by
  rw [stepM, stTo_get hv hl _ (Nat.le_refl _) t, hl]
theorem ownq_lt {W : World} {base : Nat} {e : TypeId} {s : Nat} {g n c k : Nat} {xs : List Value} (h : W.ownsRow base e s (.slice (some ⟨g, 0, none⟩) n c) k xs) : base ≤ g ∧ g < W.heap.size := by
  rcases h.2 with ⟨h', _⟩ | ⟨g', cap, cur, h', hb, hh, _⟩
  · cases h'
  · cases h'; exact ⟨hb, (Array.getElem?_eq_some_iff.1 hh).1⟩
theorem List.map_set_bool (l : List Bool) (i : Nat) (b : Bool) : (l.set i b).map (fun x => Value.bool x) = (l.map fun x => Value.bool x).set i (.bool b) := by rw [List.map_set]
set_option maxRecDepth 100000 in
set_option maxHeartbeats 2000000 in
theorem rStep_any (v vl : Value) (m : List (List Int)) (l : List Bool) (w : World) (h : Rows w v m) (hv : validM m = true) (hb : Bools w vl l) (hl : l.length = m.length) :
    Calls Tryd.prog 8 #[.agg #[v], vl] w fun e w' => ∃ r, e = .returned r ∧ w'.ownsRow w.heap.size 4 1 r (stepM m l).length ((stepM m l).map fun x => .bool x) ∧ Below w.heap.size w w' := by
  obtain ⟨j0, hj, hy0, hy1, hy2⟩ := info_parts infoBool
  obtain ⟨p1, p2, p3, p4, p5⟩ := valid_parts hv
  obtain ⟨A, cap, rfl, hml, hcm⟩ := id h
  obtain ⟨Al, capl, rfl, hll, hcl⟩ := id hb
  have Hcl := hid hcl
  have Hcm := hid hcm
  have Hp5 := hid p5
  clear hcl hcm p5
  have hX := bal (Below.refl _ w) (.cells #[.slice A m.length cap] 24)
  have HN := hid hl
  have hst := stTo_len m l
  have hml2 := stepM_len m l
  rw [hl] at hst hml2 ⊢
  clear hl
  go_enter Tryd.func8, Tryd.ntmps8
  go_wp2_with (at_make; go_must (refine wpList_make_full _ rfl _ _ 30 rfl w.heap.size 4 j0 (.bool false) 1 Tryd.underlying30 hj hy0 hy1 .i64 .i64 _ _ m.length rfl rfl rfl rfl (by rw [hy2]; omega) (by unfold maxLen; omega) (by simp) ?_); intro w1 hown hgrow; rw [show Value.cells (.bool false) = #[.bool false] from rfl, toList_madeCells_one, Nat.mul_one] at hown; simp only [World.size_alloc] at hown; have hB1 := hX.grown hgrow (by simp) (fun q hq => by cases hq))
  have bx : w1.cell? ⟨w.heap.size, 0, none⟩ = some (.slice A m.length cap) := (World.cell?_of_block (hgrow.block w.heap.size (by simp) (by simp))).trans (by simp [go_sem])
  have hs1 := hB1.size
  have hgz := hgrow.size
  rw [World.size_alloc] at hgz
  have hown0 : w1.ownsRow w.heap.size 4 1 (.slice (some ⟨w.heap.size + 1, 0, none⟩) m.length m.length) m.length ((stTo m l 0).map fun x => .bool x) := by
    simpa [stTo, HN.out] using hown
  clear hown
  go_loopw [6] (fun sv wr => ∃ s : Nat, s ≤ m.length ∧ sv = .int .i64 s ∧ wr.ownsRow w.heap.size 4 1 (.slice (some ⟨w.heap.size + 1, 0, none⟩) m.length m.length) m.length ((stTo m l s).map fun x => .bool x) ∧ Below w.heap.size w wr ∧ wr.cell? ⟨w.heap.size, 0, none⟩ = some (.slice A m.length cap)) (fun s _ => m.length - (intOf s).toNat)
  case atStart => exact ⟨0, Nat.zero_le _, rfl, hown0, hB1, bx⟩
  case round =>
    clear hown0 bx
    obtain ⟨s, hs, rfl, hO, hB, hbx⟩ := hrel
    by_cases hlt : s < m.length
    · have hss : (s : Int) < m.length := by omega
      obtain ⟨bl, ol, hAl, hcl⟩ := Hcl.out s (by rw [HN.out]; exact hlt)
      subst hAl
      have hcl := (hB.cell (p := ⟨bl, ol + s, none⟩) (World.block_lt_of_cell? _ _ hcl)).trans hcl
      have hblw := World.block_lt_of_cell? _ _ hcl
      have hsucc := hid (show stTo m l (s + 1) = if l.getD s false then stX m s (stTo m l s) (letters m) else stTo m l s from rfl)
      have HO := hid hO
      clear hO
      cases hbv : l.getD s false with
      | false =>
        rw [hbv] at hcl hsucc
        have hO2 : wr.ownsRow w.heap.size 4 1 (.slice (some ⟨w.heap.size + 1, 0, none⟩) m.length m.length) m.length ((stTo m l (s + 1)).map fun x => .bool x) := by
          rw [hsucc.out, if_neg (by decide)]; exact HO.out
        have HO2 := hid hO2
        clear hO2 hsucc hbv
        go_wp2_with fail
        go_loopw [7] (fun xv wq => xv = .int .i64 0 ∧ wq = wr) (fun _ _ => 0)
        case atStart => exact ⟨rfl, rfl⟩
        case round =>
          obtain ⟨rfl, rfl⟩ := hrel
          go_wp2
          go_roundw
          case rel => exact ⟨s + 1, by omega, by go_num, HO2.out, hB, hbx⟩
          case measure => simp [intOf]; omega
      | true =>
        rw [hbv] at hcl hsucc
        obtain ⟨wo, rfl⟩ : ∃ wo : World, wo = wr := ⟨_, rfl⟩
        go_wp2_with fail
        go_loopw [7] (fun xv wq => ∃ x : Nat, x ≤ letters m ∧ xv = .int .i64 x ∧ wq.ownsRow w.heap.size 4 1 (.slice (some ⟨w.heap.size + 1, 0, none⟩) m.length m.length) m.length ((stX m s (stTo m l s) x).map fun x => .bool x) ∧ Below w.heap.size w wq ∧ wq.cell? ⟨w.heap.size, 0, none⟩ = some (.slice A m.length cap)) (fun x _ => letters m - (intOf x).toNat)
        case atStart => exact ⟨0, Nat.zero_le _, rfl, HO.out, hB, hbx⟩
        case round =>
          clear HO hB hbx hcl
          have hbv0 := hid hbv
          clear hbv
          obtain ⟨x, hx, rfl, hO, hB, hbx⟩ := hrel
          obtain ⟨bl', ol', hAl', hcl⟩ := Hcl.out s (by rw [HN.out]; exact hlt)
          cases hAl'
          have hcl := (hB.cell (p := ⟨bl, ol + s, none⟩) (World.block_lt_of_cell? _ _ hcl)).trans hcl
          rw [hbv0.out] at hcl
          have HO := hid hO
          clear hO
          go_wp2_with fail
          refine (rLetters_any _ m _ (h.below hB) hv).mono ?_
          rintro e w2 ⟨rfl, hb2⟩
          have hB2 := btr hB hb2
          have hbx2 := (hb2.cell (p := ⟨w.heap.size, 0, none⟩) (World.block_lt_of_cell? _ _ hbx)).trans hbx
          have HO2 := hid (owns_block HO.out (hb2.block _ (ownq_lt HO.out).2))
          by_cases hxl : x < letters m
          · have hxs : (x : Int) < letters m := by omega
            obtain ⟨b, off, r, hA, hcell, hrow⟩ := Hcm.out s hlt
            subst hA
            have hrl := (Hp5.out s hlt).1
            obtain ⟨Ar, capr, rfl, -, hcr⟩ := id hrow
            rw [hrl] at hcell
            obtain ⟨br, offr, hAr, hct⟩ := hcr x (by omega)
            subst hAr
            obtain ⟨hn1, hn⟩ := nx_ok hv (s := s) hlt (x := (x : Int)) (by omega) (by omega)
            rw [Int.toNat_natCast] at hn
            rw [hn] at hct
            have hsx := hid (show stX m s (stTo m l s) (x + 1) = (stX m s (stTo m l s) x).set (nx m s (x : Int)) true from rfl)
            have hcell2 := (hB2.cell (p := ⟨b, off + s, none⟩) (World.block_lt_of_cell? _ _ hcell)).trans hcell
            have hct2 := (hB2.cell (p := ⟨br, offr + x, none⟩) (World.block_lt_of_cell? _ _ hct)).trans hct
            clear hcell hct hcr hrow hn hrl hcl
            generalize nx m s (x : Int) = t at *
            have hts : (t : Int) < m.length := by omega
            have hcA := HO2.out.cellAt t (by omega)
            have hfA := HO2.out.frozenAt t
            have hlen : t < (stX m s (stTo m l s) x).length := by rw [stX_len, hst]; exact hn1
            rw [List.getElem?_map, List.getElem?_eq_getElem hlen, Option.map_some] at hcA
            have hSt := hid (HO2.out.stored t (.bool true)).1
            rw [← List.map_set_bool] at hSt
            rw [← hsx.out] at hSt
            have hBs := hid (hB2.setCell (p := ⟨w.heap.size + 1, t, none⟩) (by show w.heap.size ≤ w.heap.size + 1; omega) (.bool true))
            have hbx3 : (w2.setCell ⟨w.heap.size + 1, t, none⟩ (.bool true)).cell? ⟨w.heap.size, 0, none⟩ = some (.slice (some ⟨b, off, none⟩) m.length cap) := (World.cell?_of_block (Below.heap_setCell _ _ _ _ (by simp))).trans hbx2
            go_wp2
            go_roundw
            case rel => exact ⟨x + 1, by omega, by go_num, hSt.out, hBs.out, hbx3⟩
            case measure => simp [intOf]; omega
          · obtain rfl : x = letters m := by omega
            have hxs : ¬ ((letters m : Nat) : Int) < letters m := by omega
            have hO3 := HO2.out
            have e3 := hsucc.out
            simp only [if_true] at e3
            rw [← e3] at hO3
            have HO3 := hid hO3
            clear hO3 e3
            go_wp2
            go_roundw
            case rel => exact ⟨s + 1, by omega, by go_num, HO3.out, hB2, hbx2⟩
            case measure => simp [intOf]; omega
    · obtain rfl : s = m.length := by omega
      have hss : ¬ ((m.length : Nat) : Int) < m.length := by omega
      have HO := hid (show wr.ownsRow w.heap.size 4 1 (.slice (some ⟨w.heap.size + 1, 0, none⟩) m.length m.length) m.length ((stepM m l).map fun x => .bool x) by rw [stepM, HN.out]; exact hO)
      clear hO
      go_wp2
      go_ret
      exact ⟨_, rfl, HO.out, hB⟩
end Go.Proofs.YtpbbpogeleolaaaDoor
namespace Go.Proofs.YtpbbpogeleolaaaDoor
open Go.RowKit Go.Shelf
/-- Element by element: one or the other, for the first k. -/
def orTo (o e : List Bool) : Nat → List Bool
  | 0 => o
  | t + 1 => (orTo o e t).set t (o.getD t false || e.getD t false)
theorem orTo_len (o e : List Bool) : ∀ k, (orTo o e k).length = o.length
  | 0 => rfl
  | k + 1 => by simp [orTo, orTo_len o e k]
theorem orTo_get (o e : List Bool) : ∀ k, k ≤ o.length → ∀ t, (orTo o e k).getD t false = if t < k then o.getD t false || e.getD t false else o.getD t false
  | 0, _, t => by simp [orTo]
  | k + 1, hk, t => by
    have ih := orTo_get o e k (by omega) t
    have hl := orTo_len o e k
    simp only [orTo, List.getD_eq_getElem?_getD, List.getElem?_set] at ih ⊢
    by_cases h : k = t
    · subst h
      rw [if_pos rfl, if_pos (by omega), if_pos (by omega)]; rfl
    · rw [if_neg h, ih]
      by_cases h2 : t < k
      · rw [if_pos h2, if_pos (by omega)]
      · rw [if_neg h2, if_neg (by omega)]
/-- What k rounds have reached. -/
def reachTo (m : List (List Int)) (s : Nat) : Nat → List Bool
  | 0 => onlyL m.length s
  | k + 1 => orTo (reachTo m s k) (stepM m (reachTo m s k)) (reachTo m s k).length
theorem reachTo_len (m : List (List Int)) (s : Nat) : ∀ k, (reachTo m s k).length = m.length
  | 0 => by simp [reachTo, onlyL]
  | k + 1 => by rw [reachTo, orTo_len, reachTo_len m s k]
theorem onlyL_get {n s : Nat} (hs : s < n) (t : Nat) : (onlyL n s).getD t false = decide (s = t) := by
  unfold onlyL
  rw [getD_set_true (by simpa using hs)]
  have : (List.replicate n false).getD t false = false := by
    simp [List.getD_eq_getElem?_getD, List.getElem?_replicate]; split <;> simp
  rw [this, Bool.or_false]
/-- A word of at most k letters leads there. -/
def withinP (m : List (List Int)) (s k t : Nat) : Prop := ∃ u : List Int, u.all (inB 0 ((letters m : Int) - 1)) = true ∧ u.length ≤ k ∧ runM m s u = t
theorem runQ_snoc (m : List (List Int)) (s : Nat) (u : List Int) (x : Int) : runM m s (u ++ [x]) = nx m (runM m s u) x := by
  unfold runM; rw [List.foldl_append]; rfl
theorem runQ_lt {m : List (List Int)} (hv : validM m = true) {s : Nat} (hs : s < m.length) {u : List Int} (hu : u.all (inB 0 ((letters m : Int) - 1)) = true) : runM m s u < m.length := by
  induction u generalizing s with
  | nil => exact hs
  | cons x u ih =>
    obtain ⟨hx, hu'⟩ := all_cons_parts hu
    obtain ⟨xn, rfl⟩ := Int.eq_ofNat_of_zero_le hx.1
    exact ih (nx_ok hv hs hx.1 hx.2).1 hu'
theorem all_snoc {K : Nat} {u : List Int} (hu : u.all (inB 0 ((K : Int) - 1)) = true) {x : Nat} (hx : x < K) : (u ++ [(x : Int)]).all (inB 0 ((K : Int) - 1)) = true := by
  rw [List.all_append, hu]
  simp only [List.all_cons, List.all_nil, Bool.and_true, Bool.true_and]
  exact inB_true ⟨by omega, by omega⟩
theorem snoc_cases {α : Type} (u : List α) : u = [] ∨ ∃ v x, u = v ++ [x] := by
  rcases List.eq_nil_or_concat u with h | ⟨v, x, h⟩
  · exact .inl h
  · exact .inr ⟨v, x, by rw [h, List.concat_eq_append]⟩
theorem all_of_snoc {K : Nat} {v : List Int} {x : Int} (h : (v ++ [x]).all (inB 0 ((K : Int) - 1)) = true) : v.all (inB 0 ((K : Int) - 1)) = true ∧ ∃ y : Nat, x = y ∧ y < K := by
  rw [List.all_append, Bool.and_eq_true] at h
  refine ⟨h.1, ?_⟩
  have h2 := h.2
  simp [inB] at h2
  exact ⟨x.toNat, by omega, by omega⟩
theorem reachTo_get {m : List (List Int)} (hv : validM m = true) {s : Nat} (hs : s < m.length) : ∀ k t, (reachTo m s k).getD t false = true ↔ withinP m s k t
  | 0, t => by
    rw [reachTo, onlyL_get hs, decide_eq_true_eq]
    constructor
    · rintro rfl; exact ⟨[], rfl, Nat.le_refl _, rfl⟩
    · rintro ⟨u, _, hl, h⟩
      obtain rfl : u = [] := List.length_eq_zero_iff.1 (by omega)
      exact h
  | k + 1, t => by
    have ih := reachTo_get hv hs k
    have hl := reachTo_len m s k
    rw [reachTo, orTo_get _ _ _ (Nat.le_refl _)]
    have key : (stepM m (reachTo m s k)).getD t false = true ↔ ∃ u : List Int, u.all (inB 0 ((letters m : Int) - 1)) = true ∧ u.length ≤ k ∧ ∃ x, x < letters m ∧ nx m (runM m s u) (x : Int) = t := by
      rw [stepM_get hv hl]
      constructor
      · rintro ⟨r, hr, h1, x, hx, h2⟩
        obtain ⟨u, hu, hk, rfl⟩ := (ih r).1 h1
        exact ⟨u, hu, hk, x, hx, h2⟩
      · rintro ⟨u, hu, hk, x, hx, h2⟩
        exact ⟨runM m s u, runQ_lt hv hs hu, (ih _).2 ⟨u, hu, hk, rfl⟩, x, hx, h2⟩
    constructor
    · intro h
      have h' : (reachTo m s k).getD t false = true ∨ (stepM m (reachTo m s k)).getD t false = true := by
        split at h
        · rwa [Bool.or_eq_true] at h
        · exact .inl h
      rcases h' with h' | h'
      · obtain ⟨u, hu, hk, h2⟩ := (ih t).1 h'
        exact ⟨u, hu, by omega, h2⟩
      · obtain ⟨u, hu, hk, x, hx, h2⟩ := key.1 h'
        exact ⟨u ++ [(x : Int)], all_snoc hu hx, by simp; omega, by rw [runQ_snoc]; exact h2⟩
    · rintro ⟨u, hu, hk, h⟩
      have htl : t < m.length := by rw [← h]; exact runQ_lt hv hs hu
      rw [if_pos (by omega), Bool.or_eq_true]
      by_cases e : u.length ≤ k
      · exact .inl ((ih t).2 ⟨u, hu, e, h⟩)
      · rcases snoc_cases u with rfl | ⟨v, x, rfl⟩
        · simp at e
        · obtain ⟨hv', y, rfl, hy⟩ := all_of_snoc hu
          rw [runQ_snoc] at h
          exact .inr (key.2 ⟨v, hv', by simp at hk; omega, y, hy, h⟩)
/-- The states to which words lead. -/
def reachL (m : List (List Int)) (s : Nat) : List Bool := reachTo m s m.length
theorem reachL_get {m : List (List Int)} (hv : validM m = true) {s : Nat} (hs : s < m.length) (t : Nat) : (reachL m s).getD t false = true ↔ reachP m s t := by
  rw [reachL, reachTo_get hv hs]
  constructor
  · rintro ⟨u, hu, _, h⟩; exact ⟨u, hu, h⟩
  · intro h
    obtain ⟨j, hj, hp⟩ := bfsM_has hv hs h
    obtain ⟨w1, w2⟩ := bfsM_word hv hs hj
    have hg := bfsM_good hv hs
    have a1 := wordB_len hg.tree j hj
    have a2 := hg.len
    exact ⟨_, w1, by omega, by rw [hp] at w2; omega⟩
end Go.Proofs.YtpbbpogeleolaaaDoor
namespace Go.Proofs.YtpbbpogeleolaaaDoor
open Go.RowKit Go.Shelf
/-- The states to which words of exactly k letters lead. -/
def exactTo (m : List (List Int)) (s : Nat) : Nat → List Bool
  | 0 => onlyL m.length s
  | k + 1 => stepM m (exactTo m s k)
theorem exactTo_len (m : List (List Int)) (s : Nat) : ∀ k, (exactTo m s k).length = m.length
  | 0 => by simp [exactTo, onlyL]
  | k + 1 => by rw [exactTo, stepM_len, exactTo_len m s k]
/-- A word of exactly k letters leads there. -/
def exactP (m : List (List Int)) (s k t : Nat) : Prop := ∃ u : List Int, u.all (inB 0 ((letters m : Int) - 1)) = true ∧ u.length = k ∧ runM m s u = t
theorem exactTo_get {m : List (List Int)} (hv : validM m = true) {s : Nat} (hs : s < m.length) : ∀ k t, (exactTo m s k).getD t false = true ↔ exactP m s k t
  | 0, t => by
    rw [exactTo, onlyL_get hs, decide_eq_true_eq]
    constructor
    · rintro rfl; exact ⟨[], rfl, rfl, rfl⟩
    · rintro ⟨u, _, hl, h⟩
      obtain rfl : u = [] := List.length_eq_zero_iff.1 hl
      exact h
  | k + 1, t => by
    have ih := exactTo_get hv hs k
    rw [exactTo, stepM_get hv (exactTo_len m s k)]
    constructor
    · rintro ⟨r, hr, h1, x, hx, h2⟩
      obtain ⟨u, hu, hk, rfl⟩ := (ih r).1 h1
      exact ⟨u ++ [(x : Int)], all_snoc hu hx, by simp; omega, by rw [runQ_snoc]; exact h2⟩
    · rintro ⟨u, hu, hk, h⟩
      rcases snoc_cases u with rfl | ⟨v, x, rfl⟩
      · simp at hk
      · obtain ⟨hv', y, rfl, hy⟩ := all_of_snoc hu
        rw [runQ_snoc] at h
        exact ⟨runM m s v, runQ_lt hv hs hv', (ih _).2 ⟨v, hv', by simp at hk; omega, rfl⟩, y, hy, h⟩
/-- The reference's period behind k rounds. -/
def perR (m : List (List Int)) : Nat → Nat
  | 0 => 0
  | k + 1 => if (exactTo m 0 (k + 1)).getD 0 false then Nat.gcd (k + 1) (perR m k) else perR m k
theorem perR_dvd (m : List (List Int)) : ∀ K k, 0 < k → k ≤ K → (exactTo m 0 k).getD 0 false = true → perR m K ∣ k
  | 0, k, h0, hk, _ => by omega
  | K + 1, k, h0, hk, h => by
    simp only [perR]
    by_cases e : k = K + 1
    · subst e
      rw [if_pos h]
      exact Nat.gcd_dvd_left _ _
    · have ih := perR_dvd m K k h0 (by omega) h
      split
      · exact Nat.dvd_trans (Nat.gcd_dvd_right _ _) ih
      · exact ih
theorem dvd_perR (m : List (List Int)) {c : Nat} : ∀ K, (∀ k, 0 < k → k ≤ K → (exactTo m 0 k).getD 0 false = true → c ∣ k) → c ∣ perR m K
  | 0, _ => Nat.dvd_zero _
  | K + 1, h => by
    have ih := dvd_perR m K (fun k h0 hk => h k h0 (by omega))
    simp only [perR]
    split
    · rename_i he
      exact Nat.dvd_gcd (h (K + 1) (by omega) (Nat.le_refl _) he) ih
    · exact ih
theorem runQ_append (m : List (List Int)) (s : Nat) (u v : List Int) : runM m s (u ++ v) = runM m (runM m s u) v := by
  unfold runM; rw [List.foldl_append]
theorem all_append_ok {K : Nat} {u v : List Int} (hu : u.all (inB 0 ((K : Int) - 1)) = true) (hv : v.all (inB 0 ((K : Int) - 1)) = true) : (u ++ v).all (inB 0 ((K : Int) - 1)) = true := by
  rw [List.all_append, hu, hv]; rfl
section
variable {m : List (List Int)} (hv : validM m = true) (hc : connM m = true)
include hv hc
/-- A word of k letters leads k classes on. -/
theorem len_mod : ∀ (u : List Int) (s : Nat), s < m.length → u.all (inB 0 ((letters m : Int) - 1)) = true → (perM m : Int) ∣ (lensM m).getD s 0 + u.length - (lensM m).getD (runM m s u) 0
  | [], s, _, _ => by
    show _ ∣ (lensM m).getD s 0 + ((0 : Nat) : Int) - (lensM m).getD s 0
    rw [show (lensM m).getD s 0 + ((0 : Nat) : Int) - (lensM m).getD s 0 = 0 by omega]
    exact Int.dvd_zero _
  | x :: u, s, hs, hu => by
    obtain ⟨hx, hu'⟩ := all_cons_parts hu
    obtain ⟨xn, rfl⟩ := Int.eq_ofNat_of_zero_le hx.1
    have hn := ldM_ok hv s xn hs (by omega)
    have ih := len_mod u (nx m s xn) hn hu'
    have he := excM_eq hv hc (s := s) (x := xn) hs (by omega)
    have hd : (perM m : Int) ∣ ((excM (lensM m) m s xn : Nat) : Int) := Int.natCast_dvd_natCast.2 (gAll_dvd _ s hs xn (by omega))
    rw [he] at hd
    have hr : runM m s ((xn : Int) :: u) = runM m (nx m s xn) u := rfl
    rw [hr]
    have := Int.dvd_add hd ih
    rw [List.length_cons]
    refine cast ?_ this
    congr 1
    omega
theorem perM_pos : 0 < perM m := by
  obtain ⟨p1, p2, p3, p4, p5⟩ := valid_parts hv
  rcases Nat.eq_zero_or_pos (perM m) with e | e
  · exfalso
    have hall : (List.replicate m.length (0 : Int)).all (inB 0 ((letters m : Int) - 1)) = true := by
      rw [List.all_eq_true]
      intro x hx
      obtain ⟨_, rfl⟩ := List.mem_replicate.1 hx
      exact inB_true ⟨by omega, by omega⟩
    have h := len_mod hv hc (List.replicate m.length 0) 0 (by omega) hall
    rw [e] at h
    have h0 := Int.zero_dvd.1 h
    have b1 := lensM_bound hv hc 0 (by omega)
    have b2 := lensM_bound hv hc _ (runQ_lt hv (s := 0) (by omega) hall)
    rw [List.length_replicate] at h0
    omega
  · exact e
/-- From each state a word of fewer than n letters leads to each state. -/
theorem short_way {s t : Nat} (hs : s < m.length) (ht : t < m.length) : ∃ u : List Int, u.all (inB 0 ((letters m : Int) - 1)) = true ∧ u.length < m.length ∧ runM m s u = t := by
  obtain ⟨p1, p2, p3, p4, p5⟩ := valid_parts hv
  obtain ⟨j, hj, hp⟩ := bfsM_has hv hs ((connM_iff m (by omega)).1 hc s t hs ht)
  obtain ⟨w1, w2⟩ := bfsM_word hv hs hj
  have hg := bfsM_good hv hs
  have a1 := wordB_len hg.tree j hj
  have a2 := hg.len
  exact ⟨_, w1, by omega, by rw [hp] at w2; omega⟩
theorem perR_eq : perR m (3 * m.length) = perM m := by
  obtain ⟨p1, p2, p3, p4, p5⟩ := valid_parts hv
  have h0 : 0 < m.length := by omega
  apply Nat.dvd_antisymm
  · refine dvd_gAll _ fun s hs x hx => ?_
    have hn := ldM_ok hv s x hs hx
    obtain ⟨u, u1, u2, u3, u4, _⟩ := lensM_get hv hc hs
    obtain ⟨v, v1, v2, v3, v4, _⟩ := lensM_get hv hc hn
    obtain ⟨r, r1, r2, r3⟩ := short_way hv hc hn h0
    have c1 : perR m (3 * m.length) ∣ u.length + 1 + r.length := perR_dvd m _ _ (by omega) (by omega) ((exactTo_get hv h0 _ _).2 ⟨(u ++ [(x : Int)]) ++ r, all_append_ok (all_snoc u1 hx) r1, by simp; omega, by rw [runQ_append, runQ_snoc, u2, r3]⟩)
    have c2 : perR m (3 * m.length) ∣ v.length + r.length := by
      rcases Nat.eq_zero_or_pos (v.length + r.length) with e | e
      · rw [e]; exact Nat.dvd_zero _
      · exact perR_dvd m _ _ e (by omega) ((exactTo_get hv h0 _ _).2 ⟨v ++ r, all_append_ok v1 r1, by simp, by rw [runQ_append, v2, r3]⟩)
    have he := excM_eq hv hc hs hx
    have := Nat.dvd_sub c1 c2
    refine cast ?_ this
    congr 1
    omega
  · refine dvd_perR m _ fun k hk _ h => ?_
    obtain ⟨u, hu, rfl, hr⟩ := (exactTo_get hv h0 _ _).1 h
    have := len_mod hv hc u 0 h0 hu
    rw [hr] at this
    rw [show (lensM m).getD 0 0 + (u.length : Int) - (lensM m).getD 0 0 = (u.length : Int) by omega] at this
    exact Int.natCast_dvd_natCast.1 this
end
end Go.Proofs.YtpbbpogeleolaaaDoor
namespace Go.Proofs.YtpbbpogeleolaaaDoor
open Go.RowKit Go.Shelf
theorem least_nat {p : Nat → Prop} : ∀ n, p n → ∃ k, p k ∧ k ≤ n ∧ ∀ j, p j → ¬ j < k := by
  intro n
  induction n using Nat.strongRecOn with
  | _ n ih =>
    intro hn
    by_cases h : ∃ j, p j ∧ j < n
    · obtain ⟨j, hj, hlt⟩ := h
      obtain ⟨k, h1, h2, h3⟩ := ih j hlt hj
      exact ⟨k, h1, by omega, h3⟩
    · exact ⟨n, hn, Nat.le_refl _, fun j hj hlt => h ⟨j, hj, hlt⟩⟩
theorem W_refl (m : List (List Int)) (s : Nat) : exactP m s 0 s := ⟨[], rfl, rfl, rfl⟩
theorem W_trans {m : List (List Int)} {a b c i j : Nat} (h : exactP m a i b) (k : exactP m b j c) : exactP m a (i + j) c := by
  obtain ⟨u, hu, rfl, rfl⟩ := h
  obtain ⟨v, hv, rfl, rfl⟩ := k
  exact ⟨u ++ v, all_append_ok hu hv, by simp, runQ_append m a u v⟩
theorem W_times {m : List (List Int)} {c b : Nat} (h : exactP m c b c) : ∀ N, exactP m c (b * N) c
  | 0 => W_refl m c
  | N + 1 => by rw [Nat.mul_succ]; exact W_trans (W_times h N) h
theorem W_some {m : List (List Int)} (hv : validM m = true) {s : Nat} (hs : s < m.length) (k : Nat) : ∃ t, t < m.length ∧ exactP m s k t := by
  obtain ⟨p1, p2, p3, p4, p5⟩ := valid_parts hv
  have hall : (List.replicate k (0 : Int)).all (inB 0 ((letters m : Int) - 1)) = true := by
    rw [List.all_eq_true]
    intro x hx
    obtain ⟨_, rfl⟩ := List.mem_replicate.1 hx
    exact inB_true ⟨by omega, by omega⟩
  exact ⟨_, runQ_lt hv hs hall, _, hall, by simp, rfl⟩
theorem allw_take {K : Nat} {u : List Int} (h : u.all (inB 0 ((K : Int) - 1)) = true) (i : Nat) : (u.take i).all (inB 0 ((K : Int) - 1)) = true := by
  rw [List.all_eq_true] at h ⊢
  exact fun x hx => h x (List.mem_of_mem_take hx)
theorem allw_drop {K : Nat} {u : List Int} (h : u.all (inB 0 ((K : Int) - 1)) = true) (i : Nat) : (u.drop i).all (inB 0 ((K : Int) - 1)) = true := by
  rw [List.all_eq_true] at h ⊢
  exact fun x hx => h x (List.mem_of_mem_drop hx)
theorem run_split (m : List (List Int)) (a : Nat) (u : List Int) (i : Nat) : runM m (runM m a (u.take i)) (u.drop i) = runM m a u := by
  rw [← runQ_append, List.take_append_drop]
/-- What lies between two places of a walk. -/
theorem run_between (m : List (List Int)) (a : Nat) (u : List Int) {i j : Nat} (hij : i ≤ j) : runM m (runM m a (u.take i)) ((u.drop i).take (j - i)) = runM m a (u.take j) := by
  rw [← runQ_append]
  congr 1
  have : u.take j = u.take (i + (j - i)) := by rw [show i + (j - i) = j by omega]
  rw [this, List.take_add]
theorem pigeon {n k : Nat} (f : Nat → Nat) (hf : ∀ i, i ≤ k → f i < n) (hk : n ≤ k) : ∃ i j, i < j ∧ j ≤ k ∧ f i = f j := by
  apply Classical.byContradiction
  intro hno
  have hnd : ((List.range (k + 1)).map fun i => ((f i : Nat) : Int)).Nodup := by
    unfold List.Nodup
    rw [List.pairwise_map]
    refine List.Pairwise.imp_of_mem (fun {i j} _ hj hlt e => hno ⟨i, j, hlt, ?_, by omega⟩) List.pairwise_lt_range
    have := List.mem_range.1 hj
    omega
  have := nodup_len n _ hnd (fun x hx => by
    obtain ⟨i, hi, rfl⟩ := List.mem_map.1 hx
    have h1 := List.mem_range.1 hi
    have h2 := hf i (by omega)
    omega)
  simp at this
  omega
/-- A walk by steps of q letters is made short. -/
theorem shorten {m : List (List Int)} (hv : validM m = true) {a b q : Nat} (ha : a < m.length) : ∀ j, exactP m a (q * j) b → ∃ j', j' + 1 ≤ m.length ∧ exactP m a (q * j') b := by
  intro j
  induction j using Nat.strongRecOn with
  | _ j ih =>
    intro h
    by_cases hj : j + 1 ≤ m.length
    · exact ⟨j, hj, h⟩
    · obtain ⟨u, hu, hl, hr⟩ := h
      obtain ⟨i, i', hlt, hle, he⟩ := pigeon (n := m.length) (k := j) (fun i => runM m a (u.take (q * i))) (fun i _ => runQ_lt hv ha (allw_take hu _)) (by omega)
      have h1 : q * i' ≤ q * j := Nat.mul_le_mul_left q hle
      have h2 : q * i ≤ q * i' := Nat.mul_le_mul_left q (by omega)
      refine ih (i + (j - i')) (by omega) ⟨u.take (q * i) ++ u.drop (q * i'), all_append_ok (allw_take hu _) (allw_drop hu _), ?_, ?_⟩
      · rw [List.length_append, List.length_take, List.length_drop, hl, Nat.mul_add, Nat.mul_sub]
        omega
      · rw [runQ_append, show runM m a (u.take (q * i)) = runM m a (u.take (q * i')) from he, run_split]
        exact hr
theorem closed_mult {m : List (List Int)} (hv : validM m = true) (hg : ∀ v, v < m.length → ∀ k, 1 ≤ k → k < m.length → ¬ exactP m v k v) : ∀ k v, v < m.length → exactP m v k v → m.length ∣ k := by
  intro k
  induction k using Nat.strongRecOn with
  | _ k ih =>
    intro v hvn h
    rcases Nat.eq_zero_or_pos k with e | e
    · rw [e]; exact Nat.dvd_zero _
    · by_cases hk : k < m.length
      · exact absurd h (hg v hvn k e hk)
      · obtain ⟨u, hu, hl, hr⟩ := h
        obtain ⟨i, j, hlt, hle, he⟩ := pigeon (n := m.length) (k := m.length) (fun i => runM m v (u.take i)) (fun i _ => runQ_lt hv hvn (allw_take hu _)) (Nat.le_refl _)
        have hcl : exactP m (runM m v (u.take i)) (j - i) (runM m v (u.take i)) := ⟨(u.drop i).take (j - i), allw_take (allw_drop hu _) _, by rw [List.length_take, List.length_drop, hl]; omega, by rw [run_between m v u (by omega)]; exact he.symm⟩
        have hji : ¬ j - i < m.length := fun h2 => hg _ (runQ_lt hv hvn (allw_take hu _)) (j - i) (by omega) h2 hcl
        have hi0 : i = 0 := by omega
        have hjn : j = m.length := by omega
        subst hi0 hjn
        have hv2 : runM m v (u.take m.length) = v := he.symm
        have hrest : exactP m v (k - m.length) v := ⟨u.drop m.length, allw_drop hu _, by rw [List.length_drop, hl], by
          have := run_split m v u m.length
          rw [hv2] at this
          rw [this]; exact hr⟩
        have hpos := (valid_parts hv).1
        have := ih (k - m.length) (by omega) v hvn hrest
        have h3 := Nat.dvd_add this (Nat.dvd_refl m.length)
        rwa [show k - m.length + m.length = k by omega] at h3
section
variable {m : List (List Int)} (hv : validM m = true) (hc : connM m = true) (hp : perM m = 1)
include hv hc hp
/-- Whatever divides the lengths of all ways round from some state is 1. -/
theorem only_one {c h : Nat} (hcn : c < m.length) (hh : ∀ b, exactP m c b c → h ∣ b) : h = 1 := by
  have h0 : 0 < m.length := by omega
  obtain ⟨u, u1, _, u3⟩ := short_way hv hc hcn h0
  obtain ⟨v, v1, _, v3⟩ := short_way hv hc h0 hcn
  have e1 : exactP m c u.length 0 := ⟨u, u1, rfl, u3⟩
  have e2 : exactP m 0 v.length c := ⟨v, v1, rfl, v3⟩
  have d1 := hh _ (W_trans e1 e2)
  have hd : h ∣ perR m (3 * m.length) := dvd_perR m _ fun k _ _ hk => by
    have e3 := (exactTo_get hv h0 _ _).1 hk
    have d2 := hh _ (W_trans e1 (W_trans e3 e2))
    have := Nat.dvd_sub d2 d1
    rwa [show u.length + (k + v.length) - (u.length + v.length) = k by omega] at this
  rw [perR_eq hv hc, hp] at hd
  exact Nat.dvd_one.1 hd
theorem wielandt {s t k : Nat} (hs : s < m.length) (ht : t < m.length) (hk : (m.length - 1) * (m.length - 1) + 1 ≤ k) : exactP m s k t := by
  obtain ⟨p1, p2, p3, p4, p5⟩ := valid_parts hv
  by_cases hn1 : m.length = 1
  · obtain ⟨t', ht', h⟩ := W_some hv hs k
    have : t' = t := by omega
    rw [← this]; exact h
  -- the shortest way round
  obtain ⟨g0, v, hg0, hg0n, hvn, hgw⟩ : ∃ g v, 1 ≤ g ∧ g < m.length ∧ v < m.length ∧ exactP m v g v := by
    apply Classical.byContradiction
    intro hno
    have hdiv := closed_mult hv (fun v hvn k h1 h2 h3 => hno ⟨k, v, h1, h2, hvn, h3⟩)
    have := only_one hv hc hp (c := 0) (by omega) (fun b hb => hdiv b 0 (by omega) hb)
    omega
  obtain ⟨g, ⟨hg1, c0, hc0, hcw⟩, hgle, hgmin⟩ := least_nat (p := fun g => 1 ≤ g ∧ ∃ v, v < m.length ∧ exactP m v g v) g0 ⟨hg0, v, hvn, hgw⟩
  obtain ⟨u0, hu0, hl0, hr0⟩ := hcw
  obtain ⟨C, hC⟩ : ∃ C : Nat → Nat, C = fun i => runM m c0 (u0.take i) := ⟨_, rfl⟩
  have hCi : ∀ i, C i = runM m c0 (u0.take i) := fun i => by rw [hC]
  have hCn : ∀ i, C i < m.length := fun i => by rw [hCi]; exact runQ_lt hv hc0 (allw_take hu0 _)
  have hC0 : C 0 = c0 := by rw [hCi]; rfl
  have hCg : C g = c0 := by rw [hCi, ← hl0, List.take_length]; exact hr0
  have hCd : ∀ i j, i < j → j < g → C i ≠ C j := fun i j hij hj e => by
    refine hgmin (j - i) ⟨by omega, C i, hCn i, (u0.drop i).take (j - i), allw_take (allw_drop hu0 _) _, by rw [List.length_take, List.length_drop, hl0]; omega, ?_⟩ (by omega)
    rw [hCi, run_between m c0 u0 (by omega), ← hCi, ← e, hCi]
  have hloop : ∀ i, i < g → exactP m (C i) g (C i) := fun i hi => by
    have a1 : exactP m (C i) (g - i) c0 := ⟨u0.drop i, allw_drop hu0 _, by rw [List.length_drop, hl0], by rw [hCi, run_split]; exact hr0⟩
    have a2 : exactP m c0 i (C i) := ⟨u0.take i, allw_take hu0 _, by rw [List.length_take, hl0]; omega, (hCi i).symm⟩
    have := W_trans a1 a2
    rwa [show g - i + i = g by omega] at this
  have hstep : ∀ i, i < g → ∃ i', i' < g ∧ exactP m (C i) 1 (C i') := fun i hi => by
    have a1 : exactP m (C i) 1 (C (i + 1)) := ⟨(u0.drop i).take 1, allw_take (allw_drop hu0 _) _, by rw [List.length_take, List.length_drop, hl0]; omega, by
      have := run_between m c0 u0 (i := i) (j := i + 1) (by omega)
      rw [show i + 1 - i = 1 by omega] at this
      rw [hCi, hCi, this]⟩
    by_cases e : i + 1 < g
    · exact ⟨i + 1, e, a1⟩
    · have e2 : i + 1 = g := by omega
      rw [e2, hCg, ← hC0] at a1
      exact ⟨0, by omega, a1⟩
  have hround : ∀ j i, i < g → ∃ i', i' < g ∧ exactP m (C i) j (C i') := by
    intro j
    induction j with
    | zero => exact fun i hi => ⟨i, hi, W_refl m _⟩
    | succ j ih =>
      intro i hi
      obtain ⟨i1, h1, w1⟩ := ih i hi
      obtain ⟨i2, h2, w2⟩ := hstep i1 h1
      exact ⟨i2, h2, W_trans w1 w2⟩
  have key : ∀ s, s < m.length → exactP m s (m.length - g + g * (m.length - 1)) t := by
    intro s hs
    -- from s into the ring
    obtain ⟨ku, hku⟩ : ∃ k, exactP m s k c0 := by
      obtain ⟨u, a1, _, a3⟩ := short_way hv hc hs hc0
      exact ⟨u.length, u, a1, rfl, a3⟩
    obtain ⟨k1, ⟨i1, hi1, hk1⟩, _, hk1min⟩ := least_nat (p := fun k => ∃ i, i < g ∧ exactP m s k (C i)) ku ⟨0, by omega, by rw [hC0]; exact hku⟩
    have hk1g : k1 + g ≤ m.length := by
      obtain ⟨u, hu, hl, hr⟩ := hk1
      have hnd : (((List.range k1).map fun i => ((runM m s (u.take i) : Nat) : Int)) ++ ((List.range g).map fun i => ((C i : Nat) : Int))).Nodup := by
        rw [List.nodup_append]
        refine ⟨?_, ?_, ?_⟩
        · unfold List.Nodup
          rw [List.pairwise_map]
          refine List.Pairwise.imp_of_mem (fun {i j} _ hj hlt e => ?_) List.pairwise_lt_range
          have hj' := List.mem_range.1 hj
          refine hk1min (i + (k1 - j)) ⟨i1, hi1, u.take i ++ u.drop j, all_append_ok (allw_take hu _) (allw_drop hu _), ?_, ?_⟩ (by omega)
          · rw [List.length_append, List.length_take, List.length_drop, hl]; omega
          · rw [runQ_append, show runM m s (u.take i) = runM m s (u.take j) by omega, run_split]; exact hr
        · unfold List.Nodup
          rw [List.pairwise_map]
          refine List.Pairwise.imp_of_mem (fun {i j} _ hj hlt e => hCd i j hlt (List.mem_range.1 hj) (by omega)) List.pairwise_lt_range
        · intro a ha b hb e
          obtain ⟨i, hi, rfl⟩ := List.mem_map.1 ha
          obtain ⟨j, hj, rfl⟩ := List.mem_map.1 hb
          have hi' := List.mem_range.1 hi
          exact hk1min i ⟨j, List.mem_range.1 hj, u.take i, allw_take hu _, by rw [List.length_take, hl]; omega, by omega⟩ hi'
      have := nodup_len m.length _ hnd (fun x hx => by
        rcases List.mem_append.1 hx with h1 | h1
        · obtain ⟨i, _, rfl⟩ := List.mem_map.1 h1
          have := runQ_lt hv hs (allw_take hu i)
          omega
        · obtain ⟨i, _, rfl⟩ := List.mem_map.1 h1
          have := hCn i
          omega)
      simpa using this
    obtain ⟨i2, hi2, hw2⟩ := hround (m.length - g - k1) i1 hi1
    have hin : exactP m s (m.length - g) (C i2) := by
      have := W_trans hk1 hw2
      rwa [show k1 + (m.length - g - k1) = m.length - g by omega] at this
    -- in the ring: each residue
    obtain ⟨c, hcc⟩ : ∃ c, c = C i2 := ⟨_, rfl⟩
    have hcn : c < m.length := by rw [hcc]; exact hCn i2
    have hcl : exactP m c g c := by rw [hcc]; exact hloop i2 hi2
    rw [← hcc] at hin
    obtain ⟨h, ⟨hh1, b1, hb1, hbm⟩, hhg, hhmin⟩ := least_nat (p := fun r => 1 ≤ r ∧ ∃ b, exactP m c b c ∧ b % g = r % g) g ⟨hg1, g, hcl, rfl⟩
    have hdvd : ∀ b, exactP m c b c → h ∣ b := fun b hb => by
      apply Classical.byContradiction
      intro hnd
      have hr : b % h ≠ 0 := fun e => hnd (Nat.dvd_of_mod_eq_zero e)
      have hlt : b % h < h := Nat.mod_lt _ (by omega)
      refine hhmin (b % h) ⟨by omega, b + b1 * ((g - 1) * (b / h)), W_trans hb (W_times hb1 _), ?_⟩ hlt
      have e1 : (b1 * ((g - 1) * (b / h))) % g = (h * ((g - 1) * (b / h))) % g := by
        rw [Nat.mul_mod, hbm, ← Nat.mul_mod]
      rw [Nat.add_mod, e1, ← Nat.add_mod]
      have e2 : b + h * ((g - 1) * (b / h)) = b % h + (h * (b / h)) * g := by
        have e3 := Nat.div_add_mod b h
        have e4 : h * ((g - 1) * (b / h)) + h * (b / h) = (h * (b / h)) * g := by
          rw [← Nat.mul_add, show (g - 1) * (b / h) + b / h = ((g - 1) + 1) * (b / h) from (Nat.succ_mul (g - 1) (b / h)).symm, show g - 1 + 1 = g by omega, Nat.mul_comm g (b / h), ← Nat.mul_assoc]
        omega
      rw [e2, Nat.add_mul_mod_self_right]
    have hone := only_one hv hc hp hcn hdvd
    subst hone
    -- from the ring to t by steps of g letters
    obtain ⟨u, a1, _, a3⟩ := short_way hv hc hcn ht
    have hmod : (b1 * ((g - 1) * u.length) + u.length) % g = 0 := by
      have e1 : (b1 * ((g - 1) * u.length)) % g = (1 * ((g - 1) * u.length)) % g := by rw [Nat.mul_mod, hbm, ← Nat.mul_mod]
      rw [Nat.add_mod, e1, ← Nat.add_mod, Nat.one_mul]
      have e2 : (g - 1) * u.length + u.length = g * u.length := by
        rw [← Nat.succ_mul, show (g - 1).succ = g by omega]
      rw [e2, Nat.mul_mod_right]
    obtain ⟨J, hJ⟩ := Nat.dvd_of_mod_eq_zero hmod
    have hway : exactP m c (g * J) t := by rw [← hJ]; exact W_trans (W_times hb1 _) ⟨u, a1, rfl, a3⟩
    obtain ⟨J', hJ1, hJ2⟩ := shorten hv hcn J hway
    have hfull : exactP m c (g * (m.length - 1)) t := by
      have := W_trans (W_times hcl (m.length - 1 - J')) hJ2
      rwa [← Nat.mul_add, show m.length - 1 - J' + J' = m.length - 1 by omega] at this
    exact W_trans hin hfull
  have hK : m.length - g + g * (m.length - 1) ≤ k := by
    obtain ⟨p, hp1⟩ : ∃ p, p = m.length - 1 := ⟨_, rfl⟩
    obtain ⟨e, he⟩ : ∃ e, p = g + e := ⟨p - g, by omega⟩
    have h1 : g * p + e * p = p * p := by rw [← Nat.add_mul, ← he]
    have h2 : e ≤ e * p := Nat.le_mul_of_pos_right _ (by omega)
    rw [← hp1] at hk ⊢
    omega
  obtain ⟨s', hs', h1⟩ := W_some hv hs (k - (m.length - g + g * (m.length - 1)))
  have := W_trans h1 (key s' hs')
  rwa [show k - (m.length - g + g * (m.length - 1)) + (m.length - g + g * (m.length - 1)) = k by omega] at this
end
end Go.Proofs.YtpbbpogeleolaaaDoor
namespace Go.Proofs.YtpbbpogeleolaaaDoor
open Go.RowKit Go.Shelf
attribute [local go_sem] Oper.semAt_some
theorem ownsRow_pos' {w : World} {base : Nat} {e : TypeId} {s : Nat} {v : Value} {n : Nat} {xs : List Value} (h : w.ownsRow base e s v n xs) (hn : 1 ≤ n) : ∃ g cap, v = .slice (some ⟨g, 0, none⟩) n cap := by
  rcases h.2 with ⟨_, h0⟩ | ⟨g, cap, cur, hv, _⟩
  · omega
  · exact ⟨g, cap, hv⟩
theorem ownsRow_slice {w : World} {base : Nat} {e : TypeId} {s : Nat} {v : Value} {n : Nat} {xs : List Value} (h : w.ownsRow base e s v n xs) : ∃ A cap, v = .slice A n cap := by
  rcases h.2 with ⟨hu, h0⟩ | ⟨g, cap, cur, hv, _⟩
  · exact ⟨none, 0, by rw [hu, h0]⟩
  · exact ⟨_, cap, hv⟩
/-- A statement that comes to its end: nothing is owed on other ways. -/
theorem wp_ends {P : Program} {c : Code} {K : Act → World → Prop} {Q : Exit → Act → World → Prop} {a : Act} {w : World} (h : c.wp P (Exit.then K (fun _ _ _ => False)) a w) : c.wp P (Exit.then K Q) a w :=
  Code.wp_mono (fun e a w he => by cases e <;> first | exact he | exact he.elim) h
theorem boxB {W W' : World} {b : Nat} {t : TypeId} {v : Value} (h : Boxed W b t v) (k : Below W.heap.size W W') : Boxed W' b t v := (k.block b h.lt).trans h
theorem keep_set_at {n₀ : Nat} {X : Blocks} (W : World) (b i : Nat) (u : Value) (hn : n₀ ≤ b) (hX : ¬ X b) : Keep n₀ X W (W.setCell ⟨b, i, none⟩ u) :=
  ⟨rfl, rfl, rfl, by simp [World.setCell], fun k hk hc => Below.heap_setCell _ _ _ _ (by
    show k ≠ b
    intro e
    subst e
    rcases hc with h | h
    · omega
    · exact hX h)⟩
theorem box_off {W : World} {b g i : Nat} {t e : TypeId} {u u' : Value} (h : Boxed W b t u) (hte : t ≠ e) {base k n cap : Nat} {xs : List Value} (hr : W.ownsRow base e 1 (.slice (some ⟨g, 0, none⟩) n cap) k xs) : Boxed (W.setCell ⟨g, i, none⟩ u') b t u := by
  have := h.not_row hte hr
  have hne : b ≠ g := fun e => this (by rw [e]; rfl)
  exact (Below.heap_setCell _ _ _ _ (by show b ≠ g; exact hne)).trans h
/-- Behind a store into the row. -/
theorem lens_post {B₀ n₀ : Nat} {X : Blocks} {W wA : World} {w : World} {b b1 g n cap i : Nat} {t t1 e : TypeId} {v1 u : Value} {xs : List Value} (hte : t ≠ e) (ht1 : t1 ≠ e) (hn : n₀ ≤ W.heap.size)
    (hm : Mine X W b t (.slice (some ⟨g, 0, none⟩) n cap)) (ho : W.ownsRow n₀ e 1 (.slice (some ⟨g, 0, none⟩) n cap) n xs) (hx : ¬ X g) (hm1 : Mine X W b1 t1 v1) (hB : Base n₀ w X W) (hA : Below W.heap.size W wA) (hlen : (xs.set i u).length = n) :
    KeepsFrom B₀ W (wA.setCell ⟨g, i, none⟩ u) ∧ Keep n₀ X W (wA.setCell ⟨g, i, none⟩ u) ∧ MineRow n₀ X (wA.setCell ⟨g, i, none⟩ u) b t e (xs.set i u) ∧ Mine X (wA.setCell ⟨g, i, none⟩ u) b1 t1 v1 ∧ Base n₀ w X (wA.setCell ⟨g, i, none⟩ u) := by
  have hgl := own_lt ho
  have hoA := owns_block ho (hA.block g hgl.2)
  refine ⟨(kf_below hA).trans (kf_set _ _ _ _), (Keep.of_below hA).trans (keep_set_at _ _ _ _ hgl.1 hx), ⟨_, ⟨box_off (boxB hm.1 hA) hte hoA, hm.2⟩, ?_, fun j hj => by simp [Value.ownBlock] at hj; subst hj; exact hx⟩, ⟨box_off (boxB hm1.1 hA) ht1 hoA, hm1.2⟩, hB.step ((hA.mono hn).setCell (p := ⟨g, i, none⟩) (by show n₀ ≤ g; omega) _)⟩
  rw [hlen]
  exact (hoA.stored i u).1
set_option maxHeartbeats 1000000 in
theorem gcd_drew (a b : Nat) (w : World) (ha : a ≤ 100000) (hb : b ≤ 100000) :
    Calls Tryd.prog 28 #[.int .i64 a, .int .i64 b] w fun e w' => e = .returned (.int .i64 (Nat.gcd a b : Nat)) ∧ ∃ k, w' = w.drewN k := by
  go_enter Tryd.func28, Tryd.ntmps28
  go_wp2
  go_loopw [0, 1] (fun x y wr => ∃ (p q : Nat), x = .int .i64 p ∧ y = .int .i64 q ∧ p ≤ 100000 ∧ q ≤ 100000 ∧ Nat.gcd p q = Nat.gcd a b ∧ ∃ k, wr = w.drewN k) (fun _ y _ => (intOf y).toNat)
  case atStart => exact ⟨a, b, rfl, rfl, ha, hb, rfl, 0, rfl⟩
  case round =>
    obtain ⟨p, q, rfl, rfl, hp, hq, hg, k, hk⟩ := hrel
    by_cases h0 : q = 0
    · subst h0
      have Hg := hid hg
      have Hk := hid hk
      clear hg hk
      go_wp2
      go_ret
      exact ⟨ret_int (by rw [← Hg.out, Nat.gcd_zero_right]), k, Hk.out⟩
    · have hne : ((q : Int) != 0) = true := by simp; omega
      have hq0 : (0 : Int) < q := by omega
      have e1 : (p : Int).tmod (q : Int) = ((p % q : Nat) : Int) := by rw [Int.tmod_eq_emod_of_nonneg (by omega)]; omega
      have hlt : p % q < q := Nat.mod_lt _ (by omega)
      have hg2 : Nat.gcd q (p % q) = Nat.gcd a b := by rw [← hg, Nat.gcd_comm p q, Nat.gcd_rec q p, Nat.gcd_comm]
      have Hg := hid hg2
      have Hk := hid hk
      have hz : ((q : Int) == 0) = false := by simp; omega
      clear hg hg2 hk
      generalize p % q = r at *
      go_wp2_with fail
      go_quiet (fail)
      all_goals go_wp2
      all_goals go_roundw
      all_goals first
        | exact ⟨q, r, rfl, rfl, hq, by omega, Hg.out, k + nq, by rw [Hk.out, World.drewN_drewN]⟩
        | (simp [intOf]; omega)
/-- What periodic returns of a strongly connected automaton. -/
def PeriodicIs (m : List (List Int)) (w : World) (e : Ending) (w' : World) : Prop :=
  ∃ r, e = .returned (.tuple #[.int .i64 (perM m : Nat), r, .int .i64 0]) ∧ w'.ownsRow w.heap.size 3 1 r m.length ((lensM m).map fun x => .int .i64 x) ∧ Below w.heap.size w w'
set_option maxRecDepth 100000 in
set_option maxHeartbeats 4000000 in
theorem periodic_ok (v : Value) (m : List (List Int)) (w : World) (h : Rows w v m) (hv : validM m = true) (hcn : connM m = true) :
    Calls Tryd.prog 17 #[.agg #[v]] w (PeriodicIs m w) := by
  obtain ⟨i0, hi, hz0, hz1, hz2⟩ := info_parts infoInt
  obtain ⟨p1, p2, p3, p4, p5⟩ := valid_parts hv
  obtain ⟨A, cap, rfl, hml, hcm⟩ := id h
  obtain ⟨b, off, r, hA, hcell, hrow⟩ := hcm 0 (by omega)
  subst hA
  have hrl := (p5 0 (by omega)).1
  obtain ⟨Ar, capr, rfl, -, -⟩ := id hrow
  rw [hrl] at hcell
  have h := h
  clear hcm hrow p5 hrl
  have hX := bal (Below.refl _ w) (.cells #[.slice (some ⟨b, off, none⟩) m.length cap] 24)
  have q0 := Boxed.new w 24 (.slice (some ⟨b, off, none⟩) m.length cap)
  have hr := h.below hX
  refine (callsIn_wide (n := 0)).1 ?_
  refine callsIn_of_wp_marks Tryd.func17 rfl trivial ?_ rfl
  simp only [Tryd.ntmps17, List.size_toArray, List.length_cons, List.length_nil, Nat.reduceAdd, Nat.reduceSub, Array.replicate_succ, Array.replicate_zero, List.push_toArray, List.append_toArray, List.nil_append, List.cons_append]
  refine wpIn_wide.2 ?_
  go_wp2_with fail
  generalize hWX : w.alloc (.cells #[.slice (some ⟨b, off, none⟩) m.length cap] 24) = X at *
  have hxs : X.heap.size = w.heap.size + 1 := by rw [← hWX]; simp
  clear hWX
  refine (Valid_bool _ m true _ hr hv).mono ?_
  rintro e w1 ⟨rfl, h1⟩
  have e1 := (h1.cell (p := ⟨w.heap.size, 0, none⟩) (World.block_lt_of_cell? _ _ q0.cell)).trans q0.cell
  have hr1 := hr.below h1
  have hX1 := btr hX h1
  have hcm := connected_any _ m _ hr1 hv
  rw [hcn] at hcm
  have Hcm := hid hcm
  have q0 := boxB q0 h1
  clear hcm hr
  go_wp2_with fail
  refine Hcm.out.mono ?_
  rintro e w2 ⟨rfl, h2⟩
  have e2 := (h2.cell (p := ⟨w.heap.size, 0, none⟩) (World.block_lt_of_cell? _ _ e1)).trans e1
  have hr2 := hr1.below h2
  have hX2 := btr hX1 h2
  have q0 := boxB q0 h2
  clear hr1 e1 Hcm
  go_wp2_with (at_make; refine wpList_make_full _ rfl _ _ 35 rfl w2.heap.size 3 i0 (.int .i64 0) 1 Tryd.underlying35 hi hz0 hz1 .i64 .i64 _ _ m.length rfl rfl rfl rfl (by rw [hz2]; omega) (by unfold maxLen; omega) (Nat.le_refl _) ?_; intro w3 hown hgrow)
  have hB3 : Below w.heap.size w w3 := btr hX2 ((Below.refl _ w2).grown hgrow (Nat.le_refl _) (fun q hq => by cases hq))
  have h23 : Below w2.heap.size w2 w3 := (Below.refl _ w2).grown hgrow (Nat.le_refl _) (fun q hq => by cases hq)
  have hs2 := hX2.size
  have hs3 := h23.size
  have e3 := (h23.cell (p := ⟨w.heap.size, 0, none⟩) (World.block_lt_of_cell? _ _ e2)).trans e2
  have hr3 := hr2.below h23
  have q0 := boxB q0 h23
  rw [show Value.cells (.int .i64 0) = #[.int .i64 0] from rfl, toList_madeCells_one, Nat.mul_one] at hown
  have hownT := hown.alloc (.cells #[.slice (some ⟨w2.heap.size, 0, none⟩) m.length m.length] 35)
  have q5 := Boxed.new w3 35 (.slice (some ⟨w2.heap.size, 0, none⟩) m.length m.length)
  have hBT := bal hB3 (.cells #[.slice (some ⟨w2.heap.size, 0, none⟩) m.length m.length] 35)
  have h3T := bal (Below.refl _ w3) (.cells #[.slice (some ⟨w2.heap.size, 0, none⟩) m.length m.length] 35)
  have eT := (h3T.cell (p := ⟨w.heap.size, 0, none⟩) (World.block_lt_of_cell? _ _ e3)).trans e3
  have hrT := hr3.below h3T
  have q0 := boxB q0 h3T
  have hglt := (own_lt hownT).2
  have hTs : (w3.alloc (.cells #[.slice (some ⟨w2.heap.size, 0, none⟩) m.length m.length] 35)).heap.size = w3.heap.size + 1 := by simp
  generalize hWT : w3.alloc (.cells #[.slice (some ⟨w2.heap.size, 0, none⟩) m.length m.length] 35) = T at *
  clear hWT e2 e3 hr2 hr3 hown hgrow h3T
  have hcellT := (hBT.cell (p := ⟨b, off + 0, none⟩) (World.block_lt_of_cell? _ _ hcell)).trans hcell
  rw [Nat.add_zero] at hcellT
  have HTs := hid hTs
  clear hTs
  go_upto_region 6 with fail
  go_cut [30] from 23 to 31 (fun f wc => ∃ y1 : World, Below T.heap.size T y1 ∧ y1.cell? ⟨T.heap.size, 0, none⟩ = some (.slice (some ⟨b, off, none⟩) m.length cap) ∧ T.heap.size < y1.heap.size ∧
    f = .func (.func 38) #[] #[.pointer (some ⟨y1.heap.size, 0, none⟩), .pointer (some ⟨y1.heap.size + 1, 0, none⟩), .pointer (some ⟨y1.heap.size + 1 + 1, 0, none⟩)] ∧
    wc = ((y1.alloc (.cells #[.int .i64 0] 3)).alloc (.cells #[.int .i64 (letters m)] 3)).alloc (.cells #[.func (.func 37) #[] #[.pointer (some ⟨T.heap.size, 0, none⟩)]] 56))
  case first =>
    refine wp_ends ?_
    go_region_held (fun w' => Below T.heap.size T w' ∧ w'.cell? ⟨w.heap.size, 0, none⟩ = some (.slice (some ⟨b, off, none⟩) m.length cap) ∧ w'.cell? ⟨b, off, none⟩ = some (.slice Ar (letters m) capr)) (exact held_pair eT hcellT (by first | exact below_dr T 1 | assumption)) (first
      | (go_at_call 25; go_must (refine (lead_fn _ _).mono ?_; rintro e y1 ⟨rfl, hy1⟩; have k1 : Below T.heap.size T y1 := (by rw [hy1]; exact bal (by first | exact below_dr T 1 | exact Below.refl _ _ | assumption) _); have v3 : y1.cell? ⟨T.heap.size, 0, none⟩ = some (.slice (some ⟨b, off, none⟩) m.length cap) := (by rw [hy1]; exact (Boxed.new _ _ _).cell); clear hy1))
      | (go_at_call 27; go_must (refine (Words_fn 0 (letters m) _ _ _).mono ?_; rintro e y2 ⟨rfl, hy2⟩; have k2 : Below T.heap.size T y2 := (by rw [hy2]; exact bal (bal (bal k1 _) _) _); have hY2 := hid hy2; clear hy2)))
    all_goals (go_wp2_with fail; go_meet; exact ⟨y1, k1, v3, World.block_lt_of_cell? _ _ v3, rfl, hY2.out⟩)
  case rest =>
    obtain ⟨y1, k1, v3, hy1, rfl, rfl⟩ := hcut
    have hTs := HTs.out
    have hB1 := btr hBT k1
    have hY := bal (bal (bal (Below.refl _ y1) (.cells #[.int .i64 0] 3)) (.cells #[.int .i64 (letters m)] 3)) (.cells #[.func (.func 37) #[] #[.pointer (some ⟨T.heap.size, 0, none⟩)]] 56)
    have hTZ := btr k1 hY
    have hBZ := btr hBT hTZ
    have s1 := ((Boxed.new y1 3 (.int .i64 0)).alloc (.cells #[.int .i64 (letters m)] 3)).alloc (.cells #[.func (.func 37) #[] #[.pointer (some ⟨T.heap.size, 0, none⟩)]] 56)
    have s2 := (Boxed.new (y1.alloc (.cells #[.int .i64 0] 3)) 3 (.int .i64 (letters m))).alloc (.cells #[.func (.func 37) #[] #[.pointer (some ⟨T.heap.size, 0, none⟩)]] 56)
    have s3 := Boxed.new ((y1.alloc (.cells #[.int .i64 0] 3)).alloc (.cells #[.int .i64 (letters m)] 3)) 56 (.func (.func 37) #[] #[.pointer (some ⟨T.heap.size, 0, none⟩)])
    simp only [World.size_alloc] at s2 s3
    have hZs : (((y1.alloc (.cells #[.int .i64 0] 3)).alloc (.cells #[.int .i64 (letters m)] 3)).alloc (.cells #[.func (.func 37) #[] #[.pointer (some ⟨T.heap.size, 0, none⟩)]] 56)).heap.size = y1.heap.size + 3 := by simp
    have vZ := (hY.cell (p := ⟨T.heap.size, 0, none⟩) (World.block_lt_of_cell? _ _ v3)).trans v3
    have q5Z := boxB q5 hTZ
    have q0Z := boxB q0 hTZ
    have hoZ := owns_block hownT (hTZ.block _ hglt)
    have hrZ := hrT.below hTZ
    clear k1 hY
    generalize hWZ : ((y1.alloc (.cells #[.int .i64 0] 3)).alloc (.cells #[.int .i64 (letters m)] 3)).alloc (.cells #[.func (.func 37) #[] #[.pointer (some ⟨T.heap.size, 0, none⟩)]] 56) = Z at *
    clear hWZ hTZ q5 q0 hownT
    have hXZ : ∀ k, (k = T.heap.size ∨ k = y1.heap.size ∨ k = y1.heap.size + 1 ∨ k = y1.heap.size + 1 + 1) → k < Z.heap.size := fun k hk => by omega
    have hF := bfsM_good hv (s := 0) (by omega)
    have hseq := Words_seq (fun p x => nx m p (x : Int)) m.length (letters m) 0 T.heap.size _ _ _ w.heap.size (fun W => Below w.heap.size w W ∧ W.cell? ⟨T.heap.size, 0, none⟩ = some (.slice (some ⟨b, off, none⟩) m.length cap)) Z (fun k => k = T.heap.size ∨ k = y1.heap.size ∨ k = y1.heap.size + 1 ∨ k = y1.heap.size + 1 + 1)
      (by omega) (by omega) (by omega) (ldM_ok hv) (.inr (.inl rfl)) (.inr (.inr (.inl rfl))) (.inr (.inr (.inr rfl))) hXZ hBZ.size (fun W W' h k => ⟨h.1.trans (k.below h.1.size), keep_cell k (.inl rfl) h.2⟩) ⟨hBZ, vZ⟩
      (fun p x W hR hp hx => lead_any _ cap m _ p x W hR.2 (h.below hR.1) hv hp hx) s1.cell s2.cell s3.cell
    rw [show bfsTo (fun p x => nx m p (x : Int)) (letters m) 0 m.length = bfsM m 0 from rfl] at hseq
    have hLdef := hid (show lensM m = lensTo (bfsM m 0) m.length (bfsM m 0).length from rfl)
    generalize bfsM m 0 = F at *
    have hFl := hF.len
    have Hhseq := hid hseq
    clear hseq
    go_wp2_with fail
    refine (wpIn_wide (n := 0)).1 ?_
    refine range_lawO (gf := 38) (fb := #[]) (lb := #[.pointer (some ⟨y1.heap.size, 0, none⟩), .pointer (some ⟨y1.heap.size + 1, 0, none⟩), .pointer (some ⟨y1.heap.size + 1 + 1, 0, none⟩)]) rfl (enters_of Tryd.func38 (by kernel_rfl) rfl)
      Hhseq.out hXZ (fun _ _ _ _ h k => h.keep k) hBZ.size (Below.refl _ _) (fun _ => rfl)
      (fun X pre W => MineRow w.heap.size X W w3.heap.size 35 3 ((lensTo F m.length pre.length).map fun x => .int .i64 x) ∧ (Mine X W w.heap.size 24 (.slice (some ⟨b, off, none⟩) m.length cap) ∧ Base w.heap.size w X W))
      (fun c X pre W => False)
      (Stable.and (stable_row _ _ _ _ _ (fun pre : List (Nat × Value) => (lensTo F m.length pre.length).map fun x => .int .i64 x)) (Stable.and (stable_box _ _ _ (fun _ => _)) (stable_base _ _ _ hBZ.size (Nat.le_refl _))))
      (fun _ _ _ _ _ _ h _ _ _ _ _ _ => h)
      ⟨⟨_, ⟨q5Z, fun h => by omega⟩, by simpa [lensTo] using row_mono hoZ hs2, fun j hj h => by simp [Value.ownBlock] at hj; omega⟩, ⟨q0Z, fun h => by omega⟩, ⟨fun k hk => by omega, hBZ⟩⟩
      (fun x a' _ => a' = { tmps := #[.agg #[.slice (some ⟨b, off, none⟩) m.length cap], .pointer (some ⟨w.heap.size, 0, none⟩), .int .i64 0, .slice none 0 0, .int .i64 0, .pointer (some ⟨w3.heap.size, 0, none⟩), .int .i64 (plB F x.1), x.2, undef, undef, undef, undef, undef, .agg #[.slice (some ⟨b, off, none⟩) m.length cap], .bool true, .bool false, .agg #[.slice (some ⟨b, off, none⟩) m.length cap], .bool true, .bool false, .pointer (some ⟨w.heap.size, 0, none⟩), .slice (some ⟨b, off, none⟩) m.length cap, .int .i64 m.length, .slice (some ⟨w2.heap.size, 0, none⟩) m.length m.length, u23, u24, u25, u26, u27, u28, u29, .func (.func 38) #[] #[.pointer (some ⟨y1.heap.size, 0, none⟩), .pointer (some ⟨y1.heap.size + 1, 0, none⟩), .pointer (some ⟨y1.heap.size + 1 + 1, 0, none⟩)], .int .i64 (plB F x.1), x.2, undef, undef, undef, undef, undef, undef, undef, undef, undef, undef, undef, undef, undef, undef, undef, undef, undef, undef, undef, undef, undef, undef, undef, undef, undef, undef, undef, undef, undef, undef, undef, undef, undef, undef, undef, undef], defers := [] })
      (fun _ _ _ _ _ _ _ hs _ _ _ _ _ _ => hs) ?assign ?body ?done ?stop
    case assign =>
      intro l X pre x W' K' hi hK'
      unfold encW
      gi_wp2
      exact hK' _ _ (KeepsFrom.refl _ _) (Keep.refl _ _ _) hi rfl
    case body =>
      rintro l X pre ⟨i, fv⟩ a' W hl hrec hXl hXs ⟨⟨v, hm, ho, hx⟩, b0, hB⟩ hG rfl hsp
      obtain ⟨k, hk, hkr⟩ := hsp
      obtain ⟨hk1, hix⟩ := sp_last hkr
      simp only at hix
      subst hix
      obtain ⟨c6, c7, g', cap', B', base', hfv, _⟩ := id hG
      simp only at hfv
      subst hfv
      obtain ⟨p, hp, hpn⟩ := hF.below pre.length (by omega)
      have hll := lensTo_len F m.length pre.length
      rw [List.length_map, hll] at ho
      obtain ⟨g, cg, rfl⟩ := ownsRow_pos' ho (by omega)
      have hbm := wordB_len hF.tree pre.length (by omega)
      have hxg : ¬ X g := hx g rfl
      have m5 := hm.cell
      have hWn := hB.2.size
      have hsucc := hid (show lensTo F m.length (pre.length + 1) = (lensTo F m.length pre.length).set p ((wordB F pre.length).length : Int) by rw [lensTo, hp, Int.toNat_natCast])
      have hpl : (pre ++ [((pre.length : Nat), Value.func (.func 39) #[] #[.pointer (some ⟨c6, 0, none⟩), .pointer (some ⟨c7, 0, none⟩)])]).length = pre.length + 1 := by simp
      have hps : (p : Int) < m.length := by omega
      have Hpost := hid (fun wA (hA : Below W.heap.size W wA) => lens_post (B₀ := Z.heap.size) (i := p) (u := .int .i64 ((wordB F pre.length).length : Int)) (w := w) (t := 35) (e := 3) (by decide) (by decide) hWn hm ho hxg b0 hB hA (by rw [List.length_set, List.length_map, hll]))
      have Hgl := hid (own_lt ho)
      have Ho := hid ho
      have HG := hid hG
      have Hhp := hid hp
      have Hhl := hid hll
      simp only [hp]
      clear hB ho hG hp hll hx hXs hrec hm b0 hXl hXZ hF
      gi_wp2
      have hfo := follows
      generalize hWW : (wordB F pre.length).length = N at *
      have hNb : N ≤ 1000 := by omega
      gi_region_with_o (refine ⟨trivial, rfl, ?_⟩; gi_at_call 39; refine (inr l _ (word_any F X _ c6 c7 _ (by first | exact HG.out | exact HG.out.keep (Keep.drew (Keep.refl _ _ _))))).mono ?_; rintro e wA ⟨r, rfl, hr, hb0⟩; have hbA : Below W.heap.size W wA := (by first | exact hb0 | exact btr (below_dr W 1) hb0); rw [hWW] at hr; obtain ⟨rA, rc, rfl⟩ := ownsRow_slice hr; have m5A := (hbA.cell (p := ⟨w3.heap.size, 0, none⟩) (World.block_lt_of_cell? _ _ m5)).trans m5; have hoA := owns_block Ho.out (hbA.block g Hgl.out.2); have hcA := hoA.cellAt p (by omega); have hfA := hoA.frozenAt p; rw [List.getElem?_map, List.getElem?_eq_getElem (by rw [Hhl.out]; exact hpn), Option.map_some] at hcA; have HbA := hid hbA; clear hr hb0 hbA hoA)
      all_goals gi_wp2
      all_goals
        have HP := Hpost.out _ HbA.out
        rw [← List.map_set, ← hsucc.out, ← hpl] at HP
        exact ⟨HP.1, HP.2.1, HP.2.2.1, HP.2.2.2.1, HP.2.2.2.2⟩
    case done =>
      rintro D X xs W hD hS ⟨⟨v, hm, ho, hx⟩, b0, hB⟩ hK'
      have hxl : xs.length = F.length := by have := congrArg List.length hS; simpa using this
      have hll := lensM_len m
      rw [hxl, ← hLdef.out, List.length_map, hll] at ho
      obtain ⟨g, cg, rfl⟩ := ownsRow_pos' ho (by omega)
      have m5 := hm.cell
      have m0 := b0.cell
      have hrW := h.below hB.2
      have hBW := hB.2
      have Ho := hid ho
      have HK := hid hK'
      have HS := hid hS
      have Hb := hid (lensM_any m hv)
      have Hex := hid (fun s x hs hx => excM_eq hv hcn (s := s) (x := x) hs hx)
      have Hpl := hid (perM_le m hv)
      have Hper := hid (show perM m = gAll (lensM m) m m.length from rfl)
      have hmc := hrW
      obtain ⟨A', cap', hA0, -, hcm⟩ := hmc
      cases hA0
      have Hcm := hid hcm
      have Hp5 := hid (valid_parts hv).2.2.2.2
      clear hm b0 hB ho hK' hS hLdef hX hX1 hX2 h1 h2 hcell h hF hcm
      generalize hLM : lensM m = L at *
      have HLM := hid hLM
      clear hLM
      go_wp2_with fail
      go_loopw [8, 42] (fun pv sv wr => ∃ s : Nat, s ≤ m.length ∧ sv = .int .i64 s ∧ pv = .int .i64 (gAll L m s : Nat) ∧ Below W.heap.size W wr) (fun _ sv _ => m.length - (intOf sv).toNat)
      case atStart => exact ⟨0, Nat.zero_le _, rfl, rfl, Below.refl _ _⟩
      case round =>
        obtain ⟨s, hs, rfl, rfl, hBr⟩ := hrel
        by_cases hlt : s < m.length
        · have hss : (s : Int) < m.length := by omega
          obtain ⟨b', off', r', hA', hcs, hrow'⟩ := Hcm.out s hlt
          cases hA'
          have hrl := (Hp5.out s hlt).1
          obtain ⟨As, caps, rfl, -, hct⟩ := hrow'
          rw [hrl] at hcs hct
          have hcs := (hBr.cell (p := ⟨b, off + s, none⟩) (World.block_lt_of_cell? _ _ hcs)).trans hcs
          have Hct := hid hct
          have hsucc := hid (show gAll L m (s + 1) = gRow L m s (gAll L m s) (letters m) from rfl)
          have hd0 := Hpl.out s
          clear hct
          obtain ⟨wo, rfl⟩ : ∃ wo : World, wo = wr := ⟨_, rfl⟩
          go_wp2_with fail
          go_loopw [8, 49] (fun pv xv wr => ∃ x : Nat, x ≤ letters m ∧ xv = .int .i64 x ∧ pv = .int .i64 (gRow L m s (gAll L m s) x : Nat) ∧ Below W.heap.size W wr) (fun _ xv _ => letters m - (intOf xv).toNat)
          case atStart => exact ⟨0, Nat.zero_le _, rfl, rfl, hBr⟩
          case round =>
            clear hBr hcs
            obtain ⟨x, hx, rfl, rfl, hBr⟩ := hrel
            by_cases hxl : x < letters m
            · have hxs : (x : Int) < letters m := by omega
              obtain ⟨br, offr, hAr, hcx⟩ := Hct.out x hxl
              cases hAr
              have hcx := (hBr.cell (p := ⟨br, offr + x, none⟩) (World.block_lt_of_cell? _ _ hcx)).trans hcx
              obtain ⟨hn1, hn⟩ := nx_ok hv (s := s) hlt (x := (x : Int)) (by omega) (by omega)
              rw [Int.toNat_natCast] at hn
              rw [hn] at hcx
              have hexc := Hex.out s x hlt hxl
              have hrsucc := hid (show gRow L m s (gAll L m s) (x + 1) = Nat.gcd (excM L m s x) (gRow L m s (gAll L m s) x) from rfl)
              have hgb : gRow L m s (gAll L m s) x ≤ 61 := gRow_le (fun y => by have := excM_le (L := L) (m := m) (B := 60) (by omega) Hb.out s y; omega) hd0 x
              have hmr := (hBr.cell (p := ⟨w3.heap.size, 0, none⟩) (World.block_lt_of_cell? _ _ m5)).trans m5
              have hor := owns_block Ho.out (hBr.block _ (own_lt Ho.out).2)
              have cs := hor.cellAt s (by omega)
              have ct := hor.cellAt (nx m s (x : Int)) (by omega)
              rw [show (L.map fun x => Value.int .i64 x)[s]? = some (.int .i64 (L.getD s 0)) by simp [List.getElem?_map, List.getElem?_eq_getElem (show s < L.length by omega), List.getD_eq_getElem?_getD]] at cs
              rw [show (L.map fun x => Value.int .i64 x)[nx m s (x : Int)]? = some (.int .i64 (L.getD (nx m s (x : Int)) 0)) by simp [List.getElem?_map, List.getElem?_eq_getElem (show nx m s (x : Int) < L.length by omega), List.getD_eq_getElem?_getD]] at ct
              have b1 := Hb.out s
              have b2 := Hb.out (nx m s (x : Int))
              clear hn hor
              generalize nx m s (x : Int) = t at *
              generalize L.getD s 0 = ls at *
              generalize L.getD t 0 = lt at *
              generalize excM L m s x = ex at *
              generalize gRow L m s (gAll L m s) x = d at *
              have hts : (t : Int) < m.length := by omega
              have e1 : IntKind.i64.wrap (ls + 1) = ls + 1 := IntWalk.i64_in _ (by omega)
              have e2 : IntKind.i64.wrap (ls + 1 - lt) = (ex : Int) := by rw [IntWalk.i64_in _ (by omega)]; exact hexc.symm
              obtain ⟨wq, rfl⟩ : ∃ wq : World, wq = wr := ⟨_, rfl⟩
              go_upto_region 17 with fail
              have Hg := hid (fun n => show Calls Tryd.prog 28 #[.int .i64 (ls + 1 - lt), .int .i64 d] (wq.drewN n) fun e w' => e = .returned (.int .i64 (Nat.gcd ex d : Nat)) ∧ ∃ k, w' = (wq.drewN n).drewN k from by have h9 := gcd_drew ex d (wq.drewN n) (by omega) (by omega); rwa [hexc] at h9)
              clear e2 hexc
              go_quiet ((go_at_call 28; exact Calls.quiet_of (Hg.out _)))
              go_wp2
              go_roundw
              case rel => exact ⟨x + 1, by omega, by go_num, by rw [hrsucc.out], bdr hBr nq⟩
              case measure => simp [intOf]; omega
            · obtain rfl : x = letters m := by omega
              have hxs : ¬ ((letters m : Nat) : Int) < letters m := by omega
              rw [← hsucc.out]
              go_wp2
              go_roundw
              case rel => exact ⟨s + 1, by omega, by go_num, rfl, hBr⟩
              case measure => simp [intOf]; omega
        · obtain rfl : s = m.length := by omega
          have hss : ¬ ((m.length : Nat) : Int) < m.length := by omega
          have hmr := (hBr.cell (p := ⟨w3.heap.size, 0, none⟩) (World.block_lt_of_cell? _ _ m5)).trans m5
          have hKr := hBr.block D (Array.getElem?_eq_some_iff.1 HK.out).1
          have hK2 := hid (hKr.trans HK.out)
          have hor := hid (owns_block Ho.out (hBr.block _ (own_lt Ho.out).2))
          have hDw : w.heap.size ≤ D := by have := hBZ.size; omega
          clear hKr
          go_wp2_with fail
          go_quiet (fail)
          go_wp2
          have hKq : (wr.drewN nq).heap[D]? = some (.deferred (some [])) := hK2.out
          refine ⟨by simp, .inl ⟨_, _, rfl, run_takeDeferred hKq, ?_⟩⟩
          have hperm := hid (show gAll L m m.length = perM m from Hper.out.symm)
          refine ⟨.tuple #[.int .i64 (perM m : Nat), .slice (some ⟨g, 0, none⟩) m.length cg, .int .i64 0], ?_, ⟨_, rfl, ?_, (hBW.trans ((bdr hBr nq).mono hBW.size)).trans (belowK_b (w := w) (Nat.le_refl _) _ D _ _ hDw hKq rfl rfl)⟩⟩
          · simp only [results, Tryd.results17]
            go_simp
            rw [hperm.out]
          · rw [HLM.out]
            exact ownsRow_putObj (W := wr.drewN nq) hor.out (.deferred none) hKq rfl
    case stop =>
      rintro D X c pre W _ _ h _
      exact h.elim
end Go.Proofs.YtpbbpogeleolaaaDoor
namespace Go.Proofs.YtpbbpogeleolaaaDoor
open Go.RowKit Go.Shelf
set_option maxRecDepth 100000 in
set_option maxHeartbeats 1000000 in
theorem Period_ok (v : Value) (m : List (List Int)) (w : World) (h : Rows w v m) (hv : validM m = true) (hc : connM m = true) :
    Calls Tryd.prog 6 #[.agg #[v]] w fun e w' => e = .returned (.tuple #[.int .i64 (perM m : Nat), .int .i64 0]) ∧ Below w.heap.size w w' := by
  obtain ⟨A, cap, rfl, hml, -⟩ := id h
  have hr := h.alloc (.cells #[.slice A m.length cap] 24)
  go_enter Tryd.func6, Tryd.ntmps6
  go_wp2_with fail
  refine (periodic_ok _ m _ hr hv hc).mono ?_
  rintro e w1 ⟨r, rfl, ho, h1⟩
  have Ho := hid ho
  clear ho
  go_wp2
  go_ret2
  exact ⟨rfl, btr (bal (Below.refl _ _) _) h1⟩
/-- The classes of the first k states, and the lengths of the others. -/
def clsTo (L : List Int) (d : Nat) : Nat → List Int
  | 0 => L
  | k + 1 => (clsTo L d k).set k (L.getD k 0 % (d : Int))
theorem clsTo_len (L : List Int) (d : Nat) : ∀ k, (clsTo L d k).length = L.length
  | 0 => rfl
  | k + 1 => by simp [clsTo, clsTo_len L d k]
theorem clsTo_get (L : List Int) (d : Nat) : ∀ k, k ≤ L.length → ∀ i, (clsTo L d k).getD i 0 = if i < k then L.getD i 0 % (d : Int) else L.getD i 0
  | 0, _, i => by simp [clsTo]
  | k + 1, hk, i => by
    have ih := clsTo_get L d k (by omega) i
    have hl := clsTo_len L d k
    simp only [clsTo, List.getD_eq_getElem?_getD, List.getElem?_set] at ih ⊢
    by_cases h : k = i
    · subst h
      rw [if_pos rfl, if_pos (by omega), if_pos (by omega)]; rfl
    · rw [if_neg h, ih]
      by_cases h2 : i < k
      · rw [if_pos h2, if_pos (by omega)]
      · rw [if_neg h2, if_neg (by omega)]
/-- The classes. -/
def clsM (m : List (List Int)) : List Int := clsTo (lensM m) (perM m) m.length
theorem clsM_len (m : List (List Int)) : (clsM m).length = m.length := by rw [clsM, clsTo_len, lensM_len]
theorem clsM_get (m : List (List Int)) {i : Nat} (hi : i < m.length) : (clsM m).getD i 0 = (lensM m).getD i 0 % (perM m : Int) := by
  rw [clsM, clsTo_get _ _ _ (by rw [lensM_len]; exact Nat.le_refl _), if_pos hi]
theorem getI_cell {l : List Int} {i : Nat} (hi : i < l.length) : (l.map fun x => Value.int .i64 x)[i]? = some (.int .i64 (l.getD i 0)) := by
  simp [List.getElem?_map, List.getElem?_eq_getElem hi, List.getD_eq_getElem?_getD]
set_option maxRecDepth 100000 in
set_option maxHeartbeats 1000000 in
theorem Classes_ok (v : Value) (m : List (List Int)) (w : World) (h : Rows w v m) (hv : validM m = true) (hc : connM m = true) :
    Calls Tryd.prog 11 #[.agg #[v]] w fun e w' => ∃ r, e = .returned (.tuple #[r, .int .i64 0]) ∧ w'.ownsRow w.heap.size 3 1 r m.length ((clsM m).map fun x => .int .i64 x) ∧ Below w.heap.size w w' := by
  obtain ⟨p1, p2, p3, p4, p5⟩ := valid_parts hv
  obtain ⟨A, cap, rfl, hml, -⟩ := id h
  have hr := h.alloc (.cells #[.slice A m.length cap] 24)
  have hX := bal (Below.refl _ w) (.cells #[.slice A m.length cap] 24)
  go_enter Tryd.func11, Tryd.ntmps11
  go_wp2_with fail
  refine (periodic_ok _ m _ hr hv hc).mono ?_
  rintro e w1 ⟨r, rfl, ho, h1⟩
  obtain ⟨g, cg, rfl⟩ := ownsRow_pos' ho (by omega)
  have hll := lensM_len m
  have hpp := perM_pos hv hc
  have hpl : perM m ≤ 61 := perM_le m hv m.length
  have hlb := lensM_any m hv
  have hX1 := btr hX h1
  have ho1 := row_mono ho hX.size
  have hgl := (own_lt ho1).1
  have Ho := hid (show w1.ownsRow w.heap.size 3 1 (.slice (some ⟨g, 0, none⟩) m.length cg) m.length ((clsTo (lensM m) (perM m) 0).map fun x => .int .i64 x) from ho1)
  have hcl := hid (show clsM m = clsTo (lensM m) (perM m) m.length from rfl)
  have hctl := clsTo_len (lensM m) (perM m)
  have hctg := hid (clsTo_get (lensM m) (perM m))
  rw [hll] at hctl hctg
  have hcs := hid (fun k => show clsTo (lensM m) (perM m) (k + 1) = (clsTo (lensM m) (perM m) k).set k ((lensM m).getD k 0 % (perM m : Int)) from rfl)
  clear ho ho1 hr hll p5
  generalize lensM m = L at *
  generalize perM m = d at *
  go_wp2_with fail
  go_loopw [16] (fun x wr => ∃ s : Nat, s ≤ m.length ∧ x = .int .i64 s ∧ wr.ownsRow w.heap.size 3 1 (.slice (some ⟨g, 0, none⟩) m.length cg) m.length ((clsTo L d s).map fun x => .int .i64 x) ∧ Below w.heap.size w wr) (fun x _ => m.length - (intOf x).toNat)
  case atStart => exact ⟨0, Nat.zero_le _, rfl, Ho.out, hX1⟩
  case round =>
    clear Ho
    obtain ⟨s, hs, rfl, hO, hB⟩ := hrel
    by_cases hlt : s < m.length
    · have hss : (s : Int) < m.length := by omega
      have hcA := hO.cellAt s (by omega)
      have hfA := hO.frozenAt s
      have hl := hctl s
      rw [getI_cell (by omega)] at hcA
      rw [hctg.out s (by omega) s, if_neg (Nat.lt_irrefl _)] at hcA
      have hb := hlb s
      have hSt := hid (hO.stored s (.int .i64 (L.getD s 0 % (d : Int)))).1
      rw [← List.map_set (f := fun x => Value.int .i64 x), ← hcs.out] at hSt
      have hBs := hid (hB.setCell (p := ⟨g, s, none⟩) (by show w.heap.size ≤ g; omega) (.int .i64 (L.getD s 0 % (d : Int))))
      clear hO hl
      generalize L.getD s 0 = x at *
      have e1 : x.tmod (d : Int) = x % (d : Int) := Int.tmod_eq_emod_of_nonneg hb.1
      have hz : ((d : Int) == 0) = false := by simp; omega
      go_wp2
      go_roundw
      case rel => exact ⟨s + 1, by omega, by go_num, hSt.out, hBs.out⟩
      case measure => simp [intOf]; omega
    · obtain rfl : s = m.length := by omega
      have hss : ¬ ((m.length : Nat) : Int) < m.length := by omega
      rw [← hcl.out] at hO
      have HO := hid hO
      clear hO
      go_wp2
      go_ret2
      exact ⟨_, rfl, HO.out, hB⟩
end Go.Proofs.YtpbbpogeleolaaaDoor
namespace Go.Proofs.YtpbbpogeleolaaaDoor
open Go.RowKit Go.Shelf
attribute [local go_sem] Oper.semAt_some
set_option maxRecDepth 100000 in
set_option maxHeartbeats 60000000 in
theorem Path_yes (v : Value) (m : List (List Int)) (s t : Nat) (w : World) (h : Rows w v m) (hv : validM m = true) (hs : s < m.length) (ht : t < m.length) (hex : ∃ i, i < (bfsM m s).length ∧ plB (bfsM m s) i = (t : Int)) :
    Calls Tryd.prog 14 #[.agg #[v], .int .i64 s, .int .i64 t] w (PathIs (bfsM m s) t w) := by
  have Hfirst := hid (fun A cap ab tb w => First_path A cap m s t ab tb w hv)
  generalize bfsM m s = F at *
  obtain ⟨p1, p2, p3, p4, p5⟩ := valid_parts hv
  obtain ⟨A, cap, rfl, hml, hcm⟩ := id h
  have hss : (s : Int) < m.length := by omega
  have hts : (t : Int) < m.length := by omega
  obtain ⟨b, off, r, hA, hcell, hrow⟩ := hcm 0 (by omega)
  subst hA
  have hrl := (p5 0 (by omega)).1
  obtain ⟨Ar, capr, rfl, -, -⟩ := id hrow
  rw [hrl] at hcell
  have h := h
  clear hcm hrow p5 hrl
  obtain ⟨f0, f1⟩ := two_alloc w (.cells #[.slice (some ⟨b, off, none⟩) m.length cap] 24) (.cells #[.int .i64 t] 3)
  have hX := bal (bal (Below.refl _ w) (.cells #[.slice (some ⟨b, off, none⟩) m.length cap] 24)) (.cells #[.int .i64 t] 3)
  have Hx := hid hX
  go_enter Tryd.func14, Tryd.ntmps14
  go_wp2_with fail
  generalize hWX : (w.alloc (.cells #[.slice (some ⟨b, off, none⟩) m.length cap] 24)).alloc (.cells #[.int .i64 t] 3) = X at *
  clear hX hWX
  have hX := Hx.out
  have hl1 : w.heap.size + 1 < X.heap.size := lt_of_block f1
  have hl0 : w.heap.size < X.heap.size := lt_of_block f0
  have c0 := cell_of_one f0
  have c1 := cell_of_one f1
  have hr := h.below hX
  clear f0 f1
  refine (Valid_bool _ m true _ hr hv).mono ?_
  rintro e w1 ⟨rfl, h1⟩
  have e0 := (h1.cell (p := ⟨w.heap.size, 0, none⟩) hl0).trans c0
  have e1 := (h1.cell (p := ⟨w.heap.size + 1, 0, none⟩) hl1).trans c1
  have hr1 := hr.below h1
  have hX1 := btr hX h1
  have hcell1 := (hX1.cell (p := ⟨b, off + 0, none⟩) (World.block_lt_of_cell? _ _ hcell)).trans hcell
  clear c0 c1 hcell hr h Hx
  go_upto_region 6 with fail
  have hcell0 : w1.cell? ⟨b, off, none⟩ = some (.slice Ar (letters m) capr) := hcell1
  have hw1 := h1.size
  have hfo := follows
  have hfl := follows_late
  clear hcell1 p1 p2 p3 p4 hml hv ht
  have HF := hid (fun w' ha hs' h' ht' => (Hfirst.out (some ⟨b, off, none⟩) cap w1.heap.size (w.heap.size + 1) w' ha hs' h' ht').mono (path_yes hex))
  have Hex := hid hex
  clear Hfirst hex
  go_region_held (fun w' => Below w1.heap.size w1 w' ∧ w'.cell? ⟨w.heap.size, 0, none⟩ = some (.slice (some ⟨b, off, none⟩) m.length cap) ∧ w'.cell? ⟨b, off, none⟩ = some (.slice Ar (letters m) capr)) (exact held_pair e0 hcell0 (by first | exact below_dr w1 1 | assumption)) (first
    | (go_at_call 25; go_must (refine (lead_fn _ _).mono ?_; rintro e y1 ⟨rfl, hy1⟩; have k1 : Below w1.heap.size w1 y1 := (by rw [hy1]; exact bal (by first | exact Below.refl _ _ | assumption | exact Below.drew (by first | exact Below.refl _ _ | assumption)) _); have v0 := (k1.cell (p := ⟨w.heap.size, 0, none⟩) (by show w.heap.size < _; omega)).trans e0; have v1 := (k1.cell (p := ⟨w.heap.size + 1, 0, none⟩) (by show w.heap.size + 1 < _; omega)).trans e1; have v2 := (k1.cell (p := ⟨b, off, none⟩) (World.block_lt_of_cell? _ _ hcell0)).trans hcell0; have v3 : y1.cell? ⟨w1.heap.size, 0, none⟩ = some (.slice (some ⟨b, off, none⟩) m.length cap) := (by rw [hy1]; exact (Boxed.new _ _ _).cell); have v4 := hr1.below k1; clear hy1))
    | (go_at_call 24; go_must (first | refine (HF.out y1 v4 hs v3 v1).mono ?_ | refine (HF.out y1.drew (v4.below (below_dr y1 1)) hs v3 v1).mono ?_); rintro e y2 ⟨i, rA, rn, rc, rfl, hh⟩; have Hh := hid hh; clear hh; have k2 : Below w1.heap.size w1 y2 := btr k1 (btr (by first | exact Below.refl _ _ | exact below_dr y1 1) Hh.out.2.2.2)))
  all_goals go_wp2
  all_goals go_ret2
  all_goals exact ⟨.inl ⟨i, _, Hh.out.1, Hh.out.2.1, rfl, row_mono Hh.out.2.2.1 (by have := k1.size; have := hX1.size; show w.heap.size ≤ y1.heap.size; omega)⟩, btr hX1 (btr k1 (btr (by first | exact Below.refl _ _ | exact below_dr y1 1) Hh.out.2.2.2))⟩
end Go.Proofs.YtpbbpogeleolaaaDoor
namespace Go.Proofs.YtpbbpogeleolaaaDoor
open Go.RowKit Go.Shelf
attribute [local go_sem] Oper.semAt_some
set_option maxRecDepth 100000 in
set_option maxHeartbeats 1000000 in
theorem List_own (S : Nat) (w : World) (hT : Tab w) (hS : S < 2 ^ 64) :
    Calls Tryd.prog 23 #[.int .u64 S] w fun e w' => ∃ v, e = .returned v ∧ w'.ownsRow w.heap.size 3 1 v (intsOf (elems S)).length ((intsOf (elems S)).map fun x => .int .i64 x) ∧ Below w.heap.size w w' := by
  obtain ⟨i0, hi, hz0, hz1, hz2⟩ := info_parts infoInt
  have hlen := elems_length S
  refine (callsIn_wide (n := 0)).1 ?_
  refine callsIn_of_wp_marks Tryd.func23 rfl trivial ?_ rfl
  simp only [Tryd.ntmps23, List.size_toArray, List.length_cons, List.length_nil, Nat.reduceAdd, Nat.reduceSub, Array.replicate_succ, Array.replicate_zero, List.push_toArray, List.append_toArray, List.nil_append, List.cons_append]
  gi_wp2_with (first | (refine ⟨trivial, rfl, ?_⟩; gi_at_call 36; refine (callsIn_wide.2 (Size_any S _ hS)).mono ?_; rintro e w' ⟨rfl, rfl⟩) | (gi_at_make; refine wpListIn_make_own _ rfl _ _ 35 rfl w.heap.size 3 i0 (.int .i64 0) 1 Tryd.underlying35 hi hz0 hz1 .i64 .i64 _ (elems S).length rfl rfl rfl (by rw [hz2]; omega) (by unfold maxLen; omega) (Nat.le_refl _) ?_; intro w1 hown hgrow))
  have hb1 : Below w.heap.size w w1 := (Below.refl _ w).grown hgrow (Nat.le_refl _) (fun k e => by cases e)
  have q1 := Boxed.new w1 35 (.slice (some ⟨w.heap.size, 0, none⟩) 0 (elems S).length)
  have hb0 := bal hb1 (.cells #[.slice (some ⟨w.heap.size, 0, none⟩) 0 (elems S).length] 35)
  have hsz := hb1.size
  have hown0 := hown.alloc (.cells #[.slice (some ⟨w.heap.size, 0, none⟩) 0 (elems S).length] 35)
  refine range_law (gf := 22) (fb := #[.int .u64 S]) (lb := #[]) rfl (enters_of Tryd.func22 (by kernel_rfl) rfl)
    (All_seq S hS w.heap.size hT.lt _ hb0.size (hT.on hb0)) (fun _ _ _ _ _ _ => trivial) hb0.size (Below.refl _ _) (fun _ => rfl)
    (fun X pre W => MineRow w.heap.size X W w1.heap.size 35 3 (pre.map fun s : Nat => Value.int .i64 s) ∧ Base w.heap.size w X W)
    (fun _ _ _ _ => False)
    (Stable.and (stable_row _ _ _ _ _ (fun pre : List Nat => pre.map fun s : Nat => Value.int .i64 s)) (stable_base _ _ _ hb0.size (Nat.le_refl _)))
    (fun _ _ _ _ _ _ hs _ _ _ _ _ _ => hs)
    ⟨⟨_, ⟨q1, fun h => h⟩, by simpa using hown0, fun _ _ h => h⟩, Base.start hb0⟩
    (fun s a' _ => a' = { tmps := #[.int .u64 S, undef, .slice none 0 0, .pointer (some ⟨w1.heap.size, 0, none⟩), .int .i64 s, .int .u64 S, .int .i64 (elems S).length, .slice (some ⟨w.heap.size, 0, none⟩) 0 (elems S).length, .int .u64 S, .func (.func 22) #[.int .u64 S] #[], .int .i64 s, undef, undef, undef, undef, undef], defers := [] })
    (fun _ _ _ _ _ _ _ hs _ _ _ _ _ _ => hs) ?assign ?body ?done ?stop
  case assign =>
    intro l X pre s W K hi hK
    gi_wp2
    exact hK _ _ (KeepsFrom.refl _ _) (Keep.refl _ _ _) hi rfl
  case body =>
    rintro l X pre s a' W hl hrec hXl hXs ⟨⟨v, hm, ho, hx⟩, hB⟩ _ rfl hsp
    have hpl : pre.length < 64 := by have := hsp.length_le; simp at this; omega
    have hmc := hm.cell
    have hBs := hB.2.size
    simp only [List.length_map] at ho
    gi_wp2_with (gi_at_builtin; go_must (refine wpListIn_append_own_at _ rfl _ _ 35 rfl w.heap.size 3 i0 (.int .i64 0) 1 8 Tryd.underlying35 hi hz0 hz1 hz2 rfl (by decide) _ _ _ rfl (ho.alloc _) ⟨W.heap.size, 0, none⟩ 1 1 [.int .i64 s] rfl rfl (cell_one_new _ _ _) (by simp [Value.oneCell']) (by unfold maxLen; omega) (by omega) (by simp; omega) ?_); intro v' w2 hown' hgrow' _ hat; obtain ⟨g', cap', rfl⟩ := ownsRow_succ hown'; obtain ⟨r1, r2, r3, r4, r5, r6⟩ := MineRow.appended (e := 3) (xs := pre.map fun s : Nat => Value.int .i64 s) (ys := (pre ++ [s]).map fun s : Nat => Value.int .i64 s) hm (by simpa using ho) hx (by decide) hBs (by omega) hXs (by simpa using hown') hgrow' hat; have hc1 := r1.cell; have hf1 := r1.frozen)
    exact ⟨r3.from _, r5, r2, hB.step r4⟩
  case done =>
    rintro D X xs W hD rfl ⟨⟨v, hm, ho, hx⟩, hB⟩ hK
    have hmc := hm.cell
    gi_wp2
    refine ⟨by simp, .inl ⟨_, _, rfl, run_takeDeferred hK, ?_⟩⟩
    refine ⟨_, results_tmp rfl _ _ _, _, rfl, ?_, hB.2.trans (belowK_b (w := w) (Nat.le_refl _) _ D _ _ (by have := hb0.size; omega) hK rfl rfl)⟩
    have := ownsRow_putObj ho (.deferred none) hK rfl
    simpa [intsOf, Function.comp_def] using this
  case stop =>
    rintro D X c pre W _ _ h _
    exact h.elim
/-- What is behind the marks of loops over functions: only those marks are turned. -/
def MarksOff (B : Nat) (W W' : World) : Prop := Below B W W' ∧ ∀ (k : Nat) (o : Obj), W.heap[k]? = some o → o.isCells = true → W'.heap[k]? = some o
theorem MarksOff.refl (B : Nat) (W : World) (h : B ≤ W.heap.size) : MarksOff B W W := ⟨(Below.refl _ W).mono h, fun _ _ h _ => h⟩
theorem leaves_marks {fn : Func} {tmps : Array Value} {R : Ending → World → Prop} {v : Value} (hr : ∀ W, (results fn tmps).run Tryd.prog W = .ok v W) (B : Nat) :
    ∀ (ds : List Nat) (W : World), B ≤ W.heap.size → ds.Nodup → (∀ D ∈ ds, B ≤ D ∧ W.heap[D]? = some (.deferred (some []))) → (∀ W', MarksOff B W W' → R (.returned v) W') →
      LeavesInM Fence.wide 0 Tryd.prog fn tmps R (ds.map fun D => { target := .collected D, args := #[] }) .returning W
  | [], W, hB, _, _, h => ⟨v, hr W, h W (MarksOff.refl B W hB)⟩
  | D :: ds, W, hB, hn, hD, h => by
    obtain ⟨h1, h2⟩ := hD D (by simp)
    have hlt := (Array.getElem?_eq_some_iff.1 h2).1
    have hnd := List.nodup_cons.1 hn
    refine ⟨by simp, .inl ⟨_, _, rfl, run_takeDeferred h2, ?_⟩⟩
    refine leaves_marks hr B ds (W.putObj D (.deferred none)) (by simp; exact hB) hnd.2 (fun D' hD' => ?_) (fun W' hW' => h W' ?_)
    · obtain ⟨k1, k2⟩ := hD D' (List.mem_cons_of_mem _ hD')
      exact ⟨k1, (World.putObj_heap_other (fun e => hnd.1 (by rw [← e]; exact hD'))).trans k2⟩
    · obtain ⟨k1, k2⟩ := hW'
      refine ⟨⟨k1.os, k1.tape, k1.output, Nat.le_trans (by simp) k1.size, fun k hk => (k1.block k hk).trans (World.putObj_heap_other (by omega))⟩, fun k o hk ho => k2 k o ((World.putObj_heap_other (fun e => ?_)).trans hk) ho⟩
      subst e
      rw [h2] at hk
      cases hk
      cases ho
end Go.Proofs.YtpbbpogeleolaaaDoor
namespace Go.Proofs.YtpbbpogeleolaaaDoor
open Go.RowKit Go.Shelf
attribute [local go_sem] Oper.semAt_some
/-- Whether a state is the first one of a sink. -/
noncomputable def sinkAt (m : List (List Int)) (s : Nat) : Bool := (elems (reachM m s)).all fun t => !(decide (t < s)) && decide (reachM m t = reachM m s)
noncomputable def sinksTo (m : List (List Int)) (k : Nat) : List (List Int) := ((List.range k).filter (sinkAt m)).map fun s => intsOf (elems (reachM m s))
/-- Where the search for sinks stands: the sinks so far; the marks of the loops that have been. -/
structure SkRel (m : List (List Int)) (X : World) (k : Nat) (v : Value) (ds : List Nat) (W : World) : Prop where
  le : k ≤ m.length
  rows : MRows W X.heap.size v (sinksTo m k)
  nodup : ds.Nodup
  marks : ∀ D ∈ ds, X.heap.size ≤ D ∧ W.heap[D]? = some (.deferred (some []))
  below : Below X.heap.size X W
theorem row_blk {w : World} {base : Nat} {e : TypeId} {s : Nat} {v : Value} {n : Nat} {xs : List Value} (h : w.ownsRow base e s v n xs) : ∀ g, v.ownBlock = some g → base ≤ g ∧ g < w.heap.size := by
  intro g hg
  rcases h.2 with ⟨rfl, _⟩ | ⟨g', cap, cur, rfl, hb, hh, _⟩
  · cases hg
  · cases hg; exact ⟨hb, lt_of_block hh⟩
theorem mark_ne {W : World} {base : Nat} {e : TypeId} {s : Nat} {v : Value} {n : Nat} {xs : List Value} {D : Nat} (h : W.ownsRow base e s v n xs) (hD : W.heap[D]? = some (.deferred (some []))) : some D ≠ v.ownBlock := by
  intro he
  rcases h.2 with ⟨rfl, _⟩ | ⟨g', cap, cur, rfl, hb, hh, _⟩
  · cases he
  · cases he
    rw [hD] at hh
    cases hh
theorem cell_kept {W W' : World} {p : Addr} {v : Value} (hk : ∀ (k : Nat) (o : Obj), W.heap[k]? = some o → o.isCells = true → W'.heap[k]? = some o) (h : W.cell? p = some v) : W'.cell? p = some v := by
  have hb : ∃ o, W.heap[p.block]? = some o ∧ o.isCells = true := by
    unfold World.cell? at h
    split at h
    · rename_i cs t fr he
      exact ⟨_, he, rfl⟩
    · cases h
  obtain ⟨o, ho, hc⟩ := hb
  rw [← h]
  exact World.cell?_of_block ((hk _ _ ho hc).trans ho.symm)
theorem MRows.marks {W W' : World} {base : Nat} {v : Value} {m : List (List Int)} (h : MRows W base v m) (hk : ∀ (k : Nat) (o : Obj), W.heap[k]? = some o → o.isCells = true → W'.heap[k]? = some o) : MRows W' base v m := by
  obtain ⟨xs, ho, hx⟩ := h
  refine ⟨xs, ownsRow_same ho fun g hg => ?_, fun i hi => ?_⟩
  · rcases ho.2 with ⟨rfl, _⟩ | ⟨g', cap, cur, rfl, hb, hh, _⟩
    · cases hg
    · cases hg
      exact (hk _ _ hh rfl).trans hh.symm
  · obtain ⟨A, cap, hv, hl, hc⟩ := hx i hi
    refine ⟨A, cap, hv, hl, fun j hj => ?_⟩
    obtain ⟨b, off, hA, h1, h2, h3⟩ := hc j hj
    exact ⟨b, off, hA, h1, h2, cell_kept hk h3⟩
theorem sinksTo_succ (m : List (List Int)) (k : Nat) : sinksTo m (k + 1) = if sinkAt m k = true then sinksTo m k ++ [intsOf (elems (reachM m k))] else sinksTo m k := by
  unfold sinksTo
  rw [List.range_succ, List.filter_append]
  by_cases h : sinkAt m k = true <;> simp [h]
theorem sinksTo_len (m : List (List Int)) (k : Nat) : (sinksTo m k).length ≤ k := by
  unfold sinksTo
  have := List.length_filter_le (sinkAt m) (List.range k)
  simpa using this
theorem reached_as (v : Value) (m : List (List Int)) (s S : Nat) (w : World) (h : Rows w v m) (hv : validM m = true) (hs : s < m.length) (he : Hid (reachM m s = S)) :
    Calls Tryd.prog 21 #[.agg #[v], .int .i64 s] w fun e w' => e = .returned (.int .u64 (S : Int)) ∧ Below w.heap.size w w' := by
  rw [← he.out]; exact reached_any v m s w h hv hs
set_option maxRecDepth 100000 in
set_option maxHeartbeats 4000000 in
theorem Sinks_ok (v : Value) (m : List (List Int)) (w : World) (hT : Tab w) (h : Rows w v m) (hv : validM m = true) :
    Calls Tryd.prog 13 #[.agg #[v]] w fun e w' => ∃ r, e = .returned (.tuple #[r, .int .i64 0]) ∧ Rows w' r (sinksTo m m.length) ∧ Below w.heap.size w w' := by
  obtain ⟨i0, hi, hz0, hz1, hz2⟩ := info_parts infoRow
  obtain ⟨p1, p2, p3, p4, p5⟩ := valid_parts hv
  have hfo := follows
  have hr := h.alloc (.cells #[v] 24)
  obtain ⟨A, cap, rfl, hml, hc⟩ := id h
  clear hc p5
  have hbx : (w.alloc (.cells #[.slice A m.length cap] 24)).cell? ⟨w.heap.size, 0, none⟩ = some (.slice A m.length cap) := by simp
  have hX := bal (Below.refl _ w) (.cells #[.slice A m.length cap] 24)
  refine (callsIn_wide (n := 0)).1 ?_
  refine callsIn_of_wp_marks Tryd.func13 rfl trivial ?_ rfl
  simp only [Tryd.ntmps13, List.size_toArray, List.length_cons, List.length_nil, Nat.reduceAdd, Nat.reduceSub, Array.replicate_succ, Array.replicate_zero, List.push_toArray, List.append_toArray, List.nil_append, List.cons_append]
  refine wpIn_wide.2 ?_
  go_wp2_with fail
  go_step3
  go_wp2_with fail
  refine (Valid_bool _ m true _ hr hv).mono ?_
  rintro e X ⟨rfl, hb1⟩
  have hc1 := (hb1.cell (p := ⟨w.heap.size, 0, none⟩) (by simp)).trans hbx
  have hwX := btr hX hb1
  have hlt0 : w.heap.size < X.heap.size := World.block_lt_of_cell? _ _ hc1
  have hTX := hT.on hwX
  have hrX := hr.below hb1
  clear hbx hX hb1 hr
  go_wp2_with fail
  go_step3
  go_wp2_with fail
  refine wp_loop (fun a' W => ∃ (k : Nat) (v : Value) (ds : List Nat) (u5 u6 u7 u14 u15 u16 u17 u18 u19 u20 u21 u22 u23 u24 u25 u26 u27 u28 u29 u30 u31 u32 u33 u34 u35 u36 u37 u38 : Value), SkRel m X k v ds W ∧ u14 = .int .i64 k ∧ a' = { tmps := #[.agg #[.slice A m.length cap], .pointer (some ⟨w.heap.size, 0, none⟩), .slice none 0 0, .int .i64 0, v, u5, u6, u7, .agg #[.slice A m.length cap], .bool true, .bool false, .pointer (some ⟨w.heap.size, 0, none⟩), .slice A m.length cap, .int .i64 m.length, u14, u15, u16, u17, u18, u19, u20, u21, u22, u23, u24, u25, u26, u27, u28, u29, u30, u31, u32, u33, u34, u35, u36, u37, u38, undef], defers := ds.map fun D => { target := .collected D, args := #[] } }) (fun a' _ => m.length - (intOf (a'.tmps.getD 14 undef)).toNat) ?start ?round
  case start => exact ⟨0, .slice none 0 0, [], undef, undef, undef, .int .i64 0, undef, undef, undef, undef, undef, undef, undef, undef, undef, undef, undef, undef, undef, undef, undef, undef, undef, undef, undef, undef, undef, undef, undef, undef, ⟨Nat.zero_le _, MRows.nil _ _, List.nodup_nil, fun D h => by simp at h, Below.refl _ _⟩, rfl, rfl⟩
  case round =>
    rintro a0 W ⟨k, v, ds, u5, u6, u7, u14, u15, u16, u17, u18, u19, u20, u21, u22, u23, u24, u25, u26, u27, u28, u29, u30, u31, u32, u33, u34, u35, u36, u37, u38, hR, hu14, rfl⟩
    subst hu14
    obtain ⟨hk, hM, hnd, hmk, hB⟩ := hR
    have hcw := (hB.cell (p := ⟨w.heap.size, 0, none⟩) hlt0).trans hc1
    have hrW := hrX.below hB
    have hTW := hTX.on hB
    have hsz := hB.size
    by_cases hlt : k < m.length
    · have hks : (k : Int) < m.length := by omega
      have B1 := bal (Below.refl _ W) (.cells #[.int .i64 k] 3)
      have c1 := (B1.cell (p := ⟨w.heap.size, 0, none⟩) (by show w.heap.size < W.heap.size; omega)).trans hcw
      have e1 : (W.alloc (.cells #[.int .i64 k] 3)).cell? ⟨W.heap.size, 0, none⟩ = some (.int .i64 k) := by simp
      have z1 : (W.alloc (.cells #[.int .i64 k] 3)).heap.size = W.heap.size + 1 := by simp
      have hr1 := hrW.below B1
      have HM := hid hM
      have Hmk := hid hmk
      clear hM hmk
      go_upto_region 7 with fail
      generalize hW1 : W.alloc (.cells #[.int .i64 k] 3) = W1 at *
      clear hW1
      go_wp2_with fail
      refine (reached_any _ m k _ hr1 hv hlt).mono ?_
      rintro e W2 ⟨rfl, h2⟩
      have hS := reachM_lt (m := m) (by omega) k
      have hS64 : reachM m k < 2 ^ 64 := Nat.lt_of_lt_of_le hS (Nat.pow_le_pow_right (by decide) (by omega))
      have hmemS : ∀ t, t ∈ elems (reachM m k) → t < m.length := fun t ht => elems_lt hS ht
      have Hsucc := hid (sinksTo_succ m k)
      have Hat := hid (show sinkAt m k = (elems (reachM m k)).all fun t => !(decide (t < k)) && decide (reachM m t = reachM m k) from rfl)
      have hself : k ∈ elems (reachM m k) := by
        rw [mem_elems]
        exact ⟨by omega, (reachM_bit m k k).2 ⟨hlt, reachP.refl m k⟩⟩
      have Hself := hid hself
      generalize reachM m k = S at *
      have B2 := btr B1 h2
      have B3 := bal B2 (.cells #[.int .u64 S] 50)
      have e3 : (W2.alloc (.cells #[.int .u64 S] 50)).cell? ⟨W2.heap.size, 0, none⟩ = some (.int .u64 S) := by simp
      have z3 : (W2.alloc (.cells #[.int .u64 S] 50)).heap.size = W2.heap.size + 1 := by simp
      have e2 := ((btr h2 (bal (Below.refl _ W2) (.cells #[.int .u64 S] 50))).cell (p := ⟨W.heap.size, 0, none⟩) (by show W.heap.size < W1.heap.size; omega)).trans e1
      have c3 := (B3.cell (p := ⟨w.heap.size, 0, none⟩) (by show w.heap.size < W.heap.size; omega)).trans hcw
      have hr3 := hrW.below B3
      have hT3 := hTW.on B3
      have z2 := h2.size
      clear hself h2 B1 B2 c1 e1 hr1
      go_wp2_with fail
      generalize hW3 : W2.alloc (.cells #[.int .u64 S] 50) = W3 at *
      clear hW3
      refine (wpIn_wide (n := 0)).1 ?_
      refine range_law (gf := 22) (fb := #[.int .u64 S]) (lb := #[]) rfl (enters_of Tryd.func22 (by kernel_rfl) rfl)
        (All_seq S hS64 W3.heap.size hT3.lt W3 (Nat.le_refl _) hT3) (fun _ _ _ _ _ _ => trivial) (Nat.le_refl _) (Below.refl _ _) (fun _ => rfl)
        (fun Xb pre Wb => (∀ x ∈ pre, ¬ x < k ∧ reachM m x = S) ∧ Base W3.heap.size W3 Xb Wb)
        (fun c Xb pre Wb => (c = .exit 1 ∧ ∃ x ∈ pre, x < k ∨ reachM m x ≠ S) ∧ Base W3.heap.size W3 Xb Wb)
        (Stable.and (stable_pure _ (fun pre : List Nat => ∀ x ∈ pre, ¬ x < k ∧ reachM m x = S)) (stable_base _ _ _ (Nat.le_refl _) (Nat.le_refl _)))
        (fun c => Stable.and (stable_pure _ (fun pre : List Nat => c = .exit 1 ∧ ∃ x ∈ pre, x < k ∨ reachM m x ≠ S)) (stable_base _ _ _ (Nat.le_refl _) (Nat.le_refl _)))
        ⟨fun x hx => by simp at hx, Base.start (Below.refl _ _)⟩
        (fun t a' _ => a' = { tmps := #[.agg #[.slice A m.length cap], .pointer (some ⟨w.heap.size, 0, none⟩), .slice none 0 0, .int .i64 0, v, .pointer (some ⟨W.heap.size, 0, none⟩), .pointer (some ⟨W2.heap.size, 0, none⟩), .int .i64 t, .agg #[.slice A m.length cap], .bool true, .bool false, .pointer (some ⟨w.heap.size, 0, none⟩), .slice A m.length cap, .int .i64 m.length, .int .i64 k, .bool true, .int .i64 k, .agg #[.slice A m.length cap], .int .i64 k, .int .u64 S, .int .u64 S, .func (.func 22) #[.int .u64 S] #[], .int .i64 t, u23, u24, u25, u26, u27, u28, u29, u30, u31, u32, u33, u34, u35, u36, u37, u38, undef], defers := [] })
        (fun _ _ _ _ _ _ _ hs _ _ _ _ _ _ => hs) ?assign ?body ?done ?stop
      case assign =>
        intro l Xb pre t Wb K hi hK
        gi_wp2
        exact hK _ _ (KeepsFrom.refl _ _) (Keep.refl _ _ _) hi rfl
      case body =>
        rintro l Xb pre t a' Wb hl hrec hXl hXs ⟨hpre, hBb⟩ _ rfl hsp
        have htm : t ∈ elems S := hsp.subset (by simp)
        have htn := hmemS t htm
        have hc4 := (hBb.2.cell (p := ⟨w.heap.size, 0, none⟩) (by show w.heap.size < W3.heap.size; omega)).trans c3
        have he2 := (hBb.2.cell (p := ⟨W.heap.size, 0, none⟩) (by show W.heap.size < W3.heap.size; omega)).trans e2
        have he3 := (hBb.2.cell (p := ⟨W2.heap.size, 0, none⟩) (by show W2.heap.size < W3.heap.size; omega)).trans e3
        have hrb := hr3.below hBb.2
        have hHs := hBb.2.size
        have HP := hid hpre
        clear hXs hsp hrec htm hpre hmemS
        by_cases ht : t < k
        · have hts : (t : Int) < k := by omega
          gi_wp2
          gi_region_with_o (refine ⟨trivial, ?_⟩)
          all_goals gi_wp2
          all_goals exact ⟨kf_drew _ _, (Keep.refl _ _ _).drew, ⟨rfl, t, by simp, .inl ht⟩, hBb.step ((Below.refl _ _).drew.mono hBb.2.size)⟩
        · have hts : ¬ (t : Int) < k := by omega
          by_cases hq : reachM m t = S
          · have Hq := hid hq
            clear hq
            gi_wp2
            gi_region_with_o (refine ⟨trivial, rfl, ?_⟩; gi_at_call 21; refine (inr l _ (reached_as _ m t S _ (hrb.below (by first | exact Below.refl _ _ | assumption | exact Below.drew (by first | exact Below.refl _ _ | assumption))) hv htn Hq)).mono ?_; rintro e wA ⟨rfl, hA⟩; have hBA : Below Wb.heap.size Wb wA := btr (by first | exact Below.refl _ _ | exact Below.drew (Below.refl _ _)) hA; have he3A := (hBA.cell (p := ⟨W2.heap.size, 0, none⟩) (by show W2.heap.size < Wb.heap.size; omega)).trans he3)
            all_goals gi_wp2
            all_goals first
              | exact ⟨kf_below hBA, Keep.of_below hBA, fun x hx => by
                  rcases List.mem_append.1 hx with h1 | h1
                  · exact HP.out x h1
                  · obtain rfl : x = t := by simpa using h1
                    exact ⟨ht, Hq.out⟩, hBb.step (hBA.mono hBb.2.size)⟩
              | exact ⟨kf_below hBA.drew, Keep.of_below hBA.drew, fun x hx => by
                  rcases List.mem_append.1 hx with h1 | h1
                  · exact HP.out x h1
                  · obtain rfl : x = t := by simpa using h1
                    exact ⟨ht, Hq.out⟩, hBb.step (hBA.drew.mono hBb.2.size)⟩
          · have hS' := reachM_lt (m := m) (by omega) t
            obtain ⟨S', Hq⟩ : ∃ S', Hid (reachM m t = S') := ⟨_, hid rfl⟩
            have hne : ((S' : Int) != (S : Int)) = true := by rw [← Hq.out]; simp; omega
            have HQ := hid hq
            clear hq hS'
            gi_wp2
            gi_region_with_o (refine ⟨trivial, rfl, ?_⟩; gi_at_call 21; refine (inr l _ (reached_as _ m t S' _ (hrb.below (by first | exact Below.refl _ _ | assumption | exact Below.drew (by first | exact Below.refl _ _ | assumption))) hv htn Hq)).mono ?_; rintro e wA ⟨rfl, hA⟩; have hBA : Below Wb.heap.size Wb wA := btr (by first | exact Below.refl _ _ | exact Below.drew (Below.refl _ _)) hA; have he3A := (hBA.cell (p := ⟨W2.heap.size, 0, none⟩) (by show W2.heap.size < Wb.heap.size; omega)).trans he3)
            all_goals gi_wp2
            all_goals first
              | exact ⟨kf_below hBA, Keep.of_below hBA, ⟨rfl, t, by simp, .inr HQ.out⟩, hBb.step (hBA.mono hBb.2.size)⟩
              | exact ⟨kf_below hBA.drew, Keep.of_below hBA.drew, ⟨rfl, t, by simp, .inr HQ.out⟩, hBb.step (hBA.drew.mono hBb.2.size)⟩
      case done =>
        rintro D Xb xs Wd hD rfl ⟨hpre, hBd⟩ hK
        have hs1 : sinkAt m k = true := by
          rw [Hat.out, List.all_eq_true]
          intro t ht
          obtain ⟨h1, h2⟩ := hpre t ht
          simp [h1, h2]
        have hsu := Hsucc.out
        rw [if_pos hs1] at hsu
        have Hsu := hid hsu
        have he3d := (hBd.2.cell (p := ⟨W2.heap.size, 0, none⟩) (by show W2.heap.size < W3.heap.size; omega)).trans e3
        have hTd := hT3.on hBd.2
        have hBWd : Below W.heap.size W Wd := B3.trans (hBd.2.mono (by omega))
        have HK := hid hK
        clear hpre hs1 hsu hK hBd hmemS e3 e2 c3 hr3 hT3
        go_wp2_with fail
        refine (List_own S _ hTd hS64).mono ?_
        rintro e W5 ⟨r, rfl, hr5, h5⟩
        have hBW5 : Below W.heap.size W W5 := hBWd.trans (h5.mono hBWd.size)
        have hz5 := hBW5.size
        have hz6 := h5.size
        have hM5 := HM.out.kept (W' := W5) (fun q _ hq => hBW5.block q hq)
        obtain ⟨xs, hxo, hxx⟩ := hM5
        have hvblk := row_blk (HM.out.choose_spec.1)
        have hlen := sinksTo_len m k
        obtain ⟨vA, vc, rfl⟩ : ∃ A c, v = .slice A (sinksTo m k).length c := by
          rcases hxo.2 with ⟨hu, h0⟩ | ⟨g, cap, cur, hu, hg, hh, _⟩
          · exact ⟨none, 0, by rw [hu, h0]⟩
          · exact ⟨_, cap, hu⟩
        obtain ⟨rA, rc, rfl⟩ : ∃ A c, r = .slice A (intsOf (elems S)).length c := by
          rcases hr5.2 with ⟨hu, h0⟩ | ⟨g, cap, cur, hu, hg, hh, _⟩
          · exact ⟨none, 0, by rw [hu, h0]⟩
          · exact ⟨_, cap, hu⟩
        have hil : (intsOf (elems S)).length ≤ 64 := by unfold intsOf; rw [List.length_map]; exact elems_length S
        have hoff : IntsOff W5 X.heap.size (Value.slice vA (sinksTo m k).length vc).ownBlock (.slice rA (intsOf (elems S)).length rc) (intsOf (elems S)) := by
          rcases hr5.2 with ⟨hu, h0⟩ | ⟨g, cap, cur, hu, hg, hh, _⟩
          · rw [hu]
            exact ⟨none, 0, by rw [h0], by rw [h0]; exact Nat.zero_le _, fun j hj => by omega⟩
          · rw [hu] at hr5 ⊢
            exact off_of_own hr5 rfl (by have := hBWd.size; omega) (fun e => by have := (hvblk g e.symm).2; have := hBWd.size; omega) (by unfold big; omega)
        have Hsu2 := hid hsz
        generalize hLL : sinksTo m k = LL at *
        have HLL := hid hLL
        generalize hII : intsOf (elems S) = II at *
        have HII := hid hII
        clear hLL hII
        go_wp2_with (at_builtin; refine wpList_append_own_at _ rfl _ _ 22 rfl X.heap.size 35 i0 (.slice none 0 0) 1 24 Tryd.underlying22 hi hz0 hz1 hz2 rfl (by decide) (.slice vA LL.length vc) LL.length xs rfl (hxo.alloc _) ⟨W5.heap.size, 0, none⟩ 1 1 [.slice rA II.length rc] rfl rfl (cell_one_new _ _ _) (by simp [Value.oneCell']) (by unfold maxLen; omega) (by omega) (by simp; omega) ?_; intro v' w6 hown' hgrow' _ hat)
        refine ⟨⟨k + 1, v', D :: ds, _, _, _, _, _, _, _, _, _, _, _, _, _, _, _, _, _, _, _, _, _, _, _, _, _, _, _, _, ?_, by go_num, rfl⟩, by simp [intOf]; omega⟩
        have hDd : W5.heap[D]? = some (.deferred (some [])) := (h5.block D (Array.getElem?_eq_some_iff.1 HK.out).1).trans HK.out
        have hds : ∀ D' ∈ ds, W5.heap[D']? = some (.deferred (some [])) := fun D' h' => (hBW5.block D' (Array.getElem?_eq_some_iff.1 (Hmk.out D' h').2).1).trans (Hmk.out D' h').2
        have hmark : ∀ D' : Nat, W5.heap[D']? = some (Obj.deferred (some [])) → w6.heap[D']? = some (Obj.deferred (some [])) := fun D' h' => by
          have hl' := (Array.getElem?_eq_some_iff.1 h').1
          rw [hgrow'.block D' (by simp; omega) (mark_ne hxo h'), Below.heap_alloc _ _ _ hl']
          exact h'
        refine ⟨by omega, ?_, List.nodup_cons.2 ⟨fun hm => ?_, hnd⟩, fun D' hD' => ?_, ?_⟩
        · rw [Hsu.out]
          exact MRows.appended (W := W5.alloc (.cells #[.slice rA II.length rc] 35)) (base := X.heap.size) (v := .slice vA LL.length vc) (m := LL) (l := II) (xs := xs) (u := .slice rA II.length rc)
            (fun i hi => (hxx i hi).kept (fun q _ hq _ => Below.heap_alloc _ _ _ hq) (fun _ _ h => h)) (by have := hxo.1; omega)
            (hoff.kept (fun q _ hq _ => Below.heap_alloc _ _ _ hq) (fun _ _ h => h)) hown' hgrow' hat
        · have := (Array.getElem?_eq_some_iff.1 (Hmk.out D hm).2).1
          omega
        · rcases List.mem_cons.1 hD' with rfl | h'
          · exact ⟨by omega, hmark _ hDd⟩
          · exact ⟨(Hmk.out D' h').1, hmark _ (hds D' h')⟩
        · exact ((hB.trans (hBW5.mono hsz)).alloc (by omega) _).grown hgrow' (by simp; omega) (fun q hq => (hvblk q hq).1)
      case stop =>
        rintro D Xb c pre Wd hD hsp ⟨⟨rfl, x, hx, hbad⟩, hBd⟩ hK
        have hxS : x ∈ elems S := hsp.subset hx
        have hs1 : sinkAt m k = false := by
          rw [Hat.out, List.all_eq_false]
          refine ⟨x, hxS, ?_⟩
          rcases hbad with h1 | h1
          · simp [h1]
          · simp [h1]
        have hsu := Hsucc.out
        rw [hs1] at hsu
        have Hsu := hid hsu
        have hBWd : Below W.heap.size W Wd := B3.trans (hBd.2.mono (by omega))
        have HK := hid hK
        clear hs1 hsu hK hbad hxS hmemS
        refine wpIn_wide.2 ?_
        go_wp2
        refine ⟨⟨k + 1, v, D :: ds, _, _, _, _, _, _, _, _, _, _, _, _, _, _, _, _, _, _, _, _, _, _, _, _, _, _, _, _, ?_, by go_num, rfl⟩, by simp [intOf]; omega⟩
        refine ⟨by omega, ?_, List.nodup_cons.2 ⟨fun hm => ?_, hnd⟩, fun D' hD' => ?_, hB.trans (hBWd.mono hsz)⟩
        · rw [show sinksTo m (k + 1) = sinksTo m k from Hsu.out]
          exact HM.out.kept (fun q _ hq => hBWd.block q hq)
        · have := (Array.getElem?_eq_some_iff.1 (Hmk.out D hm).2).1
          omega
        · rcases List.mem_cons.1 hD' with rfl | h'
          · exact ⟨by omega, HK.out⟩
          · exact ⟨(Hmk.out D' h').1, (hBWd.block D' (Array.getElem?_eq_some_iff.1 (Hmk.out D' h').2).1).trans (Hmk.out D' h').2⟩
    · obtain rfl : k = m.length := by omega
      have hks : ¬ ((m.length : Nat) : Int) < m.length := by omega
      have HM := hid hM
      have Hmk := hid hmk
      clear hM hmk
      go_wp2
      refine leaves_marks (v := .tuple #[v, .int .i64 0]) (fun W => ?_) X.heap.size ds W hsz hnd Hmk.out (fun W' hW' => ?_)
      · simp [results, Tryd.results13, go_sem]
      · refine ⟨v, rfl, ?_, hwX.trans ((hB.trans (hW'.1.mono (Nat.le_refl _))).mono hwX.size)⟩
        have hlen := sinksTo_len m m.length
        have hM := HM.out
        exact (MRows.marks hM hW'.2).rows (by unfold big; omega)
end Go.Proofs.YtpbbpogeleolaaaDoor
namespace Go.Proofs.YtpbbpogeleolaaaDoor
open Go.RowKit Go.Shelf
theorem take_eq_succ' {l m : List (List Int)} {k : Nat} (hk : k < l.length) (hl : l.length = m.length) (h : l.take k = m.take k) (hx : l.getD k [] = m.getD k []) : l.take (k + 1) = m.take (k + 1) := by
  have hk' : k < m.length := by omega
  rw [List.take_succ_eq_append_getElem hk, List.take_succ_eq_append_getElem hk', h]
  simp only [List.getD_eq_getElem?_getD, List.getElem?_eq_getElem hk, List.getElem?_eq_getElem hk', Option.getD_some] at hx
  rw [hx]
theorem rSame_bool (v u : Value) (l m : List Int) (b : Bool) (w : World) (h : Ints w v l) (hu : Ints w u m) (hb : decide (l = m) = b) :
    Calls Tryd.prog 15 #[v, u] w fun e w' => e = .returned (.bool b) ∧ Below w.heap.size w w' := by
  subst hb; exact rSame_any v u l m w h hu
set_option maxHeartbeats 2000000 in
theorem rSames_any (v u : Value) (l m : List (List Int)) (w : World) (h : Rows w v l) (hu : Rows w u m) :
    Calls Tryd.prog 16 #[v, u] w fun e w' => e = .returned (.bool (decide (l = m))) ∧ Below w.heap.size w w' := by
  obtain ⟨A, cap, rfl, hl, hc⟩ := h
  obtain ⟨Au, capu, rfl, hlu, hcu⟩ := hu
  unfold big at hl hlu
  by_cases hlen : l.length = m.length
  · have hne : ((l.length : Int) != (m.length : Int)) = false := by simp; omega
    have Hlen := hid hlen
    have Hc := hid hc
    have Hcu := hid hcu
    clear hlen hc hcu
    go_enter Tryd.func16, Tryd.ntmps16
    go_wp2
    go_loopw [5] (fun i wr => ∃ k : Nat, k ≤ l.length ∧ i = .int .i64 k ∧ l.take k = m.take k ∧ Below w.heap.size w wr) (fun i _ => l.length - (intOf i).toNat)
    case atStart => exact ⟨0, Nat.zero_le _, rfl, rfl, Below.refl _ _⟩
    case round =>
      obtain ⟨k, hk, rfl, htk, hB⟩ := hrel
      have Htk := hid htk
      clear htk
      by_cases hlt : k < l.length
      · have hle := Hlen.out
        obtain ⟨b, off, r, hA, hcell, hrow⟩ := Hc.out k hlt
        obtain ⟨b', off', r', hA', hcell', hrow'⟩ := Hcu.out k (by omega)
        subst hA
        subst hA'
        have c1 := (hB.cell (p := ⟨b, off + k, none⟩) (World.block_lt_of_cell? _ _ hcell)).trans hcell
        have c2 := (hB.cell (p := ⟨b', off' + k, none⟩) (World.block_lt_of_cell? _ _ hcell')).trans hcell'
        have i1 : (k : Int) < l.length := by omega
        have i2 : (k : Int) < m.length := by omega
        have hr1 := hrow.below hB
        have hr2 := hrow'.below hB
        have Hs := hid (fun hx => take_eq_succ' hlt Hlen.out Htk.out hx)
        have Hf : Hid (l.getD k [] ≠ m.getD k [] → decide (l = m) = false) := hid (fun hx => decide_eq_false (fun e => hx (by rw [e])))
        clear hcell hcell' hle hrow hrow'
        generalize l.getD k [] = x at *
        generalize m.getD k [] = y at *
        obtain ⟨Ax, cx, rfl, _⟩ := id hr1
        obtain ⟨Ay, cy, rfl, _⟩ := id hr2
        cases hxy : decide (x = y) with
        | true =>
          go_wp2_with fail
          go_region_with (go_at_call 15; refine (rSame_bool _ _ x y true _ (hr1.below (by first | exact Below.refl _ _ | exact Below.drew (Below.refl _ _))) (hr2.below (by first | exact Below.refl _ _ | exact Below.drew (Below.refl _ _))) hxy).mono ?_; rintro e wA ⟨rfl, hA⟩; have hBA : Below wr.heap.size wr wA := btr (by first | exact Below.refl _ _ | exact Below.drew (Below.refl _ _)) hA)
          all_goals go_wp2
          all_goals go_roundw
          all_goals first
            | exact ⟨k + 1, by omega, by go_num, Hs.out (of_decide_eq_true hxy), btr hB (by first | assumption | exact Below.drew (by assumption))⟩
            | (simp [intOf]; omega)
        | false =>
          go_wp2_with fail
          go_region_with (go_at_call 15; refine (rSame_bool _ _ x y false _ (hr1.below (by first | exact Below.refl _ _ | exact Below.drew (Below.refl _ _))) (hr2.below (by first | exact Below.refl _ _ | exact Below.drew (Below.refl _ _))) hxy).mono ?_; rintro e wA ⟨rfl, hA⟩; have hBA : Below wr.heap.size wr wA := btr (by first | exact Below.refl _ _ | exact Below.drew (Below.refl _ _)) hA)
          all_goals go_wp2
          all_goals go_ret
          all_goals exact ⟨ret_bool (Hf.out (of_decide_eq_false hxy)).symm, btr hB (by first | assumption | exact Below.drew (by assumption))⟩
      · go_wp2
        go_ret
        have h1 := Htk.out
        have h2 := Hlen.out
        rw [List.take_of_length_le (by omega), List.take_of_length_le (by omega)] at h1
        exact ⟨ret_bool (by rw [h1, decide_eq_true rfl]), hB⟩
  · have hne : ((l.length : Int) != (m.length : Int)) = true := by simp; omega
    have Hlen := hid hlen
    clear hlen hc hcu
    go_enter Tryd.func16, Tryd.ntmps16
    go_wp2
    go_ret
    exact ⟨ret_bool (decide_eq_false (fun e => Hlen.out (by rw [e]))).symm, Below.refl _ _⟩
end Go.Proofs.YtpbbpogeleolaaaDoor
namespace Go.Proofs.YtpbbpogeleolaaaDoor
open Go.RowKit Go.Shelf
open Classical in
/-- What is reached, by the rounds. -/
theorem reachM_rounds {m : List (List Int)} (hv : validM m = true) {s : Nat} (hs : s < m.length) : reachM m s = ofList (((List.range m.length).filter fun t => (reachL m s).getD t false).map fun t : Nat => (t : Int)) := by
  unfold reachM
  congr 2
  apply List.filter_congr
  intro t _
  rw [Bool.eq_iff_iff]
  exact ⟨fun h => (reachL_get hv hs t).2 (of_decide_eq_true h), fun h => decide_eq_true ((reachL_get hv hs t).1 h)⟩
def mR : List (List Int) := [[1, 1], [2, 2], [0, 0]]
def mC : List (List Int) := [[1, 1], [1, 1], [2, 2]]
theorem mR_valid : validM mR = true := by decide +kernel
theorem mC_valid : validM mC = true := by decide +kernel
theorem mR_conn : connM mR = true := by
  rw [connM_iff mR (by decide)]
  intro s t hs ht
  rw [← reachL_get mR_valid hs]
  have h : ∀ s : Fin 3, ∀ t : Fin 3, (reachL mR s).getD t false = true := by decide +kernel
  exact h ⟨s, hs⟩ ⟨t, ht⟩
theorem mR_per : perM mR = 3 := by decide +kernel
theorem mR_cls : clsM mR = [0, 1, 2] := by decide +kernel
theorem mC_reach : reachM mC 0 = 3 ∧ reachM mC 1 = 2 ∧ reachM mC 2 = 4 := by
  refine ⟨?_, ?_, ?_⟩
  · rw [reachM_rounds mC_valid (by decide)]; decide +kernel
  · rw [reachM_rounds mC_valid (by decide)]; decide +kernel
  · rw [reachM_rounds mC_valid (by decide)]; decide +kernel
theorem mC_sinks : sinksTo mC mC.length = [[1], [2]] := by
  obtain ⟨h0, h1, h2⟩ := mC_reach
  have a0 : sinkAt mC 0 = false := by
    unfold sinkAt
    rw [h0, show elems 3 = [0, 1] by decide +kernel]
    simp [h0, h1]
  have a1 : sinkAt mC 1 = true := by
    unfold sinkAt
    rw [h1, show elems 2 = [1] by decide +kernel]
    simp [h1]
  have a2 : sinkAt mC 2 = true := by
    unfold sinkAt
    rw [h2, show elems 4 = [2] by decide +kernel]
    simp [h2]
  unfold sinksTo
  rw [show mC.length = 3 from rfl, show List.range 3 = [0, 1, 2] from rfl]
  simp only [List.filter, a0, a1, a2, List.map, h1, h2]
  decide +kernel
theorem mR_word : wordB (bfsM mR 0) 2 = [0, 0] := by decide +kernel
theorem rows3 (w : World) (a b c : List Int) (va vb vc : Value) (t : TypeId) (k : Nat) (hk : k = w.heap.size) (ha : Ints w va a) (hb : Ints w vb b) (hc : Ints w vc c) : Rows (w.alloc (.cells #[va, vb, vc] t)) (.slice (some ⟨k, 0, none⟩) 3 3) [a, b, c] := by
  subst hk
  refine ⟨_, 3, rfl, by unfold big; simp, fun i hi => ?_⟩
  have h3 : i = 0 ∨ i = 1 ∨ i = 2 := by simp at hi; omega
  rcases h3 with rfl | rfl | rfl
  · exact ⟨w.heap.size, 0, va, rfl, by simp, ha.alloc _⟩
  · exact ⟨w.heap.size, 0, vb, rfl, by simp, hb.alloc _⟩
  · exact ⟨w.heap.size, 0, vc, rfl, by simp, hc.alloc _⟩
theorem rows2 (w : World) (a b : List Int) (va vb : Value) (t : TypeId) (k : Nat) (hk : k = w.heap.size) (ha : Ints w va a) (hb : Ints w vb b) : Rows (w.alloc (.cells #[va, vb] t)) (.slice (some ⟨k, 0, none⟩) 2 2) [a, b] := by
  subst hk
  refine ⟨_, 2, rfl, by unfold big; simp, fun i hi => ?_⟩
  have h3 : i = 0 ∨ i = 1 := by simp at hi; omega
  rcases h3 with rfl | rfl
  · exact ⟨w.heap.size, 0, va, rfl, by simp, ha.alloc _⟩
  · exact ⟨w.heap.size, 0, vb, rfl, by simp, hb.alloc _⟩
theorem Ints.three' (w : World) (x y z : Int) (t : TypeId) (k : Nat) (hk : k = w.heap.size) : Ints (w.alloc (.cells #[.int .i64 x, .int .i64 y, .int .i64 z] t)) (.slice (some ⟨k, 0, none⟩) 3 3) [x, y, z] := by
  subst hk
  refine ⟨_, 3, rfl, by unfold big; simp, fun i hi => ⟨w.heap.size, 0, rfl, ?_⟩⟩
  have h2 : i = 0 ∨ i = 1 ∨ i = 2 := by simp at hi; omega
  rcases h2 with rfl | rfl | rfl <;> simp
theorem period_mR (v : Value) (w : World) (h : Rows w v mR) : Calls Tryd.prog 6 #[.agg #[v]] w fun e w' => e = .returned (.tuple #[.int .i64 3, .int .i64 0]) ∧ Below w.heap.size w w' := by
  have := Period_ok v mR w h mR_valid mR_conn
  rw [mR_per] at this
  exact this
theorem classes_mR (v : Value) (w : World) (h : Rows w v mR) : Calls Tryd.prog 11 #[.agg #[v]] w fun e w' => ∃ A c, e = .returned (.tuple #[.slice A 3 c, .int .i64 0]) ∧ Ints w' (.slice A 3 c) [0, 1, 2] ∧ Below w.heap.size w w' := by
  refine (Classes_ok v mR w h mR_valid mR_conn).mono ?_
  rintro e w1 ⟨r, rfl, ho, hb⟩
  rw [mR_cls] at ho
  have hi : Ints w1 r [0, 1, 2] := Ints.of_own ho (by decide)
  obtain ⟨A, c, rfl, _⟩ := id hi
  exact ⟨A, c, rfl, hi, hb⟩
theorem connected_mR (v : Value) (w : World) (h : Rows w v mR) : Calls Tryd.prog 12 #[.agg #[v]] w fun e w' => e = .returned (.tuple #[.bool true, .int .i64 0]) ∧ Below w.heap.size w w' := by
  have := Connected_ok v mR w h mR_valid
  rw [mR_conn] at this
  exact this
theorem sinks_mC (v : Value) (w : World) (hT : Tab w) (h : Rows w v mC) : Calls Tryd.prog 13 #[.agg #[v]] w fun e w' => ∃ A c, e = .returned (.tuple #[.slice A 2 c, .int .i64 0]) ∧ Rows w' (.slice A 2 c) [[1], [2]] ∧ Below w.heap.size w w' := by
  refine (Sinks_ok v mC w hT h mC_valid).mono ?_
  rintro e w1 ⟨r, rfl, ho, hb⟩
  rw [mC_sinks] at ho
  obtain ⟨A, c, rfl, _⟩ := id ho
  exact ⟨A, c, rfl, ho, hb⟩
theorem path_mR (v : Value) (w : World) (h : Rows w v mR) : Calls Tryd.prog 14 #[.agg #[v], .int .i64 0, .int .i64 2] w fun e w' => ∃ A c, e = .returned (.tuple #[.slice A 2 c, .int .i64 0]) ∧ Ints w' (.slice A 2 c) [0, 0] ∧ Below w.heap.size w w' := by
  have hp2 : plB (bfsM mR 0) 2 = 2 := by decide +kernel
  have hl2 : (bfsM mR 0).length = 3 := by decide +kernel
  have hex : ∃ i, i < (bfsM mR 0).length ∧ plB (bfsM mR 0) i = ((2 : Nat) : Int) := ⟨2, by rw [hl2]; omega, hp2⟩
  refine (Path_yes v mR 0 2 w h mR_valid (by decide) (by decide) hex).mono ?_
  rintro e w1 ⟨⟨i, r, hi, hp, rfl, ho⟩ | ⟨hno, _⟩, hb⟩
  · obtain rfl := place_once (bfsM_good mR_valid (s := 0) (by decide)) hi (by rw [hl2]; omega : 2 < (bfsM mR 0).length) (hp.trans hp2.symm)
    rw [mR_word] at ho
    have hi : Ints w1 r [0, 0] := Ints.of_own ho (by decide)
    obtain ⟨A, c, rfl, _⟩ := id hi
    exact ⟨A, c, rfl, hi, hb⟩
  · exact absurd hp2 (hno 2 (by rw [hl2]; omega))
theorem lit_rows (w : World) (a b c d e f : Int) : Rows ((((w.alloc (.cells #[.int .i64 a, .int .i64 b] 3)).alloc (.cells #[.int .i64 c, .int .i64 d] 3)).alloc (.cells #[.int .i64 e, .int .i64 f] 3)).alloc
    (.cells #[.slice (some ⟨w.heap.size, 0, none⟩) 2 2, .slice (some ⟨w.heap.size + 1, 0, none⟩) 2 2, .slice (some ⟨w.heap.size + 1 + 1, 0, none⟩) 2 2] 35)) (.slice (some ⟨w.heap.size + 1 + 1 + 1, 0, none⟩) 3 3) [[a, b], [c, d], [e, f]] :=
  rows3 _ _ _ _ _ _ _ _ _ (by simp) (((Ints.two' w a b _ _ rfl).alloc _).alloc _) ((Ints.two' _ c d _ _ (by simp)).alloc _) (Ints.two' _ e f _ _ (by simp))
theorem lit_mR (w : World) : Rows ((((w.alloc (.cells #[.int .i64 1, .int .i64 1] 3)).alloc (.cells #[.int .i64 2, .int .i64 2] 3)).alloc (.cells #[.int .i64 0, .int .i64 0] 3)).alloc
    (.cells #[.slice (some ⟨w.heap.size, 0, none⟩) 2 2, .slice (some ⟨w.heap.size + 1, 0, none⟩) 2 2, .slice (some ⟨w.heap.size + 1 + 1, 0, none⟩) 2 2] 35)) (.slice (some ⟨w.heap.size + 1 + 1 + 1, 0, none⟩) 3 3) mR := lit_rows w 1 1 2 2 0 0
theorem lit_mC (w : World) : Rows ((((w.alloc (.cells #[.int .i64 1, .int .i64 1] 3)).alloc (.cells #[.int .i64 1, .int .i64 1] 3)).alloc (.cells #[.int .i64 2, .int .i64 2] 3)).alloc
    (.cells #[.slice (some ⟨w.heap.size, 0, none⟩) 2 2, .slice (some ⟨w.heap.size + 1, 0, none⟩) 2 2, .slice (some ⟨w.heap.size + 1 + 1, 0, none⟩) 2 2] 35)) (.slice (some ⟨w.heap.size + 1 + 1 + 1, 0, none⟩) 3 3) mC := lit_rows w 1 1 1 1 2 2
theorem lit_sinks (w : World) : Rows (((w.alloc (.cells #[.int .i64 1] 3)).alloc (.cells #[.int .i64 2] 3)).alloc
    (.cells #[.slice (some ⟨w.heap.size, 0, none⟩) 1 1, .slice (some ⟨w.heap.size + 1, 0, none⟩) 1 1] 35)) (.slice (some ⟨w.heap.size + 1 + 1, 0, none⟩) 2 2) [[1], [2]] :=
  rows2 _ _ _ _ _ _ _ (by simp) ((Ints.one' w 1 _ _ rfl).alloc _) (Ints.one' _ 2 _ _ (by simp))
theorem rSames_eq (v u : Value) (l : List (List Int)) (w : World) (h : Rows w v l) (hu : Rows w u l) : Calls Tryd.prog 16 #[v, u] w fun e w' => e = .returned (.bool true) ∧ Below w.heap.size w w' := by
  have hs := rSames_any v u l l w h hu
  rw [decide_eq_true rfl] at hs
  exact hs
end Go.Proofs.YtpbbpogeleolaaaDoor
namespace Go.Proofs.YtpbbpogeleolaaaDoor
open Go.RowKit Go.Shelf
attribute [local irreducible] mR mC
set_option maxRecDepth 100000 in
set_option maxHeartbeats 1000000 in
theorem awake2_any (w : World) (hT : Tab w) :
    Calls Tryd.prog 5 #[] w fun e w' => e = .returned (.bool true) ∧ Below w.heap.size w w' := by
  go_enter Tryd.func5, Tryd.ntmps5
  go_wp2_with fail
  have hR0 := (lit_mR w).alloc (.cells #[.slice (some ⟨w.heap.size + 1 + 1 + 1, 0, none⟩) 3 3] 24)
  have hX := bal (bal (bal (bal (bal (Below.refl _ w) (.cells #[.int .i64 1, .int .i64 1] 3)) (.cells #[.int .i64 2, .int .i64 2] 3)) (.cells #[.int .i64 0, .int .i64 0] 3)) (.cells #[.slice (some ⟨w.heap.size, 0, none⟩) 2 2, .slice (some ⟨w.heap.size + 1, 0, none⟩) 2 2, .slice (some ⟨w.heap.size + 1 + 1, 0, none⟩) 2 2] 35)) (.cells #[.slice (some ⟨w.heap.size + 1 + 1 + 1, 0, none⟩) 3 3] 24)
  have hbx := (Boxed.new ((((w.alloc (.cells #[.int .i64 1, .int .i64 1] 3)).alloc (.cells #[.int .i64 2, .int .i64 2] 3)).alloc (.cells #[.int .i64 0, .int .i64 0] 3)).alloc (.cells #[.slice (some ⟨w.heap.size, 0, none⟩) 2 2, .slice (some ⟨w.heap.size + 1, 0, none⟩) 2 2, .slice (some ⟨w.heap.size + 1 + 1, 0, none⟩) 2 2] 35)) 24 (.slice (some ⟨w.heap.size + 1 + 1 + 1, 0, none⟩) 3 3)).cell
  simp only [World.size_alloc] at hbx
  generalize hWX : (((((w.alloc (.cells #[.int .i64 1, .int .i64 1] 3)).alloc (.cells #[.int .i64 2, .int .i64 2] 3)).alloc (.cells #[.int .i64 0, .int .i64 0] 3)).alloc (.cells #[.slice (some ⟨w.heap.size, 0, none⟩) 2 2, .slice (some ⟨w.heap.size + 1, 0, none⟩) 2 2, .slice (some ⟨w.heap.size + 1 + 1, 0, none⟩) 2 2] 35)).alloc (.cells #[.slice (some ⟨w.heap.size + 1 + 1 + 1, 0, none⟩) 3 3] 24)) = X at *
  clear hWX
  generalize w.heap.size + 1 + 1 + 1 = B at *
  have hlt := World.block_lt_of_cell? _ _ hbx
  have hTX := hT.on hX
  refine (period_mR _ _ hR0).mono ?_
  rintro e w1 ⟨rfl, h1⟩
  have c1 := (h1.cell (p := ⟨B + 1, 0, none⟩) hlt).trans hbx
  have B1 := h1
  go_wp2_with fail
  refine (classes_mR _ _ (hR0.below B1)).mono ?_
  rintro e w2 ⟨A2, c2', rfl, i2, h2⟩
  have B2 := btr B1 h2
  have c2 := (B2.cell (p := ⟨B + 1, 0, none⟩) hlt).trans hbx
  go_wp2_with fail
  refine (connected_mR _ _ (hR0.below B2)).mono ?_
  rintro e w3 ⟨rfl, h3⟩
  have B3 := btr B2 h3
  have i3 := i2.below h3
  have c3 := (B3.cell (p := ⟨B + 1, 0, none⟩) hlt).trans hbx
  clear c1 c2 i2
  go_wp2_with fail
  have hC := lit_mC w3
  have b34 := bal (bal (bal (bal (Below.refl _ w3) (.cells #[.int .i64 1, .int .i64 1] 3)) (.cells #[.int .i64 1, .int .i64 1] 3)) (.cells #[.int .i64 2, .int .i64 2] 3)) (.cells #[.slice (some ⟨w3.heap.size, 0, none⟩) 2 2, .slice (some ⟨w3.heap.size + 1, 0, none⟩) 2 2, .slice (some ⟨w3.heap.size + 1 + 1, 0, none⟩) 2 2] 35)
  refine (sinks_mC _ _ (hTX.on (btr B3 b34)) hC).mono ?_
  rintro e w4 ⟨A4, c4', rfl, i4, h4⟩
  have b4 := btr b34 h4
  have B4 := btr B3 b4
  have i34 := i3.below b4
  have c4 := (B4.cell (p := ⟨B + 1, 0, none⟩) hlt).trans hbx
  clear c3 i3 hC
  go_wp2_with fail
  refine (path_mR _ _ (hR0.below B4)).mono ?_
  rintro e w5 ⟨A5, c5', rfl, i5, h5⟩
  have B5 := btr B4 h5
  have i35 := i34.below h5
  have i45 := i4.below h5
  clear c4 i4 i34 b34
  go_wp2_with fail
  refine (rSame_eq _ _ [0, 1, 2] _ (i35.alloc _) (Ints.three' w5 0 1 2 3 _ rfl)).mono ?_
  rintro e w6 ⟨rfl, h6⟩
  have b6 := btr (bal (Below.refl _ w5) (.cells #[.int .i64 0, .int .i64 1, .int .i64 2] 3)) h6
  go_wp2_with fail
  have b67 := bal (bal (bal (Below.refl _ w6) (.cells #[.int .i64 1] 3)) (.cells #[.int .i64 2] 3)) (.cells #[.slice (some ⟨w6.heap.size, 0, none⟩) 1 1, .slice (some ⟨w6.heap.size + 1, 0, none⟩) 1 1] 35)
  refine (rSames_eq _ _ [[1], [2]] _ (i45.below (btr b6 b67)) (lit_sinks w6)).mono ?_
  rintro e w7 ⟨rfl, h7⟩
  have b7 := btr b6 (btr b67 h7)
  clear b67
  go_wp2_with fail
  refine (rSame_eq _ _ [0, 0] _ ((i5.below b7).alloc _) (Ints.two' w7 0 0 3 _ rfl)).mono ?_
  rintro e w8 ⟨rfl, h8⟩
  have b8 := btr b7 (btr (bal (Below.refl _ w7) (.cells #[.int .i64 0, .int .i64 0] 3)) h8)
  go_wp2
  go_ret
  exact ⟨rfl, btr hX (btr B5 b8)⟩
end Go.Proofs.YtpbbpogeleolaaaDoor
namespace Go.Proofs.YtpbbpogeleolaaaDoor
open Go.RowKit Go.Shelf
section
variable {m : List (List Int)} (hv : validM m = true) (hc : connM m = true)
include hv hc
theorem lens_zero : (lensM m).getD 0 0 = 0 := by
  have h0 : 0 < m.length := by have := (valid_parts hv).1; omega
  obtain ⟨u, h1, h2, h3, h4, h5⟩ := lensM_get hv hc h0
  have := h5 [] rfl rfl
  simp at this
  subst this
  simpa using h3
/-- A word of k letters leads k classes on. -/
theorem cls_step {s : Nat} (hs : s < m.length) {u : List Int} (hu : u.all (inB 0 ((letters m : Int) - 1)) = true) :
    (clsM m).getD (runM m s u) 0 = ((clsM m).getD s 0 + u.length) % (perM m : Int) := by
  have ht := runQ_lt hv hs hu
  have h := len_mod hv hc u s hs hu
  rw [clsM_get m ht, clsM_get m hs, Int.emod_add_emod]
  symm
  rw [Int.emod_eq_emod_iff_emod_sub_eq_zero]
  exact Int.emod_eq_zero_of_dvd h
theorem cls_all {k : Nat} (hk : k < perM m) : hasB (clsM m) k = true := by
  obtain ⟨p1, p2, p3, p4, p5⟩ := valid_parts hv
  have hall : (List.replicate k (0 : Int)).all (inB 0 ((letters m : Int) - 1)) = true := by
    rw [List.all_eq_true]
    intro x hx
    obtain ⟨_, rfl⟩ := List.mem_replicate.1 hx
    exact inB_true ⟨by omega, by omega⟩
  have h0 : 0 < m.length := by omega
  have ht := runQ_lt hv h0 hall
  have h := cls_step hv hc h0 hall
  rw [clsM_get m h0, lens_zero hv hc, List.length_replicate, Int.zero_emod, Int.zero_add, Int.emod_eq_of_lt (by omega) (by omega)] at h
  have hl : runM m 0 (List.replicate k 0) < (clsM m).length := by rw [clsM_len]; exact ht
  rw [List.getD_eq_getElem?_getD, List.getElem?_eq_getElem hl, Option.getD_some] at h
  unfold hasB
  rw [List.any_eq_true]
  exact ⟨_, List.getElem_mem hl, by rw [h]; simp⟩
end
end Go.Proofs.YtpbbpogeleolaaaDoor
namespace Go.Proofs.YtpbbpogeleolaaaDoor
open Go.RowKit Go.Shelf
theorem full_iff {l : List Bool} : l.all id = true ↔ ∀ i, i < l.length → l.getD i false = true := by
  rw [List.all_eq_true]
  constructor
  · intro h i hi
    rw [List.getD_eq_getElem?_getD, List.getElem?_eq_getElem hi, Option.getD_some]
    exact h _ (List.getElem_mem hi)
  · intro h x hx
    obtain ⟨i, hi, rfl⟩ := List.mem_iff_getElem.1 hx
    have := h i hi
    rwa [List.getD_eq_getElem?_getD, List.getElem?_eq_getElem hi, Option.getD_some] at this
theorem rFull_bool (v : Value) (l : List Bool) (b : Bool) (w : World) (h : Bools w v l) (hb : l.all id = b) :
    Calls Tryd.prog 9 #[v] w fun e w' => e = .returned (.bool b) ∧ w = w' := by
  subst hb; exact rFull_any v l w h
theorem Bools.of_own' {W : World} {n₀ : Nat} {e : TypeId} {v : Value} {l : List Bool} (h : W.ownsRow n₀ e 1 v l.length (l.map fun x => .bool x)) (hl : l.length ≤ 1000) : Bools W v l := Bools.of_own h (by unfold big; omega)
end Go.Proofs.YtpbbpogeleolaaaDoor
namespace Go.Proofs.YtpbbpogeleolaaaDoor
open Go.RowKit Go.Shelf
theorem cls_at {m : List (List Int)} {k : Nat} (h : hasB (clsM m) k = true) : ∃ t, t < m.length ∧ (clsM m).getD t 0 = k := by
  unfold hasB at h
  rw [List.any_eq_true] at h
  obtain ⟨x, hx, e⟩ := h
  obtain ⟨i, hi, rfl⟩ := List.mem_iff_getElem.1 hx
  refine ⟨i, by rwa [clsM_len] at hi, ?_⟩
  rw [List.getD_eq_getElem?_getD, List.getElem?_eq_getElem hi, Option.getD_some]
  simpa using e
theorem full_at {m : List (List Int)} (hv : validM m = true) (hc : connM m = true) {s k : Nat} (hs : s < m.length) (hk : (m.length - 1) * (m.length - 1) + 1 ≤ k) : (exactTo m s k).all id = ((perM m : Int) == 1) := by
  rw [Bool.eq_iff_iff, full_iff, exactTo_len]
  constructor
  · intro h
    have hp := perM_pos hv hc
    by_cases e : perM m = 1
    · rw [e]; rfl
    · obtain ⟨t0, h0, c0⟩ := cls_at (cls_all hv hc (k := 0) (by omega))
      obtain ⟨t1, h1, c1⟩ := cls_at (cls_all hv hc (k := 1) (by omega))
      obtain ⟨u, u1, u2, u3⟩ := (exactTo_get hv hs k t0).1 (h t0 h0)
      obtain ⟨v, v1, v2, v3⟩ := (exactTo_get hv hs k t1).1 (h t1 h1)
      have a := cls_step hv hc hs u1
      have b := cls_step hv hc hs v1
      rw [u3, u2, c0] at a
      rw [v3, v2, c1] at b
      omega
  · intro e t ht
    have hp : perM m = 1 := by
      have : (perM m : Int) = 1 := by simpa using e
      omega
    exact (exactTo_get hv hs k t).2 (wielandt hv hc hp hs ht hk)
end Go.Proofs.YtpbbpogeleolaaaDoor
namespace Go.Proofs.YtpbbpogeleolaaaDoor
open Go.RowKit Go.Shelf
theorem Bools.shape {w : World} {v : Value} {l : List Bool} {n : Nat} (h : Bools w v l) (hn : l.length = n) : ∃ A c, v = .slice A n c := by
  obtain ⟨A, c, rfl, _⟩ := h
  exact ⟨A, c, by rw [hn]⟩
section
variable {m : List (List Int)} (hv : validM m = true) (hc : connM m = true)
include hv hc
end
end Go.Proofs.YtpbbpogeleolaaaDoor
namespace Go.Proofs.YtpbbpogeleolaaaDoor
open Go.RowKit Go.Shelf
set_option maxRecDepth 100000 in
set_option maxHeartbeats 1000000 in
theorem lengths_awake1 (v : Value) (m : List (List Int)) (more : Int) (w : World) (hT : Tab w) (h : Rows w v m) (hv : validM m = false) :
    Calls Tryd.prog 3 #[.agg #[v], .int .u8 more] w fun e w' => e = .returned (.bool true) ∧ Below w.heap.size w w' := by
  obtain ⟨A, cap, rfl, hml, -⟩ := id h
  have hX := bal (Below.refl _ w) (.cells #[.slice A m.length cap] 24)
  have hr := h.below hX
  have hTX := hT.on hX
  go_enter Tryd.func3, Tryd.ntmps3
  go_wp2_with fail
  refine (rValid_bool _ m false _ hr hv).mono ?_
  rintro e w1 ⟨rfl, h1⟩
  have hT1 := hTX.on h1
  go_wp2_with fail
  refine (awake2_any _ hT1).mono ?_
  rintro e w2 ⟨rfl, h2⟩
  go_wp2
  go_ret
  exact ⟨rfl, btr (btr hX h1) h2⟩
set_option maxRecDepth 100000 in
set_option maxHeartbeats 1000000 in
theorem lengths_awake2 (v : Value) (m : List (List Int)) (more : Int) (w : World) (hT : Tab w) (h : Rows w v m) (hv : validM m = true) (hn : (30 : Int) < m.length) :
    Calls Tryd.prog 3 #[.agg #[v], .int .u8 more] w fun e w' => e = .returned (.bool true) ∧ Below w.heap.size w w' := by
  obtain ⟨A, cap, rfl, hml, -⟩ := id h
  have hX := bal (Below.refl _ w) (.cells #[.slice A m.length cap] 24)
  have hbx := (Boxed.new w 24 (.slice A m.length cap)).cell
  have hr := h.below hX
  have hTX := hT.on hX
  go_enter Tryd.func3, Tryd.ntmps3
  go_wp2_with fail
  refine (rValid_bool _ m true _ hr hv).mono ?_
  rintro e w1 ⟨rfl, h1⟩
  have c1 := (h1.cell (p := ⟨w.heap.size, 0, none⟩) (World.block_lt_of_cell? _ _ hbx)).trans hbx
  have hT1 := hTX.on h1
  go_wp2_with fail
  refine (awake2_any _ hT1).mono ?_
  rintro e w2 ⟨rfl, h2⟩
  go_wp2
  go_ret
  exact ⟨rfl, btr (btr hX h1) h2⟩
set_option maxRecDepth 100000 in
set_option maxHeartbeats 1000000 in
theorem lengths_none (v : Value) (m : List (List Int)) (more : Int) (w : World) (hT : Tab w) (h : Rows w v m) (hv : validM m = true) (hn : ¬ (30 : Int) < m.length) (hc : connM m = false) :
    Calls Tryd.prog 3 #[.agg #[v], .int .u8 more] w fun e w' => e = .returned (.bool true) ∧ Below w.heap.size w w' := by
  have hbad : BadM m 2 := .inr ⟨hv, hc, rfl⟩
  obtain ⟨A, cap, rfl, hml, -⟩ := id h
  have hX := bal (Below.refl _ w) (.cells #[.slice A m.length cap] 24)
  have hbx := (Boxed.new w 24 (.slice A m.length cap)).cell
  have hr := h.below hX
  have hTX := hT.on hX
  go_enter Tryd.func3, Tryd.ntmps3
  go_wp2_with fail
  refine (rValid_bool _ m true _ hr hv).mono ?_
  rintro e w1 ⟨rfl, h1⟩
  have c1 := (h1.cell (p := ⟨w.heap.size, 0, none⟩) (World.block_lt_of_cell? _ _ hbx)).trans hbx
  go_wp2_with fail
  refine (Period_bad _ m 2 _ (hr.below h1) hbad).mono ?_
  rintro e w2 ⟨rfl, h2⟩
  have B2 := btr h1 h2
  have hT2 := hTX.on B2
  go_wp2_with fail
  refine (awake2_any _ hT2).mono ?_
  rintro e w3 ⟨rfl, h3⟩
  go_wp2
  go_ret
  exact ⟨rfl, btr (btr hX B2) h3⟩
set_option maxRecDepth 100000 in
set_option maxHeartbeats 2000000 in
theorem lengths_ok (v : Value) (m : List (List Int)) (more : Int) (b : Bool) (w : World) (hT : Tab w) (h : Rows w v m) (hv : validM m = true) (hn : ¬ (30 : Int) < m.length) (hc : connM m = true) (h0 : 0 ≤ more) (h255 : more < 256) (hb : ((perM m : Int) == 1) = b) :
    Calls Tryd.prog 3 #[.agg #[v], .int .u8 more] w fun e w' => e = .returned (.bool true) ∧ Below w.heap.size w w' := by
  obtain ⟨p1, p2, p3, p4, -⟩ := valid_parts hv
  obtain ⟨A, cap, rfl, hml, -⟩ := id h
  have hX := bal (Below.refl _ w) (.cells #[.slice A m.length cap] 24)
  have hbx := (Boxed.new w 24 (.slice A m.length cap)).cell
  have hr := h.below hX
  have hTX := hT.on hX
  have hper := hid (fun v w h => Period_ok v m w h hv hc)
  obtain ⟨q, hq, hq8⟩ : ∃ q : Nat, more.tmod 8 = (q : Int) ∧ q < 8 := ⟨(more % 8).toNat, by rw [Int.tmod_eq_emod_of_nonneg h0]; omega, by omega⟩
  obtain ⟨P, hP, hP9⟩ : ∃ P : Nat, ((m.length : Int) - 1) * ((m.length : Int) - 1) = (P : Int) ∧ P ≤ 900 ∧ (m.length - 1) * (m.length - 1) = P := ⟨(m.length - 1) * (m.length - 1), by
      rw [Int.natCast_mul, Int.natCast_sub (by omega)]; rfl, by
      have := Nat.mul_le_mul (show m.length - 1 ≤ 30 by omega) (show m.length - 1 ≤ 30 by omega)
      omega, rfl⟩
  have hful := hid (fun s (hs : s < m.length) => (full_at hv hc hs (k := P + 1 + q) (by omega)).trans hb)
  have hpl : perM m ≤ 61 := perM_le m hv m.length
  generalize perM m = d at *
  clear h p4
  go_enter Tryd.func3, Tryd.ntmps3
  go_wp2_with fail
  refine (rValid_bool _ m true _ hr hv).mono ?_
  rintro e w1 ⟨rfl, h1⟩
  have c1 := (h1.cell (p := ⟨w.heap.size, 0, none⟩) (World.block_lt_of_cell? _ _ hbx)).trans hbx
  go_wp2_with fail
  refine (hper.out _ _ (hr.below h1)).mono ?_
  rintro e w2 ⟨rfl, h2⟩
  have B2 := btr h1 h2
  have c2 := (h2.cell (p := ⟨w.heap.size, 0, none⟩) (World.block_lt_of_cell? _ _ c1)).trans c1
  have hBw2 := btr hX B2
  have hr2 := hr.below B2
  have hT2 := hTX.on B2
  clear c1 hbx hper B2 h1 h2 hr hTX
  go_wp2_with fail
  go_loopw [8] (fun sv wr => ∃ s : Nat, s ≤ m.length ∧ sv = .int .i64 s ∧ Below w2.heap.size w2 wr ∧ wr.cell? ⟨w.heap.size, 0, none⟩ = some (.slice A m.length cap)) (fun s _ => m.length - (intOf s).toNat)
  case atStart => exact ⟨0, Nat.zero_le _, rfl, Below.refl _ _, c2⟩
  case round =>
    clear c2
    obtain ⟨s, hs, rfl, hB, hbx⟩ := hrel
    by_cases hlt : s < m.length
    · have hss : (s : Int) < m.length := by omega
      have hol : (onlyL m.length s).length = m.length := by simp [onlyL]
      go_wp2_with fail
      refine (rOnly_any _ m s _ (hr2.below hB) (by omega) hlt).mono ?_
      rintro e w3 ⟨r, rfl, hr3, hb3⟩
      have hE : Bools w3 r (exactTo m s 0) := Bools.of_own' (l := onlyL m.length s) hr3 (by omega)
      have hB3 := btr hB hb3
      have hbx3 := (hb3.cell (p := ⟨w.heap.size, 0, none⟩) (World.block_lt_of_cell? _ _ hbx)).trans hbx
      have HE := hid hE
      clear hr3 hE hB hbx hb3
      go_wp2_with fail
      go_loopw [9, 10] (fun av kv wq => ∃ j : Nat, j ≤ P + 1 + q ∧ kv = .int .i64 ((P : Int) + 1 + q - j) ∧ Bools wq av (exactTo m s j) ∧ Below w2.heap.size w2 wq ∧ wq.cell? ⟨w.heap.size, 0, none⟩ = some (.slice A m.length cap)) (fun _ k _ => (intOf k).toNat)
      case atStart => exact ⟨0, Nat.zero_le _, by first | rfl | simp, HE.out, hB3, hbx3⟩
      case round =>
        clear HE hB3 hbx3
        obtain ⟨j, hj, rfl, hO, hB, hbx⟩ := hrel
        have hel := exactTo_len m s j
        obtain ⟨Aa, ca, rfl⟩ := hO.shape hel
        by_cases hjl : j < P + 1 + q
        · have hks : (0 : Int) < (P : Int) + 1 + q - j := by omega
          have hS := hid (rStep_any _ _ m (exactTo m s j) _ (hr2.below hB) hv hO hel)
          have hel1 := exactTo_len m s (j + 1)
          rw [show stepM m (exactTo m s j) = exactTo m s (j + 1) from rfl] at hS
          clear hO
          go_wp2_with fail
          refine hS.out.mono ?_
          rintro e w4 ⟨r4, rfl, hr4, hb4⟩
          have hE : Bools w4 r4 (exactTo m s (j + 1)) := Bools.of_own' hr4 (by omega)
          have hB4 := btr hB hb4
          have hbx4 := (hb4.cell (p := ⟨w.heap.size, 0, none⟩) (World.block_lt_of_cell? _ _ hbx)).trans hbx
          have HE := hid hE
          clear hr4 hE hS
          go_wp2
          go_roundw
          case rel => exact ⟨j + 1, by omega, by go_num, HE.out, hB4, hbx4⟩
          case measure => simp [intOf]; omega
        · obtain rfl : j = P + 1 + q := by omega
          have hks : ¬ ((0 : Int) < (P : Int) + 1 + q - ((P + 1 + q : Nat) : Int)) := by omega
          have hF := hid (rFull_bool _ _ b _ hO (hful.out s hlt))
          clear hO
          go_wp2_with fail
          refine hF.out.mono ?_
          rintro e w5 ⟨rfl, rfl⟩
          clear hF hful
          cases b
          · go_wp2
            go_roundw
            case rel => exact ⟨s + 1, by omega, by go_num, hB, hbx⟩
            case measure => simp [intOf]; omega
          · go_wp2
            go_roundw
            case rel => exact ⟨s + 1, by omega, by go_num, hB, hbx⟩
            case measure => simp [intOf]; omega
    · obtain rfl : s = m.length := by omega
      have hss : ¬ ((m.length : Nat) : Int) < m.length := by omega
      have hT3 := hT2.on hB
      go_wp2_with fail
      refine (awake2_any _ hT3).mono ?_
      rintro e w6 ⟨rfl, h6⟩
      go_wp2
      go_ret
      exact ⟨rfl, btr hBw2 (btr hB h6)⟩
theorem netLengths_any (v : Value) (m : List (List Int)) (more : Int) (w : World) (hT : Tab w) (h : Rows w v m) (h0 : 0 ≤ more) (h255 : more < 256) :
    Calls Tryd.prog 3 #[.agg #[v], .int .u8 more] w fun e w' => e = .returned (.bool true) ∧ Below w.heap.size w w' := by
  cases hv : validM m with
  | false => exact lengths_awake1 v m more w hT h hv
  | true =>
    by_cases hn : (30 : Int) < m.length
    · exact lengths_awake2 v m more w hT h hv hn
    · cases hc : connM m with
      | false => exact lengths_none v m more w hT h hv hn hc
      | true => exact lengths_ok v m more _ w hT h hv hn hc h0 h255 rfl
end Go.Proofs.YtpbbpogeleolaaaDoor
