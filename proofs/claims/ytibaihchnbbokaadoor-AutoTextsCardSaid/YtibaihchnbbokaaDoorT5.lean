/-
  The elements of a set, one after the other; lists and images of sets.
-/
import Derived.Test.YtibaihchnbbokaaDoorT4
import Derived.Test.YtibaihchnbbokaaDoorRange
namespace Go.Proofs.YtibaihchnbbokaaDoor
open Go.RowKit Go.Shelf
attribute [local go_sem] Oper.semAt_some

/-- A call by a number of arguments, as a run in a round of the wide fence. -/
theorem inr {f : FuncId} {args : Array Value} {w : World} {R : Ending → World → Prop} (l n : Nat) (h : Calls Tryd.prog f args w R) : CallsIn (Fence.wide.inRound l) n Tryd.prog f args w R :=
  CallsIn.inRound l (callsIn_wide.2 h)

set_option maxRecDepth 100000 in
set_option maxHeartbeats 1000000 in
theorem All_seq (S : Nat) (hS : S < 2 ^ 64) (n₀ : Nat) (hn₀ : 0 < n₀) (w : World) (hn : n₀ ≤ w.heap.size) (hT : Tab w) :
    SeqX 80 #[.int .u64 S] #[] (fun x : Nat => #[.int .i64 x]) n₀ (fun _ _ _ => True) (fun xs => xs = elems S) (fun pre => pre <+: elems S) w := by
  intro l J Jx W hW hJ hJx hY h0
  have hTW := hT.on hW
  refine (callsIn_wide (n := 0)).1 ?_
  refine callsIn_of_wp Tryd.func80 rfl trivial ?_ rfl
  simp only [Tryd.ntmps80, List.size_toArray, List.length_cons, List.length_nil, Nat.reduceAdd, Nat.reduceSub, Array.replicate_succ, Array.replicate_zero, List.push_toArray, List.append_toArray, List.nil_append, List.cons_append]
  gi_wp2
  gi_loopw [4] (fun r wr => ∃ (T : Nat) (pre : List Nat), r = .int .u64 T ∧ T < 2 ^ 64 ∧ elems S = pre ++ elems T ∧ J (fun _ => False) pre wr ∧ Below n₀ W wr) (fun r _ => (intOf r).toNat)
  case atStart => exact ⟨S, [], rfl, hS, rfl, h0, Below.refl _ _⟩
  case round =>
    obtain ⟨T, pre, rfl, hT64, hel, hJs, hB⟩ := hrel
    by_cases hT0 : T = 0
    · subst hT0
      rw [elems_zero, List.append_nil] at hel
      gi_wp2
      refine bodyPost_end (results_none rfl _ _ _) rfl ?_
      exact ⟨⟨_, rfl⟩, .inl ⟨_, pre, hel.symm, hJs⟩⟩
    · have hctz : Lib.ctz 64 T = Lib.ctzFrom 64 T := by simp [Lib.ctz, hT0]
      obtain ⟨m, hm, hk⟩ := Lib.ctzFrom_spec 64 T (by omega) hT64
      rw [← hctz] at hm hk
      obtain ⟨hst, hlt⟩ := elems_step T _ m hm hk
      have hne : ((T : Int) != 0) = true := by simp; omega
      have htz := TrailingZeros64_any T hT64 hT0 wr (hTW.below hB hn₀)
      have hand : bits .and .u64 (T : Int) ((T : Int) - 1) = ((T &&& (T - 1) : Nat) : Int) := by
        rw [show (T : Int) - 1 = ((T - 1 : Nat) : Int) from by omega]
        exact bits_and_n T (T - 1) hT64 (by omega)
      have Hlt := hid hlt
      have Hst := hid hst
      have hT64' : T &&& (T - 1) < 2 ^ 64 := by omega
      clear hst hlt hm hctz
      generalize Lib.ctz 64 T = k at *
      generalize T &&& (T - 1) = T' at *
      obtain ⟨⟨fn, tmps, assign, body, hy, hR⟩⟩ : Nonempty _ := ⟨hY _ pre k wr (fun _ h => h.elim) hJs trivial (by rw [hel, Hst.out]; exact ⟨elems T', by simp⟩)⟩
      have Hel := hid hel
      clear hel
      gi_wp2_with (refine ⟨trivial, rfl, ?_⟩; gi_at_call 97; refine (callsIn_wide.2 htz).mono ?_; rintro e w' ⟨rfl, rfl⟩)
      refine ⟨rfl, hR.mono ?_⟩
      rintro e W3 ⟨⟨rfl, hJ3⟩ | ⟨rfl, hJ3⟩, hk3⟩
      · gi_wp2
        go_roundw
        case rel => exact ⟨T', pre ++ [k], rfl, hT64', by rw [Hel.out, Hst.out]; simp, hJ3, hB.trans (hk3.below (by have := hB.size; have := hW.size; omega))⟩
        case measure => simp [intOf]; exact Hlt.out
      · gi_wp2
        refine bodyPost_ret (results_none rfl _ _ _) rfl ?_
        exact ⟨⟨_, rfl⟩, .inr ⟨_, pre ++ [k], by rw [Hel.out, Hst.out]; exact ⟨elems T', by simp⟩, hJ3⟩⟩

end Go.Proofs.YtibaihchnbbokaaDoor
