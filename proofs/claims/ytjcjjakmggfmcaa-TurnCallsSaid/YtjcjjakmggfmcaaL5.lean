/-
  LAW: TurnCalls.
-/
import Derived.Test.YtjcjjakmggfmcaaB18
namespace Go.Tri
open Go.Proofs

theorem TurnCalls_pure (s : List Int) (m : Int) : APure Try.prog 4 [.ints false s, .int m] (fun R => R = .bool true) := by
  refine APure_of (X := cx 57) (cx_ok 57) rfl (rs := [(.tmp 4, 4)]) Try.func4 (by decide) rfl rfl rfl (by simp [cx]) (by simp [NoFr]) ?_
  intro hlen
  conv => whnf
  refine APure.to (few_pure s []) ?_
  conv => whnf
  refine br_not (br_mk (fun h => ?_) (fun h => ?_))
  · conv => whnf
    refine APure.to (Greedy_pure s m) ?_
    conv => whnf
    refine APure.to (refGreedy_pure s m) ?_
    conv => whnf
    refine APure.to (same_pure _ _) ?_
    conv => whnf
    refine br_not (br_dec (fun h1 => ?_) (fun h1 => absurd rfl h1))
    conv => whnf
    refine br_ne (fun h2 => absurd rfl h2) (fun h2 => ?_)
    conv => whnf
    refine APure.to (Fair_pure s m) ?_
    conv => whnf
    refine APure.to (refFair_pure s m) ?_
    conv => whnf
    refine APure.to (same_pure _ _) ?_
    conv => whnf
    refine br_dec (fun h1 => ?_) (fun h1 => absurd rfl h1)
    conv => whnf
    refine br_eq (fun h2 => ?_) (fun h2 => absurd rfl h2)
    conv => whnf
    refine APure.to alive_pure ?_
    conv => whnf
    exact ⟨trivial, rfl⟩
  · conv => whnf
    refine APure.to alive_pure ?_
    conv => whnf
    exact ⟨trivial, rfl⟩
end Go.Tri
