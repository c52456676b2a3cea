/-
  LAW: TurnMerges, but for 'alive'.
-/
import Derived.Test.YtjcjjakmggfmcaaB3
import Derived.Test.YtjcjjakmggfmcaaE1
namespace Go.Tri
open Go.Proofs

theorem view_all (l : List Int) : (l.drop 0).take l.length = l := by simp

theorem TurnMerges_pure (hal : APure Try.prog 17 [] (fun R => R = .bool true)) (l : List Int) (a b : Int) : APure Try.prog 7 [.ints false l, .int a, .int b] (fun R => R = .bool true) := by
  refine APure_of (X := cx 49) (cx_ok 49) rfl (rs := [(.tmp 6, 4)]) Try.func7 (by decide) rfl rfl rfl (by simp [cx]) (by simp [NoFr]) ?_
  intro hlen
  conv => whnf
  refine APure.to (few_pure [] l) ?_
  conv => whnf
  refine br_not (br_mk (fun h => ?_) (fun h => ?_))
  · have hl : l.length ≤ 500 := by simpa using h
    conv => whnf
    repeat ((first | refine ⟨by omega, ?_⟩ | refine ⟨inr (by omega), ?_⟩ | refine eqn_self ?_ | refine ⟨ms (by omega), ?_⟩ | refine ⟨ms (by simp only [Src.n]; omega), ?_⟩ | refine ⟨msk (by omega), ?_⟩ | refine ⟨ms1, ?_⟩); conv => whnf)
    have hm : ∀ l', l' = l → APure Try.prog 35 [.ints false l', .int a, .int b] (fun R => R = tup2 (.ints true (mergedL l a b)) (.int (mergedE l a b))) := fun l' h => by rw [h]; exact Merged_pure l a b
    refine APure.to (hm ((l.drop 0).take l.length) (view_all l)) ?_
    conv => whnf
    repeat ((first | refine ⟨by omega, ?_⟩ | refine ⟨inr (by omega), ?_⟩ | refine eqn_self ?_ | refine ⟨ms (by omega), ?_⟩ | refine ⟨ms (by simp only [Src.n]; omega), ?_⟩ | refine ⟨msk (by omega), ?_⟩ | refine ⟨ms1, ?_⟩); conv => whnf)
    refine APure.to (refMerged_pure l a b) ?_
    conv => whnf
    refine APure.to (same_pure _ _) ?_
    conv => whnf
    refine br_dec (fun h1 => ?_) (fun h1 => absurd rfl h1)
    conv => whnf
    refine br_eq (fun h2 => ?_) (fun h2 => absurd rfl h2)
    conv => whnf
    repeat ((first | refine ⟨by omega, ?_⟩ | refine ⟨inr (by omega), ?_⟩ | refine eqn_self ?_ | refine ⟨ms (by omega), ?_⟩ | refine ⟨ms (by simp only [Src.n]; omega), ?_⟩ | refine ⟨msk (by omega), ?_⟩ | refine ⟨ms1, ?_⟩); conv => whnf)
    refine APure.to (same_pure ((l.drop 0).take l.length) l) ?_
    conv => whnf
    refine br_dec (fun h3 => ?_) (fun h3 => absurd (view_all l) h3)
    conv => whnf
    refine APure.to hal ?_
    conv => whnf
    exact ⟨trivial, rfl⟩
  · conv => whnf
    refine APure.to hal ?_
    conv => whnf
    exact ⟨trivial, rfl⟩
end Go.Tri
