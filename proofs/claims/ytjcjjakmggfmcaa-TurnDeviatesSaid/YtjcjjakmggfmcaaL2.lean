/-
  LAW: TurnDeviates.
-/
import Derived.Test.YtjcjjakmggfmcaaB9
import Derived.Test.YtjcjjakmggfmcaaE1
namespace Go.Tri
open Go.Proofs

theorem view_all (l : List Int) : (l.drop 0).take l.length = l := by simp

theorem TurnDeviates_pure (s l : List Int) : APure Try.prog 3 [.ints false s, .ints false l] (fun R => R = .bool true) := by
  refine APure_of (X := cx 77) (cx_ok 77) rfl (rs := [(.tmp 4, 4)]) Try.func3 (by decide) rfl rfl rfl (by simp [cx]) (by simp [NoFr]) ?_
  intro hlen
  conv => whnf
  refine APure.to (few_pure s l) ?_
  conv => whnf
  refine br_not (br_mk (fun h => ?_) (fun h => ?_))
  · have hl : s.length ≤ 30 ∧ l.length ≤ 500 := by simpa using h
    conv => whnf
    repeat ((first | refine ⟨by omega, ?_⟩ | refine ⟨inr (by omega), ?_⟩ | refine eqn_self ?_ | refine ⟨ms (by omega), ?_⟩ | refine ⟨ms (by simp only [Src.n]; omega), ?_⟩ | refine ⟨msk (by omega), ?_⟩ | refine ⟨ms1, ?_⟩); conv => whnf)
    have hv := view_all s
    have hw := view_all l
    have h1 : ∀ s' l', s' = s → l' = l → APure Try.prog 18 [.ints false s', .ints false l'] (fun R => R = tup2 (agg2 (rat1 s l) (rat2 s l)) (.int (askedE s l))) := fun s' l' e1 e2 => by rw [e1, e2]; exact Deviation_pure s l
    have h2 : ∀ s' l', s' = s → l' = l → APure Try.prog 20 [.ints false s', .ints false l'] (fun R => R = tup2 (.bool (quo s l)) (.int (askedE s l))) := fun s' l' e1 e2 => by rw [e1, e2]; exact Quota_pure s l
    refine APure.to (h1 _ _ hv hw) ?_
    conv => whnf
    repeat ((first | refine ⟨by omega, ?_⟩ | refine ⟨inr (by omega), ?_⟩ | refine eqn_self ?_ | refine ⟨ms (by omega), ?_⟩ | refine ⟨ms (by simp only [Src.n]; omega), ?_⟩ | refine ⟨msk (by omega), ?_⟩ | refine ⟨ms1, ?_⟩); conv => whnf)
    refine APure.to (refDeviation_pure s l) ?_
    conv => whnf
    refine br_mk (fun h3 => ?_) (fun h3 => ?_)
    · exfalso
      revert h3
      show (!(rat1 s l == rat1 s l && (rat2 s l == rat2 s l && true))) = true → False
      simp
    · conv => whnf
      refine br_ne (fun h4 => absurd rfl h4) (fun h4 => ?_)
      conv => whnf
      refine APure.to (h2 _ _ hv hw) ?_
      conv => whnf
      refine APure.to (refQuota_pure s l) ?_
      conv => whnf
      refine br_mk (fun h5 => ?_) (fun h5 => ?_)
      · conv => whnf
        refine br_eq (fun h6 => ?_) (fun h6 => absurd rfl h6)
        conv => whnf
        repeat ((first | refine ⟨by omega, ?_⟩ | refine ⟨inr (by omega), ?_⟩ | refine eqn_self ?_ | refine ⟨ms (by omega), ?_⟩ | refine ⟨ms (by simp only [Src.n]; omega), ?_⟩ | refine ⟨msk (by omega), ?_⟩ | refine ⟨ms1, ?_⟩); conv => whnf)
        refine APure.to (same_pure ((s.drop 0).take s.length) s) ?_
        conv => whnf
        refine br_dec (fun h7 => ?_) (fun h7 => absurd hv h7)
        conv => whnf
        refine APure.to (same_pure ((l.drop 0).take l.length) l) ?_
        conv => whnf
        refine br_dec (fun h8 => ?_) (fun h8 => absurd hw h8)
        conv => whnf
        refine APure.to alive_pure ?_
        conv => whnf
        exact ⟨trivial, rfl⟩
      · exfalso
        revert h5
        show (quo s l == quo s l) = false → False
        simp
  · conv => whnf
    refine APure.to alive_pure ?_
    conv => whnf
    exact ⟨trivial, rfl⟩
end Go.Tri
