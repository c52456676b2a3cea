/-
  LAW: StampMirrors.
-/
import Derived.Test.YtjhconffdkgikaaB10
namespace Go.Tri
open Go.Proofs

theorem view_all (l : List Int) : (l.drop 0).take l.length = l := by simp
theorem StampMirrors_pure (v : List Int) : APure Try.prog 8 [.ints false v] (fun R => R = .bool true) := by
  refine APure_of (X := cx 41) (cx_ok 41) rfl (rs := [(.tmp 2, 4)]) Try.func8 (by decide) rfl rfl rfl (by simp [cx]) (by simp [NoFr]) ?_
  intro hlen
  have fin : APure Try.prog 16 [] (fun R => R = .bool true) := alive_pure
  conv => whnf
  refine br_dec (fun hl => ?_) (fun hl => ?_)
  · conv => whnf
    refine APure.to fin ?_
    conv => whnf
    exact ⟨trivial, rfl⟩
  conv => whnf
  repeat ((first | refine ⟨by omega, ?_⟩ | refine ⟨inr (by omega), ?_⟩ | refine eqn_self ?_ | refine ⟨ms (by omega), ?_⟩ | refine ⟨ms (by simp only [Src.n]; omega), ?_⟩ | refine ⟨msk (by omega), ?_⟩ | refine ⟨ms1, ?_⟩); conv => whnf)
  have hm : ∀ l', l' = v → APure Try.prog 34 [.ints false l'] (fun R => R = tup2 (.ints true (if valsE v = 0 then mirL v else [])) (.int (valsE v))) := fun l' h => by rw [h]; exact Mirrored_pure v
  refine APure.to (hm ((v.drop 0).take v.length) (view_all v)) ?_
  conv => whnf
  refine APure.to (refMirrored_pure v) ?_
  conv => whnf
  refine APure.to (same_pure _ _) ?_
  conv => whnf
  refine br_dec (fun _ => ?_) (fun h1 => absurd rfl h1)
  conv => whnf
  refine br_eq (fun _ => ?_) (fun h1 => absurd rfl h1)
  conv => whnf
  repeat ((first | refine ⟨by omega, ?_⟩ | refine ⟨inr (by omega), ?_⟩ | refine eqn_self ?_ | refine ⟨ms (by omega), ?_⟩ | refine ⟨ms (by simp only [Src.n]; omega), ?_⟩ | refine ⟨msk (by omega), ?_⟩ | refine ⟨ms1, ?_⟩); conv => whnf)
  refine APure.to (same_pure ((v.drop 0).take v.length) v) ?_
  conv => whnf
  refine br_dec (fun _ => ?_) (fun h1 => absurd (view_all v) h1)
  conv => whnf
  refine APure.to fin ?_
  conv => whnf
  exact ⟨trivial, rfl⟩
end Go.Tri
