/-
  LAW: StampPays.
-/
import Derived.Test.YtjhconffdkgikaaB12
namespace Go.Tri
open Go.Proofs

theorem view_all' (l : List Int) : (l.drop 0).take l.length = l := by simp
theorem StampPays_pure (h : Int) (v : List Int) (a : Int) : APure Try.prog 3 [.int h, .ints false v, .int a] (fun R => R = .bool true) := by
  refine APure_of (X := cx 49) (cx_ok 49) rfl (rs := [(.tmp 6, 4)]) Try.func3 (by decide) rfl rfl rfl (by simp [cx]) (by simp [NoFr]) ?_
  intro hlen
  have fin : APure Try.prog 16 [] (fun R => R = .bool true) := alive_pure
  conv => whnf
  refine br_dec (fun hl => ?_) (fun hl => ?_)
  · conv => whnf
    refine APure.to fin ?_
    conv => whnf
    exact ⟨trivial, rfl⟩
  conv => whnf
  repeat ((first | refine ⟨by omega, ?_⟩ | refine ⟨inr (by omega), ?_⟩ | refine eqn_self ?_ | refine ⟨ms (by omega), ?_⟩ | refine ⟨ms (by simp only [Src.n]; omega), ?_⟩ | refine ⟨msk (by omega), ?_⟩ | refine ⟨ms1, ?_⟩); conv => whnf)
  have hp := Pay_pure h v a
  have hr := refPay_pure h v a
  generalize (if amtE h v a = 0 then (payO h.toNat v a).getD [] else []) = l at hp hr
  generalize (if amtE h v a = 0 then (if (payO h.toNat v a).isSome then (0 : Int) else 10) else amtE h v a) = e at hp hr
  have hm : ∀ l', l' = v → APure Try.prog 17 [.int h, .ints false l', .int a] (fun R => R = tup2 (.ints true l) (.int e)) := fun l' h => by rw [h]; exact hp
  refine APure.to (hm ((v.drop 0).take v.length) (view_all' v)) ?_
  conv => whnf
  refine APure.to hr ?_
  conv => whnf
  refine APure.to (same_pure _ _) ?_
  conv => whnf
  refine br_dec (fun _ => ?_) (fun h1 => absurd rfl h1)
  conv => whnf
  refine br_eq (fun _ => ?_) (fun h1 => absurd rfl h1)
  conv => whnf
  repeat ((first | refine ⟨by omega, ?_⟩ | refine ⟨inr (by omega), ?_⟩ | refine eqn_self ?_ | refine ⟨ms (by omega), ?_⟩ | refine ⟨ms (by simp only [Src.n]; omega), ?_⟩ | refine ⟨msk (by omega), ?_⟩ | refine ⟨ms1, ?_⟩); conv => whnf)
  refine APure.to (same_pure ((v.drop 0).take v.length) v) ?_
  conv => whnf
  refine br_dec (fun _ => ?_) (fun h1 => absurd (view_all' v) h1)
  conv => whnf
  refine APure.to fin ?_
  conv => whnf
  exact ⟨trivial, rfl⟩
end Go.Tri
