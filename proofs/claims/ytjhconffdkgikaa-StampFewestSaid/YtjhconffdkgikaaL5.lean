/-
  LAW: StampFewest.
-/
import Derived.Test.YtjhconffdkgikaaB14
namespace Go.Tri
open Go.Proofs

theorem StampFewest_pure (h : Int) (v : List Int) (a : Int) : APure Try.prog 4 [.int h, .ints false v, .int a] (fun R => R = .bool true) := by
  refine APure_of (X := cx 63) (cx_ok 63) rfl (rs := [(.tmp 6, 4)]) Try.func4 (by decide) rfl rfl rfl (by simp [cx]) (by simp [NoFr]) ?_
  intro hlen
  have fin : APure Try.prog 16 [] (fun R => R = .bool true) := alive_pure
  have hw : (if amtE h v a = 0 then (lettersL h.toNat v).getD a.toNat 0 else 0) = (if amtE h v a = 0 then wR v h.toNat v.length a else 0) := by
    split
    · next h0 =>
      obtain ⟨hh, hv, ha0, ha1⟩ := amtE_inv h0
      obtain ⟨n, rfl⟩ : ∃ n : Nat, h = n := ⟨h.toNat, by omega⟩
      obtain ⟨k, rfl⟩ : ∃ k : Nat, a = k := ⟨a.toNat, by omega⟩
      exact ways_eq hv ha1
    · rfl
  conv => whnf
  refine br_dec (fun hl => ?_) (fun hl => ?_)
  · conv => whnf
    refine APure.to fin ?_
    conv => whnf
    exact ⟨trivial, rfl⟩
  conv => whnf
  refine APure.to (Fewest_pure h v) ?_
  conv => whnf
  refine APure.to (refFewest_pure h v) ?_
  conv => whnf
  refine APure.to (same_pure _ _) ?_
  conv => whnf
  refine br_not (br_dec (fun _ => ?_) (fun h1 => absurd rfl h1))
  conv => whnf
  refine br_ne (fun h1 => absurd rfl h1) (fun _ => ?_)
  conv => whnf
  refine APure.to (Ways_pure h v a) ?_
  rw [hw]
  conv => whnf
  refine APure.to (refWays_pure h v a) ?_
  conv => whnf
  refine br_eq (fun _ => ?_) (fun h1 => absurd rfl h1)
  conv => whnf
  refine br_eq (fun _ => ?_) (fun h1 => absurd rfl h1)
  conv => whnf
  refine APure.to fin ?_
  conv => whnf
  exact ⟨trivial, rfl⟩
end Go.Tri
