/-
  LAW: StampRanges.
-/
import Derived.Test.YtjhconffdkgikaaM1
namespace Go.Tri
open Go.Proofs

theorem StampRanges_pure (h : Int) (v : List Int) : APure Try.prog 5 [.int h, .ints false v] (fun R => R = .bool true) := by
  refine APure_of (X := cx 58) (cx_ok 58) rfl (rs := [(.tmp 4, 4)]) Try.func5 (by decide) rfl rfl rfl (by simp [cx]) (by simp [NoFr]) ?_
  intro hlen
  conv => whnf
  refine br_dec (fun hl => ?_) (fun hl => ?_)
  · conv => whnf
    refine APure.to alive_pure ?_
    conv => whnf
    exact ⟨trivial, rfl⟩
  conv => whnf
  have hr : (if tickE h v = 0 then reachP (lettersL h.toNat v) else 0) = (if tickE h v = 0 then (refReach h v : Int) else 0) := by
    split
    · next h0 =>
      obtain ⟨hh, hv⟩ := tickE_inv h0
      obtain ⟨n, rfl⟩ : ∃ n : Nat, h = n := ⟨h.toNat, by omega⟩
      exact reach_eq hv
    · rfl
  have ho : (if tickE h v = 0 then hol (fun a => !hasB (lettersL h.toNat v) a) (lettersL h.toNat v).length else []) = (if tickE h v = 0 then refHol h v else []) := by
    split
    · next h0 =>
      obtain ⟨hh, hv⟩ := tickE_inv h0
      obtain ⟨n, rfl⟩ : ∃ n : Nat, h = n := ⟨h.toNat, by omega⟩
      exact holes_eq hv
    · rfl
  refine APure.to (Range_pure h v) ?_
  rw [hr]
  conv => whnf
  refine APure.to (refRange_pure h v) ?_
  conv => whnf
  refine br_ne (fun h1 => absurd rfl h1) (fun _ => ?_)
  conv => whnf
  refine br_ne (fun h1 => absurd rfl h1) (fun _ => ?_)
  conv => whnf
  refine APure.to (Holes_pure h v) ?_
  rw [ho]
  conv => whnf
  refine APure.to (refHoles_pure h v) ?_
  conv => whnf
  refine APure.to (same_pure _ _) ?_
  conv => whnf
  refine br_dec (fun _ => ?_) (fun h1 => absurd rfl h1)
  conv => whnf
  refine br_eq (fun _ => ?_) (fun h1 => absurd rfl h1)
  conv => whnf
  refine APure.to alive_pure ?_
  conv => whnf
  exact ⟨trivial, rfl⟩
end Go.Tri
