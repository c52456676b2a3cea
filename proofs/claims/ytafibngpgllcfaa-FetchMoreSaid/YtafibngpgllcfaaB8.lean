/-
 CONTRACTS: no streets.
-/
import Derived.Test.YtafibngpgllcfaaB6
namespace Go.Tri
open Go.Proofs

set_option maxRecDepth 100000 in
theorem Grow0 : APure Try.prog 112 [.emp true, .int 0] (fun R => R = .emp true) := by
 refine APure_of (X := cx 27) (cx_ok 27) rfl (rs := [(.tmp 4, 22)]) Try.func112 (by decide) rfl rfl rfl (by simp [cx]) ((by intro x hx; simp at hx; rcases hx with rfl | rfl <;> trivial)) ?_
 intro hlen
 ((conv=>whnf);repeat (refine Wa ?_;(repeat (first|refine Wb ?_|refine Wc ?_|refine Wd ?_|refine We ?_|refine Wf ?_));(conv=>whnf)))
 refine ⟨inr (by decide), ?_⟩
 ((conv=>whnf);repeat (refine Wa ?_;(repeat (first|refine Wb ?_|refine Wc ?_|refine Wd ?_|refine We ?_|refine Wf ?_));(conv=>whnf)))
 refine ⟨inr (by decide), ?_⟩
 ((conv=>whnf);repeat (refine Wa ?_;(repeat (first|refine Wb ?_|refine Wc ?_|refine Wd ?_|refine We ?_|refine Wf ?_));(conv=>whnf)))
 exact ⟨trivial, rfl⟩
set_option maxRecDepth 100000 in
theorem Concat0 (A1 B1 A2 B2 : Nat → Int) : APure Try.prog 98 [catV 0 0 A1 B1 A2 B2] (fun R => R = stV true 0 (apF 0 A1 A2) (apF 0 B1 B2)) := by
 refine APure_of (X := cx 36) (cx_ok 36) rfl (rs := [(.tmp 2, 22)]) Try.func98 (by decide) rfl rfl rfl (by simp [cx]) ((nofr1 nofrCat)) ?_
 intro hlen
 ((conv=>whnf);repeat (refine Wa ?_;(repeat (first|refine Wb ?_|refine Wc ?_|refine Wd ?_|refine We ?_|refine Wf ?_));(conv=>whnf)))
 refine AW_loop (X := cx 36) (cx_ok 36) [0, 3, 9, 10, 11] (fun vs M => ∃ k : Nat, k ≤ 2 ∧ vs = [catV 0 0 A1 B1 A2 B2, .int 0, catV 0 0 A1 B1 A2 B2, .int 2, .int k] ∧ M = [])
  (fun vs _ => 2 - (vs.getD 4 .any).toInt.toNat) ?_ ?_
 ·exact ⟨0, Nat.zero_le _, rfl, rfl⟩
 rintro vs M ⟨k, hk, rfl, rfl⟩
 ((conv=>whnf);repeat (refine Wa ?_;(repeat (first|refine Wb ?_|refine Wc ?_|refine Wd ?_|refine We ?_|refine Wf ?_));(conv=>whnf)))
 refine br_dec (fun hlt => ?_) (fun hge => ?_)
 ·have hlt : (k : Int) < 2 := hlt
  ((conv=>whnf);repeat (refine Wa ?_;(repeat (first|refine Wb ?_|refine Wc ?_|refine Wd ?_|refine We ?_|refine Wf ?_));(conv=>whnf)))
  refine ⟨(show (0 : Int) ≤ (k : Int) by omega), ?_⟩
  refine ⟨(show (k : Int) < 2 by omega), ?_⟩
  rw [Int.toNat_natCast]
  rcases (by omega : k = 0 ∨ k = 1) with rfl | rfl
  ·((conv=>whnf);repeat (refine Wa ?_;(repeat (first|refine Wb ?_|refine Wc ?_|refine Wd ?_|refine We ?_|refine Wf ?_));(conv=>whnf)))
   repeat ((first | refine ⟨inr (by decide), ?_⟩ | refine ⟨by omega, ?_⟩); ((conv=>whnf);repeat (refine Wa ?_;(repeat (first|refine Wb ?_|refine Wc ?_|refine Wd ?_|refine We ?_|refine Wf ?_));(conv=>whnf))))
   refine ⟨⟨1, by omega, rfl, rfl⟩, by simp [V.toInt, sel, Env.get]⟩
  ·((conv=>whnf);repeat (refine Wa ?_;(repeat (first|refine Wb ?_|refine Wc ?_|refine Wd ?_|refine We ?_|refine Wf ?_));(conv=>whnf)))
   repeat ((first | refine ⟨inr (by decide), ?_⟩ | refine ⟨by omega, ?_⟩); ((conv=>whnf);repeat (refine Wa ?_;(repeat (first|refine Wb ?_|refine Wc ?_|refine Wd ?_|refine We ?_|refine Wf ?_));(conv=>whnf))))
   refine ⟨⟨2, by omega, rfl, rfl⟩, by simp [V.toInt, sel, Env.get]⟩
 ·have hge : ¬ (k : Int) < 2 := hge
  obtain rfl : k = 2 := by omega
  ((conv=>whnf);repeat (refine Wa ?_;(repeat (first|refine Wb ?_|refine Wc ?_|refine Wd ?_|refine We ?_|refine Wf ?_));(conv=>whnf)))
  refine APure.to Grow0 ?_
  ((conv=>whnf);repeat (refine Wa ?_;(repeat (first|refine Wb ?_|refine Wc ?_|refine Wd ?_|refine We ?_|refine Wf ?_));(conv=>whnf)))
  refine AW_loop (X := cx 36) (cx_ok 36) [6, 25, 26, 27] (fun vs M => (vs = [.emp true, catV 0 0 A1 B1 A2 B2, .int 2, .int 0] ∧ M = []) ∨ (∃ (k ver n : Nat) (F : Nat → Nat → V), 1 ≤ k ∧ k ≤ 2 ∧ vs = [.sl 0 ver 0 0, catV 0 0 A1 B1 A2 B2, .int 2, .int k] ∧ M = [some ⟨34, 2, ver, .cv n F⟩] ∧ (k = 2 → F = raS (apF 0 A1 A2) (apF 0 B1 B2))))
   (fun vs _ => 2 - (vs.getD 3 .any).toInt.toNat) ?_ ?_
  ·exact .inl ⟨rfl, rfl⟩
  rintro vs M (⟨rfl, rfl⟩ | ⟨k, ver, n, F, hk1, hk, rfl, rfl, hF⟩)
  ·((conv=>whnf);repeat (refine Wa ?_;(repeat (first|refine Wb ?_|refine Wc ?_|refine Wd ?_|refine We ?_|refine Wf ?_));(conv=>whnf)))
   repeat ((first | refine ⟨by omega, ?_⟩); ((conv=>whnf);repeat (refine Wa ?_;(repeat (first|refine Wb ?_|refine Wc ?_|refine Wd ?_|refine We ?_|refine Wf ?_));(conv=>whnf))))
   refine ⟨(show (16 : Int) * ((0 : Nat) : Int) ≤ 140737488355328 by omega), ?_⟩
   ((conv=>whnf);repeat (refine Wa ?_;(repeat (first|refine Wb ?_|refine Wc ?_|refine Wd ?_|refine We ?_|refine Wf ?_));(conv=>whnf)))
   refine ⟨inr (by decide), ?_⟩
   ((conv=>whnf);repeat (refine Wa ?_;(repeat (first|refine Wb ?_|refine Wc ?_|refine Wd ?_|refine We ?_|refine Wf ?_));(conv=>whnf)))
   refine ⟨.inr ⟨1, 0, _, _, by omega, by omega, rfl, rfl, fun h => absurd h (by omega)⟩, by simp [V.toInt, sel, Env.get]⟩
  ·rcases (by omega : k = 1 ∨ k = 2) with rfl | rfl
   ·((conv=>whnf);repeat (refine Wa ?_;(repeat (first|refine Wb ?_|refine Wc ?_|refine Wd ?_|refine We ?_|refine Wf ?_));(conv=>whnf)))
    repeat ((first | refine ⟨by omega, ?_⟩); ((conv=>whnf);repeat (refine Wa ?_;(repeat (first|refine Wb ?_|refine Wc ?_|refine Wd ?_|refine We ?_|refine Wf ?_));(conv=>whnf))))
    refine eqn_self ?_
    ((conv=>whnf);repeat (refine Wa ?_;(repeat (first|refine Wb ?_|refine Wc ?_|refine Wd ?_|refine We ?_|refine Wf ?_));(conv=>whnf)))
    refine ⟨(show (16 : Int) * (((0 : Nat) : Int) + ((0 : Nat) : Int)) ≤ 140737488355328 by omega), ?_⟩
    ((conv=>whnf);repeat (refine Wa ?_;(repeat (first|refine Wb ?_|refine Wc ?_|refine Wd ?_|refine We ?_|refine Wf ?_));(conv=>whnf)))
    refine ⟨inr (by decide), ?_⟩
    ((conv=>whnf);repeat (refine Wa ?_;(repeat (first|refine Wb ?_|refine Wc ?_|refine Wd ?_|refine We ?_|refine Wf ?_));(conv=>whnf)))
    refine ⟨.inr ⟨2, ver + 1, _, _, by omega, by omega, rfl, rfl, fun _ => ?_⟩, by simp [V.toInt, sel, Env.get]⟩
    funext j q
    rfl
   ·obtain rfl := hF rfl
    ((conv=>whnf);repeat (refine Wa ?_;(repeat (first|refine Wb ?_|refine Wc ?_|refine Wd ?_|refine We ?_|refine Wf ?_));(conv=>whnf)))
    refine eqn_self ?_
    refine ⟨⟨rfl, fun j q _ _ => ?_⟩, congrArg (V.seq true 2 0) (funext fun j => funext fun q => ?_)⟩
    ·show Fr (ownvalN _ _ (raS _ _ (0 + j) q))
     unfold raS
     split <;> exact trivial
    ·show ownvalN _ _ (raS _ _ (0 + j) q) = raS _ _ j q
     rw [show raS (apF 0 A1 A2) (apF 0 B1 B2) (0 + j) q = raS (apF 0 A1 A2) (apF 0 B1 B2) j q by rw [Nat.zero_add]]
     unfold raS
     split <;> rfl
end Go.Tri
