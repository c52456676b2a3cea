/-
 CONTRACTS: Envy.
-/
import Derived.Test.YtpolaegggclhcaaGreatB44
namespace Go.Tri
open Go.Proofs
theorem ownP0 {M : Mem} {k : Nat} {L : List (Nat × Nat)} {j o : Nat} : ownvalN M (k + 1) (prF L j o) = prF L j o := by
 unfold prF
 split <;> rfl
theorem frP0 {M : Mem} {k : Nat} {L : List (Nat × Nat)} {j o : Nat} : Fr (ownvalN M (k + 1) (prF L j o)) := by
 rw [ownP0]
 unfold prF
 split <;> trivial
open Classical in
noncomputable def enV (n : Nat) (W : Nat → List Int) (r z : List Int) (d : Int) : V := if evOk n W r z d then tup2 (prsV true (envT n W r z d n)) (.int 0) else tup2 (.emp true) (.int 2)
open Classical in
set_option maxRecDepth 100000 in
theorem Envy_pure (n : Nat) (W : Nat → List Int) (r z : List Int) (d : Int) : APure Tryz.prog 8 [tabV n W, .ints false r, parV false z d] (fun R => R = enV n W r z d) := by
 refine APure_of (X := cx 20) (cx_ok 20) rfl (rs := [(.tmp 6, 29), (.tmp 7, 30)]) Tryz.func8 (by decide) rfl rfl rfl (by simp [cx]) (nofr3 nofrT (show NoFr (.ints false r) from rfl) nofrPa) ?_
 intro hlen
 have c1 := checkRents_pure n W r z d
 by_cases hE : evOk n W r z d
 ·rw [show ceE n W r z d = 0 from if_pos hE] at c1
  rw [show enV n W r z d = tup2 (prsV true (envT n W r z d n)) (.int 0) from if_pos hE]
  have c2 := envy_pure hE
  ((conv=>whnf);repeat (refine Wa ?_;(repeat (first|refine Wb ?_|refine Wc ?_|refine Wd ?_|refine We ?_|refine Wf ?_));(conv=>whnf)))
  refine APure.to (APure.arg3 subT (Sub.refl _) (sub2 rfl rfl) c1) ?_
  ((conv=>whnf);repeat (refine Wa ?_;(repeat (first|refine Wb ?_|refine Wc ?_|refine Wd ?_|refine We ?_|refine Wf ?_));(conv=>whnf)))
  refine APure.to (APure.arg3 subT (Sub.refl _) (sub2 rfl rfl) c2) ?_
  ((conv=>whnf);repeat (refine Wa ?_;(repeat (first|refine Wb ?_|refine Wc ?_|refine Wd ?_|refine We ?_|refine Wf ?_));(conv=>whnf)))
  refine ⟨⟨rfl, fun j o _ _ => frP0⟩, trivial, Q2 ?_ rfl⟩
  exact congrArg (V.seq true 2 _) (funext fun j => funext fun o => ownP0)
 ·rw [show ceE n W r z d = 2 from if_neg hE] at c1
  rw [show enV n W r z d = tup2 (.emp true) (.int 2) from if_neg hE]
  ((conv=>whnf);repeat (refine Wa ?_;(repeat (first|refine Wb ?_|refine Wc ?_|refine Wd ?_|refine We ?_|refine Wf ?_));(conv=>whnf)))
  refine APure.to (APure.arg3 subT (Sub.refl _) (sub2 rfl rfl) c1) ?_
  ((conv=>whnf);repeat (refine Wa ?_;(repeat (first|refine Wb ?_|refine Wc ?_|refine Wd ?_|refine We ?_|refine Wf ?_));(conv=>whnf)))
  exact ⟨trivial, trivial, rfl⟩
end Go.Tri
