/-
 CONTRACTS: Dearer.
-/
import Derived.Test.YtpolaegggclhcaaGreatB35
import Derived.Test.YtpolaegggclhcaaGreatB45
namespace Go.Tri
open Go.Proofs
theorem frDrW {n : Nat} {W : Nat → List Int} {M : Mem} : Fr (ownvalN M 5 (drW true n W)) := ⟨rfl, fun _ _ _ _ => rfl⟩
set_option maxRecDepth 100000 in
theorem Dearer_pure {n : Nat} {W : Nat → List Int} (hW : Wis n W) : APure Tryz.prog 11 [tabV n W] (fun R => R = tup2 (drW true n W) (.int 0)) := by
 refine APure_of (X := cx 12) (cx_ok 12) rfl (rs := [(.tmp 2, 22), (.tmp 3, 30)]) Tryz.func11 (by decide) rfl rfl rfl (by simp [cx]) (nofr1 nofrT) ?_
 intro hlen
 have c1 := checkWishes_pure n W
 rw [show wiE n W = 0 from if_pos hW] at c1
 have c2 := dearer2_pure hW
 ((conv=>whnf);repeat (refine Wa ?_;(repeat (first|refine Wb ?_|refine Wc ?_|refine Wd ?_|refine We ?_|refine Wf ?_));(conv=>whnf)))
 refine APure.to (APure.arg1 subT c1) ?_
 ((conv=>whnf);repeat (refine Wa ?_;(repeat (first|refine Wb ?_|refine Wc ?_|refine Wd ?_|refine We ?_|refine Wf ?_));(conv=>whnf)))
 refine APure.to (APure.arg1 subT c2) ?_
 ((conv=>whnf);repeat (refine Wa ?_;(repeat (first|refine Wb ?_|refine Wc ?_|refine Wd ?_|refine We ?_|refine Wf ?_));(conv=>whnf)))
 refine ⟨⟨rfl, fun _ _ _ _ => rfl⟩, trivial, rfl⟩
end Go.Tri
