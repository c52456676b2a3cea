/-
 CONTRACTS: Dearer over named rows; the reference's Assign and Dearer.
-/
import Derived.Test.YtpolaegggclhcaaB37
import Derived.Test.YtpolaegggclhcaaB34
namespace Go.Tri
open Go.Proofs

set_option maxRecDepth 100000 in
theorem Dearer_cm {n : Nat} {W : Nat → List Int} (hW : Wis n W) : ACM Try.prog 30 [tabV n W] [] (fun R M' => R = tup2 (.sl 0 0 0 n) (.int 0) ∧ M' = padM n (drr n W)) (some 0) := by
 refine ACM_ofW (T := tab) tab_ok Try.func30 (by decide) rfl (Nat.le_of_ble_eq_true rfl) ?_
 refine AW_of_awp (X := ⟨Try.prog, tab, [59], 12, 0, false⟩) tab_ok ?_
 have c1 := checkWishes_pure n W
 rw [show wiE n W = 0 from if_pos hW] at c1
 ((conv=>whnf);repeat (refine Wa ?_;(repeat (first|refine Wb ?_|refine Wc ?_|refine Wd ?_|refine We ?_|refine Wf ?_));(conv=>whnf)))
 refine APure.to (APure.arg1 subT c1) ?_
 ((conv=>whnf);repeat (refine Wa ?_;(repeat (first|refine Wb ?_|refine Wc ?_|refine Wd ?_|refine We ?_|refine Wf ?_));(conv=>whnf)))
 refine ACM.mono (dearer_cm hW) ?_
 rintro R M' ⟨rfl, rfl⟩
 ((conv=>whnf);repeat (refine Wa ?_;(repeat (first|refine Wb ?_|refine Wc ?_|refine Wd ?_|refine We ?_|refine Wf ?_));(conv=>whnf)))
 exact ⟨_, rfl, rfl, rfl⟩
set_option maxRecDepth 100000 in
theorem Dearer_bad {n : Nat} {W : Nat → List Int} (hW : ¬ Wis n W) : ACM Try.prog 30 [tabV n W] [] (fun R M' => R = tup2 (.emp true) (.int 2) ∧ M' = []) (some 0) := by
 refine ACM_ofW (T := tab) tab_ok Try.func30 (by decide) rfl (Nat.le_of_ble_eq_true rfl) ?_
 refine AW_of_awp (X := ⟨Try.prog, tab, [59], 12, 0, false⟩) tab_ok ?_
 have c1 := checkWishes_pure n W
 rw [show wiE n W = 2 from if_neg hW] at c1
 ((conv=>whnf);repeat (refine Wa ?_;(repeat (first|refine Wb ?_|refine Wc ?_|refine Wd ?_|refine We ?_|refine Wf ?_));(conv=>whnf)))
 refine APure.to (APure.arg1 subT c1) ?_
 ((conv=>whnf);repeat (refine Wa ?_;(repeat (first|refine Wb ?_|refine Wc ?_|refine Wd ?_|refine We ?_|refine Wf ?_));(conv=>whnf)))
 exact ⟨_, rfl, rfl, rfl⟩
open Classical in
set_option maxRecDepth 100000 in
theorem refAssign_pure (n : Nat) (W : Nat → List Int) : APure Try.prog 28 [tabV n W] (fun R => R = assV n W) := by
 refine APure_of (X := ⟨Try.prog, tab, [57], 23, 0, false⟩) tab_ok rfl (rs := [(.tmp 2, 22), (.tmp 3, 3), (.tmp 4, 29)]) Try.func28 (by decide) rfl rfl rfl (by simp) (nofr1 nofrT) ?_
 intro hlen
 have c1 := refRent_pure n W
 by_cases hW : Wis n W
 ·rw [show reV n W = tup2 (.int (sumL (W 0) n)) (.bool true) from if_pos hW] at c1
  rw [show assV n W = tup3 (.ints true (asB n W)) (.int (wrS W (asB n W) n)) (.int 0) from if_pos hW]
  ((conv=>whnf);repeat (refine Wa ?_;(repeat (first|refine Wb ?_|refine Wc ?_|refine Wd ?_|refine We ?_|refine Wf ?_));(conv=>whnf)))
  refine APure.to (APure.arg1 subT c1) ?_
  ((conv=>whnf);repeat (refine Wa ?_;(repeat (first|refine Wb ?_|refine Wc ?_|refine Wd ?_|refine We ?_|refine Wf ?_));(conv=>whnf)))
  refine AImm.to (refassign_top hW) ?_
  ((conv=>whnf);repeat (refine Wa ?_;(repeat (first|refine Wb ?_|refine Wc ?_|refine Wd ?_|refine We ?_|refine Wf ?_));(conv=>whnf)))
  exact ⟨rfl, trivial, trivial, rfl⟩
 ·rw [show reV n W = tup2 (.int 0) (.bool false) from if_neg hW] at c1
  rw [show assV n W = tup3 (.ints true []) (.int 0) (.int 2) from if_neg hW]
  ((conv=>whnf);repeat (refine Wa ?_;(repeat (first|refine Wb ?_|refine Wc ?_|refine Wd ?_|refine We ?_|refine Wf ?_));(conv=>whnf)))
  refine APure.to (APure.arg1 subT c1) ?_
  ((conv=>whnf);repeat (refine Wa ?_;(repeat (first|refine Wb ?_|refine Wc ?_|refine Wd ?_|refine We ?_|refine Wf ?_));(conv=>whnf)))
  exact ⟨rfl, trivial, trivial, rfl⟩
theorem refDearer_pure {n : Nat} {W : Nat → List Int} (hW : Wis n W) : APure Try.prog 29 [tabV n W] (fun R => R = tup2 (drW true n W) (.int 0)) := by
 refine APure_of (X := cx 15) (cx_ok 15) rfl (rs := [(.tmp 2, 41), (.tmp 3, 29)]) Try.func29 (by decide) rfl rfl rfl (by simp [cx]) (nofr1 nofrT) ?_
 intro hlen
 have c1 := refRent_pure n W
 rw [show reV n W = tup2 (.int (sumL (W 0) n)) (.bool true) from if_pos hW] at c1
 ((conv=>whnf);repeat (refine Wa ?_;(repeat (first|refine Wb ?_|refine Wc ?_|refine Wd ?_|refine We ?_|refine Wf ?_));(conv=>whnf)))
 refine APure.to (APure.arg1 subT c1) ?_
 ((conv=>whnf);repeat (refine Wa ?_;(repeat (first|refine Wb ?_|refine Wc ?_|refine Wd ?_|refine We ?_|refine Wf ?_));(conv=>whnf)))
 refine APure.to (APure.arg1 subT (refdearer_pure hW)) ?_
 ((conv=>whnf);repeat (refine Wa ?_;(repeat (first|refine Wb ?_|refine Wc ?_|refine Wd ?_|refine We ?_|refine Wf ?_));(conv=>whnf)))
 exact ⟨⟨rfl, fun _ _ _ _ => rfl⟩, trivial, rfl⟩
theorem refDearer_bad {n : Nat} {W : Nat → List Int} (hW : ¬ Wis n W) : APure Try.prog 29 [tabV n W] (fun R => R = tup2 (.emp true) (.int 2)) := by
 refine APure_of (X := cx 15) (cx_ok 15) rfl (rs := [(.tmp 2, 41), (.tmp 3, 29)]) Try.func29 (by decide) rfl rfl rfl (by simp [cx]) (nofr1 nofrT) ?_
 intro hlen
 have c1 := refRent_pure n W
 rw [show reV n W = tup2 (.int 0) (.bool false) from if_neg hW] at c1
 ((conv=>whnf);repeat (refine Wa ?_;(repeat (first|refine Wb ?_|refine Wc ?_|refine Wd ?_|refine We ?_|refine Wf ?_));(conv=>whnf)))
 refine APure.to (APure.arg1 subT c1) ?_
 ((conv=>whnf);repeat (refine Wa ?_;(repeat (first|refine Wb ?_|refine Wc ?_|refine Wd ?_|refine We ?_|refine Wf ?_));(conv=>whnf)))
 exact ⟨trivial, trivial, rfl⟩
end Go.Tri
