/-
 LAW: ShareRents.
-/
import Derived.Test.YtghkpmeonoadlaaB37
import Derived.Test.YtghkpmeonoadlaaB38
import Derived.Test.YtghkpmeonoadlaaE1
namespace Go.Tri
open Go.Proofs

theorem liV_is (n : Nat) (W : Nat → List Int) (k : Int) : ∃ x1 x2 y1 y2 e : Int, liV n W k = tup3 (pairV x1 x2) (pairV y1 y2) (.int e) := by
 unfold liV
 split
 ·exact ⟨_, _, _, _, _, rfl⟩
 ·exact ⟨_, _, _, _, _, rfl⟩
theorem rtV_is (n : Nat) (W : Nat → List Int) (k : Int) : (∃ (l : List Int) (d : Int), rtV n W k = tup2 (parV true l d) (.int 0)) ∨ ∃ e : Int, rtV n W k = tup2 (.agg 2 fun k => [V.emp true, V.int 0].getD k .any) (.int e) := by
 unfold rtV
 split
 ·exact .inl ⟨_, _, rfl⟩
 ·exact .inr ⟨_, rfl⟩
open Classical in
set_option maxRecDepth 100000 in
theorem ShareRents_pure (n : Nat) (W : Nat → List Int) (k : Int) : APure Try.prog 6 [tabV n W, .int k] (fun R => R = .bool true) := by
 refine APure_of (X := cx 68) (cx_ok 68) rfl (rs := [(.tmp 4, 4)]) Try.func6 (by decide) rfl rfl rfl (by simp [cx]) (nofr2 nofrT (show NoFr (.int k) from trivial)) ?_
 intro hlen
 have fin := alive_pure
 have c0 := small_pure n W
 have c1 := Rents_pure n W k
 have c2 := refRents_pure n W k (fun hW => refdearer_pure hW)
 have c3 := Limits_pure n W k
 have c4 := refLimits_pure n W k (fun hW => refdearer_pure hW)
 obtain ⟨x1, x2, y1, y2, f, hs⟩ := liV_is n W k
 rw [hs] at c3 c4
 by_cases hS : Sml n W
 ·rw [decide_eq_true hS] at c0
  rcases rtV_is n W k with ⟨l, d, hr⟩ | ⟨e, hr⟩
  ·rw [hr] at c1 c2
   have c5 := Q8.parts_pure l d
   ((conv=>whnf);repeat (refine Wa ?_;(repeat (first|refine Wb ?_|refine Wc ?_|refine Wd ?_|refine We ?_|refine Wf ?_));(conv=>whnf)))
   refine APure.to (APure.arg1 subT c0) ?_
   ((conv=>whnf);repeat (refine Wa ?_;(repeat (first|refine Wb ?_|refine Wc ?_|refine Wd ?_|refine We ?_|refine Wf ?_));(conv=>whnf)))
   refine APure.to (APure.arg2 subT (Sub.refl _) c1) ?_
   ((conv=>whnf);repeat (refine Wa ?_;(repeat (first|refine Wb ?_|refine Wc ?_|refine Wd ?_|refine We ?_|refine Wf ?_));(conv=>whnf)))
   refine APure.to (APure.arg2 subT (Sub.refl _) c2) ?_
   ((conv=>whnf);repeat (refine Wa ?_;(repeat (first|refine Wb ?_|refine Wc ?_|refine Wd ?_|refine We ?_|refine Wf ?_));(conv=>whnf)))
   refine APure.to (APure.arg2 (Q8.sub2 rfl rfl) (Q8.sub2 rfl rfl) c5) ?_
   ((conv=>whnf);repeat (refine Wa ?_;(repeat (first|refine Wb ?_|refine Wc ?_|refine Wd ?_|refine We ?_|refine Wf ?_));(conv=>whnf)))
   refine APure.to (APure.arg2 subT (Sub.refl _) c3) ?_
   ((conv=>whnf);repeat (refine Wa ?_;(repeat (first|refine Wb ?_|refine Wc ?_|refine Wd ?_|refine We ?_|refine Wf ?_));(conv=>whnf)))
   refine APure.to (APure.arg2 subT (Sub.refl _) c4) ?_
   ((conv=>whnf);repeat (refine Wa ?_;(repeat (first|refine Wb ?_|refine Wc ?_|refine Wd ?_|refine We ?_|refine Wf ?_));(conv=>whnf)))
   rw [show (x1 == x1 && (x2 == x2 && true)) = true by simp]
   ((conv=>whnf);repeat (refine Wa ?_;(repeat (first|refine Wb ?_|refine Wc ?_|refine Wd ?_|refine We ?_|refine Wf ?_));(conv=>whnf)))
   rw [show (y1 == y1 && (y2 == y2 && true)) = true by simp]
   ((conv=>whnf);repeat (refine Wa ?_;(repeat (first|refine Wb ?_|refine Wc ?_|refine Wd ?_|refine We ?_|refine Wf ?_));(conv=>whnf)))
   rw [show (f == f) = true by simp]
   ((conv=>whnf);repeat (refine Wa ?_;(repeat (first|refine Wb ?_|refine Wc ?_|refine Wd ?_|refine We ?_|refine Wf ?_));(conv=>whnf)))
   refine APure.to fin ?_
   ((conv=>whnf);repeat (refine Wa ?_;(repeat (first|refine Wb ?_|refine Wc ?_|refine Wd ?_|refine We ?_|refine Wf ?_));(conv=>whnf)))
   exact ⟨trivial, rfl⟩
  ·rw [hr] at c1 c2
   have c5 := Q8.parts_pure [] 0
   ((conv=>whnf);repeat (refine Wa ?_;(repeat (first|refine Wb ?_|refine Wc ?_|refine Wd ?_|refine We ?_|refine Wf ?_));(conv=>whnf)))
   refine APure.to (APure.arg1 subT c0) ?_
   ((conv=>whnf);repeat (refine Wa ?_;(repeat (first|refine Wb ?_|refine Wc ?_|refine Wd ?_|refine We ?_|refine Wf ?_));(conv=>whnf)))
   refine APure.to (APure.arg2 subT (Sub.refl _) c1) ?_
   ((conv=>whnf);repeat (refine Wa ?_;(repeat (first|refine Wb ?_|refine Wc ?_|refine Wd ?_|refine We ?_|refine Wf ?_));(conv=>whnf)))
   refine APure.to (APure.arg2 subT (Sub.refl _) c2) ?_
   ((conv=>whnf);repeat (refine Wa ?_;(repeat (first|refine Wb ?_|refine Wc ?_|refine Wd ?_|refine We ?_|refine Wf ?_));(conv=>whnf)))
   refine APure.to (APure.arg2 (Q8.subEm rfl rfl) (Q8.subEm rfl rfl) c5) ?_
   ((conv=>whnf);repeat (refine Wa ?_;(repeat (first|refine Wb ?_|refine Wc ?_|refine Wd ?_|refine We ?_|refine Wf ?_));(conv=>whnf)))
   rw [show (e != e) = false by simp]
   ((conv=>whnf);repeat (refine Wa ?_;(repeat (first|refine Wb ?_|refine Wc ?_|refine Wd ?_|refine We ?_|refine Wf ?_));(conv=>whnf)))
   refine APure.to (APure.arg2 subT (Sub.refl _) c3) ?_
   ((conv=>whnf);repeat (refine Wa ?_;(repeat (first|refine Wb ?_|refine Wc ?_|refine Wd ?_|refine We ?_|refine Wf ?_));(conv=>whnf)))
   refine APure.to (APure.arg2 subT (Sub.refl _) c4) ?_
   ((conv=>whnf);repeat (refine Wa ?_;(repeat (first|refine Wb ?_|refine Wc ?_|refine Wd ?_|refine We ?_|refine Wf ?_));(conv=>whnf)))
   rw [show (x1 == x1 && (x2 == x2 && true)) = true by simp]
   ((conv=>whnf);repeat (refine Wa ?_;(repeat (first|refine Wb ?_|refine Wc ?_|refine Wd ?_|refine We ?_|refine Wf ?_));(conv=>whnf)))
   rw [show (y1 == y1 && (y2 == y2 && true)) = true by simp]
   ((conv=>whnf);repeat (refine Wa ?_;(repeat (first|refine Wb ?_|refine Wc ?_|refine Wd ?_|refine We ?_|refine Wf ?_));(conv=>whnf)))
   rw [show (f == f) = true by simp]
   ((conv=>whnf);repeat (refine Wa ?_;(repeat (first|refine Wb ?_|refine Wc ?_|refine Wd ?_|refine We ?_|refine Wf ?_));(conv=>whnf)))
   refine APure.to fin ?_
   ((conv=>whnf);repeat (refine Wa ?_;(repeat (first|refine Wb ?_|refine Wc ?_|refine Wd ?_|refine We ?_|refine Wf ?_));(conv=>whnf)))
   exact ⟨trivial, rfl⟩
 ·rw [decide_eq_false hS] at c0
  ((conv=>whnf);repeat (refine Wa ?_;(repeat (first|refine Wb ?_|refine Wc ?_|refine Wd ?_|refine We ?_|refine Wf ?_));(conv=>whnf)))
  refine APure.to (APure.arg1 subT c0) ?_
  ((conv=>whnf);repeat (refine Wa ?_;(repeat (first|refine Wb ?_|refine Wc ?_|refine Wd ?_|refine We ?_|refine Wf ?_));(conv=>whnf)))
  refine APure.to fin ?_
  ((conv=>whnf);repeat (refine Wa ?_;(repeat (first|refine Wb ?_|refine Wc ?_|refine Wd ?_|refine We ?_|refine Wf ?_));(conv=>whnf)))
  exact ⟨trivial, rfl⟩
end Go.Tri
