/-
 LAW: FetchMends.
-/
import Derived.Test.YtafibngpgllcfaaB29
import Derived.Test.YtafibngpgllcfaaB31
import Derived.Test.YtafibngpgllcfaaB21
import Derived.Test.YtafibngpgllcfaaE1
namespace Go.Tri
open Go.Proofs

set_option maxRecDepth 100000 in
theorem FetchMends_gen {n : Int} {m : Nat} {A B : Nat → Int} {D : List Int} {e k f : Int}
  (c1 : APure Try.prog 24 [.int n, stV false m A B] (fun R => R = tup2 (.ints true D) (.int e))) (c2 : APure Try.prog 25 [.int n, stV false m A B] (fun R => R = tup2 (.ints true D) (.int e)))
  (c3 : APure Try.prog 26 [.int n, stV false m A B] (fun R => R = tup2 (.int k) (.int f))) (c4 : APure Try.prog 27 [.int n, stV false m A B] (fun R => R = tup2 (.int k) (.int f))) :
  APure Try.prog 4 [.int n, stV false m A B] (fun R => R = .bool true) := by
 refine APure_of (X := cx 69) (cx_ok 69) rfl (rs := [(.tmp 4, 4)]) Try.func4 (by decide) rfl rfl rfl (by simp [cx]) (nofrN2) ?_
 intro hlen
 have fin := alive_pure
 have c0 := few_pure m A B []
 have s1 := same_self D
 ((conv=>whnf);repeat (refine Wa ?_;(repeat (first|refine Wb ?_|refine Wc ?_|refine Wd ?_|refine We ?_|refine Wf ?_));(conv=>whnf)))
 refine APure.to (APure.arg2 subS (Sub.refl _) c0) ?_
 ((conv=>whnf);repeat (refine Wa ?_;(repeat (first|refine Wb ?_|refine Wc ?_|refine Wd ?_|refine We ?_|refine Wf ?_));(conv=>whnf)))
 refine br_not ?_
 refine br_mk (fun _ => ?_) (fun _ => ?_)
 ·((conv=>whnf);repeat (refine Wa ?_;(repeat (first|refine Wb ?_|refine Wc ?_|refine Wd ?_|refine We ?_|refine Wf ?_));(conv=>whnf)))
  refine br_dec (fun _ => ?_) (fun _ => ?_)
  ·((conv=>whnf);repeat (refine Wa ?_;(repeat (first|refine Wb ?_|refine Wc ?_|refine Wd ?_|refine We ?_|refine Wf ?_));(conv=>whnf)))
   refine br_dec (fun _ => ?_) (fun _ => ?_)
   ·((conv=>whnf);repeat (refine Wa ?_;(repeat (first|refine Wb ?_|refine Wc ?_|refine Wd ?_|refine We ?_|refine Wf ?_));(conv=>whnf)))
    refine APure.to fin ?_
    ((conv=>whnf);repeat (refine Wa ?_;(repeat (first|refine Wb ?_|refine Wc ?_|refine Wd ?_|refine We ?_|refine Wf ?_));(conv=>whnf)))
    exact ⟨trivial, rfl⟩
   ·((conv=>whnf);repeat (refine Wa ?_;(repeat (first|refine Wb ?_|refine Wc ?_|refine Wd ?_|refine We ?_|refine Wf ?_));(conv=>whnf)))
    refine APure.to (APure.arg2 (Sub.refl _) subS c1) ?_
    ((conv=>whnf);repeat (refine Wa ?_;(repeat (first|refine Wb ?_|refine Wc ?_|refine Wd ?_|refine We ?_|refine Wf ?_));(conv=>whnf)))
    refine APure.to (APure.arg2 (Sub.refl _) subS c2) ?_
    ((conv=>whnf);repeat (refine Wa ?_;(repeat (first|refine Wb ?_|refine Wc ?_|refine Wd ?_|refine We ?_|refine Wf ?_));(conv=>whnf)))
    refine APure.to s1 ?_
    ((conv=>whnf);repeat (refine Wa ?_;(repeat (first|refine Wb ?_|refine Wc ?_|refine Wd ?_|refine We ?_|refine Wf ?_));(conv=>whnf)))
    refine br_ne (fun h => absurd rfl h) (fun _ => ?_)
    ((conv=>whnf);repeat (refine Wa ?_;(repeat (first|refine Wb ?_|refine Wc ?_|refine Wd ?_|refine We ?_|refine Wf ?_));(conv=>whnf)))
    refine APure.to (APure.arg2 (Sub.refl _) subS c3) ?_
    ((conv=>whnf);repeat (refine Wa ?_;(repeat (first|refine Wb ?_|refine Wc ?_|refine Wd ?_|refine We ?_|refine Wf ?_));(conv=>whnf)))
    refine APure.to (APure.arg2 (Sub.refl _) subS c4) ?_
    ((conv=>whnf);repeat (refine Wa ?_;(repeat (first|refine Wb ?_|refine Wc ?_|refine Wd ?_|refine We ?_|refine Wf ?_));(conv=>whnf)))
    refine br_eq (fun _ => ?_) (fun h => absurd rfl h)
    ((conv=>whnf);repeat (refine Wa ?_;(repeat (first|refine Wb ?_|refine Wc ?_|refine Wd ?_|refine We ?_|refine Wf ?_));(conv=>whnf)))
    refine br_eq (fun _ => ?_) (fun h => absurd rfl h)
    ((conv=>whnf);repeat (refine Wa ?_;(repeat (first|refine Wb ?_|refine Wc ?_|refine Wd ?_|refine We ?_|refine Wf ?_));(conv=>whnf)))
    refine APure.to fin ?_
    ((conv=>whnf);repeat (refine Wa ?_;(repeat (first|refine Wb ?_|refine Wc ?_|refine Wd ?_|refine We ?_|refine Wf ?_));(conv=>whnf)))
    exact ⟨trivial, rfl⟩
  ·((conv=>whnf);repeat (refine Wa ?_;(repeat (first|refine Wb ?_|refine Wc ?_|refine Wd ?_|refine We ?_|refine Wf ?_));(conv=>whnf)))
   refine APure.to (APure.arg2 (Sub.refl _) subS c1) ?_
   ((conv=>whnf);repeat (refine Wa ?_;(repeat (first|refine Wb ?_|refine Wc ?_|refine Wd ?_|refine We ?_|refine Wf ?_));(conv=>whnf)))
   refine APure.to (APure.arg2 (Sub.refl _) subS c2) ?_
   ((conv=>whnf);repeat (refine Wa ?_;(repeat (first|refine Wb ?_|refine Wc ?_|refine Wd ?_|refine We ?_|refine Wf ?_));(conv=>whnf)))
   refine APure.to s1 ?_
   ((conv=>whnf);repeat (refine Wa ?_;(repeat (first|refine Wb ?_|refine Wc ?_|refine Wd ?_|refine We ?_|refine Wf ?_));(conv=>whnf)))
   refine br_ne (fun h => absurd rfl h) (fun _ => ?_)
   ((conv=>whnf);repeat (refine Wa ?_;(repeat (first|refine Wb ?_|refine Wc ?_|refine Wd ?_|refine We ?_|refine Wf ?_));(conv=>whnf)))
   refine APure.to (APure.arg2 (Sub.refl _) subS c3) ?_
   ((conv=>whnf);repeat (refine Wa ?_;(repeat (first|refine Wb ?_|refine Wc ?_|refine Wd ?_|refine We ?_|refine Wf ?_));(conv=>whnf)))
   refine APure.to (APure.arg2 (Sub.refl _) subS c4) ?_
   ((conv=>whnf);repeat (refine Wa ?_;(repeat (first|refine Wb ?_|refine Wc ?_|refine Wd ?_|refine We ?_|refine Wf ?_));(conv=>whnf)))
   refine br_eq (fun _ => ?_) (fun h => absurd rfl h)
   ((conv=>whnf);repeat (refine Wa ?_;(repeat (first|refine Wb ?_|refine Wc ?_|refine Wd ?_|refine We ?_|refine Wf ?_));(conv=>whnf)))
   refine br_eq (fun _ => ?_) (fun h => absurd rfl h)
   ((conv=>whnf);repeat (refine Wa ?_;(repeat (first|refine Wb ?_|refine Wc ?_|refine Wd ?_|refine We ?_|refine Wf ?_));(conv=>whnf)))
   refine APure.to fin ?_
   ((conv=>whnf);repeat (refine Wa ?_;(repeat (first|refine Wb ?_|refine Wc ?_|refine Wd ?_|refine We ?_|refine Wf ?_));(conv=>whnf)))
   exact ⟨trivial, rfl⟩
 ·((conv=>whnf);repeat (refine Wa ?_;(repeat (first|refine Wb ?_|refine Wc ?_|refine Wd ?_|refine We ?_|refine Wf ?_));(conv=>whnf)))
  refine APure.to fin ?_
  ((conv=>whnf);repeat (refine Wa ?_;(repeat (first|refine Wb ?_|refine Wc ?_|refine Wd ?_|refine We ?_|refine Wf ?_));(conv=>whnf)))
  exact ⟨trivial, rfl⟩
theorem FetchMends_pure (n : Int) (m : Nat) (A B : Nat → Int) : APure Try.prog 4 [.int n, stV false m A B] (fun R => R = .bool true) := by
 by_cases hE : ckE n m A B = 0
 ·obtain ⟨hn, hQ, _, _⟩ := ckE_zero hE
  rw [hn]
  exact APure.arg2 (Sub.refl _) (subClean hE) (FetchMends_gen (Mend_pure hQ) (rMend_pure hQ) (Mends_pure hQ) (rMends_pure hQ))
 ·exact FetchMends_gen (Mend_bad hE) (rMend_bad hE) (Mends_bad hE) (rMends_bad hE)
end Go.Tri
