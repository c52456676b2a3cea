/-
 LAW: FetchIs.
-/
import Derived.Test.YtafibngpgllcfaaB23
import Derived.Test.YtafibngpgllcfaaB24
import Derived.Test.YtafibngpgllcfaaB21
import Derived.Test.YtafibngpgllcfaaE1
namespace Go.Tri
open Go.Proofs

theorem nofr4L {n : Int} {m : Nat} {A B : Nat → Int} {a b : List Int} : ∀ x ∈ [V.int n, stV false m A B, V.ints false a, V.ints false b], NoFr x := by intro x hx; simp at hx; rcases hx with rfl | rfl | rfl | rfl; exact nofrInt; exact nofrS; rfl; rfl
set_option maxRecDepth 100000 in
theorem FetchIs_gen {n : Int} {m : Nat} {A B : Nat → Int} (a b : List Int) {p q : Bool} {e f : Int}
  (c1 : APure Try.prog 28 [.int n, stV false m A B, .ints false a] (fun R => R = tup2 (.bool p) (.int e))) (c2 : APure Try.prog 29 [.int n, stV false m A B, .ints false a] (fun R => R = tup2 (.bool p) (.int e)))
  (c3 : APure Try.prog 30 [.int n, stV false m A B, .ints false b] (fun R => R = tup2 (.bool q) (.int f))) (c4 : APure Try.prog 31 [.int n, stV false m A B, .ints false b] (fun R => R = tup2 (.bool q) (.int f))) :
  APure Try.prog 5 [.int n, stV false m A B, .ints false a, .ints false b] (fun R => R = .bool true) := by
 refine APure_of (X := cx 70) (cx_ok 70) rfl (rs := [(.tmp 8, 4)]) Try.func5 (by decide) rfl rfl rfl (by simp [cx]) (nofr4L) ?_
 intro hlen
 have fin := alive_pure
 have c0 := few_pure m A B a
 ((conv=>whnf);repeat (refine Wa ?_;(repeat (first|refine Wb ?_|refine Wc ?_|refine Wd ?_|refine We ?_|refine Wf ?_));(conv=>whnf)))
 refine APure.to (APure.arg2 subS (Sub.refl _) c0) ?_
 ((conv=>whnf);repeat (refine Wa ?_;(repeat (first|refine Wb ?_|refine Wc ?_|refine Wd ?_|refine We ?_|refine Wf ?_));(conv=>whnf)))
 refine br_not ?_
 refine br_mk (fun _ => ?_) (fun _ => ?_)
 ·((conv=>whnf);repeat (refine Wa ?_;(repeat (first|refine Wb ?_|refine Wc ?_|refine Wd ?_|refine We ?_|refine Wf ?_));(conv=>whnf)))
  refine br_dec (fun _ => ?_) (fun _ => ?_)
  ·((conv=>whnf);repeat (refine Wa ?_;(repeat (first|refine Wb ?_|refine Wc ?_|refine Wd ?_|refine We ?_|refine Wf ?_));(conv=>whnf)))
   refine APure.to fin ?_
   ((conv=>whnf);repeat (refine Wa ?_;(repeat (first|refine Wb ?_|refine Wc ?_|refine Wd ?_|refine We ?_|refine Wf ?_));(conv=>whnf)))
   exact ⟨trivial, rfl⟩
  ·((conv=>whnf);repeat (refine Wa ?_;(repeat (first|refine Wb ?_|refine Wc ?_|refine Wd ?_|refine We ?_|refine Wf ?_));(conv=>whnf)))
   refine APure.to (APure.arg3 (Sub.refl _) subS (Sub.refl _) c1) ?_
   ((conv=>whnf);repeat (refine Wa ?_;(repeat (first|refine Wb ?_|refine Wc ?_|refine Wd ?_|refine We ?_|refine Wf ?_));(conv=>whnf)))
   refine APure.to (APure.arg3 (Sub.refl _) subS (Sub.refl _) c2) ?_
   ((conv=>whnf);repeat (refine Wa ?_;(repeat (first|refine Wb ?_|refine Wc ?_|refine Wd ?_|refine We ?_|refine Wf ?_));(conv=>whnf)))
   rw [show (p == p) = true by simp]
   ((conv=>whnf);repeat (refine Wa ?_;(repeat (first|refine Wb ?_|refine Wc ?_|refine Wd ?_|refine We ?_|refine Wf ?_));(conv=>whnf)))
   refine br_ne (fun h => absurd rfl h) (fun _ => ?_)
   ((conv=>whnf);repeat (refine Wa ?_;(repeat (first|refine Wb ?_|refine Wc ?_|refine Wd ?_|refine We ?_|refine Wf ?_));(conv=>whnf)))
   refine APure.to (APure.arg3 (Sub.refl _) subS (Sub.refl _) c3) ?_
   ((conv=>whnf);repeat (refine Wa ?_;(repeat (first|refine Wb ?_|refine Wc ?_|refine Wd ?_|refine We ?_|refine Wf ?_));(conv=>whnf)))
   refine APure.to (APure.arg3 (Sub.refl _) subS (Sub.refl _) c4) ?_
   ((conv=>whnf);repeat (refine Wa ?_;(repeat (first|refine Wb ?_|refine Wc ?_|refine Wd ?_|refine We ?_|refine Wf ?_));(conv=>whnf)))
   rw [show (q == q) = true by simp]
   ((conv=>whnf);repeat (refine Wa ?_;(repeat (first|refine Wb ?_|refine Wc ?_|refine Wd ?_|refine We ?_|refine Wf ?_));(conv=>whnf)))
   refine br_eq (fun _ => ?_) (fun h => absurd rfl h)
   ((conv=>whnf);repeat (refine Wa ?_;(repeat (first|refine Wb ?_|refine Wc ?_|refine Wd ?_|refine We ?_|refine Wf ?_));(conv=>whnf)))
   refine APure.to fin ?_
   ((conv=>whnf);repeat (refine Wa ?_;(repeat (first|refine Wb ?_|refine Wc ?_|refine Wd ?_|refine We ?_|refine Wf ?_));(conv=>whnf)))
   exact ⟨trivial, rfl⟩
 ·((conv=>whnf);repeat (refine Wa ?_;(repeat (first|refine Wb ?_|refine Wc ?_|refine Wd ?_|refine We ?_|refine Wf ?_));(conv=>whnf)))
  refine APure.to fin ?_
  ((conv=>whnf);repeat (refine Wa ?_;(repeat (first|refine Wb ?_|refine Wc ?_|refine Wd ?_|refine We ?_|refine Wf ?_));(conv=>whnf)))
  exact ⟨trivial, rfl⟩
theorem FetchIs_pure (n : Int) (m : Nat) (A B : Nat → Int) (a b : List Int) : APure Try.prog 5 [.int n, stV false m A B, .ints false a, .ints false b] (fun R => R = .bool true) := by
 by_cases hE : ckE n m A B = 0
 ·obtain ⟨hn, hQ, _, _⟩ := ckE_zero hE
  rw [hn]
  exact APure.arg4 (Sub.refl _) (subClean hE) (Sub.refl _) (Sub.refl _) (FetchIs_gen a b (IsMend_pure hQ a) (rIsMend_pure hQ a) (AreApart_pure hQ b) (rAreApart_pure hQ b))
 ·exact FetchIs_gen a b (IsMend_bad a hE) (rIsMend_bad a hE) (AreApart_bad b hE) (rAreApart_bad b hE)
end Go.Tri
