/-
 LAW: FetchCuts.
-/
import Derived.Test.YtafibngpgllcfaaB20
import Derived.Test.YtafibngpgllcfaaB21
import Derived.Test.YtafibngpgllcfaaE1
namespace Go.Tri
open Go.Proofs

theorem subSV {M : Mem} {d m : Nat} (A B : Nat → Int) {g : Nat → Nat → V} (h : ∀ j k, g j k = byvalN M (d + 1) (raS A B (0 + j) k)) : Sub (.seq false 2 m g) (stV false m A B) := sub_seq fun j k hj hk => Sub.of (by
 rw [h j k, Nat.zero_add]
 unfold raS
 split <;> rfl)
set_option maxRecDepth 100000 in
set_option maxHeartbeats 1600000 in
theorem FetchCuts_gen {n : Int} {m : Nat} {A B : Nat → Int} (z : Int) (hm : m ≤ 40) {L X : List Int} {e f x y g : Int}
  (c1 : APure Try.prog 17 [.int n, stV false m A B] (fun R => R = tup2 (.ints true L) (.int e))) (c2 : APure Try.prog 18 [.int n, stV false m A B] (fun R => R = tup2 (.ints true L) (.int e)))
  (c3 : APure Try.prog 20 [.int n, stV false m A B, .int z] (fun R => R = tup2 (.ints true X) (.int f))) (c4 : APure Try.prog 21 [.int n, stV false m A B, .int z] (fun R => R = tup2 (.ints true X) (.int f)))
  (c5 : APure Try.prog 22 [.int n, stV false m A B] (fun R => R = tup3 (.int x) (.int y) (.int g))) (c6 : APure Try.prog 23 [.int n, stV false m A B] (fun R => R = tup3 (.int x) (.int y) (.int g))) :
  APure Try.prog 3 [.int n, stV false m A B, .int z] (fun R => R = .bool true) := by
 refine APure_of (X := cx 113) (cx_ok 113) rfl (rs := [(.tmp 6, 4)]) Try.func3 (by decide) rfl rfl rfl (by simp [cx]) (nofrN3) ?_
 intro hlen
 have fin := alive_pure
 have c0 := few_pure m A B []
 rw [decide_eq_true (show m ≤ 40 ∧ ([] : List Int).length ≤ 60 by simp; omega)] at c0
 have s1 := same_self L
 have s2 := same_self X
 ((conv=>whnf);repeat (refine Wa ?_;(repeat (first|refine Wb ?_|refine Wc ?_|refine Wd ?_|refine We ?_|refine Wf ?_));(conv=>whnf)))
 refine APure.to (APure.arg2 subS (Sub.refl _) c0) ?_
 ((conv=>whnf);repeat (refine Wa ?_;(repeat (first|refine Wb ?_|refine Wc ?_|refine Wd ?_|refine We ?_|refine Wf ?_));(conv=>whnf)))
 refine ⟨(show (16 : Int) * (m : Int) ≤ 140737488355328 by omega), ?_⟩
 ((conv=>whnf);repeat (refine Wa ?_;(repeat (first|refine Wb ?_|refine Wc ?_|refine Wd ?_|refine We ?_|refine Wf ?_));(conv=>whnf)))
 refine APure.to (APure.arg2 (Sub.refl _) (subSV A B fun _ _ => rfl) c1) ?_
 ((conv=>whnf);repeat (refine Wa ?_;(repeat (first|refine Wb ?_|refine Wc ?_|refine Wd ?_|refine We ?_|refine Wf ?_));(conv=>whnf)))
 refine APure.to (APure.arg2 (Sub.refl _) subS c2) ?_
 ((conv=>whnf);repeat (refine Wa ?_;(repeat (first|refine Wb ?_|refine Wc ?_|refine Wd ?_|refine We ?_|refine Wf ?_));(conv=>whnf)))
 refine APure.to s1 ?_
 ((conv=>whnf);repeat (refine Wa ?_;(repeat (first|refine Wb ?_|refine Wc ?_|refine Wd ?_|refine We ?_|refine Wf ?_));(conv=>whnf)))
 refine br_ne (fun h => absurd rfl h) (fun _ => ?_)
 ((conv=>whnf);repeat (refine Wa ?_;(repeat (first|refine Wb ?_|refine Wc ?_|refine Wd ?_|refine We ?_|refine Wf ?_));(conv=>whnf)))
 refine APure.to (APure.arg3 (Sub.refl _) (subSV A B fun _ _ => rfl) (Sub.refl _) c3) ?_
 ((conv=>whnf);repeat (refine Wa ?_;(repeat (first|refine Wb ?_|refine Wc ?_|refine Wd ?_|refine We ?_|refine Wf ?_));(conv=>whnf)))
 refine APure.to (APure.arg3 (Sub.refl _) subS (Sub.refl _) c4) ?_
 ((conv=>whnf);repeat (refine Wa ?_;(repeat (first|refine Wb ?_|refine Wc ?_|refine Wd ?_|refine We ?_|refine Wf ?_));(conv=>whnf)))
 refine APure.to s2 ?_
 ((conv=>whnf);repeat (refine Wa ?_;(repeat (first|refine Wb ?_|refine Wc ?_|refine Wd ?_|refine We ?_|refine Wf ?_));(conv=>whnf)))
 refine br_ne (fun h => absurd rfl h) (fun _ => ?_)
 ((conv=>whnf);repeat (refine Wa ?_;(repeat (first|refine Wb ?_|refine Wc ?_|refine Wd ?_|refine We ?_|refine Wf ?_));(conv=>whnf)))
 refine APure.to (APure.arg2 (Sub.refl _) (subSV A B fun _ _ => rfl) c5) ?_
 ((conv=>whnf);repeat (refine Wa ?_;(repeat (first|refine Wb ?_|refine Wc ?_|refine Wd ?_|refine We ?_|refine Wf ?_));(conv=>whnf)))
 refine APure.to (APure.arg2 (Sub.refl _) subS c6) ?_
 ((conv=>whnf);repeat (refine Wa ?_;(repeat (first|refine Wb ?_|refine Wc ?_|refine Wd ?_|refine We ?_|refine Wf ?_));(conv=>whnf)))
 refine AW_loop (X := cx 113) (cx_ok 113) [1, 7, 9, 11, 12, 13, 14, 15, 16] (fun vs M => ∃ k : Nat, k ≤ m ∧ vs = [stV false m A B, .sl 0 0 0 m, .int g, .int g, .int x, .int y, .int x, .int y, .int k] ∧ M = [some ⟨34, 2, 0, .cv m (raS A B)⟩]) (fun vs _ => m - (vs.getD 8 .any).toInt.toNat) ?_ ?_
 ·exact ⟨0, Nat.zero_le _, rfl, rfl⟩
 rintro vs M ⟨k, hk, rfl, rfl⟩
 ((conv=>whnf);repeat (refine Wa ?_;(repeat (first|refine Wb ?_|refine Wc ?_|refine Wd ?_|refine We ?_|refine Wf ?_));(conv=>whnf)))
 refine br_dec (fun hlt => ?_) (fun hge => ?_)
 ·have hk' : k < m := by omega
  ((conv=>whnf);repeat (refine Wa ?_;(repeat (first|refine Wb ?_|refine Wc ?_|refine Wd ?_|refine We ?_|refine Wf ?_));(conv=>whnf)))
  refine AW_draw (X := cx 113) (cx_ok 113) mixed (by kernel_rfl) ?_
  ((conv=>whnf);repeat (refine Wa ?_;(repeat (first|refine Wb ?_|refine Wc ?_|refine Wd ?_|refine We ?_|refine Wf ?_));(conv=>whnf)))
  repeat ((first | refine ⟨by omega, ?_⟩ | refine ⟨inr (by omega), ?_⟩ | refine eqn_self ?_ | refine ⟨ms (by omega), ?_⟩ | refine ⟨ms (by simp only [Src.n]; omega), ?_⟩ | refine ⟨msk (by omega), ?_⟩ | refine ⟨ms1, ?_⟩); ((conv=>whnf);repeat (refine Wa ?_;(repeat (first|refine Wb ?_|refine Wc ?_|refine Wd ?_|refine We ?_|refine Wf ?_));(conv=>whnf))))
  rw [Int.toNat_natCast]
  rw [show (A (0 + k) == A k && (B (0 + k) == B k && true)) = true by rw [Nat.zero_add]; simp]
  ((conv=>whnf);repeat (refine Wa ?_;(repeat (first|refine Wb ?_|refine Wc ?_|refine Wd ?_|refine We ?_|refine Wf ?_));(conv=>whnf)))
  refine ⟨inr (by omega), ?_⟩
  ((conv=>whnf);repeat (refine Wa ?_;(repeat (first|refine Wb ?_|refine Wc ?_|refine Wd ?_|refine We ?_|refine Wf ?_));(conv=>whnf)))
  exact ⟨⟨k + 1, hk', rfl, rfl⟩, by simp [V.toInt, sel, Env.get]; omega⟩
 ·obtain rfl : k = m := by omega
  ((conv=>whnf);repeat (refine Wa ?_;(repeat (first|refine Wb ?_|refine Wc ?_|refine Wd ?_|refine We ?_|refine Wf ?_));(conv=>whnf)))
  refine br_eq (fun _ => ?_) (fun h => absurd rfl h)
  ((conv=>whnf);repeat (refine Wa ?_;(repeat (first|refine Wb ?_|refine Wc ?_|refine Wd ?_|refine We ?_|refine Wf ?_));(conv=>whnf)))
  refine br_eq (fun _ => ?_) (fun h => absurd rfl h)
  ((conv=>whnf);repeat (refine Wa ?_;(repeat (first|refine Wb ?_|refine Wc ?_|refine Wd ?_|refine We ?_|refine Wf ?_));(conv=>whnf)))
  refine br_eq (fun _ => ?_) (fun h => absurd rfl h)
  ((conv=>whnf);repeat (refine Wa ?_;(repeat (first|refine Wb ?_|refine Wc ?_|refine Wd ?_|refine We ?_|refine Wf ?_));(conv=>whnf)))
  refine APure.to fin ?_
  ((conv=>whnf);repeat (refine Wa ?_;(repeat (first|refine Wb ?_|refine Wc ?_|refine Wd ?_|refine We ?_|refine Wf ?_));(conv=>whnf)))
  exact ⟨trivial, rfl⟩
theorem smV_tup (m : Nat) (A B : Nat → Nat) (L : List Int) : ∃ x y g : Int, smV m A B L = tup3 (.int x) (.int y) (.int g) := by
 unfold smV
 split
 ·exact ⟨_, _, _, rfl⟩
 ·exact ⟨_, _, _, rfl⟩
theorem cross_tup (n m : Nat) (A B : Nat → Nat) (z : Int) : ∃ (X : List Int) (f : Int), (if cutZ n m A B z = true then tup2 (.ints true (mbL (lvS A B z.toNat m) 14)) (.int 0) else tup2 (.ints true []) (.int 2)) = tup2 (.ints true X) (.int f) := by
 split
 ·exact ⟨_, _, rfl⟩
 ·exact ⟨_, _, rfl⟩
set_option maxRecDepth 100000 in
theorem FetchCuts_pure (n : Int) (m : Nat) (A B : Nat → Int) (z : Int) : APure Try.prog 3 [.int n, stV false m A B, .int z] (fun R => R = .bool true) := by
 by_cases hm : m ≤ 40
 ·by_cases hE : ckE n m A B = 0
  ·obtain ⟨hn, hQ, _, _⟩ := ckE_zero hE
   obtain ⟨x, y, g, h1⟩ := smV_tup m (clN m A) (clN m B) (cutL n.toNat m (clN m A) (clN m B) (fullN n.toNat))
   obtain ⟨X, f, h2⟩ := cross_tup n.toNat m (clN m A) (clN m B) z
   have c3 := Crossing_pure hQ z
   have c4 := rCrossing_pure hQ z
   have c5 := Smallest_pure hQ
   have c6 := rSmallest_pure hQ
   rw [h1] at c5 c6
   rw [h2] at c3 c4
   rw [hn]
   exact APure.arg3 (Sub.refl _) (subClean hE) (Sub.refl _) (FetchCuts_gen z hm (Cuts_pure hQ) (rCuts_pure hQ) c3 c4 c5 c6)
  ·exact FetchCuts_gen z hm (Cuts_bad hE) (rCuts_bad hE) (Crossing_bad z hE) (rCrossing_bad z hE) (Smallest_bad hE) (rSmallest_bad hE)
 ·refine APure_of (X := cx 113) (cx_ok 113) rfl (rs := [(.tmp 6, 4)]) Try.func3 (by decide) rfl rfl rfl (by simp [cx]) (nofrN3) ?_
  intro hlen
  have fin := alive_pure
  have c0 := few_pure m A B []
  rw [decide_eq_false (fun h => hm h.1)] at c0
  ((conv=>whnf);repeat (refine Wa ?_;(repeat (first|refine Wb ?_|refine Wc ?_|refine Wd ?_|refine We ?_|refine Wf ?_));(conv=>whnf)))
  refine APure.to (APure.arg2 subS (Sub.refl _) c0) ?_
  ((conv=>whnf);repeat (refine Wa ?_;(repeat (first|refine Wb ?_|refine Wc ?_|refine Wd ?_|refine We ?_|refine Wf ?_));(conv=>whnf)))
  refine APure.to fin ?_
  ((conv=>whnf);repeat (refine Wa ?_;(repeat (first|refine Wb ?_|refine Wc ?_|refine Wd ?_|refine We ?_|refine Wf ?_));(conv=>whnf)))
  exact ⟨trivial, rfl⟩
end Go.Tri
