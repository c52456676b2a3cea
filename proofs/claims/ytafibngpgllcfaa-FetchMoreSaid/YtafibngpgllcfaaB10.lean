/-
 CONTRACTS: the error of a quarter.
-/
import Derived.Test.YtafibngpgllcfaaB9
namespace Go.Tri
open Go.Proofs

/-- Does a quarter keep limit number l? -/
def kpB (n : Int) (m : Nat) (A B : Nat → Int) (b : Bool) (l : Nat) : Bool := match l with | 0 => decide (2 ≤ n ∧ n ≤ 7) | 1 => decide ((m : Int) ≤ 14) | 2 => joinB n m A B | _ => b
def chF (n : Int) (m : Nat) (A B : Nat → Int) (b : Bool) : Nat → Nat → Int
 | _, 0 => 0
 | k, f + 1 => if kpB n m A B b k = true then chF n m A B b (k + 1) f else brk k
def chE (n : Int) (m : Nat) (A B : Nat → Int) (b : Bool) : Int := chF n m A B b 0 4
set_option maxRecDepth 100000 in
theorem check_pure (n : Int) (m : Nat) (A B : Nat → Int) (b : Bool) (h : kpB n m A B b 0 = true → kpB n m A B b 1 = true → kpB n m A B b 2 = true → APure Try.prog 85 [quI n m A B] (fun R => R = .bool b)) :
  APure Try.prog 43 [quI n m A B] (fun R => R = .int (chE n m A B b)) := by
 refine APure_of (X := cx 14) (cx_ok 14) rfl (rs := [(.tmp 2, 26)]) Try.func43 (by decide) rfl rfl rfl (by simp [cx]) ((by intro x hx; simp at hx; rcases hx with rfl; exact nofrQI)) ?_
 intro hlen
 ((conv=>whnf);repeat (refine Wa ?_;(repeat (first|refine Wb ?_|refine Wc ?_|refine Wd ?_|refine We ?_|refine Wf ?_));(conv=>whnf)))
 refine AW_loop (X := cx 14) (cx_ok 14) [1, 4] (fun vs M => ∃ k : Nat, k ≤ 4 ∧ chE n m A B b = chF n m A B b k (4 - k) ∧ (∀ j, j < k → kpB n m A B b j = true) ∧ vs = [.ptr 0 0 0 0, .int k] ∧ M = [some ⟨57, 2, 0, .one [.int n, stV false m A B]⟩])
  (fun vs _ => 4 - (vs.getD 1 .any).toInt.toNat) ?_ ?_
 ·exact ⟨0, Nat.zero_le _, rfl, fun j hj => absurd hj (Nat.not_lt_zero _), rfl, rfl⟩
 rintro vs M ⟨k, hk, hE, hj, rfl, rfl⟩
 ((conv=>whnf);repeat (refine Wa ?_;(repeat (first|refine Wb ?_|refine Wc ?_|refine Wd ?_|refine We ?_|refine Wf ?_));(conv=>whnf)))
 refine br_dec (fun hlt => ?_) (fun hge => ?_)
 ·have hlt : (k : Int) < 4 := hlt
  obtain ⟨q, hq⟩ : ∃ q, 4 - k = q + 1 := ⟨4 - k - 1, by omega⟩
  rw [hq] at hE
  simp only [chF] at hE
  have ck : APure Try.prog 68 [quI n m A B, .int k] (fun R => R = .bool (kpB n m A B b k)) := by
   rcases (by omega : k = 0 ∨ k = 1 ∨ k = 2 ∨ k = 3) with rfl | rfl | rfl | rfl
   ·exact keeps0 n m A B
   ·exact keeps1 n m A B
   ·exact keeps2 n m A B
   ·exact keeps3 n m A B b (h (hj 0 (by omega)) (hj 1 (by omega)) (hj 2 (by omega)))
  have cb := broken_pure k (by omega)
  ((conv=>whnf);repeat (refine Wa ?_;(repeat (first|refine Wb ?_|refine Wc ?_|refine Wd ?_|refine We ?_|refine Wf ?_));(conv=>whnf)))
  refine APure.to (APure.arg2 (sub_agg fun i hi => by
   have hi : i < 2 := hi
   rcases (by omega : i = 0 ∨ i = 1) with rfl | rfl
   ·exact Sub.refl _
   ·exact subS) (Sub.refl _) ck) ?_
  ((conv=>whnf);repeat (refine Wa ?_;(repeat (first|refine Wb ?_|refine Wc ?_|refine Wd ?_|refine We ?_|refine Wf ?_));(conv=>whnf)))
  refine br_mk (fun hb => ?_) (fun hb => ?_)
  ·rw [if_neg (by simpa using hb)] at hE
   ((conv=>whnf);repeat (refine Wa ?_;(repeat (first|refine Wb ?_|refine Wc ?_|refine Wd ?_|refine We ?_|refine Wf ?_));(conv=>whnf)))
   refine APure.to cb ?_
   ((conv=>whnf);repeat (refine Wa ?_;(repeat (first|refine Wb ?_|refine Wc ?_|refine Wd ?_|refine We ?_|refine Wf ?_));(conv=>whnf)))
   refine ⟨trivial, Qi hE.symm⟩
  ·rw [if_pos (by simpa using hb)] at hE
   ((conv=>whnf);repeat (refine Wa ?_;(repeat (first|refine Wb ?_|refine Wc ?_|refine Wd ?_|refine We ?_|refine Wf ?_));(conv=>whnf)))
   refine ⟨inr (by omega), ?_⟩
   ((conv=>whnf);repeat (refine Wa ?_;(repeat (first|refine Wb ?_|refine Wc ?_|refine Wd ?_|refine We ?_|refine Wf ?_));(conv=>whnf)))
   refine ⟨⟨k + 1, by omega, by rw [hE, show 4 - (k + 1) = q by omega], fun j h1 => ?_, rfl, rfl⟩, by simp [V.toInt, sel, Env.get]; omega⟩
   by_cases hjk : j = k
   ·rw [hjk]
    simpa using hb
   ·exact hj j (by omega)
 ·have hge : ¬ (k : Int) < 4 := hge
  obtain rfl : k = 4 := by omega
  ((conv=>whnf);repeat (refine Wa ?_;(repeat (first|refine Wb ?_|refine Wc ?_|refine Wd ?_|refine We ?_|refine Wf ?_));(conv=>whnf)))
  exact ⟨trivial, Qi hE.symm⟩
end Go.Tri
