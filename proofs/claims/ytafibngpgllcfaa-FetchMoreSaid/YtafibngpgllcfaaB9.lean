/-
 CONTRACTS: the limits of a quarter.
-/
import Derived.Test.YtafibngpgllcfaaB7
namespace Go.Tri
open Go.Proofs

theorem nofrI {a : Int} : NoFr (.int a) := trivial
/-- The error of a broken limit. -/
def brk (l : Nat) : Int := match l with | 0 => 2 | 1 => 3 | 2 => 2 | _ => 9
set_option maxRecDepth 100000 in
theorem broken_pure (l : Nat) (hl : l < 4) : APure Try.prog 69 [.int l] (fun R => R = .int (brk l)) := by
 refine APure_of (X := cx 8) (cx_ok 8) rfl (rs := [(.tmp 2, 26)]) Try.func69 (by decide) rfl rfl rfl (by simp [cx]) (by simp [NoFr]) ?_
 intro hlen
 rcases (by omega : l = 0 ∨ l = 1 ∨ l = 2 ∨ l = 3) with rfl | rfl | rfl | rfl
 ·((conv=>whnf);repeat (refine Wa ?_;(repeat (first|refine Wb ?_|refine Wc ?_|refine Wd ?_|refine We ?_|refine Wf ?_));(conv=>whnf)))
  exact ⟨trivial, rfl⟩
 ·((conv=>whnf);repeat (refine Wa ?_;(repeat (first|refine Wb ?_|refine Wc ?_|refine Wd ?_|refine We ?_|refine Wf ?_));(conv=>whnf)))
  exact ⟨trivial, rfl⟩
 ·((conv=>whnf);repeat (refine Wa ?_;(repeat (first|refine Wb ?_|refine Wc ?_|refine Wd ?_|refine We ?_|refine Wf ?_));(conv=>whnf)))
  exact ⟨trivial, rfl⟩
 ·((conv=>whnf);repeat (refine Wa ?_;(repeat (first|refine Wb ?_|refine Wc ?_|refine Wd ?_|refine We ?_|refine Wf ?_));(conv=>whnf)))
  exact ⟨trivial, rfl⟩
@[reducible] def quI (n : Int) (m : Nat) (A B : Nat → Int) : V := .agg 2 fun k => [V.int n, stV false m A B].getD k .any
theorem nofrQI {n : Int} {m : Nat} {A B : Nat → Int} : NoFr (quI n m A B) := fun k => by
 match k with
 | 0 => trivial
 | 1 => exact nofrS
 | _ + 2 => trivial
set_option maxRecDepth 100000 in
theorem keeps0 (n : Int) (m : Nat) (A B : Nat → Int) : APure Try.prog 68 [quI n m A B, .int (0 : Nat)] (fun R => R = .bool (decide (2 ≤ n ∧ n ≤ 7))) := by
 refine APure_of (X := cx 31) (cx_ok 31) rfl (rs := [(.tmp 4, 4)]) Try.func68 (by decide) rfl rfl rfl (by simp [cx]) (nofr2 nofrQI nofrI) ?_
 intro hlen
 ((conv=>whnf);repeat (refine Wa ?_;(repeat (first|refine Wb ?_|refine Wc ?_|refine Wd ?_|refine We ?_|refine Wf ?_));(conv=>whnf)))
 refine br_dec (fun h1 => ?_) (fun h1 => ?_)
 ·have h1 : n ≥ 2 := h1
  ((conv=>whnf);repeat (refine Wa ?_;(repeat (first|refine Wb ?_|refine Wc ?_|refine Wd ?_|refine We ?_|refine Wf ?_));(conv=>whnf)))
  exact ⟨trivial, Qb (decide_eq_decide.2 ⟨fun h => ⟨h1, h⟩, fun h => h.2⟩)⟩
 ·have h1 : ¬ n ≥ 2 := h1
  ((conv=>whnf);repeat (refine Wa ?_;(repeat (first|refine Wb ?_|refine Wc ?_|refine Wd ?_|refine We ?_|refine Wf ?_));(conv=>whnf)))
  exact ⟨trivial, Qb (decide_eq_false (fun h => h1 h.1)).symm⟩
set_option maxRecDepth 100000 in
theorem keeps1 (n : Int) (m : Nat) (A B : Nat → Int) : APure Try.prog 68 [quI n m A B, .int (1 : Nat)] (fun R => R = .bool (decide ((m : Int) ≤ 14))) := by
 refine APure_of (X := cx 31) (cx_ok 31) rfl (rs := [(.tmp 4, 4)]) Try.func68 (by decide) rfl rfl rfl (by simp [cx]) (nofr2 nofrQI nofrI) ?_
 intro hlen
 ((conv=>whnf);repeat (refine Wa ?_;(repeat (first|refine Wb ?_|refine Wc ?_|refine Wd ?_|refine We ?_|refine Wf ?_));(conv=>whnf)))
 exact ⟨trivial, rfl⟩
set_option maxRecDepth 100000 in
theorem keeps2 (n : Int) (m : Nat) (A B : Nat → Int) : APure Try.prog 68 [quI n m A B, .int (2 : Nat)] (fun R => R = .bool (joinB n m A B)) := by
 refine APure_of (X := cx 31) (cx_ok 31) rfl (rs := [(.tmp 4, 4)]) Try.func68 (by decide) rfl rfl rfl (by simp [cx]) (nofr2 nofrQI nofrI) ?_
 intro hlen
 ((conv=>whnf);repeat (refine Wa ?_;(repeat (first|refine Wb ?_|refine Wc ?_|refine Wd ?_|refine We ?_|refine Wf ?_));(conv=>whnf)))
 refine APure.to (APure.arg2 (Sub.refl _) subS (Join_pure n m A B)) ?_
 ((conv=>whnf);repeat (refine Wa ?_;(repeat (first|refine Wb ?_|refine Wc ?_|refine Wd ?_|refine We ?_|refine Wf ?_));(conv=>whnf)))
 exact ⟨trivial, rfl⟩
set_option maxRecDepth 100000 in
theorem keeps3 (n : Int) (m : Nat) (A B : Nat → Int) (b : Bool) (h : APure Try.prog 85 [quI n m A B] (fun R => R = .bool b)) : APure Try.prog 68 [quI n m A B, .int (3 : Nat)] (fun R => R = .bool b) := by
 refine APure_of (X := cx 31) (cx_ok 31) rfl (rs := [(.tmp 4, 4)]) Try.func68 (by decide) rfl rfl rfl (by simp [cx]) (nofr2 nofrQI nofrI) ?_
 intro hlen
 ((conv=>whnf);repeat (refine Wa ?_;(repeat (first|refine Wb ?_|refine Wc ?_|refine Wd ?_|refine We ?_|refine Wf ?_));(conv=>whnf)))
 refine APure.to (APure.arg1 (sub_agg fun i hi => by
  have hi : i < 2 := hi
  rcases (by omega : i = 0 ∨ i = 1) with rfl | rfl
  ·exact Sub.refl _
  ·exact subS) h) ?_
 ((conv=>whnf);repeat (refine Wa ?_;(repeat (first|refine Wb ?_|refine Wc ?_|refine Wd ?_|refine We ?_|refine Wf ?_));(conv=>whnf)))
 exact ⟨trivial, rfl⟩
end Go.Tri
