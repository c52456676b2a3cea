/-
 CONTRACTS: slices.Grow of nil, slices.Concat of two lists of streets.
-/
import Derived.Test.YtafibngpgllcfaaB5
namespace Go.Tri
open Go.Proofs

theorem eqn_self {x : Nat} {K : Prop} (h : K) : (eqnO x x).req K := (Obl.req_iff _ _).2 ⟨eqnO_holds.2 rfl, h⟩
def wrG : List FuncId := [112]
set_option maxRecDepth 100000 in
theorem Grow_cm (n : Nat) (hn : 1 ≤ n ∧ n ≤ 200) : ACM Try.prog 112 [.emp true, .int n] [] (fun R M' => R = .sl 0 0 0 0 ∧ ∃ F, M' = [some ⟨34, 2, 0, .cv n F⟩]) := by
 refine ACM_of (T := tab) (wr := wrG) tab_ok Try.func112 (by decide) rfl (Nat.le_of_ble_eq_true rfl) (fun nb => ?_)
 ((conv=>whnf);repeat (refine Wa ?_;(repeat (first|refine Wb ?_|refine Wc ?_|refine Wd ?_|refine We ?_|refine Wf ?_));(conv=>whnf)))
 refine ⟨inr (by omega), ?_⟩
 ((conv=>whnf);repeat (refine Wa ?_;(repeat (first|refine Wb ?_|refine Wc ?_|refine Wd ?_|refine We ?_|refine Wf ?_));(conv=>whnf)))
 refine ⟨inr (by omega), ?_⟩
 rw [show (n : Int) - (0 - 0) = n by omega]
 ((conv=>whnf);repeat (refine Wa ?_;(repeat (first|refine Wb ?_|refine Wc ?_|refine Wd ?_|refine We ?_|refine Wf ?_));(conv=>whnf)))
 refine br_dec (fun _ => ?_) (fun h => absurd (show (n : Int) > 0 by omega) h)
 ((conv=>whnf);repeat (refine Wa ?_;(repeat (first|refine Wb ?_|refine Wc ?_|refine Wd ?_|refine We ?_|refine Wf ?_));(conv=>whnf)))
 refine ⟨by decide, ?_⟩
 refine ⟨by decide, ?_⟩
 refine ⟨by decide, ?_⟩
 ((conv=>whnf);repeat (refine Wa ?_;(repeat (first|refine Wb ?_|refine Wc ?_|refine Wd ?_|refine We ?_|refine Wf ?_));(conv=>whnf)))
 refine ⟨(show (0 : Int) < (n : Int) by omega), ?_⟩
 refine ⟨(show (16 : Int) * (n : Int) ≤ 140737488355328 by omega), ?_⟩
 rw [Int.toNat_natCast]
 ((conv=>whnf);repeat (refine Wa ?_;(repeat (first|refine Wb ?_|refine Wc ?_|refine Wd ?_|refine We ?_|refine Wf ?_));(conv=>whnf)))
 refine ⟨(show (0 : Int) ≤ 0 by decide), ?_⟩
 refine ⟨(show (0 : Int) ≤ 0 by decide), ?_⟩
 refine ⟨(show (0 : Int) ≤ (n : Int) by omega), ?_⟩
 ((conv=>whnf);repeat (refine Wa ?_;(repeat (first|refine Wb ?_|refine Wc ?_|refine Wd ?_|refine We ?_|refine Wf ?_));(conv=>whnf)))
 exact ⟨_, rfl, rfl, _, rfl⟩

def catF (m1 m2 : Nat) (A1 B1 A2 B2 : Nat → Int) : Nat → Nat → V := fun j _ => match j with | 0 => stV false m1 A1 B1 | _ => stV false m2 A2 B2
@[reducible] def catV (m1 m2 : Nat) (A1 B1 A2 B2 : Nat → Int) : V := .seq false 1 2 (catF m1 m2 A1 B1 A2 B2)
theorem nofrCat {m1 m2 : Nat} {A1 B1 A2 B2 : Nat → Int} : NoFr (catV m1 m2 A1 B1 A2 B2) := ⟨rfl, fun j k => by unfold catF; split <;> exact nofrS⟩
def totC (m1 m2 : Nat) : Nat → Nat
 | 0 => 0
 | 1 => m1
 | _ => m1 + m2
theorem nofr1 {a : V} (h : NoFr a) : ∀ x ∈ [a], NoFr x := by intro x hx; simp at hx; rcases hx with rfl; assumption
/-- Both lists, one behind the other. -/
def apF (m1 : Nat) (A1 A2 : Nat → Int) : Nat → Int := fun j => if j < m1 then A1 j else A2 (j - m1)
set_option maxRecDepth 100000 in
theorem Concat_pure (m1 m2 : Nat) (A1 B1 A2 B2 : Nat → Int) (h : 1 ≤ m1 + m2 ∧ m1 + m2 ≤ 200) : APure Try.prog 98 [catV m1 m2 A1 B1 A2 B2] (fun R => R = stV true (m1 + m2) (apF m1 A1 A2) (apF m1 B1 B2)) := by
 refine APure_of (X := ⟨Try.prog, tab, wrG, 36, 0, false⟩) tab_ok rfl (rs := [(.tmp 2, 22)]) Try.func98 (by decide) rfl rfl rfl (by simp) (nofr1 nofrCat) ?_
 intro hlen
 ((conv=>whnf);repeat (refine Wa ?_;(repeat (first|refine Wb ?_|refine Wc ?_|refine Wd ?_|refine We ?_|refine Wf ?_));(conv=>whnf)))
 refine AW_loop (X := ⟨Try.prog, tab, wrG, 36, 0, false⟩) tab_ok [0, 3, 9, 10, 11] (fun vs M => ∃ k : Nat, k ≤ 2 ∧ vs = [catV m1 m2 A1 B1 A2 B2, .int (totC m1 m2 k), catV m1 m2 A1 B1 A2 B2, .int 2, .int k] ∧ M = [])
  (fun vs _ => 2 - (vs.getD 4 .any).toInt.toNat) ?_ ?_
 ·exact ⟨0, Nat.zero_le _, rfl, rfl⟩
 rintro vs M ⟨k, hk, rfl, rfl⟩
 rcases (by omega : k = 0 ∨ k = 1 ∨ k = 2) with rfl | rfl | rfl
 ·((conv=>whnf);repeat (refine Wa ?_;(repeat (first|refine Wb ?_|refine Wc ?_|refine Wd ?_|refine We ?_|refine Wf ?_));(conv=>whnf)))
  repeat ((first | refine ⟨by omega, ?_⟩); ((conv=>whnf);repeat (refine Wa ?_;(repeat (first|refine Wb ?_|refine Wc ?_|refine Wd ?_|refine We ?_|refine Wf ?_));(conv=>whnf))))
  refine ⟨inr (show -9223372036854775808 ≤ ((0 : Nat) : Int) + (m1 : Int) ∧ ((0 : Nat) : Int) + (m1 : Int) ≤ 9223372036854775807 by omega), ?_⟩
  ((conv=>whnf);repeat (refine Wa ?_;(repeat (first|refine Wb ?_|refine Wc ?_|refine Wd ?_|refine We ?_|refine Wf ?_));(conv=>whnf)))
  refine ⟨inr (by decide), ?_⟩
  ((conv=>whnf);repeat (refine Wa ?_;(repeat (first|refine Wb ?_|refine Wc ?_|refine Wd ?_|refine We ?_|refine Wf ?_));(conv=>whnf)))
  refine ⟨⟨1, by omega, ?_, rfl⟩, ?_⟩
  ·rw [show ((totC m1 m2 1 : Nat) : Int) = ((0 : Nat) : Int) + (m1 : Int) by simp [totC]]; rfl
  ·simp [V.toInt, sel, Env.get]
 ·((conv=>whnf);repeat (refine Wa ?_;(repeat (first|refine Wb ?_|refine Wc ?_|refine Wd ?_|refine We ?_|refine Wf ?_));(conv=>whnf)))
  repeat ((first | refine ⟨by omega, ?_⟩); ((conv=>whnf);repeat (refine Wa ?_;(repeat (first|refine Wb ?_|refine Wc ?_|refine Wd ?_|refine We ?_|refine Wf ?_));(conv=>whnf))))
  refine ⟨inr (show -9223372036854775808 ≤ (m1 : Int) + (m2 : Int) ∧ (m1 : Int) + (m2 : Int) ≤ 9223372036854775807 by omega), ?_⟩
  ((conv=>whnf);repeat (refine Wa ?_;(repeat (first|refine Wb ?_|refine Wc ?_|refine Wd ?_|refine We ?_|refine Wf ?_));(conv=>whnf)))
  refine ⟨inr (by decide), ?_⟩
  ((conv=>whnf);repeat (refine Wa ?_;(repeat (first|refine Wb ?_|refine Wc ?_|refine Wd ?_|refine We ?_|refine Wf ?_));(conv=>whnf)))
  refine ⟨⟨2, by omega, ?_, rfl⟩, ?_⟩
  ·rw [show ((totC m1 m2 2 : Nat) : Int) = (m1 : Int) + (m2 : Int) by simp [totC]]; rfl
  ·simp [V.toInt, sel, Env.get]
 ·have hg := Grow_cm (m1 + m2) h
  ((conv=>whnf);repeat (refine Wa ?_;(repeat (first|refine Wb ?_|refine Wc ?_|refine Wd ?_|refine We ?_|refine Wf ?_));(conv=>whnf)))
  refine hg.mono ?_
  rintro R M' ⟨rfl, F0, rfl⟩
  ((conv=>whnf);repeat (refine Wa ?_;(repeat (first|refine Wb ?_|refine Wc ?_|refine Wd ?_|refine We ?_|refine Wf ?_));(conv=>whnf)))
  refine AW_loop (X := ⟨Try.prog, tab, wrG, 36, 0, false⟩) tab_ok [6, 25, 26, 27] (fun vs M => ∃ (k ver n : Nat) (F : Nat → Nat → V), k ≤ 2 ∧ vs = [.sl 0 ver 0 (totC m1 m2 k), catV m1 m2 A1 B1 A2 B2, .int 2, .int k] ∧ M = [some ⟨34, 2, ver, .cv n F⟩] ∧ (k = 1 → F = raS A1 B1) ∧ (k = 2 → F = raS (apF m1 A1 A2) (apF m1 B1 B2)))
   (fun vs _ => 2 - (vs.getD 3 .any).toInt.toNat) ?_ ?_
  ·exact ⟨0, 0, _, _, Nat.zero_le _, rfl, rfl, fun h => absurd h (by omega), fun h => absurd h (by omega)⟩
  rintro vs M ⟨k, ver, n, F, hk, rfl, rfl, hF1, hF2⟩
  rcases (by omega : k = 0 ∨ k = 1 ∨ k = 2) with rfl | rfl | rfl
  ·((conv=>whnf);repeat (refine Wa ?_;(repeat (first|refine Wb ?_|refine Wc ?_|refine Wd ?_|refine We ?_|refine Wf ?_));(conv=>whnf)))
   repeat ((first | refine ⟨by omega, ?_⟩); ((conv=>whnf);repeat (refine Wa ?_;(repeat (first|refine Wb ?_|refine Wc ?_|refine Wd ?_|refine We ?_|refine Wf ?_));(conv=>whnf))))
   refine eqn_self ?_
   ((conv=>whnf);repeat (refine Wa ?_;(repeat (first|refine Wb ?_|refine Wc ?_|refine Wd ?_|refine We ?_|refine Wf ?_));(conv=>whnf)))
   refine ⟨(show (16 : Int) * (((0 : Nat) : Int) + (m1 : Int)) ≤ 140737488355328 by omega), ?_⟩
   ((conv=>whnf);repeat (refine Wa ?_;(repeat (first|refine Wb ?_|refine Wc ?_|refine Wd ?_|refine We ?_|refine Wf ?_));(conv=>whnf)))
   refine ⟨inr (by decide), ?_⟩
   ((conv=>whnf);repeat (refine Wa ?_;(repeat (first|refine Wb ?_|refine Wc ?_|refine Wd ?_|refine We ?_|refine Wf ?_));(conv=>whnf)))
   refine ⟨⟨1, ver + 1, _, _, by omega, ?_, rfl, fun _ => ?_, fun h => absurd h (by omega)⟩, ?_⟩
   ·rw [show totC m1 m2 1 = 0 + m1 by simp [totC]]; rfl
   ·funext j q
    refine (if_neg (show ¬ j < totC m1 m2 0 from Nat.not_lt_zero _)).trans ?_
    rfl
   ·simp [V.toInt, sel, Env.get]
  ·obtain rfl := hF1 rfl
   ((conv=>whnf);repeat (refine Wa ?_;(repeat (first|refine Wb ?_|refine Wc ?_|refine Wd ?_|refine We ?_|refine Wf ?_));(conv=>whnf)))
   repeat ((first | refine ⟨by omega, ?_⟩); ((conv=>whnf);repeat (refine Wa ?_;(repeat (first|refine Wb ?_|refine Wc ?_|refine Wd ?_|refine We ?_|refine Wf ?_));(conv=>whnf))))
   refine eqn_self ?_
   ((conv=>whnf);repeat (refine Wa ?_;(repeat (first|refine Wb ?_|refine Wc ?_|refine Wd ?_|refine We ?_|refine Wf ?_));(conv=>whnf)))
   refine ⟨(show (16 : Int) * ((m1 : Int) + (m2 : Int)) ≤ 140737488355328 by omega), ?_⟩
   ((conv=>whnf);repeat (refine Wa ?_;(repeat (first|refine Wb ?_|refine Wc ?_|refine Wd ?_|refine We ?_|refine Wf ?_));(conv=>whnf)))
   refine ⟨inr (by decide), ?_⟩
   ((conv=>whnf);repeat (refine Wa ?_;(repeat (first|refine Wb ?_|refine Wc ?_|refine Wd ?_|refine We ?_|refine Wf ?_));(conv=>whnf)))
   refine ⟨⟨2, ver + 1, _, _, by omega, rfl, rfl, fun h => absurd h (by omega), fun _ => ?_⟩, ?_⟩
   ·funext j q
    show (if j < m1 then raS A1 B1 j q else raS A2 B2 (j - m1) q) = _
    unfold raS apF
    by_cases hj : j < m1
    ·rw [if_pos hj, if_pos hj, if_pos hj]
    ·rw [if_neg hj, if_neg hj, if_neg hj]
   ·simp [V.toInt, sel, Env.get]
  ·obtain rfl := hF2 rfl
   ((conv=>whnf);repeat (refine Wa ?_;(repeat (first|refine Wb ?_|refine Wc ?_|refine Wd ?_|refine We ?_|refine Wf ?_));(conv=>whnf)))
   refine eqn_self ?_
   refine ⟨⟨rfl, fun j q _ _ => ?_⟩, congrArg (V.seq true 2 (m1 + m2)) (funext fun j => funext fun q => ?_)⟩
   ·show Fr (ownvalN _ _ (raS _ _ (0 + j) q))
    unfold raS
    split <;> exact trivial
   ·show ownvalN _ _ (raS _ _ (0 + j) q) = raS _ _ j q
    rw [show raS (apF m1 A1 A2) (apF m1 B1 B2) (0 + j) q = raS (apF m1 A1 A2) (apF m1 B1 B2) j q by rw [Nat.zero_add]]
    unfold raS
    split <;> rfl
end Go.Tri
