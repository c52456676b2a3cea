/-
 LAW: ShareEnvies.
-/
import Derived.Test.YtpolaegggclhcaaGreatB47
import Derived.Test.YtpolaegggclhcaaGreatE1
namespace Go.Tri
open Go.Proofs

open Classical in
set_option maxRecDepth 100000 in
theorem ShareEnvies_pure (n : Nat) (W : Nat → List Int) (r z : List Int) (d : Int) : APure Tryz.prog 3 [tabV n W, .ints false r, parV false z d] (fun R => R = .bool true) := by
 refine APure_of (X := cx 63) (cx_ok 63) rfl (rs := [(.tmp 6, 4)]) Tryz.func3 (by decide) rfl rfl rfl (by simp [cx]) (nofr3 nofrT (show NoFr (.ints false r) from rfl) nofrPa) ?_
 intro hlen
 have fin := alive_pure
 have c0 := small_pure n W
 have cf := few_pure r z []
 have c1 := Envy_pure n W r z d
 have c2 := refEnvy_pure n W r z d
 by_cases hS : ¬ Sml n W
 ·rw [decide_eq_false hS] at c0
  ((conv=>whnf);repeat (refine Wa ?_;(repeat (first|refine Wb ?_|refine Wc ?_|refine Wd ?_|refine We ?_|refine Wf ?_));(conv=>whnf)))
  refine APure.to (APure.arg1 subT c0) ?_
  ((conv=>whnf);repeat (refine Wa ?_;(repeat (first|refine Wb ?_|refine Wc ?_|refine Wd ?_|refine We ?_|refine Wf ?_));(conv=>whnf)))
  refine APure.to fin ?_
  ((conv=>whnf);repeat (refine Wa ?_;(repeat (first|refine Wb ?_|refine Wc ?_|refine Wd ?_|refine We ?_|refine Wf ?_));(conv=>whnf)))
  exact ⟨trivial, rfl⟩
 rw [decide_eq_true (Classical.not_not.1 hS)] at c0
 by_cases hfew : ¬ (r.length ≤ 30 ∧ z.length ≤ 30 ∧ ([] : List Int).length ≤ 30)
 ·rw [decide_eq_false hfew] at cf
  ((conv=>whnf);repeat (refine Wa ?_;(repeat (first|refine Wb ?_|refine Wc ?_|refine Wd ?_|refine We ?_|refine Wf ?_));(conv=>whnf)))
  refine APure.to (APure.arg1 subT c0) ?_
  ((conv=>whnf);repeat (refine Wa ?_;(repeat (first|refine Wb ?_|refine Wc ?_|refine Wd ?_|refine We ?_|refine Wf ?_));(conv=>whnf)))
  refine APure.to (APure.arg3 (Sub.refl _) (Sub.refl _) (Sub.refl _) cf) ?_
  ((conv=>whnf);repeat (refine Wa ?_;(repeat (first|refine Wb ?_|refine Wc ?_|refine Wd ?_|refine We ?_|refine Wf ?_));(conv=>whnf)))
  refine APure.to fin ?_
  ((conv=>whnf);repeat (refine Wa ?_;(repeat (first|refine Wb ?_|refine Wc ?_|refine Wd ?_|refine We ?_|refine Wf ?_));(conv=>whnf)))
  exact ⟨trivial, rfl⟩
 rw [decide_eq_true (Classical.not_not.1 hfew)] at cf
 obtain ⟨L, f, hL, hv⟩ : ∃ (L : List (Nat × Nat)) (f : Int), L.length ≤ 1000000 ∧ (enV n W r z d = tup2 (prsV true L) (.int f) ∨ (L = [] ∧ enV n W r z d = tup2 (.emp true) (.int f))) := by
  by_cases hE : evOk n W r z d
  ·refine ⟨envT n W r z d n, 0, ?_, .inl (if_pos hE)⟩
   have l1 := envT_len (n := n) (W := W) (r := r) (z := z) (d := d) n
   have l3 := Nat.mul_le_mul hE.1.2.1 hE.1.2.1
   omega
  ·exact ⟨[], 2, by decide, .inr ⟨rfl, if_neg hE⟩⟩
 rcases hv with hv | ⟨rfl, hv⟩
 ·rw [hv] at c1 c2
  ((conv=>whnf);repeat (refine Wa ?_;(repeat (first|refine Wb ?_|refine Wc ?_|refine Wd ?_|refine We ?_|refine Wf ?_));(conv=>whnf)))
  refine APure.to (APure.arg1 subT c0) ?_
  ((conv=>whnf);repeat (refine Wa ?_;(repeat (first|refine Wb ?_|refine Wc ?_|refine Wd ?_|refine We ?_|refine Wf ?_));(conv=>whnf)))
  refine APure.to (APure.arg3 (Sub.refl _) (Sub.refl _) (Sub.refl _) cf) ?_
  ((conv=>whnf);repeat (refine Wa ?_;(repeat (first|refine Wb ?_|refine Wc ?_|refine Wd ?_|refine We ?_|refine Wf ?_));(conv=>whnf)))
  refine APure.to (APure.arg3 subT (Sub.refl _) (sub2 rfl rfl) c1) ?_
  ((conv=>whnf);repeat (refine Wa ?_;(repeat (first|refine Wb ?_|refine Wc ?_|refine Wd ?_|refine We ?_|refine Wf ?_));(conv=>whnf)))
  refine APure.to (APure.arg3 subT (Sub.refl _) (sub2 rfl rfl) c2) ?_
  ((conv=>whnf);repeat (refine Wa ?_;(repeat (first|refine Wb ?_|refine Wc ?_|refine Wd ?_|refine We ?_|refine Wf ?_));(conv=>whnf)))
  refine br_ne (fun h => absurd rfl h) (fun _ => ?_)
  ((conv=>whnf);repeat (refine Wa ?_;(repeat (first|refine Wb ?_|refine Wc ?_|refine Wd ?_|refine We ?_|refine Wf ?_));(conv=>whnf)))
  refine br_ne (fun h => absurd rfl h) (fun _ => ?_)
  ((conv=>whnf);repeat (refine Wa ?_;(repeat (first|refine Wb ?_|refine Wc ?_|refine Wd ?_|refine We ?_|refine Wf ?_));(conv=>whnf)))
  refine AW_loop (X := cx 63) (cx_ok 63) [7, 9, 11] (fun vs M => ∃ (k : Nat) (o : Option Ob), k ≤ L.length ∧ vs = [prsV true L, prsV true L, .int k] ∧ M = [o]) (fun vs _ => (L.length - (vs.getD 2 .any).toInt).toNat) ?_ ?_
  ·exact ⟨0, _, Nat.zero_le _, rfl, rfl⟩
  rintro vs M ⟨k, o, hk, rfl, rfl⟩
  ((conv=>whnf);repeat (refine Wa ?_;(repeat (first|refine Wb ?_|refine Wc ?_|refine Wd ?_|refine We ?_|refine Wf ?_));(conv=>whnf)))
  refine br_dec (fun hlt => ?_) (fun hge => ?_)
  ·have hk' : k < L.length := by omega
   ((conv=>whnf);repeat (refine Wa ?_;(repeat (first|refine Wb ?_|refine Wc ?_|refine Wd ?_|refine We ?_|refine Wf ?_));(conv=>whnf)))
   refine AW_draw (X := cx 63) (cx_ok 63) mixed (by kernel_rfl) ?_
   ((conv=>whnf);repeat (refine Wa ?_;(repeat (first|refine Wb ?_|refine Wc ?_|refine Wd ?_|refine We ?_|refine Wf ?_));(conv=>whnf)))
   refine ⟨(show (0 : Int) ≤ (k : Int) by omega), ?_⟩
   refine ⟨(show (k : Int) < (L.length : Int) by omega), ?_⟩
   ((conv=>whnf);repeat (refine Wa ?_;(repeat (first|refine Wb ?_|refine Wc ?_|refine Wd ?_|refine We ?_|refine Wf ?_));(conv=>whnf)))
   refine ⟨(show (0 : Int) ≤ (k : Int) by omega), ?_⟩
   refine ⟨(show (k : Int) < (L.length : Int) by omega), ?_⟩
   ((conv=>whnf);repeat (refine Wa ?_;(repeat (first|refine Wb ?_|refine Wc ?_|refine Wd ?_|refine We ?_|refine Wf ?_));(conv=>whnf)))
   refine br_mk (fun h => ?_) (fun _ => ?_)
   ·exfalso
    have h : (!(((L.getD k (0, 0)).1 : Int) == ((L.getD k (0, 0)).1 : Int) && (((L.getD k (0, 0)).2 : Int) == ((L.getD k (0, 0)).2 : Int) && true))) = true := h
    simp at h
   ·((conv=>whnf);repeat (refine Wa ?_;(repeat (first|refine Wb ?_|refine Wc ?_|refine Wd ?_|refine We ?_|refine Wf ?_));(conv=>whnf)))
    refine ⟨inr (by omega), ?_⟩
    ((conv=>whnf);repeat (refine Wa ?_;(repeat (first|refine Wb ?_|refine Wc ?_|refine Wd ?_|refine We ?_|refine Wf ?_));(conv=>whnf)))
    refine ⟨⟨k + 1, o, hk', rfl, rfl⟩, ?_⟩
    simp [V.toInt, sel, Env.get]; omega
  ·((conv=>whnf);repeat (refine Wa ?_;(repeat (first|refine Wb ?_|refine Wc ?_|refine Wd ?_|refine We ?_|refine Wf ?_));(conv=>whnf)))
   refine APure.to fin ?_
   ((conv=>whnf);repeat (refine Wa ?_;(repeat (first|refine Wb ?_|refine Wc ?_|refine Wd ?_|refine We ?_|refine Wf ?_));(conv=>whnf)))
   exact ⟨trivial, rfl⟩
 ·rw [hv] at c1 c2
  ((conv=>whnf);repeat (refine Wa ?_;(repeat (first|refine Wb ?_|refine Wc ?_|refine Wd ?_|refine We ?_|refine Wf ?_));(conv=>whnf)))
  refine APure.to (APure.arg1 subT c0) ?_
  ((conv=>whnf);repeat (refine Wa ?_;(repeat (first|refine Wb ?_|refine Wc ?_|refine Wd ?_|refine We ?_|refine Wf ?_));(conv=>whnf)))
  refine APure.to (APure.arg3 (Sub.refl _) (Sub.refl _) (Sub.refl _) cf) ?_
  ((conv=>whnf);repeat (refine Wa ?_;(repeat (first|refine Wb ?_|refine Wc ?_|refine Wd ?_|refine We ?_|refine Wf ?_));(conv=>whnf)))
  refine APure.to (APure.arg3 subT (Sub.refl _) (sub2 rfl rfl) c1) ?_
  ((conv=>whnf);repeat (refine Wa ?_;(repeat (first|refine Wb ?_|refine Wc ?_|refine Wd ?_|refine We ?_|refine Wf ?_));(conv=>whnf)))
  refine APure.to (APure.arg3 subT (Sub.refl _) (sub2 rfl rfl) c2) ?_
  ((conv=>whnf);repeat (refine Wa ?_;(repeat (first|refine Wb ?_|refine Wc ?_|refine Wd ?_|refine We ?_|refine Wf ?_));(conv=>whnf)))
  refine br_ne (fun h => absurd rfl h) (fun _ => ?_)
  ((conv=>whnf);repeat (refine Wa ?_;(repeat (first|refine Wb ?_|refine Wc ?_|refine Wd ?_|refine We ?_|refine Wf ?_));(conv=>whnf)))
  refine AW_loop (X := cx 63) (cx_ok 63) [7, 9, 11] (fun vs M => ∃ o : Option Ob, vs = [.emp true, .emp true, .int 0] ∧ M = [o]) (fun _ _ => 0) ?_ ?_
  ·exact ⟨_, rfl, rfl⟩
  rintro vs M ⟨o, rfl, rfl⟩
  ((conv=>whnf);repeat (refine Wa ?_;(repeat (first|refine Wb ?_|refine Wc ?_|refine Wd ?_|refine We ?_|refine Wf ?_));(conv=>whnf)))
  refine APure.to fin ?_
  ((conv=>whnf);repeat (refine Wa ?_;(repeat (first|refine Wb ?_|refine Wc ?_|refine Wd ?_|refine We ?_|refine Wf ?_));(conv=>whnf)))
  exact ⟨trivial, rfl⟩
end Go.Tri
