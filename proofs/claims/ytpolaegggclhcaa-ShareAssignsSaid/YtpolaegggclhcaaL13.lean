/-
 LAW: ShareAssigns.
-/
import Derived.Test.YtpolaegggclhcaaB48
import Derived.Test.YtpolaegggclhcaaE1
namespace Go.Tri
open Go.Proofs

@[reducible] def memZ (n : Nat) (Z : Nat → List Int) : Mem := [some (oOb n 5), some (rOw (Z 0)), some (rOw (Z 1)), some (rOw (Z 2)), some (rOw (Z 3)), some (rOw (Z 4))]
@[reducible] noncomputable def xL13 : Cx := ⟨Try.prog, tab, [30], 90, 0, false⟩
theorem same_pure (a b : List Int) : APure Try.prog 20 [.ints false a, .ints false b] (fun R => R = .bool (decide (a = b))) := by
 refine APure_of (X := cx 26) (cx_ok 26) rfl (rs := [(.tmp 4, 4)]) Try.func20 (by decide) rfl rfl rfl (by simp [cx]) (by simp [NoFr]) ?_
 intro hlen
 have hla : (a.length : Int) ≤ 9223372036854775807 := hlen (.ints false a) (by simp)
 ((conv=>whnf);repeat (refine Wa ?_;(repeat (first|refine Wb ?_|refine Wc ?_|refine Wd ?_|refine We ?_|refine Wf ?_));(conv=>whnf)))
 refine br_ne (fun h => ?_) (fun h => ?_)
 ·((conv=>whnf);repeat (refine Wa ?_;(repeat (first|refine Wb ?_|refine Wc ?_|refine Wd ?_|refine We ?_|refine Wf ?_));(conv=>whnf)))
  refine ⟨trivial, Qb ?_⟩
  have : ¬ a = b := fun e => h (by rw [e])
  simp [this]
 ·((conv=>whnf);repeat (refine Wa ?_;(repeat (first|refine Wb ?_|refine Wc ?_|refine Wd ?_|refine We ?_|refine Wf ?_));(conv=>whnf)))
  have hab : a.length = b.length := by omega
  refine AW_loop (X := cx 26) (cx_ok 26) [0, 1, 5] (fun vs M => ∃ k : Nat, k ≤ a.length ∧ a.take k = b.take k ∧ vs = [.ints false a, .ints false b, .int k] ∧ M = []) (fun vs _ => a.length - (vs.getD 2 .any).toInt.toNat) ?_ ?_
  ·exact ⟨0, Nat.zero_le _, rfl, rfl, rfl⟩
  ·rintro vs M ⟨k, hk, hkab, rfl, rfl⟩
   ((conv=>whnf);repeat (refine Wa ?_;(repeat (first|refine Wb ?_|refine Wc ?_|refine Wd ?_|refine We ?_|refine Wf ?_));(conv=>whnf)))
   refine br_dec (fun hlt => ?_) (fun hge => ?_)
   ·have hk' : k < a.length := by omega
    ((conv=>whnf);repeat (refine Wa ?_;(repeat (first|refine Wb ?_|refine Wc ?_|refine Wd ?_|refine We ?_|refine Wf ?_));(conv=>whnf)))
    refine AW_draw (X := cx 26) (cx_ok 26) mixed (by kernel_rfl) ?_
    ((conv=>whnf);repeat (refine Wa ?_;(repeat (first|refine Wb ?_|refine Wc ?_|refine Wd ?_|refine We ?_|refine Wf ?_));(conv=>whnf)))
    repeat ((first | refine ⟨by omega, ?_⟩ | refine ⟨inr (by omega), ?_⟩ | refine eqn_self ?_ | refine ⟨ms (by omega), ?_⟩ | refine ⟨ms (by simp only [Src.n]; omega), ?_⟩ | refine ⟨msk (by omega), ?_⟩ | refine ⟨ms1, ?_⟩); ((conv=>whnf);repeat (refine Wa ?_;(repeat (first|refine Wb ?_|refine Wc ?_|refine Wd ?_|refine We ?_|refine Wf ?_));(conv=>whnf))))
    refine br_ne (fun h => ?_) (fun h => ?_)
    ·((conv=>whnf);repeat (refine Wa ?_;(repeat (first|refine Wb ?_|refine Wc ?_|refine Wd ?_|refine We ?_|refine Wf ?_));(conv=>whnf)))
     refine ⟨trivial, Qb ?_⟩
     have : ¬ a = b := fun e => h (by rw [e])
     simp [this]
    ·((conv=>whnf);repeat (refine Wa ?_;(repeat (first|refine Wb ?_|refine Wc ?_|refine Wd ?_|refine We ?_|refine Wf ?_));(conv=>whnf)))
     repeat ((first | refine ⟨by omega, ?_⟩ | refine ⟨inr (by omega), ?_⟩ | refine eqn_self ?_ | refine ⟨ms (by omega), ?_⟩ | refine ⟨ms (by simp only [Src.n]; omega), ?_⟩ | refine ⟨msk (by omega), ?_⟩ | refine ⟨ms1, ?_⟩); ((conv=>whnf);repeat (refine Wa ?_;(repeat (first|refine Wb ?_|refine Wc ?_|refine Wd ?_|refine We ?_|refine Wf ?_));(conv=>whnf))))
     refine ⟨⟨k + 1, by omega, ?_, rfl, rfl⟩, ?_⟩
     ·rw [take_succ_getD _ _ hk', take_succ_getD _ _ (by omega), hkab]
      simp only [Int.toNat_natCast] at h
      rw [h]
     ·simp [V.toInt, sel, Env.get]; omega
   ·((conv=>whnf);repeat (refine Wa ?_;(repeat (first|refine Wb ?_|refine Wc ?_|refine Wd ?_|refine We ?_|refine Wf ?_));(conv=>whnf)))
    refine ⟨trivial, Qb ?_⟩
    rw [take_len (by omega), take_len (by omega)] at hkab
    simp [hkab]



open Classical in
set_option maxRecDepth 100000 in
set_option maxHeartbeats 1600000 in
theorem ShareAssigns_pure (n : Nat) (W : Nat → List Int) : APure Try.prog 5 [tabV n W] (fun R => R = .bool true) := by
 refine APure_of (X := xL13) tab_ok rfl (rs := [(.tmp 2, 4)]) Try.func5 (by decide) rfl rfl rfl (by simp) (nofr1 nofrT) ?_
 intro hlen
 have fin := alive_pure
 have c0 := small_pure n W
 have c1 := Assign_pure n W
 have c2 := refAssign_pure n W
 by_cases hS : ¬ Sml n W
 ·rw [decide_eq_false hS] at c0
  ((conv=>whnf);repeat (refine Wa ?_;(repeat (first|refine Wb ?_|refine Wc ?_|refine Wd ?_|refine We ?_|refine Wf ?_));(conv=>whnf)))
  refine APure.to (APure.arg1 subT c0) ?_
  ((conv=>whnf);repeat (refine Wa ?_;(repeat (first|refine Wb ?_|refine Wc ?_|refine Wd ?_|refine We ?_|refine Wf ?_));(conv=>whnf)))
  refine APure.to fin ?_
  ((conv=>whnf);repeat (refine Wa ?_;(repeat (first|refine Wb ?_|refine Wc ?_|refine Wd ?_|refine We ?_|refine Wf ?_));(conv=>whnf)))
  exact ⟨trivial, rfl⟩
 rw [decide_eq_true (Classical.not_not.1 hS)] at c0
 obtain ⟨A, x, f, hA⟩ : ∃ (A : List Int) (x f : Int), assV n W = tup3 (.ints true A) (.int x) (.int f) := by
  unfold assV
  split
  ·exact ⟨_, _, _, rfl⟩
  ·exact ⟨_, _, _, rfl⟩
 rw [hA] at c1 c2
 have c3 := same_pure A A
 rw [decide_eq_true rfl] at c3
 by_cases hW : ¬ Wis n W
 ·have c4 := refDearer_bad hW
  have c5 := Dearer_bad hW
  obtain ⟨g, hg⟩ : ∃ g : Int, g = 2 := ⟨_, rfl⟩
  rw [← hg] at c4 c5
  ((conv=>whnf);repeat (refine Wa ?_;(repeat (first|refine Wb ?_|refine Wc ?_|refine Wd ?_|refine We ?_|refine Wf ?_));(conv=>whnf)))
  refine APure.to (APure.arg1 subT c0) ?_
  ((conv=>whnf);repeat (refine Wa ?_;(repeat (first|refine Wb ?_|refine Wc ?_|refine Wd ?_|refine We ?_|refine Wf ?_));(conv=>whnf)))
  refine APure.to (APure.arg1 subT c1) ?_
  ((conv=>whnf);repeat (refine Wa ?_;(repeat (first|refine Wb ?_|refine Wc ?_|refine Wd ?_|refine We ?_|refine Wf ?_));(conv=>whnf)))
  refine APure.to (APure.arg1 subT c2) ?_
  ((conv=>whnf);repeat (refine Wa ?_;(repeat (first|refine Wb ?_|refine Wc ?_|refine Wd ?_|refine We ?_|refine Wf ?_));(conv=>whnf)))
  refine APure.to c3 ?_
  ((conv=>whnf);repeat (refine Wa ?_;(repeat (first|refine Wb ?_|refine Wc ?_|refine Wd ?_|refine We ?_|refine Wf ?_));(conv=>whnf)))
  refine br_ne (fun h => absurd rfl h) (fun _ => ?_)
  ((conv=>whnf);repeat (refine Wa ?_;(repeat (first|refine Wb ?_|refine Wc ?_|refine Wd ?_|refine We ?_|refine Wf ?_));(conv=>whnf)))
  refine br_ne (fun h => absurd rfl h) (fun _ => ?_)
  ((conv=>whnf);repeat (refine Wa ?_;(repeat (first|refine Wb ?_|refine Wc ?_|refine Wd ?_|refine We ?_|refine Wf ?_));(conv=>whnf)))
  refine APure.to (APure.arg1 subT c4) ?_
  ((conv=>whnf);repeat (refine Wa ?_;(repeat (first|refine Wb ?_|refine Wc ?_|refine Wd ?_|refine We ?_|refine Wf ?_));(conv=>whnf)))
  refine AW_loop (X := xL13) tab_ok [0, 8, 9, 10] (fun vs M => ∃ k : Nat, k ≤ 2 ∧ vs = [tabV n W, .int g, .emp true, .int k] ∧ M = []) (fun vs _ => (2 - (vs.getD 3 .any).toInt).toNat) ?_ ?_
  ·exact ⟨0, by decide, rfl, rfl⟩
  rintro vs M ⟨k, hk, rfl, rfl⟩
  ((conv=>whnf);repeat (refine Wa ?_;(repeat (first|refine Wb ?_|refine Wc ?_|refine Wd ?_|refine We ?_|refine Wf ?_));(conv=>whnf)))
  refine br_dec (fun hlt => ?_) (fun hge => ?_)
  ·have hlt : (k : Int) < 2 := hlt
   ((conv=>whnf);repeat (refine Wa ?_;(repeat (first|refine Wb ?_|refine Wc ?_|refine Wd ?_|refine We ?_|refine Wf ?_));(conv=>whnf)))
   refine ACM.mono c5 ?_
   rintro R M' ⟨rfl, rfl⟩
   ((conv=>whnf);repeat (refine Wa ?_;(repeat (first|refine Wb ?_|refine Wc ?_|refine Wd ?_|refine We ?_|refine Wf ?_));(conv=>whnf)))
   refine br_ne (fun h => absurd rfl h) (fun _ => ?_)
   ((conv=>whnf);repeat (refine Wa ?_;(repeat (first|refine Wb ?_|refine Wc ?_|refine Wd ?_|refine We ?_|refine Wf ?_));(conv=>whnf)))
   refine AW_loop (X := xL13) tab_ok [0, 8, 9, 10, 11, 13] (fun vs M => vs = [tabV n W, .int g, .emp true, .int k, .emp true, .int 0] ∧ M = []) (fun _ _ => 0) ?_ ?_
   ·exact ⟨rfl, rfl⟩
   rintro vs M ⟨rfl, rfl⟩
   ((conv=>whnf);repeat (refine Wa ?_;(repeat (first|refine Wb ?_|refine Wc ?_|refine Wd ?_|refine We ?_|refine Wf ?_));(conv=>whnf)))
   refine ⟨inr (by omega), ?_⟩
   ((conv=>whnf);repeat (refine Wa ?_;(repeat (first|refine Wb ?_|refine Wc ?_|refine Wd ?_|refine We ?_|refine Wf ?_));(conv=>whnf)))
   refine ⟨⟨k + 1, by omega, rfl, rfl⟩, ?_⟩
   simp [V.toInt, sel, Env.get]; omega
  ·((conv=>whnf);repeat (refine Wa ?_;(repeat (first|refine Wb ?_|refine Wc ?_|refine Wd ?_|refine We ?_|refine Wf ?_));(conv=>whnf)))
   refine APure.to fin ?_
   ((conv=>whnf);repeat (refine Wa ?_;(repeat (first|refine Wb ?_|refine Wc ?_|refine Wd ?_|refine We ?_|refine Wf ?_));(conv=>whnf)))
   exact ⟨trivial, rfl⟩
 have hW : Wis n W := Classical.not_not.1 hW
 have h1 := hW.1
 have h5 := hW.2.1
 have c4 := refDearer_pure hW
 have c5 := Dearer_cm hW
 obtain ⟨R, hR⟩ : ∃ R : Nat → List Int, R = fun j => lsN n (drr n W j) := ⟨_, rfl⟩
 have hRl : ∀ j, (R j).length = n := fun j => by rw [hR]; exact lsN_len _ _
 rw [show drW true n W = .seq true 1 n fun j _ => .ints true (R j) by rw [hR]] at c4
 have c6 : ∀ j, APure Try.prog 20 [.ints false (R j), .ints false (R j)] (fun r => r = .bool true) := fun j => by
  have := same_pure (R j) (R j)
  rwa [decide_eq_true rfl] at this
 ((conv=>whnf);repeat (refine Wa ?_;(repeat (first|refine Wb ?_|refine Wc ?_|refine Wd ?_|refine We ?_|refine Wf ?_));(conv=>whnf)))
 refine APure.to (APure.arg1 subT c0) ?_
 ((conv=>whnf);repeat (refine Wa ?_;(repeat (first|refine Wb ?_|refine Wc ?_|refine Wd ?_|refine We ?_|refine Wf ?_));(conv=>whnf)))
 refine APure.to (APure.arg1 subT c1) ?_
 ((conv=>whnf);repeat (refine Wa ?_;(repeat (first|refine Wb ?_|refine Wc ?_|refine Wd ?_|refine We ?_|refine Wf ?_));(conv=>whnf)))
 refine APure.to (APure.arg1 subT c2) ?_
 ((conv=>whnf);repeat (refine Wa ?_;(repeat (first|refine Wb ?_|refine Wc ?_|refine Wd ?_|refine We ?_|refine Wf ?_));(conv=>whnf)))
 refine APure.to c3 ?_
 ((conv=>whnf);repeat (refine Wa ?_;(repeat (first|refine Wb ?_|refine Wc ?_|refine Wd ?_|refine We ?_|refine Wf ?_));(conv=>whnf)))
 refine br_ne (fun h => absurd rfl h) (fun _ => ?_)
 ((conv=>whnf);repeat (refine Wa ?_;(repeat (first|refine Wb ?_|refine Wc ?_|refine Wd ?_|refine We ?_|refine Wf ?_));(conv=>whnf)))
 refine br_ne (fun h => absurd rfl h) (fun _ => ?_)
 ((conv=>whnf);repeat (refine Wa ?_;(repeat (first|refine Wb ?_|refine Wc ?_|refine Wd ?_|refine We ?_|refine Wf ?_));(conv=>whnf)))
 refine APure.to (APure.arg1 subT c4) ?_
 ((conv=>whnf);repeat (refine Wa ?_;(repeat (first|refine Wb ?_|refine Wc ?_|refine Wd ?_|refine We ?_|refine Wf ?_));(conv=>whnf)))
 refine AW_loopA (X := xL13) tab_ok [0, 8, 9, 10] (fun _ => false) (fun vs M => ∃ k : Nat, k ≤ 2 ∧ vs = [tabV n W, .int 0, .seq true 1 n fun j _ => .ints true (R j), .int k] ∧ M = []) (fun vs _ => (2 - (vs.getD 3 .any).toInt).toNat) (fun t ht => absurd ht (Nat.not_lt_zero _)) ?_ ?_
 ·exact same0 ⟨0, by decide, rfl, rfl⟩
 rintro vs M ⟨k, hk, rfl, rfl⟩
 ((conv=>whnf);repeat (refine Wa ?_;(repeat (first|refine Wb ?_|refine Wc ?_|refine Wd ?_|refine We ?_|refine Wf ?_));(conv=>whnf)))
 refine br_dec (fun hlt => ?_) (fun hge => ?_)
 ·have hlt : (k : Int) < 2 := hlt
  ((conv=>whnf);repeat (refine Wa ?_;(repeat (first|refine Wb ?_|refine Wc ?_|refine Wd ?_|refine We ?_|refine Wf ?_));(conv=>whnf)))
  refine ACM.mono c5 ?_
  rintro r M' ⟨rfl, rfl⟩
  ((conv=>whnf);repeat (refine Wa ?_;(repeat (first|refine Wb ?_|refine Wc ?_|refine Wd ?_|refine We ?_|refine Wf ?_));(conv=>whnf)))
  refine br_ne (fun h => absurd rfl h) (fun _ => ?_)
  ((conv=>whnf);repeat (refine Wa ?_;(repeat (first|refine Wb ?_|refine Wc ?_|refine Wd ?_|refine We ?_|refine Wf ?_));(conv=>whnf)))
  refine AW_loop (X := xL13) tab_ok [0, 8, 9, 10, 11, 13] (fun vs M => ∃ (i : Nat) (Z : Nat → List Int), i ≤ n ∧ (∀ j, i ≤ j → j < n → Z j = R j) ∧ vs = [tabV n W, .int 0, .seq true 1 n fun j _ => .ints true (R j), .int k, .sl 0 0 0 n, .int i] ∧ M = memZ n Z) (fun vs _ => (n - (vs.getD 5 .any).toInt).toNat) ?_ ?_
  ·exact ⟨0, rwN n (drr n W), Nat.zero_le _, fun j _ hj => by rw [hR]; exact if_pos hj, rfl, rfl⟩
  rintro vs M ⟨i, Z, hi, hZ, rfl, rfl⟩
  rcases (by omega : i = n ∨ (i < n ∧ (i = 0 ∨ i = 1 ∨ i = 2 ∨ i = 3 ∨ i = 4))) with rfl | ⟨hin, rfl | rfl | rfl | rfl | rfl⟩
  ·((conv=>whnf);repeat (refine Wa ?_;(repeat (first|refine Wb ?_|refine Wc ?_|refine Wd ?_|refine We ?_|refine Wf ?_));(conv=>whnf)))
   refine br_dec (fun h => absurd (show (i : Int) < (i : Int) from h) (by omega)) (fun _ => ?_)
   ((conv=>whnf);repeat (refine Wa ?_;(repeat (first|refine Wb ?_|refine Wc ?_|refine Wd ?_|refine We ?_|refine Wf ?_));(conv=>whnf)))
   refine ⟨inr (by omega), ?_⟩
   ((conv=>whnf);repeat (refine Wa ?_;(repeat (first|refine Wb ?_|refine Wc ?_|refine Wd ?_|refine We ?_|refine Wf ?_));(conv=>whnf)))
   refine ⟨⟨⟨fun _ _ _ _ => trivial, trivial, fun _ _ _ _ => trivial, trivial, trivial⟩, trivial⟩, ?_⟩
   exact memA1 [] trivial ⟨⟨k + 1, by omega, rfl, rfl⟩, by simp [V.toInt, sel, Env.get]; omega⟩
  ·have hlt2 := hin
   have hi' : 0 < n := hlt2
   have e1 : V.ints false (((Z 0).drop 0).take n) = V.ints false (R 0) := by rw [hZ 0 (Nat.le_refl _) hi', List.drop_zero, List.take_of_length_le (by rw [hRl]; exact Nat.le_refl _)]
   ((conv=>whnf);repeat (refine Wa ?_;(repeat (first|refine Wb ?_|refine Wc ?_|refine Wd ?_|refine We ?_|refine Wf ?_));(conv=>whnf)))
   refine br_dec (fun _ => ?_) (fun h => absurd (show ((0 : Nat) : Int) < (n : Int) by omega) h)
   ((conv=>whnf);repeat (refine Wa ?_;(repeat (first|refine Wb ?_|refine Wc ?_|refine Wd ?_|refine We ?_|refine Wf ?_));(conv=>whnf)))
   refine AW_draw (X := xL13) tab_ok mixed (by kernel_rfl) ?_
   ((conv=>whnf);repeat (refine Wa ?_;(repeat (first|refine Wb ?_|refine Wc ?_|refine Wd ?_|refine We ?_|refine Wf ?_));(conv=>whnf)))
   refine ⟨(show (0 : Int) ≤ ((0 : Nat) : Int) by decide), ?_⟩
   refine ⟨(show ((0 : Nat) : Int) < (n : Int) by omega), ?_⟩
   ((conv=>whnf);repeat (refine Wa ?_;(repeat (first|refine Wb ?_|refine Wc ?_|refine Wd ?_|refine We ?_|refine Wf ?_));(conv=>whnf)))
   refine ⟨(show (0 : Int) ≤ ((0 : Nat) : Int) by decide), ?_⟩
   refine ⟨(show ((0 : Nat) : Int) < (n : Int) by omega), ?_⟩
   ((conv=>whnf);repeat (refine Wa ?_;(repeat (first|refine Wb ?_|refine Wc ?_|refine Wd ?_|refine We ?_|refine Wf ?_));(conv=>whnf)))
   refine ⟨.bool true, ?_, ?_⟩
   ·((conv=>whnf);repeat (refine Wa ?_;(repeat (first|refine Wb ?_|refine Wc ?_|refine Wd ?_|refine We ?_|refine Wf ?_));(conv=>whnf)))
    exact APure.arg2 (Sub.of e1) (Sub.refl _) (c6 0)
   ((conv=>whnf);repeat (refine Wa ?_;(repeat (first|refine Wb ?_|refine Wc ?_|refine Wd ?_|refine We ?_|refine Wf ?_));(conv=>whnf)))
   refine ⟨(show (0 : Int) ≤ ((0 : Nat) : Int) by decide), ?_⟩
   refine ⟨(show ((0 : Nat) : Int) < (n : Int) by omega), ?_⟩
   ((conv=>whnf);repeat (refine Wa ?_;(repeat (first|refine Wb ?_|refine Wc ?_|refine Wd ?_|refine We ?_|refine Wf ?_));(conv=>whnf)))
   refine ⟨(show (0 : Int) ≤ 0 by decide), ?_⟩
   refine ⟨(show (0 : Int) < (n : Int) by omega), ?_⟩
   ((conv=>whnf);repeat (refine Wa ?_;(repeat (first|refine Wb ?_|refine Wc ?_|refine Wd ?_|refine We ?_|refine Wf ?_));(conv=>whnf)))
   refine ⟨inr (by omega), ?_⟩
   ((conv=>whnf);repeat (refine Wa ?_;(repeat (first|refine Wb ?_|refine Wc ?_|refine Wd ?_|refine We ?_|refine Wf ?_));(conv=>whnf)))
   refine ⟨⟨0 + 1, fun j => if j = 0 then (Z 0).set (0 + 0) (-99) else Z j, hi', fun j hj hjn => (if_neg (by omega)).trans (hZ j (by omega) hjn), rfl, rfl⟩, ?_⟩
   simp [V.toInt, sel, Env.get]; omega
  ·have hlt2 := hin
   have hi' : 1 < n := hlt2
   have e1 : V.ints false (((Z 1).drop 0).take n) = V.ints false (R 1) := by rw [hZ 1 (Nat.le_refl _) hi', List.drop_zero, List.take_of_length_le (by rw [hRl]; exact Nat.le_refl _)]
   ((conv=>whnf);repeat (refine Wa ?_;(repeat (first|refine Wb ?_|refine Wc ?_|refine Wd ?_|refine We ?_|refine Wf ?_));(conv=>whnf)))
   refine br_dec (fun _ => ?_) (fun h => absurd (show ((1 : Nat) : Int) < (n : Int) by omega) h)
   ((conv=>whnf);repeat (refine Wa ?_;(repeat (first|refine Wb ?_|refine Wc ?_|refine Wd ?_|refine We ?_|refine Wf ?_));(conv=>whnf)))
   refine AW_draw (X := xL13) tab_ok mixed (by kernel_rfl) ?_
   ((conv=>whnf);repeat (refine Wa ?_;(repeat (first|refine Wb ?_|refine Wc ?_|refine Wd ?_|refine We ?_|refine Wf ?_));(conv=>whnf)))
   refine ⟨(show (0 : Int) ≤ ((1 : Nat) : Int) by decide), ?_⟩
   refine ⟨(show ((1 : Nat) : Int) < (n : Int) by omega), ?_⟩
   ((conv=>whnf);repeat (refine Wa ?_;(repeat (first|refine Wb ?_|refine Wc ?_|refine Wd ?_|refine We ?_|refine Wf ?_));(conv=>whnf)))
   refine ⟨(show (0 : Int) ≤ ((1 : Nat) : Int) by decide), ?_⟩
   refine ⟨(show ((1 : Nat) : Int) < (n : Int) by omega), ?_⟩
   ((conv=>whnf);repeat (refine Wa ?_;(repeat (first|refine Wb ?_|refine Wc ?_|refine Wd ?_|refine We ?_|refine Wf ?_));(conv=>whnf)))
   refine ⟨.bool true, ?_, ?_⟩
   ·((conv=>whnf);repeat (refine Wa ?_;(repeat (first|refine Wb ?_|refine Wc ?_|refine Wd ?_|refine We ?_|refine Wf ?_));(conv=>whnf)))
    exact APure.arg2 (Sub.of e1) (Sub.refl _) (c6 1)
   ((conv=>whnf);repeat (refine Wa ?_;(repeat (first|refine Wb ?_|refine Wc ?_|refine Wd ?_|refine We ?_|refine Wf ?_));(conv=>whnf)))
   refine ⟨(show (0 : Int) ≤ ((1 : Nat) : Int) by decide), ?_⟩
   refine ⟨(show ((1 : Nat) : Int) < (n : Int) by omega), ?_⟩
   ((conv=>whnf);repeat (refine Wa ?_;(repeat (first|refine Wb ?_|refine Wc ?_|refine Wd ?_|refine We ?_|refine Wf ?_));(conv=>whnf)))
   refine ⟨(show (0 : Int) ≤ 0 by decide), ?_⟩
   refine ⟨(show (0 : Int) < (n : Int) by omega), ?_⟩
   ((conv=>whnf);repeat (refine Wa ?_;(repeat (first|refine Wb ?_|refine Wc ?_|refine Wd ?_|refine We ?_|refine Wf ?_));(conv=>whnf)))
   refine ⟨inr (by omega), ?_⟩
   ((conv=>whnf);repeat (refine Wa ?_;(repeat (first|refine Wb ?_|refine Wc ?_|refine Wd ?_|refine We ?_|refine Wf ?_));(conv=>whnf)))
   refine ⟨⟨1 + 1, fun j => if j = 1 then (Z 1).set (0 + 0) (-99) else Z j, hi', fun j hj hjn => (if_neg (by omega)).trans (hZ j (by omega) hjn), rfl, rfl⟩, ?_⟩
   simp [V.toInt, sel, Env.get]; omega
  ·have hlt2 := hin
   have hi' : 2 < n := hlt2
   have e1 : V.ints false (((Z 2).drop 0).take n) = V.ints false (R 2) := by rw [hZ 2 (Nat.le_refl _) hi', List.drop_zero, List.take_of_length_le (by rw [hRl]; exact Nat.le_refl _)]
   ((conv=>whnf);repeat (refine Wa ?_;(repeat (first|refine Wb ?_|refine Wc ?_|refine Wd ?_|refine We ?_|refine Wf ?_));(conv=>whnf)))
   refine br_dec (fun _ => ?_) (fun h => absurd (show ((2 : Nat) : Int) < (n : Int) by omega) h)
   ((conv=>whnf);repeat (refine Wa ?_;(repeat (first|refine Wb ?_|refine Wc ?_|refine Wd ?_|refine We ?_|refine Wf ?_));(conv=>whnf)))
   refine AW_draw (X := xL13) tab_ok mixed (by kernel_rfl) ?_
   ((conv=>whnf);repeat (refine Wa ?_;(repeat (first|refine Wb ?_|refine Wc ?_|refine Wd ?_|refine We ?_|refine Wf ?_));(conv=>whnf)))
   refine ⟨(show (0 : Int) ≤ ((2 : Nat) : Int) by decide), ?_⟩
   refine ⟨(show ((2 : Nat) : Int) < (n : Int) by omega), ?_⟩
   ((conv=>whnf);repeat (refine Wa ?_;(repeat (first|refine Wb ?_|refine Wc ?_|refine Wd ?_|refine We ?_|refine Wf ?_));(conv=>whnf)))
   refine ⟨(show (0 : Int) ≤ ((2 : Nat) : Int) by decide), ?_⟩
   refine ⟨(show ((2 : Nat) : Int) < (n : Int) by omega), ?_⟩
   ((conv=>whnf);repeat (refine Wa ?_;(repeat (first|refine Wb ?_|refine Wc ?_|refine Wd ?_|refine We ?_|refine Wf ?_));(conv=>whnf)))
   refine ⟨.bool true, ?_, ?_⟩
   ·((conv=>whnf);repeat (refine Wa ?_;(repeat (first|refine Wb ?_|refine Wc ?_|refine Wd ?_|refine We ?_|refine Wf ?_));(conv=>whnf)))
    exact APure.arg2 (Sub.of e1) (Sub.refl _) (c6 2)
   ((conv=>whnf);repeat (refine Wa ?_;(repeat (first|refine Wb ?_|refine Wc ?_|refine Wd ?_|refine We ?_|refine Wf ?_));(conv=>whnf)))
   refine ⟨(show (0 : Int) ≤ ((2 : Nat) : Int) by decide), ?_⟩
   refine ⟨(show ((2 : Nat) : Int) < (n : Int) by omega), ?_⟩
   ((conv=>whnf);repeat (refine Wa ?_;(repeat (first|refine Wb ?_|refine Wc ?_|refine Wd ?_|refine We ?_|refine Wf ?_));(conv=>whnf)))
   refine ⟨(show (0 : Int) ≤ 0 by decide), ?_⟩
   refine ⟨(show (0 : Int) < (n : Int) by omega), ?_⟩
   ((conv=>whnf);repeat (refine Wa ?_;(repeat (first|refine Wb ?_|refine Wc ?_|refine Wd ?_|refine We ?_|refine Wf ?_));(conv=>whnf)))
   refine ⟨inr (by omega), ?_⟩
   ((conv=>whnf);repeat (refine Wa ?_;(repeat (first|refine Wb ?_|refine Wc ?_|refine Wd ?_|refine We ?_|refine Wf ?_));(conv=>whnf)))
   refine ⟨⟨2 + 1, fun j => if j = 2 then (Z 2).set (0 + 0) (-99) else Z j, hi', fun j hj hjn => (if_neg (by omega)).trans (hZ j (by omega) hjn), rfl, rfl⟩, ?_⟩
   simp [V.toInt, sel, Env.get]; omega
  ·have hlt2 := hin
   have hi' : 3 < n := hlt2
   have e1 : V.ints false (((Z 3).drop 0).take n) = V.ints false (R 3) := by rw [hZ 3 (Nat.le_refl _) hi', List.drop_zero, List.take_of_length_le (by rw [hRl]; exact Nat.le_refl _)]
   ((conv=>whnf);repeat (refine Wa ?_;(repeat (first|refine Wb ?_|refine Wc ?_|refine Wd ?_|refine We ?_|refine Wf ?_));(conv=>whnf)))
   refine br_dec (fun _ => ?_) (fun h => absurd (show ((3 : Nat) : Int) < (n : Int) by omega) h)
   ((conv=>whnf);repeat (refine Wa ?_;(repeat (first|refine Wb ?_|refine Wc ?_|refine Wd ?_|refine We ?_|refine Wf ?_));(conv=>whnf)))
   refine AW_draw (X := xL13) tab_ok mixed (by kernel_rfl) ?_
   ((conv=>whnf);repeat (refine Wa ?_;(repeat (first|refine Wb ?_|refine Wc ?_|refine Wd ?_|refine We ?_|refine Wf ?_));(conv=>whnf)))
   refine ⟨(show (0 : Int) ≤ ((3 : Nat) : Int) by decide), ?_⟩
   refine ⟨(show ((3 : Nat) : Int) < (n : Int) by omega), ?_⟩
   ((conv=>whnf);repeat (refine Wa ?_;(repeat (first|refine Wb ?_|refine Wc ?_|refine Wd ?_|refine We ?_|refine Wf ?_));(conv=>whnf)))
   refine ⟨(show (0 : Int) ≤ ((3 : Nat) : Int) by decide), ?_⟩
   refine ⟨(show ((3 : Nat) : Int) < (n : Int) by omega), ?_⟩
   ((conv=>whnf);repeat (refine Wa ?_;(repeat (first|refine Wb ?_|refine Wc ?_|refine Wd ?_|refine We ?_|refine Wf ?_));(conv=>whnf)))
   refine ⟨.bool true, ?_, ?_⟩
   ·((conv=>whnf);repeat (refine Wa ?_;(repeat (first|refine Wb ?_|refine Wc ?_|refine Wd ?_|refine We ?_|refine Wf ?_));(conv=>whnf)))
    exact APure.arg2 (Sub.of e1) (Sub.refl _) (c6 3)
   ((conv=>whnf);repeat (refine Wa ?_;(repeat (first|refine Wb ?_|refine Wc ?_|refine Wd ?_|refine We ?_|refine Wf ?_));(conv=>whnf)))
   refine ⟨(show (0 : Int) ≤ ((3 : Nat) : Int) by decide), ?_⟩
   refine ⟨(show ((3 : Nat) : Int) < (n : Int) by omega), ?_⟩
   ((conv=>whnf);repeat (refine Wa ?_;(repeat (first|refine Wb ?_|refine Wc ?_|refine Wd ?_|refine We ?_|refine Wf ?_));(conv=>whnf)))
   refine ⟨(show (0 : Int) ≤ 0 by decide), ?_⟩
   refine ⟨(show (0 : Int) < (n : Int) by omega), ?_⟩
   ((conv=>whnf);repeat (refine Wa ?_;(repeat (first|refine Wb ?_|refine Wc ?_|refine Wd ?_|refine We ?_|refine Wf ?_));(conv=>whnf)))
   refine ⟨inr (by omega), ?_⟩
   ((conv=>whnf);repeat (refine Wa ?_;(repeat (first|refine Wb ?_|refine Wc ?_|refine Wd ?_|refine We ?_|refine Wf ?_));(conv=>whnf)))
   refine ⟨⟨3 + 1, fun j => if j = 3 then (Z 3).set (0 + 0) (-99) else Z j, hi', fun j hj hjn => (if_neg (by omega)).trans (hZ j (by omega) hjn), rfl, rfl⟩, ?_⟩
   simp [V.toInt, sel, Env.get]; omega
  ·have hlt2 := hin
   have hi' : 4 < n := hlt2
   have e1 : V.ints false (((Z 4).drop 0).take n) = V.ints false (R 4) := by rw [hZ 4 (Nat.le_refl _) hi', List.drop_zero, List.take_of_length_le (by rw [hRl]; exact Nat.le_refl _)]
   ((conv=>whnf);repeat (refine Wa ?_;(repeat (first|refine Wb ?_|refine Wc ?_|refine Wd ?_|refine We ?_|refine Wf ?_));(conv=>whnf)))
   refine br_dec (fun _ => ?_) (fun h => absurd (show ((4 : Nat) : Int) < (n : Int) by omega) h)
   ((conv=>whnf);repeat (refine Wa ?_;(repeat (first|refine Wb ?_|refine Wc ?_|refine Wd ?_|refine We ?_|refine Wf ?_));(conv=>whnf)))
   refine AW_draw (X := xL13) tab_ok mixed (by kernel_rfl) ?_
   ((conv=>whnf);repeat (refine Wa ?_;(repeat (first|refine Wb ?_|refine Wc ?_|refine Wd ?_|refine We ?_|refine Wf ?_));(conv=>whnf)))
   refine ⟨(show (0 : Int) ≤ ((4 : Nat) : Int) by decide), ?_⟩
   refine ⟨(show ((4 : Nat) : Int) < (n : Int) by omega), ?_⟩
   ((conv=>whnf);repeat (refine Wa ?_;(repeat (first|refine Wb ?_|refine Wc ?_|refine Wd ?_|refine We ?_|refine Wf ?_));(conv=>whnf)))
   refine ⟨(show (0 : Int) ≤ ((4 : Nat) : Int) by decide), ?_⟩
   refine ⟨(show ((4 : Nat) : Int) < (n : Int) by omega), ?_⟩
   ((conv=>whnf);repeat (refine Wa ?_;(repeat (first|refine Wb ?_|refine Wc ?_|refine Wd ?_|refine We ?_|refine Wf ?_));(conv=>whnf)))
   refine ⟨.bool true, ?_, ?_⟩
   ·((conv=>whnf);repeat (refine Wa ?_;(repeat (first|refine Wb ?_|refine Wc ?_|refine Wd ?_|refine We ?_|refine Wf ?_));(conv=>whnf)))
    exact APure.arg2 (Sub.of e1) (Sub.refl _) (c6 4)
   ((conv=>whnf);repeat (refine Wa ?_;(repeat (first|refine Wb ?_|refine Wc ?_|refine Wd ?_|refine We ?_|refine Wf ?_));(conv=>whnf)))
   refine ⟨(show (0 : Int) ≤ ((4 : Nat) : Int) by decide), ?_⟩
   refine ⟨(show ((4 : Nat) : Int) < (n : Int) by omega), ?_⟩
   ((conv=>whnf);repeat (refine Wa ?_;(repeat (first|refine Wb ?_|refine Wc ?_|refine Wd ?_|refine We ?_|refine Wf ?_));(conv=>whnf)))
   refine ⟨(show (0 : Int) ≤ 0 by decide), ?_⟩
   refine ⟨(show (0 : Int) < (n : Int) by omega), ?_⟩
   ((conv=>whnf);repeat (refine Wa ?_;(repeat (first|refine Wb ?_|refine Wc ?_|refine Wd ?_|refine We ?_|refine Wf ?_));(conv=>whnf)))
   refine ⟨inr (by omega), ?_⟩
   ((conv=>whnf);repeat (refine Wa ?_;(repeat (first|refine Wb ?_|refine Wc ?_|refine Wd ?_|refine We ?_|refine Wf ?_));(conv=>whnf)))
   refine ⟨⟨4 + 1, fun j => if j = 4 then (Z 4).set (0 + 0) (-99) else Z j, hi', fun j hj hjn => (if_neg (by omega)).trans (hZ j (by omega) hjn), rfl, rfl⟩, ?_⟩
   simp [V.toInt, sel, Env.get]; omega
 ·((conv=>whnf);repeat (refine Wa ?_;(repeat (first|refine Wb ?_|refine Wc ?_|refine Wd ?_|refine We ?_|refine Wf ?_));(conv=>whnf)))
  refine APure.to fin ?_
  ((conv=>whnf);repeat (refine Wa ?_;(repeat (first|refine Wb ?_|refine Wc ?_|refine Wd ?_|refine We ?_|refine Wf ?_));(conv=>whnf)))
  exact ⟨trivial, rfl⟩
end Go.Tri
