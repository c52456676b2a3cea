/-
 LAW: ShareDiffers.
-/
import Derived.Test.YtpolaegggclhcaaM17
import Derived.Test.YtpolaegggclhcaaB43
import Derived.Test.YtpolaegggclhcaaB46
import Derived.Test.YtpolaegggclhcaaE1
namespace Go.Tri
open Go.Proofs

@[reducible] def hOb (H : List Int) : Ob := ⟨3, 1, 0, .il H⟩
open Classical in
set_option maxRecDepth 100000 in
set_option maxHeartbeats 1600000 in
theorem ShareDiffers_pure (n : Nat) (W : Nat → List Int) (z : List Int) (d : Int) : APure Try.prog 10 [tabV n W, parV false z d] (fun R => R = .bool true) := by
 refine APure_of (X := cx 237) (cx_ok 237) rfl (rs := [(.tmp 4, 4)]) Try.func10 (by decide) rfl rfl rfl (by simp [cx]) (nofr2 nofrT nofrPa) ?_
 intro hlen
 have fin := alive_pure
 have c0 := small_pure n W
 have c1 := refRent_pure n W
 have c7 := refIsRents_pure n W z d
 by_cases hW : ¬ Wis n W
 ·rw [show reV n W = tup2 (.int 0) (.bool false) from if_neg hW] at c1
  ((conv=>whnf);repeat (refine Wa ?_;(repeat (first|refine Wb ?_|refine Wc ?_|refine Wd ?_|refine We ?_|refine Wf ?_));(conv=>whnf)))
  refine APure.to (APure.arg1 subT c1) ?_
  ((conv=>whnf);repeat (refine Wa ?_;(repeat (first|refine Wb ?_|refine Wc ?_|refine Wd ?_|refine We ?_|refine Wf ?_));(conv=>whnf)))
  refine APure.to (APure.arg1 subT c0) ?_
  ((conv=>whnf);repeat (refine Wa ?_;(repeat (first|refine Wb ?_|refine Wc ?_|refine Wd ?_|refine We ?_|refine Wf ?_));(conv=>whnf)))
  refine br_not ?_
  refine br_mk (fun h => ?_) (fun h => ?_)
  ·((conv=>whnf);repeat (refine Wa ?_;(repeat (first|refine Wb ?_|refine Wc ?_|refine Wd ?_|refine We ?_|refine Wf ?_));(conv=>whnf)))
   refine APure.to fin ?_
   ((conv=>whnf);repeat (refine Wa ?_;(repeat (first|refine Wb ?_|refine Wc ?_|refine Wd ?_|refine We ?_|refine Wf ?_));(conv=>whnf)))
   exact ⟨trivial, rfl⟩
  ·((conv=>whnf);repeat (refine Wa ?_;(repeat (first|refine Wb ?_|refine Wc ?_|refine Wd ?_|refine We ?_|refine Wf ?_));(conv=>whnf)))
   refine APure.to fin ?_
   ((conv=>whnf);repeat (refine Wa ?_;(repeat (first|refine Wb ?_|refine Wc ?_|refine Wd ?_|refine We ?_|refine Wf ?_));(conv=>whnf)))
   exact ⟨trivial, rfl⟩
 have hW : Wis n W := Classical.not_not.1 hW
 have h1 := hW.1
 have h5 := hW.2.1
 have hS : Sml n W := ⟨by omega, fun i hi => by rw [(hW.2.2 i hi).1]; omega⟩
 rw [show reV n W = tup2 (.int (sumL (W 0) n)) (.bool true) from if_pos hW] at c1
 rw [decide_eq_true hS] at c0
 ((conv=>whnf);repeat (refine Wa ?_;(repeat (first|refine Wb ?_|refine Wc ?_|refine Wd ?_|refine We ?_|refine Wf ?_));(conv=>whnf)))
 refine APure.to (APure.arg1 subT c1) ?_
 ((conv=>whnf);repeat (refine Wa ?_;(repeat (first|refine Wb ?_|refine Wc ?_|refine Wd ?_|refine We ?_|refine Wf ?_));(conv=>whnf)))
 refine APure.to (APure.arg1 subT c0) ?_
 ((conv=>whnf);repeat (refine Wa ?_;(repeat (first|refine Wb ?_|refine Wc ?_|refine Wd ?_|refine We ?_|refine Wf ?_));(conv=>whnf)))
 refine br_dec (fun hz30 => ?_) (fun hz30 => ?_)
 ·((conv=>whnf);repeat (refine Wa ?_;(repeat (first|refine Wb ?_|refine Wc ?_|refine Wd ?_|refine We ?_|refine Wf ?_));(conv=>whnf)))
  refine APure.to fin ?_
  ((conv=>whnf);repeat (refine Wa ?_;(repeat (first|refine Wb ?_|refine Wc ?_|refine Wd ?_|refine We ?_|refine Wf ?_));(conv=>whnf)))
  exact ⟨trivial, rfl⟩
 have hz30 : ¬ (z.length : Int) > 30 := hz30
 have c2 := Dearer_pure hW
 have c3 := Assign_pure n W
 rw [show assV n W = tup3 (.ints true (asB n W)) (.int (wrS W (asB n W) n)) (.int 0) from if_pos hW] at c3
 have c4 := refIsAssignment_pure n (asB n W) (by omega)
 rw [decide_eq_true (asB_is (n := n) W).1] at c4
 obtain ⟨R, hR⟩ : ∃ R : Nat → List Int, R = fun j => lsN n (drr n W j) := ⟨_, rfl⟩
 have hRl : ∀ j, (R j).length = n := fun j => by rw [hR]; exact lsN_len _ _
 have hRg : ∀ j l, l < n → (R j).getD l 0 = drr n W j l := fun j l hl => by rw [hR]; exact lsN_get hl
 rw [show drW true n W = .seq true 1 n fun j _ => .ints true (R j) by rw [hR]] at c2
 obtain ⟨k1, k2, k3⟩ := rkB_is (n := n) W
 generalize hAs : asB n W = A at *
 ((conv=>whnf);repeat (refine Wa ?_;(repeat (first|refine Wb ?_|refine Wc ?_|refine Wd ?_|refine We ?_|refine Wf ?_));(conv=>whnf)))
 refine APure.to (APure.arg1 subT c2) ?_
 ((conv=>whnf);repeat (refine Wa ?_;(repeat (first|refine Wb ?_|refine Wc ?_|refine Wd ?_|refine We ?_|refine Wf ?_));(conv=>whnf)))
 refine APure.to (APure.arg1 subT c3) ?_
 ((conv=>whnf);repeat (refine Wa ?_;(repeat (first|refine Wb ?_|refine Wc ?_|refine Wd ?_|refine We ?_|refine Wf ?_));(conv=>whnf)))
 refine br_ne (fun h => absurd rfl h) (fun _ => ?_)
 ((conv=>whnf);repeat (refine Wa ?_;(repeat (first|refine Wb ?_|refine Wc ?_|refine Wd ?_|refine We ?_|refine Wf ?_));(conv=>whnf)))
 refine APure.to c4 ?_
 ((conv=>whnf);repeat (refine Wa ?_;(repeat (first|refine Wb ?_|refine Wc ?_|refine Wd ?_|refine We ?_|refine Wf ?_));(conv=>whnf)))
 refine ⟨(show (0 : Int) ≤ (n : Int) by omega), ?_⟩
 refine ⟨Int.le_refl _, ?_⟩
 refine ⟨(show (8 : Int) * (n : Int) ≤ 140737488355328 by omega), ?_⟩
 rw [Int.toNat_natCast]
 ((conv=>whnf);repeat (refine Wa ?_;(repeat (first|refine Wb ?_|refine Wc ?_|refine Wd ?_|refine We ?_|refine Wf ?_));(conv=>whnf)))
 refine AW_loop (X := cx 237) (cx_ok 237) [0, 3, 7, 8, 10, 13, 14] (fun vs M => ∃ (i : Nat) (H : List Int), i ≤ n ∧ H.length = n ∧ (∀ j, j < i → H.getD (rkB n W j) 0 = j) ∧ vs = [tabV n W, .ptr 0 0 0 0, .int n, .seq true 1 n fun j _ => .ints true (R j), .ints true A, .sl 1 0 0 n, .int i] ∧ M = [some (zOb z d), some (hOb H)]) (fun vs _ => (n - (vs.getD 6 .any).toInt).toNat) ?_ ?_
 ·exact ⟨0, _, Nat.zero_le _, List.length_replicate, fun j hj => absurd hj (by omega), rfl, rfl⟩
 rintro vs M ⟨i, H, hi, hHl, hH, rfl, rfl⟩
 ((conv=>whnf);repeat (refine Wa ?_;(repeat (first|refine Wb ?_|refine Wc ?_|refine Wd ?_|refine We ?_|refine Wf ?_));(conv=>whnf)))
 refine br_dec (fun hlt => ?_) (fun hge => ?_)
 ·have hi' : i < n := by omega
  have e1 := k2 i hi'
  have e2 : (A.getD i 0).toNat = rkB n W i := by omega
  ((conv=>whnf);repeat (refine Wa ?_;(repeat (first|refine Wb ?_|refine Wc ?_|refine Wd ?_|refine We ?_|refine Wf ?_));(conv=>whnf)))
  refine ⟨(show (0 : Int) ≤ (i : Int) by omega), ?_⟩
  refine ⟨(show (i : Int) < (A.length : Int) by omega), ?_⟩
  ((conv=>whnf);repeat (refine Wa ?_;(repeat (first|refine Wb ?_|refine Wc ?_|refine Wd ?_|refine We ?_|refine Wf ?_));(conv=>whnf)))
  refine ⟨(show (0 : Int) ≤ A.getD i 0 by omega), ?_⟩
  refine ⟨(show A.getD i 0 < (n : Int) by omega), ?_⟩
  ((conv=>whnf);repeat (refine Wa ?_;(repeat (first|refine Wb ?_|refine Wc ?_|refine Wd ?_|refine We ?_|refine Wf ?_));(conv=>whnf)))
  refine ⟨(show (0 : Int) ≤ (i : Int) by omega), ?_⟩
  refine ⟨(show (i : Int) < (n : Int) by omega), ?_⟩
  ((conv=>whnf);repeat (refine Wa ?_;(repeat (first|refine Wb ?_|refine Wc ?_|refine Wd ?_|refine We ?_|refine Wf ?_));(conv=>whnf)))
  refine br_ne (fun h => absurd (show ((R i).length : Int) = n by rw [hRl]) h) (fun _ => ?_)
  ((conv=>whnf);repeat (refine Wa ?_;(repeat (first|refine Wb ?_|refine Wc ?_|refine Wd ?_|refine We ?_|refine Wf ?_));(conv=>whnf)))
  refine ⟨(show (0 : Int) ≤ (i : Int) by omega), ?_⟩
  refine ⟨(show (i : Int) < (n : Int) by omega), ?_⟩
  ((conv=>whnf);repeat (refine Wa ?_;(repeat (first|refine Wb ?_|refine Wc ?_|refine Wd ?_|refine We ?_|refine Wf ?_));(conv=>whnf)))
  refine ⟨(show (0 : Int) ≤ (i : Int) by omega), ?_⟩
  refine ⟨(show (i : Int) < ((R i).length : Int) by rw [hRl]; omega), ?_⟩
  ((conv=>whnf);repeat (refine Wa ?_;(repeat (first|refine Wb ?_|refine Wc ?_|refine Wd ?_|refine We ?_|refine Wf ?_));(conv=>whnf)))
  refine br_ne (fun h => absurd (show (R i).getD i 0 = 0 by rw [hRg i i hi', (drr_base n W).self hi']) h) (fun _ => ?_)
  ((conv=>whnf);repeat (refine Wa ?_;(repeat (first|refine Wb ?_|refine Wc ?_|refine Wd ?_|refine We ?_|refine Wf ?_));(conv=>whnf)))
  refine ⟨inr (by omega), ?_⟩
  ((conv=>whnf);repeat (refine Wa ?_;(repeat (first|refine Wb ?_|refine Wc ?_|refine Wd ?_|refine We ?_|refine Wf ?_));(conv=>whnf)))
  refine ⟨⟨i + 1, H.set (rkB n W i) (i : Nat), hi', by rw [List.length_set, hHl], fun j hj => ?_, rfl, congrArg (fun l => [some (zOb z d), some (hOb l)]) (show H.set (0 + (A.getD i 0).toNat) (i : Nat) = _ by rw [Nat.zero_add, e2])⟩, ?_⟩
  ·rw [getD_setL]
   rcases (by omega : j < i ∨ j = i) with h | rfl
   ·rw [if_neg (fun h' => k3 j i h hi' h'.1.symm), hH j h]
   ·rw [if_pos ⟨rfl, by rw [hHl]; exact (k2 j hi').1⟩]
  ·simp [V.toInt, sel, Env.get]; omega
 obtain rfl : n = i := by omega
 have hHo : ∀ l, l < n → H.getD l 0 = (hoB n W l : Nat) := fun l hl => by
  have q := hoB_is W hl
  have := hH _ q.1
  rwa [q.2] at this
 have hWl : ∀ j, j < n → (W j).length = n := fun j hj => (hW.2.2 j hj).1
 have hWb : ∀ j l, j < n → l < n → 0 ≤ (W j).getD l 0 ∧ (W j).getD l 0 ≤ 1000 := fun j l hj hl => (hW.2.2 j hj).2.1 l hl
 ((conv=>whnf);repeat (refine Wa ?_;(repeat (first|refine Wb ?_|refine Wc ?_|refine Wd ?_|refine We ?_|refine Wf ?_));(conv=>whnf)))
 refine AW_loop (X := cx 237) (cx_ok 237) [0, 3, 7, 8, 10, 13, 15] (fun vs M => ∃ k : Nat, k ≤ n ∧ vs = [tabV n W, .ptr 0 0 0 0, .int n, .seq true 1 n fun j _ => .ints true (R j), .ints true A, .sl 1 0 0 n, .int k] ∧ M = [some (zOb z d), some (hOb H)]) (fun vs _ => (n - (vs.getD 6 .any).toInt).toNat) ?_ ?_
 ·exact ⟨0, Nat.zero_le _, rfl, rfl⟩
 rintro vs M ⟨k, hk, rfl, rfl⟩
 ((conv=>whnf);repeat (refine Wa ?_;(repeat (first|refine Wb ?_|refine Wc ?_|refine Wd ?_|refine We ?_|refine Wf ?_));(conv=>whnf)))
 refine br_dec (fun hlt => ?_) (fun hge => ?_)
 ·have hk' : k < n := by omega
  ((conv=>whnf);repeat (refine Wa ?_;(repeat (first|refine Wb ?_|refine Wc ?_|refine Wd ?_|refine We ?_|refine Wf ?_));(conv=>whnf)))
  refine AW_loop (X := cx 237) (cx_ok 237) [0, 3, 7, 8, 10, 13, 15, 16] (fun vs M => ∃ l : Nat, l ≤ n ∧ vs = [tabV n W, .ptr 0 0 0 0, .int n, .seq true 1 n fun j _ => .ints true (R j), .ints true A, .sl 1 0 0 n, .int k, .int l] ∧ M = [some (zOb z d), some (hOb H)]) (fun vs _ => (n - (vs.getD 7 .any).toInt).toNat) ?_ ?_
  ·exact ⟨0, Nat.zero_le _, rfl, rfl⟩
  rintro vs M ⟨l, hl, rfl, rfl⟩
  ((conv=>whnf);repeat (refine Wa ?_;(repeat (first|refine Wb ?_|refine Wc ?_|refine Wd ?_|refine We ?_|refine Wf ?_));(conv=>whnf)))
  refine br_dec (fun hlt => ?_) (fun hge => ?_)
  ·have hl' : l < n := by omega
   have hh := (hoB_is W hl').1
   have hH0 : H.getD (0 + l) 0 = (hoB n W l : Nat) := by rw [Nat.zero_add]; exact hHo l hl'
   have hH1 : (H.getD (0 + l) 0).toNat = hoB n W l := by rw [hH0, Int.toNat_natCast]
   have b1 := hWb _ k hh hk'
   have b2 := hWb _ l hh hl'
   ((conv=>whnf);repeat (refine Wa ?_;(repeat (first|refine Wb ?_|refine Wc ?_|refine Wd ?_|refine We ?_|refine Wf ?_));(conv=>whnf)))
   refine AW_draw (X := cx 237) (cx_ok 237) mixed (by kernel_rfl) ?_
   ((conv=>whnf);repeat (refine Wa ?_;(repeat (first|refine Wb ?_|refine Wc ?_|refine Wd ?_|refine We ?_|refine Wf ?_));(conv=>whnf)))
   refine ⟨(show (0 : Int) ≤ (k : Int) by omega), ?_⟩
   refine ⟨(show (k : Int) < (n : Int) by omega), ?_⟩
   ((conv=>whnf);repeat (refine Wa ?_;(repeat (first|refine Wb ?_|refine Wc ?_|refine Wd ?_|refine We ?_|refine Wf ?_));(conv=>whnf)))
   refine ⟨(show (0 : Int) ≤ (l : Int) by omega), ?_⟩
   refine ⟨(show (l : Int) < ((R k).length : Int) by rw [hRl]; omega), ?_⟩
   ((conv=>whnf);repeat (refine Wa ?_;(repeat (first|refine Wb ?_|refine Wc ?_|refine Wd ?_|refine We ?_|refine Wf ?_));(conv=>whnf)))
   refine ⟨(show (0 : Int) ≤ (l : Int) by omega), ?_⟩
   refine ⟨(show (l : Int) < (n : Int) by omega), ?_⟩
   ((conv=>whnf);repeat (refine Wa ?_;(repeat (first|refine Wb ?_|refine Wc ?_|refine Wd ?_|refine We ?_|refine Wf ?_));(conv=>whnf)))
   refine ⟨(show (0 : Int) ≤ H.getD (0 + l) 0 by omega), ?_⟩
   refine ⟨(show H.getD (0 + l) 0 < (n : Int) by omega), ?_⟩
   ((conv=>whnf);repeat (refine Wa ?_;(repeat (first|refine Wb ?_|refine Wc ?_|refine Wd ?_|refine We ?_|refine Wf ?_));(conv=>whnf)))
   refine ⟨(show (0 : Int) ≤ (l : Int) by omega), ?_⟩
   refine ⟨(show (l : Int) < ((W (H.getD (0 + l) 0).toNat).length : Int) by rw [hH1, hWl _ hh]; omega), ?_⟩
   ((conv=>whnf);repeat (refine Wa ?_;(repeat (first|refine Wb ?_|refine Wc ?_|refine Wd ?_|refine We ?_|refine Wf ?_));(conv=>whnf)))
   refine ⟨(show (0 : Int) ≤ (l : Int) by omega), ?_⟩
   refine ⟨(show (l : Int) < (n : Int) by omega), ?_⟩
   ((conv=>whnf);repeat (refine Wa ?_;(repeat (first|refine Wb ?_|refine Wc ?_|refine Wd ?_|refine We ?_|refine Wf ?_));(conv=>whnf)))
   refine ⟨(show (0 : Int) ≤ H.getD (0 + l) 0 by omega), ?_⟩
   refine ⟨(show H.getD (0 + l) 0 < (n : Int) by omega), ?_⟩
   ((conv=>whnf);repeat (refine Wa ?_;(repeat (first|refine Wb ?_|refine Wc ?_|refine Wd ?_|refine We ?_|refine Wf ?_));(conv=>whnf)))
   refine ⟨(show (0 : Int) ≤ (k : Int) by omega), ?_⟩
   refine ⟨(show (k : Int) < ((W (H.getD (0 + l) 0).toNat).length : Int) by rw [hH1, hWl _ hh]; omega), ?_⟩
   ((conv=>whnf);repeat (refine Wa ?_;(repeat (first|refine Wb ?_|refine Wc ?_|refine Wd ?_|refine We ?_|refine Wf ?_));(conv=>whnf)))
   refine ⟨(show InR ((W (H.getD (0 + l) 0).toNat).getD l 0 - (W (H.getD (0 + l) 0).toNat).getD k 0) by rw [hH1]; exact inr (by omega)), ?_⟩
   ((conv=>whnf);repeat (refine Wa ?_;(repeat (first|refine Wb ?_|refine Wc ?_|refine Wd ?_|refine We ?_|refine Wf ?_));(conv=>whnf)))
   refine br_dec (fun h => absurd h (show ¬ (R k).getD l 0 > (W (H.getD (0 + l) 0).toNat).getD l 0 - (W (H.getD (0 + l) 0).toNat).getD k 0 by
    rw [hH1, hRg k l hl']
    have := (drr_base n W k l hk' hl').2
    unfold stp at this
    omega)) (fun _ => ?_)
   ((conv=>whnf);repeat (refine Wa ?_;(repeat (first|refine Wb ?_|refine Wc ?_|refine Wd ?_|refine We ?_|refine Wf ?_));(conv=>whnf)))
   refine AW_loop (X := cx 237) (cx_ok 237) [0, 3, 7, 8, 10, 13, 15, 16, 17] (fun vs M => ∃ y : Nat, y ≤ n ∧ vs = [tabV n W, .ptr 0 0 0 0, .int n, .seq true 1 n fun j _ => .ints true (R j), .ints true A, .sl 1 0 0 n, .int k, .int l, .int y] ∧ M = [some (zOb z d), some (hOb H)]) (fun vs _ => (n - (vs.getD 8 .any).toInt).toNat) ?_ ?_
   ·exact ⟨0, Nat.zero_le _, rfl, rfl⟩
   rintro vs M ⟨y, hy, rfl, rfl⟩
   ((conv=>whnf);repeat (refine Wa ?_;(repeat (first|refine Wb ?_|refine Wc ?_|refine Wd ?_|refine We ?_|refine Wf ?_));(conv=>whnf)))
   refine br_dec (fun hlt => ?_) (fun hge => ?_)
   ·have hy' : y < n := by omega
    have g1 := drr_bd hW hk' hy'
    have g2 := drr_bd hW hy' hl'
    ((conv=>whnf);repeat (refine Wa ?_;(repeat (first|refine Wb ?_|refine Wc ?_|refine Wd ?_|refine We ?_|refine Wf ?_));(conv=>whnf)))
    refine AW_draw (X := cx 237) (cx_ok 237) mixed (by kernel_rfl) ?_
    ((conv=>whnf);repeat (refine Wa ?_;(repeat (first|refine Wb ?_|refine Wc ?_|refine Wd ?_|refine We ?_|refine Wf ?_));(conv=>whnf)))
    refine ⟨(show (0 : Int) ≤ (k : Int) by omega), ?_⟩
    refine ⟨(show (k : Int) < (n : Int) by omega), ?_⟩
    ((conv=>whnf);repeat (refine Wa ?_;(repeat (first|refine Wb ?_|refine Wc ?_|refine Wd ?_|refine We ?_|refine Wf ?_));(conv=>whnf)))
    refine ⟨(show (0 : Int) ≤ (l : Int) by omega), ?_⟩
    refine ⟨(show (l : Int) < ((R k).length : Int) by rw [hRl]; omega), ?_⟩
    ((conv=>whnf);repeat (refine Wa ?_;(repeat (first|refine Wb ?_|refine Wc ?_|refine Wd ?_|refine We ?_|refine Wf ?_));(conv=>whnf)))
    refine ⟨(show (0 : Int) ≤ (k : Int) by omega), ?_⟩
    refine ⟨(show (k : Int) < (n : Int) by omega), ?_⟩
    ((conv=>whnf);repeat (refine Wa ?_;(repeat (first|refine Wb ?_|refine Wc ?_|refine Wd ?_|refine We ?_|refine Wf ?_));(conv=>whnf)))
    refine ⟨(show (0 : Int) ≤ (y : Int) by omega), ?_⟩
    refine ⟨(show (y : Int) < ((R k).length : Int) by rw [hRl]; omega), ?_⟩
    ((conv=>whnf);repeat (refine Wa ?_;(repeat (first|refine Wb ?_|refine Wc ?_|refine Wd ?_|refine We ?_|refine Wf ?_));(conv=>whnf)))
    refine ⟨(show (0 : Int) ≤ (y : Int) by omega), ?_⟩
    refine ⟨(show (y : Int) < (n : Int) by omega), ?_⟩
    ((conv=>whnf);repeat (refine Wa ?_;(repeat (first|refine Wb ?_|refine Wc ?_|refine Wd ?_|refine We ?_|refine Wf ?_));(conv=>whnf)))
    refine ⟨(show (0 : Int) ≤ (l : Int) by omega), ?_⟩
    refine ⟨(show (l : Int) < ((R y).length : Int) by rw [hRl]; omega), ?_⟩
    ((conv=>whnf);repeat (refine Wa ?_;(repeat (first|refine Wb ?_|refine Wc ?_|refine Wd ?_|refine We ?_|refine Wf ?_));(conv=>whnf)))
    refine ⟨(show InR ((R k).getD y 0 + (R y).getD l 0) by rw [hRg k y hy', hRg y l hl']; exact inr (by omega)), ?_⟩
    ((conv=>whnf);repeat (refine Wa ?_;(repeat (first|refine Wb ?_|refine Wc ?_|refine Wd ?_|refine We ?_|refine Wf ?_));(conv=>whnf)))
    refine br_dec (fun h => absurd h (show ¬ (R k).getD l 0 > (R k).getD y 0 + (R y).getD l 0 by
     rw [hRg k l hl', hRg k y hy', hRg y l hl']
     have := drr_tri n W y hy' k l hk' hl'
     omega)) (fun _ => ?_)
    ((conv=>whnf);repeat (refine Wa ?_;(repeat (first|refine Wb ?_|refine Wc ?_|refine Wd ?_|refine We ?_|refine Wf ?_));(conv=>whnf)))
    refine ⟨inr (by omega), ?_⟩
    ((conv=>whnf);repeat (refine Wa ?_;(repeat (first|refine Wb ?_|refine Wc ?_|refine Wd ?_|refine We ?_|refine Wf ?_));(conv=>whnf)))
    refine ⟨⟨y + 1, hy', rfl, rfl⟩, ?_⟩
    simp [V.toInt, sel, Env.get]; omega
   ·obtain rfl : n = y := by omega
    ((conv=>whnf);repeat (refine Wa ?_;(repeat (first|refine Wb ?_|refine Wc ?_|refine Wd ?_|refine We ?_|refine Wf ?_));(conv=>whnf)))
    refine ⟨inr (by omega), ?_⟩
    ((conv=>whnf);repeat (refine Wa ?_;(repeat (first|refine Wb ?_|refine Wc ?_|refine Wd ?_|refine We ?_|refine Wf ?_));(conv=>whnf)))
    refine ⟨⟨l + 1, hl', rfl, rfl⟩, ?_⟩
    simp [V.toInt, sel, Env.get]; omega
  ·obtain rfl : n = l := by omega
   ((conv=>whnf);repeat (refine Wa ?_;(repeat (first|refine Wb ?_|refine Wc ?_|refine Wd ?_|refine We ?_|refine Wf ?_));(conv=>whnf)))
   refine ⟨inr (by omega), ?_⟩
   ((conv=>whnf);repeat (refine Wa ?_;(repeat (first|refine Wb ?_|refine Wc ?_|refine Wd ?_|refine We ?_|refine Wf ?_));(conv=>whnf)))
   refine ⟨⟨k + 1, hk', rfl, rfl⟩, ?_⟩
   simp [V.toInt, sel, Env.get]; omega
 obtain rfl : n = k := by omega
 have c5 := Envy_pure n W A z d
 by_cases hR' : ¬ Rts n W z d
 ·obtain ⟨f, hf⟩ : ∃ f : Int, f = 2 := ⟨_, rfl⟩
  rw [show enV n W A z d = tup2 (.emp true) (.int 2) from if_neg (fun h => hR' h.2.2), ← hf] at c5
  rw [decide_eq_false (fun h => hR' h.2)] at c7
  ((conv=>whnf);repeat (refine Wa ?_;(repeat (first|refine Wb ?_|refine Wc ?_|refine Wd ?_|refine We ?_|refine Wf ?_));(conv=>whnf)))
  refine APure.to (APure.arg3 subT (Sub.refl _) (sub2 rfl rfl) c5) ?_
  ((conv=>whnf);repeat (refine Wa ?_;(repeat (first|refine Wb ?_|refine Wc ?_|refine Wd ?_|refine We ?_|refine Wf ?_));(conv=>whnf)))
  refine br_ne (fun _ => ?_) (fun h => absurd (show f = 0 from h) (by omega))
  ((conv=>whnf);repeat (refine Wa ?_;(repeat (first|refine Wb ?_|refine Wc ?_|refine Wd ?_|refine We ?_|refine Wf ?_));(conv=>whnf)))
  refine br_eq (fun _ => ?_) (fun h => absurd hf h)
  ((conv=>whnf);repeat (refine Wa ?_;(repeat (first|refine Wb ?_|refine Wc ?_|refine Wd ?_|refine We ?_|refine Wf ?_));(conv=>whnf)))
  refine APure.to (APure.arg2 subT (sub2 rfl rfl) c7) ?_
  ((conv=>whnf);repeat (refine Wa ?_;(repeat (first|refine Wb ?_|refine Wc ?_|refine Wd ?_|refine We ?_|refine Wf ?_));(conv=>whnf)))
  refine APure.to fin ?_
  ((conv=>whnf);repeat (refine Wa ?_;(repeat (first|refine Wb ?_|refine Wc ?_|refine Wd ?_|refine We ?_|refine Wf ?_));(conv=>whnf)))
  exact ⟨trivial, rfl⟩
 have hR' : Rts n W z d := Classical.not_not.1 hR'
 rw [show enV n W A z d = tup2 (prsV true (envT n W A z d n)) (.int 0) from if_pos ⟨hW, by rw [← hAs]; exact (asB_is (n := n) W).1, hR'⟩] at c5
 rw [decide_eq_true ⟨hW, hR'⟩] at c7
 ((conv=>whnf);repeat (refine Wa ?_;(repeat (first|refine Wb ?_|refine Wc ?_|refine Wd ?_|refine We ?_|refine Wf ?_));(conv=>whnf)))
 refine APure.to (APure.arg3 subT (Sub.refl _) (sub2 rfl rfl) c5) ?_
 ((conv=>whnf);repeat (refine Wa ?_;(repeat (first|refine Wb ?_|refine Wc ?_|refine Wd ?_|refine We ?_|refine Wf ?_));(conv=>whnf)))
 refine APure.to (APure.arg2 subT (sub2 rfl rfl) c7) ?_
 ((conv=>whnf);repeat (refine Wa ?_;(repeat (first|refine Wb ?_|refine Wc ?_|refine Wd ?_|refine We ?_|refine Wf ?_));(conv=>whnf)))
 have hd : 1 ≤ d ∧ d ≤ 10000000 := ⟨hR'.1.2.1, hR'.1.2.2.1⟩
 have hzl : z.length = n := hR'.1.1
 have hzb := rts_bet hR'.1
 rw [hzl] at hzb
 have hmd : ∀ a b, a < n → b < n → -10000000000 ≤ drr n W a b * d ∧ drr n W a b * d ≤ 10000000000 := fun a b ha hb => by
  have q := drr_bd hW ha hb
  have q1 := Int.mul_le_mul_of_nonneg_right q.2 (show 0 ≤ d by omega)
  have q2 := Int.mul_le_mul_of_nonneg_right q.1 (show 0 ≤ d by omega)
  omega
 refine AW_loop (X := cx 237) (cx_ok 237) [0, 3, 7, 8, 18, 19, 20] (fun vs M => ∃ (k : Nat) (F : Bool), k ≤ n ∧ (F = true ↔ ∀ a, a < k → ∀ b, b < n → z.getD b 0 - z.getD a 0 ≤ drr n W a b * d) ∧ vs = [tabV n W, .ptr 0 0 0 0, .int n, .seq true 1 n fun j _ => .ints true (R j), prsV true (envT n W A z d n), .bool F, .int k] ∧ M = [some (zOb z d), some (hOb H)]) (fun vs _ => (n - (vs.getD 6 .any).toInt).toNat) ?_ ?_
 ·exact ⟨0, true, Nat.zero_le _, ⟨fun _ a ha => absurd ha (by omega), fun _ => rfl⟩, rfl, rfl⟩
 rintro vs M ⟨k, F, hk, hF, rfl, rfl⟩
 ((conv=>whnf);repeat (refine Wa ?_;(repeat (first|refine Wb ?_|refine Wc ?_|refine Wd ?_|refine We ?_|refine Wf ?_));(conv=>whnf)))
 refine br_dec (fun hlt => ?_) (fun hge => ?_)
 ·have hk' : k < n := by omega
  ((conv=>whnf);repeat (refine Wa ?_;(repeat (first|refine Wb ?_|refine Wc ?_|refine Wd ?_|refine We ?_|refine Wf ?_));(conv=>whnf)))
  refine AW_loop (X := cx 237) (cx_ok 237) [0, 3, 7, 8, 18, 19, 20, 21] (fun vs M => ∃ (l : Nat) (F : Bool), l ≤ n ∧ (F = true ↔ (∀ a, a < k → ∀ b, b < n → z.getD b 0 - z.getD a 0 ≤ drr n W a b * d) ∧ ∀ b, b < l → z.getD b 0 - z.getD k 0 ≤ drr n W k b * d) ∧ vs = [tabV n W, .ptr 0 0 0 0, .int n, .seq true 1 n fun j _ => .ints true (R j), prsV true (envT n W A z d n), .bool F, .int k, .int l] ∧ M = [some (zOb z d), some (hOb H)]) (fun vs _ => (n - (vs.getD 7 .any).toInt).toNat) ?_ ?_
  ·exact ⟨0, F, Nat.zero_le _, ⟨fun h => ⟨hF.1 h, fun b hb => absurd hb (by omega)⟩, fun h => hF.2 h.1⟩, rfl, rfl⟩
  rintro vs M ⟨l, F, hl, hF, rfl, rfl⟩
  ((conv=>whnf);repeat (refine Wa ?_;(repeat (first|refine Wb ?_|refine Wc ?_|refine Wd ?_|refine We ?_|refine Wf ?_));(conv=>whnf)))
  refine br_dec (fun hlt => ?_) (fun hge => ?_)
  ·have hl' : l < n := by omega
   have b1 := hzb k hk'
   have b2 := hzb l hl'
   have b3 := hmd k l hk' hl'
   have hsub : z.getD l 0 - z.getD k 0 ≤ 100000000000 ∧ -100000000000 ≤ z.getD l 0 - z.getD k 0 := by omega
   ((conv=>whnf);repeat (refine Wa ?_;(repeat (first|refine Wb ?_|refine Wc ?_|refine Wd ?_|refine We ?_|refine Wf ?_));(conv=>whnf)))
   refine AW_draw (X := cx 237) (cx_ok 237) mixed (by kernel_rfl) ?_
   cases F with
   | false =>
    ((conv=>whnf);repeat (refine Wa ?_;(repeat (first|refine Wb ?_|refine Wc ?_|refine Wd ?_|refine We ?_|refine Wf ?_));(conv=>whnf)))
    refine ⟨inr (by omega), ?_⟩
    ((conv=>whnf);repeat (refine Wa ?_;(repeat (first|refine Wb ?_|refine Wc ?_|refine Wd ?_|refine We ?_|refine Wf ?_));(conv=>whnf)))
    refine ⟨⟨l + 1, false, hl', ⟨fun h => (nomatch h), fun h => hF.2 ⟨h.1, fun b hb => h.2 b (by omega)⟩⟩, rfl, rfl⟩, ?_⟩
    simp [V.toInt, sel, Env.get]; omega
   | true =>
    have hF := hF.1 rfl
    ((conv=>whnf);repeat (refine Wa ?_;(repeat (first|refine Wb ?_|refine Wc ?_|refine Wd ?_|refine We ?_|refine Wf ?_));(conv=>whnf)))
    refine ⟨(show (0 : Int) ≤ (l : Int) by omega), ?_⟩
    refine ⟨(show (l : Int) < (z.length : Int) by omega), ?_⟩
    ((conv=>whnf);repeat (refine Wa ?_;(repeat (first|refine Wb ?_|refine Wc ?_|refine Wd ?_|refine We ?_|refine Wf ?_));(conv=>whnf)))
    refine ⟨(show (0 : Int) ≤ (k : Int) by omega), ?_⟩
    refine ⟨(show (k : Int) < (z.length : Int) by omega), ?_⟩
    ((conv=>whnf);repeat (refine Wa ?_;(repeat (first|refine Wb ?_|refine Wc ?_|refine Wd ?_|refine We ?_|refine Wf ?_));(conv=>whnf)))
    refine ⟨(show InR (z.getD l 0 - z.getD k 0) from inr (by omega)), ?_⟩
    ((conv=>whnf);repeat (refine Wa ?_;(repeat (first|refine Wb ?_|refine Wc ?_|refine Wd ?_|refine We ?_|refine Wf ?_));(conv=>whnf)))
    refine ⟨(show (0 : Int) ≤ (k : Int) by omega), ?_⟩
    refine ⟨(show (k : Int) < (n : Int) by omega), ?_⟩
    ((conv=>whnf);repeat (refine Wa ?_;(repeat (first|refine Wb ?_|refine Wc ?_|refine Wd ?_|refine We ?_|refine Wf ?_));(conv=>whnf)))
    refine ⟨(show (0 : Int) ≤ (l : Int) by omega), ?_⟩
    refine ⟨(show (l : Int) < ((R k).length : Int) by rw [hRl]; omega), ?_⟩
    ((conv=>whnf);repeat (refine Wa ?_;(repeat (first|refine Wb ?_|refine Wc ?_|refine Wd ?_|refine We ?_|refine Wf ?_));(conv=>whnf)))
    refine ⟨(show InR ((R k).getD l 0 * d) by rw [hRg k l hl']; exact inr (by omega)), ?_⟩
    ((conv=>whnf);repeat (refine Wa ?_;(repeat (first|refine Wb ?_|refine Wc ?_|refine Wd ?_|refine We ?_|refine Wf ?_));(conv=>whnf)))
    refine ⟨inr (by omega), ?_⟩
    ((conv=>whnf);repeat (refine Wa ?_;(repeat (first|refine Wb ?_|refine Wc ?_|refine Wd ?_|refine We ?_|refine Wf ?_));(conv=>whnf)))
    refine ⟨⟨l + 1, decide (z.getD l 0 - z.getD k 0 ≤ (R k).getD l 0 * d), hl', ?_, rfl, rfl⟩, ?_⟩
    ·rw [decide_eq_true_iff, hRg k l hl']
     constructor
     ·intro h
      refine ⟨hF.1, fun b hb => ?_⟩
      rcases (by omega : b < l ∨ b = l) with h2 | rfl
      ·exact hF.2 b h2
      ·exact h
     ·intro h
      exact h.2 l (by omega)
    ·simp [V.toInt, sel, Env.get]; omega
  ·obtain rfl : n = l := by omega
   ((conv=>whnf);repeat (refine Wa ?_;(repeat (first|refine Wb ?_|refine Wc ?_|refine Wd ?_|refine We ?_|refine Wf ?_));(conv=>whnf)))
   refine ⟨inr (by omega), ?_⟩
   ((conv=>whnf);repeat (refine Wa ?_;(repeat (first|refine Wb ?_|refine Wc ?_|refine Wd ?_|refine We ?_|refine Wf ?_));(conv=>whnf)))
   refine ⟨⟨k + 1, F, hk', hF.trans ⟨fun h a ha => ?_, fun h => ⟨fun a ha => h a (by omega), h k (by omega)⟩⟩, rfl, rfl⟩, ?_⟩
   ·rcases (by omega : a < k ∨ a = k) with h2 | rfl
    ·exact h.1 a h2
    ·exact h.2
   ·simp [V.toInt, sel, Env.get]; omega
 obtain rfl : n = k := by omega
 have hmain : F = decide (((envT n W A z d n).length : Int) = 0) := by
  have q1 := noE_fits (W := W) (z := z) (n := n) (d := d) (by omega)
  rw [hAs] at q1
  have q2 : envT n W A z d n = [] ↔ NoE n W A z d := envT_nil n
  have q3 : ((envT n W A z d n).length : Int) = 0 ↔ envT n W A z d n = [] := by
   rw [← List.length_eq_zero_iff]
   omega
  have q4 : F = true ↔ ((envT n W A z d n).length : Int) = 0 := by
   rw [q3, q2, q1]
   exact hF
  cases F with
  | true => exact (decide_eq_true (q4.1 rfl)).symm
  | false => exact (decide_eq_false (fun h => nomatch (q4.2 h))).symm
 ((conv=>whnf);repeat (refine Wa ?_;(repeat (first|refine Wb ?_|refine Wc ?_|refine Wd ?_|refine We ?_|refine Wf ?_));(conv=>whnf)))
 refine br_mk (fun _ => ?_) (fun h => ?_)
 ·((conv=>whnf);repeat (refine Wa ?_;(repeat (first|refine Wb ?_|refine Wc ?_|refine Wd ?_|refine We ?_|refine Wf ?_));(conv=>whnf)))
  refine APure.to fin ?_
  ((conv=>whnf);repeat (refine Wa ?_;(repeat (first|refine Wb ?_|refine Wc ?_|refine Wd ?_|refine We ?_|refine Wf ?_));(conv=>whnf)))
  exact ⟨trivial, rfl⟩
 ·exfalso
  have h : (F == decide (((envT n W A z d n).length : Int) = 0)) = false := h
  rw [← hmain] at h
  cases F <;> cases h
end Go.Tri
