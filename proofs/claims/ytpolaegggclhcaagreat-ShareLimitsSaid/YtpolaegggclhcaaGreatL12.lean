/-
 LAW: ShareLimits.
-/
import Derived.Test.YtpolaegggclhcaaGreatM18
import Derived.Test.YtpolaegggclhcaaGreatB43
import Derived.Test.YtpolaegggclhcaaGreatB46
import Derived.Test.YtpolaegggclhcaaGreatE1
namespace Go.Tri
open Go.Proofs

theorem atMost2_pure (p d q e : Int) (h1 : InR (p * e)) (h2 : InR (q * d)) : APure Tryz.prog 17 [pairV p d, pairV q e] (fun R => R = .bool (decide (p * e ≤ q * d))) := by
 refine APure_of (X := cx 16) (cx_ok 16) rfl (rs := [(.tmp 4, 4)]) Tryz.func17 (by decide) rfl rfl rfl (by simp [cx]) (nofr2 nofrP nofrP) ?_
 intro hlen
 ((conv=>whnf);repeat (refine Wa ?_;(repeat (first|refine Wb ?_|refine Wc ?_|refine Wd ?_|refine We ?_|refine Wf ?_));(conv=>whnf)))
 refine ⟨h1, ?_⟩
 ((conv=>whnf);repeat (refine Wa ?_;(repeat (first|refine Wb ?_|refine Wc ?_|refine Wd ?_|refine We ?_|refine Wf ?_));(conv=>whnf)))
 refine ⟨h2, ?_⟩
 ((conv=>whnf);repeat (refine Wa ?_;(repeat (first|refine Wb ?_|refine Wc ?_|refine Wd ?_|refine We ?_|refine Wf ?_));(conv=>whnf)))
 exact ⟨trivial, rfl⟩
@[reducible] def raO (p q : Int) : Ob := ⟨41, 2, 0, .one [.int p, .int q]⟩
@[reducible] def zTb (z : List Int) (d : Int) : Ob := ⟨25, 2, 0, .one [.ints true z, .int d]⟩
theorem subPr {F : Nat → V} {x y : Int} (h0 : F 0 = .int x) (h1 : F 1 = .int y) : Sub (.agg 2 F) (pairV x y) := sub2 h0 h1
open Classical in
set_option maxRecDepth 100000 in
set_option maxHeartbeats 1600000 in
theorem ShareLimits_pure (n : Nat) (W : Nat → List Int) (a : Int) (ha : 0 ≤ a ∧ a ≤ 255) (z : List Int) (d : Int) : APure Tryz.prog 4 [tabV n W, .lit (.int .u8 a), parV false z d] (fun R => R = .bool true) := by
 refine APure_of (X := cx 231) (cx_ok 231) rfl (rs := [(.tmp 6, 4)]) Tryz.func4 (by decide) rfl rfl rfl (by simp [cx]) (nofr3 nofrT (show NoFr (.lit (.int .u8 a)) from trivial) nofrPa) ?_
 intro hlen
 have fin := alive_pure
 have c0 := small_pure n W
 have c1 := refRent_pure n W
 by_cases hW : ¬ Wis n W
 ·rw [show reV n W = tup2 (.int 0) (.bool false) from if_neg hW] at c1
  ((conv=>whnf);repeat (refine Wa ?_;(repeat (first|refine Wb ?_|refine Wc ?_|refine Wd ?_|refine We ?_|refine Wf ?_));(conv=>whnf)))
  refine APure.to (APure.arg1 subT c1) ?_
  ((conv=>whnf);repeat (refine Wa ?_;(repeat (first|refine Wb ?_|refine Wc ?_|refine Wd ?_|refine We ?_|refine Wf ?_));(conv=>whnf)))
  refine APure.to (APure.arg1 subT c0) ?_
  ((conv=>whnf);repeat (refine Wa ?_;(repeat (first|refine Wb ?_|refine Wc ?_|refine Wd ?_|refine We ?_|refine Wf ?_));(conv=>whnf)))
  refine br_not ?_
  refine br_mk (fun h => ?_) (fun h => ?_)
  ·((conv=>whnf);repeat (refine Wa ?_;(repeat (first|refine Wb ?_|refine Wc ?_|refine Wd ?_|refine We ?_|refine Wf ?_));(conv=>whnf)))
   refine APure.to fin ?_
   ((conv=>whnf);repeat (refine Wa ?_;(repeat (first|refine Wb ?_|refine Wc ?_|refine Wd ?_|refine We ?_|refine Wf ?_));(conv=>whnf)))
   exact ⟨trivial, rfl⟩
  ·((conv=>whnf);repeat (refine Wa ?_;(repeat (first|refine Wb ?_|refine Wc ?_|refine Wd ?_|refine We ?_|refine Wf ?_));(conv=>whnf)))
   refine APure.to fin ?_
   ((conv=>whnf);repeat (refine Wa ?_;(repeat (first|refine Wb ?_|refine Wc ?_|refine Wd ?_|refine We ?_|refine Wf ?_));(conv=>whnf)))
   exact ⟨trivial, rfl⟩
 have hW : Wis n W := Classical.not_not.1 hW
 have h1 := hW.1
 have h5 := hW.2.1
 have hS : Sml n W := ⟨by omega, fun i hi => by rw [(hW.2.2 i hi).1]; omega⟩
 rw [show reV n W = tup2 (.int (sumL (W 0) n)) (.bool true) from if_pos hW] at c1
 rw [decide_eq_true hS] at c0
 by_cases hz30 : (z.length : Int) > 30
 ·((conv=>whnf);repeat (refine Wa ?_;(repeat (first|refine Wb ?_|refine Wc ?_|refine Wd ?_|refine We ?_|refine Wf ?_));(conv=>whnf)))
  refine APure.to (APure.arg1 subT c1) ?_
  ((conv=>whnf);repeat (refine Wa ?_;(repeat (first|refine Wb ?_|refine Wc ?_|refine Wd ?_|refine We ?_|refine Wf ?_));(conv=>whnf)))
  refine APure.to (APure.arg1 subT c0) ?_
  ((conv=>whnf);repeat (refine Wa ?_;(repeat (first|refine Wb ?_|refine Wc ?_|refine Wd ?_|refine We ?_|refine Wf ?_));(conv=>whnf)))
  refine br_dec (fun _ => ?_) (fun h => absurd hz30 h)
  ((conv=>whnf);repeat (refine Wa ?_;(repeat (first|refine Wb ?_|refine Wc ?_|refine Wd ?_|refine We ?_|refine Wf ?_));(conv=>whnf)))
  refine APure.to fin ?_
  ((conv=>whnf);repeat (refine Wa ?_;(repeat (first|refine Wb ?_|refine Wc ?_|refine Wd ?_|refine We ?_|refine Wf ?_));(conv=>whnf)))
  exact ⟨trivial, rfl⟩
 have hAm := (asB_is (n := n) W).1
 have c2 := Dearer_pure hW
 have c3 := Assign_pure n W
 rw [show assV n W = tup3 (.ints true (asB n W)) (.int (wrS W (asB n W) n)) (.int 0) from if_pos hW] at c3
 obtain ⟨k, hk, hkn⟩ : ∃ k : Nat, Int.tmod a n = k ∧ k < n := ⟨(a % n).toNat, by
  rw [Int.tmod_eq_emod_of_nonneg ha.1]
  have := Int.emod_nonneg a (show (n : Int) ≠ 0 by omega)
  omega, by
  have := Int.emod_lt_of_pos a (show 0 < (n : Int) by omega)
  have := Int.emod_nonneg a (show (n : Int) ≠ 0 by omega)
  omega⟩
 have hri : riE n W (k : Nat) = 0 := (if_pos hW).trans (if_pos ⟨by omega, by omega⟩)
 have c4 := Rents_pure n W (k : Nat)
 rw [show rtV n W (k : Nat) = tup2 (parV true (rN n W k) (rD n W k)) (.int 0) from if_pos hri] at c4
 have c5 := Limits_pure n W (k : Nat)
 have hlow : -10000 ≤ sumL (W 0) n - roS n W k ∧ sumL (W 0) n - roS n W k ≤ 10000 := by
  have := rent_bd hW
  have := roS_bd hW hkn
  omega
 have hhigh : -10000 ≤ sumL (W 0) n + coS n W k n ∧ sumL (W 0) n + coS n W k n ≤ 10000 := by
  have := rent_bd hW
  have := coS_bd hW hkn n (Nat.le_refl _)
  omega
 have hlh : sumL (W 0) n - roS n W k ≤ sumL (W 0) n + coS n W k n := by
  have := low_high (W := W) hkn
  omega
 obtain ⟨ln, ld, lg, l1, l2, l3, l4, l5, l6⟩ := ratP_is (sumL (W 0) n - roS n W k) (show 1 ≤ (n : Int) by omega)
 obtain ⟨hn, hd', hg, g1, g2, g3, g4, g5, g6⟩ := ratP_is (sumL (W 0) n + coS n W k n) (show 1 ≤ (n : Int) by omega)
 rw [show liV n W (k : Nat) = tup3 (pairV ln ld) (pairV hn hd') (.int 0) from (if_pos hri).trans (by rw [← l1, ← g1]; rfl)] at c5
 have lb := fac_bd l2 l3 (show (0 : Int) ≤ 10000 by decide) hlow
 have hb := fac_bd g2 g3 (show (0 : Int) ≤ 10000 by decide) hhigh
 have hRt := rts_rN hW hkn
 have hrk := rN_k hW hkn
 have c6 := refIsRents_pure n W (rN n W k) (rD n W k)
 rw [decide_eq_true ⟨hW, hRt⟩] at c6
 have c7 := little_pure ln ld
 rw [decide_eq_true (show 1 ≤ ld ∧ ld < 1073741824 ∧ ln < 4294967296 ∧ ln > -4294967296 by omega)] at c7
 have c8 := little_pure hn hd'
 rw [decide_eq_true (show 1 ≤ hd' ∧ hd' < 1073741824 ∧ hn < 4294967296 ∧ hn > -4294967296 by omega)] at c8
 generalize hAs : asB n W = A at *
 ((conv=>whnf);repeat (refine Wa ?_;(repeat (first|refine Wb ?_|refine Wc ?_|refine Wd ?_|refine We ?_|refine Wf ?_));(conv=>whnf)))
 refine APure.to (APure.arg1 subT c1) ?_
 ((conv=>whnf);repeat (refine Wa ?_;(repeat (first|refine Wb ?_|refine Wc ?_|refine Wd ?_|refine We ?_|refine Wf ?_));(conv=>whnf)))
 refine APure.to (APure.arg1 subT c0) ?_
 ((conv=>whnf);repeat (refine Wa ?_;(repeat (first|refine Wb ?_|refine Wc ?_|refine Wd ?_|refine We ?_|refine Wf ?_));(conv=>whnf)))
 refine br_dec (fun h => absurd h hz30) (fun _ => ?_)
 ((conv=>whnf);repeat (refine Wa ?_;(repeat (first|refine Wb ?_|refine Wc ?_|refine Wd ?_|refine We ?_|refine Wf ?_));(conv=>whnf)))
 refine ⟨(show InR a from inr (by omega)), ?_⟩
 ((conv=>whnf);repeat (refine Wa ?_;(repeat (first|refine Wb ?_|refine Wc ?_|refine Wd ?_|refine We ?_|refine Wf ?_));(conv=>whnf)))
 refine ⟨(show (n : Int) ≠ 0 by omega), ?_⟩
 rw [hk]
 ((conv=>whnf);repeat (refine Wa ?_;(repeat (first|refine Wb ?_|refine Wc ?_|refine Wd ?_|refine We ?_|refine Wf ?_));(conv=>whnf)))
 refine APure.to (APure.arg1 subT c2) ?_
 ((conv=>whnf);repeat (refine Wa ?_;(repeat (first|refine Wb ?_|refine Wc ?_|refine Wd ?_|refine We ?_|refine Wf ?_));(conv=>whnf)))
 refine APure.to (APure.arg2 subT (Sub.refl _) c5) ?_
 ((conv=>whnf);repeat (refine Wa ?_;(repeat (first|refine Wb ?_|refine Wc ?_|refine Wd ?_|refine We ?_|refine Wf ?_));(conv=>whnf)))
 refine APure.to (APure.arg2 subT (Sub.refl _) c4) ?_
 ((conv=>whnf);repeat (refine Wa ?_;(repeat (first|refine Wb ?_|refine Wc ?_|refine Wd ?_|refine We ?_|refine Wf ?_));(conv=>whnf)))
 refine APure.to (APure.arg1 subT c3) ?_
 ((conv=>whnf);repeat (refine Wa ?_;(repeat (first|refine Wb ?_|refine Wc ?_|refine Wd ?_|refine We ?_|refine Wf ?_));(conv=>whnf)))
 refine APure.to (APure.arg1 (subPr rfl rfl) c7) ?_
 ((conv=>whnf);repeat (refine Wa ?_;(repeat (first|refine Wb ?_|refine Wc ?_|refine Wd ?_|refine We ?_|refine Wf ?_));(conv=>whnf)))
 refine APure.to (APure.arg1 (subPr rfl rfl) c8) ?_
 ((conv=>whnf);repeat (refine Wa ?_;(repeat (first|refine Wb ?_|refine Wc ?_|refine Wd ?_|refine We ?_|refine Wf ?_));(conv=>whnf)))
 refine br_ne (fun h => absurd rfl h) (fun _ => ?_)
 ((conv=>whnf);repeat (refine Wa ?_;(repeat (first|refine Wb ?_|refine Wc ?_|refine Wd ?_|refine We ?_|refine Wf ?_));(conv=>whnf)))
 refine APure.to (APure.arg2 subT (sub2 rfl rfl) c6) ?_
 ((conv=>whnf);repeat (refine Wa ?_;(repeat (first|refine Wb ?_|refine Wc ?_|refine Wd ?_|refine We ?_|refine Wf ?_));(conv=>whnf)))
 obtain ⟨R, hR⟩ : ∃ R : Nat → List Int, R = fun j => lsN n (drr n W j) := ⟨_, rfl⟩
 have hRl : ∀ j, (R j).length = n := fun j => by rw [hR]; exact lsN_len _ _
 have hRg : ∀ j l, l < n → (R j).getD l 0 = drr n W j l := fun j l hl => by rw [hR]; exact lsN_get hl
 refine AW_loop (X := cx 231) (cx_ok 231) [0, 5, 9, 10, 11, 13, 14, 16, 18, 21, 22, 23] (fun vs M => ∃ l : Nat, l ≤ n ∧ vs = [tabV n W, .ptr 0 0 0 0, .int n, .int k, .seq true 1 n fun j _ => .ints true (R j), .ptr 1 0 0 0, .ptr 2 0 0 0, .ptr 3 0 0 0, .ints true A, .int (sumL (W 0) n), .int (sumL (W 0) n), .int l] ∧ M = [some (zOb z d), some (raO ln ld), some (raO hn hd'), some (zTb (rN n W k) (rD n W k))]) (fun vs _ => (n - (vs.getD 11 .any).toInt).toNat) ?_ ?_
 ·exact ⟨0, Nat.zero_le _, by rw [hR]; rfl, rfl⟩
 rintro vs M ⟨l, hl, rfl, rfl⟩
 ((conv=>whnf);repeat (refine Wa ?_;(repeat (first|refine Wb ?_|refine Wc ?_|refine Wd ?_|refine We ?_|refine Wf ?_));(conv=>whnf)))
 refine br_dec (fun hlt => ?_) (fun hge => ?_)
 ·have hl' : l < n := by omega
  ((conv=>whnf);repeat (refine Wa ?_;(repeat (first|refine Wb ?_|refine Wc ?_|refine Wd ?_|refine We ?_|refine Wf ?_));(conv=>whnf)))
  refine ⟨(show (0 : Int) ≤ (l : Int) by omega), ?_⟩
  refine ⟨(show (l : Int) < (n : Int) by omega), ?_⟩
  ((conv=>whnf);repeat (refine Wa ?_;(repeat (first|refine Wb ?_|refine Wc ?_|refine Wd ?_|refine We ?_|refine Wf ?_));(conv=>whnf)))
  refine br_ne (fun h => absurd (show ((R l).length : Int) = n by rw [hRl]) h) (fun _ => ?_)
  ((conv=>whnf);repeat (refine Wa ?_;(repeat (first|refine Wb ?_|refine Wc ?_|refine Wd ?_|refine We ?_|refine Wf ?_));(conv=>whnf)))
  refine ⟨inr (by omega), ?_⟩
  ((conv=>whnf);repeat (refine Wa ?_;(repeat (first|refine Wb ?_|refine Wc ?_|refine Wd ?_|refine We ?_|refine Wf ?_));(conv=>whnf)))
  refine ⟨⟨l + 1, hl', rfl, rfl⟩, ?_⟩
  simp [V.toInt, sel, Env.get]; omega
 ((conv=>whnf);repeat (refine Wa ?_;(repeat (first|refine Wb ?_|refine Wc ?_|refine Wd ?_|refine We ?_|refine Wf ?_));(conv=>whnf)))
 refine AW_loop (X := cx 231) (cx_ok 231) [0, 5, 9, 10, 11, 13, 14, 16, 18, 21, 22, 24] (fun vs M => ∃ l : Nat, l ≤ n ∧ vs = [tabV n W, .ptr 0 0 0 0, .int n, .int k, .seq true 1 n fun j _ => .ints true (R j), .ptr 1 0 0 0, .ptr 2 0 0 0, .ptr 3 0 0 0, .ints true A, .int (sumL (W 0) n - sumL (lsN n (drr n W k)) l), .int (sumL (W 0) n + coS n W k l), .int l] ∧ M = [some (zOb z d), some (raO ln ld), some (raO hn hd'), some (zTb (rN n W k) (rD n W k))]) (fun vs _ => (n - (vs.getD 11 .any).toInt).toNat) ?_ ?_
 ·exact ⟨0, Nat.zero_le _, by simp only [sumL, coS, Int.sub_zero, Int.add_zero]; rfl, rfl⟩
 clear hge hl l
 rintro vs M ⟨l, hl, rfl, rfl⟩
 ((conv=>whnf);repeat (refine Wa ?_;(repeat (first|refine Wb ?_|refine Wc ?_|refine Wd ?_|refine We ?_|refine Wf ?_));(conv=>whnf)))
 refine br_dec (fun hlt => ?_) (fun hge => ?_)
 ·have hl' : l < n := by omega
  have b0 := rent_bd hW
  have b1 := sumL_bd2 (row_bet hW hkn) (l + 1) (by rw [lsN_len]; omega)
  have b2 := coS_bd hW hkn (l + 1) hl'
  have e1 : sumL (W 0) n - sumL (lsN n (drr n W k)) l - (R k).getD l 0 = sumL (W 0) n - sumL (lsN n (drr n W k)) (l + 1) := by
   rw [hRg k l hl']
   simp only [sumL]
   rw [lsN_get hl']
   omega
  have e2 : sumL (W 0) n + coS n W k l + (R l).getD k 0 = sumL (W 0) n + coS n W k (l + 1) := by
   rw [hRg l k hkn]
   simp only [coS]
   omega
  ((conv=>whnf);repeat (refine Wa ?_;(repeat (first|refine Wb ?_|refine Wc ?_|refine Wd ?_|refine We ?_|refine Wf ?_));(conv=>whnf)))
  refine ⟨(show (0 : Int) ≤ (k : Int) by omega), ?_⟩
  refine ⟨(show (k : Int) < (n : Int) by omega), ?_⟩
  ((conv=>whnf);repeat (refine Wa ?_;(repeat (first|refine Wb ?_|refine Wc ?_|refine Wd ?_|refine We ?_|refine Wf ?_));(conv=>whnf)))
  refine ⟨(show (0 : Int) ≤ (l : Int) by omega), ?_⟩
  refine ⟨(show (l : Int) < ((R k).length : Int) by rw [hRl]; omega), ?_⟩
  ((conv=>whnf);repeat (refine Wa ?_;(repeat (first|refine Wb ?_|refine Wc ?_|refine Wd ?_|refine We ?_|refine Wf ?_));(conv=>whnf)))
  refine ⟨(show InR (sumL (W 0) n - sumL (lsN n (drr n W k)) l - (R k).getD l 0) by rw [e1]; exact inr (by omega)), ?_⟩
  ((conv=>whnf);repeat (refine Wa ?_;(repeat (first|refine Wb ?_|refine Wc ?_|refine Wd ?_|refine We ?_|refine Wf ?_));(conv=>whnf)))
  refine ⟨(show (0 : Int) ≤ (l : Int) by omega), ?_⟩
  refine ⟨(show (l : Int) < (n : Int) by omega), ?_⟩
  ((conv=>whnf);repeat (refine Wa ?_;(repeat (first|refine Wb ?_|refine Wc ?_|refine Wd ?_|refine We ?_|refine Wf ?_));(conv=>whnf)))
  refine ⟨(show (0 : Int) ≤ (k : Int) by omega), ?_⟩
  refine ⟨(show (k : Int) < ((R l).length : Int) by rw [hRl]; omega), ?_⟩
  ((conv=>whnf);repeat (refine Wa ?_;(repeat (first|refine Wb ?_|refine Wc ?_|refine Wd ?_|refine We ?_|refine Wf ?_));(conv=>whnf)))
  refine ⟨(show InR (sumL (W 0) n + coS n W k l + (R l).getD k 0) by rw [e2]; exact inr (by omega)), ?_⟩
  ((conv=>whnf);repeat (refine Wa ?_;(repeat (first|refine Wb ?_|refine Wc ?_|refine Wd ?_|refine We ?_|refine Wf ?_));(conv=>whnf)))
  refine ⟨inr (by omega), ?_⟩
  ((conv=>whnf);repeat (refine Wa ?_;(repeat (first|refine Wb ?_|refine Wc ?_|refine Wd ?_|refine We ?_|refine Wf ?_));(conv=>whnf)))
  refine ⟨⟨l + 1, hl', ?_, rfl⟩, ?_⟩
  ·rw [← e1, ← e2]; rfl
  ·simp [V.toInt, sel, Env.get]; omega
 obtain rfl : n = l := by omega
 have hroS : sumL (lsN n (drr n W k)) n = roS n W k := rfl
 rw [hroS]
 have e1 := cross_eq l3 l4
 have e2 := cross_eq g3 g4
 have e3 := cross_rn l2 l3 l4 hrk
 have e4 : ln * hd' ≤ hn * ld := cross_le (show (0 : Int) ≤ n by omega) l2 g2 l3 l4 g3 g4 hlh
 have zb := rts_bet hRt.1 k (by rw [hRt.1.1]; exact hkn)
 have zd := hRt.1.2.2.1
 have zd1 := hRt.1.2.1
 have hrnl : (rN n W k).length = n := hRt.1.1
 have c9 := atMost2_pure ln ld hn hd' (mul_in (X := 10000) (Y := 5) lb (by omega) (by decide)) (mul_in (X := 10000) (Y := 5) hb (by omega) (by decide))
 rw [decide_eq_true e4] at c9
 have hFB := fun (h : Rts n W z d) (h' : Fits n W z d) => fits_between h h' hkn
 generalize rD n W k = rd at *
 generalize rN n W k = rn at *
 generalize roS n W k = ro at *
 generalize coS n W k n = co at *
 ((conv=>whnf);repeat (refine Wa ?_;(repeat (first|refine Wb ?_|refine Wc ?_|refine Wd ?_|refine We ?_|refine Wf ?_));(conv=>whnf)))
 refine AW_draw (X := cx 231) (cx_ok 231) mixed (by kernel_rfl) ?_
 ((conv=>whnf);repeat (refine Wa ?_;(repeat (first|refine Wb ?_|refine Wc ?_|refine Wd ?_|refine We ?_|refine Wf ?_));(conv=>whnf)))
 refine ⟨(show InR (ln * (n : Int)) from mul_in (X := 10000) (Y := 5) lb (by omega) (by decide)), ?_⟩
 ((conv=>whnf);repeat (refine Wa ?_;(repeat (first|refine Wb ?_|refine Wc ?_|refine Wd ?_|refine We ?_|refine Wf ?_));(conv=>whnf)))
 refine ⟨(show InR ((sumL (W 0) n - ro) * ld) from mul_in (X := 10000) (Y := 5) hlow (by omega) (by decide)), ?_⟩
 ((conv=>whnf);repeat (refine Wa ?_;(repeat (first|refine Wb ?_|refine Wc ?_|refine Wd ?_|refine We ?_|refine Wf ?_));(conv=>whnf)))
 refine br_ne (fun h => absurd e1 h) (fun _ => ?_)
 ((conv=>whnf);repeat (refine Wa ?_;(repeat (first|refine Wb ?_|refine Wc ?_|refine Wd ?_|refine We ?_|refine Wf ?_));(conv=>whnf)))
 refine ⟨(show InR (hn * (n : Int)) from mul_in (X := 10000) (Y := 5) hb (by omega) (by decide)), ?_⟩
 ((conv=>whnf);repeat (refine Wa ?_;(repeat (first|refine Wb ?_|refine Wc ?_|refine Wd ?_|refine We ?_|refine Wf ?_));(conv=>whnf)))
 refine ⟨(show InR ((sumL (W 0) n + co) * hd') from mul_in (X := 10000) (Y := 5) hhigh (by omega) (by decide)), ?_⟩
 ((conv=>whnf);repeat (refine Wa ?_;(repeat (first|refine Wb ?_|refine Wc ?_|refine Wd ?_|refine We ?_|refine Wf ?_));(conv=>whnf)))
 refine br_ne (fun h => absurd e2 h) (fun _ => ?_)
 ((conv=>whnf);repeat (refine Wa ?_;(repeat (first|refine Wb ?_|refine Wc ?_|refine Wd ?_|refine We ?_|refine Wf ?_));(conv=>whnf)))
 refine ⟨(show (0 : Int) ≤ (k : Int) by omega), ?_⟩
 refine ⟨(show (k : Int) < (rn.length : Int) by rw [hrnl]; omega), ?_⟩
 ((conv=>whnf);repeat (refine Wa ?_;(repeat (first|refine Wb ?_|refine Wc ?_|refine Wd ?_|refine We ?_|refine Wf ?_));(conv=>whnf)))
 refine ⟨(show InR (rn.getD k 0 * ld) from mul_in (X := 50000000000) (Y := 5) zb (by omega) (by decide)), ?_⟩
 ((conv=>whnf);repeat (refine Wa ?_;(repeat (first|refine Wb ?_|refine Wc ?_|refine Wd ?_|refine We ?_|refine Wf ?_));(conv=>whnf)))
 refine ⟨(show InR (ln * rd) from mul_in (X := 10000) (Y := 10000000) lb (by omega) (by decide)), ?_⟩
 ((conv=>whnf);repeat (refine Wa ?_;(repeat (first|refine Wb ?_|refine Wc ?_|refine Wd ?_|refine We ?_|refine Wf ?_));(conv=>whnf)))
 refine br_ne (fun h => absurd e3 h) (fun _ => ?_)
 ((conv=>whnf);repeat (refine Wa ?_;(repeat (first|refine Wb ?_|refine Wc ?_|refine Wd ?_|refine We ?_|refine Wf ?_));(conv=>whnf)))
 refine ⟨_, APure.arg2 (subPr rfl rfl) (subPr rfl rfl) c9, ?_⟩
 ((conv=>whnf);repeat (refine Wa ?_;(repeat (first|refine Wb ?_|refine Wc ?_|refine Wd ?_|refine We ?_|refine Wf ?_));(conv=>whnf)))
 have cE := Envy_pure n W A z d
 have cR := refIsRents_pure n W z d
 by_cases hR' : ¬ Rts n W z d
 ·obtain ⟨f, hf⟩ : ∃ f : Int, f = 2 := ⟨_, rfl⟩
  rw [show enV n W A z d = tup2 (.emp true) (.int 2) from if_neg (fun h => hR' h.2.2), ← hf] at cE
  refine APure.to (APure.arg3 subT (Sub.refl _) (sub2 rfl rfl) cE) ?_
  ((conv=>whnf);repeat (refine Wa ?_;(repeat (first|refine Wb ?_|refine Wc ?_|refine Wd ?_|refine We ?_|refine Wf ?_));(conv=>whnf)))
  refine br_ne (fun _ => ?_) (fun h => absurd (show f = 0 from h) (by omega))
  ((conv=>whnf);repeat (refine Wa ?_;(repeat (first|refine Wb ?_|refine Wc ?_|refine Wd ?_|refine We ?_|refine Wf ?_));(conv=>whnf)))
  refine APure.to fin ?_
  ((conv=>whnf);repeat (refine Wa ?_;(repeat (first|refine Wb ?_|refine Wc ?_|refine Wd ?_|refine We ?_|refine Wf ?_));(conv=>whnf)))
  exact ⟨trivial, rfl⟩
 have hR' : Rts n W z d := Classical.not_not.1 hR'
 rw [show enV n W A z d = tup2 (prsV true (envT n W A z d n)) (.int 0) from if_pos ⟨hW, hAm, hR'⟩] at cE
 rw [decide_eq_true ⟨hW, hR'⟩] at cR
 refine APure.to (APure.arg3 subT (Sub.refl _) (sub2 rfl rfl) cE) ?_
 have q1 := noE_fits (W := W) (z := z) (n := n) (d := d) (by have := hR'.1.2.1; omega)
 rw [hAs] at q1
 have q2 : envT n W A z d n = [] ↔ NoE n W A z d := envT_nil n
 generalize envT n W A z d n = L at *
 ((conv=>whnf);repeat (refine Wa ?_;(repeat (first|refine Wb ?_|refine Wc ?_|refine Wd ?_|refine We ?_|refine Wf ?_));(conv=>whnf)))
 refine br_dec (fun _ => ?_) (fun h => ?_)
 ·((conv=>whnf);repeat (refine Wa ?_;(repeat (first|refine Wb ?_|refine Wc ?_|refine Wd ?_|refine We ?_|refine Wf ?_));(conv=>whnf)))
  refine APure.to fin ?_
  ((conv=>whnf);repeat (refine Wa ?_;(repeat (first|refine Wb ?_|refine Wc ?_|refine Wd ?_|refine We ?_|refine Wf ?_));(conv=>whnf)))
  exact ⟨trivial, rfl⟩
 have hL : L = [] := List.length_eq_zero_iff.1 (by have h : ¬ (L.length : Int) > 0 := h; omega)
 have hB0 := hFB hR' (q1.1 (q2.1 hL))
 have zb2 := rts_bet hR'.1 k (by rw [hR'.1.1]; exact hkn)
 have d1 := hR'.1.2.1
 have d2 := hR'.1.2.2.1
 have f1 : ln * d ≤ z.getD k 0 * ld := cross_lo l2 l3 l4 hB0.1
 have f2 : z.getD k 0 * hd' ≤ hn * d := cross_hi g2 g3 g4 hB0.2
 have c10 := atMost2_pure ln ld (z.getD k 0) d (mul_in (X := 10000) (Y := 10000000) lb (by omega) (by decide)) (mul_in (X := 50000000000) (Y := 5) zb2 (by omega) (by decide))
 rw [decide_eq_true f1] at c10
 have c11 := atMost2_pure (z.getD k 0) d hn hd' (mul_in (X := 50000000000) (Y := 5) zb2 (by omega) (by decide)) (mul_in (X := 10000) (Y := 10000000) hb (by omega) (by decide))
 rw [decide_eq_true f2] at c11
 ((conv=>whnf);repeat (refine Wa ?_;(repeat (first|refine Wb ?_|refine Wc ?_|refine Wd ?_|refine We ?_|refine Wf ?_));(conv=>whnf)))
 refine APure.to (APure.arg2 subT (sub2 rfl rfl) cR) ?_
 ((conv=>whnf);repeat (refine Wa ?_;(repeat (first|refine Wb ?_|refine Wc ?_|refine Wd ?_|refine We ?_|refine Wf ?_));(conv=>whnf)))
 refine AW_draw (X := cx 231) (cx_ok 231) mixed (by kernel_rfl) ?_
 ((conv=>whnf);repeat (refine Wa ?_;(repeat (first|refine Wb ?_|refine Wc ?_|refine Wd ?_|refine We ?_|refine Wf ?_));(conv=>whnf)))
 refine ⟨(show (0 : Int) ≤ (k : Int) by omega), ?_⟩
 refine ⟨(show (k : Int) < (z.length : Int) by rw [hR'.1.1]; omega), ?_⟩
 ((conv=>whnf);repeat (refine Wa ?_;(repeat (first|refine Wb ?_|refine Wc ?_|refine Wd ?_|refine We ?_|refine Wf ?_));(conv=>whnf)))
 refine APure.to (APure.arg2 (subPr rfl rfl) (subPr rfl rfl) c10) ?_
 ((conv=>whnf);repeat (refine Wa ?_;(repeat (first|refine Wb ?_|refine Wc ?_|refine Wd ?_|refine We ?_|refine Wf ?_));(conv=>whnf)))
 refine APure.to (APure.arg2 (subPr rfl rfl) (subPr rfl rfl) c11) ?_
 ((conv=>whnf);repeat (refine Wa ?_;(repeat (first|refine Wb ?_|refine Wc ?_|refine Wd ?_|refine We ?_|refine Wf ?_));(conv=>whnf)))
 refine APure.to fin ?_
 ((conv=>whnf);repeat (refine Wa ?_;(repeat (first|refine Wb ?_|refine Wc ?_|refine Wd ?_|refine We ?_|refine Wf ?_));(conv=>whnf)))
 exact ⟨trivial, rfl⟩
end Go.Tri
