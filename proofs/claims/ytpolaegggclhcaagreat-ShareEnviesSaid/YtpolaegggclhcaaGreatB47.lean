/-
 CONTRACTS: Envy, the reference's.
-/
import Derived.Test.YtpolaegggclhcaaGreatB43
import Derived.Test.YtpolaegggclhcaaGreatB45
namespace Go.Tri
open Go.Proofs

open Classical in
set_option maxRecDepth 100000 in
theorem refEnvy_pure (n : Nat) (W : Nat → List Int) (r z : List Int) (d : Int) : APure Tryz.prog 9 [tabV n W, .ints false r, parV false z d] (fun R => R = enV n W r z d) := by
 refine APure_of (X := cx 90) (cx_ok 90) rfl (rs := [(.tmp 6, 29), (.tmp 7, 30)]) Tryz.func9 (by decide) rfl rfl rfl (by simp [cx]) (nofr3 nofrT (show NoFr (.ints false r) from rfl) nofrPa) ?_
 intro hlen
 have c1 := refRent_pure n W
 have c2 := refIsAssignment_pure n r
 have c3 := refIsRents_pure n W z d
 by_cases hW : ¬ Wis n W
 ·rw [show reV n W = tup2 (.int 0) (.bool false) from if_neg hW] at c1
  rw [show enV n W r z d = tup2 (.emp true) (.int 2) from if_neg (fun h => hW h.1)]
  ((conv=>whnf);repeat (refine Wa ?_;(repeat (first|refine Wb ?_|refine Wc ?_|refine Wd ?_|refine We ?_|refine Wf ?_));(conv=>whnf)))
  refine APure.to (APure.arg1 subT c1) ?_
  ((conv=>whnf);repeat (refine Wa ?_;(repeat (first|refine Wb ?_|refine Wc ?_|refine Wd ?_|refine We ?_|refine Wf ?_));(conv=>whnf)))
  exact ⟨trivial, trivial, rfl⟩
 have hW : Wis n W := Classical.not_not.1 hW
 have h1 := hW.1
 have h5 := hW.2.1
 have c2 := c2 (by omega)
 rw [show reV n W = tup2 (.int (sumL (W 0) n)) (.bool true) from if_pos hW] at c1
 by_cases hr : ¬ r ∈ asg n n []
 ·rw [show enV n W r z d = tup2 (.emp true) (.int 2) from if_neg (fun h => hr h.2.1)]
  rw [decide_eq_false hr] at c2
  ((conv=>whnf);repeat (refine Wa ?_;(repeat (first|refine Wb ?_|refine Wc ?_|refine Wd ?_|refine We ?_|refine Wf ?_));(conv=>whnf)))
  refine APure.to (APure.arg1 subT c1) ?_
  ((conv=>whnf);repeat (refine Wa ?_;(repeat (first|refine Wb ?_|refine Wc ?_|refine Wd ?_|refine We ?_|refine Wf ?_));(conv=>whnf)))
  refine APure.to c2 ?_
  ((conv=>whnf);repeat (refine Wa ?_;(repeat (first|refine Wb ?_|refine Wc ?_|refine Wd ?_|refine We ?_|refine Wf ?_));(conv=>whnf)))
  exact ⟨trivial, trivial, rfl⟩
 have hr : r ∈ asg n n [] := Classical.not_not.1 hr
 rw [decide_eq_true hr] at c2
 by_cases hR : ¬ Rts n W z d
 ·rw [show enV n W r z d = tup2 (.emp true) (.int 2) from if_neg (fun h => hR h.2.2)]
  rw [decide_eq_false (fun h => hR h.2)] at c3
  ((conv=>whnf);repeat (refine Wa ?_;(repeat (first|refine Wb ?_|refine Wc ?_|refine Wd ?_|refine We ?_|refine Wf ?_));(conv=>whnf)))
  refine APure.to (APure.arg1 subT c1) ?_
  ((conv=>whnf);repeat (refine Wa ?_;(repeat (first|refine Wb ?_|refine Wc ?_|refine Wd ?_|refine We ?_|refine Wf ?_));(conv=>whnf)))
  refine APure.to c2 ?_
  ((conv=>whnf);repeat (refine Wa ?_;(repeat (first|refine Wb ?_|refine Wc ?_|refine Wd ?_|refine We ?_|refine Wf ?_));(conv=>whnf)))
  refine APure.to (APure.arg2 subT (sub2 rfl rfl) c3) ?_
  ((conv=>whnf);repeat (refine Wa ?_;(repeat (first|refine Wb ?_|refine Wc ?_|refine Wd ?_|refine We ?_|refine Wf ?_));(conv=>whnf)))
  exact ⟨trivial, trivial, rfl⟩
 have hR : Rts n W z d := Classical.not_not.1 hR
 rw [decide_eq_true ⟨hW, hR⟩] at c3
 rw [show enV n W r z d = tup2 (prsV true (envT n W r z d n)) (.int 0) from if_pos ⟨hW, hr, hR⟩]
 have hr1 := asg_get.1 hr
 have hz : z.length = n := hR.1.1
 ((conv=>whnf);repeat (refine Wa ?_;(repeat (first|refine Wb ?_|refine Wc ?_|refine Wd ?_|refine We ?_|refine Wf ?_));(conv=>whnf)))
 refine APure.to (APure.arg1 subT c1) ?_
 ((conv=>whnf);repeat (refine Wa ?_;(repeat (first|refine Wb ?_|refine Wc ?_|refine Wd ?_|refine We ?_|refine Wf ?_));(conv=>whnf)))
 refine APure.to c2 ?_
 ((conv=>whnf);repeat (refine Wa ?_;(repeat (first|refine Wb ?_|refine Wc ?_|refine Wd ?_|refine We ?_|refine Wf ?_));(conv=>whnf)))
 refine APure.to (APure.arg2 subT (sub2 rfl rfl) c3) ?_
 ((conv=>whnf);repeat (refine Wa ?_;(repeat (first|refine Wb ?_|refine Wc ?_|refine Wd ?_|refine We ?_|refine Wf ?_));(conv=>whnf)))
 refine AW_nil 1 [0, 1, 5, 10, 11] [tabV n W, .ints false r, .ptr 0 0 0 0, .sl 1 0 0 0, .int 0] [some (zOb z d), some (pOb 0 [])] rfl ⟨ObNl.refl _, trivial⟩ rfl ⟨NlV.refl _, NlV.refl _, NlV.refl _, NlV.nil _, NlV.refl _, trivial⟩ ?_
 refine AW_loopA (X := cx 90) (cx_ok 90) [0, 1, 5, 10, 11] (cutN 2) (fun vs M => ∃ i ver : Nat, i ≤ n ∧ vs = [tabV n W, .ints false r, .ptr 0 0 0 0, .sl 1 ver 0 (envT n W r z d i).length, .int i] ∧ M = [some (zOb z d), some (pOb ver (envT n W r z d i))]) (fun vs _ => (n - (vs.getD 4 .any).toInt).toNat) (fun t ht => cutN_iff.2 ht) ?_ ?_
 ·exact same0 ⟨0, 0, Nat.zero_le _, rfl, rfl⟩
 rintro vs M ⟨i, ver, hi, rfl, rfl⟩
 ((conv=>whnf);repeat (refine Wa ?_;(repeat (first|refine Wb ?_|refine Wc ?_|refine Wd ?_|refine We ?_|refine Wf ?_));(conv=>whnf)))
 refine br_dec (fun hlt => ?_) (fun hge => ?_)
 ·have hi' : i < n := by omega
  have hwl : (W i).length = n := (hW.2.2 i hi').1
  obtain ⟨q, hq, hqn⟩ : ∃ q : Nat, r.getD i 0 = q ∧ q < n := ⟨(r.getD i 0).toNat, by have := hr1.2.1 i hi'; omega, by have := hr1.2.1 i hi'; omega⟩
  have hq2 : (r.getD i 0).toNat = q := by omega
  ((conv=>whnf);repeat (refine Wa ?_;(repeat (first|refine Wb ?_|refine Wc ?_|refine Wd ?_|refine We ?_|refine Wf ?_));(conv=>whnf)))
  refine ⟨(show (0 : Int) ≤ (i : Int) by omega), ?_⟩
  refine ⟨(show (i : Int) < (r.length : Int) by rw [hr1.1]; omega), ?_⟩
  ((conv=>whnf);repeat (refine Wa ?_;(repeat (first|refine Wb ?_|refine Wc ?_|refine Wd ?_|refine We ?_|refine Wf ?_));(conv=>whnf)))
  rw [show envT n W r z d i = envT n W r z d i ++ envR W r z d i 0 from (List.append_nil _).symm]
  refine AW_loopA (X := cx 90) (cx_ok 90) [0, 1, 5, 10, 11, 12, 13] (cutN 2) (fun vs M => ∃ k ver : Nat, k ≤ n ∧ vs = [tabV n W, .ints false r, .ptr 0 0 0 0, .sl 1 ver 0 (envT n W r z d i ++ envR W r z d i k).length, .int i, .int q, .int k] ∧ M = [some (zOb z d), some (pOb ver (envT n W r z d i ++ envR W r z d i k))]) (fun vs _ => (n - (vs.getD 6 .any).toInt).toNat) (fun t ht => cutN_iff.2 ht) ?_ ?_
  ·exact ⟨[tabV n W, .ints false r, .ptr 0 0 0 0, .sl 1 ver 0 (envT n W r z d i ++ envR W r z d i 0).length, .int i, .int q, .int (0 : Nat)], _, ⟨Sub.refl _, Sub.refl _, Sub.refl _, Sub.refl _, Sub.refl _, Sub.of (show V.int (r.getD i 0) = V.int q by rw [hq]), Sub.refl _, trivial⟩, MSub.refl _, 0, ver, Nat.zero_le _, rfl, rfl⟩
  rintro vs M ⟨k, ver, hk, rfl, rfl⟩
  have hll : (envT n W r z d i ++ envR W r z d i k).length ≤ 30 := by
   have l1 := envT_len (n := n) (W := W) (r := r) (z := z) (d := d) i
   have l2 := envR_len (W := W) (r := r) (z := z) (d := d) (i := i) k
   have l3 := Nat.mul_le_mul (show i ≤ 5 by omega) h5
   rw [List.length_append]
   omega
  ((conv=>whnf);repeat (refine Wa ?_;(repeat (first|refine Wb ?_|refine Wc ?_|refine Wd ?_|refine We ?_|refine Wf ?_));(conv=>whnf)))
  refine br_dec (fun hlt => ?_) (fun hge => ?_)
  ·have hk' : k < n := by omega
   have f1 := lf_fits hW hR hi' hqn
   have f2 := lf_fits hW hR hi' hk'
   ((conv=>whnf);repeat (refine Wa ?_;(repeat (first|refine Wb ?_|refine Wc ?_|refine Wd ?_|refine We ?_|refine Wf ?_));(conv=>whnf)))
   refine AW_draw (X := cx 90) (cx_ok 90) mixed (by kernel_rfl) ?_
   ((conv=>whnf);repeat (refine Wa ?_;(repeat (first|refine Wb ?_|refine Wc ?_|refine Wd ?_|refine We ?_|refine Wf ?_));(conv=>whnf)))
   refine ⟨(show (0 : Int) ≤ (i : Int) by omega), ?_⟩
   refine ⟨(show (i : Int) < (n : Int) by omega), ?_⟩
   ((conv=>whnf);repeat (refine Wa ?_;(repeat (first|refine Wb ?_|refine Wc ?_|refine Wd ?_|refine We ?_|refine Wf ?_));(conv=>whnf)))
   refine ⟨(show (0 : Int) ≤ (q : Int) by omega), ?_⟩
   refine ⟨(show (q : Int) < ((W i).length : Int) by omega), ?_⟩
   ((conv=>whnf);repeat (refine Wa ?_;(repeat (first|refine Wb ?_|refine Wc ?_|refine Wd ?_|refine We ?_|refine Wf ?_));(conv=>whnf)))
   refine ⟨(show InR ((W i).getD q 0 * d) from inr (by omega)), ?_⟩
   ((conv=>whnf);repeat (refine Wa ?_;(repeat (first|refine Wb ?_|refine Wc ?_|refine Wd ?_|refine We ?_|refine Wf ?_));(conv=>whnf)))
   refine ⟨(show (0 : Int) ≤ (q : Int) by omega), ?_⟩
   refine ⟨(show (q : Int) < (z.length : Int) by omega), ?_⟩
   ((conv=>whnf);repeat (refine Wa ?_;(repeat (first|refine Wb ?_|refine Wc ?_|refine Wd ?_|refine We ?_|refine Wf ?_));(conv=>whnf)))
   refine ⟨(show InR ((W i).getD q 0 * d - z.getD q 0) from inr (by omega)), ?_⟩
   ((conv=>whnf);repeat (refine Wa ?_;(repeat (first|refine Wb ?_|refine Wc ?_|refine Wd ?_|refine We ?_|refine Wf ?_));(conv=>whnf)))
   refine ⟨(show (0 : Int) ≤ (i : Int) by omega), ?_⟩
   refine ⟨(show (i : Int) < (n : Int) by omega), ?_⟩
   ((conv=>whnf);repeat (refine Wa ?_;(repeat (first|refine Wb ?_|refine Wc ?_|refine Wd ?_|refine We ?_|refine Wf ?_));(conv=>whnf)))
   refine ⟨(show (0 : Int) ≤ (k : Int) by omega), ?_⟩
   refine ⟨(show (k : Int) < ((W i).length : Int) by omega), ?_⟩
   ((conv=>whnf);repeat (refine Wa ?_;(repeat (first|refine Wb ?_|refine Wc ?_|refine Wd ?_|refine We ?_|refine Wf ?_));(conv=>whnf)))
   refine ⟨(show InR ((W i).getD k 0 * d) from inr (by omega)), ?_⟩
   ((conv=>whnf);repeat (refine Wa ?_;(repeat (first|refine Wb ?_|refine Wc ?_|refine Wd ?_|refine We ?_|refine Wf ?_));(conv=>whnf)))
   refine ⟨(show (0 : Int) ≤ (k : Int) by omega), ?_⟩
   refine ⟨(show (k : Int) < (z.length : Int) by omega), ?_⟩
   ((conv=>whnf);repeat (refine Wa ?_;(repeat (first|refine Wb ?_|refine Wc ?_|refine Wd ?_|refine We ?_|refine Wf ?_));(conv=>whnf)))
   refine ⟨(show InR ((W i).getD k 0 * d - z.getD k 0) from inr (by omega)), ?_⟩
   ((conv=>whnf);repeat (refine Wa ?_;(repeat (first|refine Wb ?_|refine Wc ?_|refine Wd ?_|refine We ?_|refine Wf ?_));(conv=>whnf)))
   refine br_dec (fun h => ?_) (fun h => ?_)
   ·have h : lfN (W i) z d k > lfN (W i) z d (r.getD i 0).toNat := by rw [hq2]; exact h
    have e1 : envR W r z d i (k + 1) = envR W r z d i k ++ [(i, k)] := by
     show envR W r z d i k ++ _ = _
     rw [if_pos (show envB W r z d i k = true from decide_eq_true h)]
    have e2 : envT n W r z d i ++ envR W r z d i (k + 1) = (envT n W r z d i ++ envR W r z d i k) ++ [(i, k)] := by rw [e1, List.append_assoc]
    ((conv=>whnf);repeat (refine Wa ?_;(repeat (first|refine Wb ?_|refine Wc ?_|refine Wd ?_|refine We ?_|refine Wf ?_));(conv=>whnf)))
    refine eqn_self ?_
    ((conv=>whnf);repeat (refine Wa ?_;(repeat (first|refine Wb ?_|refine Wc ?_|refine Wd ?_|refine We ?_|refine Wf ?_));(conv=>whnf)))
    refine ⟨(show (16 : Int) * (((envT n W r z d i ++ envR W r z d i k).length : Int) + (1 : Nat)) ≤ 140737488355328 by omega), ?_⟩
    ((conv=>whnf);repeat (refine Wa ?_;(repeat (first|refine Wb ?_|refine Wc ?_|refine Wd ?_|refine We ?_|refine Wf ?_));(conv=>whnf)))
    refine ⟨inr (by omega), ?_⟩
    ((conv=>whnf);repeat (refine Wa ?_;(repeat (first|refine Wb ?_|refine Wc ?_|refine Wd ?_|refine We ?_|refine Wf ?_));(conv=>whnf)))
    refine ⟨⟨?_, ?_⟩, ?_⟩
    ·exact ⟨fun _ _ _ _ => trivial, trivial, rfl, rfl, trivial, trivial, trivial, trivial⟩
    ·exact ⟨⟨trivial, trivial, trivial⟩, fun j o _ ho => named_app namedPr (by rcases (show o = 0 ∨ o = 1 by have h : o < 2 := ho; omega) with rfl | rfl <;> trivial), trivial⟩
    ·refine ⟨[tabV n W, .ints false r, .ptr 0 0 0 0, .sl 1 (ver + 1) 0 (envT n W r z d i ++ envR W r z d i (k + 1)).length, .int i, .int q, .int (k + 1 : Nat)], [some (zOb z d), some (pOb (ver + 1) (envT n W r z d i ++ envR W r z d i (k + 1)))], ?_, ?_, ⟨k + 1, ver + 1, hk', rfl, rfl⟩, ?_⟩
     ·exact ⟨Sub.refl _, Sub.refl _, Sub.refl _, Sub.of (congrArg (V.sl 1 (ver + 1) 0) (show (envT n W r z d i ++ envR W r z d i k).length + 1 = (envT n W r z d i ++ envR W r z d i (k + 1)).length by rw [e2, len_snocP])), Sub.refl _, Sub.refl _, Sub.refl _, trivial⟩
     ·rw [e2]
      refine ⟨ObSub.refl _, ⟨rfl, rfl, rfl, ?_, ⟨rfl, rfl⟩, fun j o hj ho => Sub.of ?_⟩, trivial⟩
      ·exact len_snocP
      ·by_cases hj2 : j < (envT n W r z d i ++ envR W r z d i k).length
       ·exact (if_pos hj2).trans (prF_old hj2)
       ·have hj : j < (envT n W r z d i ++ envR W r z d i k).length + 1 := hj
        have hn := prF_new (L := envT n W r z d i ++ envR W r z d i k) (a := i) (b := k) (show j = (envT n W r z d i ++ envR W r z d i k).length by omega)
        refine (if_neg hj2).trans ?_
        rcases (show o = 0 ∨ o = 1 by have h : o < 2 := ho; omega) with rfl | rfl
        ·exact hn.1.symm
        ·exact hn.2.symm
     ·simp [V.toInt]; omega
   ·have h : ¬ lfN (W i) z d k > lfN (W i) z d (r.getD i 0).toNat := by rw [hq2]; exact h
    have e1 : envR W r z d i (k + 1) = envR W r z d i k := by
     show envR W r z d i k ++ _ = _
     rw [if_neg (show ¬ envB W r z d i k = true from fun e => h (of_decide_eq_true e)), List.append_nil]
    ((conv=>whnf);repeat (refine Wa ?_;(repeat (first|refine Wb ?_|refine Wc ?_|refine Wd ?_|refine We ?_|refine Wf ?_));(conv=>whnf)))
    refine ⟨inr (by omega), ?_⟩
    ((conv=>whnf);repeat (refine Wa ?_;(repeat (first|refine Wb ?_|refine Wc ?_|refine Wd ?_|refine We ?_|refine Wf ?_));(conv=>whnf)))
    refine ⟨⟨?_, ?_⟩, ?_⟩
    ·exact ⟨fun _ _ _ _ => trivial, trivial, rfl, rfl, trivial, trivial, trivial, trivial⟩
    ·exact ⟨⟨trivial, trivial, trivial⟩, fun j o _ _ => namedPr, trivial⟩
    ·rw [← e1]
     exact same1 ⟨⟨k + 1, ver, hk', rfl, rfl⟩, by simp [V.toInt, sel, Env.get]; omega⟩
  ·obtain rfl : k = n := by omega
   ((conv=>whnf);repeat (refine Wa ?_;(repeat (first|refine Wb ?_|refine Wc ?_|refine Wd ?_|refine We ?_|refine Wf ?_));(conv=>whnf)))
   refine ⟨inr (by omega), ?_⟩
   ((conv=>whnf);repeat (refine Wa ?_;(repeat (first|refine Wb ?_|refine Wc ?_|refine Wd ?_|refine We ?_|refine Wf ?_));(conv=>whnf)))
   refine ⟨⟨⟨fun _ _ _ _ => trivial, trivial, rfl, rfl, trivial, trivial⟩, ⟨⟨trivial, trivial, trivial⟩, fun j o _ _ => namedPr, trivial⟩⟩, ?_⟩
   exact same1 ⟨⟨i + 1, ver, hi', rfl, rfl⟩, by simp [V.toInt, sel, Env.get]; omega⟩
 ·obtain rfl : i = n := by omega
  ((conv=>whnf);repeat (refine Wa ?_;(repeat (first|refine Wb ?_|refine Wc ?_|refine Wd ?_|refine We ?_|refine Wf ?_));(conv=>whnf)))
  refine eqn_self ?_
  ((conv=>whnf);repeat (refine Wa ?_;(repeat (first|refine Wb ?_|refine Wc ?_|refine Wd ?_|refine We ?_|refine Wf ?_));(conv=>whnf)))
  refine ⟨⟨rfl, fun j o _ _ => frPr⟩, trivial, Q2 ?_ rfl⟩
  refine congrArg (V.seq true 2 _) (funext fun j => funext fun o => ?_)
  exact ownPr
end Go.Tri
