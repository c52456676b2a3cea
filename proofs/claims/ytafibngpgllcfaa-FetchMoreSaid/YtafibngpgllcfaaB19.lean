/-
 CONTRACTS: Cuts, Crossing and Smallest of the specification.
-/
import Derived.Test.YtafibngpgllcfaaB17
import Derived.Test.YtafibngpgllcfaaB18
namespace Go.Tri
open Go.Proofs

theorem mbL30 {s : Nat} (h : s < 16384) : mbL s 30 = mbL s 14 := mbL_more (n := 14) h 16
set_option maxRecDepth 100000 in
theorem Members_pure (s : Nat) (hs : s < 16384) : APure Try.prog 50 [.int s] (fun R => R = .ints true (mbL s 14)) := by
 refine APure_of (X := cx 19) (cx_ok 19) rfl (rs := [(.tmp 2, 25)]) Try.func50 (by decide) rfl rfl rfl (by simp [cx]) (nofr1 nofrInt) ?_
 intro hlen
 ((conv=>whnf);repeat (refine Wa ?_;(repeat (first|refine Wb ?_|refine Wc ?_|refine Wd ?_|refine We ?_|refine Wf ?_));(conv=>whnf)))
 refine AW_nil 0 [0, 3, 4] [.int s, .sl 0 0 0 0, .int 0] [some (ilO 3 0 [])] rfl trivial rfl ⟨NlV.refl _, NlV.nil _, NlV.refl _, trivial⟩ ?_
 refine AW_loopA (X := cx 19) (cx_ok 19) [0, 3, 4] (cutN 1) (fun vs M => ∃ k ver : Nat, k ≤ 30 ∧ vs = [.int s, .sl 0 ver 0 (mbL s k).length, .int k] ∧ M = [some (ilO 3 ver (mbL s k))]) (fun vs _ => 30 - (vs.getD 2 .any).toInt.toNat) (fun t ht => cutN_iff.2 ht) ?_ ?_
 ·exact same0 ⟨0, 0, Nat.zero_le _, rfl, rfl⟩
 rintro vs M ⟨k, ver, hk, rfl, rfl⟩
 have hll : (mbL s k).length ≤ 30 := Nat.le_trans (mbL_len s k) (by omega)
 ((conv=>whnf);repeat (refine Wa ?_;(repeat (first|refine Wb ?_|refine Wc ?_|refine Wd ?_|refine We ?_|refine Wf ?_));(conv=>whnf)))
 refine br_dec (fun hlt => ?_) (fun hge => ?_)
 ·have hk' : k < 30 := by have : (k : Int) < 30 := hlt; omega
  have e : mbL s (k + 1) = if s.testBit k = true then mbL s k ++ [(k : Int)] else mbL s k := rfl
  ((conv=>whnf);repeat (refine Wa ?_;(repeat (first|refine Wb ?_|refine Wc ?_|refine Wd ?_|refine We ?_|refine Wf ?_));(conv=>whnf)))
  refine ⟨by omega, ?_⟩
  rw [shrN (by omega)]
  ((conv=>whnf);repeat (refine Wa ?_;(repeat (first|refine Wb ?_|refine Wc ?_|refine Wd ?_|refine We ?_|refine Wf ?_));(conv=>whnf)))
  refine ⟨by decide, ?_⟩
  rw [tmI]
  cases hb : s.testBit k
  ·rw [if_neg (by rw [hb]; simp)] at e
   ((conv=>whnf);repeat (refine Wa ?_;(repeat (first|refine Wb ?_|refine Wc ?_|refine Wd ?_|refine We ?_|refine Wf ?_));(conv=>whnf)))
   refine ⟨inr (by omega), ?_⟩
   ((conv=>whnf);repeat (refine Wa ?_;(repeat (first|refine Wb ?_|refine Wc ?_|refine Wd ?_|refine We ?_|refine Wf ?_));(conv=>whnf)))
   refine ⟨⟨⟨trivial, rfl, trivial, trivial⟩, trivial, trivial⟩, ?_⟩
   rw [← e]
   exact same1 ⟨⟨k + 1, ver, hk', rfl, rfl⟩, by simp [V.toInt, sel, Env.get]; omega⟩
  ·rw [if_pos hb] at e
   ((conv=>whnf);repeat (refine Wa ?_;(repeat (first|refine Wb ?_|refine Wc ?_|refine Wd ?_|refine We ?_|refine Wf ?_));(conv=>whnf)))
   refine eqn_self ?_
   ((conv=>whnf);repeat (refine Wa ?_;(repeat (first|refine Wb ?_|refine Wc ?_|refine Wd ?_|refine We ?_|refine Wf ?_));(conv=>whnf)))
   refine ⟨(show (8 : Int) * (((mbL s k).length : Int) + (1 : Nat)) ≤ 140737488355328 by omega), ?_⟩
   ((conv=>whnf);repeat (refine Wa ?_;(repeat (first|refine Wb ?_|refine Wc ?_|refine Wd ?_|refine We ?_|refine Wf ?_));(conv=>whnf)))
   refine ⟨inr (by omega), ?_⟩
   ((conv=>whnf);repeat (refine Wa ?_;(repeat (first|refine Wb ?_|refine Wc ?_|refine Wd ?_|refine We ?_|refine Wf ?_));(conv=>whnf)))
   refine ⟨⟨⟨trivial, rfl, trivial, trivial⟩, trivial, trivial⟩, ?_⟩
   refine ⟨[.int s, .sl 0 (ver + 1) 0 (mbL s (k + 1)).length, .int (k + 1 : Nat)], [some (ilO 3 (ver + 1) (mbL s (k + 1)))], ?_, ?_, ⟨k + 1, ver + 1, hk', rfl, rfl⟩, ?_⟩
   ·exact ⟨Sub.refl _, Sub.of (congrArg (V.sl 0 (ver + 1) 0) (show (mbL s k).length + 1 = (mbL s (k + 1)).length by rw [e, len_snocI])), Sub.refl _, trivial⟩
   ·rw [e]
    exact ⟨ObSub.ii (show List.take (mbL s k).length (mbL s k) ++ [(k : Int)] = _ by rw [List.take_length]), trivial⟩
   ·simp [V.toInt]; omega
 ·obtain rfl : k = 30 := by have : ¬ (k : Int) < 30 := hge; omega
  ((conv=>whnf);repeat (refine Wa ?_;(repeat (first|refine Wb ?_|refine Wc ?_|refine Wd ?_|refine We ?_|refine Wf ?_));(conv=>whnf)))
  refine eqn_self ?_
  ((conv=>whnf);repeat (refine Wa ?_;(repeat (first|refine Wb ?_|refine Wc ?_|refine Wd ?_|refine We ?_|refine Wf ?_));(conv=>whnf)))
  refine ⟨rfl, ?_⟩
  show V.ints true (List.take (mbL s 30).length (List.drop 0 (mbL s 30))) = _
  rw [List.drop_zero, List.take_length, mbL30 hs]
set_option maxRecDepth 100000 in
theorem rcuts_pure {n m : Nat} {A B : Nat → Nat} (hQ : Qn n m A B) : APure Try.prog 45 [.int n, stV false m (fun j => A j) (fun j => B j)] (fun R => R = .ints true (cutL n m A B (fullN n))) := by
 refine APure_of (X := cx 23) (cx_ok 23) rfl (rs := [(.tmp 4, 25)]) Try.func45 (by decide) rfl rfl rfl (by simp [cx]) (nofrN2) ?_
 intro hlen
 have h7 := hQ.hi
 have h2 := hQ.lo
 have hf := full_le h7
 have hp := pow_le62 (show n ≤ 62 by omega)
 have hp1 : 2 ^ 1 ≤ 2 ^ n := Nat.pow_le_pow_right (by decide) (by omega)
 have hf1 : fullN n = 2 ^ n - 1 := rfl
 ((conv=>whnf);repeat (refine Wa ?_;(repeat (first|refine Wb ?_|refine Wc ?_|refine Wd ?_|refine We ?_|refine Wf ?_));(conv=>whnf)))
 refine AW_nil 0 [0, 1, 5, 6] [.int n, stV false m (fun j => A j) (fun j => B j), .sl 0 0 0 0, .int 1] [some (ilO 3 0 [])] rfl trivial rfl ⟨NlV.refl _, NlV.refl _, NlV.nil _, NlV.refl _, trivial⟩ ?_
 refine AW_loopA (X := cx 23) (cx_ok 23) [0, 1, 5, 6] (cutN 1) (fun vs M => ∃ k ver : Nat, k ≤ fullN n ∧ vs = [.int n, stV false m (fun j => A j) (fun j => B j), .sl 0 ver 0 (cutL n m A B k).length, .int k] ∧ M = [some (ilO 3 ver (cutL n m A B k))]) (fun vs _ => fullN n - (vs.getD 3 .any).toInt.toNat) (fun t ht => cutN_iff.2 ht) ?_ ?_
 ·exact same0 ⟨1, 0, by omega, rfl, rfl⟩
 rintro vs M ⟨k, ver, hk, rfl, rfl⟩
 have hll : (cutL n m A B k).length ≤ 127 := Nat.le_trans (cutL_len k) (Nat.le_trans hk hf)
 ((conv=>whnf);repeat (refine Wa ?_;(repeat (first|refine Wb ?_|refine Wc ?_|refine Wd ?_|refine We ?_|refine Wf ?_));(conv=>whnf)))
 refine ⟨by omega, ?_⟩
 rw [shlI (by omega)]
 ((conv=>whnf);repeat (refine Wa ?_;(repeat (first|refine Wb ?_|refine Wc ?_|refine Wd ?_|refine We ?_|refine Wf ?_));(conv=>whnf)))
 refine ⟨inr (by omega), ?_⟩
 ((conv=>whnf);repeat (refine Wa ?_;(repeat (first|refine Wb ?_|refine Wc ?_|refine Wd ?_|refine We ?_|refine Wf ?_));(conv=>whnf)))
 refine br_dec (fun hlt => ?_) (fun hge => ?_)
 ·have hk' : k < fullN n := by have : (k : Int) < ((2 ^ n : Nat) : Int) - 1 := hlt; omega
  have c2 := rIsCut_pure hQ k
  rw [cutZ_nat] at c2
  have e : cutL n m A B (k + 1) = if cutB n m A B k = true then cutL n m A B k ++ [(k : Int)] else cutL n m A B k := rfl
  ((conv=>whnf);repeat (refine Wa ?_;(repeat (first|refine Wb ?_|refine Wc ?_|refine Wd ?_|refine We ?_|refine Wf ?_));(conv=>whnf)))
  refine APure.to (APure.arg3 (Sub.refl _) subS (Sub.refl _) c2) ?_
  ((conv=>whnf);repeat (refine Wa ?_;(repeat (first|refine Wb ?_|refine Wc ?_|refine Wd ?_|refine We ?_|refine Wf ?_));(conv=>whnf)))
  refine br_mk (fun hb => ?_) (fun hb => ?_)
  ·rw [if_pos hb] at e
   ((conv=>whnf);repeat (refine Wa ?_;(repeat (first|refine Wb ?_|refine Wc ?_|refine Wd ?_|refine We ?_|refine Wf ?_));(conv=>whnf)))
   refine eqn_self ?_
   ((conv=>whnf);repeat (refine Wa ?_;(repeat (first|refine Wb ?_|refine Wc ?_|refine Wd ?_|refine We ?_|refine Wf ?_));(conv=>whnf)))
   refine ⟨(show (8 : Int) * (((cutL n m A B k).length : Int) + (1 : Nat)) ≤ 140737488355328 by omega), ?_⟩
   ((conv=>whnf);repeat (refine Wa ?_;(repeat (first|refine Wb ?_|refine Wc ?_|refine Wd ?_|refine We ?_|refine Wf ?_));(conv=>whnf)))
   refine ⟨inr (by omega), ?_⟩
   ((conv=>whnf);repeat (refine Wa ?_;(repeat (first|refine Wb ?_|refine Wc ?_|refine Wd ?_|refine We ?_|refine Wf ?_));(conv=>whnf)))
   refine ⟨⟨⟨trivial, namedS, rfl, trivial, trivial⟩, trivial, trivial⟩, ?_⟩
   refine ⟨[.int n, stV false m (fun j => A j) (fun j => B j), .sl 0 (ver + 1) 0 (cutL n m A B (k + 1)).length, .int (k + 1 : Nat)], [some (ilO 3 (ver + 1) (cutL n m A B (k + 1)))], ?_, ?_, ⟨k + 1, ver + 1, hk', rfl, rfl⟩, ?_⟩
   ·exact ⟨Sub.refl _, Sub.refl _, Sub.of (congrArg (V.sl 0 (ver + 1) 0) (show (cutL n m A B k).length + 1 = (cutL n m A B (k + 1)).length by rw [e, len_snocI])), Sub.refl _, trivial⟩
   ·rw [e]
    exact ⟨ObSub.ii (show List.take (cutL n m A B k).length (cutL n m A B k) ++ [(k : Int)] = _ by rw [List.take_length]), trivial⟩
   ·simp [V.toInt]; omega
  ·rw [if_neg (by rw [hb]; simp)] at e
   ((conv=>whnf);repeat (refine Wa ?_;(repeat (first|refine Wb ?_|refine Wc ?_|refine Wd ?_|refine We ?_|refine Wf ?_));(conv=>whnf)))
   refine ⟨inr (by omega), ?_⟩
   ((conv=>whnf);repeat (refine Wa ?_;(repeat (first|refine Wb ?_|refine Wc ?_|refine Wd ?_|refine We ?_|refine Wf ?_));(conv=>whnf)))
   refine ⟨⟨⟨trivial, namedS, rfl, trivial, trivial⟩, trivial, trivial⟩, ?_⟩
   rw [← e]
   exact same1 ⟨⟨k + 1, ver, hk', rfl, rfl⟩, by simp [V.toInt, sel, Env.get]; omega⟩
 ·obtain rfl : k = fullN n := by have : ¬ (k : Int) < ((2 ^ n : Nat) : Int) - 1 := hge; omega
  ((conv=>whnf);repeat (refine Wa ?_;(repeat (first|refine Wb ?_|refine Wc ?_|refine Wd ?_|refine We ?_|refine Wf ?_));(conv=>whnf)))
  refine eqn_self ?_
  ((conv=>whnf);repeat (refine Wa ?_;(repeat (first|refine Wb ?_|refine Wc ?_|refine Wd ?_|refine We ?_|refine Wf ?_));(conv=>whnf)))
  refine ⟨rfl, ?_⟩
  show V.ints true (List.take (cutL n m A B (fullN n)).length (List.drop 0 (cutL n m A B (fullN n)))) = _
  rw [List.drop_zero, List.take_length]
set_option maxRecDepth 100000 in
theorem rCuts_bad {n : Int} {m : Nat} {A B : Nat → Int} (h : ckE n m A B ≠ 0) : APure Try.prog 18 [.int n, stV false m A B] (fun R => R = tup2 (.ints true []) (.int (ckE n m A B))) := by
 refine APure_of (X := cx 16) (cx_ok 16) rfl (rs := [(.tmp 4, 25), (.tmp 5, 26)]) Try.func18 (by decide) rfl rfl rfl (by simp [cx]) (nofrN2) ?_
 intro hlen
 have c1 := Quarter_pure n m A B
 ((conv=>whnf);repeat (refine Wa ?_;(repeat (first|refine Wb ?_|refine Wc ?_|refine Wd ?_|refine We ?_|refine Wf ?_));(conv=>whnf)))
 refine APure.to (APure.arg2 (Sub.refl _) subS c1) ?_
 ((conv=>whnf);repeat (refine Wa ?_;(repeat (first|refine Wb ?_|refine Wc ?_|refine Wd ?_|refine We ?_|refine Wf ?_));(conv=>whnf)))
 refine br_ne (fun _ => ?_) (fun h' => absurd h' h)
 ((conv=>whnf);repeat (refine Wa ?_;(repeat (first|refine Wb ?_|refine Wc ?_|refine Wd ?_|refine We ?_|refine Wf ?_));(conv=>whnf)))
 exact ⟨rfl, trivial, rfl⟩
set_option maxRecDepth 100000 in
theorem rCuts_pure {n m : Nat} {A B : Nat → Nat} (h : Qok n m A B) : APure Try.prog 18 [.int n, stV false m (fun j => A j) (fun j => B j)] (fun R => R = tup2 (.ints true (cutL n m A B (fullN n))) (.int 0)) := by
 refine APure_of (X := cx 16) (cx_ok 16) rfl (rs := [(.tmp 4, 25), (.tmp 5, 26)]) Try.func18 (by decide) rfl rfl rfl (by simp [cx]) (nofrN2) ?_
 intro hlen
 have c1 := Quarter_pure n m (fun j => A j) (fun j => B j)
 rw [ckE_ok h] at c1
 have c2 := rcuts_pure h.q
 ((conv=>whnf);repeat (refine Wa ?_;(repeat (first|refine Wb ?_|refine Wc ?_|refine Wd ?_|refine We ?_|refine Wf ?_));(conv=>whnf)))
 refine APure.to (APure.arg2 (Sub.refl _) subS c1) ?_
 ((conv=>whnf);repeat (refine Wa ?_;(repeat (first|refine Wb ?_|refine Wc ?_|refine Wd ?_|refine We ?_|refine Wf ?_));(conv=>whnf)))
 refine APure.to (APure.arg2 (Sub.refl _) subS c2) ?_
 ((conv=>whnf);repeat (refine Wa ?_;(repeat (first|refine Wb ?_|refine Wc ?_|refine Wd ?_|refine We ?_|refine Wf ?_));(conv=>whnf)))
 exact ⟨rfl, trivial, rfl⟩
set_option maxRecDepth 100000 in
theorem rCrossing_bad {n : Int} {m : Nat} {A B : Nat → Int} (z : Int) (h : ckE n m A B ≠ 0) : APure Try.prog 21 [.int n, stV false m A B, .int z] (fun R => R = tup2 (.ints true []) (.int (ckE n m A B))) := by
 refine APure_of (X := cx 24) (cx_ok 24) rfl (rs := [(.tmp 6, 25), (.tmp 7, 26)]) Try.func21 (by decide) rfl rfl rfl (by simp [cx]) (nofrN3) ?_
 intro hlen
 have c1 := Quarter_pure n m A B
 ((conv=>whnf);repeat (refine Wa ?_;(repeat (first|refine Wb ?_|refine Wc ?_|refine Wd ?_|refine We ?_|refine Wf ?_));(conv=>whnf)))
 refine APure.to (APure.arg2 (Sub.refl _) subS c1) ?_
 ((conv=>whnf);repeat (refine Wa ?_;(repeat (first|refine Wb ?_|refine Wc ?_|refine Wd ?_|refine We ?_|refine Wf ?_));(conv=>whnf)))
 refine br_ne (fun _ => ?_) (fun h' => absurd h' h)
 ((conv=>whnf);repeat (refine Wa ?_;(repeat (first|refine Wb ?_|refine Wc ?_|refine Wd ?_|refine We ?_|refine Wf ?_));(conv=>whnf)))
 exact ⟨rfl, trivial, rfl⟩
set_option maxRecDepth 100000 in
theorem rCrossing_pure {n m : Nat} {A B : Nat → Nat} (h : Qok n m A B) (z : Int) : APure Try.prog 21 [.int n, stV false m (fun j => A j) (fun j => B j), .int z] (fun R => R = if cutZ n m A B z = true then tup2 (.ints true (mbL (lvS A B z.toNat m) 14)) (.int 0) else tup2 (.ints true []) (.int 2)) := by
 refine APure_of (X := cx 24) (cx_ok 24) rfl (rs := [(.tmp 6, 25), (.tmp 7, 26)]) Try.func21 (by decide) rfl rfl rfl (by simp [cx]) (nofrN3) ?_
 intro hlen
 have c1 := Quarter_pure n m (fun j => A j) (fun j => B j)
 rw [ckE_ok h] at c1
 have c2 := rIsCut_pure h.q z
 ((conv=>whnf);repeat (refine Wa ?_;(repeat (first|refine Wb ?_|refine Wc ?_|refine Wd ?_|refine We ?_|refine Wf ?_));(conv=>whnf)))
 refine APure.to (APure.arg2 (Sub.refl _) subS c1) ?_
 ((conv=>whnf);repeat (refine Wa ?_;(repeat (first|refine Wb ?_|refine Wc ?_|refine Wd ?_|refine We ?_|refine Wf ?_));(conv=>whnf)))
 refine APure.to (APure.arg3 (Sub.refl _) subS (Sub.refl _) c2) ?_
 ((conv=>whnf);repeat (refine Wa ?_;(repeat (first|refine Wb ?_|refine Wc ?_|refine Wd ?_|refine We ?_|refine Wf ?_));(conv=>whnf)))
 refine br_not ?_
 refine br_mk (fun hb => ?_) (fun hb => ?_)
 ·have hz : 0 < z := by
   unfold cutZ at hb
   simp only [Bool.and_eq_true, decide_eq_true_iff] at hb
   exact hb.1
  have c3 := crossing_pure h.q z.toNat
  rw [show ((z.toNat : Nat) : Int) = z by omega] at c3
  have c4 := Members_pure (lvS A B z.toNat m) (lv_small h.q _)
  ((conv=>whnf);repeat (refine Wa ?_;(repeat (first|refine Wb ?_|refine Wc ?_|refine Wd ?_|refine We ?_|refine Wf ?_));(conv=>whnf)))
  refine APure.to (APure.arg2 subS (Sub.refl _) c3) ?_
  ((conv=>whnf);repeat (refine Wa ?_;(repeat (first|refine Wb ?_|refine Wc ?_|refine Wd ?_|refine We ?_|refine Wf ?_));(conv=>whnf)))
  refine APure.to c4 ?_
  ((conv=>whnf);repeat (refine Wa ?_;(repeat (first|refine Wb ?_|refine Wc ?_|refine Wd ?_|refine We ?_|refine Wf ?_));(conv=>whnf)))
  refine ⟨rfl, trivial, ?_⟩
  rw [if_pos hb]
  rfl
 ·((conv=>whnf);repeat (refine Wa ?_;(repeat (first|refine Wb ?_|refine Wc ?_|refine Wd ?_|refine We ?_|refine Wf ?_));(conv=>whnf)))
  refine ⟨rfl, trivial, ?_⟩
  rw [if_neg (by rw [hb]; simp)]
  rfl
end Go.Tri
