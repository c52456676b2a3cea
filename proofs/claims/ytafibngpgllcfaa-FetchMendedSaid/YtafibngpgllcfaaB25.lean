/-
 CONTRACTS: the parts of a quarter.
-/
import Derived.Test.YtafibngpgllcfaaR1
namespace Go.Tri
open Go.Proofs

/-- The corners that a corner reaches, and that reach it. -/
def ptA (n m : Nat) (A B : Nat → Nat) (v : Nat) : Nat := wk A B m n 0 v &&& wk B A m n 0 v
/-- What is done, and the parts, behind the first k corners. -/
def prS (n m : Nat) (A B : Nat → Nat) : Nat → Nat × List Nat
 | 0 => (0, [])
 | k + 1 => if (prS n m A B k).1.testBit k = true then prS n m A B k else ((prS n m A B k).1 ||| ptA n m A B k, (prS n m A B k).2 ++ [ptA n m A B k])
theorem prS_len (n m : Nat) (A B : Nat → Nat) : ∀ k, (prS n m A B k).2.length ≤ k := by
 intro k
 induction k with
 | zero => exact Nat.le_refl _
 | succ k ih =>
  rw [prS]
  split
  ·omega
  ·rw [List.length_append]; exact Nat.succ_le_succ ih
/-- What stands behind the two walkers. -/
structure Jn (n m : Nat) (A B : Nat → Nat) (k ver : Nat) (e : Env) (M : Mem) (a b c a' b' c' : Nat) : Prop where
 e1 : evA e (.tmp 1) = .ptr 0 0 0 0
 e3 : evA e (.tmp 3) = .sl 2 ver 0 (prS n m A B k).2.length
 e4 : evA e (.tmp 4) = .ptr 1 0 0 0
 e5 : evA e (.tmp 5) = .int (prS n m A B k).1
 e6 : evA e (.tmp 6) = .int k
 e7 : evA e (.tmp 7) = walkC a b c
 e8 : evA e (.tmp 8) = walkC a' b' c'
 e13 : evA e (.tmp 13) = .int n
 e14 : evA e (.tmp 14) = .int k
 f0 : M.get 0 = some (quO n m (fun j => A j) (fun j => B j))
 f1 : M.get 1 = some (quT1 n m (fun j => B j) (fun j => A j))
 f2 : M.get 2 = some (ptOb ver (prS n m A B k).2)
 h1 : WM M a b c false n m (fun j => A j) (fun j => B j) 0
 h2 : WM M a' b' c' true n m (fun j => B j) (fun j => A j) 0
 hd : a < a' ∧ a < b' ∧ a < c'
 lo : 3 ≤ a ∧ 3 ≤ a'
 sz : 3 ≤ M.length
theorem Jn_mk {n m : Nat} {A B : Nat → Nat} {k ver : Nat} {e : Env} {M1 M2 : Mem} {a b c a' b' c' : Nat} (e1 : evA e (.tmp 1) = .ptr 0 0 0 0) (e3 : evA e (.tmp 3) = .sl 2 ver 0 (prS n m A B k).2.length) (e4 : evA e (.tmp 4) = .ptr 1 0 0 0) (e5 : evA e (.tmp 5) = .int (prS n m A B k).1)
  (e6 : evA e (.tmp 6) = .int k) (e7 : evA e (.tmp 7) = walkC a b c) (e8 : evA e (.tmp 8) = walkC a' b' c') (e13 : evA e (.tmp 13) = .int n) (e14 : evA e (.tmp 14) = .int k) (f0 : M1.get 0 = some (quO n m (fun j => A j) (fun j => B j))) (f1 : M1.get 1 = some (quT1 n m (fun j => B j) (fun j => A j)))
  (f2 : M1.get 2 = some (ptOb ver (prS n m A B k).2)) (l1 : 3 ≤ M1.length) (hl : 3 ≤ a ∧ 3 ≤ b ∧ 3 ≤ c) (h1 : WM M1 a b c false n m (fun j => A j) (fun j => B j) 0) (hl' : M1.length ≤ a' ∧ M1.length ≤ b' ∧ M1.length ≤ c') (h2 : WM M2 a' b' c' true n m (fun j => B j) (fun j => A j) 0)
  (hg : ∀ t, t < M1.length → M2.get t = M1.get t) : Jn n m A B k ver e M2 a b c a' b' c' := by
 have ga := get_lt h1.ha
 have gb := get_lt h1.hb
 have gc := get_lt h1.hc
 exact ⟨e1, e3, e4, e5, e6, e7, e8, e13, e14, by rw [hg 0 (by omega)]; exact f0, by rw [hg 1 (by omega)]; exact f1, by rw [hg 2 (by omega)]; exact f2, ⟨by rw [hg a ga]; exact h1.ha, by rw [hg b gb]; exact h1.hb, by rw [hg c gc]; exact h1.hc⟩, h2, by omega, by omega, by have := get_lt h2.ha; omega⟩
def wrP : List FuncId := [94, 83]
attribute [local irreducible] anyW in
set_option maxRecDepth 100000 in
theorem parts_pure {n m : Nat} {A B : Nat → Nat} (h : Qok n m A B) : APure Try.prog 67 [qu n m A B] (fun R => R = rowsV (prS n m A B n).2) := by
 refine APure_of (X := ⟨Try.prog, tab, wrP, 41, 0, false⟩) tab_ok rfl (rs := [(.tmp 2, 45)]) Try.func67 (by decide) rfl rfl rfl (by simp) (nofr1 nofrQ') ?_
 intro hlen
 have hm := h.q.sm
 have h7 := h.q.hi
 have c1 := turned_pure n m (fun j => A j) (fun j => B j) (by omega) h.cA h.cB
 have hA := h.q.hA
 have hB := h.q.hB
 ((conv=>whnf);repeat (refine Wa ?_;(repeat (first|refine Wb ?_|refine Wc ?_|refine Wd ?_|refine We ?_|refine Wf ?_));(conv=>whnf)))
 refine APure.to (APure.arg1 (subQ rfl rfl) c1) ?_
 ((conv=>whnf);repeat (refine Wa ?_;(repeat (first|refine Wb ?_|refine Wc ?_|refine Wd ?_|refine We ?_|refine Wf ?_));(conv=>whnf)))
 refine AW_nil 2 [1, 3, 4, 5, 13, 14] [.ptr 0 0 0 0, .sl 2 0 0 0, .ptr 1 0 0 0, .int 0, .int n, .int 0] [some (quO n m (fun j => A j) (fun j => B j)), some (quT1 n m (fun j => B j) (fun j => A j)), some (ptOb 0 [])] rfl ⟨ObNl.refl _, ObNl.refl _, trivial⟩ rfl ⟨NlV.refl _, NlV.nil _, NlV.refl _, NlV.refl _, NlV.refl _, NlV.refl _, trivial⟩ ?_
 refine AW_loopA (X := ⟨Try.prog, tab, wrP, 41, 0, false⟩) tab_ok [1, 3, 4, 5, 13, 14] (cutN 3) (fun vs M => ∃ k ver : Nat, k ≤ n ∧ vs = [.ptr 0 0 0 0, .sl 2 ver 0 (prS n m A B k).2.length, .ptr 1 0 0 0, .int (prS n m A B k).1, .int n, .int k] ∧ M = [some (quO n m (fun j => A j) (fun j => B j)), some (quT1 n m (fun j => B j) (fun j => A j)), some (ptOb ver (prS n m A B k).2)]) (fun vs _ => n - (vs.getD 5 .any).toInt.toNat) (fun t ht => cutN_iff.2 ht) ?_ ?_
 ·exact same0 ⟨0, 0, Nat.zero_le _, rfl, rfl⟩
 rintro vs M ⟨k, ver, hk, rfl, rfl⟩
 have hpl := prS_len n m A B k
 have hdl : (prS n m A B k).1 < 2 ^ n := by
  clear hpl
  induction k with
  | zero => exact Nat.two_pow_pos n
  | succ k ih =>
   rw [prS]
   split
   ·exact ih (by omega)
   ·exact Nat.or_lt_two_pow (ih (by omega)) (Nat.lt_of_le_of_lt Nat.and_le_left (wk_lt hB n 0 k (Nat.two_pow_pos n) (by omega)))
 have hd63 := lt63 hdl (by omega)
 ((conv=>whnf);repeat (refine Wa ?_;(repeat (first|refine Wb ?_|refine Wc ?_|refine Wd ?_|refine We ?_|refine Wf ?_));(conv=>whnf)))
 refine br_dec (fun hlt => ?_) (fun hge => ?_)
 ·have hk' : k < n := by omega
  have c2 := has_pure (s := (prS n m A B k).1) (i := k) hd63 (by omega)
  have e : prS n m A B (k + 1) = if (prS n m A B k).1.testBit k = true then prS n m A B k else ((prS n m A B k).1 ||| ptA n m A B k, (prS n m A B k).2 ++ [ptA n m A B k]) := rfl
  ((conv=>whnf);repeat (refine Wa ?_;(repeat (first|refine Wb ?_|refine Wc ?_|refine Wd ?_|refine We ?_|refine Wf ?_));(conv=>whnf)))
  refine APure.to c2 ?_
  ((conv=>whnf);repeat (refine Wa ?_;(repeat (first|refine Wb ?_|refine Wc ?_|refine Wd ?_|refine We ?_|refine Wf ?_));(conv=>whnf)))
  refine br_mk (fun hb => ?_) (fun hb => ?_)
  ·rw [if_pos hb] at e
   ((conv=>whnf);repeat (refine Wa ?_;(repeat (first|refine Wb ?_|refine Wc ?_|refine Wd ?_|refine We ?_|refine Wf ?_));(conv=>whnf)))
   refine ⟨inr (by omega), ?_⟩
   ((conv=>whnf);repeat (refine Wa ?_;(repeat (first|refine Wb ?_|refine Wc ?_|refine Wd ?_|refine We ?_|refine Wf ?_));(conv=>whnf)))
   refine ⟨⟨⟨rfl, rfl, rfl, trivial, trivial, trivial, trivial⟩, ⟨trivial, namedS, trivial⟩, ⟨trivial, namedS, trivial⟩, fun j o _ _ => namedRow, trivial⟩, ?_⟩
   rw [← e]
   exact same1 ⟨⟨k + 1, ver, hk', rfl, rfl⟩, by simp [V.toInt, sel, Env.get]; omega⟩
  ·rw [if_neg (by rw [hb]; simp)] at e
   ((conv=>whnf);repeat (refine Wa ?_;(repeat (first|refine Wb ?_|refine Wc ?_|refine Wd ?_|refine We ?_|refine Wf ?_));(conv=>whnf)))
   refine AW_mono (Q := fun x e M2 => x = .normal ∧ ∃ a b c a' b' c' : Nat, Jn n m A B k ver e M2 a b c a' b' c') ?_ ?_
   ·rintro x e0 M2 ⟨rfl, a, b, c, a', b', c', hJ⟩
    obtain ⟨e1, e3, e4, e5, e6, e7, e8, e13, e14, f0, f1, f2, hM2', hM2, hd, hlo, hsz⟩ := hJ
    have ga := get_lt hM2'.ha
    have gb := get_lt hM2'.hb
    have gc := get_lt hM2'.hc
    ((conv=>whnf);repeat (refine Wa ?_;(repeat (first|refine Wb ?_|refine Wc ?_|refine Wd ?_|refine We ?_|refine Wf ?_));(conv=>whnf)))
    repeat rw [evA_c (by decide)]
    rw [e7]
    ((conv=>whnf);repeat (refine Wa ?_;(repeat (first|refine Wb ?_|refine Wc ?_|refine Wd ?_|refine We ?_|refine Wf ?_));(conv=>whnf)))
    repeat rw [evA_c (by decide)]
    rw [e6]
    ((conv=>whnf);repeat (refine Wa ?_;(repeat (first|refine Wb ?_|refine Wc ?_|refine Wd ?_|refine We ?_|refine Wf ?_));(conv=>whnf)))
    refine (walk1_cm false n m A B (by omega) (by omega) hA hB n M2 a b c 0 k hM2' (Nat.two_pow_pos n) hk' (unv_le_n 0 n)).mono ?_
    rintro R M3 ⟨rfl, hl3, hg3⟩
    have ga' := get_lt hM2.ha
    have gb' := get_lt hM2.hb
    have gc' := get_lt hM2.hc
    have hM3 : WM M3 a' b' c' true n m (fun j => B j) (fun j => A j) 0 := ⟨by rw [hg3 a' ga', if_neg (by omega)]; exact hM2.ha, by rw [hg3 b' gb', if_neg (by omega)]; exact hM2.hb, by rw [hg3 c' gc', if_neg (by omega)]; exact hM2.hc⟩
    ((conv=>whnf);repeat (refine Wa ?_;(repeat (first|refine Wb ?_|refine Wc ?_|refine Wd ?_|refine We ?_|refine Wf ?_));(conv=>whnf)))
    repeat rw [evA_c (by decide)]
    rw [e8]
    ((conv=>whnf);repeat (refine Wa ?_;(repeat (first|refine Wb ?_|refine Wc ?_|refine Wd ?_|refine We ?_|refine Wf ?_));(conv=>whnf)))
    repeat rw [evA_c (by decide)]
    rw [e6]
    ((conv=>whnf);repeat (refine Wa ?_;(repeat (first|refine Wb ?_|refine Wc ?_|refine Wd ?_|refine We ?_|refine Wf ?_));(conv=>whnf)))
    refine (walk1_cm true n m B A (by omega) (by omega) hB hA n M3 a' b' c' 0 k hM3 (Nat.two_pow_pos n) hk' (unv_le_n 0 n)).mono ?_
    rintro R M4 ⟨rfl, hl4, hg4⟩
    ((conv=>whnf);repeat (refine Wa ?_;(repeat (first|refine Wb ?_|refine Wc ?_|refine Wd ?_|refine We ?_|refine Wf ?_));(conv=>whnf)))
    have w1 := wk_lt (A := A) hB n 0 k (Nat.two_pow_pos n) hk'
    have w2 := wk_lt (A := B) hA n 0 k (Nat.two_pow_pos n) hk'
    rw [andI (lt63 w1 (by omega)) (lt63 w2 (by omega))]
    have w3 : ptA n m A B k < 2 ^ n := Nat.lt_of_le_of_lt Nat.and_le_left w1
    have w4 : ptA n m A B k < 2 ^ 14 := Nat.lt_of_lt_of_le w3 (Nat.pow_le_pow_right (by decide) (by omega))
    have up : ∀ t, t < 3 → M4.get t = M2.get t := fun t ht => by rw [hg4 t (by omega), if_neg (by omega), hg3 t (by omega), if_neg (by omega)]
    ((conv=>whnf);repeat (refine Wa ?_;(repeat (first|refine Wb ?_|refine Wc ?_|refine Wd ?_|refine We ?_|refine Wf ?_));(conv=>whnf)))
    repeat rw [evA_c (by decide)]
    rw [e3]
    ((conv=>whnf);repeat (refine Wa ?_;(repeat (first|refine Wb ?_|refine Wc ?_|refine Wd ?_|refine We ?_|refine Wf ?_));(conv=>whnf)))
    refine APure.to (members_pure 14 (ptA n m A B k) (by omega) w4) ?_
    ((conv=>whnf);repeat (refine Wa ?_;(repeat (first|refine Wb ?_|refine Wc ?_|refine Wd ?_|refine We ?_|refine Wf ?_));(conv=>whnf)))
    rw [forceNP_eq]
    ((conv=>whnf);repeat (refine Wa ?_;(repeat (first|refine Wb ?_|refine Wc ?_|refine Wd ?_|refine We ?_|refine Wf ?_));(conv=>whnf)))
    obtain ⟨M5, hMe5⟩ : ∃ M5, M4.put M4.length ⟨25, 1, 0, .cv 1 fun _ _ => .ints true (mbL (ptA n m A B k) 14)⟩ = M5 := ⟨_, rfl⟩
    obtain ⟨g5, l5, o5⟩ := putN hMe5
    refine gen_mem hMe5 ?_
    ((conv=>whnf);repeat (refine Wa ?_;(repeat (first|refine Wb ?_|refine Wc ?_|refine Wd ?_|refine We ?_|refine Wf ?_));(conv=>whnf)))
    rw [forceNP_eq]
    ((conv=>whnf);repeat (refine Wa ?_;(repeat (first|refine Wb ?_|refine Wc ?_|refine Wd ?_|refine We ?_|refine Wf ?_));(conv=>whnf)))
    refine stepO (by exact app_cv (T := tab) (e := 25) rfl rfl (srcV_cv g5) ((o5 2 (by omega)).trans ((up 2 (by decide)).trans f2))) ?_
    ((conv=>whnf);repeat (refine Wa ?_;(repeat (first|refine Wb ?_|refine Wc ?_|refine Wd ?_|refine We ?_|refine Wf ?_));(conv=>whnf)))
    refine eqn_self ?_
    ((conv=>whnf);repeat (refine Wa ?_;(repeat (first|refine Wb ?_|refine Wc ?_|refine Wd ?_|refine We ?_|refine Wf ?_));(conv=>whnf)))
    refine ⟨(show (24 : Int) * (((prS n m A B k).2.length : Int) + (1 : Nat)) ≤ 140737488355328 by omega), ?_⟩
    ((conv=>whnf);repeat (refine Wa ?_;(repeat (first|refine Wb ?_|refine Wc ?_|refine Wd ?_|refine We ?_|refine Wf ?_));(conv=>whnf)))
    obtain ⟨M6, hMe6⟩ : ∃ M6, M5.put 2 ⟨25, 1, ver + 1, .cv ((prS n m A B k).2.length + 1) fun j o => if j < (prS n m A B k).2.length then rowF (prS n m A B k).2 j o else .ints true (mbL (ptA n m A B k) 14)⟩ = M6 := ⟨_, rfl⟩
    obtain ⟨g6, l6, o6⟩ := putO hMe6
    refine gen_mem hMe6 ?_
    ((conv=>whnf);repeat (refine Wa ?_;(repeat (first|refine Wb ?_|refine Wc ?_|refine Wd ?_|refine We ?_|refine Wf ?_));(conv=>whnf)))
    repeat rw [evA_c (by decide)]
    rw [e5]
    ((conv=>whnf);repeat (refine Wa ?_;(repeat (first|refine Wb ?_|refine Wc ?_|refine Wd ?_|refine We ?_|refine Wf ?_));(conv=>whnf)))
    have w5 : ptA n m A B k < 9223372036854775808 := lt63 w3 (by omega)
    rw [show bitI BinOp.or IntKind.i64 ((prS n m A B k).1 : Nat) ((wk A B m n 0 k &&& wk B A m n 0 k : Nat) : Int) = (((prS n m A B k).1 ||| ptA n m A B k : Nat) : Int) from orI hd63 w5]
    ((conv=>whnf);repeat (refine Wa ?_;(repeat (first|refine Wb ?_|refine Wc ?_|refine Wd ?_|refine We ?_|refine Wf ?_));(conv=>whnf)))
    refine stepO (by exact aop_addc (k := (k : Int)) e14 rfl) ?_
    refine ⟨inr (by omega), ?_⟩
    ((conv=>whnf);repeat (refine Wa ?_;(repeat (first|refine Wb ?_|refine Wc ?_|refine Wd ?_|refine We ?_|refine Wf ?_));(conv=>whnf)))
    rw [show maskM (cutN 3) 0 M6 = maskM (cutN 3) 0 [some (quO n m (fun j => A j) (fun j => B j)), some (quT1 n m (fun j => B j) (fun j => A j)), some ⟨25, 1, ver + 1, .cv ((prS n m A B k).2.length + 1) fun j o => if j < (prS n m A B k).2.length then rowF (prS n m A B k).2 j o else .ints true (mbL (ptA n m A B k) 14)⟩] from mask_eq fun t ht => by
     rw [Nat.zero_add, cutN_iff] at ht
     rcases (by omega : t = 0 ∨ t = 1 ∨ t = 2) with rfl | rfl | rfl
     ·rw [o6 0 (by decide), o5 0 (by omega), up 0 (by decide)]; exact f0
     ·rw [o6 1 (by decide), o5 1 (by omega), up 1 (by decide)]; exact f1
     ·exact g6]
    rw [sel6 (.ptr 0 0 0 0) (.sl 2 (ver + 1) 0 ((prS n m A B k).2.length + 1)) (.ptr 1 0 0 0) (.int ((prS n m A B k).1 ||| ptA n m A B k : Nat)) (.int n) (.int ((k : Int) + 1)) (by exact e1) (by rfl) (by exact e4) (by rfl) (by exact e13) (by rfl)]
    refine ⟨⟨⟨rfl, rfl, rfl, trivial, trivial, trivial, trivial⟩, ⟨trivial, namedS, trivial⟩, ⟨trivial, namedS, trivial⟩, fun j o _ _ => named_app namedRow trivial, trivial⟩, ?_⟩
    refine ⟨[.ptr 0 0 0 0, .sl 2 (ver + 1) 0 (prS n m A B (k + 1)).2.length, .ptr 1 0 0 0, .int (prS n m A B (k + 1)).1, .int n, .int (k + 1 : Nat)], [some (quO n m (fun j => A j) (fun j => B j)), some (quT1 n m (fun j => B j) (fun j => A j)), some (ptOb (ver + 1) (prS n m A B (k + 1)).2)], ?_, ?_, ⟨k + 1, ver + 1, hk', rfl, rfl⟩, by simp [V.toInt]; omega⟩
    ·rw [e]
     exact ⟨Sub.refl _, Sub.of (congrArg (V.sl 2 (ver + 1) 0) (by simp)), Sub.refl _, Sub.refl _, Sub.refl _, Sub.refl _, trivial⟩
    ·rw [e]
     exact ⟨ObSub.refl _, ObSub.refl _, ⟨rfl, rfl, rfl, by simp [Con.n], ⟨rfl, rfl⟩, fun j o hj _ => Sub.of (rowF_new hj)⟩, trivial⟩
   ·refine AW_drawE (X := ⟨Try.prog, tab, wrP, 41, 0, false⟩) tab_ok mixed (by kernel_rfl) ?_
    refine anyW_step (f := 5) [0, 2] (by kernel_rfl) ⟨?_, ?_⟩
    ·conv=>whnf
     refine anyW_step (f := 4) [1, 2] (by kernel_rfl) ⟨?_, ?_⟩
     ·conv=>whnf
      refine (ACM.arg1 (subQF rfl rfl) (walker_cm false n m (fun j => A j) (fun j => B j) _)).mono ?_
      rintro R M1 ⟨a, b, c, rfl, hl1, hla, hlb, hlc, hM1, hg1⟩
      have f0 : M1.get 0 = some (quO n m (fun j => A j) (fun j => B j)) := hg1 0 (show 0 < 3 by decide)
      have f1 : M1.get 1 = some (quT1 n m (fun j => B j) (fun j => A j)) := hg1 1 (show 1 < 3 by decide)
      have f2 : M1.get 2 = some (ptOb ver (prS n m A B k).2) := hg1 2 (show 2 < 3 by decide)
      have l1 : 3 ≤ M1.length := hl1
      clear hg1 hl1
      conv=>whnf
      refine anyW_step (f := 3) [2] (by kernel_rfl) ?_
      conv=>whnf
      refine stepO (by exact aop_load rfl f1 rfl) ?_
      conv=>whnf
      refine anyW_step (f := 2) [3] (by kernel_rfl) ?_
      conv=>whnf
      refine (ACM.arg1 (subQF rfl rfl) (walker_cm true n m (fun j => B j) (fun j => A j) _)).mono ?_
      rintro R M2 ⟨a', b', c', rfl, hl2, hla', hlb', hlc', hM2, hg2⟩
      conv=>whnf
      refine anyW_step (f := 1) [4] (by kernel_rfl) ?_
      conv=>whnf
      refine anyW_step (f := 0) [5] (by kernel_rfl) ?_
      conv=>whnf
      refine anyW_end (by kernel_rfl) ?_
      exact ⟨rfl, a, b, c, a', b', c', Jn_mk rfl rfl rfl rfl rfl rfl rfl rfl rfl f0 f1 f2 l1 ⟨hla, hlb, hlc⟩ hM1 ⟨hla', hlb', hlc'⟩ hM2 hg2⟩
     ·refine allI_one ?_
      conv=>whnf
      refine anyW_step (f := 3) [1] (by kernel_rfl) ?_
      conv=>whnf
      refine (ACM.arg1 (subQF rfl rfl) (walker_cm false n m (fun j => A j) (fun j => B j) _)).mono ?_
      rintro R M1 ⟨a, b, c, rfl, hl1, hla, hlb, hlc, hM1, hg1⟩
      have f0 : M1.get 0 = some (quO n m (fun j => A j) (fun j => B j)) := hg1 0 (show 0 < 3 by decide)
      have f1 : M1.get 1 = some (quT1 n m (fun j => B j) (fun j => A j)) := hg1 1 (show 1 < 3 by decide)
      have f2 : M1.get 2 = some (ptOb ver (prS n m A B k).2) := hg1 2 (show 2 < 3 by decide)
      have l1 : 3 ≤ M1.length := hl1
      clear hg1 hl1
      conv=>whnf
      refine anyW_step (f := 2) [3] (by kernel_rfl) ?_
      conv=>whnf
      refine (ACM.arg1 (subQF rfl rfl) (walker_cm true n m (fun j => B j) (fun j => A j) _)).mono ?_
      rintro R M2 ⟨a', b', c', rfl, hl2, hla', hlb', hlc', hM2, hg2⟩
      conv=>whnf
      refine anyW_step (f := 1) [4] (by kernel_rfl) ?_
      conv=>whnf
      refine anyW_step (f := 0) [5] (by kernel_rfl) ?_
      conv=>whnf
      refine anyW_end (by kernel_rfl) ?_
      exact ⟨rfl, a, b, c, a', b', c', Jn_mk rfl rfl rfl rfl rfl rfl rfl rfl rfl f0 f1 f2 l1 ⟨hla, hlb, hlc⟩ hM1 ⟨hla', hlb', hlc'⟩ hM2 hg2⟩
    ·refine allI_one ?_
     conv=>whnf
     refine anyW_step (f := 4) [0] (by kernel_rfl) ?_
     conv=>whnf
     refine anyW_step (f := 3) [1] (by kernel_rfl) ?_
     conv=>whnf
     refine (ACM.arg1 (subQF rfl rfl) (walker_cm false n m (fun j => A j) (fun j => B j) _)).mono ?_
     rintro R M1 ⟨a, b, c, rfl, hl1, hla, hlb, hlc, hM1, hg1⟩
     have f0 : M1.get 0 = some (quO n m (fun j => A j) (fun j => B j)) := hg1 0 (show 0 < 3 by decide)
     have f1 : M1.get 1 = some (quT1 n m (fun j => B j) (fun j => A j)) := hg1 1 (show 1 < 3 by decide)
     have f2 : M1.get 2 = some (ptOb ver (prS n m A B k).2) := hg1 2 (show 2 < 3 by decide)
     have l1 : 3 ≤ M1.length := hl1
     clear hg1 hl1
     conv=>whnf
     refine anyW_step (f := 2) [3] (by kernel_rfl) ?_
     conv=>whnf
     refine (ACM.arg1 (subQF rfl rfl) (walker_cm true n m (fun j => B j) (fun j => A j) _)).mono ?_
     rintro R M2 ⟨a', b', c', rfl, hl2, hla', hlb', hlc', hM2, hg2⟩
     conv=>whnf
     refine anyW_step (f := 1) [4] (by kernel_rfl) ?_
     conv=>whnf
     refine anyW_step (f := 0) [5] (by kernel_rfl) ?_
     conv=>whnf
     refine anyW_end (by kernel_rfl) ?_
     exact ⟨rfl, a, b, c, a', b', c', Jn_mk rfl rfl rfl rfl rfl rfl rfl rfl rfl f0 f1 f2 l1 ⟨hla, hlb, hlc⟩ hM1 ⟨hla', hlb', hlc'⟩ hM2 hg2⟩
 ·obtain rfl : k = n := by omega
  ((conv=>whnf);repeat (refine Wa ?_;(repeat (first|refine Wb ?_|refine Wc ?_|refine Wd ?_|refine We ?_|refine Wf ?_));(conv=>whnf)))
  refine eqn_self ?_
  ((conv=>whnf);repeat (refine Wa ?_;(repeat (first|refine Wb ?_|refine Wc ?_|refine Wd ?_|refine We ?_|refine Wf ?_));(conv=>whnf)))
  refine ⟨⟨rfl, fun j o _ _ => frRow (o := o)⟩, ?_⟩
  exact congrArg (V.seq true 1 _) (funext fun j => funext fun o => ownRow)
end Go.Tri
