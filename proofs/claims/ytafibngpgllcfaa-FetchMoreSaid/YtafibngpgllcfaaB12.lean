/-
 CONTRACTS: is a number a cut? All cuts.
-/
import Derived.Test.YtafibngpgllcfaaB11
import Derived.Test.YtafibngpgllcfaaA35
namespace Go.Tri
open Go.Proofs

/-- Is a number a cut? -/
def cutZ (n m : Nat) (A B : Nat → Nat) (z : Int) : Bool := decide (0 < z) && cutB n m A B z.toNat
theorem cutZ_nat (n m : Nat) (A B : Nat → Nat) (s : Nat) : cutZ n m A B s = cutB n m A B s := by
 unfold cutZ cutB
 rw [Int.toNat_natCast]
 by_cases h : 0 < s
 ·rw [decide_eq_true (show 0 < (s : Int) by omega), Bool.true_and]
 ·rw [decide_eq_false h, decide_eq_false (show ¬ 0 < (s : Int) by omega), Bool.false_and, Bool.false_and]
set_option maxRecDepth 100000 in
theorem isCut_pure {n m : Nat} {A B : Nat → Nat} (hQ : Qn n m A B) (z : Int) : APure Try.prog 71 [qu n m A B, .int z] (fun R => R = .bool (cutZ n m A B z)) := by
 refine APure_of (X := cx 22) (cx_ok 22) rfl (rs := [(.tmp 4, 4)]) Try.func71 (by decide) rfl rfl rfl (by simp [cx]) (nofr2 nofrQ' nofrInt) ?_
 intro hlen
 have h7 := hQ.hi
 have c1 := all_pure n m (fun j => A j) (fun j => B j) (by omega)
 have hf : fullN n ≤ 127 := by
  have : 2 ^ n ≤ 2 ^ 7 := Nat.pow_le_pow_right (by decide) h7
  unfold fullN
  omega
 ((conv=>whnf);repeat (refine Wa ?_;(repeat (first|refine Wb ?_|refine Wc ?_|refine Wd ?_|refine We ?_|refine Wf ?_));(conv=>whnf)))
 refine AW_draw (X := cx 22) (cx_ok 22) mixed (by kernel_rfl) ?_
 ((conv=>whnf);repeat (refine Wa ?_;(repeat (first|refine Wb ?_|refine Wc ?_|refine Wd ?_|refine We ?_|refine Wf ?_));(conv=>whnf)))
 refine br_dec (fun h => ?_) (fun h => ?_)
 ·have h : z > 0 := h
  obtain ⟨s, rfl⟩ : ∃ s : Nat, z = s := ⟨z.toNat, by omega⟩
  have hs : 0 < s := by omega
  ((conv=>whnf);repeat (refine Wa ?_;(repeat (first|refine Wb ?_|refine Wc ?_|refine Wd ?_|refine We ?_|refine Wf ?_));(conv=>whnf)))
  refine ⟨_, APure.arg1 (subQ rfl rfl) c1, ?_⟩
  ((conv=>whnf);repeat (refine Wa ?_;(repeat (first|refine Wb ?_|refine Wc ?_|refine Wd ?_|refine We ?_|refine Wf ?_));(conv=>whnf)))
  refine br_dec (fun h2 => ?_) (fun h2 => ?_)
  ·have h2 : s < fullN n := by have h2 : (s : Int) < (fullN n : Nat) := h2; omega
   have c2 := leaving_pure hQ (dif (fullN n) s) (dif_lt (by omega))
   ((conv=>whnf);repeat (refine Wa ?_;(repeat (first|refine Wb ?_|refine Wc ?_|refine Wd ?_|refine We ?_|refine Wf ?_));(conv=>whnf)))
   refine ⟨_, APure.arg1 (subQ rfl rfl) c1, ?_⟩
   ((conv=>whnf);repeat (refine Wa ?_;(repeat (first|refine Wb ?_|refine Wc ?_|refine Wd ?_|refine We ?_|refine Wf ?_));(conv=>whnf)))
   rw [andNotI (by omega) (by omega)]
   ((conv=>whnf);repeat (refine Wa ?_;(repeat (first|refine Wb ?_|refine Wc ?_|refine Wd ?_|refine We ?_|refine Wf ?_));(conv=>whnf)))
   refine ⟨_, APure.arg2 (subQ rfl rfl) (Sub.refl _) c2, ?_⟩
   ((conv=>whnf);repeat (refine Wa ?_;(repeat (first|refine Wb ?_|refine Wc ?_|refine Wd ?_|refine We ?_|refine Wf ?_));(conv=>whnf)))
   refine ⟨trivial, Qb ?_⟩
   rw [cutZ_nat]
   unfold cutB
   rw [decide_eq_true hs, decide_eq_true h2, Bool.true_and, Bool.true_and]
   show decide (((lvS A B (dif (fullN n) s) m : Nat) : Int) = 0) = _
   rw [Bool.eq_iff_iff, decide_eq_true_iff, beq_iff_eq]
   omega
  ·have h2 : ¬ s < fullN n := by have h2 : ¬ (s : Int) < (fullN n : Nat) := h2; omega
   ((conv=>whnf);repeat (refine Wa ?_;(repeat (first|refine Wb ?_|refine Wc ?_|refine Wd ?_|refine We ?_|refine Wf ?_));(conv=>whnf)))
   refine ⟨trivial, Qb ?_⟩
   rw [cutZ_nat]
   unfold cutB
   rw [decide_eq_false h2, Bool.false_and, Bool.and_false]
 ·have h : ¬ z > 0 := h
  ((conv=>whnf);repeat (refine Wa ?_;(repeat (first|refine Wb ?_|refine Wc ?_|refine Wd ?_|refine We ?_|refine Wf ?_));(conv=>whnf)))
  refine ⟨trivial, Qb ?_⟩
  unfold cutZ
  rw [decide_eq_false h, Bool.false_and]

/-- Cuts with their streets. -/
def cuF (m : Nat) (A B : Nat → Nat) (L : List Int) : Nat → Nat → V := fun j o => match o with
 | 0 => .int (L.getD j 0)
 | _ => .int (lvS A B (L.getD j 0).toNat m : Nat)
@[reducible] def cusV (m : Nat) (A B : Nat → Nat) (fr : Bool) (L : List Int) : V := .seq fr 2 L.length (cuF m A B L)
theorem cuF_old {m : Nat} {A B : Nat → Nat} {L : List Int} {p : Int} {j o : Nat} (h : j < L.length) : cuF m A B L j o = cuF m A B (L ++ [p]) j o := by
 unfold cuF
 rw [show (L ++ [p]).getD j 0 = L.getD j 0 by simp [List.getD, List.getElem?_append_left h]]
theorem cuF_new {m : Nat} {A B : Nat → Nat} {L : List Int} {p : Int} {j : Nat} (h : j = L.length) : cuF m A B (L ++ [p]) j 0 = .int p ∧ cuF m A B (L ++ [p]) j 1 = .int (lvS A B p.toNat m : Nat) := by
 subst h
 simp [cuF, List.getD]
@[reducible] def cuOb (m : Nat) (A B : Nat → Nat) (ver : Nat) (L : List Int) : Ob := ⟨62, 2, ver, .cv L.length (cuF m A B L)⟩
theorem namedCu {kp : Nat → Bool} {m : Nat} {A B : Nat → Nat} {L : List Int} {j o : Nat} : Named kp (cuF m A B L j o) := by
 unfold cuF
 split <;> trivial
theorem len_snocI {L : List Int} {p : Int} : (L ++ [p]).length = L.length + 1 := by simp
theorem ownCu {M : Mem} {k m : Nat} {A B : Nat → Nat} {L : List Int} {j o : Nat} : ownvalN M (k + 1) (cuF m A B L (0 + j) o) = cuF m A B L j o := by
 rw [Nat.zero_add]
 unfold cuF
 split <;> rfl
theorem frCu {M : Mem} {k m : Nat} {A B : Nat → Nat} {L : List Int} {j o : Nat} : Fr (ownvalN M (k + 1) (cuF m A B L (0 + j) o)) := by
 rw [ownCu]
 unfold cuF
 split <;> trivial
theorem named_app {kp : Nat → Bool} {c : Prop} [Decidable c] {x y : V} (h : Named kp x) (h' : Named kp y) : Named kp (if c then x else y) := by
 split
 ·exact h
 ·exact h'
theorem full_le {n : Nat} (h : n ≤ 7) : fullN n ≤ 127 := by
 have : 2 ^ n ≤ 2 ^ 7 := Nat.pow_le_pow_right (by decide) h
 unfold fullN
 omega
set_option maxRecDepth 100000 in
theorem cuts_pure {n m : Nat} {A B : Nat → Nat} (hQ : Qn n m A B) : APure Try.prog 44 [qu n m A B] (fun R => R = cusV m A B true (cutL n m A B (fullN n))) := by
 refine APure_of (X := cx 23) (cx_ok 23) rfl (rs := [(.tmp 2, 59)]) Try.func44 (by decide) rfl rfl rfl (by simp [cx]) (nofr1 nofrQ') ?_
 intro hlen
 have h7 := hQ.hi
 have c1 := all_pure n m (fun j => A j) (fun j => B j) (by omega)
 have hf := full_le h7
 ((conv=>whnf);repeat (refine Wa ?_;(repeat (first|refine Wb ?_|refine Wc ?_|refine Wd ?_|refine We ?_|refine Wf ?_));(conv=>whnf)))
 refine APure.to (APure.arg1 (subQ rfl rfl) c1) ?_
 ((conv=>whnf);repeat (refine Wa ?_;(repeat (first|refine Wb ?_|refine Wc ?_|refine Wd ?_|refine We ?_|refine Wf ?_));(conv=>whnf)))
 refine AW_nil 1 [1, 3, 6, 7] [.ptr 0 0 0 0, .sl 1 0 0 0, .int (fullN n : Nat), .int 0] [some (quO n m (fun j => A j) (fun j => B j)), some (cuOb m A B 0 [])] rfl ⟨ObNl.refl _, trivial⟩ rfl ⟨NlV.refl _, NlV.nil _, NlV.refl _, NlV.refl _, trivial⟩ ?_
 refine AW_loopA (X := cx 23) (cx_ok 23) [1, 3, 6, 7] (cutN 2) (fun vs M => ∃ k ver : Nat, k ≤ fullN n ∧ vs = [.ptr 0 0 0 0, .sl 1 ver 0 (cutL n m A B k).length, .int (fullN n : Nat), .int k] ∧ M = [some (quO n m (fun j => A j) (fun j => B j)), some (cuOb m A B ver (cutL n m A B k))]) (fun vs _ => fullN n - (vs.getD 3 .any).toInt.toNat) (fun t ht => cutN_iff.2 ht) ?_ ?_
 ·exact same0 ⟨0, 0, Nat.zero_le _, rfl, rfl⟩
 rintro vs M ⟨k, ver, hk, rfl, rfl⟩
 have hll : (cutL n m A B k).length ≤ 127 := Nat.le_trans (cutL_len k) (Nat.le_trans hk hf)
 ((conv=>whnf);repeat (refine Wa ?_;(repeat (first|refine Wb ?_|refine Wc ?_|refine Wd ?_|refine We ?_|refine Wf ?_));(conv=>whnf)))
 refine br_dec (fun hlt => ?_) (fun hge => ?_)
 ·have hk' : k < fullN n := by have : (k : Int) < (fullN n : Nat) := hlt; omega
  have c2 := isCut_pure hQ k
  have c3 := leaving_pure hQ k (by omega)
  rw [cutZ_nat] at c2
  have e : cutL n m A B (k + 1) = if cutB n m A B k = true then cutL n m A B k ++ [(k : Int)] else cutL n m A B k := rfl
  ((conv=>whnf);repeat (refine Wa ?_;(repeat (first|refine Wb ?_|refine Wc ?_|refine Wd ?_|refine We ?_|refine Wf ?_));(conv=>whnf)))
  refine APure.to (APure.arg2 (subQ rfl rfl) (Sub.refl _) c2) ?_
  ((conv=>whnf);repeat (refine Wa ?_;(repeat (first|refine Wb ?_|refine Wc ?_|refine Wd ?_|refine We ?_|refine Wf ?_));(conv=>whnf)))
  refine br_mk (fun hb => ?_) (fun hb => ?_)
  ·rw [if_pos hb] at e
   ((conv=>whnf);repeat (refine Wa ?_;(repeat (first|refine Wb ?_|refine Wc ?_|refine Wd ?_|refine We ?_|refine Wf ?_));(conv=>whnf)))
   refine APure.to (APure.arg2 (subQ rfl rfl) (Sub.refl _) c3) ?_
   ((conv=>whnf);repeat (refine Wa ?_;(repeat (first|refine Wb ?_|refine Wc ?_|refine Wd ?_|refine We ?_|refine Wf ?_));(conv=>whnf)))
   refine eqn_self ?_
   ((conv=>whnf);repeat (refine Wa ?_;(repeat (first|refine Wb ?_|refine Wc ?_|refine Wd ?_|refine We ?_|refine Wf ?_));(conv=>whnf)))
   refine ⟨(show (16 : Int) * (((cutL n m A B k).length : Int) + (1 : Nat)) ≤ 140737488355328 by omega), ?_⟩
   ((conv=>whnf);repeat (refine Wa ?_;(repeat (first|refine Wb ?_|refine Wc ?_|refine Wd ?_|refine We ?_|refine Wf ?_));(conv=>whnf)))
   refine ⟨inr (by omega), ?_⟩
   ((conv=>whnf);repeat (refine Wa ?_;(repeat (first|refine Wb ?_|refine Wc ?_|refine Wd ?_|refine We ?_|refine Wf ?_));(conv=>whnf)))
   refine ⟨?_, ?_⟩
   ·exact ⟨⟨rfl, rfl, trivial, trivial, trivial⟩, ⟨trivial, namedS, trivial⟩, fun j o _ ho => named_app namedCu (by rcases (show o = 0 ∨ o = 1 by have h : o < 2 := ho; omega) with rfl | rfl <;> trivial), trivial⟩
   ·refine ⟨[.ptr 0 0 0 0, .sl 1 (ver + 1) 0 (cutL n m A B (k + 1)).length, .int (fullN n : Nat), .int (k + 1 : Nat)], [some (quO n m (fun j => A j) (fun j => B j)), some (cuOb m A B (ver + 1) (cutL n m A B (k + 1)))], ?_, ?_, ⟨k + 1, ver + 1, hk', rfl, rfl⟩, ?_⟩
    ·exact ⟨Sub.refl _, Sub.of (congrArg (V.sl 1 (ver + 1) 0) (show (cutL n m A B k).length + 1 = (cutL n m A B (k + 1)).length by rw [e, len_snocI])), Sub.refl _, Sub.refl _, trivial⟩
    ·rw [e]
     refine ⟨ObSub.refl _, ⟨rfl, rfl, rfl, ?_, ⟨rfl, rfl⟩, fun j o hj ho => Sub.of ?_⟩, trivial⟩
     ·exact len_snocI
     ·by_cases hj2 : j < (cutL n m A B k).length
      ·exact (if_pos hj2).trans (cuF_old hj2)
      ·have hj : j < (cutL n m A B k).length + 1 := hj
       have hn := cuF_new (m := m) (A := A) (B := B) (L := cutL n m A B k) (p := (k : Int)) (show j = (cutL n m A B k).length by omega)
       refine (if_neg hj2).trans ?_
       rw [Int.toNat_natCast] at hn
       rcases (show o = 0 ∨ o = 1 by have h : o < 2 := ho; omega) with rfl | rfl
       ·exact hn.1.symm
       ·exact hn.2.symm
    ·simp [V.toInt]; omega
  ·rw [if_neg (by rw [hb]; simp)] at e
   ((conv=>whnf);repeat (refine Wa ?_;(repeat (first|refine Wb ?_|refine Wc ?_|refine Wd ?_|refine We ?_|refine Wf ?_));(conv=>whnf)))
   refine ⟨inr (by omega), ?_⟩
   ((conv=>whnf);repeat (refine Wa ?_;(repeat (first|refine Wb ?_|refine Wc ?_|refine Wd ?_|refine We ?_|refine Wf ?_));(conv=>whnf)))
   refine ⟨?_, ?_⟩
   ·exact ⟨⟨rfl, rfl, trivial, trivial, trivial⟩, ⟨trivial, namedS, trivial⟩, fun j o _ _ => namedCu, trivial⟩
   ·rw [← e]
    exact same1 ⟨⟨k + 1, ver, hk', rfl, rfl⟩, by simp [V.toInt, sel, Env.get]; omega⟩
 ·obtain rfl : k = fullN n := by have : ¬ (k : Int) < (fullN n : Nat) := hge; omega
  ((conv=>whnf);repeat (refine Wa ?_;(repeat (first|refine Wb ?_|refine Wc ?_|refine Wd ?_|refine We ?_|refine Wf ?_));(conv=>whnf)))
  refine eqn_self ?_
  ((conv=>whnf);repeat (refine Wa ?_;(repeat (first|refine Wb ?_|refine Wc ?_|refine Wd ?_|refine We ?_|refine Wf ?_));(conv=>whnf)))
  refine ⟨⟨rfl, fun j o _ _ => frCu⟩, ?_⟩
  exact congrArg (V.seq true 2 _) (funext fun j => funext fun o => ownCu)
end Go.Tri
