/-
 CONTRACTS: the reference's checks of an assignment and of rents.
-/
import Derived.Test.YtpolaegggclhcaaGreatB42
import Derived.Test.YtpolaegggclhcaaGreatB27
import Derived.Test.YtpolaegggclhcaaGreatM10
namespace Go.Tri
open Go.Proofs

/-- The first k of a list are rides, each another one. -/
def fine (n : Nat) (O : List Int) (k : Nat) : Prop := ∀ j, j < k → (0 ≤ O.getD j 0 ∧ O.getD j 0 < n) ∧ ∀ i, i < j → O.getD i 0 ≠ O.getD j 0
def isOrd (n : Nat) (O : List Int) : Prop := O.length = n ∧ fine n O O.length
theorem fine_zero {n : Nat} {O : List Int} : fine n O 0 := fun j hj => absurd hj (by omega)
theorem fine_succ {n : Nat} {O : List Int} {k : Nat} (h : fine n O k) (h1 : 0 ≤ O.getD k 0) (h2 : O.getD k 0 < n) (h3 : ∀ i, i < k → O.getD i 0 ≠ O.getD k 0) : fine n O (k + 1) := fun j hj => by
 rcases (by omega : j < k ∨ j = k) with h4 | rfl
 ·exact h j h4
 ·exact ⟨⟨h1, h2⟩, h3⟩

/-- What has been met. -/
def metL (n : Nat) (O : List Int) : Nat → List Bool
 | 0 => List.replicate n false
 | k + 1 => (metL n O k).set (O.getD k 0).toNat true
theorem metL_len (n : Nat) (O : List Int) : ∀ k, (metL n O k).length = n := by
 intro k
 induction k with
 | zero => simp [metL]
 | succ k ih => simp only [metL]; rw [List.length_set, ih]
theorem metL_get (n : Nat) (O : List Int) : ∀ k, fine n O k → ∀ q, q < n → ((metL n O k).getD q false = true ↔ ∃ i, i < k ∧ O.getD i 0 = q) := by
 intro k
 induction k with
 | zero => intro _ q hq; simp [metL, List.getD, hq]
 | succ k ih =>
  intro hf q hq
  have hk := ih (fun j hj => hf j (by omega)) q hq
  obtain ⟨⟨h1, h2⟩, _⟩ := hf k (by omega)
  have hl := metL_len n O k
  show ((metL n O k).set (O.getD k 0).toNat true).getD q false = true ↔ _
  rw [List.getD, List.getElem?_set]
  by_cases h : (O.getD k 0).toNat = q
  ·rw [if_pos h, if_pos (by omega)]
   simp only [Option.getD_some, true_iff]
   exact ⟨k, by omega, by omega⟩
  ·rw [if_neg h]
   refine hk.trans ⟨fun ⟨i, hi, e⟩ => ⟨i, by omega, e⟩, fun ⟨i, hi, e⟩ => ⟨i, ?_, e⟩⟩
   rcases (by omega : i < k ∨ i = k) with h3 | rfl
   ·exact h3
   ·exact absurd (show (O.getD i 0).toNat = q by omega) h

open Classical in
theorem refIsAss_pure (n : Nat) (O : List Int) (hn : n ≤ 9) : APure Tryz.prog 24 [.int n, .ints false O] (fun R => R = .bool (decide (isOrd n O))) := by
 refine APure_of (X := cx 47) (cx_ok 47) rfl (rs := [(.tmp 4, 4)]) Tryz.func24 (by decide) rfl rfl rfl (by simp [cx]) (by simp [NoFr]) ?_
 intro hlen
 have hla : (O.length : Int) ≤ 9223372036854775807 := hlen (.ints false O) (by simp)
 ((conv=>whnf);repeat (refine Wa ?_;(repeat (first|refine Wb ?_|refine Wc ?_|refine Wd ?_|refine We ?_|refine Wf ?_));(conv=>whnf)))
 refine ⟨by omega, ?_⟩
 ((conv=>whnf);repeat (refine Wa ?_;(repeat (first|refine Wb ?_|refine Wc ?_|refine Wd ?_|refine We ?_|refine Wf ?_));(conv=>whnf)))
 refine ⟨by omega, ?_⟩
 ((conv=>whnf);repeat (refine Wa ?_;(repeat (first|refine Wb ?_|refine Wc ?_|refine Wd ?_|refine We ?_|refine Wf ?_));(conv=>whnf)))
 refine ⟨(show (1 : Int) * (n : Int) ≤ 140737488355328 by omega), ?_⟩
 rw [Int.toNat_natCast]
 ((conv=>whnf);repeat (refine Wa ?_;(repeat (first|refine Wb ?_|refine Wc ?_|refine Wd ?_|refine We ?_|refine Wf ?_));(conv=>whnf)))
 refine AW_loop (X := cx 47) (cx_ok 47) [0, 1, 5, 6] (fun vs M => ∃ k : Nat, k ≤ O.length ∧ fine n O k ∧ vs = [.int n, .ints false O, .sl 0 0 0 n, .int k] ∧ M = [some ⟨4, 1, 0, .bl (metL n O k)⟩])
  (fun vs _ => O.length - (vs.getD 3 .any).toInt.toNat) ?_ ?_
 ·exact ⟨0, Nat.zero_le _, fine_zero, rfl, rfl⟩
 rintro vs M ⟨k, hk, hf, rfl, rfl⟩
 ((conv=>whnf);repeat (refine Wa ?_;(repeat (first|refine Wb ?_|refine Wc ?_|refine Wd ?_|refine We ?_|refine Wf ?_));(conv=>whnf)))
 refine br_dec (fun hlt => ?_) (fun hge => ?_)
 ·have hk' : k < O.length := by omega
  have bad : ¬ fine n O (k + 1) → V.bool false = V.bool (decide (isOrd n O)) := fun hb => Qb (decide_eq_false fun h => hb fun j hj => h.2 j (by omega)).symm
  have hmg := metL_get n O k hf
  ((conv=>whnf);repeat (refine Wa ?_;(repeat (first|refine Wb ?_|refine Wc ?_|refine Wd ?_|refine We ?_|refine Wf ?_));(conv=>whnf)))
  refine ⟨by omega, ?_⟩
  ((conv=>whnf);repeat (refine Wa ?_;(repeat (first|refine Wb ?_|refine Wc ?_|refine Wd ?_|refine We ?_|refine Wf ?_));(conv=>whnf)))
  refine ⟨by omega, ?_⟩
  refine br_dec (fun h1 => ?_) (fun h1 => ?_)
  ·have h1 : O.getD k 0 < 0 := h1
   ((conv=>whnf);repeat (refine Wa ?_;(repeat (first|refine Wb ?_|refine Wc ?_|refine Wd ?_|refine We ?_|refine Wf ?_));(conv=>whnf)))
   refine ⟨trivial, bad fun h => ?_⟩
   have := (h k (by omega)).1.1
   omega
  have h1 : ¬ O.getD k 0 < 0 := h1
  ((conv=>whnf);repeat (refine Wa ?_;(repeat (first|refine Wb ?_|refine Wc ?_|refine Wd ?_|refine We ?_|refine Wf ?_));(conv=>whnf)))
  refine ⟨by omega, ?_⟩
  ((conv=>whnf);repeat (refine Wa ?_;(repeat (first|refine Wb ?_|refine Wc ?_|refine Wd ?_|refine We ?_|refine Wf ?_));(conv=>whnf)))
  refine ⟨by omega, ?_⟩
  ((conv=>whnf);repeat (refine Wa ?_;(repeat (first|refine Wb ?_|refine Wc ?_|refine Wd ?_|refine We ?_|refine Wf ?_));(conv=>whnf)))
  refine br_dec (fun h2 => ?_) (fun h2 => ?_)
  ·have h2 : O.getD k 0 ≥ n := h2
   ((conv=>whnf);repeat (refine Wa ?_;(repeat (first|refine Wb ?_|refine Wc ?_|refine Wd ?_|refine We ?_|refine Wf ?_));(conv=>whnf)))
   refine ⟨trivial, bad fun h => ?_⟩
   have := (h k (by omega)).1.2
   omega
  have h2 : ¬ O.getD k 0 ≥ n := h2
  ((conv=>whnf);repeat (refine Wa ?_;(repeat (first|refine Wb ?_|refine Wc ?_|refine Wd ?_|refine We ?_|refine Wf ?_));(conv=>whnf)))
  refine ⟨by omega, ?_⟩
  ((conv=>whnf);repeat (refine Wa ?_;(repeat (first|refine Wb ?_|refine Wc ?_|refine Wd ?_|refine We ?_|refine Wf ?_));(conv=>whnf)))
  refine ⟨by omega, ?_⟩
  ((conv=>whnf);repeat (refine Wa ?_;(repeat (first|refine Wb ?_|refine Wc ?_|refine Wd ?_|refine We ?_|refine Wf ?_));(conv=>whnf)))
  refine ⟨(show 0 ≤ O.getD k 0 by omega), ?_⟩
  refine ⟨(show O.getD k 0 < (n : Int) by omega), ?_⟩
  (conv=>whnf)
  have hq := hmg (0 + (O.getD k 0).toNat) (by omega)
  generalize hb : (metL n O k).getD (0 + (O.getD (k : Int).toNat 0).toNat) false = b
  have hb : (metL n O k).getD (0 + (O.getD k 0).toNat) false = b := hb
  rw [hb] at hq
  cases b with
  | true =>
   obtain ⟨i, hi, he⟩ := hq.1 rfl
   ((conv=>whnf);repeat (refine Wa ?_;(repeat (first|refine Wb ?_|refine Wc ?_|refine Wd ?_|refine We ?_|refine Wf ?_));(conv=>whnf)))
   refine ⟨trivial, bad fun h => ?_⟩
   exact (h k (by omega)).2 i hi (by omega)
  | false =>
   have hset : ∀ q : Nat, q = (O.getD k 0).toNat → (metL n O k).set q true = metL n O (k + 1) := fun q hq => by rw [hq]; rfl
   have hfi : fine n O (k + 1) := fine_succ hf (by omega) (by omega) fun i hi he => by
    have := hq.2 ⟨i, hi, by omega⟩
    cases this
   ((conv=>whnf);repeat (refine Wa ?_;(repeat (first|refine Wb ?_|refine Wc ?_|refine Wd ?_|refine We ?_|refine Wf ?_));(conv=>whnf)))
   repeat ((first | refine ⟨by omega, ?_⟩ | refine ⟨inr (by omega), ?_⟩ | refine ⟨(show 0 ≤ O.getD k 0 by omega), ?_⟩ | refine ⟨(show O.getD k 0 < (n : Int) by omega), ?_⟩); ((conv=>whnf);repeat (refine Wa ?_;(repeat (first|refine Wb ?_|refine Wc ?_|refine Wd ?_|refine We ?_|refine Wf ?_));(conv=>whnf))))
   refine ⟨⟨k + 1, by omega, hfi, rfl, congrArg (fun l => [some (⟨4, 1, 0, .bl l⟩ : Ob)]) (hset _ (Nat.zero_add _))⟩, ?_⟩
   simp [V.toInt, sel, Env.get]; omega
 ·obtain rfl : k = O.length := by omega
  ((conv=>whnf);repeat (refine Wa ?_;(repeat (first|refine Wb ?_|refine Wc ?_|refine Wd ?_|refine We ?_|refine Wf ?_));(conv=>whnf)))
  refine ⟨trivial, Qb ?_⟩
  by_cases h : O.length = n
  ·rw [decide_eq_true (show isOrd n O from ⟨h, hf⟩)]; simp [h]
  ·rw [decide_eq_false (show ¬ isOrd n O from fun h' => h h'.1)]; simp; omega
theorem isOrd_asg {n : Nat} {l : List Int} : isOrd n l ↔ l ∈ asg n n [] := by
 rw [asg_get]
 constructor
 ·rintro ⟨h, hf⟩
  exact ⟨h, fun j hj => (hf j (by omega)).1, fun i j hi hj => (hf j (by omega)).2 i hi⟩
 ·rintro ⟨h, h1, h2⟩
  exact ⟨h, fun j hj => ⟨h1 j (by omega), fun i hi => h2 i j hi (by omega)⟩⟩
open Classical in
theorem refIsAssignment_pure (n : Nat) (l : List Int) (hn : n ≤ 9) : APure Tryz.prog 24 [.int n, .ints false l] (fun R => R = .bool (decide (l ∈ asg n n []))) := by
 have h := refIsAss_pure n l hn
 rw [decide_eq_decide.2 (isOrd_asg (n := n) (l := l))] at h
 exact h
theorem refSum_pure (l : List Int) (d c : Int) (hl : l.length ≤ 100) (hc : 0 ≤ c ∧ c ≤ 100000000000) (hb : bet (-c) c l l.length) : APure Tryz.prog 32 [parV false l d] (fun R => R = .int (sumL l l.length)) := by
 refine APure_of (X := cx 20) (cx_ok 20) rfl (rs := [(.tmp 2, 3)]) Tryz.func32 (by decide) rfl rfl rfl (by simp [cx]) (nofr1 nofrPa) ?_
 intro hlen
 have hs := sumL_bd2 hb
 ((conv=>whnf);repeat (refine Wa ?_;(repeat (first|refine Wb ?_|refine Wc ?_|refine Wd ?_|refine We ?_|refine Wf ?_));(conv=>whnf)))
 refine AW_loop (X := cx 20) (cx_ok 20) [1, 3, 4] (fun vs M => ∃ k : Nat, k ≤ l.length ∧ vs = [.ptr 0 0 0 0, .int (sumL l k), .int k] ∧ M = [some ⟨25, 2, 0, .one [.ints false l, .int d]⟩]) (fun vs _ => (l.length - (vs.getD 2 .any).toInt).toNat) ?_ ?_
 ·exact ⟨0, Nat.zero_le _, rfl, rfl⟩
 rintro vs M ⟨k, hk, rfl, rfl⟩
 ((conv=>whnf);repeat (refine Wa ?_;(repeat (first|refine Wb ?_|refine Wc ?_|refine Wd ?_|refine We ?_|refine Wf ?_));(conv=>whnf)))
 refine br_dec (fun hlt => ?_) (fun hge => ?_)
 ·have hk' : k < l.length := by omega
  have h1 := hs (k + 1) hk'
  have h2 := Int.mul_le_mul hc.2 (show ((k + 1 : Nat) : Int) ≤ 100 by omega) (by omega) (by omega)
  ((conv=>whnf);repeat (refine Wa ?_;(repeat (first|refine Wb ?_|refine Wc ?_|refine Wd ?_|refine We ?_|refine Wf ?_));(conv=>whnf)))
  repeat ((first | refine ⟨by omega, ?_⟩ | refine ⟨inr (by omega), ?_⟩ | refine eqn_self ?_ | refine ⟨ms (by omega), ?_⟩ | refine ⟨ms (by simp only [Src.n]; omega), ?_⟩ | refine ⟨msk (by omega), ?_⟩ | refine ⟨ms1, ?_⟩); ((conv=>whnf);repeat (refine Wa ?_;(repeat (first|refine Wb ?_|refine Wc ?_|refine Wd ?_|refine We ?_|refine Wf ?_));(conv=>whnf))))
  refine ⟨(show InR (sumL l (k + 1)) from inr (by omega)), ?_⟩
  ((conv=>whnf);repeat (refine Wa ?_;(repeat (first|refine Wb ?_|refine Wc ?_|refine Wd ?_|refine We ?_|refine Wf ?_));(conv=>whnf)))
  repeat ((first | refine ⟨by omega, ?_⟩ | refine ⟨inr (by omega), ?_⟩ | refine eqn_self ?_ | refine ⟨ms (by omega), ?_⟩ | refine ⟨ms (by simp only [Src.n]; omega), ?_⟩ | refine ⟨msk (by omega), ?_⟩ | refine ⟨ms1, ?_⟩); ((conv=>whnf);repeat (refine Wa ?_;(repeat (first|refine Wb ?_|refine Wc ?_|refine Wd ?_|refine We ?_|refine Wf ?_));(conv=>whnf))))
  refine ⟨⟨k + 1, hk', rfl, rfl⟩, ?_⟩
  simp [V.toInt, sel, Env.get]; omega
 ·obtain rfl : k = l.length := by omega
  ((conv=>whnf);repeat (refine Wa ?_;(repeat (first|refine Wb ?_|refine Wc ?_|refine Wd ?_|refine We ?_|refine Wf ?_));(conv=>whnf)))
  exact ⟨trivial, rfl⟩
open Classical in
set_option maxRecDepth 100000 in
theorem refIsRents_pure (n : Nat) (W : Nat → List Int) (z : List Int) (d : Int) : APure Tryz.prog 16 [tabV n W, parV false z d] (fun R => R = .bool (decide (Wis n W ∧ Rts n W z d))) := by
 refine APure_of (X := cx 32) (cx_ok 32) rfl (rs := [(.tmp 4, 4)]) Tryz.func16 (by decide) rfl rfl rfl (by simp [cx]) (nofr2 nofrT nofrPa) ?_
 intro hlen
 have c1 := refRent_pure n W
 have good : (Wis n W ∧ Rts n W z d) → V.bool true = V.bool (decide (Wis n W ∧ Rts n W z d)) := fun h => Qb (decide_eq_true h).symm
 have bad : ¬ (Wis n W ∧ Rts n W z d) → V.bool false = V.bool (decide (Wis n W ∧ Rts n W z d)) := fun h => Qb (decide_eq_false h).symm
 generalize decide (Wis n W ∧ Rts n W z d) = E at *
 by_cases hW : Wis n W
 ·have h1 := hW.1
  have h5 := hW.2.1
  have e1 : reV n W = tup2 (.int (sumL (W 0) n)) (.bool true) := by unfold reV; rw [if_pos hW]
  rw [e1] at c1
  have c3 := refIsParts2_pure z d n (by omega) (-5000) 5000 (by omega) (by omega)
  have hrb := rent_bd hW
  ((conv=>whnf);repeat (refine Wa ?_;(repeat (first|refine Wb ?_|refine Wc ?_|refine Wd ?_|refine We ?_|refine Wf ?_));(conv=>whnf)))
  refine APure.to (APure.arg1 subT c1) ?_
  ((conv=>whnf);repeat (refine Wa ?_;(repeat (first|refine Wb ?_|refine Wc ?_|refine Wd ?_|refine We ?_|refine Wf ?_));(conv=>whnf)))
  refine AW_draw (X := cx 32) (cx_ok 32) mixed (by kernel_rfl) ?_
  ((conv=>whnf);repeat (refine Wa ?_;(repeat (first|refine Wb ?_|refine Wc ?_|refine Wd ?_|refine We ?_|refine Wf ?_));(conv=>whnf)))
  repeat ((first | refine ⟨by omega, ?_⟩ | refine ⟨inr (by omega), ?_⟩ | refine eqn_self ?_ | refine ⟨ms (by omega), ?_⟩ | refine ⟨ms (by simp only [Src.n]; omega), ?_⟩ | refine ⟨msk (by omega), ?_⟩ | refine ⟨ms1, ?_⟩); ((conv=>whnf);repeat (refine Wa ?_;(repeat (first|refine Wb ?_|refine Wc ?_|refine Wd ?_|refine We ?_|refine Wf ?_));(conv=>whnf))))
  refine ⟨_, APure.arg4 (sub2 rfl rfl) (Sub.refl _) (Sub.refl _) (Sub.refl _) c3, ?_⟩
  ((conv=>whnf);repeat (refine Wa ?_;(repeat (first|refine Wb ?_|refine Wc ?_|refine Wd ?_|refine We ?_|refine Wf ?_));(conv=>whnf)))
  refine br_dec (fun h3 => ?_) (fun h3 => ?_)
  ·have h3 : IsQ z d n (-5000) 5000 := h3
   have hz : z.length = n := h3.1
   have hd : 1 ≤ d ∧ d ≤ 10000000 := ⟨h3.2.1, h3.2.2.1⟩
   have hb : bet (-50000000000) 50000000000 z z.length := rts_bet h3
   have c4 := refSum_pure z d 50000000000 (by omega) (by omega) hb
   rw [hz] at c4
   have hm : 0 ≤ sumL (W 0) n * d ∧ sumL (W 0) n * d ≤ 50000000000 := rent_mul hrb hd
   ((conv=>whnf);repeat (refine Wa ?_;(repeat (first|refine Wb ?_|refine Wc ?_|refine Wd ?_|refine We ?_|refine Wf ?_));(conv=>whnf)))
   refine ⟨_, APure.arg1 (sub2 rfl rfl) c4, ?_⟩
   ((conv=>whnf);repeat (refine Wa ?_;(repeat (first|refine Wb ?_|refine Wc ?_|refine Wd ?_|refine We ?_|refine Wf ?_));(conv=>whnf)))
   refine ⟨(show InR (sumL (W 0) n * d) from inr (by omega)), ?_⟩
   ((conv=>whnf);repeat (refine Wa ?_;(repeat (first|refine Wb ?_|refine Wc ?_|refine Wd ?_|refine We ?_|refine Wf ?_));(conv=>whnf)))
   refine ⟨trivial, ?_⟩
   by_cases h4 : sumL z n = sumL (W 0) n * d
   ·exact (show V.bool (sumL z n == sumL (W 0) n * d) = _ from (Qb (by simp [h4])).trans (good ⟨hW, h3, h4⟩))
   ·exact (show V.bool (sumL z n == sumL (W 0) n * d) = _ from (Qb (by simp [h4])).trans (bad fun h => h4 h.2.2))
  ·have h3 : ¬ IsQ z d n (-5000) 5000 := h3
   ((conv=>whnf);repeat (refine Wa ?_;(repeat (first|refine Wb ?_|refine Wc ?_|refine Wd ?_|refine We ?_|refine Wf ?_));(conv=>whnf)))
   exact ⟨trivial, bad (fun h => h3 h.2.1)⟩
 ·have e1 : reV n W = tup2 (.int 0) (.bool false) := by unfold reV; rw [if_neg hW]
  rw [e1] at c1
  ((conv=>whnf);repeat (refine Wa ?_;(repeat (first|refine Wb ?_|refine Wc ?_|refine Wd ?_|refine We ?_|refine Wf ?_));(conv=>whnf)))
  refine APure.to (APure.arg1 subT c1) ?_
  ((conv=>whnf);repeat (refine Wa ?_;(repeat (first|refine Wb ?_|refine Wc ?_|refine Wd ?_|refine We ?_|refine Wf ?_));(conv=>whnf)))
  refine AW_draw (X := cx 32) (cx_ok 32) mixed (by kernel_rfl) ?_
  ((conv=>whnf);repeat (refine Wa ?_;(repeat (first|refine Wb ?_|refine Wc ?_|refine Wd ?_|refine We ?_|refine Wf ?_));(conv=>whnf)))
  exact ⟨trivial, bad (fun h => hW h.1)⟩
end Go.Tri
