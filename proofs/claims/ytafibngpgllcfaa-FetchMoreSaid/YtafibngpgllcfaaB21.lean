/-
 CONTRACTS: the laws' own small functions.
-/
import Derived.Test.YtafibngpgllcfaaB15
namespace Go.Tri
open Go.Proofs

theorem nofrSL {m : Nat} {A B : Nat → Int} {l : List Int} : ∀ x ∈ [stV false m A B, V.ints false l], NoFr x := nofr2 nofrS (show NoFr (.ints false l) from rfl)
theorem few_pure (m : Nat) (A B : Nat → Int) (l : List Int) : APure Try.prog 15 [stV false m A B, .ints false l] (fun R => R = .bool (decide (m ≤ 40 ∧ l.length ≤ 60))) := by
 refine APure_of (X := cx 13) (cx_ok 13) rfl (rs := [(.tmp 4, 4)]) Try.func15 (by decide) rfl rfl rfl (by simp [cx]) (nofrSL) ?_
 intro hlen
 ((conv=>whnf);repeat (refine Wa ?_;(repeat (first|refine Wb ?_|refine Wc ?_|refine Wd ?_|refine We ?_|refine Wf ?_));(conv=>whnf)))
 refine br_dec (fun h => ?_) (fun h => ?_)
 ·have h : (m : Int) ≤ 40 := h
  ((conv=>whnf);repeat (refine Wa ?_;(repeat (first|refine Wb ?_|refine Wc ?_|refine Wd ?_|refine We ?_|refine Wf ?_));(conv=>whnf)))
  refine ⟨trivial, Qb (decide_eq_decide.2 ?_)⟩
  show (l.length : Int) ≤ 60 ↔ _
  omega
 ·have h : ¬ (m : Int) ≤ 40 := h
  ((conv=>whnf);repeat (refine Wa ?_;(repeat (first|refine Wb ?_|refine Wc ?_|refine Wd ?_|refine We ?_|refine Wf ?_));(conv=>whnf)))
  refine ⟨trivial, Qb (decide_eq_false ?_).symm⟩
  omega
theorem same_pure (a b : List Int) : APure Try.prog 19 [.ints false a, .ints false b] (fun R => R = .bool (decide (a = b))) := by
 refine APure_of (X := cx 26) (cx_ok 26) rfl (rs := [(.tmp 4, 4)]) Try.func19 (by decide) rfl rfl rfl (by simp [cx]) (by simp [NoFr]) ?_
 intro hlen
 have hla : (a.length : Int) ≤ 9223372036854775807 := hlen (.ints false a) (by simp)
 ((conv=>whnf);repeat (refine Wa ?_;(repeat (first|refine Wb ?_|refine Wc ?_|refine Wd ?_|refine We ?_|refine Wf ?_));(conv=>whnf)))
 refine br_ne (fun h => ?_) (fun h => ?_)
 ·((conv=>whnf);repeat (refine Wa ?_;(repeat (first|refine Wb ?_|refine Wc ?_|refine Wd ?_|refine We ?_|refine Wf ?_));(conv=>whnf)))
  refine ⟨trivial, Qb ?_⟩
  have : ¬ a = b := fun e => h (by rw [e])
  simp [this]
 ·((conv=>whnf);repeat (refine Wa ?_;(repeat (first|refine Wb ?_|refine Wc ?_|refine Wd ?_|refine We ?_|refine Wf ?_));(conv=>whnf)))
  have hab : a.length = b.length := by omega
  refine AW_loop (X := cx 26) (cx_ok 26) [0, 1, 5] (fun vs M => ∃ k : Nat, k ≤ a.length ∧ a.take k = b.take k ∧ vs = [.ints false a, .ints false b, .int k] ∧ M = []) (fun vs _ => a.length - (vs.getD 2 .any).toInt.toNat) ?_ ?_
  ·exact ⟨0, Nat.zero_le _, rfl, rfl, rfl⟩
  ·rintro vs M ⟨k, hk, hkab, rfl, rfl⟩
   ((conv=>whnf);repeat (refine Wa ?_;(repeat (first|refine Wb ?_|refine Wc ?_|refine Wd ?_|refine We ?_|refine Wf ?_));(conv=>whnf)))
   refine br_dec (fun hlt => ?_) (fun hge => ?_)
   ·have hk' : k < a.length := by omega
    ((conv=>whnf);repeat (refine Wa ?_;(repeat (first|refine Wb ?_|refine Wc ?_|refine Wd ?_|refine We ?_|refine Wf ?_));(conv=>whnf)))
    refine AW_draw (X := cx 26) (cx_ok 26) mixed (by kernel_rfl) ?_
    ((conv=>whnf);repeat (refine Wa ?_;(repeat (first|refine Wb ?_|refine Wc ?_|refine Wd ?_|refine We ?_|refine Wf ?_));(conv=>whnf)))
    repeat ((first | refine ⟨by omega, ?_⟩ | refine ⟨inr (by omega), ?_⟩ | refine eqn_self ?_ | refine ⟨ms (by omega), ?_⟩ | refine ⟨ms (by simp only [Src.n]; omega), ?_⟩ | refine ⟨msk (by omega), ?_⟩ | refine ⟨ms1, ?_⟩); ((conv=>whnf);repeat (refine Wa ?_;(repeat (first|refine Wb ?_|refine Wc ?_|refine Wd ?_|refine We ?_|refine Wf ?_));(conv=>whnf))))
    refine br_ne (fun h => ?_) (fun h => ?_)
    ·((conv=>whnf);repeat (refine Wa ?_;(repeat (first|refine Wb ?_|refine Wc ?_|refine Wd ?_|refine We ?_|refine Wf ?_));(conv=>whnf)))
     refine ⟨trivial, Qb ?_⟩
     have : ¬ a = b := fun e => h (by rw [e])
     simp [this]
    ·((conv=>whnf);repeat (refine Wa ?_;(repeat (first|refine Wb ?_|refine Wc ?_|refine Wd ?_|refine We ?_|refine Wf ?_));(conv=>whnf)))
     repeat ((first | refine ⟨by omega, ?_⟩ | refine ⟨inr (by omega), ?_⟩ | refine eqn_self ?_ | refine ⟨ms (by omega), ?_⟩ | refine ⟨ms (by simp only [Src.n]; omega), ?_⟩ | refine ⟨msk (by omega), ?_⟩ | refine ⟨ms1, ?_⟩); ((conv=>whnf);repeat (refine Wa ?_;(repeat (first|refine Wb ?_|refine Wc ?_|refine Wd ?_|refine We ?_|refine Wf ?_));(conv=>whnf))))
     refine ⟨⟨k + 1, by omega, ?_, rfl, rfl⟩, ?_⟩
     ·rw [take_succ_getD _ _ hk', take_succ_getD _ _ (by omega), hkab]
      simp only [Int.toNat_natCast] at h
      rw [h]
     ·simp [V.toInt, sel, Env.get]; omega
   ·((conv=>whnf);repeat (refine Wa ?_;(repeat (first|refine Wb ?_|refine Wc ?_|refine Wd ?_|refine We ?_|refine Wf ?_));(conv=>whnf)))
    refine ⟨trivial, Qb ?_⟩
    rw [List.take_of_length_le (by omega), List.take_of_length_le (by omega)] at hkab
    simp [hkab]
theorem same_self (a : List Int) : APure Try.prog 19 [.ints false a, .ints false a] (fun R => R = .bool true) := by
 have := same_pure a a
 rwa [decide_eq_true rfl] at this
theorem subClean {n : Int} {m : Nat} {A B : Nat → Int} (h : ckE n m A B = 0) : Sub (stV false m A B) (stV false m (fun j => (clN m A j : Nat)) (fun j => (clN m B j : Nat))) := sub_seq fun j k hj hk => Sub.of (by
 obtain ⟨_, _, eA, eB⟩ := ckE_zero h
 unfold raS
 split
 ·exact congrArg V.int (eA j hj)
 ·exact congrArg V.int (eB j hj))
theorem cutL_has {n m : Nat} {A B : Nat → Nat} {s : Nat} (h : cutB n m A B s = true) : ∃ j, j < (cutL n m A B (fullN n)).length ∧ (cutL n m A B (fullN n)).getD j 0 = s := by
 have h1 : (s : Int) ∈ cutL n m A B (fullN n) := (cutL_mem (fullN n)).2 ⟨s, by unfold cutB at h; simp only [Bool.and_eq_true, decide_eq_true_iff] at h; exact h.2.1, h, rfl⟩
 obtain ⟨j, hj, he⟩ := List.getElem_of_mem h1
 exact ⟨j, hj, by rw [List.getD_eq_getElem?_getD, List.getElem?_eq_getElem hj]; exact he⟩
/-- Is it seen among the first k? -/
def seen (L : List Int) (x : Int) (b : Bool) : Nat → Bool
 | 0 => b
 | k + 1 => seen L x b k || (L.getD k 0 == x)
theorem seen_iff {L : List Int} {x : Int} {b : Bool} : ∀ k, seen L x b k = true ↔ b = true ∨ ∃ j, j < k ∧ L.getD j 0 = x := by
 intro k
 induction k with
 | zero => simp [seen]
 | succ k ih =>
  rw [seen, Bool.or_eq_true, ih, beq_iff_eq]
  refine ⟨?_, ?_⟩
  ·rintro ((h | ⟨j, h1, h2⟩) | h)
   ·exact .inl h
   ·exact .inr ⟨j, by omega, h2⟩
   ·exact .inr ⟨k, by omega, h⟩
  ·rintro (h | ⟨j, h1, h2⟩)
   ·exact .inl (.inl h)
   ·by_cases hj : j = k
    ·subst hj; exact .inr h2
    ·exact .inl (.inr ⟨j, by omega, h2⟩)
theorem wf_u8 {p : Int} (h : (Lit.int .u8 p).wf = true) : 0 ≤ p ∧ p ≤ 255 := by
 simp only [Lit.wf, Bool.and_eq_true, decide_eq_true_eq] at h
 exact h
end Go.Tri
