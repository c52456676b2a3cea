/-
 LAW: FetchMended.
-/
import Derived.Test.YtafibngpgllcfaaM9
import Derived.Test.YtafibngpgllcfaaB29
import Derived.Test.YtafibngpgllcfaaE1
namespace Go.Tri
open Go.Proofs

theorem nofrD {n : Int} {m : Nat} {A B : Nat → Int} {a : List Int} : ∀ v ∈ [V.int n, stV false m A B, V.ints false a], NoFr v := by intro v hv; simp at hv; rcases hv with rfl | rfl | rfl; exact nofrInt; exact nofrS; rfl
set_option maxRecDepth 100000 in
theorem FetchMended_bad {n : Int} {m : Nat} {A B : Nat → Int} (l : List Int) (h : ¬ ((m ≤ 40 ∧ l.length ≤ 60) ∧ ckE n m A B = 0)) : APure Try.prog 9 [.int n, stV false m A B, .ints false l] (fun R => R = .bool true) := by
 refine APure_of (X := cx 130) (cx_ok 130) rfl (rs := [(.tmp 6, 4)]) Try.func9 (by decide) rfl rfl rfl (by simp [cx]) (nofrD) ?_
 intro hlen
 have fin := alive_pure
 have c0 := few_pure m A B l
 have c1 := Quarter_pure n m A B
 ((conv=>whnf);repeat (refine Wa ?_;(repeat (first|refine Wb ?_|refine Wc ?_|refine Wd ?_|refine We ?_|refine Wf ?_));(conv=>whnf)))
 refine APure.to (APure.arg2 subS (Sub.refl _) c0) ?_
 ((conv=>whnf);repeat (refine Wa ?_;(repeat (first|refine Wb ?_|refine Wc ?_|refine Wd ?_|refine We ?_|refine Wf ?_));(conv=>whnf)))
 by_cases hm : m ≤ 40 ∧ l.length ≤ 60
 ·rw [decide_eq_true hm]
  ((conv=>whnf);repeat (refine Wa ?_;(repeat (first|refine Wb ?_|refine Wc ?_|refine Wd ?_|refine We ?_|refine Wf ?_));(conv=>whnf)))
  refine APure.to (APure.arg2 (Sub.refl _) subS c1) ?_
  ((conv=>whnf);repeat (refine Wa ?_;(repeat (first|refine Wb ?_|refine Wc ?_|refine Wd ?_|refine We ?_|refine Wf ?_));(conv=>whnf)))
  refine br_ne (fun _ => ?_) (fun h' => absurd ⟨hm, h'⟩ h)
  ((conv=>whnf);repeat (refine Wa ?_;(repeat (first|refine Wb ?_|refine Wc ?_|refine Wd ?_|refine We ?_|refine Wf ?_));(conv=>whnf)))
  refine APure.to fin ?_
  ((conv=>whnf);repeat (refine Wa ?_;(repeat (first|refine Wb ?_|refine Wc ?_|refine Wd ?_|refine We ?_|refine Wf ?_));(conv=>whnf)))
  exact ⟨trivial, rfl⟩
 ·rw [decide_eq_false hm]
  ((conv=>whnf);repeat (refine Wa ?_;(repeat (first|refine Wb ?_|refine Wc ?_|refine Wd ?_|refine We ?_|refine Wf ?_));(conv=>whnf)))
  refine APure.to fin ?_
  ((conv=>whnf);repeat (refine Wa ?_;(repeat (first|refine Wb ?_|refine Wc ?_|refine Wd ?_|refine We ?_|refine Wf ?_));(conv=>whnf)))
  exact ⟨trivial, rfl⟩
theorem beq_of_iff {x y : Int} {b : Bool} (h : b = true ↔ x = y) : (b == (x == y)) = true := by
 rw [beq_iff_eq, Bool.eq_iff_iff, h, beq_iff_eq]
set_option maxRecDepth 100000 in
set_option maxHeartbeats 1600000 in
theorem FetchMended_good {n m : Nat} {A B : Nat → Nat} (h : Qok n m A B) (l : List Int) (hl : l.length ≤ 60) : APure Try.prog 9 [.int n, stV false m (fun j => A j) (fun j => B j), .ints false l] (fun R => R = .bool true) := by
 refine APure_of (X := cx 130) (cx_ok 130) rfl (rs := [(.tmp 6, 4)]) Try.func9 (by decide) rfl rfl rfl (by simp [cx]) (nofrD) ?_
 intro hlen
 have fin := alive_pure
 have hm := h.q.sm
 have c0 := few_pure m (fun j => A j) (fun j => B j) l
 rw [decide_eq_true (show m ≤ 40 ∧ l.length ≤ 60 by omega)] at c0
 have c1 := Quarter_pure n m (fun j => A j) (fun j => B j)
 rw [ckE_ok h] at c1
 have c2 := Strong_pure h
 have c3 := Cuts_pure h
 have c4 := Mend_pure h
 have c5 := Parts_pure h
 have c6 := Both_pure h l hl
 obtain ⟨sB, hsB⟩ : ∃ sB, decide (((prS n m A B n).2.length : Int) = 1) = sB := ⟨_, rfl⟩
 have e1 : (sB == (((cutL n m A B (fullN n)).length : Int) == 0)) = true := beq_of_iff (by rw [← hsB, decide_eq_true_iff, parts_one h]; omega)
 have e2 : (sB == (((mdR n m A B).length : Int) == 0)) = true := beq_of_iff (by rw [← hsB, decide_eq_true_iff, parts_one h, mdR_len h, ← mdK_zero h]; omega)
 have e3 : (sB == (((prS n m A B n).2.length : Int) == 1)) = true := beq_of_iff (by rw [← hsB, decide_eq_true_iff])
 rw [hsB] at c2
 obtain ⟨P, hP⟩ : ∃ P, (prS n m A B n).2 = P := ⟨_, rfl⟩
 rw [hP] at c5 e3
 obtain ⟨L, hL⟩ : ∃ L, cutL n m A B (fullN n) = L := ⟨_, rfl⟩
 rw [hL] at c3 e1
 obtain ⟨D, hD⟩ : ∃ D, mdR n m A B = D := ⟨_, rfl⟩
 rw [hD] at c4 e2
 clear hsB
 ((conv=>whnf);repeat (refine Wa ?_;(repeat (first|refine Wb ?_|refine Wc ?_|refine Wd ?_|refine We ?_|refine Wf ?_));(conv=>whnf)))
 refine APure.to (APure.arg2 subS (Sub.refl _) c0) ?_
 ((conv=>whnf);repeat (refine Wa ?_;(repeat (first|refine Wb ?_|refine Wc ?_|refine Wd ?_|refine We ?_|refine Wf ?_));(conv=>whnf)))
 refine APure.to (APure.arg2 (Sub.refl _) subS c1) ?_
 ((conv=>whnf);repeat (refine Wa ?_;(repeat (first|refine Wb ?_|refine Wc ?_|refine Wd ?_|refine We ?_|refine Wf ?_));(conv=>whnf)))
 refine APure.to (APure.arg2 (Sub.refl _) subS c2) ?_
 ((conv=>whnf);repeat (refine Wa ?_;(repeat (first|refine Wb ?_|refine Wc ?_|refine Wd ?_|refine We ?_|refine Wf ?_));(conv=>whnf)))
 refine APure.to (APure.arg2 (Sub.refl _) subS c3) ?_
 ((conv=>whnf);repeat (refine Wa ?_;(repeat (first|refine Wb ?_|refine Wc ?_|refine Wd ?_|refine We ?_|refine Wf ?_));(conv=>whnf)))
 refine APure.to (APure.arg2 (Sub.refl _) subS c4) ?_
 ((conv=>whnf);repeat (refine Wa ?_;(repeat (first|refine Wb ?_|refine Wc ?_|refine Wd ?_|refine We ?_|refine Wf ?_));(conv=>whnf)))
 refine APure.to (APure.arg2 (Sub.refl _) subS c5) ?_
 ((conv=>whnf);repeat (refine Wa ?_;(repeat (first|refine Wb ?_|refine Wc ?_|refine Wd ?_|refine We ?_|refine Wf ?_));(conv=>whnf)))
 rw [e1]
 ((conv=>whnf);repeat (refine Wa ?_;(repeat (first|refine Wb ?_|refine Wc ?_|refine Wd ?_|refine We ?_|refine Wf ?_));(conv=>whnf)))
 rw [e2]
 ((conv=>whnf);repeat (refine Wa ?_;(repeat (first|refine Wb ?_|refine Wc ?_|refine Wd ?_|refine We ?_|refine Wf ?_));(conv=>whnf)))
 rw [e3]
 ((conv=>whnf);repeat (refine Wa ?_;(repeat (first|refine Wb ?_|refine Wc ?_|refine Wd ?_|refine We ?_|refine Wf ?_));(conv=>whnf)))
 by_cases h0 : cbE m l = 0
 ·rw [if_pos h0] at c6
  have hml : ¬ 14 < m + l.length := fun h1 => by unfold cbE at h0; rw [if_pos h1] at h0; cases h0
  have has : asB m l l.length = true := by
   unfold cbE at h0
   rw [if_neg hml] at h0
   cases hb : asB m l l.length with
   | true => rfl
   | false => rw [hb] at h0; cases h0
  have c7 := IsMend_pure h l
  have c8 := Strong_pure (bo_ok h has (by omega))
  have e4 : (imB n m A B l == decide (((prS n (m + l.length) (boF m A B l) (boF m B A l) n).2.length : Int) = 1)) = true := by
   rw [beq_iff_eq, Bool.eq_iff_iff, bo_mend h has (by omega), decide_eq_true_iff, parts_one (bo_ok h has (by omega))]
  obtain ⟨x, hx⟩ : ∃ x, imB n m A B l = x := ⟨_, rfl⟩
  obtain ⟨y, hy⟩ : ∃ y, decide (((prS n (m + l.length) (boF m A B l) (boF m B A l) n).2.length : Int) = 1) = y := ⟨_, rfl⟩
  rw [hx] at c7 e4
  rw [hy] at c8 e4
  refine APure.to (APure.arg3 (Sub.refl _) subS (Sub.refl _) c6) ?_
  ((conv=>whnf);repeat (refine Wa ?_;(repeat (first|refine Wb ?_|refine Wc ?_|refine Wd ?_|refine We ?_|refine Wf ?_));(conv=>whnf)))
  refine APure.to (APure.arg3 (Sub.refl _) subS (Sub.refl _) c7) ?_
  ((conv=>whnf);repeat (refine Wa ?_;(repeat (first|refine Wb ?_|refine Wc ?_|refine Wd ?_|refine We ?_|refine Wf ?_));(conv=>whnf)))
  refine APure.to (APure.arg2 (Sub.refl _) subS c8) ?_
  ((conv=>whnf);repeat (refine Wa ?_;(repeat (first|refine Wb ?_|refine Wc ?_|refine Wd ?_|refine We ?_|refine Wf ?_));(conv=>whnf)))
  rw [e4]
  ((conv=>whnf);repeat (refine Wa ?_;(repeat (first|refine Wb ?_|refine Wc ?_|refine Wd ?_|refine We ?_|refine Wf ?_));(conv=>whnf)))
  refine APure.to fin ?_
  ((conv=>whnf);repeat (refine Wa ?_;(repeat (first|refine Wb ?_|refine Wc ?_|refine Wd ?_|refine We ?_|refine Wf ?_));(conv=>whnf)))
  exact ⟨trivial, rfl⟩
 ·rw [if_neg h0] at c6
  refine APure.to (APure.arg3 (Sub.refl _) subS (Sub.refl _) c6) ?_
  ((conv=>whnf);repeat (refine Wa ?_;(repeat (first|refine Wb ?_|refine Wc ?_|refine Wd ?_|refine We ?_|refine Wf ?_));(conv=>whnf)))
  refine br_ne (fun _ => ?_) (fun h' => absurd h' h0)
  ((conv=>whnf);repeat (refine Wa ?_;(repeat (first|refine Wb ?_|refine Wc ?_|refine Wd ?_|refine We ?_|refine Wf ?_));(conv=>whnf)))
  refine APure.to fin ?_
  ((conv=>whnf);repeat (refine Wa ?_;(repeat (first|refine Wb ?_|refine Wc ?_|refine Wd ?_|refine We ?_|refine Wf ?_));(conv=>whnf)))
  exact ⟨trivial, rfl⟩
theorem FetchMended_pure (n : Int) (m : Nat) (A B : Nat → Int) (l : List Int) : APure Try.prog 9 [.int n, stV false m A B, .ints false l] (fun R => R = .bool true) := by
 by_cases h : (m ≤ 40 ∧ l.length ≤ 60) ∧ ckE n m A B = 0
 ·obtain ⟨hn, hQ, _, _⟩ := ckE_zero h.2
  rw [hn]
  exact APure.arg3 (Sub.refl _) (subClean h.2) (Sub.refl _) (FetchMended_good hQ l h.1.2)
 ·exact FetchMended_bad l h
end Go.Tri
