/-
 CONTRACTS: Mend and Mends.
-/
import Derived.Test.YtafibngpgllcfaaB28
namespace Go.Tri
open Go.Proofs

theorem mends_pure {n m : Nat} {A B : Nat → Nat} (h : Qok n m A B) : APure Try.prog 53 [qu n m A B] (fun R => ∃ (g : Nat → Nat → V) (Q : List Nat), R = .seq true 1 Q.length g ∧ (∀ j, j < Q.length → g j 0 = .ints true (mbL (Q.getD j 0) 14)) ∧ Q.Perm (mdL n m A B) ∧ ∀ i j, i < j → j < Q.length → ¬ cmpL (mbL (Q.getD j 0) 14) (mbL (Q.getD i 0) 14) < 0) := by
 refine APure_of_ACM (nofr1 nofrQ') ((mends_cm h).mono (fun _ _ h => h) (.inl rfl)) ?_
 rintro R M ⟨t, ver, f, Q, rfl, hM, hf, hp, hs⟩
 have e : ownval M 4 (.sl t ver 0 Q.length) = .seq true 1 Q.length fun j k => ownvalN M 4 (f (0 + j) k) := by
  unfold ownval
  simp only [hM, view, Con.f]
 have e2 : ∀ j, j < Q.length → ownvalN M 4 (f (0 + j) 0) = .ints true (mbL (Q.getD j 0) 14) := fun j hj => by
  rw [Nat.zero_add, hf j hj]
  rfl
 rw [e]
 refine ⟨?_, ⟨rfl, fun j k hj hk => ?_⟩, _, Q, rfl, e2, hp, hs⟩
 ·simp only [verOk, hM]
  exact eqnO_holds.2 rfl
 ·obtain rfl : k = 0 := by omega
  show Fr (ownvalN M 4 (f (0 + j) 0))
  rw [e2 j hj]
  exact rfl
/-- The first row behind the sort is the least one. -/
theorem first_row {n m : Nat} {A B : Nat → Nat} (h : Qok n m A B) {Q : List Nat} (hp : Q.Perm (mdL n m A B)) (hs : ∀ i j, i < j → j < Q.length → ¬ cmpL (mbL (Q.getD j 0) 14) (mbL (Q.getD i 0) 14) < 0) : 0 < Q.length ∧ mbL (Q.getD 0 0) 14 = mdR n m A B := by
 have hl : 0 < Q.length := by rw [hp.length_eq]; exact mdL_pos h
 have gm : ∀ j, j < Q.length → Q.getD j 0 ∈ Q := fun j hj => by
  rw [show Q.getD j 0 = Q[j] by simp [List.getD, hj]]
  exact List.getElem_mem hj
 refine ⟨hl, lsR_eq (List.mem_map.2 ⟨_, hp.mem_iff.1 (gm 0 hl), rfl⟩) fun y hy => ?_⟩
 obtain ⟨s, h1, rfl⟩ := List.mem_map.1 hy
 obtain ⟨j, hj, he⟩ := List.getElem_of_mem (hp.mem_iff.2 h1)
 have he : Q.getD j 0 = s := by rw [← he]; simp [List.getD, hj]
 rw [← he]
 by_cases h0 : j = 0
 ·rw [h0]
  exact cmpL_irrefl _
 ·exact hs 0 j (by omega) hj
set_option maxRecDepth 100000 in
theorem Mend_bad {n : Int} {m : Nat} {A B : Nat → Int} (h : ckE n m A B ≠ 0) : APure Try.prog 24 [.int n, stV false m A B] (fun R => R = tup2 (.ints true []) (.int (ckE n m A B))) := by
 refine APure_of (X := cx 20) (cx_ok 20) rfl (rs := [(.tmp 4, 25), (.tmp 5, 26)]) Try.func24 (by decide) rfl rfl rfl (by simp [cx]) (nofrN2) ?_
 intro hlen
 have c1 := check_all n m A B
 ((conv=>whnf);repeat (refine Wa ?_;(repeat (first|refine Wb ?_|refine Wc ?_|refine Wd ?_|refine We ?_|refine Wf ?_));(conv=>whnf)))
 refine APure.to (APure.arg1 (subQ2 rfl rfl) c1) ?_
 ((conv=>whnf);repeat (refine Wa ?_;(repeat (first|refine Wb ?_|refine Wc ?_|refine Wd ?_|refine We ?_|refine Wf ?_));(conv=>whnf)))
 refine br_ne (fun _ => ?_) (fun h' => absurd h' h)
 ((conv=>whnf);repeat (refine Wa ?_;(repeat (first|refine Wb ?_|refine Wc ?_|refine Wd ?_|refine We ?_|refine Wf ?_));(conv=>whnf)))
 exact ⟨rfl, trivial, rfl⟩
set_option maxRecDepth 100000 in
theorem Mend_pure {n m : Nat} {A B : Nat → Nat} (h : Qok n m A B) : APure Try.prog 24 [.int n, stV false m (fun j => A j) (fun j => B j)] (fun R => R = tup2 (.ints true (mdR n m A B)) (.int 0)) := by
 refine APure_of (X := cx 20) (cx_ok 20) rfl (rs := [(.tmp 4, 25), (.tmp 5, 26)]) Try.func24 (by decide) rfl rfl rfl (by simp [cx]) (nofrN2) ?_
 intro hlen
 have c1 := check_all n m (fun j => A j) (fun j => B j)
 rw [ckE_ok h] at c1
 ((conv=>whnf);repeat (refine Wa ?_;(repeat (first|refine Wb ?_|refine Wc ?_|refine Wd ?_|refine We ?_|refine Wf ?_));(conv=>whnf)))
 refine APure.to (APure.arg1 (subQ2 rfl rfl) c1) ?_
 ((conv=>whnf);repeat (refine Wa ?_;(repeat (first|refine Wb ?_|refine Wc ?_|refine Wd ?_|refine We ?_|refine Wf ?_));(conv=>whnf)))
 refine APure.mono (APure.arg1 (subQ rfl rfl) (mends_pure h)) ?_
 rintro R ⟨g, Q, rfl, hg, hp, hs⟩
 obtain ⟨hl, e⟩ := first_row h hp hs
 ((conv=>whnf);repeat (refine Wa ?_;(repeat (first|refine Wb ?_|refine Wc ?_|refine Wd ?_|refine We ?_|refine Wf ?_));(conv=>whnf)))
 refine ⟨by omega, ?_⟩
 refine ⟨(show (0 : Int) < Q.length by omega), ?_⟩
 ((conv=>whnf);repeat (refine Wa ?_;(repeat (first|refine Wb ?_|refine Wc ?_|refine Wd ?_|refine We ?_|refine Wf ?_));(conv=>whnf)))
 rw [show (fun k => g (Int.toNat 0) k) 0 = _ from hg 0 hl]
 ((conv=>whnf);repeat (refine Wa ?_;(repeat (first|refine Wb ?_|refine Wc ?_|refine Wd ?_|refine We ?_|refine Wf ?_));(conv=>whnf)))
 exact ⟨rfl, trivial, by rw [e]; rfl⟩
set_option maxRecDepth 100000 in
theorem Mends_bad {n : Int} {m : Nat} {A B : Nat → Int} (h : ckE n m A B ≠ 0) : APure Try.prog 26 [.int n, stV false m A B] (fun R => R = tup2 (.int 0) (.int (ckE n m A B))) := by
 refine APure_of (X := cx 19) (cx_ok 19) rfl (rs := [(.tmp 4, 3), (.tmp 5, 26)]) Try.func26 (by decide) rfl rfl rfl (by simp [cx]) (nofrN2) ?_
 intro hlen
 have c1 := check_all n m A B
 ((conv=>whnf);repeat (refine Wa ?_;(repeat (first|refine Wb ?_|refine Wc ?_|refine Wd ?_|refine We ?_|refine Wf ?_));(conv=>whnf)))
 refine APure.to (APure.arg1 (subQ2 rfl rfl) c1) ?_
 ((conv=>whnf);repeat (refine Wa ?_;(repeat (first|refine Wb ?_|refine Wc ?_|refine Wd ?_|refine We ?_|refine Wf ?_));(conv=>whnf)))
 refine br_ne (fun _ => ?_) (fun h' => absurd h' h)
 ((conv=>whnf);repeat (refine Wa ?_;(repeat (first|refine Wb ?_|refine Wc ?_|refine Wd ?_|refine We ?_|refine Wf ?_));(conv=>whnf)))
 exact ⟨trivial, trivial, rfl⟩
set_option maxRecDepth 100000 in
theorem Mends_pure {n m : Nat} {A B : Nat → Nat} (h : Qok n m A B) : APure Try.prog 26 [.int n, stV false m (fun j => A j) (fun j => B j)] (fun R => R = tup2 (.int (mdL n m A B).length) (.int 0)) := by
 refine APure_of (X := cx 19) (cx_ok 19) rfl (rs := [(.tmp 4, 3), (.tmp 5, 26)]) Try.func26 (by decide) rfl rfl rfl (by simp [cx]) (nofrN2) ?_
 intro hlen
 have c1 := check_all n m (fun j => A j) (fun j => B j)
 rw [ckE_ok h] at c1
 ((conv=>whnf);repeat (refine Wa ?_;(repeat (first|refine Wb ?_|refine Wc ?_|refine Wd ?_|refine We ?_|refine Wf ?_));(conv=>whnf)))
 refine APure.to (APure.arg1 (subQ2 rfl rfl) c1) ?_
 ((conv=>whnf);repeat (refine Wa ?_;(repeat (first|refine Wb ?_|refine Wc ?_|refine Wd ?_|refine We ?_|refine Wf ?_));(conv=>whnf)))
 refine APure.mono (APure.arg1 (subQ rfl rfl) (mends_pure h)) ?_
 rintro R ⟨g, Q, rfl, hg, hp, hs⟩
 ((conv=>whnf);repeat (refine Wa ?_;(repeat (first|refine Wb ?_|refine Wc ?_|refine Wd ?_|refine We ?_|refine Wf ?_));(conv=>whnf)))
 exact ⟨trivial, trivial, by rw [← hp.length_eq]; rfl⟩
end Go.Tri
