/-
 CONTRACTS: the specification's mends with the fewest streets.
-/
import Derived.Test.YtafibngpgllcfaaB26
import Derived.Test.YtafibngpgllcfaaM8
namespace Go.Tri
open Go.Proofs

theorem lsR_snoc (l : List (List Int)) (x : List Int) (h : l ≠ []) : lsR (l ++ [x]) = if cmpL x (lsR l) < 0 then x else lsR l := by
 obtain ⟨h1, h2⟩ := lsR_spec l h
 symm
 split
 ·next hx =>
  refine lsR_eq (List.mem_append_right _ (List.mem_singleton.2 rfl)) fun y hy hlt => ?_
  rcases List.mem_append.1 hy with hy | hy
  ·exact h2 y hy (cmpL_trans _ _ _ hlt hx)
  ·rw [List.mem_singleton.1 hy] at hlt
   exact cmpL_irrefl _ hlt
 ·next hx =>
  refine lsR_eq (List.mem_append_left _ h1) fun y hy hlt => ?_
  rcases List.mem_append.1 hy with hy | hy
  ·exact h2 y hy hlt
  ·rw [List.mem_singleton.1 hy] at hlt
   exact hx hlt
/-- Where nothing has been met yet, the fewest is that of all streets. -/
theorem mdS_none {n m : Nat} {A B : Nat → Nat} : ∀ k, k ≤ 2 ^ m → (mdS n m A B k).2 = [] → (mdS n m A B k).1 = m := by
 intro k
 induction k with
 | zero => exact fun _ _ => rfl
 | succ k ih =>
  intro hk h
  rw [mdS] at h ⊢
  by_cases c1 : ct k 14 > (mdS n m A B k).1 ∨ mtS n m A B k = false
  ·rw [if_pos c1] at h ⊢
   exact ih (by omega) h
  ·rw [if_neg c1] at h
   split at h
   ·cases h
   ·have := congrArg List.length h
    simp at this
@[reducible] def rwsL (P : List Nat) : List (List Int) := P.map fun s => mbL s 14
/-- The best so far. -/
def Bl (v : V) (P : List Nat) : Prop := (P = [] ∧ v = .emp false) ∨ (P ≠ [] ∧ v = .ints true (lsR (rwsL P)))
def szR (m : Nat) (q : Nat × List Nat) : Nat := if q.2 = [] then m + 1 else q.1
theorem Bl.named {kp : Nat → Bool} {v : V} {P : List Nat} (h : Bl v P) : Named kp v := by
 rcases h with ⟨_, rfl⟩ | ⟨_, rfl⟩ <;> trivial
set_option maxRecDepth 100000 in
set_option maxHeartbeats 1000000 in
theorem fewest_pure {n m : Nat} {A B : Nat → Nat} (h : Qok n m A B) : APure Try.prog 54 [.int n, stV false m (fun j => A j) (fun j => B j)] (fun R => R = tup2 (.ints true (mdR n m A B)) (.int (mdL n m A B).length)) := by
 refine APure_of (X := cx 54) (cx_ok 54) rfl (rs := [(.tmp 4, 25), (.tmp 5, 3)]) Try.func54 (by decide) rfl rfl rfl (by simp [cx]) (nofrN2) ?_
 intro hlen
 have hm := h.q.sm
 have c1 := rcuts_pure h.q
 have hpm : 2 ^ m ≤ 2 ^ 14 := Nat.pow_le_pow_right (by decide) hm
 have hp0 : 0 < 2 ^ m := Nat.two_pow_pos m
 ((conv=>whnf);repeat (refine Wa ?_;(repeat (first|refine Wb ?_|refine Wc ?_|refine Wd ?_|refine We ?_|refine Wf ?_));(conv=>whnf)))
 refine APure.to (APure.arg2 (Sub.refl _) subS c1) ?_
 ((conv=>whnf);repeat (refine Wa ?_;(repeat (first|refine Wb ?_|refine Wc ?_|refine Wd ?_|refine We ?_|refine Wf ?_));(conv=>whnf)))
 refine ⟨inr (by omega), ?_⟩
 ((conv=>whnf);repeat (refine Wa ?_;(repeat (first|refine Wb ?_|refine Wc ?_|refine Wd ?_|refine We ?_|refine Wf ?_));(conv=>whnf)))
 refine AW_loop (X := cx 54) (cx_ok 54) [1, 6, 7, 8, 9, 10] (fun vs M => ∃ (k : Nat) (v : V), k ≤ 2 ^ m ∧ Bl v (mdS n m A B k).2 ∧ vs = [stV false m (fun j => A j) (fun j => B j), .ints true (cutL n m A B (fullN n)), v, .int (mdS n m A B k).2.length, .int (szR m (mdS n m A B k)), .int k] ∧ M = []) (fun vs _ => 2 ^ m - (vs.getD 5 .any).toInt.toNat) ?_ ?_
 ·exact ⟨0, _, Nat.zero_le _, .inl ⟨rfl, rfl⟩, by rw [show szR m (mdS n m A B 0) = m + 1 from if_pos rfl]; rfl, rfl⟩
 rintro vs M ⟨k, v, hk, hB, rfl, rfl⟩
 have hsp := mdS_spec (n := n) (A := A) (B := B) hm k hk
 have hnn := mdS_none (n := n) (A := A) (B := B) k hk
 have hE : mdS n m A B (k + 1) = if ct k 14 > (mdS n m A B k).1 ∨ mtS n m A B k = false then mdS n m A B k else if ct k 14 < (mdS n m A B k).1 then (ct k 14, [k]) else ((mdS n m A B k).1, (mdS n m A B k).2 ++ [k]) := rfl
 have hll := hsp.2.2.2
 have hszm : szR m (mdS n m A B k) ≤ m + 1 := by
  unfold szR
  split
  ·omega
  ·have := hsp.1; omega
 ((conv=>whnf);repeat (refine Wa ?_;(repeat (first|refine Wb ?_|refine Wc ?_|refine Wd ?_|refine We ?_|refine Wf ?_));(conv=>whnf)))
 refine ⟨by omega, ?_⟩
 rw [shlI (by omega)]
 ((conv=>whnf);repeat (refine Wa ?_;(repeat (first|refine Wb ?_|refine Wc ?_|refine Wd ?_|refine We ?_|refine Wf ?_));(conv=>whnf)))
 refine br_dec (fun hlt => ?_) (fun hge => ?_)
 ·have hk' : k < 2 ^ m := by have : (k : Int) < (2 ^ m : Nat) := hlt; omega
  have hk14 : k < 16384 := by omega
  have c2 := Members_pure k hk14
  have c3 := rmends_pure h.q (cutL n m A B (fullN n)) cutL_nn k (by omega)
  have hC1 := ct_m hk' hm
  have hct : (mbL k 14).length = ct k 14 := mbL_ct k 14
  ((conv=>whnf);repeat (refine Wa ?_;(repeat (first|refine Wb ?_|refine Wc ?_|refine Wd ?_|refine We ?_|refine Wf ?_));(conv=>whnf)))
  refine APure.to c2 ?_
  ((conv=>whnf);repeat (refine Wa ?_;(repeat (first|refine Wb ?_|refine Wc ?_|refine Wd ?_|refine We ?_|refine Wf ?_));(conv=>whnf)))
  refine br_dec (fun h1 => ?_) (fun h1 => ?_)
  ·have h1 : ((mbL k 14).length : Int) > (szR m (mdS n m A B k) : Nat) := h1
   have h1' : ct k 14 > (mdS n m A B k).1 := by
    unfold szR at h1
    split at h1
    ·omega
    ·omega
   have E := hE.trans (if_pos (.inl h1'))
   ((conv=>whnf);repeat (refine Wa ?_;(repeat (first|refine Wb ?_|refine Wc ?_|refine Wd ?_|refine We ?_|refine Wf ?_));(conv=>whnf)))
   refine ⟨inr (by omega), ?_⟩
   ((conv=>whnf);repeat (refine Wa ?_;(repeat (first|refine Wb ?_|refine Wc ?_|refine Wd ?_|refine We ?_|refine Wf ?_));(conv=>whnf)))
   exact ⟨⟨k + 1, v, hk', by rw [E]; exact hB, by rw [E]; rfl, rfl⟩, by simp [V.toInt, sel, Env.get]; omega⟩
  have h1 : ¬ ((mbL k 14).length : Int) > (szR m (mdS n m A B k) : Nat) := h1
  ((conv=>whnf);repeat (refine Wa ?_;(repeat (first|refine Wb ?_|refine Wc ?_|refine Wd ?_|refine We ?_|refine Wf ?_));(conv=>whnf)))
  refine APure.to (APure.arg3 subS (Sub.refl _) (Sub.refl _) c3) ?_
  ((conv=>whnf);repeat (refine Wa ?_;(repeat (first|refine Wb ?_|refine Wc ?_|refine Wd ?_|refine We ?_|refine Wf ?_));(conv=>whnf)))
  refine br_not ?_
  refine br_mk (fun h2 => ?_) (fun h2 => ?_)
  ·have h2 : mtS n m A B k = true := h2
   have h1' : ¬ ct k 14 > (mdS n m A B k).1 := by
    unfold szR at h1
    split at h1
    ·next he => rw [hnn he]; omega
    ·omega
   have hE2 := hE.trans (if_neg (by intro hh; rcases hh with hh | hh; exact h1' hh; rw [h2] at hh; cases hh))
   ((conv=>whnf);repeat (refine Wa ?_;(repeat (first|refine Wb ?_|refine Wc ?_|refine Wd ?_|refine We ?_|refine Wf ?_));(conv=>whnf)))
   refine br_dec (fun h3 => ?_) (fun h3 => ?_)
   ·have h3 : ((mbL k 14).length : Int) < (szR m (mdS n m A B k) : Nat) := h3
    have E : mdS n m A B (k + 1) = (ct k 14, [k]) := by
     rw [hE2]
     split
     ·rfl
     ·next hh =>
      unfold szR at h3
      split at h3
      ·next he => rw [he, hnn he]; rw [hnn he] at hh h1'; rw [show m = ct k 14 by omega]; rfl
      ·omega
    have hsz1 : szR m (ct k 14, [k]) = (mbL k 14).length := by unfold szR; rw [if_neg (by simp), hct]
    ((conv=>whnf);repeat (refine Wa ?_;(repeat (first|refine Wb ?_|refine Wc ?_|refine Wd ?_|refine We ?_|refine Wf ?_));(conv=>whnf)))
    refine ⟨inr (by omega), ?_⟩
    ((conv=>whnf);repeat (refine Wa ?_;(repeat (first|refine Wb ?_|refine Wc ?_|refine Wd ?_|refine We ?_|refine Wf ?_));(conv=>whnf)))
    refine ⟨inr (by omega), ?_⟩
    ((conv=>whnf);repeat (refine Wa ?_;(repeat (first|refine Wb ?_|refine Wc ?_|refine Wd ?_|refine We ?_|refine Wf ?_));(conv=>whnf)))
    refine ⟨⟨k + 1, .ints true (mbL k 14), hk', by rw [E]; exact .inr ⟨by simp, rfl⟩, by rw [E, hsz1]; rfl, rfl⟩, by simp [V.toInt, sel, Env.get]; omega⟩
   ·have h3 : ¬ ((mbL k 14).length : Int) < (szR m (mdS n m A B k) : Nat) := h3
    have hne : (mdS n m A B k).2 ≠ [] := fun he => by unfold szR at h3; rw [if_pos he] at h3; omega
    have hs1 : szR m (mdS n m A B k) = (mdS n m A B k).1 := by unfold szR; rw [if_neg hne]
    have E := hE2.trans (if_neg (by omega))
    rcases hB with ⟨hP, _⟩ | ⟨_, rfl⟩
    ·exact absurd hP hne
    have hrn : rwsL (mdS n m A B k).2 ≠ [] := fun he => hne (by simpa [rwsL] using he)
    have eL : lsR (rwsL (mdS n m A B (k + 1)).2) = if cmpL (mbL k 14) (lsR (rwsL (mdS n m A B k).2)) < 0 then mbL k 14 else lsR (rwsL (mdS n m A B k).2) := by
     rw [E]
     show lsR (rwsL ((mdS n m A B k).2 ++ [k])) = _
     rw [show rwsL ((mdS n m A B k).2 ++ [k]) = rwsL (mdS n m A B k).2 ++ [mbL k 14] by simp [rwsL]]
     exact lsR_snoc _ _ hrn
    have hne' : (mdS n m A B (k + 1)).2 ≠ [] := by rw [E]; simp
    have hs2 : szR m (mdS n m A B (k + 1)) = szR m (mdS n m A B k) := by rw [hs1]; unfold szR; rw [if_neg hne', E]
    have hl2 : (mdS n m A B (k + 1)).2.length = (mdS n m A B k).2.length + 1 := by rw [E]; simp
    have c4 := less_pure (mbL k 14) (lsR (rwsL (mdS n m A B k).2))
    ((conv=>whnf);repeat (refine Wa ?_;(repeat (first|refine Wb ?_|refine Wc ?_|refine Wd ?_|refine We ?_|refine Wf ?_));(conv=>whnf)))
    refine APure.to c4 ?_
    ((conv=>whnf);repeat (refine Wa ?_;(repeat (first|refine Wb ?_|refine Wc ?_|refine Wd ?_|refine We ?_|refine Wf ?_));(conv=>whnf)))
    refine br_dec (fun h4 => ?_) (fun h4 => ?_)
    ·have h4 : cmpL (mbL k 14) (lsR (rwsL (mdS n m A B k).2)) < 0 := h4
     rw [if_pos h4] at eL
     ((conv=>whnf);repeat (refine Wa ?_;(repeat (first|refine Wb ?_|refine Wc ?_|refine Wd ?_|refine We ?_|refine Wf ?_));(conv=>whnf)))
     refine ⟨inr (by omega), ?_⟩
     ((conv=>whnf);repeat (refine Wa ?_;(repeat (first|refine Wb ?_|refine Wc ?_|refine Wd ?_|refine We ?_|refine Wf ?_));(conv=>whnf)))
     refine ⟨inr (by omega), ?_⟩
     ((conv=>whnf);repeat (refine Wa ?_;(repeat (first|refine Wb ?_|refine Wc ?_|refine Wd ?_|refine We ?_|refine Wf ?_));(conv=>whnf)))
     exact ⟨⟨k + 1, _, hk', .inr ⟨hne', congrArg (V.ints true) eL.symm⟩, by rw [hs2, hl2]; rfl, rfl⟩, by simp [V.toInt, sel, Env.get]; omega⟩
    ·have h4 : ¬ cmpL (mbL k 14) (lsR (rwsL (mdS n m A B k).2)) < 0 := h4
     rw [if_neg h4] at eL
     ((conv=>whnf);repeat (refine Wa ?_;(repeat (first|refine Wb ?_|refine Wc ?_|refine Wd ?_|refine We ?_|refine Wf ?_));(conv=>whnf)))
     refine ⟨inr (by omega), ?_⟩
     ((conv=>whnf);repeat (refine Wa ?_;(repeat (first|refine Wb ?_|refine Wc ?_|refine Wd ?_|refine We ?_|refine Wf ?_));(conv=>whnf)))
     refine ⟨inr (by omega), ?_⟩
     ((conv=>whnf);repeat (refine Wa ?_;(repeat (first|refine Wb ?_|refine Wc ?_|refine Wd ?_|refine We ?_|refine Wf ?_));(conv=>whnf)))
     exact ⟨⟨k + 1, _, hk', .inr ⟨hne', congrArg (V.ints true) eL.symm⟩, by rw [hs2, hl2]; rfl, rfl⟩, by simp [V.toInt, sel, Env.get]; omega⟩
  ·have h2 : mtS n m A B k = false := h2
   have E := hE.trans (if_pos (.inr h2))
   ((conv=>whnf);repeat (refine Wa ?_;(repeat (first|refine Wb ?_|refine Wc ?_|refine Wd ?_|refine We ?_|refine Wf ?_));(conv=>whnf)))
   refine ⟨inr (by omega), ?_⟩
   ((conv=>whnf);repeat (refine Wa ?_;(repeat (first|refine Wb ?_|refine Wc ?_|refine Wd ?_|refine We ?_|refine Wf ?_));(conv=>whnf)))
   exact ⟨⟨k + 1, v, hk', by rw [E]; exact hB, by rw [E]; rfl, rfl⟩, by simp [V.toInt, sel, Env.get]; omega⟩
 ·obtain rfl : k = 2 ^ m := by have : ¬ (k : Int) < (2 ^ m : Nat) := hge; omega
  have hpos := mdL_pos h
  rcases hB with ⟨hP, _⟩ | ⟨_, rfl⟩
  ·have : (mdS n m A B (2 ^ m)).2.length = 0 := by rw [hP]; rfl
   exact absurd hpos (by unfold mdL; omega)
  ·((conv=>whnf);repeat (refine Wa ?_;(repeat (first|refine Wb ?_|refine Wc ?_|refine Wd ?_|refine We ?_|refine Wf ?_));(conv=>whnf)))
   exact ⟨rfl, trivial, rfl⟩
set_option maxRecDepth 100000 in
theorem rMend_bad {n : Int} {m : Nat} {A B : Nat → Int} (h : ckE n m A B ≠ 0) : APure Try.prog 25 [.int n, stV false m A B] (fun R => R = tup2 (.ints true []) (.int (ckE n m A B))) := by
 refine APure_of (X := cx 22) (cx_ok 22) rfl (rs := [(.tmp 4, 25), (.tmp 5, 26)]) Try.func25 (by decide) rfl rfl rfl (by simp [cx]) (nofrN2) ?_
 intro hlen
 have c1 := Quarter_pure n m A B
 ((conv=>whnf);repeat (refine Wa ?_;(repeat (first|refine Wb ?_|refine Wc ?_|refine Wd ?_|refine We ?_|refine Wf ?_));(conv=>whnf)))
 refine APure.to (APure.arg2 (Sub.refl _) subS c1) ?_
 ((conv=>whnf);repeat (refine Wa ?_;(repeat (first|refine Wb ?_|refine Wc ?_|refine Wd ?_|refine We ?_|refine Wf ?_));(conv=>whnf)))
 refine br_ne (fun _ => ?_) (fun h' => absurd h' h)
 ((conv=>whnf);repeat (refine Wa ?_;(repeat (first|refine Wb ?_|refine Wc ?_|refine Wd ?_|refine We ?_|refine Wf ?_));(conv=>whnf)))
 exact ⟨rfl, trivial, rfl⟩
set_option maxRecDepth 100000 in
theorem rMend_pure {n m : Nat} {A B : Nat → Nat} (h : Qok n m A B) : APure Try.prog 25 [.int n, stV false m (fun j => A j) (fun j => B j)] (fun R => R = tup2 (.ints true (mdR n m A B)) (.int 0)) := by
 refine APure_of (X := cx 22) (cx_ok 22) rfl (rs := [(.tmp 4, 25), (.tmp 5, 26)]) Try.func25 (by decide) rfl rfl rfl (by simp [cx]) (nofrN2) ?_
 intro hlen
 have c1 := Quarter_pure n m (fun j => A j) (fun j => B j)
 rw [ckE_ok h] at c1
 ((conv=>whnf);repeat (refine Wa ?_;(repeat (first|refine Wb ?_|refine Wc ?_|refine Wd ?_|refine We ?_|refine Wf ?_));(conv=>whnf)))
 refine APure.to (APure.arg2 (Sub.refl _) subS c1) ?_
 ((conv=>whnf);repeat (refine Wa ?_;(repeat (first|refine Wb ?_|refine Wc ?_|refine Wd ?_|refine We ?_|refine Wf ?_));(conv=>whnf)))
 refine APure.to (APure.arg2 (Sub.refl _) subS (fewest_pure h)) ?_
 ((conv=>whnf);repeat (refine Wa ?_;(repeat (first|refine Wb ?_|refine Wc ?_|refine Wd ?_|refine We ?_|refine Wf ?_));(conv=>whnf)))
 exact ⟨rfl, trivial, rfl⟩
set_option maxRecDepth 100000 in
theorem rMends_bad {n : Int} {m : Nat} {A B : Nat → Int} (h : ckE n m A B ≠ 0) : APure Try.prog 27 [.int n, stV false m A B] (fun R => R = tup2 (.int 0) (.int (ckE n m A B))) := by
 refine APure_of (X := cx 22) (cx_ok 22) rfl (rs := [(.tmp 4, 3), (.tmp 5, 26)]) Try.func27 (by decide) rfl rfl rfl (by simp [cx]) (nofrN2) ?_
 intro hlen
 have c1 := Quarter_pure n m A B
 ((conv=>whnf);repeat (refine Wa ?_;(repeat (first|refine Wb ?_|refine Wc ?_|refine Wd ?_|refine We ?_|refine Wf ?_));(conv=>whnf)))
 refine APure.to (APure.arg2 (Sub.refl _) subS c1) ?_
 ((conv=>whnf);repeat (refine Wa ?_;(repeat (first|refine Wb ?_|refine Wc ?_|refine Wd ?_|refine We ?_|refine Wf ?_));(conv=>whnf)))
 refine br_ne (fun _ => ?_) (fun h' => absurd h' h)
 ((conv=>whnf);repeat (refine Wa ?_;(repeat (first|refine Wb ?_|refine Wc ?_|refine Wd ?_|refine We ?_|refine Wf ?_));(conv=>whnf)))
 exact ⟨trivial, trivial, rfl⟩
set_option maxRecDepth 100000 in
theorem rMends_pure {n m : Nat} {A B : Nat → Nat} (h : Qok n m A B) : APure Try.prog 27 [.int n, stV false m (fun j => A j) (fun j => B j)] (fun R => R = tup2 (.int (mdL n m A B).length) (.int 0)) := by
 refine APure_of (X := cx 22) (cx_ok 22) rfl (rs := [(.tmp 4, 3), (.tmp 5, 26)]) Try.func27 (by decide) rfl rfl rfl (by simp [cx]) (nofrN2) ?_
 intro hlen
 have c1 := Quarter_pure n m (fun j => A j) (fun j => B j)
 rw [ckE_ok h] at c1
 ((conv=>whnf);repeat (refine Wa ?_;(repeat (first|refine Wb ?_|refine Wc ?_|refine Wd ?_|refine We ?_|refine Wf ?_));(conv=>whnf)))
 refine APure.to (APure.arg2 (Sub.refl _) subS c1) ?_
 ((conv=>whnf);repeat (refine Wa ?_;(repeat (first|refine Wb ?_|refine Wc ?_|refine Wd ?_|refine We ?_|refine Wf ?_));(conv=>whnf)))
 refine APure.to (APure.arg2 (Sub.refl _) subS (fewest_pure h)) ?_
 ((conv=>whnf);repeat (refine Wa ?_;(repeat (first|refine Wb ?_|refine Wc ?_|refine Wd ?_|refine We ?_|refine Wf ?_));(conv=>whnf)))
 exact ⟨trivial, trivial, rfl⟩
end Go.Tri
