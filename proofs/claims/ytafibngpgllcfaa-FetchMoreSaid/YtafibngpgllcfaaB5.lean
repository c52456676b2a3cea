/-
 CONTRACTS: the walker; are all corners connected?
-/
import Derived.Test.YtafibngpgllcfaaB4
namespace Go.Tri
open Go.Proofs

@[reducible] def quF (fr : Bool) (n m : Nat) (A B : Nat → Int) : V := .agg 2 fun k => [V.int n, stV fr m A B].getD k .any
theorem putN {M M' : Mem} {o : Ob} (h : M.put M.length o = M') : M'.get M.length = some o ∧ M'.length = M.length + 1 ∧ ∀ t, t < M.length → M'.get t = M.get t :=
 ⟨h ▸ Mem.get_put_same .., h ▸ put_len o M, fun t ht => h ▸ Mem.get_put_other _ (by omega) _⟩
theorem putO {M M' : Mem} {t : Nat} {o : Ob} (h : M.put t o = M') : M'.get t = some o ∧ M.length ≤ M'.length ∧ ∀ s, s ≠ t → M'.get s = M.get s :=
 ⟨h ▸ Mem.get_put_same .., h ▸ put_ge o M t, fun _ hs => h ▸ Mem.get_put_other _ hs _⟩
set_option maxRecDepth 100000 in
theorem walker_cm (fr : Bool) (n m : Nat) (A B : Nat → Int) (M : Mem) : ACM Try.prog 83 [quF fr n m A B] M (fun R M' => ∃ a b c, R = walkC a b c ∧ M.length ≤ M'.length ∧ M.length ≤ a ∧ M.length ≤ b ∧ M.length ≤ c ∧ WM M' a b c fr n m A B 0 ∧ ∀ t, t < M.length → M'.get t = M.get t) := by
 refine ACM_of (T := tab) (wr := wrK) tab_ok Try.func83 (by decide) rfl (Nat.le_of_ble_eq_true rfl) (fun nb => ?_)
 ((conv=>whnf);repeat (refine Wa ?_;(repeat (first|refine Wb ?_|refine Wc ?_|refine Wd ?_|refine We ?_|refine Wf ?_));(conv=>whnf)))
 rw [forceNP_eq]
 ((conv=>whnf);repeat (refine Wa ?_;(repeat (first|refine Wb ?_|refine Wc ?_|refine Wd ?_|refine We ?_|refine Wf ?_));(conv=>whnf)))
 obtain ⟨M1, hMe1⟩ : ∃ M1, M.put M.length ⟨57, 2, 0, .one [.int n, stV fr m A B]⟩ = M1 := ⟨_, rfl⟩
 refine gen_mem hMe1 ?_
 ((conv=>whnf);repeat (refine Wa ?_;(repeat (first|refine Wb ?_|refine Wc ?_|refine Wd ?_|refine We ?_|refine Wf ?_));(conv=>whnf)))
 rw [forceNP_eq]
 ((conv=>whnf);repeat (refine Wa ?_;(repeat (first|refine Wb ?_|refine Wc ?_|refine Wd ?_|refine We ?_|refine Wf ?_));(conv=>whnf)))
 obtain ⟨M2, hMe2⟩ : ∃ M2, M1.put M1.length ⟨3, 1, 0, newCon (tab.row 3)⟩ = M2 := ⟨_, rfl⟩
 refine gen_mem hMe2 ?_
 ((conv=>whnf);repeat (refine Wa ?_;(repeat (first|refine Wb ?_|refine Wc ?_|refine Wd ?_|refine We ?_|refine Wf ?_));(conv=>whnf)))
 obtain ⟨g1, l1, o1⟩ := putN hMe1
 obtain ⟨g2, l2, o2⟩ := putN hMe2
 refine stepO (by exact aop_store rfl g2 rfl rfl rfl rfl) ?_
 ((conv=>whnf);repeat (refine Wa ?_;(repeat (first|refine Wb ?_|refine Wc ?_|refine Wd ?_|refine We ?_|refine Wf ?_));(conv=>whnf)))
 obtain ⟨M3, hMe3⟩ : ∃ M3, M2.put M1.length ⟨3, 1, 0, .one [.int 0]⟩ = M3 := ⟨_, rfl⟩
 obtain ⟨g3, l3, o3⟩ := putO hMe3
 refine gen_mem hMe3 ?_
 ((conv=>whnf);repeat (refine Wa ?_;(repeat (first|refine Wb ?_|refine Wc ?_|refine Wd ?_|refine We ?_|refine Wf ?_));(conv=>whnf)))
 rw [forceNP_eq]
 ((conv=>whnf);repeat (refine Wa ?_;(repeat (first|refine Wb ?_|refine Wc ?_|refine Wd ?_|refine We ?_|refine Wf ?_));(conv=>whnf)))
 obtain ⟨M4, hMe4⟩ : ∃ M4, M3.put M3.length ⟨66, 1, 0, newCon (tab.row 66)⟩ = M4 := ⟨_, rfl⟩
 obtain ⟨g4, l4, o4⟩ := putN hMe4
 refine gen_mem hMe4 ?_
 ((conv=>whnf);repeat (refine Wa ?_;(repeat (first|refine Wb ?_|refine Wc ?_|refine Wd ?_|refine We ?_|refine Wf ?_));(conv=>whnf)))
 refine stepO (by exact aop_store rfl g4 rfl rfl rfl rfl) ?_
 ((conv=>whnf);repeat (refine Wa ?_;(repeat (first|refine Wb ?_|refine Wc ?_|refine Wd ?_|refine We ?_|refine Wf ?_));(conv=>whnf)))
 obtain ⟨M5, hMe5⟩ : ∃ M5, M4.put M3.length ⟨66, 1, 0, .one [walkC M1.length M.length M3.length]⟩ = M5 := ⟨_, rfl⟩
 obtain ⟨g5, l5, o5⟩ := putO hMe5
 refine gen_mem hMe5 ?_
 ((conv=>whnf);repeat (refine Wa ?_;(repeat (first|refine Wb ?_|refine Wc ?_|refine Wd ?_|refine We ?_|refine Wf ?_));(conv=>whnf)))
 refine stepO (by exact aop_load rfl g5 rfl) ?_
 ((conv=>whnf);repeat (refine Wa ?_;(repeat (first|refine Wb ?_|refine Wc ?_|refine Wd ?_|refine We ?_|refine Wf ?_));(conv=>whnf)))
 have ga : M5.get M1.length = metO 0 := by rw [o5 _ (by omega), o4 _ (by omega)]; exact g3
 have gb : M5.get M.length = some ⟨57, 2, 0, .one [.int n, stV fr m A B]⟩ := by rw [o5 _ (by omega), o4 _ (by omega), o3 _ (by omega), o2 _ (by omega)]; exact g1
 refine ⟨_, rfl, M1.length, M.length, M3.length, rfl, by omega, by omega, by omega, by omega, ⟨ga, gb, g5⟩, fun t ht => ?_⟩
 rw [o5 _ (by omega), o4 _ (by omega), o3 _ (by omega), o2 _ (by omega)]
 exact o1 t ht
end Go.Tri
