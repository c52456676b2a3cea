/-
  LAW: ShareExchanged.
-/
import Derived.Test.YtlgdaamofaiicaaM7
import Derived.Test.YtlgdaamofaiicaaB22
import Derived.Test.YtlgdaamofaiicaaE1
namespace Go.Tri
open Go.Proofs

theorem boE_zero {a b : List Int} (ha : Pts a) (hb : Pts b) (hl : a.length = b.length) : boE a b = 0 := by
  unfold boE
  rw [if_pos (ptE_ok ha), if_pos (ptE_ok hb), if_pos hl]
set_option maxRecDepth 100000 in
theorem ShareExchanged_pure (a b : List Int) : APure Try.prog 13 [.ints false a, .ints false b] (fun R => R = .bool true) := by
  refine APure_of (X := cx 83) (cx_ok 83) rfl (rs := [(.tmp 4, 4)]) Try.func13 (by decide) rfl rfl rfl (by simp [cx]) (by simp [NoFr]) ?_
  intro hlen
  have fin := alive_pure
  have hfew := few_pure a b []
  ((conv => whnf); repeat (refine stepK_in ?_; (repeat (first | refine seqQ_n ?_ | refine blockQ_n ?_ | refine awp_skip ?_ | refine awp_seq ?_ | refine awp_block ?_)); (conv => whnf)))
  refine APure.to hfew ?_
  by_cases h40 : a.length ≤ 30 ∧ b.length ≤ 30 ∧ ([] : List Int).length ≤ 30
  · rw [decide_eq_true h40]
    ((conv => whnf); repeat (refine stepK_in ?_; (repeat (first | refine seqQ_n ?_ | refine blockQ_n ?_ | refine awp_skip ?_ | refine awp_seq ?_ | refine awp_block ?_)); (conv => whnf)))
    refine APure.to (Points_pure a b) ?_
    ((conv => whnf); repeat (refine stepK_in ?_; (repeat (first | refine seqQ_n ?_ | refine blockQ_n ?_ | refine awp_skip ?_ | refine awp_seq ?_ | refine awp_block ?_)); (conv => whnf)))
    refine br_ne (fun h => ?_) (fun h => ?_)
    · ((conv => whnf); repeat (refine stepK_in ?_; (repeat (first | refine seqQ_n ?_ | refine blockQ_n ?_ | refine awp_skip ?_ | refine awp_seq ?_ | refine awp_block ?_)); (conv => whnf)))
      refine APure.to fin ?_
      ((conv => whnf); repeat (refine stepK_in ?_; (repeat (first | refine seqQ_n ?_ | refine blockQ_n ?_ | refine awp_skip ?_ | refine awp_seq ?_ | refine awp_block ?_)); (conv => whnf)))
      exact ⟨trivial, rfl⟩
    obtain ⟨ha, hb, hl⟩ := boE_inv h
    have h2 : boE b a = 0 := boE_zero hb ha hl.symm
    have c1 := Winner_pure a b
    have c2 := Winner_pure b a
    have c3 := Whole_pure a b
    have c4 := Whole_pure b a
    have e1 : wiV a b = tup3 (parV true (wN a b) (wD a b)) (ratP (mulA (fA a) (wN a b) a.length) (wD a b)) (.int 0) := by unfold wiV; rw [if_pos h]
    have e2 : wiV b a = tup3 (parV true (wN b a) (wD b a)) (ratP (mulA (fA a) (wN a b) a.length) (wD a b)) (.int 0) := by unfold wiV; rw [if_pos h2, exch_score ha hb hl]
    have e3 : whV a b = tup3 (.int (whoS (fA a) (fA b) a.length)) (.int (les (fA a) (fA b) a.length (whoS (fA a) (fA b) a.length))) (.int 0) := by unfold whV; rw [if_pos h]
    have e4 : whV b a = tup3 (.int (whoS (fA b) (fA a) b.length)) (.int (les (fA a) (fA b) a.length (whoS (fA a) (fA b) a.length))) (.int 0) := by
      unfold whV
      rw [if_pos h2, ← hl]
      have h5 := exch_whole (n := a.length) (f := fA a) (g := fA b)
      have h6 := exch_whole (n := a.length) (f := fA b) (g := fA a)
      rw [show les (fA a) (fA b) a.length (whoS (fA a) (fA b) a.length) = les (fA b) (fA a) a.length (whoS (fA b) (fA a) a.length) by omega]
    rw [e1] at c1
    rw [e2] at c2
    rw [e3] at c3
    rw [e4] at c4
    generalize wN a b = N1 at *
    generalize wD a b = D1 at *
    generalize wN b a = N2 at *
    generalize wD b a = D2 at *
    generalize mulA (fA a) N1 a.length = S at *
    generalize S.tdiv (gR S D1) = r1 at *
    generalize D1.tdiv (gR S D1) = r2 at *
    generalize whoS (fA b) (fA a) b.length = s2 at *
    generalize whoS (fA a) (fA b) a.length = s1 at *
    generalize les (fA a) (fA b) a.length s1 = m at *
    ((conv => whnf); repeat (refine stepK_in ?_; (repeat (first | refine seqQ_n ?_ | refine blockQ_n ?_ | refine awp_skip ?_ | refine awp_seq ?_ | refine awp_block ?_)); (conv => whnf)))
    refine APure.to c1 ?_
    ((conv => whnf); repeat (refine stepK_in ?_; (repeat (first | refine seqQ_n ?_ | refine blockQ_n ?_ | refine awp_skip ?_ | refine awp_seq ?_ | refine awp_block ?_)); (conv => whnf)))
    refine APure.to c2 ?_
    ((conv => whnf); repeat (refine stepK_in ?_; (repeat (first | refine seqQ_n ?_ | refine blockQ_n ?_ | refine awp_skip ?_ | refine awp_seq ?_ | refine awp_block ?_)); (conv => whnf)))
    refine APure.to c3 ?_
    ((conv => whnf); repeat (refine stepK_in ?_; (repeat (first | refine seqQ_n ?_ | refine blockQ_n ?_ | refine awp_skip ?_ | refine awp_seq ?_ | refine awp_block ?_)); (conv => whnf)))
    refine APure.to c4 ?_
    ((conv => whnf); repeat (refine stepK_in ?_; (repeat (first | refine seqQ_n ?_ | refine blockQ_n ?_ | refine awp_skip ?_ | refine awp_seq ?_ | refine awp_block ?_)); (conv => whnf)))
    rw [show (S.tdiv (gR S D1) == S.tdiv (gR S D1) && (D1.tdiv (gR S D1) == D1.tdiv (gR S D1) && true)) = true by simp]
    ((conv => whnf); repeat (refine stepK_in ?_; (repeat (first | refine seqQ_n ?_ | refine blockQ_n ?_ | refine awp_skip ?_ | refine awp_seq ?_ | refine awp_block ?_)); (conv => whnf)))
    rw [show (m == m) = true by simp]
    ((conv => whnf); repeat (refine stepK_in ?_; (repeat (first | refine seqQ_n ?_ | refine blockQ_n ?_ | refine awp_skip ?_ | refine awp_seq ?_ | refine awp_block ?_)); (conv => whnf)))
    refine APure.to fin ?_
    ((conv => whnf); repeat (refine stepK_in ?_; (repeat (first | refine seqQ_n ?_ | refine blockQ_n ?_ | refine awp_skip ?_ | refine awp_seq ?_ | refine awp_block ?_)); (conv => whnf)))
    exact ⟨trivial, rfl⟩
  · rw [decide_eq_false h40]
    ((conv => whnf); repeat (refine stepK_in ?_; (repeat (first | refine seqQ_n ?_ | refine blockQ_n ?_ | refine awp_skip ?_ | refine awp_seq ?_ | refine awp_block ?_)); (conv => whnf)))
    refine APure.to fin ?_
    ((conv => whnf); repeat (refine stepK_in ?_; (repeat (first | refine seqQ_n ?_ | refine blockQ_n ?_ | refine awp_skip ?_ | refine awp_seq ?_ | refine awp_block ?_)); (conv => whnf)))
    exact ⟨trivial, rfl⟩
end Go.Tri
