/-
  LAW: ShareScores.
-/
import Derived.Test.YtghkpmeonoadlaaB29
import Derived.Test.YtghkpmeonoadlaaL2
namespace Go.Tri
open Go.Proofs

theorem scV_is (a b l : List Int) (d : Int) : ∃ x1 x2 y1 y2 e : Int, scV a b l d = tup3 (pairV x1 x2) (pairV y1 y2) (.int e) := by
  unfold scV
  split
  · exact ⟨_, _, _, _, _, rfl⟩
  · exact ⟨_, _, _, _, _, rfl⟩
theorem efV_is (a b l : List Int) (d : Int) : ∃ (x : Bool) (e : Int), efV a b l d = tup2 (.bool x) (.int e) := by
  unfold efV
  split
  · exact ⟨_, _, rfl⟩
  · exact ⟨_, _, rfl⟩
open Classical in
set_option maxRecDepth 100000 in
theorem ShareScores_pure (a b l : List Int) (d : Int) : APure Try.prog 3 [.ints false a, .ints false b, parV false l d] (fun R => R = .bool true) := by
  refine APure_of (X := cx 91) (cx_ok 91) rfl (rs := [(.tmp 6, 4)]) Try.func3 (by decide) rfl rfl rfl (by simp [cx]) (nofr3 nofrI nofrI nofrPa) ?_
  intro hlen
  have fin := alive_pure
  have hfew := few_pure a b l
  have c1 := Scores_pure a b l d
  have c2 := refScores_pure a b l d
  have c3 := Efficient_pure a b l d
  have c4 := refEfficient_pure a b l d
  have c5 := same_pure l l
  rw [decide_eq_true rfl] at c5
  obtain ⟨x1, x2, y1, y2, e, hs⟩ := scV_is a b l d
  obtain ⟨z, f, he⟩ := efV_is a b l d
  rw [hs] at c1 c2
  rw [he] at c3 c4
  ((conv => whnf); repeat (refine stepK_in ?_; (repeat (first | refine seqQ_n ?_ | refine blockQ_n ?_ | refine awp_skip ?_ | refine awp_seq ?_ | refine awp_block ?_)); (conv => whnf)))
  refine APure.to hfew ?_
  by_cases h40 : a.length ≤ 30 ∧ b.length ≤ 30 ∧ l.length ≤ 30
  · have hlt : V.ints false (List.take l.length l) = V.ints false l := congrArg (V.ints false) List.take_length
    rw [decide_eq_true h40]
    ((conv => whnf); repeat (refine stepK_in ?_; (repeat (first | refine seqQ_n ?_ | refine blockQ_n ?_ | refine awp_skip ?_ | refine awp_seq ?_ | refine awp_block ?_)); (conv => whnf)))
    refine AW_draw (X := cx 91) (cx_ok 91) mixed (by kernel_rfl) ?_
    ((conv => whnf); repeat (refine stepK_in ?_; (repeat (first | refine seqQ_n ?_ | refine blockQ_n ?_ | refine awp_skip ?_ | refine awp_seq ?_ | refine awp_block ?_)); (conv => whnf)))
    refine ⟨ms (by simp only [Src.n]; omega), ?_⟩
    ((conv => whnf); repeat (refine stepK_in ?_; (repeat (first | refine seqQ_n ?_ | refine blockQ_n ?_ | refine awp_skip ?_ | refine awp_seq ?_ | refine awp_block ?_)); (conv => whnf)))
    refine APure.to (APure.arg3 (Sub.refl _) (Sub.refl _) (sub2 hlt rfl) c1) ?_
    ((conv => whnf); repeat (refine stepK_in ?_; (repeat (first | refine seqQ_n ?_ | refine blockQ_n ?_ | refine awp_skip ?_ | refine awp_seq ?_ | refine awp_block ?_)); (conv => whnf)))
    refine APure.to (APure.arg3 (Sub.refl _) (Sub.refl _) (sub2 rfl rfl) c2) ?_
    ((conv => whnf); repeat (refine stepK_in ?_; (repeat (first | refine seqQ_n ?_ | refine blockQ_n ?_ | refine awp_skip ?_ | refine awp_seq ?_ | refine awp_block ?_)); (conv => whnf)))
    rw [show (!(x1 == x1 && (x2 == x2 && true))) = false by simp]
    ((conv => whnf); repeat (refine stepK_in ?_; (repeat (first | refine seqQ_n ?_ | refine blockQ_n ?_ | refine awp_skip ?_ | refine awp_seq ?_ | refine awp_block ?_)); (conv => whnf)))
    rw [show (!(y1 == y1 && (y2 == y2 && true))) = false by simp]
    ((conv => whnf); repeat (refine stepK_in ?_; (repeat (first | refine seqQ_n ?_ | refine blockQ_n ?_ | refine awp_skip ?_ | refine awp_seq ?_ | refine awp_block ?_)); (conv => whnf)))
    rw [show (e != e) = false by simp]
    ((conv => whnf); repeat (refine stepK_in ?_; (repeat (first | refine seqQ_n ?_ | refine blockQ_n ?_ | refine awp_skip ?_ | refine awp_seq ?_ | refine awp_block ?_)); (conv => whnf)))
    refine APure.to (APure.arg3 (Sub.refl _) (Sub.refl _) (sub2 hlt rfl) c3) ?_
    ((conv => whnf); repeat (refine stepK_in ?_; (repeat (first | refine seqQ_n ?_ | refine blockQ_n ?_ | refine awp_skip ?_ | refine awp_seq ?_ | refine awp_block ?_)); (conv => whnf)))
    refine APure.to (APure.arg3 (Sub.refl _) (Sub.refl _) (sub2 rfl rfl) c4) ?_
    ((conv => whnf); repeat (refine stepK_in ?_; (repeat (first | refine seqQ_n ?_ | refine blockQ_n ?_ | refine awp_skip ?_ | refine awp_seq ?_ | refine awp_block ?_)); (conv => whnf)))
    rw [show (z == z) = true by simp]
    ((conv => whnf); repeat (refine stepK_in ?_; (repeat (first | refine seqQ_n ?_ | refine blockQ_n ?_ | refine awp_skip ?_ | refine awp_seq ?_ | refine awp_block ?_)); (conv => whnf)))
    rw [show (f == f) = true by simp]
    ((conv => whnf); repeat (refine stepK_in ?_; (repeat (first | refine seqQ_n ?_ | refine blockQ_n ?_ | refine awp_skip ?_ | refine awp_seq ?_ | refine awp_block ?_)); (conv => whnf)))
    refine APure.to (APure.arg2 (Sub.of hlt) (Sub.refl _) c5) ?_
    ((conv => whnf); repeat (refine stepK_in ?_; (repeat (first | refine seqQ_n ?_ | refine blockQ_n ?_ | refine awp_skip ?_ | refine awp_seq ?_ | refine awp_block ?_)); (conv => whnf)))
    refine APure.to fin ?_
    ((conv => whnf); repeat (refine stepK_in ?_; (repeat (first | refine seqQ_n ?_ | refine blockQ_n ?_ | refine awp_skip ?_ | refine awp_seq ?_ | refine awp_block ?_)); (conv => whnf)))
    exact ⟨trivial, rfl⟩
  · rw [decide_eq_false h40]
    ((conv => whnf); repeat (refine stepK_in ?_; (repeat (first | refine seqQ_n ?_ | refine blockQ_n ?_ | refine awp_skip ?_ | refine awp_seq ?_ | refine awp_block ?_)); (conv => whnf)))
    refine APure.to fin ?_
    ((conv => whnf); repeat (refine stepK_in ?_; (repeat (first | refine seqQ_n ?_ | refine blockQ_n ?_ | refine awp_skip ?_ | refine awp_seq ?_ | refine awp_block ?_)); (conv => whnf)))
    exact ⟨trivial, rfl⟩
end Go.Tri
