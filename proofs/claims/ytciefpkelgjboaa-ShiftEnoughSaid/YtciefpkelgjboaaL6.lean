/-
  LAW: ShiftEnough.
-/
import Derived.Test.YtciefpkelgjboaaE1
import Derived.Test.YtciefpkelgjboaaB13
namespace Go.Tri
open Go.Proofs

theorem enV_form (l : List Int) (long : Int) (p : List Int) : ∃ a x e, enV l long p = tup3 (.int a) (.bool x) (.int e) := by
  unfold enV
  split
  · split
    · exact ⟨_, _, _, rfl⟩
    · exact ⟨_, _, _, rfl⟩
  · exact ⟨_, _, _, rfl⟩
theorem spV_form (l : List Int) (long : Int) (p : List Int) : ∃ s e, spV l long p = tup2 (.ints true s) (.int e) := by
  unfold spV
  split
  · split
    · exact ⟨_, _, rfl⟩
    · exact ⟨_, _, rfl⟩
  · exact ⟨_, _, rfl⟩
theorem same_self (a : List Int) : APure Try.prog 21 [.ints false a, .ints false a] (fun R => R = .bool true) := by
  have := same_pure a a
  rwa [decide_eq_true (rfl : a = a)] at this
set_option maxRecDepth 100000 in
theorem ShiftEnough_pure (l : List Int) (long : Int) (p : List Int) : APure Try.prog 3 [.ints false l, .int long, .ints false p] (fun R => R = .bool true) := by
  refine APure_of (X := cx 92) (cx_ok 92) rfl (rs := [(.tmp 6, 4)]) Try.func3 (by decide) rfl rfl rfl (by simp [cx]) (by simp [NoFr]) ?_
  intro hlen
  have fin := alive_pure
  have hfew := few_pure l p
  have e1 : (l.drop 0).take l.length = l := by simp
  have e2 : (p.drop 0).take p.length = p := by simp
  have c1 : APure Try.prog 17 [.ints false ((l.drop 0).take l.length), .int long, .ints false ((p.drop 0).take p.length)] (fun R => R = enV l long p) := by rw [e1, e2]; exact Enough_pure l long p
  have c2 := refEnough_pure l long p
  have c3 : APure Try.prog 19 [.ints false ((l.drop 0).take l.length), .int long, .ints false ((p.drop 0).take p.length)] (fun R => R = spV l long p) := by rw [e1, e2]; exact Spare_pure l long p
  have c4 := refSpare_pure l long p
  have s1 : APure Try.prog 21 [.ints false ((l.drop 0).take l.length), .ints false l] (fun R => R = .bool true) := by rw [e1]; exact same_self l
  have s2 : APure Try.prog 21 [.ints false ((p.drop 0).take p.length), .ints false p] (fun R => R = .bool true) := by rw [e2]; exact same_self p
  obtain ⟨a, x, e, he⟩ := enV_form l long p
  obtain ⟨s, e', hs⟩ := spV_form l long p
  rw [he] at c1 c2
  rw [hs] at c3 c4
  ((conv => whnf); repeat (refine stepK_in ?_; (repeat (first | refine seqQ_n ?_ | refine blockQ_n ?_ | refine awp_skip ?_ | refine awp_seq ?_ | refine awp_block ?_)); (conv => whnf)))
  refine APure.to hfew ?_
  by_cases h40 : l.length ≤ 40 ∧ p.length ≤ 100
  · rw [decide_eq_true h40]
    ((conv => whnf); repeat (refine stepK_in ?_; (repeat (first | refine seqQ_n ?_ | refine blockQ_n ?_ | refine awp_skip ?_ | refine awp_seq ?_ | refine awp_block ?_)); (conv => whnf)))
    refine ⟨(show (8 : Int) * (l.length : Int) ≤ 140737488355328 by omega), ?_⟩
    ((conv => whnf); repeat (refine stepK_in ?_; (repeat (first | refine seqQ_n ?_ | refine blockQ_n ?_ | refine awp_skip ?_ | refine awp_seq ?_ | refine awp_block ?_)); (conv => whnf)))
    refine ⟨(show (8 : Int) * (p.length : Int) ≤ 140737488355328 by omega), ?_⟩
    ((conv => whnf); repeat (refine stepK_in ?_; (repeat (first | refine seqQ_n ?_ | refine blockQ_n ?_ | refine awp_skip ?_ | refine awp_seq ?_ | refine awp_block ?_)); (conv => whnf)))
    refine APure.to c1 ?_
    ((conv => whnf); repeat (refine stepK_in ?_; (repeat (first | refine seqQ_n ?_ | refine blockQ_n ?_ | refine awp_skip ?_ | refine awp_seq ?_ | refine awp_block ?_)); (conv => whnf)))
    refine APure.to c2 ?_
    ((conv => whnf); repeat (refine stepK_in ?_; (repeat (first | refine seqQ_n ?_ | refine blockQ_n ?_ | refine awp_skip ?_ | refine awp_seq ?_ | refine awp_block ?_)); (conv => whnf)))
    refine br_ne (fun h => absurd rfl h) (fun _ => ?_)
    ((conv => whnf); repeat (refine stepK_in ?_; (repeat (first | refine seqQ_n ?_ | refine blockQ_n ?_ | refine awp_skip ?_ | refine awp_seq ?_ | refine awp_block ?_)); (conv => whnf)))
    rw [show (x == x) = true by simp]
    ((conv => whnf); repeat (refine stepK_in ?_; (repeat (first | refine seqQ_n ?_ | refine blockQ_n ?_ | refine awp_skip ?_ | refine awp_seq ?_ | refine awp_block ?_)); (conv => whnf)))
    refine br_ne (fun h => absurd rfl h) (fun _ => ?_)
    ((conv => whnf); repeat (refine stepK_in ?_; (repeat (first | refine seqQ_n ?_ | refine blockQ_n ?_ | refine awp_skip ?_ | refine awp_seq ?_ | refine awp_block ?_)); (conv => whnf)))
    refine APure.to c3 ?_
    ((conv => whnf); repeat (refine stepK_in ?_; (repeat (first | refine seqQ_n ?_ | refine blockQ_n ?_ | refine awp_skip ?_ | refine awp_seq ?_ | refine awp_block ?_)); (conv => whnf)))
    refine APure.to c4 ?_
    ((conv => whnf); repeat (refine stepK_in ?_; (repeat (first | refine seqQ_n ?_ | refine blockQ_n ?_ | refine awp_skip ?_ | refine awp_seq ?_ | refine awp_block ?_)); (conv => whnf)))
    refine APure.to (same_self s) ?_
    ((conv => whnf); repeat (refine stepK_in ?_; (repeat (first | refine seqQ_n ?_ | refine blockQ_n ?_ | refine awp_skip ?_ | refine awp_seq ?_ | refine awp_block ?_)); (conv => whnf)))
    refine br_eq (fun _ => ?_) (fun h => absurd rfl h)
    ((conv => whnf); repeat (refine stepK_in ?_; (repeat (first | refine seqQ_n ?_ | refine blockQ_n ?_ | refine awp_skip ?_ | refine awp_seq ?_ | refine awp_block ?_)); (conv => whnf)))
    refine APure.to s1 ?_
    ((conv => whnf); repeat (refine stepK_in ?_; (repeat (first | refine seqQ_n ?_ | refine blockQ_n ?_ | refine awp_skip ?_ | refine awp_seq ?_ | refine awp_block ?_)); (conv => whnf)))
    refine APure.to s2 ?_
    ((conv => whnf); repeat (refine stepK_in ?_; (repeat (first | refine seqQ_n ?_ | refine blockQ_n ?_ | refine awp_skip ?_ | refine awp_seq ?_ | refine awp_block ?_)); (conv => whnf)))
    refine APure.to fin ?_
    ((conv => whnf); repeat (refine stepK_in ?_; (repeat (first | refine seqQ_n ?_ | refine blockQ_n ?_ | refine awp_skip ?_ | refine awp_seq ?_ | refine awp_block ?_)); (conv => whnf)))
    exact ⟨trivial, rfl⟩
  · rw [decide_eq_false h40]
    ((conv => whnf); repeat (refine stepK_in ?_; (repeat (first | refine seqQ_n ?_ | refine blockQ_n ?_ | refine awp_skip ?_ | refine awp_seq ?_ | refine awp_block ?_)); (conv => whnf)))
    refine APure.to fin ?_
    ((conv => whnf); repeat (refine stepK_in ?_; (repeat (first | refine seqQ_n ?_ | refine blockQ_n ?_ | refine awp_skip ?_ | refine awp_seq ?_ | refine awp_block ?_)); (conv => whnf)))
    exact ⟨trivial, rfl⟩
end Go.Tri
