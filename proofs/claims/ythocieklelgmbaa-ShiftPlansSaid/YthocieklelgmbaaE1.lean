/-
  'alive' of stage 7, by the contracts.
-/
import Derived.Test.YthocieklelgmbaaB11
import Derived.Test.YthocieklelgmbaaB12
import Derived.Test.YthocieklelgmbaaB2
namespace Go.Tri
open Go.Proofs

theorem nds_of {l : List Int} (h : (Nat.ble 1 l.length && Nat.ble l.length 12 && l.all fun x => decide (0 ≤ x ∧ x ≤ 50)) = true) : Nds l := by
  simp only [Bool.and_eq_true] at h
  refine ⟨Nat.le_of_ble_eq_true h.1.1, Nat.le_of_ble_eq_true h.1.2, fun q hq => ?_⟩
  exact of_decide_eq_true (List.all_eq_true.1 h.2 _ (getD_mem' hq))
theorem a1 : leV [1, 1, 1] 2 = tup2 (.int 2) (.int 0) := by
  unfold leV
  rw [dayE_ok (nds_of (by decide)) (by decide) (by decide), if_pos rfl]
  exact Q2 (Qi (by decide)) rfl
theorem a2 : plV [1, 2, 3, 2] 3 = tup2 (.ints true [0, 2, 1, 0]) (.int 0) := by
  unfold plV
  rw [dayE_ok (nds_of (by decide)) (by decide) (by decide), if_pos rfl]
  exact Q2 (Ql (by decide)) rfl
theorem a3 : shV [1, 1, 1] 2 = tup2 (ratV 3 2) (.int 0) := by
  unfold shV
  rw [dayE_ok (nds_of (by decide)) (by decide) (by decide), if_pos rfl]
  rw [show shR [1, 1, 1] 2 (max 2 ((2 : Int).toNat + 1)) = (3, 2) by decide]
theorem a4 : woV [1, 1, 1] 2 [0, 1, 2] = tup2 (.int 2) (.int 0) := by
  unfold woV
  rw [dayE_ok (nds_of (by decide)) (by decide) (by decide), if_pos rfl, if_pos]
  · exact Q2 (Qi (by decide)) rfl
  · refine ⟨by decide, by decide, fun q hq => ?_⟩
    have hq : q < 3 := hq
    rcases (by omega : q = 0 ∨ q = 1 ∨ q = 2) with rfl | rfl | rfl <;> decide

theorem alive_pure : APure Try.prog 16 [] (fun R => R = .bool true) := by
  refine APure_of (X := cx 62) (cx_ok 62) rfl (rs := [(.tmp 0, 4)]) Try.func16 (by decide) rfl rfl rfl (by simp [cx]) (by simp) ?_
  intro _
  have h1 := Least_pure [1, 1, 1] 2
  have h2 := Plan_pure [1, 2, 3, 2] 3
  have h3 := Share_pure [1, 1, 1] 2
  have h4 := Worth_pure [1, 1, 1] 2 [0, 1, 2]
  rw [a1] at h1
  rw [a2] at h2
  rw [a3] at h3
  rw [a4] at h4
  have hs : APure Try.prog 21 [.ints false [0, 2, 1, 0], .ints false [0, 2, 1, 0]] (fun R => R = .bool true) := by
    have := same_pure [0, 2, 1, 0] [0, 2, 1, 0]
    simpa using this
  ((conv => whnf); repeat (refine stepK_in ?_; (repeat (first | refine seqQ_n ?_ | refine blockQ_n ?_ | refine awp_skip ?_ | refine awp_seq ?_ | refine awp_block ?_)); (conv => whnf)))
  refine APure.to h1 ?_
  ((conv => whnf); repeat (refine stepK_in ?_; (repeat (first | refine seqQ_n ?_ | refine blockQ_n ?_ | refine awp_skip ?_ | refine awp_seq ?_ | refine awp_block ?_)); (conv => whnf)))
  refine APure.to h2 ?_
  ((conv => whnf); repeat (refine stepK_in ?_; (repeat (first | refine seqQ_n ?_ | refine blockQ_n ?_ | refine awp_skip ?_ | refine awp_seq ?_ | refine awp_block ?_)); (conv => whnf)))
  refine APure.to h3 ?_
  ((conv => whnf); repeat (refine stepK_in ?_; (repeat (first | refine seqQ_n ?_ | refine blockQ_n ?_ | refine awp_skip ?_ | refine awp_seq ?_ | refine awp_block ?_)); (conv => whnf)))
  refine APure.to h4 ?_
  ((conv => whnf); repeat (refine stepK_in ?_; (repeat (first | refine seqQ_n ?_ | refine blockQ_n ?_ | refine awp_skip ?_ | refine awp_seq ?_ | refine awp_block ?_)); (conv => whnf)))
  refine APure.to hs ?_
  ((conv => whnf); repeat (refine stepK_in ?_; (repeat (first | refine seqQ_n ?_ | refine blockQ_n ?_ | refine awp_skip ?_ | refine awp_seq ?_ | refine awp_block ?_)); (conv => whnf)))
  exact ⟨trivial, rfl⟩
end Go.Tri
