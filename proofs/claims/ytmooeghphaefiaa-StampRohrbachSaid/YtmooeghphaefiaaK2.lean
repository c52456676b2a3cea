/-
  Ranges of two values, by evaluation.
-/
import Derived.Test.YtmooeghphaefiaaE1
namespace Go.Tri
open Go.Proofs
set_option maxRecDepth 100000 in
theorem reach_5_2_runs : evFn evl 30 true 51 [.int 5, .ints false [1, 2]] [] = some (.int 10, []) := by kernel_rfl
theorem reach_5_2 : APure Try.prog 51 [.int 5, .ints false [1, 2]] (fun R => R = .int 10) :=
  APure_eval (E := evl) tab_ok mixed (by intro q hq; cases hq) (by simp [NoFr]) reach_5_2_runs
set_option maxRecDepth 100000 in
theorem reach_5_3_runs : evFn evl 30 true 51 [.int 5, .ints false [1, 3]] [] = some (.int 13, []) := by kernel_rfl
theorem reach_5_3 : APure Try.prog 51 [.int 5, .ints false [1, 3]] (fun R => R = .int 13) :=
  APure_eval (E := evl) tab_ok mixed (by intro q hq; cases hq) (by simp [NoFr]) reach_5_3_runs
set_option maxRecDepth 100000 in
theorem reach_5_4_runs : evFn evl 30 true 51 [.int 5, .ints false [1, 4]] [] = some (.int 14, []) := by kernel_rfl
theorem reach_5_4 : APure Try.prog 51 [.int 5, .ints false [1, 4]] (fun R => R = .int 14) :=
  APure_eval (E := evl) tab_ok mixed (by intro q hq; cases hq) (by simp [NoFr]) reach_5_4_runs
set_option maxRecDepth 100000 in
theorem reach_5_5_runs : evFn evl 30 true 51 [.int 5, .ints false [1, 5]] [] = some (.int 13, []) := by kernel_rfl
theorem reach_5_5 : APure Try.prog 51 [.int 5, .ints false [1, 5]] (fun R => R = .int 13) :=
  APure_eval (E := evl) tab_ok mixed (by intro q hq; cases hq) (by simp [NoFr]) reach_5_5_runs
set_option maxRecDepth 100000 in
theorem reach_5_6_runs : evFn evl 30 true 51 [.int 5, .ints false [1, 6]] [] = some (.int 10, []) := by kernel_rfl
theorem reach_5_6 : APure Try.prog 51 [.int 5, .ints false [1, 6]] (fun R => R = .int 10) :=
  APure_eval (E := evl) tab_ok mixed (by intro q hq; cases hq) (by simp [NoFr]) reach_5_6_runs
end Go.Tri
