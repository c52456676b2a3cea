/-
  Ranges of two values, by evaluation.
-/
import Derived.Test.YtmooeghphaefiaaE1
namespace Go.Tri
open Go.Proofs
set_option maxRecDepth 100000 in
theorem reach_1_2_runs : evFn evl 30 true 51 [.int 1, .ints false [1, 2]] [] = some (.int 2, []) := by kernel_rfl
theorem reach_1_2 : APure Try.prog 51 [.int 1, .ints false [1, 2]] (fun R => R = .int 2) :=
  APure_eval (E := evl) tab_ok mixed (by intro q hq; cases hq) (by simp [NoFr]) reach_1_2_runs
set_option maxRecDepth 100000 in
theorem reach_2_2_runs : evFn evl 30 true 51 [.int 2, .ints false [1, 2]] [] = some (.int 4, []) := by kernel_rfl
theorem reach_2_2 : APure Try.prog 51 [.int 2, .ints false [1, 2]] (fun R => R = .int 4) :=
  APure_eval (E := evl) tab_ok mixed (by intro q hq; cases hq) (by simp [NoFr]) reach_2_2_runs
set_option maxRecDepth 100000 in
theorem reach_2_3_runs : evFn evl 30 true 51 [.int 2, .ints false [1, 3]] [] = some (.int 4, []) := by kernel_rfl
theorem reach_2_3 : APure Try.prog 51 [.int 2, .ints false [1, 3]] (fun R => R = .int 4) :=
  APure_eval (E := evl) tab_ok mixed (by intro q hq; cases hq) (by simp [NoFr]) reach_2_3_runs
set_option maxRecDepth 100000 in
theorem reach_3_2_runs : evFn evl 30 true 51 [.int 3, .ints false [1, 2]] [] = some (.int 6, []) := by kernel_rfl
theorem reach_3_2 : APure Try.prog 51 [.int 3, .ints false [1, 2]] (fun R => R = .int 6) :=
  APure_eval (E := evl) tab_ok mixed (by intro q hq; cases hq) (by simp [NoFr]) reach_3_2_runs
set_option maxRecDepth 100000 in
theorem reach_3_3_runs : evFn evl 30 true 51 [.int 3, .ints false [1, 3]] [] = some (.int 7, []) := by kernel_rfl
theorem reach_3_3 : APure Try.prog 51 [.int 3, .ints false [1, 3]] (fun R => R = .int 7) :=
  APure_eval (E := evl) tab_ok mixed (by intro q hq; cases hq) (by simp [NoFr]) reach_3_3_runs
set_option maxRecDepth 100000 in
theorem reach_3_4_runs : evFn evl 30 true 51 [.int 3, .ints false [1, 4]] [] = some (.int 6, []) := by kernel_rfl
theorem reach_3_4 : APure Try.prog 51 [.int 3, .ints false [1, 4]] (fun R => R = .int 6) :=
  APure_eval (E := evl) tab_ok mixed (by intro q hq; cases hq) (by simp [NoFr]) reach_3_4_runs
set_option maxRecDepth 100000 in
theorem reach_4_2_runs : evFn evl 30 true 51 [.int 4, .ints false [1, 2]] [] = some (.int 8, []) := by kernel_rfl
theorem reach_4_2 : APure Try.prog 51 [.int 4, .ints false [1, 2]] (fun R => R = .int 8) :=
  APure_eval (E := evl) tab_ok mixed (by intro q hq; cases hq) (by simp [NoFr]) reach_4_2_runs
set_option maxRecDepth 100000 in
theorem reach_4_3_runs : evFn evl 30 true 51 [.int 4, .ints false [1, 3]] [] = some (.int 10, []) := by kernel_rfl
theorem reach_4_3 : APure Try.prog 51 [.int 4, .ints false [1, 3]] (fun R => R = .int 10) :=
  APure_eval (E := evl) tab_ok mixed (by intro q hq; cases hq) (by simp [NoFr]) reach_4_3_runs
set_option maxRecDepth 100000 in
theorem reach_4_4_runs : evFn evl 30 true 51 [.int 4, .ints false [1, 4]] [] = some (.int 10, []) := by kernel_rfl
theorem reach_4_4 : APure Try.prog 51 [.int 4, .ints false [1, 4]] (fun R => R = .int 10) :=
  APure_eval (E := evl) tab_ok mixed (by intro q hq; cases hq) (by simp [NoFr]) reach_4_4_runs
set_option maxRecDepth 100000 in
theorem reach_4_5_runs : evFn evl 30 true 51 [.int 4, .ints false [1, 5]] [] = some (.int 8, []) := by kernel_rfl
theorem reach_4_5 : APure Try.prog 51 [.int 4, .ints false [1, 5]] (fun R => R = .int 8) :=
  APure_eval (E := evl) tab_ok mixed (by intro q hq; cases hq) (by simp [NoFr]) reach_4_5_runs
end Go.Tri
