/-
  Ranges of two values, by evaluation.
-/
import Derived.Test.YtmooeghphaefiaaE1
namespace Go.Tri
open Go.Proofs
set_option maxRecDepth 100000 in
theorem reach_6_2_runs : evFn evl 30 true 51 [.int 6, .ints false [1, 2]] [] = some (.int 12, []) := by kernel_rfl
theorem reach_6_2 : APure Try.prog 51 [.int 6, .ints false [1, 2]] (fun R => R = .int 12) :=
  APure_eval (E := evl) tab_ok mixed (by intro q hq; cases hq) (by simp [NoFr]) reach_6_2_runs
set_option maxRecDepth 100000 in
theorem reach_6_3_runs : evFn evl 30 true 51 [.int 6, .ints false [1, 3]] [] = some (.int 16, []) := by kernel_rfl
theorem reach_6_3 : APure Try.prog 51 [.int 6, .ints false [1, 3]] (fun R => R = .int 16) :=
  APure_eval (E := evl) tab_ok mixed (by intro q hq; cases hq) (by simp [NoFr]) reach_6_3_runs
set_option maxRecDepth 100000 in
theorem reach_6_4_runs : evFn evl 30 true 51 [.int 6, .ints false [1, 4]] [] = some (.int 18, []) := by kernel_rfl
theorem reach_6_4 : APure Try.prog 51 [.int 6, .ints false [1, 4]] (fun R => R = .int 18) :=
  APure_eval (E := evl) tab_ok mixed (by intro q hq; cases hq) (by simp [NoFr]) reach_6_4_runs
end Go.Tri
