/-
  Ranges of two values, by evaluation.
-/
import Derived.Test.YtmooeghphaefiaaE1
namespace Go.Tri
open Go.Proofs
set_option maxRecDepth 100000 in
theorem reach_6_5_runs : evFn evl 30 true 51 [.int 6, .ints false [1, 5]] [] = some (.int 18, []) := by kernel_rfl
theorem reach_6_5 : APure Try.prog 51 [.int 6, .ints false [1, 5]] (fun R => R = .int 18) :=
  APure_eval (E := evl) tab_ok mixed (by intro q hq; cases hq) (by simp [NoFr]) reach_6_5_runs
set_option maxRecDepth 100000 in
theorem reach_6_6_runs : evFn evl 30 true 51 [.int 6, .ints false [1, 6]] [] = some (.int 16, []) := by kernel_rfl
theorem reach_6_6 : APure Try.prog 51 [.int 6, .ints false [1, 6]] (fun R => R = .int 16) :=
  APure_eval (E := evl) tab_ok mixed (by intro q hq; cases hq) (by simp [NoFr]) reach_6_6_runs
set_option maxRecDepth 100000 in
theorem reach_6_7_runs : evFn evl 30 true 51 [.int 6, .ints false [1, 7]] [] = some (.int 12, []) := by kernel_rfl
theorem reach_6_7 : APure Try.prog 51 [.int 6, .ints false [1, 7]] (fun R => R = .int 12) :=
  APure_eval (E := evl) tab_ok mixed (by intro q hq; cases hq) (by simp [NoFr]) reach_6_7_runs
end Go.Tri
