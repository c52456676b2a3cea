/-
  Best of one value and of two, by what is known of ranges.
-/
import Derived.Test.YtmooeghphaefiaaK1
import Derived.Test.YtmooeghphaefiaaK2
import Derived.Test.YtmooeghphaefiaaK3
import Derived.Test.YtmooeghphaefiaaK4
namespace Go.Tri
open Go.Proofs
/-- Ranges that are known. -/
noncomputable def known : List (Kn Try.prog) := [⟨51, [.int 1, .ints false [1, 2]], .int 2, reach_1_2⟩,
  ⟨51, [.int 2, .ints false [1, 2]], .int 4, reach_2_2⟩,
  ⟨51, [.int 2, .ints false [1, 3]], .int 4, reach_2_3⟩,
  ⟨51, [.int 3, .ints false [1, 2]], .int 6, reach_3_2⟩,
  ⟨51, [.int 3, .ints false [1, 3]], .int 7, reach_3_3⟩,
  ⟨51, [.int 3, .ints false [1, 4]], .int 6, reach_3_4⟩,
  ⟨51, [.int 4, .ints false [1, 2]], .int 8, reach_4_2⟩,
  ⟨51, [.int 4, .ints false [1, 3]], .int 10, reach_4_3⟩,
  ⟨51, [.int 4, .ints false [1, 4]], .int 10, reach_4_4⟩,
  ⟨51, [.int 4, .ints false [1, 5]], .int 8, reach_4_5⟩,
  ⟨51, [.int 5, .ints false [1, 2]], .int 10, reach_5_2⟩,
  ⟨51, [.int 5, .ints false [1, 3]], .int 13, reach_5_3⟩,
  ⟨51, [.int 5, .ints false [1, 4]], .int 14, reach_5_4⟩,
  ⟨51, [.int 5, .ints false [1, 5]], .int 13, reach_5_5⟩,
  ⟨51, [.int 5, .ints false [1, 6]], .int 10, reach_5_6⟩,
  ⟨51, [.int 6, .ints false [1, 2]], .int 12, reach_6_2⟩,
  ⟨51, [.int 6, .ints false [1, 3]], .int 16, reach_6_3⟩,
  ⟨51, [.int 6, .ints false [1, 4]], .int 18, reach_6_4⟩,
  ⟨51, [.int 6, .ints false [1, 5]], .int 18, reach_6_5⟩,
  ⟨51, [.int 6, .ints false [1, 6]], .int 16, reach_6_6⟩,
  ⟨51, [.int 6, .ints false [1, 7]], .int 12, reach_6_7⟩]
noncomputable def evk : Ev := ⟨Try.prog, tab, wrL, okL, [], cuts, 500, okL_ok, known⟩
set_option maxRecDepth 100000 in
theorem best1_1_runs : evFn evk 30 true 28 [.int 1, .int 1] [] = some ((triple (.ints true [1]) (.int 1) (.int 0)), []) := by kernel_rfl
theorem best1_1 : APure Try.prog 28 [.int 1, .int 1] (fun R => R = (triple (.ints true [1]) (.int 1) (.int 0))) :=
  APure_eval (E := evk) tab_ok mixed (by intro q hq; cases hq) (by simp [NoFr]) best1_1_runs
set_option maxRecDepth 100000 in
theorem best2_1_runs : evFn evk 30 true 28 [.int 1, .int 2] [] = some ((triple (.ints true [1, 2]) (.int 2) (.int 0)), []) := by kernel_rfl
theorem best2_1 : APure Try.prog 28 [.int 1, .int 2] (fun R => R = (triple (.ints true [1, 2]) (.int 2) (.int 0))) :=
  APure_eval (E := evk) tab_ok mixed (by intro q hq; cases hq) (by simp [NoFr]) best2_1_runs
set_option maxRecDepth 100000 in
theorem range_1_runs : evFn evk 30 true 24 [.int 1, .ints false [1, 2]] [] = some ((pair (.int 2) (.int 0)), []) := by kernel_rfl
theorem range_1 : APure Try.prog 24 [.int 1, .ints false [1, 2]] (fun R => R = (pair (.int 2) (.int 0))) :=
  APure_eval (E := evk) tab_ok mixed (by intro q hq; cases hq) (by simp [NoFr]) range_1_runs
set_option maxRecDepth 100000 in
theorem best1_2_runs : evFn evk 30 true 28 [.int 2, .int 1] [] = some ((triple (.ints true [1]) (.int 2) (.int 0)), []) := by kernel_rfl
theorem best1_2 : APure Try.prog 28 [.int 2, .int 1] (fun R => R = (triple (.ints true [1]) (.int 2) (.int 0))) :=
  APure_eval (E := evk) tab_ok mixed (by intro q hq; cases hq) (by simp [NoFr]) best1_2_runs
set_option maxRecDepth 100000 in
theorem best2_2_runs : evFn evk 30 true 28 [.int 2, .int 2] [] = some ((triple (.ints true [1, 2]) (.int 4) (.int 0)), []) := by kernel_rfl
theorem best2_2 : APure Try.prog 28 [.int 2, .int 2] (fun R => R = (triple (.ints true [1, 2]) (.int 4) (.int 0))) :=
  APure_eval (E := evk) tab_ok mixed (by intro q hq; cases hq) (by simp [NoFr]) best2_2_runs
set_option maxRecDepth 100000 in
theorem range_2_runs : evFn evk 30 true 24 [.int 2, .ints false [1, 2]] [] = some ((pair (.int 4) (.int 0)), []) := by kernel_rfl
theorem range_2 : APure Try.prog 24 [.int 2, .ints false [1, 2]] (fun R => R = (pair (.int 4) (.int 0))) :=
  APure_eval (E := evk) tab_ok mixed (by intro q hq; cases hq) (by simp [NoFr]) range_2_runs
set_option maxRecDepth 100000 in
theorem best1_3_runs : evFn evk 30 true 28 [.int 3, .int 1] [] = some ((triple (.ints true [1]) (.int 3) (.int 0)), []) := by kernel_rfl
theorem best1_3 : APure Try.prog 28 [.int 3, .int 1] (fun R => R = (triple (.ints true [1]) (.int 3) (.int 0))) :=
  APure_eval (E := evk) tab_ok mixed (by intro q hq; cases hq) (by simp [NoFr]) best1_3_runs
set_option maxRecDepth 100000 in
theorem best2_3_runs : evFn evk 30 true 28 [.int 3, .int 2] [] = some ((triple (.ints true [1, 3]) (.int 7) (.int 0)), []) := by kernel_rfl
theorem best2_3 : APure Try.prog 28 [.int 3, .int 2] (fun R => R = (triple (.ints true [1, 3]) (.int 7) (.int 0))) :=
  APure_eval (E := evk) tab_ok mixed (by intro q hq; cases hq) (by simp [NoFr]) best2_3_runs
set_option maxRecDepth 100000 in
theorem range_3_runs : evFn evk 30 true 24 [.int 3, .ints false [1, 3]] [] = some ((pair (.int 7) (.int 0)), []) := by kernel_rfl
theorem range_3 : APure Try.prog 24 [.int 3, .ints false [1, 3]] (fun R => R = (pair (.int 7) (.int 0))) :=
  APure_eval (E := evk) tab_ok mixed (by intro q hq; cases hq) (by simp [NoFr]) range_3_runs
set_option maxRecDepth 100000 in
theorem best1_4_runs : evFn evk 30 true 28 [.int 4, .int 1] [] = some ((triple (.ints true [1]) (.int 4) (.int 0)), []) := by kernel_rfl
theorem best1_4 : APure Try.prog 28 [.int 4, .int 1] (fun R => R = (triple (.ints true [1]) (.int 4) (.int 0))) :=
  APure_eval (E := evk) tab_ok mixed (by intro q hq; cases hq) (by simp [NoFr]) best1_4_runs
set_option maxRecDepth 100000 in
theorem best2_4_runs : evFn evk 30 true 28 [.int 4, .int 2] [] = some ((triple (.ints true [1, 3]) (.int 10) (.int 0)), []) := by kernel_rfl
theorem best2_4 : APure Try.prog 28 [.int 4, .int 2] (fun R => R = (triple (.ints true [1, 3]) (.int 10) (.int 0))) :=
  APure_eval (E := evk) tab_ok mixed (by intro q hq; cases hq) (by simp [NoFr]) best2_4_runs
set_option maxRecDepth 100000 in
theorem range_4_runs : evFn evk 30 true 24 [.int 4, .ints false [1, 3]] [] = some ((pair (.int 10) (.int 0)), []) := by kernel_rfl
theorem range_4 : APure Try.prog 24 [.int 4, .ints false [1, 3]] (fun R => R = (pair (.int 10) (.int 0))) :=
  APure_eval (E := evk) tab_ok mixed (by intro q hq; cases hq) (by simp [NoFr]) range_4_runs
set_option maxRecDepth 100000 in
theorem best1_5_runs : evFn evk 30 true 28 [.int 5, .int 1] [] = some ((triple (.ints true [1]) (.int 5) (.int 0)), []) := by kernel_rfl
theorem best1_5 : APure Try.prog 28 [.int 5, .int 1] (fun R => R = (triple (.ints true [1]) (.int 5) (.int 0))) :=
  APure_eval (E := evk) tab_ok mixed (by intro q hq; cases hq) (by simp [NoFr]) best1_5_runs
set_option maxRecDepth 100000 in
theorem best2_5_runs : evFn evk 30 true 28 [.int 5, .int 2] [] = some ((triple (.ints true [1, 4]) (.int 14) (.int 0)), []) := by kernel_rfl
theorem best2_5 : APure Try.prog 28 [.int 5, .int 2] (fun R => R = (triple (.ints true [1, 4]) (.int 14) (.int 0))) :=
  APure_eval (E := evk) tab_ok mixed (by intro q hq; cases hq) (by simp [NoFr]) best2_5_runs
set_option maxRecDepth 100000 in
theorem range_5_runs : evFn evk 30 true 24 [.int 5, .ints false [1, 4]] [] = some ((pair (.int 14) (.int 0)), []) := by kernel_rfl
theorem range_5 : APure Try.prog 24 [.int 5, .ints false [1, 4]] (fun R => R = (pair (.int 14) (.int 0))) :=
  APure_eval (E := evk) tab_ok mixed (by intro q hq; cases hq) (by simp [NoFr]) range_5_runs
set_option maxRecDepth 100000 in
theorem best1_6_runs : evFn evk 30 true 28 [.int 6, .int 1] [] = some ((triple (.ints true [1]) (.int 6) (.int 0)), []) := by kernel_rfl
theorem best1_6 : APure Try.prog 28 [.int 6, .int 1] (fun R => R = (triple (.ints true [1]) (.int 6) (.int 0))) :=
  APure_eval (E := evk) tab_ok mixed (by intro q hq; cases hq) (by simp [NoFr]) best1_6_runs
set_option maxRecDepth 100000 in
theorem best2_6_runs : evFn evk 30 true 28 [.int 6, .int 2] [] = some ((triple (.ints true [1, 4]) (.int 18) (.int 0)), []) := by kernel_rfl
theorem best2_6 : APure Try.prog 28 [.int 6, .int 2] (fun R => R = (triple (.ints true [1, 4]) (.int 18) (.int 0))) :=
  APure_eval (E := evk) tab_ok mixed (by intro q hq; cases hq) (by simp [NoFr]) best2_6_runs
set_option maxRecDepth 100000 in
theorem range_6_runs : evFn evk 30 true 24 [.int 6, .ints false [1, 4]] [] = some ((pair (.int 18) (.int 0)), []) := by kernel_rfl
theorem range_6 : APure Try.prog 24 [.int 6, .ints false [1, 4]] (fun R => R = (pair (.int 18) (.int 0))) :=
  APure_eval (E := evk) tab_ok mixed (by intro q hq; cases hq) (by simp [NoFr]) range_6_runs
end Go.Tri
