/-
 'alive' of stage 8, by evaluation.
-/
import Derived.Test.YtpolaegggclhcaaGreatB4
namespace Go.Tri
open Go.Proofs

def okAll : List FuncId := [7, 21, 20, 18, 19, 14, 13, 33, 51, 43, 65, 40, 34, 35, 54, 36, 55, 75, 56,
 52, 74, 72, 53, 76, 69, 84, 73, 86, 90,
 46, 64, 45, 37, 58, 57, 79, 78, 77, 63, 83,
 25, 30, 48, 47, 68, 67, 66, 49, 70, 71, 85,
 27, 29, 26, 44, 41]
def cuts (_ _ : Nat) : Option Nat := none
def wrE : List FuncId := [72, 73, 86, 90, 48, 44, 47, 66, 67]
set_option maxRecDepth 100000 in
theorem okL_ok : okAll.all (okFn Tryz.prog cuts) = true := by kernel_rfl
noncomputable def knownA : List (KnI Tryz.prog) := [⟨48, [.emp true, .int 2], rowsV (asg 2 2 []), all_imm 2 (by decide)⟩]
noncomputable def evl : Ev := ⟨Tryz.prog, tab, wrE, okAll, [], cuts, 500, okL_ok, [], knownA⟩
set_option maxRecDepth 100000 in
theorem alive_runs : evFn evl 30 true 7 [] [] = some (.bool true, []) := by kernel_rfl
theorem alive_pure : APure Tryz.prog 7 [] (fun R => R = .bool true) :=
 APure_eval (E := evl) tab_ok mixed (by intro q hq; cases hq) (by simp) alive_runs
end Go.Tri
