/-
 'alive' of stage 8, by evaluation.
-/
import Derived.Test.YtpolaegggclhcaaB4
namespace Go.Tri
open Go.Proofs

def okAll : List FuncId := [15, 20, 23, 21, 24, 27, 31, 50, 75, 84, 106, 85, 44, 51, 78, 45, 79, 100, 80,
 76, 99, 97, 77, 101, 102, 117, 98, 116, 122,
 81, 96, 70, 54, 83, 82, 105, 104, 103, 95, 115,
 55, 56, 87, 86, 109, 108, 107, 88, 110, 111, 118,
 60, 61, 59, 90, 91]
def cuts (_ _ : Nat) : Option Nat := none
def wrE : List FuncId := [97, 98, 116, 122, 87, 90, 86, 107, 108]
set_option maxRecDepth 100000 in
theorem okL_ok : okAll.all (okFn Try.prog cuts) = true := by kernel_rfl
noncomputable def knownA : List (KnI Try.prog) := [⟨87, [.emp true, .int 2], rowsV (asg 2 2 []), all_imm 2 (by decide)⟩]
noncomputable def evl : Ev := ⟨Try.prog, tab, wrE, okAll, [], cuts, 500, okL_ok, [], knownA⟩
set_option maxRecDepth 100000 in
theorem alive_runs : evFn evl 30 true 15 [] [] = some (.bool true, []) := by kernel_rfl
theorem alive_pure : APure Try.prog 15 [] (fun R => R = .bool true) :=
 APure_eval (E := evl) tab_ok mixed (by intro q hq; cases hq) (by simp) alive_runs
end Go.Tri
