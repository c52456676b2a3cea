/-
 'alive' of stage 9: by evaluation, with the check known.
-/
import Derived.Test.YtafibngpgllcfaaB15
namespace Go.Tri
open Go.Proofs

def okAll : List FuncId := [16, 42, 19, 17, 24, 32, 22, 44, 47, 48, 52, 53, 59,
 70, 71, 72, 73, 74, 75, 76, 79,
 86, 87, 88, 89, 90, 91, 92, 93, 99, 100,
 108, 109, 110]
def noCut (_ _ : Nat) : Option Nat := none
def wrE : List FuncId := [75, 90, 100, 79, 93]
set_option maxRecDepth 100000 in
theorem okL_ok : okAll.all (okFn Try.prog noCut) = true := by kernel_rfl
def fA : Nat → Int := fun j => [0, 0, 1, 2].getD j 0
def fB : Nat → Int := fun j => [1, 2, 3, 3].getD j 0
set_option maxRecDepth 100000 in
theorem four_ok : ckE 4 4 fA fB = 0 := by kernel_rfl
theorem check4 : APure Try.prog 43 [quI 4 4 fA fB] (fun R => R = .int 0) := four_ok ▸ check_all 4 4 fA fB
noncomputable def evl : Ev := ⟨Try.prog, tab, wrE, okAll, [], noCut, 500, okL_ok, [⟨43, [quI 4 4 fA fB], .int 0, check4⟩], []⟩
set_option maxRecDepth 100000 in
theorem alive_runs : evFn evl 30 true 16 [] [] = some (.bool true, []) := by kernel_rfl
theorem alive_pure : APure Try.prog 16 [] (fun R => R = .bool true) :=
 APure_eval (E := evl) tab_ok mixed (by intro q hq; cases hq) (by simp) alive_runs
end Go.Tri
