/-
  'alive' of stage 6, by evaluation.
-/
import Derived.Test.YtknpoobfecceeaaB3
namespace Go.Tri
open Go.Proofs

def okL : List FuncId := [15, 20, 21, 25, 31, 29, 38, 51, 60, 63, 52, 40, 65, 66, 64, 79, 69,
  80, 89, 85, 96, 82, 100, 99, 78, 88, 101, 70, 84,
  67, 81, 90, 109, 110, 120, 46, 53, 72, 83, 44, 41, 47, 68, 54, 71, 56, 58,
  73, 76, 86, 87]
def cuts (_ _ : Nat) : Option Nat := none
set_option maxRecDepth 100000 in
theorem okL_ok : okL.all (okFn Try.prog cuts) = true := by kernel_rfl
def F2 (j : Nat) : Int := match j with
  | 0 => 0
  | _ => 5
noncomputable def knownH : List (KnI Try.prog) := [⟨52, [ridesV 2 F2 F2], hillsV 2 F2 F2, newHills_imm (by decide) (by decide)⟩]
noncomputable def evl : Ev := ⟨Try.prog, tab, wrL, okL, [], cuts, 500, okL_ok, [], knownH⟩
set_option maxRecDepth 100000 in
theorem alive_runs : evFn evl 30 true 15 [] [] = some (.bool true, []) := by kernel_rfl
theorem alive_pure : APure Try.prog 15 [] (fun R => R = .bool true) :=
  APure_eval (E := evl) tab_ok mixed (by intro q hq; cases hq) (by simp) alive_runs
end Go.Tri
