/-
  'alive', by evaluation.
-/
import Derived.Test.YtjcjjakmggfmcaaS
namespace Go.Tri
open Go.Proofs

/-- The functions that 'alive' comes to; those that hand memory on to be written. -/
noncomputable def evl : Ev := ⟨Try.prog, tab, [78, 60, 81],
  [17, 22, 18, 43, 63, 67, 44, 69, 45, 46, 25, 49, 54, 55, 56, 52, 70,
   33, 60, 76, 77, 64, 79, 80, 61, 78, 88, 89, 90, 94, 91, 92, 66, 81, 31], 500⟩

set_option maxRecDepth 100000 in
theorem evl_ok : evl.ok.all (okFn Try.prog) = true := by kernel_rfl
set_option maxRecDepth 100000 in
theorem alive_runs : evFn evl 12 true 17 [] [] = some (.bool true, []) := by kernel_rfl

theorem alive_pure : APure Try.prog 17 [] (fun R => R = .bool true) :=
  APure_eval (E := evl) tab_ok mixed evl_ok (by simp) alive_runs
end Go.Tri
