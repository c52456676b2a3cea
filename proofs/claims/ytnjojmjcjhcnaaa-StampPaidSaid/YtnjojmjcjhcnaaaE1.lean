/-
  'alive', by evaluation.
-/
import Derived.Test.YtnjojmjcjhcnaaaS
namespace Go.Tri
open Go.Proofs

def wrL : List FuncId := [54, 61, 72, 41, 63, 64]
def okL : List FuncId := [16, 19, 17, 24, 28, 22, 34, 40, 45, 65, 60, 53,
  47, 42, 67, 49, 51, 54, 61, 72, 41, 63, 64]
/-- Where regions that draw hold a call that writes. -/
def cuts (f id : Nat) : Option Nat := bif Nat.beq f 64 && Nat.beq id 6 then some 13 else none
set_option maxRecDepth 100000 in
theorem okL_ok : okL.all (okFn Try.prog cuts) = true := by kernel_rfl
noncomputable def evl : Ev := ⟨Try.prog, tab, wrL, okL, [], cuts, 500, okL_ok, []⟩
set_option maxRecDepth 100000 in
theorem alive_runs : evFn evl 30 true 16 [] [] = some (.bool true, []) := by kernel_rfl
theorem alive_pure : APure Try.prog 16 [] (fun R => R = .bool true) :=
  APure_eval (E := evl) tab_ok mixed (by intro q hq; cases hq) (by simp) alive_runs
end Go.Tri
