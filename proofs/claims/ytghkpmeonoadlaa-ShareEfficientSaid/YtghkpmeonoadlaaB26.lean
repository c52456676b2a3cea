/-
  CONTRACTS: Efficient.
-/
import Derived.Test.YtghkpmeonoadlaaB25
namespace Go.Tri
open Go.Proofs

open Classical in
noncomputable def efV (a b l : List Int) (d : Int) : V := if cdE a b l d = 0 then tup2 (.bool (decide (Eff (fA a) (fA b) a.length l d))) (.int 0) else tup2 (.bool false) (.int (cdE a b l d))
open Classical in
set_option maxRecDepth 100000 in
theorem Efficient_pure (a b l : List Int) (d : Int) : APure Try.prog 18 [.ints false a, .ints false b, parV false l d] (fun R => R = efV a b l d) := by
  refine APure_of (X := cx 21) (cx_ok 21) rfl (rs := [(.tmp 6, 4), (.tmp 7, 29)]) Try.func18 (by decide) rfl rfl rfl (by simp [cx]) (nofr3 nofrI nofrI nofrPa) ?_
  intro hlen
  have e1 : cdE a b l d ≠ 0 → tup2 (.bool false) (.int (cdE a b l d)) = efV a b l d := fun h => by unfold efV; rw [if_neg h]
  have e2 : cdE a b l d = 0 → tup2 (.bool (decide (Eff (fA a) (fA b) a.length l d))) (.int 0) = efV a b l d := fun h => by unfold efV; rw [if_pos h]
  generalize efV a b l d = E at *
  ((conv => whnf); repeat (refine stepK_in ?_; (repeat (first | refine seqQ_n ?_ | refine blockQ_n ?_ | refine awp_skip ?_ | refine awp_seq ?_ | refine awp_block ?_)); (conv => whnf)))
  refine APure.to (APure.arg3 (Sub.refl _) (Sub.refl _) (sub2 rfl rfl) (checkDivision_pure a b l d)) ?_
  ((conv => whnf); repeat (refine stepK_in ?_; (repeat (first | refine seqQ_n ?_ | refine blockQ_n ?_ | refine awp_skip ?_ | refine awp_seq ?_ | refine awp_block ?_)); (conv => whnf)))
  refine br_ne (fun h => ?_) (fun h => ?_)
  · ((conv => whnf); repeat (refine stepK_in ?_; (repeat (first | refine seqQ_n ?_ | refine blockQ_n ?_ | refine awp_skip ?_ | refine awp_seq ?_ | refine awp_block ?_)); (conv => whnf)))
    exact ⟨trivial, trivial, e1 h⟩
  have e2 := e2 h
  obtain ⟨ha, hb, hl, hp⟩ := cdE_inv h
  have h8 := ha.2.1
  have c1 := newDeal_pure a b hl ha.2.1
  have c2 := efficient_pure (f := fA a) (g := fA b) (d := d) (show a.length ≤ 100 by omega) (pts_in ha) (by rw [hl]; exact pts_in hb) hp.1
  ((conv => whnf); repeat (refine stepK_in ?_; (repeat (first | refine seqQ_n ?_ | refine blockQ_n ?_ | refine awp_skip ?_ | refine awp_seq ?_ | refine awp_block ?_)); (conv => whnf)))
  refine AW_draw (X := cx 21) (cx_ok 21) mixed (by kernel_rfl) ?_
  ((conv => whnf); repeat (refine stepK_in ?_; (repeat (first | refine seqQ_n ?_ | refine blockQ_n ?_ | refine awp_skip ?_ | refine awp_seq ?_ | refine awp_block ?_)); (conv => whnf)))
  refine ⟨_, c1, ?_⟩
  ((conv => whnf); repeat (refine stepK_in ?_; (repeat (first | refine seqQ_n ?_ | refine blockQ_n ?_ | refine awp_skip ?_ | refine awp_seq ?_ | refine awp_block ?_)); (conv => whnf)))
  refine ⟨_, APure.arg2 subD (sub2 rfl rfl) c2, ?_⟩
  ((conv => whnf); repeat (refine stepK_in ?_; (repeat (first | refine seqQ_n ?_ | refine blockQ_n ?_ | refine awp_skip ?_ | refine awp_seq ?_ | refine awp_block ?_)); (conv => whnf)))
  exact ⟨trivial, trivial, e2⟩
end Go.Tri
