/-
  CONTRACTS: the checks of a division; Scores.
-/
import Derived.Test.YtghkpmeonoadlaaB23
namespace Go.Tri
open Go.Proofs

open Classical in
noncomputable def cdE (a b l : List Int) (d : Int) : Int := if boE a b = 0 then (if IsP l d a.length then 0 else 2) else boE a b
theorem nofrI {l : List Int} : NoFr (.ints false l) := rfl
open Classical in
theorem checkDivision_pure (a b l : List Int) (d : Int) : APure Try.prog 43 [.ints false a, .ints false b, parV false l d] (fun R => R = .int (cdE a b l d)) := by
  refine APure_of (X := cx 19) (cx_ok 19) rfl (rs := [(.tmp 6, 29)]) Try.func43 (by decide) rfl rfl rfl (by simp [cx]) (nofr3 nofrI nofrI nofrPa) ?_
  intro hlen
  have e1 : boE a b ≠ 0 → boE a b = cdE a b l d := fun h => by unfold cdE; rw [if_neg h]
  have e2 : boE a b = 0 → (if IsP l d a.length then (0 : Int) else 2) = cdE a b l d := fun h => by unfold cdE; rw [if_pos h]
  generalize cdE a b l d = E at *
  ((conv => whnf); repeat (refine stepK_in ?_; (repeat (first | refine seqQ_n ?_ | refine blockQ_n ?_ | refine awp_skip ?_ | refine awp_seq ?_ | refine awp_block ?_)); (conv => whnf)))
  refine APure.to (checkBoth_pure a b) ?_
  ((conv => whnf); repeat (refine stepK_in ?_; (repeat (first | refine seqQ_n ?_ | refine blockQ_n ?_ | refine awp_skip ?_ | refine awp_seq ?_ | refine awp_block ?_)); (conv => whnf)))
  refine br_ne (fun h => ?_) (fun h => ?_)
  · ((conv => whnf); repeat (refine stepK_in ?_; (repeat (first | refine seqQ_n ?_ | refine blockQ_n ?_ | refine awp_skip ?_ | refine awp_seq ?_ | refine awp_block ?_)); (conv => whnf)))
    exact ⟨trivial, Qi (e1 h)⟩
  have e2 := e2 h
  obtain ⟨ha, hb, hl⟩ := boE_inv h
  have h8 := ha.2.1
  have c1 := AreParts_pure l d a.length (by omega)
  ((conv => whnf); repeat (refine stepK_in ?_; (repeat (first | refine seqQ_n ?_ | refine blockQ_n ?_ | refine awp_skip ?_ | refine awp_seq ?_ | refine awp_block ?_)); (conv => whnf)))
  refine APure.to (APure.arg4 (sub2 rfl rfl) (Sub.refl _) (Sub.refl _) (Sub.refl _) c1) ?_
  ((conv => whnf); repeat (refine stepK_in ?_; (repeat (first | refine seqQ_n ?_ | refine blockQ_n ?_ | refine awp_skip ?_ | refine awp_seq ?_ | refine awp_block ?_)); (conv => whnf)))
  refine br_not ?_
  refine br_dec (fun h4 => ?_) (fun h4 => ?_)
  · rw [if_pos h4] at e2
    ((conv => whnf); repeat (refine stepK_in ?_; (repeat (first | refine seqQ_n ?_ | refine blockQ_n ?_ | refine awp_skip ?_ | refine awp_seq ?_ | refine awp_block ?_)); (conv => whnf)))
    exact ⟨trivial, Qi e2⟩
  · rw [if_neg h4] at e2
    ((conv => whnf); repeat (refine stepK_in ?_; (repeat (first | refine seqQ_n ?_ | refine blockQ_n ?_ | refine awp_skip ?_ | refine awp_seq ?_ | refine awp_block ?_)); (conv => whnf)))
    exact ⟨trivial, Qi e2⟩
noncomputable def scV (a b l : List Int) (d : Int) : V := if cdE a b l d = 0 then tup3 (ratP (mulA (fA a) l a.length) d) (ratP (mulB (fA b) l d a.length) d) (.int 0) else tup3 (pairV 0 0) (pairV 0 0) (.int (cdE a b l d))
theorem cdE_inv {a b l : List Int} {d : Int} (h : cdE a b l d = 0) : Pts a ∧ Pts b ∧ a.length = b.length ∧ IsP l d a.length := by
  unfold cdE at h
  split at h
  · next h1 =>
    obtain ⟨h2, h3, h4⟩ := boE_inv h1
    refine ⟨h2, h3, h4, Classical.byContradiction fun h5 => ?_⟩
    rw [if_neg h5] at h
    omega
  · next h1 => exact absurd h h1
set_option maxRecDepth 100000 in
theorem Scores_pure (a b l : List Int) (d : Int) : APure Try.prog 16 [.ints false a, .ints false b, parV false l d] (fun R => R = scV a b l d) := by
  refine APure_of (X := cx 31) (cx_ok 31) rfl (rs := [(.cell 6 28, 28), (.cell 7 28, 28), (.tmp 8, 29)]) Try.func16 (by decide) rfl rfl rfl (by simp [cx]) (nofr3 nofrI nofrI nofrPa) ?_
  intro hlen
  have e1 : cdE a b l d ≠ 0 → tup3 (pairV 0 0) (pairV 0 0) (.int (cdE a b l d)) = scV a b l d := fun h => by unfold scV; rw [if_neg h]
  have e2 : cdE a b l d = 0 → tup3 (ratP (mulA (fA a) l a.length) d) (ratP (mulB (fA b) l d a.length) d) (.int 0) = scV a b l d := fun h => by unfold scV; rw [if_pos h]
  generalize scV a b l d = E at *
  ((conv => whnf); repeat (refine stepK_in ?_; (repeat (first | refine seqQ_n ?_ | refine blockQ_n ?_ | refine awp_skip ?_ | refine awp_seq ?_ | refine awp_block ?_)); (conv => whnf)))
  refine APure.to (APure.arg3 (Sub.refl _) (Sub.refl _) (sub2 rfl rfl) (checkDivision_pure a b l d)) ?_
  ((conv => whnf); repeat (refine stepK_in ?_; (repeat (first | refine seqQ_n ?_ | refine blockQ_n ?_ | refine awp_skip ?_ | refine awp_seq ?_ | refine awp_block ?_)); (conv => whnf)))
  refine br_ne (fun h => ?_) (fun h => ?_)
  · ((conv => whnf); repeat (refine stepK_in ?_; (repeat (first | refine seqQ_n ?_ | refine blockQ_n ?_ | refine awp_skip ?_ | refine awp_seq ?_ | refine awp_block ?_)); (conv => whnf)))
    exact ⟨fr2 trivial trivial, fr2 trivial trivial, trivial, (Q3 (agg2_eq rfl rfl fun _ => rfl) (agg2_eq rfl rfl fun _ => rfl) rfl).trans (e1 h)⟩
  have e2 := e2 h
  obtain ⟨ha, hb, hl, hp⟩ := cdE_inv h
  have h8 := ha.2.1
  have c1 := newDeal_pure a b hl ha.2.1
  have c2 := scores_pure (f := fA a) (g := fA b) ha.2.1 (pts_in ha) (by rw [hl]; exact pts_in hb) hp.1 ⟨hp.2.1, by have := hp.2.2.1; omega⟩ hp.2.2.2.1
  generalize mulA (fA a) l a.length = S1 at *
  generalize mulB (fA b) l d a.length = S2 at *
  ((conv => whnf); repeat (refine stepK_in ?_; (repeat (first | refine seqQ_n ?_ | refine blockQ_n ?_ | refine awp_skip ?_ | refine awp_seq ?_ | refine awp_block ?_)); (conv => whnf)))
  refine AW_draw (X := cx 31) (cx_ok 31) mixed (by kernel_rfl) ?_
  ((conv => whnf); repeat (refine stepK_in ?_; (repeat (first | refine seqQ_n ?_ | refine blockQ_n ?_ | refine awp_skip ?_ | refine awp_seq ?_ | refine awp_block ?_)); (conv => whnf)))
  refine ⟨_, c1, ?_⟩
  ((conv => whnf); repeat (refine stepK_in ?_; (repeat (first | refine seqQ_n ?_ | refine blockQ_n ?_ | refine awp_skip ?_ | refine awp_seq ?_ | refine awp_block ?_)); (conv => whnf)))
  refine ⟨_, APure.arg2 subD (sub2 rfl rfl) c2, ?_⟩
  ((conv => whnf); repeat (refine stepK_in ?_; (repeat (first | refine seqQ_n ?_ | refine blockQ_n ?_ | refine awp_skip ?_ | refine awp_seq ?_ | refine awp_block ?_)); (conv => whnf)))
  refine AW_draw (X := cx 31) (cx_ok 31) mixed (by kernel_rfl) ?_
  ((conv => whnf); repeat (refine stepK_in ?_; (repeat (first | refine seqQ_n ?_ | refine blockQ_n ?_ | refine awp_skip ?_ | refine awp_seq ?_ | refine awp_block ?_)); (conv => whnf)))
  exact ⟨fr2 trivial trivial, fr2 trivial trivial, trivial, (Q3 (agg2_eq rfl rfl fun _ => rfl) (agg2_eq rfl rfl fun _ => rfl) rfl).trans e2⟩
end Go.Tri
