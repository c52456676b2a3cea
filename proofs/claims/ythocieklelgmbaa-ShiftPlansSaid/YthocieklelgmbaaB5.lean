/-
  CONTRACTS: Enough and Spare of the program.
-/
import Derived.Test.YthocieklelgmbaaB4
namespace Go.Tri
open Go.Proofs

open Classical in
/-- What Enough returns: the size, the judgement, the error; what Spare returns. -/
noncomputable def enV (l : List Int) (long : Int) (p : List Int) : V :=
  if dayE l long = 0 then (if isPl l.length p then tup3 (.int (sumL p p.length)) (.bool (decide (0 ≤ minL (spOut l p long.toNat l.length) l.length))) (.int 0) else tup3 (.int 0) (.bool false) (.int 0)) else tup3 (.int 0) (.bool false) (.int (dayE l long))
open Classical in
noncomputable def spV (l : List Int) (long : Int) (p : List Int) : V :=
  if dayE l long = 0 then (if isPl l.length p then tup2 (.ints true (spOut l p long.toNat l.length)) (.int 0) else tup2 (.ints true []) (.int 2)) else tup2 (.ints true []) (.int (dayE l long))

theorem subL (l : List Int) : Sub (.ints true l) (.ints false l) := sub_ints l

open Classical in
theorem Enough_pure (l : List Int) (long : Int) (p : List Int) : APure Try.prog 17 [.ints false l, .int long, .ints false p] (fun R => R = enV l long p) := by
  refine APure_of (X := cx 30) (cx_ok 30) rfl (rs := [(.tmp 6, 3), (.tmp 7, 4), (.tmp 8, 25)]) Try.func17 (by decide) rfl rfl rfl (by simp [cx]) (by simp [NoFr]) ?_
  intro hlen
  have c1 : dayE l long ≠ 0 → tup3 (.int 0) (.bool false) (.int (dayE l long)) = enV l long p := fun h => by unfold enV; rw [if_neg h]
  have c2 : dayE l long = 0 → ¬ isPl l.length p → tup3 (.int 0) (.bool false) (.int 0) = enV l long p := fun h h' => by unfold enV; rw [if_pos h, if_neg h']
  have c3 : dayE l long = 0 → isPl l.length p → tup3 (.int (sumL p p.length)) (.bool (decide (0 ≤ minL (spOut l p long.toNat l.length) l.length))) (.int 0) = enV l long p := fun h h' => by unfold enV; rw [if_pos h, if_pos h']
  generalize enV l long p = E at *
  ((conv => whnf); repeat (refine stepK_in ?_; (repeat (first | refine seqQ_n ?_ | refine blockQ_n ?_ | refine awp_skip ?_ | refine awp_seq ?_ | refine awp_block ?_)); (conv => whnf)))
  refine APure.to (checkShifts_pure l long) ?_
  ((conv => whnf); repeat (refine stepK_in ?_; (repeat (first | refine seqQ_n ?_ | refine blockQ_n ?_ | refine awp_skip ?_ | refine awp_seq ?_ | refine awp_block ?_)); (conv => whnf)))
  refine br_ne (fun h => ?_) (fun h => ?_)
  · ((conv => whnf); repeat (refine stepK_in ?_; (repeat (first | refine seqQ_n ?_ | refine blockQ_n ?_ | refine awp_skip ?_ | refine awp_seq ?_ | refine awp_block ?_)); (conv => whnf)))
    exact ⟨trivial, trivial, trivial, c1 h⟩
  obtain ⟨hn, hl1, hl2⟩ := dayE_inv h
  obtain ⟨n1, n2, n3⟩ := hn
  ((conv => whnf); repeat (refine stepK_in ?_; (repeat (first | refine seqQ_n ?_ | refine blockQ_n ?_ | refine awp_skip ?_ | refine awp_seq ?_ | refine awp_block ?_)); (conv => whnf)))
  refine APure.to (isPlan_pure p l.length) ?_
  ((conv => whnf); repeat (refine stepK_in ?_; (repeat (first | refine seqQ_n ?_ | refine blockQ_n ?_ | refine awp_skip ?_ | refine awp_seq ?_ | refine awp_block ?_)); (conv => whnf)))
  by_cases hp : isPl l.length p
  · rw [decide_eq_true hp]
    have hs := spare_pure l p long.toNat ⟨n1, n2, n3⟩ (by omega) hp
    rw [show ((long.toNat : Nat) : Int) = long by omega] at hs
    have hlo := spOut_len l p long.toNat l.length
    have hm := Min_pure (spOut l p long.toNat l.length) (by omega)
    rw [hlo] at hm
    ((conv => whnf); repeat (refine stepK_in ?_; (repeat (first | refine seqQ_n ?_ | refine blockQ_n ?_ | refine awp_skip ?_ | refine awp_seq ?_ | refine awp_block ?_)); (conv => whnf)))
    refine APure.to (sum_pure p 600 (by have := hp.1; omega) (by omega) hp.2) ?_
    ((conv => whnf); repeat (refine stepK_in ?_; (repeat (first | refine seqQ_n ?_ | refine blockQ_n ?_ | refine awp_skip ?_ | refine awp_seq ?_ | refine awp_block ?_)); (conv => whnf)))
    refine APure.to (APure.arg2 (subCk rfl rfl) (Sub.refl _) hs) ?_
    ((conv => whnf); repeat (refine stepK_in ?_; (repeat (first | refine seqQ_n ?_ | refine blockQ_n ?_ | refine awp_skip ?_ | refine awp_seq ?_ | refine awp_block ?_)); (conv => whnf)))
    refine APure.to hm ?_
    ((conv => whnf); repeat (refine stepK_in ?_; (repeat (first | refine seqQ_n ?_ | refine blockQ_n ?_ | refine awp_skip ?_ | refine awp_seq ?_ | refine awp_block ?_)); (conv => whnf)))
    exact ⟨trivial, trivial, trivial, c3 h hp⟩
  · rw [decide_eq_false hp]
    ((conv => whnf); repeat (refine stepK_in ?_; (repeat (first | refine seqQ_n ?_ | refine blockQ_n ?_ | refine awp_skip ?_ | refine awp_seq ?_ | refine awp_block ?_)); (conv => whnf)))
    exact ⟨trivial, trivial, trivial, c2 h hp⟩

open Classical in
theorem Spare_pure (l : List Int) (long : Int) (p : List Int) : APure Try.prog 19 [.ints false l, .int long, .ints false p] (fun R => R = spV l long p) := by
  refine APure_of (X := cx 25) (cx_ok 25) rfl (rs := [(.tmp 6, 22), (.tmp 7, 25)]) Try.func19 (by decide) rfl rfl rfl (by simp [cx]) (by simp [NoFr]) ?_
  intro hlen
  have c1 : dayE l long ≠ 0 → tup2 (.ints true []) (.int (dayE l long)) = spV l long p := fun h => by unfold spV; rw [if_neg h]
  have c2 : dayE l long = 0 → ¬ isPl l.length p → tup2 (.ints true []) (.int 2) = spV l long p := fun h h' => by unfold spV; rw [if_pos h, if_neg h']
  have c3 : dayE l long = 0 → isPl l.length p → tup2 (.ints true (spOut l p long.toNat l.length)) (.int 0) = spV l long p := fun h h' => by unfold spV; rw [if_pos h, if_pos h']
  generalize spV l long p = E at *
  ((conv => whnf); repeat (refine stepK_in ?_; (repeat (first | refine seqQ_n ?_ | refine blockQ_n ?_ | refine awp_skip ?_ | refine awp_seq ?_ | refine awp_block ?_)); (conv => whnf)))
  refine APure.to (checkShifts_pure l long) ?_
  ((conv => whnf); repeat (refine stepK_in ?_; (repeat (first | refine seqQ_n ?_ | refine blockQ_n ?_ | refine awp_skip ?_ | refine awp_seq ?_ | refine awp_block ?_)); (conv => whnf)))
  refine br_ne (fun h => ?_) (fun h => ?_)
  · ((conv => whnf); repeat (refine stepK_in ?_; (repeat (first | refine seqQ_n ?_ | refine blockQ_n ?_ | refine awp_skip ?_ | refine awp_seq ?_ | refine awp_block ?_)); (conv => whnf)))
    exact ⟨rfl, trivial, c1 h⟩
  obtain ⟨hn, hl1, hl2⟩ := dayE_inv h
  obtain ⟨n1, n2, n3⟩ := hn
  ((conv => whnf); repeat (refine stepK_in ?_; (repeat (first | refine seqQ_n ?_ | refine blockQ_n ?_ | refine awp_skip ?_ | refine awp_seq ?_ | refine awp_block ?_)); (conv => whnf)))
  refine APure.to (isPlan_pure p l.length) ?_
  ((conv => whnf); repeat (refine stepK_in ?_; (repeat (first | refine seqQ_n ?_ | refine blockQ_n ?_ | refine awp_skip ?_ | refine awp_seq ?_ | refine awp_block ?_)); (conv => whnf)))
  by_cases hp : isPl l.length p
  · rw [decide_eq_true hp]
    have hs := spare_pure l p long.toNat ⟨n1, n2, n3⟩ (by omega) hp
    rw [show ((long.toNat : Nat) : Int) = long by omega] at hs
    ((conv => whnf); repeat (refine stepK_in ?_; (repeat (first | refine seqQ_n ?_ | refine blockQ_n ?_ | refine awp_skip ?_ | refine awp_seq ?_ | refine awp_block ?_)); (conv => whnf)))
    refine APure.to (APure.arg2 (subCk rfl rfl) (Sub.refl _) hs) ?_
    ((conv => whnf); repeat (refine stepK_in ?_; (repeat (first | refine seqQ_n ?_ | refine blockQ_n ?_ | refine awp_skip ?_ | refine awp_seq ?_ | refine awp_block ?_)); (conv => whnf)))
    exact ⟨rfl, trivial, c3 h hp⟩
  · rw [decide_eq_false hp]
    ((conv => whnf); repeat (refine stepK_in ?_; (repeat (first | refine seqQ_n ?_ | refine blockQ_n ?_ | refine awp_skip ?_ | refine awp_seq ?_ | refine awp_block ?_)); (conv => whnf)))
    exact ⟨rfl, trivial, c2 h hp⟩
end Go.Tri
