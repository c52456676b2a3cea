/-
  CONTRACTS: Least, Share, Plan and With of the program.
-/
import Derived.Test.YthocieklelgmbaaB10
namespace Go.Tri
open Go.Proofs

noncomputable def leV (l : List Int) (long : Int) : V := if dayE l long = 0 then tup2 (.int (leL l long)) (.int 0) else tup2 (.int 0) (.int (dayE l long))
noncomputable def shV (l : List Int) (long : Int) : V := if dayE l long = 0 then tup2 (ratV (shR l long (max 2 (long.toNat + 1))).1 (shR l long (max 2 (long.toNat + 1))).2) (.int 0) else tup2 (ratV 0 0) (.int (dayE l long))
/-- The plan of a size. -/
def plnL (l : List Int) (long T : Int) : List Int := plL l.length T (stT l long T) l.length
noncomputable def plV (l : List Int) (long : Int) : V := if dayE l long = 0 then tup2 (.ints true (plnL l long (leL l long))) (.int 0) else tup2 (.ints true []) (.int (dayE l long))
noncomputable def wiV (l : List Int) (long T : Int) : V := if dayE l long = 0 then (if 0 ≤ T ∧ T ≤ 600 then (if okT l long T = true then tup2 (.ints true (plnL l long T)) (.int 0) else tup2 (.ints true []) (.int 10)) else tup2 (.ints true []) (.int 2)) else tup2 (.ints true []) (.int (dayE l long))
theorem Nds.wide {l : List Int} (h : Nds l) : bet 0 1000 l l.length := fun q hq => by have := h.2.2 q hq; omega
theorem leL_600 {l : List Int} {long : Nat} (h : Nds l) (hl1 : 1 ≤ long) (hl : long ≤ l.length) : (leL l long : Int) ≤ 600 := by
  have h1 := leL_sum h.1 h.2.1 hl1 hl h.wide
  have h2 := sumL_bd h.2.2 _ (Nat.le_refl _)
  have := h.2.1
  omega

theorem Least_pure (l : List Int) (long : Int) : APure Try.prog 22 [.ints false l, .int long] (fun R => R = leV l long) := by
  refine APure_of (X := cx 17) (cx_ok 17) rfl (rs := [(.tmp 4, 3), (.tmp 5, 25)]) Try.func22 (by decide) rfl rfl rfl (by simp [cx]) (by simp [NoFr]) ?_
  intro hlen
  have c1 : dayE l long ≠ 0 → tup2 (.int 0) (.int (dayE l long)) = leV l long := fun h => by unfold leV; rw [if_neg h]
  have c2 : dayE l long = 0 → tup2 (.int (leL l long)) (.int 0) = leV l long := fun h => by unfold leV; rw [if_pos h]
  generalize leV l long = E at *
  ((conv => whnf); repeat (refine stepK_in ?_; (repeat (first | refine seqQ_n ?_ | refine blockQ_n ?_ | refine awp_skip ?_ | refine awp_seq ?_ | refine awp_block ?_)); (conv => whnf)))
  refine APure.to (checkShifts_pure l long) ?_
  ((conv => whnf); repeat (refine stepK_in ?_; (repeat (first | refine seqQ_n ?_ | refine blockQ_n ?_ | refine awp_skip ?_ | refine awp_seq ?_ | refine awp_block ?_)); (conv => whnf)))
  refine br_ne (fun h => ?_) (fun h => ?_)
  · ((conv => whnf); repeat (refine stepK_in ?_; (repeat (first | refine seqQ_n ?_ | refine blockQ_n ?_ | refine awp_skip ?_ | refine awp_seq ?_ | refine awp_block ?_)); (conv => whnf)))
    exact ⟨trivial, trivial, c1 h⟩
  obtain ⟨hn, hl1, hl2⟩ := dayE_inv h
  have hs := least_pure l long.toNat hn.1 hn.2.1 (by omega) (by omega) hn.wide
  rw [show ((long.toNat : Nat) : Int) = long by omega] at hs
  ((conv => whnf); repeat (refine stepK_in ?_; (repeat (first | refine seqQ_n ?_ | refine blockQ_n ?_ | refine awp_skip ?_ | refine awp_seq ?_ | refine awp_block ?_)); (conv => whnf)))
  refine APure.to (APure.arg1 (subCk rfl rfl) hs) ?_
  ((conv => whnf); repeat (refine stepK_in ?_; (repeat (first | refine seqQ_n ?_ | refine blockQ_n ?_ | refine awp_skip ?_ | refine awp_seq ?_ | refine awp_block ?_)); (conv => whnf)))
  exact ⟨trivial, trivial, c2 h⟩

theorem Share_pure (l : List Int) (long : Int) : APure Try.prog 24 [.ints false l, .int long] (fun R => R = shV l long) := by
  refine APure_of (X := cx 18) (cx_ok 18) rfl (rs := [(.cell 4 34, 34), (.tmp 5, 25)]) Try.func24 (by decide) rfl rfl rfl (by simp [cx]) (by simp [NoFr]) ?_
  intro hlen
  have c1 : dayE l long ≠ 0 → tup2 (ratV 0 0) (.int (dayE l long)) = shV l long := fun h => by unfold shV; rw [if_neg h]
  have c2 : dayE l long = 0 → tup2 (ratV (shR l long (max 2 (long.toNat + 1))).1 (shR l long (max 2 (long.toNat + 1))).2) (.int 0) = shV l long := fun h => by unfold shV; rw [if_pos h]
  generalize shV l long = E at *
  have fr : ∀ {a b : Int} {M : Mem}, ∀ k, k < 2 → Fr (ownvalN M 4 ([V.int a, V.int b].getD (0 + k) .any)) := fun k hk => by
    rcases (by omega : k = 0 ∨ k = 1) with rfl | rfl <;> exact trivial
  have ag : ∀ {a b : Int} {M : Mem}, (V.agg 2 fun k => ownvalN M 4 ([V.int a, V.int b].getD (0 + k) .any)) = ratV a b := fun {a b M} => congrArg (V.agg 2) (funext fun i => by
    match i with
    | 0 => rfl
    | 1 => rfl
    | _ + 2 => rfl)
  ((conv => whnf); repeat (refine stepK_in ?_; (repeat (first | refine seqQ_n ?_ | refine blockQ_n ?_ | refine awp_skip ?_ | refine awp_seq ?_ | refine awp_block ?_)); (conv => whnf)))
  refine APure.to (checkShifts_pure l long) ?_
  ((conv => whnf); repeat (refine stepK_in ?_; (repeat (first | refine seqQ_n ?_ | refine blockQ_n ?_ | refine awp_skip ?_ | refine awp_seq ?_ | refine awp_block ?_)); (conv => whnf)))
  refine br_ne (fun h => ?_) (fun h => ?_)
  · ((conv => whnf); repeat (refine stepK_in ?_; (repeat (first | refine seqQ_n ?_ | refine blockQ_n ?_ | refine awp_skip ?_ | refine awp_seq ?_ | refine awp_block ?_)); (conv => whnf)))
    refine ⟨fun k hk => ?_, trivial, Eq.trans (Q2 (congrArg (V.agg 2) (funext fun i => ?_)) rfl) (c1 h)⟩
    · have hk : k < 2 := hk
      rcases (by omega : k = 0 ∨ k = 1) with rfl | rfl <;> exact trivial
    · match i with
      | 0 => rfl
      | 1 => rfl
      | _ + 2 => rfl
  obtain ⟨hn, hl1, hl2⟩ := dayE_inv h
  have hs := share_pure l long.toNat hn.1 hn.2.1 (by omega) (by omega) hn.2.2
  rw [show ((long.toNat : Nat) : Int) = long by omega] at hs
  ((conv => whnf); repeat (refine stepK_in ?_; (repeat (first | refine seqQ_n ?_ | refine blockQ_n ?_ | refine awp_skip ?_ | refine awp_seq ?_ | refine awp_block ?_)); (conv => whnf)))
  refine APure.to (APure.arg1 (subCk rfl rfl) hs) ?_
  ((conv => whnf); repeat (refine stepK_in ?_; (repeat (first | refine seqQ_n ?_ | refine blockQ_n ?_ | refine awp_skip ?_ | refine awp_seq ?_ | refine awp_block ?_)); (conv => whnf)))
  refine ⟨fun k hk => ?_, trivial, Eq.trans (Q2 (congrArg (V.agg 2) (funext fun i => ?_)) rfl) (c2 h)⟩
  · have hk : k < 2 := hk
    rcases (by omega : k = 0 ∨ k = 1) with rfl | rfl <;> exact trivial
  · match i with
    | 0 => rfl
    | 1 => rfl
    | _ + 2 => rfl

theorem Plan_pure (l : List Int) (long : Int) : APure Try.prog 26 [.ints false l, .int long] (fun R => R = plV l long) := by
  refine APure_of (X := cx 28) (cx_ok 28) rfl (rs := [(.tmp 4, 22), (.tmp 5, 25)]) Try.func26 (by decide) rfl rfl rfl (by simp [cx]) (by simp [NoFr]) ?_
  intro hlen
  have c1 : dayE l long ≠ 0 → tup2 (.ints true []) (.int (dayE l long)) = plV l long := fun h => by unfold plV; rw [if_neg h]
  have c2 : dayE l long = 0 → tup2 (.ints true (plnL l long (leL l long))) (.int 0) = plV l long := fun h => by unfold plV; rw [if_pos h]
  generalize plV l long = E at *
  ((conv => whnf); repeat (refine stepK_in ?_; (repeat (first | refine seqQ_n ?_ | refine blockQ_n ?_ | refine awp_skip ?_ | refine awp_seq ?_ | refine awp_block ?_)); (conv => whnf)))
  refine APure.to (checkShifts_pure l long) ?_
  ((conv => whnf); repeat (refine stepK_in ?_; (repeat (first | refine seqQ_n ?_ | refine blockQ_n ?_ | refine awp_skip ?_ | refine awp_seq ?_ | refine awp_block ?_)); (conv => whnf)))
  refine br_ne (fun h => ?_) (fun h => ?_)
  · ((conv => whnf); repeat (refine stepK_in ?_; (repeat (first | refine seqQ_n ?_ | refine blockQ_n ?_ | refine awp_skip ?_ | refine awp_seq ?_ | refine awp_block ?_)); (conv => whnf)))
    exact ⟨rfl, trivial, c1 h⟩
  obtain ⟨hn, hl1, hl2⟩ := dayE_inv h
  have hs := least_pure l long.toNat hn.1 hn.2.1 (by omega) (by omega) hn.wide
  have hle := leL_600 (long := long.toNat) hn (by omega) (by omega)
  have hp := plan_pure l long.toNat (leL l long.toNat) hn.1 hn.2.1 (by omega) (by omega) hn.wide (by omega)
  rw [if_pos ((fea_iff hn.1 hn.2.1 (by omega) (by omega) hn.wide (by omega)).2 (leL_fea hn.1 hn.2.1 (by omega) (by omega) hn.wide))] at hp
  rw [show ((long.toNat : Nat) : Int) = long by omega] at hs hp
  ((conv => whnf); repeat (refine stepK_in ?_; (repeat (first | refine seqQ_n ?_ | refine blockQ_n ?_ | refine awp_skip ?_ | refine awp_seq ?_ | refine awp_block ?_)); (conv => whnf)))
  refine AW_draw (X := cx 28) (cx_ok 28) mixed (by kernel_rfl) ?_
  ((conv => whnf); repeat (refine stepK_in ?_; (repeat (first | refine seqQ_n ?_ | refine blockQ_n ?_ | refine awp_skip ?_ | refine awp_seq ?_ | refine awp_block ?_)); (conv => whnf)))
  refine ⟨_, APure.arg1 (subCk rfl rfl) hs, ?_⟩
  ((conv => whnf); repeat (refine stepK_in ?_; (repeat (first | refine seqQ_n ?_ | refine blockQ_n ?_ | refine awp_skip ?_ | refine awp_seq ?_ | refine awp_block ?_)); (conv => whnf)))
  refine ⟨_, APure.arg1 (subTr rfl rfl rfl) hp, ?_⟩
  ((conv => whnf); repeat (refine stepK_in ?_; (repeat (first | refine seqQ_n ?_ | refine blockQ_n ?_ | refine awp_skip ?_ | refine awp_seq ?_ | refine awp_block ?_)); (conv => whnf)))
  exact ⟨rfl, trivial, c2 h⟩

theorem With_pure (l : List Int) (long T : Int) : APure Try.prog 28 [.ints false l, .int long, .int T] (fun R => R = wiV l long T) := by
  refine APure_of (X := cx 32) (cx_ok 32) rfl (rs := [(.tmp 6, 22), (.tmp 7, 25)]) Try.func28 (by decide) rfl rfl rfl (by simp [cx]) (by simp [NoFr]) ?_
  intro hlen
  have c1 : dayE l long ≠ 0 → tup2 (.ints true []) (.int (dayE l long)) = wiV l long T := fun h => by unfold wiV; rw [if_neg h]
  have c2 : dayE l long = 0 → ¬ (0 ≤ T ∧ T ≤ 600) → tup2 (.ints true []) (.int 2) = wiV l long T := fun h h' => by unfold wiV; rw [if_pos h, if_neg h']
  have c3 : dayE l long = 0 → (0 ≤ T ∧ T ≤ 600) → okT l long T = true → tup2 (.ints true (plnL l long T)) (.int 0) = wiV l long T := fun h h' h2 => by unfold wiV; rw [if_pos h, if_pos h', if_pos h2]
  have c4 : dayE l long = 0 → (0 ≤ T ∧ T ≤ 600) → ¬ okT l long T = true → tup2 (.ints true []) (.int 10) = wiV l long T := fun h h' h2 => by unfold wiV; rw [if_pos h, if_pos h', if_neg h2]
  generalize wiV l long T = E at *
  ((conv => whnf); repeat (refine stepK_in ?_; (repeat (first | refine seqQ_n ?_ | refine blockQ_n ?_ | refine awp_skip ?_ | refine awp_seq ?_ | refine awp_block ?_)); (conv => whnf)))
  refine APure.to (checkShifts_pure l long) ?_
  ((conv => whnf); repeat (refine stepK_in ?_; (repeat (first | refine seqQ_n ?_ | refine blockQ_n ?_ | refine awp_skip ?_ | refine awp_seq ?_ | refine awp_block ?_)); (conv => whnf)))
  refine br_ne (fun h => ?_) (fun h => ?_)
  · ((conv => whnf); repeat (refine stepK_in ?_; (repeat (first | refine seqQ_n ?_ | refine blockQ_n ?_ | refine awp_skip ?_ | refine awp_seq ?_ | refine awp_block ?_)); (conv => whnf)))
    exact ⟨rfl, trivial, c1 h⟩
  obtain ⟨hn, hl1, hl2⟩ := dayE_inv h
  ((conv => whnf); repeat (refine stepK_in ?_; (repeat (first | refine seqQ_n ?_ | refine blockQ_n ?_ | refine awp_skip ?_ | refine awp_seq ?_ | refine awp_block ?_)); (conv => whnf)))
  refine APure.to (isMany_pure T) ?_
  ((conv => whnf); repeat (refine stepK_in ?_; (repeat (first | refine seqQ_n ?_ | refine blockQ_n ?_ | refine awp_skip ?_ | refine awp_seq ?_ | refine awp_block ?_)); (conv => whnf)))
  by_cases hT : 0 ≤ T ∧ T ≤ 600
  · rw [decide_eq_true hT]
    have hp := plan_pure l long.toNat T hn.1 hn.2.1 (by omega) (by omega) hn.wide (by omega)
    rw [show ((long.toNat : Nat) : Int) = long by omega] at hp
    ((conv => whnf); repeat (refine stepK_in ?_; (repeat (first | refine seqQ_n ?_ | refine blockQ_n ?_ | refine awp_skip ?_ | refine awp_seq ?_ | refine awp_block ?_)); (conv => whnf)))
    refine APure.to (APure.arg1 (subTr rfl rfl rfl) hp) ?_
    by_cases hok : okT l long T = true
    · rw [if_pos hok]
      ((conv => whnf); repeat (refine stepK_in ?_; (repeat (first | refine seqQ_n ?_ | refine blockQ_n ?_ | refine awp_skip ?_ | refine awp_seq ?_ | refine awp_block ?_)); (conv => whnf)))
      exact ⟨rfl, trivial, c3 h hT hok⟩
    · rw [if_neg hok]
      ((conv => whnf); repeat (refine stepK_in ?_; (repeat (first | refine seqQ_n ?_ | refine blockQ_n ?_ | refine awp_skip ?_ | refine awp_seq ?_ | refine awp_block ?_)); (conv => whnf)))
      exact ⟨rfl, trivial, c4 h hT hok⟩
  · rw [decide_eq_false hT]
    ((conv => whnf); repeat (refine stepK_in ?_; (repeat (first | refine seqQ_n ?_ | refine blockQ_n ?_ | refine awp_skip ?_ | refine awp_seq ?_ | refine awp_block ?_)); (conv => whnf)))
    exact ⟨rfl, trivial, c2 h hT⟩
end Go.Tri
