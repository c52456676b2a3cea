/-
  LAW: ShiftPlans.
-/
import Derived.Test.YthocieklelgmbaaB21
import Derived.Test.YthocieklelgmbaaE1
namespace Go.Tri
open Go.Proofs

theorem refPlan_pure (l : List Int) (long : Int) : APure Try.prog 27 [.ints false l, .int long] (fun R => R = plV l long) := by
  refine APure_of (X := cx 19) (cx_ok 19) rfl (rs := [(.tmp 4, 22), (.tmp 5, 25)]) Try.func27 (by decide) rfl rfl rfl (by simp [cx]) (by simp [NoFr]) ?_
  intro hlen
  have c1 : dayE l long ≠ 0 → tup2 (.ints true []) (.int (dayE l long)) = plV l long := fun h => by unfold plV; rw [if_neg h]
  have c2 : dayE l long = 0 → tup2 (.ints true (plnL l long (leL l long))) (.int 0) = plV l long := fun h => by unfold plV; rw [if_pos h]
  generalize plV l long = E at *
  ((conv => whnf); repeat (refine stepK_in ?_; (repeat (first | refine seqQ_n ?_ | refine blockQ_n ?_ | refine awp_skip ?_ | refine awp_seq ?_ | refine awp_block ?_)); (conv => whnf)))
  refine APure.to (refDay_pure l long) ?_
  ((conv => whnf); repeat (refine stepK_in ?_; (repeat (first | refine seqQ_n ?_ | refine blockQ_n ?_ | refine awp_skip ?_ | refine awp_seq ?_ | refine awp_block ?_)); (conv => whnf)))
  refine br_ne (fun h => ?_) (fun h => ?_)
  · ((conv => whnf); repeat (refine stepK_in ?_; (repeat (first | refine seqQ_n ?_ | refine blockQ_n ?_ | refine awp_skip ?_ | refine awp_seq ?_ | refine awp_block ?_)); (conv => whnf)))
    exact ⟨rfl, trivial, c1 h⟩
  obtain ⟨hn, hl1, hl2⟩ := dayE_inv h
  obtain ⟨n, rfl⟩ : ∃ n : Nat, long = n := ⟨long.toNat, by omega⟩
  have c3 := refleast_pure (t := 1) (long := n) hn (by omega) (by omega) (by omega) (by omega)
  rw [show ((1 : Nat) : Int) = 1 from rfl, mul_id] at c3
  have h6 := leL_600 (long := n) hn (by omega) (by omega)
  have hok := (fea_ok (T := (leL l n : Int)) hn (show 1 ≤ n by omega) (by omega) (by omega)).2 (Int.le_refl _)
  have c4 := first_pure (T := (leL l n : Int)) hn (by omega) (by omega) ⟨by omega, h6⟩ hok
  have c2 := c2 h
  ((conv => whnf); repeat (refine stepK_in ?_; (repeat (first | refine seqQ_n ?_ | refine blockQ_n ?_ | refine awp_skip ?_ | refine awp_seq ?_ | refine awp_block ?_)); (conv => whnf)))
  refine APure.to c3 ?_
  ((conv => whnf); repeat (refine stepK_in ?_; (repeat (first | refine seqQ_n ?_ | refine blockQ_n ?_ | refine awp_skip ?_ | refine awp_seq ?_ | refine awp_block ?_)); (conv => whnf)))
  refine APure.to c4 ?_
  ((conv => whnf); repeat (refine stepK_in ?_; (repeat (first | refine seqQ_n ?_ | refine blockQ_n ?_ | refine awp_skip ?_ | refine awp_seq ?_ | refine awp_block ?_)); (conv => whnf)))
  exact ⟨rfl, trivial, c2⟩

theorem refWith_pure (l : List Int) (long T : Int) : APure Try.prog 29 [.ints false l, .int long, .int T] (fun R => R = wiV l long T) := by
  refine APure_of (X := cx 30) (cx_ok 30) rfl (rs := [(.tmp 6, 22), (.tmp 7, 25)]) Try.func29 (by decide) rfl rfl rfl (by simp [cx]) (by simp [NoFr]) ?_
  intro hlen
  have c1 : dayE l long ≠ 0 → tup2 (.ints true []) (.int (dayE l long)) = wiV l long T := fun h => by unfold wiV; rw [if_neg h]
  have c2 : dayE l long = 0 → ¬ (0 ≤ T ∧ T ≤ 600) → tup2 (.ints true []) (.int 2) = wiV l long T := fun h h' => by unfold wiV; rw [if_pos h, if_neg h']
  have c3 : dayE l long = 0 → (0 ≤ T ∧ T ≤ 600) → okT l long T = false → tup2 (.ints true []) (.int 10) = wiV l long T := fun h h' h2 => by unfold wiV; rw [if_pos h, if_pos h', if_neg (by rw [h2]; exact Bool.false_ne_true)]
  have c4 : dayE l long = 0 → (0 ≤ T ∧ T ≤ 600) → okT l long T = true → tup2 (.ints true (plnL l long T)) (.int 0) = wiV l long T := fun h h' h2 => by unfold wiV; rw [if_pos h, if_pos h', if_pos h2]
  generalize wiV l long T = E at *
  ((conv => whnf); repeat (refine stepK_in ?_; (repeat (first | refine seqQ_n ?_ | refine blockQ_n ?_ | refine awp_skip ?_ | refine awp_seq ?_ | refine awp_block ?_)); (conv => whnf)))
  refine APure.to (refDay_pure l long) ?_
  ((conv => whnf); repeat (refine stepK_in ?_; (repeat (first | refine seqQ_n ?_ | refine blockQ_n ?_ | refine awp_skip ?_ | refine awp_seq ?_ | refine awp_block ?_)); (conv => whnf)))
  refine br_ne (fun h => ?_) (fun h => ?_)
  · ((conv => whnf); repeat (refine stepK_in ?_; (repeat (first | refine seqQ_n ?_ | refine blockQ_n ?_ | refine awp_skip ?_ | refine awp_seq ?_ | refine awp_block ?_)); (conv => whnf)))
    exact ⟨rfl, trivial, c1 h⟩
  obtain ⟨hn, hl1, hl2⟩ := dayE_inv h
  obtain ⟨n, rfl⟩ : ∃ n : Nat, long = n := ⟨long.toNat, by omega⟩
  have c2 := c2 h
  have c3 := c3 h
  have c4 := c4 h
  ((conv => whnf); repeat (refine stepK_in ?_; (repeat (first | refine seqQ_n ?_ | refine blockQ_n ?_ | refine awp_skip ?_ | refine awp_seq ?_ | refine awp_block ?_)); (conv => whnf)))
  refine br_dec (fun hneg => ?_) (fun hnn => ?_)
  · ((conv => whnf); repeat (refine stepK_in ?_; (repeat (first | refine seqQ_n ?_ | refine blockQ_n ?_ | refine awp_skip ?_ | refine awp_seq ?_ | refine awp_block ?_)); (conv => whnf)))
    exact ⟨rfl, trivial, c2 (by omega)⟩
  ((conv => whnf); repeat (refine stepK_in ?_; (repeat (first | refine seqQ_n ?_ | refine blockQ_n ?_ | refine awp_skip ?_ | refine awp_seq ?_ | refine awp_block ?_)); (conv => whnf)))
  refine br_dec (fun hbig => ?_) (fun hsm => ?_)
  · ((conv => whnf); repeat (refine stepK_in ?_; (repeat (first | refine seqQ_n ?_ | refine blockQ_n ?_ | refine awp_skip ?_ | refine awp_seq ?_ | refine awp_block ?_)); (conv => whnf)))
    exact ⟨rfl, trivial, c2 (by omega)⟩
  have c5 := can_least (t := 1) (long := n) (size := T) hn (by omega) (by omega) (by omega) (by omega)
  have hfo := fea_ok (T := T) hn (show 1 ≤ n by omega) (by omega) (by omega)
  rw [show ((1 : Nat) : Int) = 1 from rfl, mul_id] at c5
  ((conv => whnf); repeat (refine stepK_in ?_; (repeat (first | refine seqQ_n ?_ | refine blockQ_n ?_ | refine awp_skip ?_ | refine awp_seq ?_ | refine awp_block ?_)); (conv => whnf)))
  refine APure.to c5 ?_
  cases hok : okT l n T with
  | false =>
    rw [decide_eq_false (fun hle => by rw [hfo.2 hle] at hok; cases hok)]
    ((conv => whnf); repeat (refine stepK_in ?_; (repeat (first | refine seqQ_n ?_ | refine blockQ_n ?_ | refine awp_skip ?_ | refine awp_seq ?_ | refine awp_block ?_)); (conv => whnf)))
    exact ⟨rfl, trivial, c3 (by omega) hok⟩
  | true =>
    rw [decide_eq_true (hfo.1 hok)]
    have c6 := first_pure (T := T) hn (by omega) (by omega) (by omega) hok
    ((conv => whnf); repeat (refine stepK_in ?_; (repeat (first | refine seqQ_n ?_ | refine blockQ_n ?_ | refine awp_skip ?_ | refine awp_seq ?_ | refine awp_block ?_)); (conv => whnf)))
    refine APure.to c6 ?_
    ((conv => whnf); repeat (refine stepK_in ?_; (repeat (first | refine seqQ_n ?_ | refine blockQ_n ?_ | refine awp_skip ?_ | refine awp_seq ?_ | refine awp_block ?_)); (conv => whnf)))
    exact ⟨rfl, trivial, c4 (by omega) hok⟩

set_option maxRecDepth 100000 in
theorem ShiftPlans_pure (l : List Int) (long T : Int) : APure Try.prog 5 [.ints false l, .int long, .int T] (fun R => R = .bool true) := by
  refine APure_of (X := cx 61) (cx_ok 61) rfl (rs := [(.tmp 6, 4)]) Try.func5 (by decide) rfl rfl rfl (by simp [cx]) (by simp [NoFr]) ?_
  intro hlen
  have fin := alive_pure
  have hfew := few_pure l []
  have c1 := Plan_pure l long
  have c2 := refPlan_pure l long
  have c3 := With_pure l long T
  have c4 := refWith_pure l long T
  obtain ⟨P, e, h1⟩ : ∃ P e, plV l long = tup2 (.ints true P) (.int e) := by
    unfold plV
    split <;> exact ⟨_, _, rfl⟩
  obtain ⟨S, f, h2⟩ : ∃ S f, wiV l long T = tup2 (.ints true S) (.int f) := by
    unfold wiV
    split
    · split
      · split <;> exact ⟨_, _, rfl⟩
      · exact ⟨_, _, rfl⟩
    · exact ⟨_, _, rfl⟩
  rw [h1] at c1 c2
  rw [h2] at c3 c4
  have c5 := same_pure P P
  rw [decide_eq_true rfl] at c5
  have c6 := same_pure S S
  rw [decide_eq_true rfl] at c6
  ((conv => whnf); repeat (refine stepK_in ?_; (repeat (first | refine seqQ_n ?_ | refine blockQ_n ?_ | refine awp_skip ?_ | refine awp_seq ?_ | refine awp_block ?_)); (conv => whnf)))
  refine APure.to hfew ?_
  by_cases h40 : l.length ≤ 40
  · rw [decide_eq_true (show l.length ≤ 40 ∧ ([] : List Int).length ≤ 100 from ⟨h40, by decide⟩)]
    ((conv => whnf); repeat (refine stepK_in ?_; (repeat (first | refine seqQ_n ?_ | refine blockQ_n ?_ | refine awp_skip ?_ | refine awp_seq ?_ | refine awp_block ?_)); (conv => whnf)))
    refine APure.to c1 ?_
    ((conv => whnf); repeat (refine stepK_in ?_; (repeat (first | refine seqQ_n ?_ | refine blockQ_n ?_ | refine awp_skip ?_ | refine awp_seq ?_ | refine awp_block ?_)); (conv => whnf)))
    refine APure.to c2 ?_
    ((conv => whnf); repeat (refine stepK_in ?_; (repeat (first | refine seqQ_n ?_ | refine blockQ_n ?_ | refine awp_skip ?_ | refine awp_seq ?_ | refine awp_block ?_)); (conv => whnf)))
    refine APure.to c5 ?_
    ((conv => whnf); repeat (refine stepK_in ?_; (repeat (first | refine seqQ_n ?_ | refine blockQ_n ?_ | refine awp_skip ?_ | refine awp_seq ?_ | refine awp_block ?_)); (conv => whnf)))
    rw [show (e != e) = false by simp]
    ((conv => whnf); repeat (refine stepK_in ?_; (repeat (first | refine seqQ_n ?_ | refine blockQ_n ?_ | refine awp_skip ?_ | refine awp_seq ?_ | refine awp_block ?_)); (conv => whnf)))
    refine APure.to c3 ?_
    ((conv => whnf); repeat (refine stepK_in ?_; (repeat (first | refine seqQ_n ?_ | refine blockQ_n ?_ | refine awp_skip ?_ | refine awp_seq ?_ | refine awp_block ?_)); (conv => whnf)))
    refine APure.to c4 ?_
    ((conv => whnf); repeat (refine stepK_in ?_; (repeat (first | refine seqQ_n ?_ | refine blockQ_n ?_ | refine awp_skip ?_ | refine awp_seq ?_ | refine awp_block ?_)); (conv => whnf)))
    refine APure.to c6 ?_
    ((conv => whnf); repeat (refine stepK_in ?_; (repeat (first | refine seqQ_n ?_ | refine blockQ_n ?_ | refine awp_skip ?_ | refine awp_seq ?_ | refine awp_block ?_)); (conv => whnf)))
    rw [show (f == f) = true by simp]
    ((conv => whnf); repeat (refine stepK_in ?_; (repeat (first | refine seqQ_n ?_ | refine blockQ_n ?_ | refine awp_skip ?_ | refine awp_seq ?_ | refine awp_block ?_)); (conv => whnf)))
    refine APure.to fin ?_
    ((conv => whnf); repeat (refine stepK_in ?_; (repeat (first | refine seqQ_n ?_ | refine blockQ_n ?_ | refine awp_skip ?_ | refine awp_seq ?_ | refine awp_block ?_)); (conv => whnf)))
    exact ⟨trivial, rfl⟩
  · rw [decide_eq_false (show ¬ (l.length ≤ 40 ∧ ([] : List Int).length ≤ 100) from fun h => h40 h.1)]
    ((conv => whnf); repeat (refine stepK_in ?_; (repeat (first | refine seqQ_n ?_ | refine blockQ_n ?_ | refine awp_skip ?_ | refine awp_seq ?_ | refine awp_block ?_)); (conv => whnf)))
    refine APure.to fin ?_
    ((conv => whnf); repeat (refine stepK_in ?_; (repeat (first | refine seqQ_n ?_ | refine blockQ_n ?_ | refine awp_skip ?_ | refine awp_seq ?_ | refine awp_block ?_)); (conv => whnf)))
    exact ⟨trivial, rfl⟩
end Go.Tri
