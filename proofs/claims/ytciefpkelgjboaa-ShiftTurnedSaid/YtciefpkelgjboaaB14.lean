/-
  CONTRACTS: slices.Grow of nil, slices.Concat of two lists, Turned of both.
-/
import Derived.Test.YtciefpkelgjboaaE1
namespace Go.Tri
open Go.Proofs

def wrG : List FuncId := [76]
set_option maxRecDepth 100000 in
theorem Grow_cm (n : Nat) (hn : 1 ≤ n ∧ n ≤ 100) : ACM Try.prog 76 [.emp true, .int n] [] (fun R M' => R = .sl 0 0 0 0 ∧ M' = [some ⟨3, 1, 0, .il (List.replicate n 0)⟩]) := by
  refine ACM_of (T := tab) (wr := wrG) tab_ok Try.func76 (by decide) rfl (Nat.le_of_ble_eq_true rfl) (fun nb => ?_)
  ((conv => whnf); repeat (refine stepK_in ?_; (repeat (first | refine seqQ_n ?_ | refine blockQ_n ?_ | refine awp_skip ?_ | refine awp_seq ?_ | refine awp_block ?_)); (conv => whnf)))
  refine ⟨inr (by omega), ?_⟩
  ((conv => whnf); repeat (refine stepK_in ?_; (repeat (first | refine seqQ_n ?_ | refine blockQ_n ?_ | refine awp_skip ?_ | refine awp_seq ?_ | refine awp_block ?_)); (conv => whnf)))
  refine ⟨inr (by omega), ?_⟩
  rw [show (n : Int) - (0 - 0) = n by omega]
  ((conv => whnf); repeat (refine stepK_in ?_; (repeat (first | refine seqQ_n ?_ | refine blockQ_n ?_ | refine awp_skip ?_ | refine awp_seq ?_ | refine awp_block ?_)); (conv => whnf)))
  refine br_dec (fun _ => ?_) (fun h => absurd (show (n : Int) > 0 by omega) h)
  ((conv => whnf); repeat (refine stepK_in ?_; (repeat (first | refine seqQ_n ?_ | refine blockQ_n ?_ | refine awp_skip ?_ | refine awp_seq ?_ | refine awp_block ?_)); (conv => whnf)))
  refine ⟨by decide, ?_⟩
  refine ⟨by decide, ?_⟩
  refine ⟨by decide, ?_⟩
  ((conv => whnf); repeat (refine stepK_in ?_; (repeat (first | refine seqQ_n ?_ | refine blockQ_n ?_ | refine awp_skip ?_ | refine awp_seq ?_ | refine awp_block ?_)); (conv => whnf)))
  refine ⟨(show (0 : Int) < (n : Int) by omega), ?_⟩
  refine ⟨(show (8 : Int) * (n : Int) ≤ 140737488355328 by omega), ?_⟩
  rw [Int.toNat_natCast]
  ((conv => whnf); repeat (refine stepK_in ?_; (repeat (first | refine seqQ_n ?_ | refine blockQ_n ?_ | refine awp_skip ?_ | refine awp_seq ?_ | refine awp_block ?_)); (conv => whnf)))
  refine ⟨(show (0 : Int) ≤ 0 by decide), ?_⟩
  refine ⟨(show (0 : Int) ≤ 0 by decide), ?_⟩
  refine ⟨(show (0 : Int) ≤ (n : Int) by omega), ?_⟩
  ((conv => whnf); repeat (refine stepK_in ?_; (repeat (first | refine seqQ_n ?_ | refine blockQ_n ?_ | refine awp_skip ?_ | refine awp_seq ?_ | refine awp_block ?_)); (conv => whnf)))
  exact ⟨_, rfl, rfl, rfl⟩

@[reducible] def catF (A B : List Int) : Nat → Nat → V := fun j _ => match j with | 0 => .ints false A | _ => .ints false B
@[reducible] def catV (A B : List Int) : V := .seq false 1 2 (catF A B)
theorem nofrCat {A B : List Int} : NoFr (catV A B) := ⟨rfl, fun j k => by unfold catF; split <;> rfl⟩
def totC (A B : List Int) : Nat → Nat
  | 0 => 0
  | 1 => A.length
  | _ => A.length + B.length
def catL (A B : List Int) : Nat → List Int
  | 0 => []
  | 1 => A
  | _ => A ++ B
set_option maxRecDepth 100000 in
theorem Concat_pure (A B : List Int) (h : 1 ≤ A.length + B.length ∧ A.length + B.length ≤ 100) : APure Try.prog 57 [catV A B] (fun R => R = .ints true (A ++ B)) := by
  refine APure_of (X := ⟨Try.prog, tab, wrG, 36, 0, false⟩) tab_ok rfl (rs := [(.tmp 2, 22)]) Try.func57 (by decide) rfl rfl rfl (by simp) (nofr1 nofrCat) ?_
  intro hlen
  ((conv => whnf); repeat (refine stepK_in ?_; (repeat (first | refine seqQ_n ?_ | refine blockQ_n ?_ | refine awp_skip ?_ | refine awp_seq ?_ | refine awp_block ?_)); (conv => whnf)))
  refine AW_loop (X := ⟨Try.prog, tab, wrG, 36, 0, false⟩) tab_ok [0, 3, 9, 10, 11] (fun vs M => ∃ k : Nat, k ≤ 2 ∧ vs = [catV A B, .int (totC A B k), catV A B, .int 2, .int k] ∧ M = [])
    (fun vs _ => 2 - (vs.getD 4 .any).toInt.toNat) ?_ ?_
  · exact ⟨0, Nat.zero_le _, rfl, rfl⟩
  rintro vs M ⟨k, hk, rfl, rfl⟩
  rcases (by omega : k = 0 ∨ k = 1 ∨ k = 2) with rfl | rfl | rfl
  · ((conv => whnf); repeat (refine stepK_in ?_; (repeat (first | refine seqQ_n ?_ | refine blockQ_n ?_ | refine awp_skip ?_ | refine awp_seq ?_ | refine awp_block ?_)); (conv => whnf)))
    repeat ((first | refine ⟨by omega, ?_⟩); ((conv => whnf); repeat (refine stepK_in ?_; (repeat (first | refine seqQ_n ?_ | refine blockQ_n ?_ | refine awp_skip ?_ | refine awp_seq ?_ | refine awp_block ?_)); (conv => whnf))))
    refine ⟨inr (show -9223372036854775808 ≤ ((0 : Nat) : Int) + (A.length : Int) ∧ ((0 : Nat) : Int) + (A.length : Int) ≤ 9223372036854775807 by omega), ?_⟩
    ((conv => whnf); repeat (refine stepK_in ?_; (repeat (first | refine seqQ_n ?_ | refine blockQ_n ?_ | refine awp_skip ?_ | refine awp_seq ?_ | refine awp_block ?_)); (conv => whnf)))
    refine ⟨inr (by decide), ?_⟩
    ((conv => whnf); repeat (refine stepK_in ?_; (repeat (first | refine seqQ_n ?_ | refine blockQ_n ?_ | refine awp_skip ?_ | refine awp_seq ?_ | refine awp_block ?_)); (conv => whnf)))
    refine ⟨⟨1, by omega, ?_, rfl⟩, ?_⟩
    · rw [show ((totC A B 1 : Nat) : Int) = ((0 : Nat) : Int) + (A.length : Int) by simp [totC]]; rfl
    · simp [V.toInt, sel, Env.get]
  · ((conv => whnf); repeat (refine stepK_in ?_; (repeat (first | refine seqQ_n ?_ | refine blockQ_n ?_ | refine awp_skip ?_ | refine awp_seq ?_ | refine awp_block ?_)); (conv => whnf)))
    repeat ((first | refine ⟨by omega, ?_⟩); ((conv => whnf); repeat (refine stepK_in ?_; (repeat (first | refine seqQ_n ?_ | refine blockQ_n ?_ | refine awp_skip ?_ | refine awp_seq ?_ | refine awp_block ?_)); (conv => whnf))))
    refine ⟨inr (show -9223372036854775808 ≤ (A.length : Int) + (B.length : Int) ∧ (A.length : Int) + (B.length : Int) ≤ 9223372036854775807 by omega), ?_⟩
    ((conv => whnf); repeat (refine stepK_in ?_; (repeat (first | refine seqQ_n ?_ | refine blockQ_n ?_ | refine awp_skip ?_ | refine awp_seq ?_ | refine awp_block ?_)); (conv => whnf)))
    refine ⟨inr (by decide), ?_⟩
    ((conv => whnf); repeat (refine stepK_in ?_; (repeat (first | refine seqQ_n ?_ | refine blockQ_n ?_ | refine awp_skip ?_ | refine awp_seq ?_ | refine awp_block ?_)); (conv => whnf)))
    refine ⟨⟨2, by omega, ?_, rfl⟩, ?_⟩
    · rw [show ((totC A B 2 : Nat) : Int) = (A.length : Int) + (B.length : Int) by simp [totC]]; rfl
    · simp [V.toInt, sel, Env.get]
  · have hg := Grow_cm (A.length + B.length) h
    ((conv => whnf); repeat (refine stepK_in ?_; (repeat (first | refine seqQ_n ?_ | refine blockQ_n ?_ | refine awp_skip ?_ | refine awp_seq ?_ | refine awp_block ?_)); (conv => whnf)))
    refine hg.mono ?_
    rintro R M' ⟨rfl, rfl⟩
    ((conv => whnf); repeat (refine stepK_in ?_; (repeat (first | refine seqQ_n ?_ | refine blockQ_n ?_ | refine awp_skip ?_ | refine awp_seq ?_ | refine awp_block ?_)); (conv => whnf)))
    refine AW_loop (X := ⟨Try.prog, tab, wrG, 36, 0, false⟩) tab_ok [6, 25, 26, 27] (fun vs M => ∃ (k ver : Nat) (xs : List Int), k ≤ 2 ∧ vs = [.sl 0 ver 0 (totC A B k), catV A B, .int 2, .int k] ∧ M = [some ⟨3, 1, ver, .il xs⟩] ∧ xs.take (totC A B k) = catL A B k)
      (fun vs _ => 2 - (vs.getD 3 .any).toInt.toNat) ?_ ?_
    · exact ⟨0, 0, _, Nat.zero_le _, rfl, rfl, rfl⟩
    rintro vs M ⟨k, ver, xs, hk, rfl, rfl, hxs⟩
    rcases (by omega : k = 0 ∨ k = 1 ∨ k = 2) with rfl | rfl | rfl
    · ((conv => whnf); repeat (refine stepK_in ?_; (repeat (first | refine seqQ_n ?_ | refine blockQ_n ?_ | refine awp_skip ?_ | refine awp_seq ?_ | refine awp_block ?_)); (conv => whnf)))
      repeat ((first | refine ⟨by omega, ?_⟩); ((conv => whnf); repeat (refine stepK_in ?_; (repeat (first | refine seqQ_n ?_ | refine blockQ_n ?_ | refine awp_skip ?_ | refine awp_seq ?_ | refine awp_block ?_)); (conv => whnf))))
      refine eqn_self ?_
      ((conv => whnf); repeat (refine stepK_in ?_; (repeat (first | refine seqQ_n ?_ | refine blockQ_n ?_ | refine awp_skip ?_ | refine awp_seq ?_ | refine awp_block ?_)); (conv => whnf)))
      refine ⟨(show (8 : Int) * (((0 : Nat) : Int) + (A.length : Int)) ≤ 140737488355328 by omega), ?_⟩
      ((conv => whnf); repeat (refine stepK_in ?_; (repeat (first | refine seqQ_n ?_ | refine blockQ_n ?_ | refine awp_skip ?_ | refine awp_seq ?_ | refine awp_block ?_)); (conv => whnf)))
      refine ⟨inr (by decide), ?_⟩
      ((conv => whnf); repeat (refine stepK_in ?_; (repeat (first | refine seqQ_n ?_ | refine blockQ_n ?_ | refine awp_skip ?_ | refine awp_seq ?_ | refine awp_block ?_)); (conv => whnf)))
      refine ⟨⟨1, ver + 1, xs.take 0 ++ A, by omega, ?_, rfl, ?_⟩, ?_⟩
      · rw [show totC A B 1 = 0 + A.length by simp [totC]]; rfl
      · simp [totC, catL]
      · simp [V.toInt, sel, Env.get]
    · ((conv => whnf); repeat (refine stepK_in ?_; (repeat (first | refine seqQ_n ?_ | refine blockQ_n ?_ | refine awp_skip ?_ | refine awp_seq ?_ | refine awp_block ?_)); (conv => whnf)))
      repeat ((first | refine ⟨by omega, ?_⟩); ((conv => whnf); repeat (refine stepK_in ?_; (repeat (first | refine seqQ_n ?_ | refine blockQ_n ?_ | refine awp_skip ?_ | refine awp_seq ?_ | refine awp_block ?_)); (conv => whnf))))
      refine eqn_self ?_
      ((conv => whnf); repeat (refine stepK_in ?_; (repeat (first | refine seqQ_n ?_ | refine blockQ_n ?_ | refine awp_skip ?_ | refine awp_seq ?_ | refine awp_block ?_)); (conv => whnf)))
      refine ⟨(show (8 : Int) * ((A.length : Int) + (B.length : Int)) ≤ 140737488355328 by omega), ?_⟩
      ((conv => whnf); repeat (refine stepK_in ?_; (repeat (first | refine seqQ_n ?_ | refine blockQ_n ?_ | refine awp_skip ?_ | refine awp_seq ?_ | refine awp_block ?_)); (conv => whnf)))
      refine ⟨inr (by decide), ?_⟩
      ((conv => whnf); repeat (refine stepK_in ?_; (repeat (first | refine seqQ_n ?_ | refine blockQ_n ?_ | refine awp_skip ?_ | refine awp_seq ?_ | refine awp_block ?_)); (conv => whnf)))
      have hxs : xs.take A.length = A := hxs
      have hl := congrArg List.length hxs
      rw [List.length_take] at hl
      refine ⟨⟨2, ver + 1, xs.take A.length ++ B, by omega, rfl, rfl, ?_⟩, ?_⟩
      · rw [hxs]
        show (A ++ B).take (A.length + B.length) = A ++ B
        exact List.take_of_length_le (by simp)
      · simp [V.toInt, sel, Env.get]
    · ((conv => whnf); repeat (refine stepK_in ?_; (repeat (first | refine seqQ_n ?_ | refine blockQ_n ?_ | refine awp_skip ?_ | refine awp_seq ?_ | refine awp_block ?_)); (conv => whnf)))
      have hxs : xs.take (A.length + B.length) = A ++ B := hxs
      refine eqn_self ?_
      refine ⟨rfl, Ql ?_⟩
      rw [List.drop_zero]
      exact hxs
/-- The needs, beginning with another hour. -/
def tuL (l : List Int) (by_ : Int) : List Int := l.drop (arH l.length by_) ++ l.take (arH l.length by_)
noncomputable def tuV (l : List Int) (by_ : Int) : V := if ndsE l = 0 then tup2 (.ints true (tuL l by_)) (.int 0) else tup2 (.ints true []) (.int (ndsE l))
theorem clockG0 {l : List Int} : Sub (.agg 2 fun k => byvalN [] 4 ([V.ints false l, V.int 0].getD k .any)) (clockV l 0) := subCk rfl rfl

set_option maxRecDepth 100000 in
theorem Turned_pure (l : List Int) (b : Int) (hb : -9223372036854775808 ≤ b ∧ b ≤ 9223372036854775807) : APure Try.prog 33 [.ints false l, .int b] (fun R => R = tuV l b) := by
  refine APure_of (X := cx 25) (cx_ok 25) rfl (rs := [(.tmp 4, 22), (.tmp 5, 25)]) Try.func33 (by decide) rfl rfl rfl (by simp [cx]) (by simp [NoFr]) ?_
  intro hlen
  have c1 : ndsE l ≠ 0 → tup2 (.ints true []) (.int (ndsE l)) = tuV l b := fun h => by unfold tuV; rw [if_neg h]
  have c2 : ndsE l = 0 → tup2 (.ints true (tuL l b)) (.int 0) = tuV l b := fun h => by unfold tuV; rw [if_pos h]
  generalize tuV l b = E at *
  ((conv => whnf); repeat (refine stepK_in ?_; (repeat (first | refine seqQ_n ?_ | refine blockQ_n ?_ | refine awp_skip ?_ | refine awp_seq ?_ | refine awp_block ?_)); (conv => whnf)))
  refine APure.to (checkNeeds_pure l) ?_
  ((conv => whnf); repeat (refine stepK_in ?_; (repeat (first | refine seqQ_n ?_ | refine blockQ_n ?_ | refine awp_skip ?_ | refine awp_seq ?_ | refine awp_block ?_)); (conv => whnf)))
  refine br_ne (fun h => ?_) (fun h => ?_)
  · ((conv => whnf); repeat (refine stepK_in ?_; (repeat (first | refine seqQ_n ?_ | refine blockQ_n ?_ | refine awp_skip ?_ | refine awp_seq ?_ | refine awp_block ?_)); (conv => whnf)))
    exact ⟨rfl, trivial, c1 h⟩
  have hn := ndsE_inv h
  have n11 := hn.1
  have n12 := hn.2.1
  have har := arH_lt n11 b
  have ha := around_pure l 0 b n11 n12 hb
  have c2 := c2 h
  unfold tuL at c2
  generalize arH l.length b = q at *
  have hcc : APure Try.prog 57 [catV ((l.drop (q : Int).toNat).take ((l.length : Int).toNat - (q : Int).toNat)) ((l.drop (0 : Int).toNat).take ((q : Int).toNat - (0 : Int).toNat))] (fun R => R = .ints true (l.drop q ++ l.take q)) := by
    have e1 : (l.drop (q : Int).toNat).take ((l.length : Int).toNat - (q : Int).toNat) = l.drop q := by
      rw [Int.toNat_natCast]
      exact List.take_of_length_le (by rw [List.length_drop]; omega)
    have e2 : (l.drop (0 : Int).toNat).take ((q : Int).toNat - (0 : Int).toNat) = l.take q := by
      rw [Int.toNat_natCast]
      rfl
    rw [e1, e2]
    exact Concat_pure _ _ (by rw [List.length_drop, List.length_take]; omega)
  ((conv => whnf); repeat (refine stepK_in ?_; (repeat (first | refine seqQ_n ?_ | refine blockQ_n ?_ | refine awp_skip ?_ | refine awp_seq ?_ | refine awp_block ?_)); (conv => whnf)))
  refine APure.to (APure.arg2 (subCk rfl rfl) (Sub.refl _) ha) ?_
  ((conv => whnf); repeat (refine stepK_in ?_; (repeat (first | refine seqQ_n ?_ | refine blockQ_n ?_ | refine awp_skip ?_ | refine awp_seq ?_ | refine awp_block ?_)); (conv => whnf)))
  refine AW_draw (X := cx 25) (cx_ok 25) mixed (by kernel_rfl) ?_
  ((conv => whnf); repeat (refine stepK_in ?_; (repeat (first | refine seqQ_n ?_ | refine blockQ_n ?_ | refine awp_skip ?_ | refine awp_seq ?_ | refine awp_block ?_)); (conv => whnf)))
  refine ⟨(show (0 : Int) ≤ (q : Int) by omega), ?_⟩
  refine ⟨(show (q : Int) ≤ (l.length : Int) by omega), ?_⟩
  refine ⟨(show (l.length : Int) ≤ (l.length : Int) by omega), ?_⟩
  ((conv => whnf); repeat (refine stepK_in ?_; (repeat (first | refine seqQ_n ?_ | refine blockQ_n ?_ | refine awp_skip ?_ | refine awp_seq ?_ | refine awp_block ?_)); (conv => whnf)))
  refine ⟨(show (0 : Int) ≤ 0 by decide), ?_⟩
  refine ⟨(show (0 : Int) ≤ (q : Int) by omega), ?_⟩
  refine ⟨(show (q : Int) ≤ (l.length : Int) by omega), ?_⟩
  ((conv => whnf); repeat (refine stepK_in ?_; (repeat (first | refine seqQ_n ?_ | refine blockQ_n ?_ | refine awp_skip ?_ | refine awp_seq ?_ | refine awp_block ?_)); (conv => whnf)))
  refine ⟨_, APure.arg1 (sub_seq fun j k hj hk => ?_) hcc, ?_⟩
  · have hj : j < 2 := hj
    rcases (by omega : j = 0 ∨ j = 1) with rfl | rfl <;> exact Sub.refl _
  ((conv => whnf); repeat (refine stepK_in ?_; (repeat (first | refine seqQ_n ?_ | refine blockQ_n ?_ | refine awp_skip ?_ | refine awp_seq ?_ | refine awp_block ?_)); (conv => whnf)))
  exact ⟨rfl, trivial, c2⟩

set_option maxRecDepth 100000 in
theorem refTurned_pure (l : List Int) (b : Int) (_hb : -9223372036854775808 ≤ b ∧ b ≤ 9223372036854775807) : APure Try.prog 34 [.ints false l, .int b] (fun R => R = tuV l b) := by
  refine APure_of (X := cx 34) (cx_ok 34) rfl (rs := [(.tmp 4, 22), (.tmp 5, 25)]) Try.func34 (by decide) rfl rfl rfl (by simp [cx]) (by simp [NoFr]) ?_
  intro hlen
  have c1 : ndsE l ≠ 0 → tup2 (.ints true []) (.int (ndsE l)) = tuV l b := fun h => by unfold tuV; rw [if_neg h]
  have c2 : ndsE l = 0 → tup2 (.ints true (tuL l b)) (.int 0) = tuV l b := fun h => by unfold tuV; rw [if_pos h]
  generalize tuV l b = E at *
  ((conv => whnf); repeat (refine stepK_in ?_; (repeat (first | refine seqQ_n ?_ | refine blockQ_n ?_ | refine awp_skip ?_ | refine awp_seq ?_ | refine awp_block ?_)); (conv => whnf)))
  refine APure.to (refNeeds_pure l) ?_
  ((conv => whnf); repeat (refine stepK_in ?_; (repeat (first | refine seqQ_n ?_ | refine blockQ_n ?_ | refine awp_skip ?_ | refine awp_seq ?_ | refine awp_block ?_)); (conv => whnf)))
  refine br_ne (fun h => ?_) (fun h => ?_)
  · ((conv => whnf); repeat (refine stepK_in ?_; (repeat (first | refine seqQ_n ?_ | refine blockQ_n ?_ | refine awp_skip ?_ | refine awp_seq ?_ | refine awp_block ?_)); (conv => whnf)))
    exact ⟨rfl, trivial, c1 h⟩
  have hn := ndsE_inv h
  have n11 := hn.1
  have n12 := hn.2.1
  have har := arH_lt n11 b
  have c2 := c2 h
  unfold tuL at c2
  have hp : (0 : Int) < l.length := by omega
  have t1 := Int.tmod_lt_of_pos b hp
  have t2 : -(l.length : Int) < b.tmod l.length := Int.lt_tmod_of_pos b hp
  have t3 := ar_go n11 b
  rw [← arH_val n11] at t3
  generalize arH l.length b = q at *
  obtain ⟨m, hm⟩ : ∃ m, b.tmod l.length = m := ⟨_, rfl⟩
  rw [hm] at t1 t2 t3
  have hq1 : m < 0 → m + l.length = q := fun h => by rw [← t3, Int.tmod_eq_of_lt (by omega) (by omega)]
  have hq2 : ¬ m < 0 → m = q := fun h => by
    rw [Int.tmod_eq_emod_of_nonneg (by omega), Int.add_emod_right, Int.emod_eq_of_lt (by omega) (by omega)] at t3
    exact t3
  have e1 : (l.drop (q : Int).toNat).take ((l.length : Int).toNat - (q : Int).toNat) = l.drop q := by
    rw [Int.toNat_natCast]
    exact List.take_of_length_le (by rw [List.length_drop]; omega)
  have e2 : (l.drop (0 : Int).toNat).take ((q : Int).toNat - (0 : Int).toNat) = l.take q := by
    rw [Int.toNat_natCast]
    rfl
  have hA1 : (8 : Int) * (((l.drop (q : Int).toNat).take ((l.length : Int).toNat - (q : Int).toNat)).length : Int) ≤ 140737488355328 := by
    rw [e1, List.length_drop]; omega
  have hA2 : (8 : Int) * ((((l.drop (q : Int).toNat).take ((l.length : Int).toNat - (q : Int).toNat)).length : Int) + (((l.drop (0 : Int).toNat).take ((q : Int).toNat - (0 : Int).toNat)).length : Int)) ≤ 140737488355328 := by
    rw [e1, e2, List.length_drop, List.length_take]; omega
  have hE : (((((l.drop (q : Int).toNat).take ((l.length : Int).toNat - (q : Int).toNat)).take ((l.drop (q : Int).toNat).take ((l.length : Int).toNat - (q : Int).toNat)).length ++ (l.drop (0 : Int).toNat).take ((q : Int).toNat - (0 : Int).toNat)).drop 0).take (((l.drop (q : Int).toNat).take ((l.length : Int).toNat - (q : Int).toNat)).length + ((l.drop (0 : Int).toNat).take ((q : Int).toNat - (0 : Int).toNat)).length)) = l.drop q ++ l.take q := by
    rw [e1, e2, List.take_length, List.drop_zero, List.take_of_length_le (by rw [List.length_append]; exact Nat.le_refl _)]
  ((conv => whnf); repeat (refine stepK_in ?_; (repeat (first | refine seqQ_n ?_ | refine blockQ_n ?_ | refine awp_skip ?_ | refine awp_seq ?_ | refine awp_block ?_)); (conv => whnf)))
  refine ⟨(show (l.length : Int) ≠ 0 by omega), ?_⟩
  rw [hm]
  ((conv => whnf); repeat (refine stepK_in ?_; (repeat (first | refine seqQ_n ?_ | refine blockQ_n ?_ | refine awp_skip ?_ | refine awp_seq ?_ | refine awp_block ?_)); (conv => whnf)))
  refine br_dec (fun h => ?_) (fun h => ?_)
  · ((conv => whnf); repeat (refine stepK_in ?_; (repeat (first | refine seqQ_n ?_ | refine blockQ_n ?_ | refine awp_skip ?_ | refine awp_seq ?_ | refine awp_block ?_)); (conv => whnf)))
    refine ⟨inr (by omega), ?_⟩
    rw [hq1 h]
    ((conv => whnf); repeat (refine stepK_in ?_; (repeat (first | refine seqQ_n ?_ | refine blockQ_n ?_ | refine awp_skip ?_ | refine awp_seq ?_ | refine awp_block ?_)); (conv => whnf)))
    refine ⟨(show (0 : Int) ≤ (q : Int) by omega), ?_⟩
    refine ⟨(show (q : Int) ≤ (l.length : Int) by omega), ?_⟩
    refine ⟨(show (l.length : Int) ≤ (l.length : Int) by omega), ?_⟩
    ((conv => whnf); repeat (refine stepK_in ?_; (repeat (first | refine seqQ_n ?_ | refine blockQ_n ?_ | refine awp_skip ?_ | refine awp_seq ?_ | refine awp_block ?_)); (conv => whnf)))
    refine ⟨hA1, ?_⟩
    ((conv => whnf); repeat (refine stepK_in ?_; (repeat (first | refine seqQ_n ?_ | refine blockQ_n ?_ | refine awp_skip ?_ | refine awp_seq ?_ | refine awp_block ?_)); (conv => whnf)))
    refine ⟨(show (0 : Int) ≤ 0 by decide), ?_⟩
    refine ⟨(show (0 : Int) ≤ (q : Int) by omega), ?_⟩
    refine ⟨(show (q : Int) ≤ (l.length : Int) by omega), ?_⟩
    ((conv => whnf); repeat (refine stepK_in ?_; (repeat (first | refine seqQ_n ?_ | refine blockQ_n ?_ | refine awp_skip ?_ | refine awp_seq ?_ | refine awp_block ?_)); (conv => whnf)))
    refine ⟨hA2, ?_⟩
    ((conv => whnf); repeat (refine stepK_in ?_; (repeat (first | refine seqQ_n ?_ | refine blockQ_n ?_ | refine awp_skip ?_ | refine awp_seq ?_ | refine awp_block ?_)); (conv => whnf)))
    exact ⟨rfl, trivial, Eq.trans (Q2 (Ql hE) rfl) c2⟩
  · have h2 := hq2 h
    subst h2
    ((conv => whnf); repeat (refine stepK_in ?_; (repeat (first | refine seqQ_n ?_ | refine blockQ_n ?_ | refine awp_skip ?_ | refine awp_seq ?_ | refine awp_block ?_)); (conv => whnf)))
    refine ⟨(show (0 : Int) ≤ (q : Int) by omega), ?_⟩
    refine ⟨(show (q : Int) ≤ (l.length : Int) by omega), ?_⟩
    refine ⟨(show (l.length : Int) ≤ (l.length : Int) by omega), ?_⟩
    ((conv => whnf); repeat (refine stepK_in ?_; (repeat (first | refine seqQ_n ?_ | refine blockQ_n ?_ | refine awp_skip ?_ | refine awp_seq ?_ | refine awp_block ?_)); (conv => whnf)))
    refine ⟨hA1, ?_⟩
    ((conv => whnf); repeat (refine stepK_in ?_; (repeat (first | refine seqQ_n ?_ | refine blockQ_n ?_ | refine awp_skip ?_ | refine awp_seq ?_ | refine awp_block ?_)); (conv => whnf)))
    refine ⟨(show (0 : Int) ≤ 0 by decide), ?_⟩
    refine ⟨(show (0 : Int) ≤ (q : Int) by omega), ?_⟩
    refine ⟨(show (q : Int) ≤ (l.length : Int) by omega), ?_⟩
    ((conv => whnf); repeat (refine stepK_in ?_; (repeat (first | refine seqQ_n ?_ | refine blockQ_n ?_ | refine awp_skip ?_ | refine awp_seq ?_ | refine awp_block ?_)); (conv => whnf)))
    refine ⟨hA2, ?_⟩
    ((conv => whnf); repeat (refine stepK_in ?_; (repeat (first | refine seqQ_n ?_ | refine blockQ_n ?_ | refine awp_skip ?_ | refine awp_seq ?_ | refine awp_block ?_)); (conv => whnf)))
    exact ⟨rfl, trivial, Eq.trans (Q2 (Ql hE) rfl) c2⟩
end Go.Tri
