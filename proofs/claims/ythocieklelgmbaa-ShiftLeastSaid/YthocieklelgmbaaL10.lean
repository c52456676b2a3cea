/-
  LAW: ShiftLeast.
-/
import Derived.Test.YthocieklelgmbaaB20
import Derived.Test.YthocieklelgmbaaE1
namespace Go.Tri
open Go.Proofs

set_option maxRecDepth 100000 in
theorem refShare_pure (l : List Int) (long : Int) : APure Try.prog 25 [.ints false l, .int long] (fun R => R = shV l long) := by
  refine APure_of (X := cx 43) (cx_ok 43) rfl (rs := [(.cell 4 34, 34), (.tmp 5, 25)]) Try.func25 (by decide) rfl rfl rfl (by simp [cx]) (by simp [NoFr]) ?_
  intro hlen
  have c1 : dayE l long ≠ 0 → tup2 (ratV 0 0) (.int (dayE l long)) = shV l long := fun h => by unfold shV; rw [if_neg h]
  have c2 : dayE l long = 0 → tup2 (ratV (shR l long (max 2 (long.toNat + 1))).1 (shR l long (max 2 (long.toNat + 1))).2) (.int 0) = shV l long := fun h => by unfold shV; rw [if_pos h]
  generalize shV l long = E at *
  ((conv => whnf); repeat (refine stepK_in ?_; (repeat (first | refine seqQ_n ?_ | refine blockQ_n ?_ | refine awp_skip ?_ | refine awp_seq ?_ | refine awp_block ?_)); (conv => whnf)))
  refine APure.to (refDay_pure l long) ?_
  ((conv => whnf); repeat (refine stepK_in ?_; (repeat (first | refine seqQ_n ?_ | refine blockQ_n ?_ | refine awp_skip ?_ | refine awp_seq ?_ | refine awp_block ?_)); (conv => whnf)))
  refine br_ne (fun h => ?_) (fun h => ?_)
  · ((conv => whnf); repeat (refine stepK_in ?_; (repeat (first | refine seqQ_n ?_ | refine blockQ_n ?_ | refine awp_skip ?_ | refine awp_seq ?_ | refine awp_block ?_)); (conv => whnf)))
    refine ⟨fun k hk => ?_, trivial, Eq.trans (Q2 (congrArg (V.agg 2) (funext fun i => ?_)) rfl) (c1 h)⟩
    · have hk : k < 2 := hk
      rcases (by omega : k = 0 ∨ k = 1) with rfl | rfl <;> exact trivial
    · match i with
      | 0 => rfl
      | 1 => rfl
      | _ + 2 => rfl
  obtain ⟨hn, hl1, hl2⟩ := dayE_inv h
  obtain ⟨n, rfl⟩ : ∃ n : Nat, long = n := ⟨long.toNat, by omega⟩
  rw [Int.toNat_natCast] at c2
  have n12 := hn.2.1
  have n11 := hn.1
  have hl1 : 1 ≤ n := by omega
  have hl2 : n ≤ l.length := by omega
  have c3 := refleast_pure (t := 1) (long := n) hn (by omega) (by omega) hl1 hl2
  rw [show ((1 : Nat) : Int) = 1 from rfl, mul_id] at c3
  have hle := fun (k : Nat) (h1 : 1 ≤ k) (h2 : k ≤ 12) => refleast_pure hn h1 h2 hl1 hl2
  have hbnd := fun (k : Nat) (h1 : 2 ≤ k) (h2 : k ≤ 13) => shR_bd (long := n) hn.1 hn.2.1 hl1 hl2 hn.2.2 k h1 h2
  have hon := shR_on hn hl1 hl2
  have hlb : ∀ k : Nat, k ≤ 12 → (leL (mul l k) n : Int) ≤ 20000 := fun k hk => by
    have h3 := leL_sum (l := mul l k) (long := n) (by rw [mul_len]; exact hn.1) (by rw [mul_len]; exact hn.2.1) hl1 (by rw [mul_len]; exact hl2) (mul_wide hn hk)
    have h4 := sumL_bd (mul_wide hn hk) _ (Nat.le_refl _)
    rw [mul_len] at h3 h4
    omega
  ((conv => whnf); repeat (refine stepK_in ?_; (repeat (first | refine seqQ_n ?_ | refine blockQ_n ?_ | refine awp_skip ?_ | refine awp_seq ?_ | refine awp_block ?_)); (conv => whnf)))
  refine APure.to c3 ?_
  ((conv => whnf); repeat (refine stepK_in ?_; (repeat (first | refine seqQ_n ?_ | refine blockQ_n ?_ | refine awp_skip ?_ | refine awp_seq ?_ | refine awp_block ?_)); (conv => whnf)))
  refine AW_loop (X := cx 43) (cx_ok 43) [0, 1, 4, 7, 8, 9] (fun vs M => ∃ k : Nat, 2 ≤ k ∧ k ≤ max 2 (l.length + 1) ∧ vs = [.ints false l, .int n, .ptr 0 0 0 0, .int (shR l n k).1, .int (shR l n k).2, .int k] ∧ M = [some ⟨34, 2, 0, .one [.int 0, .int 0]⟩])
    (fun vs _ => 14 - (vs.getD 5 .any).toInt.toNat) ?_ ?_
  · exact ⟨2, Nat.le_refl _, by omega, rfl, rfl⟩
  rintro vs M ⟨k, hk2, hkl, rfl, rfl⟩
  ((conv => whnf); repeat (refine stepK_in ?_; (repeat (first | refine seqQ_n ?_ | refine blockQ_n ?_ | refine awp_skip ?_ | refine awp_seq ?_ | refine awp_block ?_)); (conv => whnf)))
  refine br_dec (fun hlt => ?_) (fun hge => ?_)
  · have hk' : k ≤ l.length := by omega
    have hsb := hbnd k hk2 (by omega)
    have hst := shR_succ l n hk2
    have hle := hle k (by omega) (by omega)
    have hlb2 := hlb k (by omega)
    generalize leL (mul l k) n = a at *
    generalize hsr : shR l n k = r at *
    obtain ⟨x, y⟩ := r
    dsimp only at hst hsb
    have m1 : (0 : Int) ≤ a * y ∧ (a : Int) * y ≤ 20000 * 13 := ⟨Int.mul_nonneg (by omega) (by omega), Int.mul_le_mul hlb2 (by omega) (by omega) (by omega)⟩
    have m2 : (0 : Int) ≤ x * k ∧ x * (k : Int) ≤ 20000 * 13 := ⟨Int.mul_nonneg (by omega) (by omega), Int.mul_le_mul (by omega) (by omega) (by omega) (by omega)⟩
    ((conv => whnf); repeat (refine stepK_in ?_; (repeat (first | refine seqQ_n ?_ | refine blockQ_n ?_ | refine awp_skip ?_ | refine awp_seq ?_ | refine awp_block ?_)); (conv => whnf)))
    refine APure.to hle ?_
    ((conv => whnf); repeat (refine stepK_in ?_; (repeat (first | refine seqQ_n ?_ | refine blockQ_n ?_ | refine awp_skip ?_ | refine awp_seq ?_ | refine awp_block ?_)); (conv => whnf)))
    refine ⟨inr (show -9223372036854775808 ≤ (a : Int) * y ∧ (a : Int) * y ≤ 9223372036854775807 by omega), ?_⟩
    ((conv => whnf); repeat (refine stepK_in ?_; (repeat (first | refine seqQ_n ?_ | refine blockQ_n ?_ | refine awp_skip ?_ | refine awp_seq ?_ | refine awp_block ?_)); (conv => whnf)))
    refine ⟨inr (show -9223372036854775808 ≤ x * (k : Int) ∧ x * (k : Int) ≤ 9223372036854775807 by omega), ?_⟩
    ((conv => whnf); repeat (refine stepK_in ?_; (repeat (first | refine seqQ_n ?_ | refine blockQ_n ?_ | refine awp_skip ?_ | refine awp_seq ?_ | refine awp_block ?_)); (conv => whnf)))
    refine br_dec (fun hb => ?_) (fun hb => ?_)
    · rw [if_pos hb] at hst
      ((conv => whnf); repeat (refine stepK_in ?_; (repeat (first | refine seqQ_n ?_ | refine blockQ_n ?_ | refine awp_skip ?_ | refine awp_seq ?_ | refine awp_block ?_)); (conv => whnf)))
      refine ⟨inr (by omega), ?_⟩
      ((conv => whnf); repeat (refine stepK_in ?_; (repeat (first | refine seqQ_n ?_ | refine blockQ_n ?_ | refine awp_skip ?_ | refine awp_seq ?_ | refine awp_block ?_)); (conv => whnf)))
      refine ⟨⟨k + 1, by omega, by omega, ?_, rfl⟩, ?_⟩
      · rw [hst]; rfl
      · simp [V.toInt, sel, Env.get]; omega
    · rw [if_neg hb] at hst
      ((conv => whnf); repeat (refine stepK_in ?_; (repeat (first | refine seqQ_n ?_ | refine blockQ_n ?_ | refine awp_skip ?_ | refine awp_seq ?_ | refine awp_block ?_)); (conv => whnf)))
      refine ⟨inr (by omega), ?_⟩
      ((conv => whnf); repeat (refine stepK_in ?_; (repeat (first | refine seqQ_n ?_ | refine blockQ_n ?_ | refine awp_skip ?_ | refine awp_seq ?_ | refine awp_block ?_)); (conv => whnf)))
      refine ⟨⟨k + 1, by omega, by omega, ?_, rfl⟩, ?_⟩
      · rw [hst]; rfl
      · simp [V.toInt, sel, Env.get]; omega
  · obtain rfl : k = max 2 (l.length + 1) := by omega
    have hsb := hbnd (max 2 (l.length + 1)) (by omega) (by omega)
    rw [hon (max 2 (l.length + 1)) (by omega) (by omega)] at hsb ⊢
    have hlow := fun (a b : Nat) => shR_low (a := a) (b := b) hn hl1 hl2
    generalize hsr : shR l n (max 2 (n + 1)) = r at *
    obtain ⟨x, y⟩ := r
    dsimp only at hsb
    have c4 := Ratio_pure x.toNat y.toNat (by omega) (by omega) (by omega) (hlow _ _ (by dsimp only; omega) (by dsimp only; omega))
    rw [show ((x.toNat : Nat) : Int) = x by omega, show ((y.toNat : Nat) : Int) = y by omega] at c4
    ((conv => whnf); repeat (refine stepK_in ?_; (repeat (first | refine seqQ_n ?_ | refine blockQ_n ?_ | refine awp_skip ?_ | refine awp_seq ?_ | refine awp_block ?_)); (conv => whnf)))
    refine APure.to c4 ?_
    ((conv => whnf); repeat (refine stepK_in ?_; (repeat (first | refine seqQ_n ?_ | refine blockQ_n ?_ | refine awp_skip ?_ | refine awp_seq ?_ | refine awp_block ?_)); (conv => whnf)))
    refine ⟨fun k hk => ?_, trivial, Eq.trans (Q2 (congrArg (V.agg 2) (funext fun i => ?_)) rfl) (c2 h)⟩
    · have hk : k < 2 := hk
      rcases (by omega : k = 0 ∨ k = 1) with rfl | rfl <;> exact trivial
    · match i with
      | 0 => rfl
      | 1 => rfl
      | _ + 2 => rfl

set_option maxRecDepth 100000 in
theorem ShiftLeast_pure (l : List Int) (long : Int) : APure Try.prog 4 [.ints false l, .int long] (fun R => R = .bool true) := by
  refine APure_of (X := cx 58) (cx_ok 58) rfl (rs := [(.tmp 4, 4)]) Try.func4 (by decide) rfl rfl rfl (by simp [cx]) (by simp [NoFr]) ?_
  intro hlen
  have fin := alive_pure
  have hfew := few_pure l []
  have c1 := Least_pure l long
  have c2 := refLeast_pure l long
  have c3 := Share_pure l long
  have c4 := refShare_pure l long
  obtain ⟨a, e, h1⟩ : ∃ a e, leV l long = tup2 (.int a) (.int e) := by
    unfold leV
    split <;> exact ⟨_, _, rfl⟩
  obtain ⟨x, y, f, h2⟩ : ∃ x y f, shV l long = tup2 (ratV x y) (.int f) := by
    unfold shV
    split <;> exact ⟨_, _, _, rfl⟩
  rw [h1] at c1 c2
  rw [h2] at c3 c4
  ((conv => whnf); repeat (refine stepK_in ?_; (repeat (first | refine seqQ_n ?_ | refine blockQ_n ?_ | refine awp_skip ?_ | refine awp_seq ?_ | refine awp_block ?_)); (conv => whnf)))
  refine APure.to hfew ?_
  by_cases h40 : l.length ≤ 40
  · rw [decide_eq_true (show l.length ≤ 40 ∧ ([] : List Int).length ≤ 100 from ⟨h40, by decide⟩)]
    ((conv => whnf); repeat (refine stepK_in ?_; (repeat (first | refine seqQ_n ?_ | refine blockQ_n ?_ | refine awp_skip ?_ | refine awp_seq ?_ | refine awp_block ?_)); (conv => whnf)))
    refine APure.to c1 ?_
    ((conv => whnf); repeat (refine stepK_in ?_; (repeat (first | refine seqQ_n ?_ | refine blockQ_n ?_ | refine awp_skip ?_ | refine awp_seq ?_ | refine awp_block ?_)); (conv => whnf)))
    refine APure.to c2 ?_
    ((conv => whnf); repeat (refine stepK_in ?_; (repeat (first | refine seqQ_n ?_ | refine blockQ_n ?_ | refine awp_skip ?_ | refine awp_seq ?_ | refine awp_block ?_)); (conv => whnf)))
    rw [show (a != a) = false by simp]
    ((conv => whnf); repeat (refine stepK_in ?_; (repeat (first | refine seqQ_n ?_ | refine blockQ_n ?_ | refine awp_skip ?_ | refine awp_seq ?_ | refine awp_block ?_)); (conv => whnf)))
    rw [show (e != e) = false by simp]
    ((conv => whnf); repeat (refine stepK_in ?_; (repeat (first | refine seqQ_n ?_ | refine blockQ_n ?_ | refine awp_skip ?_ | refine awp_seq ?_ | refine awp_block ?_)); (conv => whnf)))
    refine APure.to c3 ?_
    ((conv => whnf); repeat (refine stepK_in ?_; (repeat (first | refine seqQ_n ?_ | refine blockQ_n ?_ | refine awp_skip ?_ | refine awp_seq ?_ | refine awp_block ?_)); (conv => whnf)))
    refine APure.to c4 ?_
    ((conv => whnf); repeat (refine stepK_in ?_; (repeat (first | refine seqQ_n ?_ | refine blockQ_n ?_ | refine awp_skip ?_ | refine awp_seq ?_ | refine awp_block ?_)); (conv => whnf)))
    rw [show (x == x && (y == y && true)) = true by simp]
    ((conv => whnf); repeat (refine stepK_in ?_; (repeat (first | refine seqQ_n ?_ | refine blockQ_n ?_ | refine awp_skip ?_ | refine awp_seq ?_ | refine awp_block ?_)); (conv => whnf)))
    rw [show (f == f) = true by simp]
    ((conv => whnf); repeat (refine stepK_in ?_; (repeat (first | refine seqQ_n ?_ | refine blockQ_n ?_ | refine awp_skip ?_ | refine awp_seq ?_ | refine awp_block ?_)); (conv => whnf)))
    refine APure.to fin ?_
    ((conv => whnf); repeat (refine stepK_in ?_; (repeat (first | refine seqQ_n ?_ | refine blockQ_n ?_ | refine awp_skip ?_ | refine awp_seq ?_ | refine awp_block ?_)); (conv => whnf)))
    exact ⟨trivial, rfl⟩
  · rw [decide_eq_false (show ¬ (l.length ≤ 40 ∧ ([] : List Int).length ≤ 100) from fun h => h40 h.1)]
    ((conv => whnf); repeat (refine stepK_in ?_; (repeat (first | refine seqQ_n ?_ | refine blockQ_n ?_ | refine awp_skip ?_ | refine awp_seq ?_ | refine awp_block ?_)); (conv => whnf)))
    refine APure.to fin ?_
    ((conv => whnf); repeat (refine stepK_in ?_; (repeat (first | refine seqQ_n ?_ | refine blockQ_n ?_ | refine awp_skip ?_ | refine awp_seq ?_ | refine awp_block ?_)); (conv => whnf)))
    exact ⟨trivial, rfl⟩
end Go.Tri
