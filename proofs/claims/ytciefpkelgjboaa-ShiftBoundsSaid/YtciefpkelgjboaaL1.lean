/-
  LAW: ShiftBounds.
-/
import Derived.Test.YtciefpkelgjboaaE1
namespace Go.Tri
open Go.Proofs

theorem fea_great {l : List Int} {long : Nat} {T : Int} (h : Fea l long T) {y : Nat} (hy : y < l.length) : l.getD y 0 ≤ T := by
  obtain ⟨p, hp⟩ := h
  rw [← hp.size]
  exact Int.le_trans (hp.enough y hy) (cov_le hp.nn y)
theorem cov_total {n long : Nat} (hn : 1 ≤ n) (hl : long ≤ n) (p : Nat → Int) : sm n (fun y => cov n long p y) = long * sm n p := by
  unfold cov
  rw [sm_swap, ← sm_mul]
  refine sm_congr fun x hx => ?_
  have e : sm n (fun y => if arH n ((y : Int) - x) < long then p x else 0) = sm n (fun y => (fun q : Nat => if q < long then p x else 0) (arH n ((y : Int) + (-(x : Int))))) := sm_congr fun y _ => by rw [Int.sub_eq_add_neg]
  rw [e, sm_rotI (fun q : Nat => if q < long then p x else 0) hn, sm_cut (fun _ => p x) hl, sm_const, Int.mul_comm]
theorem fea_total {l : List Int} {long : Nat} {T : Int} (hn : 1 ≤ l.length) (hl : long ≤ l.length) (h : Fea l long T) : sumL l l.length ≤ long * T := by
  obtain ⟨p, hp⟩ := h
  rw [sumL_sm, ← hp.size, ← cov_total hn hl]
  exact sm_le fun y hy => hp.enough y hy
/-- The greatest of the first k. -/
def grL (l : List Int) : Nat → Int
  | 0 => 0
  | k + 1 => maxI (grL l k) (l.getD k 0)
theorem grL_ge (l : List Int) : ∀ k y, y < k → l.getD y 0 ≤ grL l k := by
  intro k
  induction k with
  | zero => intro y hy; omega
  | succ k ih =>
    intro y hy
    simp only [grL]
    rcases (by omega : y < k ∨ y = k) with h | rfl
    · exact Int.le_trans (ih y h) (le_maxI_l _ _)
    · exact le_maxI_r _ _
theorem grL_le (l : List Int) {c : Int} (hc : 0 ≤ c) : ∀ k, (∀ y, y < k → l.getD y 0 ≤ c) → grL l k ≤ c := by
  intro k
  induction k with
  | zero => intro _; exact hc
  | succ k ih =>
    intro h
    simp only [grL]
    exact maxI_le (ih fun y hy => h y (by omega)) (h k (by omega))
theorem grL_nn (l : List Int) : ∀ k, 0 ≤ grL l k := by
  intro k
  induction k with
  | zero => exact Int.le_refl _
  | succ k ih => simp only [grL]; exact Int.le_trans ih (le_maxI_l _ _)
theorem fea_full {l : List Int} (hn : 1 ≤ l.length) : Fea l l.length (grL l l.length) := by
  have hg := grL_nn l l.length
  refine ⟨fun i => if i = 0 then grL l l.length else 0, fun i _ => by split <;> omega, ?_, fun y hy => ?_⟩
  · rw [sm_one (a := 0) _ hn (fun i _ h => if_neg h)]
    rfl
  · refine Int.le_trans (grL_ge l l.length y hy) ?_
    unfold cov
    have := sm_term (k := l.length) (a := 0) (f := fun x : Nat => if arH l.length ((y : Int) - x) < l.length then (if x = 0 then grL l l.length else 0) else 0) (fun i _ => by
      split
      · split <;> omega
      · omega) hn
    rw [if_pos (arH_lt hn _), if_pos rfl] at this
    exact this

structure Bnd (l : List Int) (long : Int) : Prop where
  b1 : grL l l.length ≤ leL l long
  b2 : (sumL l l.length + long - 1).tdiv long ≤ leL l long
  b3 : (leL l l.length : Int) = grL l l.length
  b4 : (leL l 1 : Int) = sumL l l.length
theorem bnd {l : List Int} {long : Int} (h : dayE l long = 0) : Bnd l long := by
  obtain ⟨hn, hl1, hl2⟩ := dayE_inv h
  obtain ⟨n, rfl⟩ : ∃ n : Nat, long = n := ⟨long.toNat, by omega⟩
  have hf := leL_fea (l := l) (long := n) hn.1 hn.2.1 (by omega) (by omega) hn.wide
  have hs := sumL_bd hn.2.2 _ (Nat.le_refl _)
  refine ⟨grL_le l (by omega) _ fun y hy => fea_great hf hy, ?_, ?_, ?_⟩
  · have ht := fea_total hn.1 (by omega) hf
    rw [Int.tdiv_eq_ediv_of_nonneg (by omega)]
    have : (sumL l l.length + n - 1) / (n : Int) < (leL l n : Int) + 1 := Int.ediv_lt_of_lt_mul (by omega) (by rw [Int.add_mul, Int.mul_comm]; omega)
    omega
  · have f1 := leL_fea (l := l) (long := l.length) hn.1 hn.2.1 hn.1 (Nat.le_refl _) hn.wide
    have h1 := leL_least hn.1 hn.2.1 hn.1 (Nat.le_refl _) hn.wide (fea_full hn.1)
    have h2 := grL_le l (c := leL l l.length) (by omega) _ fun y hy => fea_great f1 hy
    omega
  · have f1 := leL_fea (l := l) (long := 1) hn.1 hn.2.1 (by omega) hn.1 hn.wide
    have h1 : (leL l 1 : Int) ≤ sumL l l.length := leL_sum (l := l) (long := 1) hn.1 hn.2.1 (by omega) hn.1 hn.wide
    have h2 : sumL l l.length ≤ 1 * (leL l 1 : Int) := fea_total hn.1 hn.1 f1
    omega

set_option maxRecDepth 100000 in
theorem ShiftBounds_pure (l : List Int) (long : Int) : APure Try.prog 10 [.ints false l, .int long] (fun R => R = .bool true) := by
  refine APure_of (X := cx 98) (cx_ok 98) rfl (rs := [(.tmp 4, 4)]) Try.func10 (by decide) rfl rfl rfl (by simp [cx]) (by simp [NoFr]) ?_
  intro hlen
  have fin := alive_pure
  have hfew := few_pure l []
  ((conv => whnf); repeat (refine stepK_in ?_; (repeat (first | refine seqQ_n ?_ | refine blockQ_n ?_ | refine awp_skip ?_ | refine awp_seq ?_ | refine awp_block ?_)); (conv => whnf)))
  refine APure.to hfew ?_
  by_cases h40 : l.length ≤ 40
  · rw [decide_eq_true (show l.length ≤ 40 ∧ ([] : List Int).length ≤ 100 from ⟨h40, by decide⟩)]
    ((conv => whnf); repeat (refine stepK_in ?_; (repeat (first | refine seqQ_n ?_ | refine blockQ_n ?_ | refine awp_skip ?_ | refine awp_seq ?_ | refine awp_block ?_)); (conv => whnf)))
    refine APure.to (refDay_pure l long) ?_
    ((conv => whnf); repeat (refine stepK_in ?_; (repeat (first | refine seqQ_n ?_ | refine blockQ_n ?_ | refine awp_skip ?_ | refine awp_seq ?_ | refine awp_block ?_)); (conv => whnf)))
    refine br_ne (fun h => ?_) (fun h => ?_)
    · ((conv => whnf); repeat (refine stepK_in ?_; (repeat (first | refine seqQ_n ?_ | refine blockQ_n ?_ | refine awp_skip ?_ | refine awp_seq ?_ | refine awp_block ?_)); (conv => whnf)))
      refine APure.to fin ?_
      ((conv => whnf); repeat (refine stepK_in ?_; (repeat (first | refine seqQ_n ?_ | refine blockQ_n ?_ | refine awp_skip ?_ | refine awp_seq ?_ | refine awp_block ?_)); (conv => whnf)))
      exact ⟨trivial, rfl⟩
    obtain ⟨hn, hl1, hl2⟩ := dayE_inv h
    have hb := bnd h
    have e1 : leV l long = tup2 (.int (leL l long)) (.int 0) := by unfold leV; rw [if_pos h]
    have e2 : leV l l.length = tup2 (.int (leL l l.length)) (.int 0) := by unfold leV; rw [if_pos (dayE_ok hn (by have := hn.1; omega) (Int.le_refl _))]
    have e3 : leV l 1 = tup2 (.int (leL l 1)) (.int 0) := by unfold leV; rw [if_pos (dayE_ok hn (by omega) (by have := hn.1; omega))]
    have c1 := Least_pure l long
    have c2 := Least_pure l l.length
    have c3 := Least_pure l 1
    rw [e1] at c1
    rw [e2] at c2
    rw [e3] at c3
    obtain ⟨b1, b2, b3, b4⟩ := hb
    rw [b3] at c2
    rw [b4] at c3
    have hle := leL_600 (l := l) (long := long.toNat) hn (by omega) (by omega)
    rw [show ((long.toNat : Nat) : Int) = long by omega] at hle
    generalize leL l long = n1 at *
    ((conv => whnf); repeat (refine stepK_in ?_; (repeat (first | refine seqQ_n ?_ | refine blockQ_n ?_ | refine awp_skip ?_ | refine awp_seq ?_ | refine awp_block ?_)); (conv => whnf)))
    refine APure.to c1 ?_
    ((conv => whnf); repeat (refine stepK_in ?_; (repeat (first | refine seqQ_n ?_ | refine blockQ_n ?_ | refine awp_skip ?_ | refine awp_seq ?_ | refine awp_block ?_)); (conv => whnf)))
    refine APure.to c2 ?_
    ((conv => whnf); repeat (refine stepK_in ?_; (repeat (first | refine seqQ_n ?_ | refine blockQ_n ?_ | refine awp_skip ?_ | refine awp_seq ?_ | refine awp_block ?_)); (conv => whnf)))
    refine APure.to c3 ?_
    ((conv => whnf); repeat (refine stepK_in ?_; (repeat (first | refine seqQ_n ?_ | refine blockQ_n ?_ | refine awp_skip ?_ | refine awp_seq ?_ | refine awp_block ?_)); (conv => whnf)))
    refine AW_loop (X := cx 98) (cx_ok 98) [0, 1, 5, 6, 7, 8, 9, 10, 11, 12, 13] (fun vs M => ∃ k : Nat, k ≤ l.length ∧ vs = [.ints false l, .int long, .int n1, .int 0, .int (grL l l.length), .int 0, .int (sumL l l.length), .int 0, .int (grL l k), .int (sumL l k), .int k] ∧ M = [])
      (fun vs _ => l.length - (vs.getD 10 .any).toInt.toNat) ?_ ?_
    · exact ⟨0, Nat.zero_le _, rfl, rfl⟩
    rintro vs M ⟨k, hk, rfl, rfl⟩
    have hsk := sumL_bd hn.2.2 k hk
    have h12 := hn.2.1
    ((conv => whnf); repeat (refine stepK_in ?_; (repeat (first | refine seqQ_n ?_ | refine blockQ_n ?_ | refine awp_skip ?_ | refine awp_seq ?_ | refine awp_block ?_)); (conv => whnf)))
    refine br_dec (fun hlt => ?_) (fun hge => ?_)
    · have hk' : k < l.length := by omega
      have hlk := hn.2.2 k hk'
      have g1 : grL l (k + 1) = maxI (grL l k) (l.getD k 0) := rfl
      have g2 : sumL l (k + 1) = sumL l k + l.getD k 0 := rfl
      generalize grL l k = gk at *
      generalize sumL l k = sk at *
      ((conv => whnf); repeat (refine stepK_in ?_; (repeat (first | refine seqQ_n ?_ | refine blockQ_n ?_ | refine awp_skip ?_ | refine awp_seq ?_ | refine awp_block ?_)); (conv => whnf)))
      repeat ((first | refine ⟨by omega, ?_⟩ | refine ⟨inr (by omega), ?_⟩ | refine ⟨inr (show -9223372036854775808 ≤ sk + l.getD (k : Int).toNat 0 ∧ sk + l.getD (k : Int).toNat 0 ≤ 9223372036854775807 by rw [Int.toNat_natCast]; omega), ?_⟩); ((conv => whnf); repeat (refine stepK_in ?_; (repeat (first | refine seqQ_n ?_ | refine blockQ_n ?_ | refine awp_skip ?_ | refine awp_seq ?_ | refine awp_block ?_)); (conv => whnf))))
      refine ⟨⟨k + 1, by omega, ?_, rfl⟩, ?_⟩
      · rw [g1, g2]; rfl
      · simp [V.toInt, sel, Env.get]; omega
    · obtain rfl : k = l.length := by omega
      have hq : -9223372036854775808 ≤ (sumL l l.length + long - 1).tdiv long := by
        rw [Int.tdiv_eq_ediv_of_nonneg (by omega)]
        have := Int.ediv_nonneg (show 0 ≤ sumL l l.length + long - 1 by omega) (show 0 ≤ long by omega)
        omega
      ((conv => whnf); repeat (refine stepK_in ?_; (repeat (first | refine seqQ_n ?_ | refine blockQ_n ?_ | refine awp_skip ?_ | refine awp_seq ?_ | refine awp_block ?_)); (conv => whnf)))
      refine br_dec (fun _ => ?_) (fun h => absurd (show (n1 : Int) ≥ grL l l.length by omega) h)
      ((conv => whnf); repeat (refine stepK_in ?_; (repeat (first | refine seqQ_n ?_ | refine blockQ_n ?_ | refine awp_skip ?_ | refine awp_seq ?_ | refine awp_block ?_)); (conv => whnf)))
      repeat ((first | refine ⟨by omega, ?_⟩ | refine ⟨inr (by omega), ?_⟩ | refine ⟨inr ⟨hq, by omega⟩, ?_⟩); ((conv => whnf); repeat (refine stepK_in ?_; (repeat (first | refine seqQ_n ?_ | refine blockQ_n ?_ | refine awp_skip ?_ | refine awp_seq ?_ | refine awp_block ?_)); (conv => whnf))))
      refine br_dec (fun _ => ?_) (fun h => absurd (show (n1 : Int) ≥ (sumL l l.length + long - 1).tdiv long by omega) h)
      ((conv => whnf); repeat (refine stepK_in ?_; (repeat (first | refine seqQ_n ?_ | refine blockQ_n ?_ | refine awp_skip ?_ | refine awp_seq ?_ | refine awp_block ?_)); (conv => whnf)))
      refine br_eq (fun _ => ?_) (fun h => absurd rfl h)
      ((conv => whnf); repeat (refine stepK_in ?_; (repeat (first | refine seqQ_n ?_ | refine blockQ_n ?_ | refine awp_skip ?_ | refine awp_seq ?_ | refine awp_block ?_)); (conv => whnf)))
      refine br_eq (fun _ => ?_) (fun h => absurd rfl h)
      ((conv => whnf); repeat (refine stepK_in ?_; (repeat (first | refine seqQ_n ?_ | refine blockQ_n ?_ | refine awp_skip ?_ | refine awp_seq ?_ | refine awp_block ?_)); (conv => whnf)))
      refine APure.to fin ?_
      ((conv => whnf); repeat (refine stepK_in ?_; (repeat (first | refine seqQ_n ?_ | refine blockQ_n ?_ | refine awp_skip ?_ | refine awp_seq ?_ | refine awp_block ?_)); (conv => whnf)))
      exact ⟨trivial, rfl⟩
  · rw [decide_eq_false (show ¬ (l.length ≤ 40 ∧ ([] : List Int).length ≤ 100) from fun h => h40 h.1)]
    ((conv => whnf); repeat (refine stepK_in ?_; (repeat (first | refine seqQ_n ?_ | refine blockQ_n ?_ | refine awp_skip ?_ | refine awp_seq ?_ | refine awp_block ?_)); (conv => whnf)))
    refine APure.to fin ?_
    ((conv => whnf); repeat (refine stepK_in ?_; (repeat (first | refine seqQ_n ?_ | refine blockQ_n ?_ | refine awp_skip ?_ | refine awp_seq ?_ | refine awp_block ?_)); (conv => whnf)))
    exact ⟨trivial, rfl⟩
end Go.Tri
