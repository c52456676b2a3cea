/-
  CONTRACTS: Worth of the reference.
-/
import Derived.Test.YthocieklelgmbaaB12
import Derived.Test.YthocieklelgmbaaB10
import Derived.Test.YthocieklelgmbaaB2
namespace Go.Tri
open Go.Proofs

/-- How often each hour is among the first j elements of a proof. -/
def mnL (n : Nat) (pr : List Int) (j : Nat) : List Int := (List.range n).map fun (y : Nat) => sm j (fun i => if pr.getD i 0 = (y : Int) then 1 else 0)
theorem mn_len (n : Nat) (pr : List Int) (j : Nat) : (mnL n pr j).length = n := by simp [mnL]
theorem mn_get {n : Nat} {pr : List Int} {j y : Nat} (hy : y < n) : (mnL n pr j).getD y 0 = sm j (fun i => if pr.getD i 0 = (y : Int) then 1 else 0) := by
  unfold mnL
  rw [List.getD, List.getElem?_map, List.getElem?_range hy]
  rfl
theorem mn_zero (n : Nat) (pr : List Int) : List.replicate n (0 : Int) = mnL n pr 0 := by
  refine ext_getD (by rw [mn_len, List.length_replicate]) (fun q hq => ?_)
  rw [List.length_replicate] at hq
  rw [mn_get hq]
  simp [List.getD, hq, sm]
theorem mn_set {n : Nat} {pr : List Int} {k y : Nat} (hy : y < n) (hp : pr.getD k 0 = (y : Int)) : (mnL n pr k).set y ((mnL n pr k).getD y 0 + 1) = mnL n pr (k + 1) := by
  refine ext_getD (by rw [List.length_set, mn_len, mn_len]) (fun q hq => ?_)
  rw [List.length_set, mn_len] at hq
  rw [getD_set' _ _ _ _ (by rw [mn_len]; exact hy), mn_get hy, mn_get hq, mn_get hq]
  simp only [sm]
  rw [hp]
  by_cases h : q = y
  · subst h; rw [if_pos rfl, if_pos rfl]
  · rw [if_neg h, if_neg (by omega)]; omega
theorem mn_bd {n : Nat} {pr : List Int} {y : Nat} (hy : y < n) : ∀ j, 0 ≤ (mnL n pr j).getD y 0 ∧ (mnL n pr j).getD y 0 ≤ j := by
  intro j
  rw [mn_get hy]
  induction j with
  | zero => simp [sm]
  | succ j ih =>
    simp only [sm]
    split <;> omega
theorem one_hit {n y : Nat} (hy : y < n) (s : Int) : ∀ long : Nat, long ≤ n → sm long (fun k => if (y : Int) = (arH n (s + k) : Nat) then (1 : Int) else 0) = if arH n ((y : Int) - s) < long then 1 else 0 := by
  intro long
  have hn : 1 ≤ n := by omega
  induction long with
  | zero => intro _; rfl
  | succ k ih =>
    intro hk
    simp only [sm]
    rw [ih (by omega)]
    have e : (y : Int) = (arH n (s + k) : Nat) ↔ arH n ((y : Int) - s) = k := by
      constructor
      · intro h
        rw [h, show ((arH n (s + k) : Nat) : Int) - s = -s + (arH n (s + k) : Nat) by omega, arH_shift hn, show -s + (s + (k : Int)) = (k : Nat) by omega, arH_small (by omega)]
      · intro h
        rw [← h, arH_shift hn, show s + ((y : Int) - s) = (y : Nat) by omega, arH_small hy]
    by_cases h : arH n ((y : Int) - s) = k
    · rw [if_neg (by omega), if_pos (e.2 h), if_pos (by omega)]; rfl
    · rw [if_neg (fun h' => h (e.1 h'))]
      by_cases h2 : arH n ((y : Int) - s) < k
      · rw [if_pos h2, if_pos (by omega)]; rfl
      · rw [if_neg h2, if_neg (by omega)]; rfl
theorem mn_sum {n long m : Nat} {pr : List Int} (hn : 1 ≤ n) (hl : long ≤ n) (hp : ∀ i, i < m → 0 ≤ pr.getD i 0 ∧ pr.getD i 0 < n) (s : Nat) : sm long (fun k => (mnL n pr m).getD (arH n ((s : Int) + k)) 0) = cnL n long pr s m := by
  rw [sm_congr (k := long) (g := fun k => sm m (fun i => if pr.getD i 0 = ((arH n ((s : Int) + k) : Nat) : Int) then (1 : Int) else 0)) fun k _ => mn_get (arH_lt hn _), sm_swap]
  unfold cnL
  refine sm_congr fun i hi => ?_
  have h := hp i hi
  obtain ⟨y, hy⟩ : ∃ y : Nat, pr.getD i 0 = y := ⟨(pr.getD i 0).toNat, by omega⟩
  rw [hy]
  exact one_hit (by omega) s long hl
theorem mn_part {n : Nat} {pr : List Int} {m : Nat} (hn : 1 ≤ n) (s : Nat) : ∀ j : Nat, 0 ≤ sm j (fun k => (mnL n pr m).getD (arH n ((s : Int) + k)) 0) ∧ sm j (fun k => (mnL n pr m).getD (arH n ((s : Int) + k)) 0) ≤ m * j := by
  intro j
  constructor
  · exact sm_nn fun i _ => (mn_bd (arH_lt hn _) m).1
  · rw [← sm_const]
    exact sm_le fun i _ => (mn_bd (arH_lt hn _) m).2

set_option maxRecDepth 100000 in
open Classical in
theorem refWorth_pure (l : List Int) (long : Int) (pr : List Int) : APure Try.prog 31 [.ints false l, .int long, .ints false pr] (fun R => R = woV l long pr) := by
  refine APure_of (X := cx 102) (cx_ok 102) rfl (rs := [(.tmp 6, 3), (.tmp 7, 25)]) Try.func31 (by decide) rfl rfl rfl (by simp [cx]) (by simp [NoFr]) ?_
  intro hlen
  have c1 : dayE l long ≠ 0 → tup2 (.int 0) (.int (dayE l long)) = woV l long pr := fun h => by unfold woV; rw [if_neg h]
  have c2 : dayE l long = 0 → ¬ isPr l.length pr → tup2 (.int 0) (.int 2) = woV l long pr := fun h h' => by unfold woV; rw [if_pos h, if_neg h']
  have c3 : dayE l long = 0 → isPr l.length pr → tup2 (.int (wtL l long.toNat pr)) (.int 0) = woV l long pr := fun h h' => by unfold woV; rw [if_pos h, if_pos h']
  generalize woV l long pr = E at *
  ((conv => whnf); repeat (refine stepK_in ?_; (repeat (first | refine seqQ_n ?_ | refine blockQ_n ?_ | refine awp_skip ?_ | refine awp_seq ?_ | refine awp_block ?_)); (conv => whnf)))
  refine APure.to (refDay_pure l long) ?_
  ((conv => whnf); repeat (refine stepK_in ?_; (repeat (first | refine seqQ_n ?_ | refine blockQ_n ?_ | refine awp_skip ?_ | refine awp_seq ?_ | refine awp_block ?_)); (conv => whnf)))
  refine br_ne (fun h => ?_) (fun h => ?_)
  · ((conv => whnf); repeat (refine stepK_in ?_; (repeat (first | refine seqQ_n ?_ | refine blockQ_n ?_ | refine awp_skip ?_ | refine awp_seq ?_ | refine awp_block ?_)); (conv => whnf)))
    exact ⟨trivial, trivial, c1 h⟩
  obtain ⟨hn, hl1, hl2⟩ := dayE_inv h
  obtain ⟨n, rfl⟩ : ∃ n : Nat, long = n := ⟨long.toNat, by omega⟩
  rw [Int.toNat_natCast] at c3
  have n11 := hn.1
  have n12 := hn.2.1
  have c2 := c2 h
  have c3 := c3 h
  ((conv => whnf); repeat (refine stepK_in ?_; (repeat (first | refine seqQ_n ?_ | refine blockQ_n ?_ | refine awp_skip ?_ | refine awp_seq ?_ | refine awp_block ?_)); (conv => whnf)))
  by_cases hz : pr.length = 0
  · rw [show ((pr.length : Int) == 0) = true by simp [hz]]
    ((conv => whnf); repeat (refine stepK_in ?_; (repeat (first | refine seqQ_n ?_ | refine blockQ_n ?_ | refine awp_skip ?_ | refine awp_seq ?_ | refine awp_block ?_)); (conv => whnf)))
    exact ⟨trivial, trivial, c2 fun hp => by have := hp.1; omega⟩
  rw [show ((pr.length : Int) == 0) = false by simp [hz]]
  ((conv => whnf); repeat (refine stepK_in ?_; (repeat (first | refine seqQ_n ?_ | refine blockQ_n ?_ | refine awp_skip ?_ | refine awp_seq ?_ | refine awp_block ?_)); (conv => whnf)))
  refine br_dec (fun hb => ?_) (fun hb => ?_)
  · ((conv => whnf); repeat (refine stepK_in ?_; (repeat (first | refine seqQ_n ?_ | refine blockQ_n ?_ | refine awp_skip ?_ | refine awp_seq ?_ | refine awp_block ?_)); (conv => whnf)))
    exact ⟨trivial, trivial, c2 fun hp => by have := hp.2.1; omega⟩
  have hm : pr.length ≤ 60 := by omega
  ((conv => whnf); repeat (refine stepK_in ?_; (repeat (first | refine seqQ_n ?_ | refine blockQ_n ?_ | refine awp_skip ?_ | refine awp_seq ?_ | refine awp_block ?_)); (conv => whnf)))
  refine ⟨(show (0 : Int) ≤ (l.length : Int) by omega), ?_⟩
  refine ⟨(show (l.length : Int) ≤ (l.length : Int) by omega), ?_⟩
  refine ⟨(show (8 : Int) * (l.length : Int) ≤ 140737488355328 by omega), ?_⟩
  rw [Int.toNat_natCast]
  ((conv => whnf); repeat (refine stepK_in ?_; (repeat (first | refine seqQ_n ?_ | refine blockQ_n ?_ | refine awp_skip ?_ | refine awp_seq ?_ | refine awp_block ?_)); (conv => whnf)))
  refine AW_loop (X := cx 102) (cx_ok 102) [0, 1, 2, 9, 10, 11] (fun vs M => ∃ k : Nat, k ≤ pr.length ∧ (∀ i, i < k → 0 ≤ pr.getD i 0 ∧ pr.getD i 0 < l.length) ∧ vs = [.ints false l, .int n, .ints false pr, .int (ndL l pr k), .sl 0 0 0 l.length, .int k] ∧ M = [some ⟨3, 1, 0, .il (mnL l.length pr k)⟩])
    (fun vs _ => pr.length - (vs.getD 5 .any).toInt.toNat) ?_ ?_
  · exact ⟨0, Nat.zero_le _, fun i hi => absurd hi (by omega), rfl, congrArg (fun f => [some (⟨3, 1, 0, .il f⟩ : Ob)]) (mn_zero _ _)⟩
  rintro vs M ⟨k, hk, hin, rfl, rfl⟩
  ((conv => whnf); repeat (refine stepK_in ?_; (repeat (first | refine seqQ_n ?_ | refine blockQ_n ?_ | refine awp_skip ?_ | refine awp_seq ?_ | refine awp_block ?_)); (conv => whnf)))
  refine br_dec (fun hlt => ?_) (fun hge => ?_)
  · have hk' : k < pr.length := by omega
    have hnx : ndL l pr (k + 1) = ndL l pr k + l.getD (pr.getD k 0).toNat 0 := rfl
    have hml := mn_len l.length pr k
    obtain ⟨x, hx⟩ : ∃ x, pr.getD k 0 = x := ⟨_, rfl⟩
    have hxt : pr.getD (k : Int).toNat 0 = x := by rw [Int.toNat_natCast]; exact hx
    ((conv => whnf); repeat (refine stepK_in ?_; (repeat (first | refine seqQ_n ?_ | refine blockQ_n ?_ | refine awp_skip ?_ | refine awp_seq ?_ | refine awp_block ?_)); (conv => whnf)))
    refine ⟨(show (0 : Int) ≤ (k : Int) by omega), ?_⟩
    refine ⟨(show (k : Int) < (pr.length : Int) by omega), ?_⟩
    ((conv => whnf); repeat (refine stepK_in ?_; (repeat (first | refine seqQ_n ?_ | refine blockQ_n ?_ | refine awp_skip ?_ | refine awp_seq ?_ | refine awp_block ?_)); (conv => whnf)))
    rw [hxt]
    by_cases hx0 : x < 0
    · rw [decide_eq_true hx0]
      ((conv => whnf); repeat (refine stepK_in ?_; (repeat (first | refine seqQ_n ?_ | refine blockQ_n ?_ | refine awp_skip ?_ | refine awp_seq ?_ | refine awp_block ?_)); (conv => whnf)))
      exact ⟨trivial, trivial, c2 fun hp => by have := hp.2.2 k hk'; omega⟩
    rw [decide_eq_false hx0]
    ((conv => whnf); repeat (refine stepK_in ?_; (repeat (first | refine seqQ_n ?_ | refine blockQ_n ?_ | refine awp_skip ?_ | refine awp_seq ?_ | refine awp_block ?_)); (conv => whnf)))
    refine ⟨(show (0 : Int) ≤ (k : Int) by omega), ?_⟩
    refine ⟨(show (k : Int) < (pr.length : Int) by omega), ?_⟩
    ((conv => whnf); repeat (refine stepK_in ?_; (repeat (first | refine seqQ_n ?_ | refine blockQ_n ?_ | refine awp_skip ?_ | refine awp_seq ?_ | refine awp_block ?_)); (conv => whnf)))
    rw [hxt]
    refine br_dec (fun hx1 => ?_) (fun hx1 => ?_)
    · ((conv => whnf); repeat (refine stepK_in ?_; (repeat (first | refine seqQ_n ?_ | refine blockQ_n ?_ | refine awp_skip ?_ | refine awp_seq ?_ | refine awp_block ?_)); (conv => whnf)))
      exact ⟨trivial, trivial, c2 fun hp => by have := hp.2.2 k hk'; omega⟩
    have hx1 : x < l.length := by omega
    obtain ⟨y, rfl⟩ : ∃ y : Nat, x = y := ⟨x.toNat, by omega⟩
    have hin' : ∀ i, i < k + 1 → 0 ≤ pr.getD i 0 ∧ pr.getD i 0 < l.length := fun i hi => by
      rcases (by omega : i < k ∨ i = k) with h3 | rfl
      · exact hin i h3
      · omega
    have hst := mn_set (k := k) (show y < l.length by omega) hx
    have hbd := mn_bd (pr := pr) (show y < l.length by omega) k
    have hnb : 0 ≤ ndL l pr k ∧ ndL l pr k ≤ 50 * k := by
      have : ∀ j, j ≤ k → 0 ≤ ndL l pr j ∧ ndL l pr j ≤ 50 * j := by
        intro j
        induction j with
        | zero => intro _; simp [ndL, sm]
        | succ j ih =>
          intro hj
          have h1 := ih (by omega)
          have h2 := hin j (by omega)
          have h3 := hn.2.2 (pr.getD j 0).toNat (by omega)
          have h4 : ndL l pr (j + 1) = ndL l pr j + l.getD (pr.getD j 0).toNat 0 := rfl
          omega
      exact this k (Nat.le_refl _)
    have hly := hn.2.2 y (by omega)
    rw [hx, Int.toNat_natCast] at hnx
    generalize ndL l pr k = s at *
    generalize mnL l.length pr k = m at *
    ((conv => whnf); repeat (refine stepK_in ?_; (repeat (first | refine seqQ_n ?_ | refine blockQ_n ?_ | refine awp_skip ?_ | refine awp_seq ?_ | refine awp_block ?_)); (conv => whnf)))
    refine ⟨(show (0 : Int) ≤ (k : Int) by omega), ?_⟩
    refine ⟨(show (k : Int) < (pr.length : Int) by omega), ?_⟩
    ((conv => whnf); repeat (refine stepK_in ?_; (repeat (first | refine seqQ_n ?_ | refine blockQ_n ?_ | refine awp_skip ?_ | refine awp_seq ?_ | refine awp_block ?_)); (conv => whnf)))
    rw [hxt]
    refine ⟨(show (0 : Int) ≤ (y : Int) by omega), ?_⟩
    refine ⟨(show (y : Int) < (l.length : Int) by omega), ?_⟩
    ((conv => whnf); repeat (refine stepK_in ?_; (repeat (first | refine seqQ_n ?_ | refine blockQ_n ?_ | refine awp_skip ?_ | refine awp_seq ?_ | refine awp_block ?_)); (conv => whnf)))
    refine ⟨inr (show -9223372036854775808 ≤ s + l.getD (y : Int).toNat 0 ∧ s + l.getD (y : Int).toNat 0 ≤ 9223372036854775807 by rw [Int.toNat_natCast]; omega), ?_⟩
    ((conv => whnf); repeat (refine stepK_in ?_; (repeat (first | refine seqQ_n ?_ | refine blockQ_n ?_ | refine awp_skip ?_ | refine awp_seq ?_ | refine awp_block ?_)); (conv => whnf)))
    refine ⟨(show (0 : Int) ≤ (k : Int) by omega), ?_⟩
    refine ⟨(show (k : Int) < (pr.length : Int) by omega), ?_⟩
    ((conv => whnf); repeat (refine stepK_in ?_; (repeat (first | refine seqQ_n ?_ | refine blockQ_n ?_ | refine awp_skip ?_ | refine awp_seq ?_ | refine awp_block ?_)); (conv => whnf)))
    rw [hxt]
    refine ⟨(show (0 : Int) ≤ (y : Int) by omega), ?_⟩
    refine ⟨(show (y : Int) < (l.length : Int) by omega), ?_⟩
    ((conv => whnf); repeat (refine stepK_in ?_; (repeat (first | refine seqQ_n ?_ | refine blockQ_n ?_ | refine awp_skip ?_ | refine awp_seq ?_ | refine awp_block ?_)); (conv => whnf)))
    refine ⟨inr (show -9223372036854775808 ≤ m.getD (0 + (y : Int).toNat) 0 + 1 ∧ m.getD (0 + (y : Int).toNat) 0 + 1 ≤ 9223372036854775807 by rw [Int.toNat_natCast, Nat.zero_add]; omega), ?_⟩
    ((conv => whnf); repeat (refine stepK_in ?_; (repeat (first | refine seqQ_n ?_ | refine blockQ_n ?_ | refine awp_skip ?_ | refine awp_seq ?_ | refine awp_block ?_)); (conv => whnf)))
    refine ⟨(show (0 : Int) ≤ (y : Int) by omega), ?_⟩
    refine ⟨(show (y : Int) < (l.length : Int) by omega), ?_⟩
    ((conv => whnf); repeat (refine stepK_in ?_; (repeat (first | refine seqQ_n ?_ | refine blockQ_n ?_ | refine awp_skip ?_ | refine awp_seq ?_ | refine awp_block ?_)); (conv => whnf)))
    refine ⟨inr (by omega), ?_⟩
    ((conv => whnf); repeat (refine stepK_in ?_; (repeat (first | refine seqQ_n ?_ | refine blockQ_n ?_ | refine awp_skip ?_ | refine awp_seq ?_ | refine awp_block ?_)); (conv => whnf)))
    refine ⟨⟨k + 1, by omega, hin', ?_, ?_⟩, ?_⟩
    · rw [hnx, Int.toNat_natCast]; rfl
    · rw [← hst]
      exact congrArg (fun f => [some (⟨3, 1, 0, .il f⟩ : Ob)]) (show m.set (0 + (y : Int).toNat) (m.getD (0 + (y : Int).toNat) 0 + 1) = m.set y (m.getD y 0 + 1) by rw [Int.toNat_natCast, Nat.zero_add])
    · simp [V.toInt, sel, Env.get]; omega
  · obtain rfl : k = pr.length := by omega
    have hpr : isPr l.length pr := ⟨by omega, hm, fun q hq => by have := hin q hq; omega⟩
    have c3 := c3 hpr
    have hrp := rcL_pos (n := l.length) (long := n) (by omega) hpr
    have hnb := (ndL_bd n11 hn.2.2 hpr.2.2 pr.length (Nat.le_refl _))
    have hrl := rcL_bd l.length n pr
    have hwt : wtL l n pr = (ndL l pr pr.length + rcL l.length n pr l.length - 1).tdiv (rcL l.length n pr l.length) := rfl
    have hmn := mn_part (n := l.length) (pr := pr) (m := pr.length) n11
    have hms := mn_sum (n := l.length) (long := n) (m := pr.length) n11 (by omega) hin
    have hml := mn_len l.length pr pr.length
    have hmb := fun (y : Nat) (hy : y < l.length) => mn_bd (pr := pr) hy pr.length
    rw [hwt] at c3
    generalize ndL l pr pr.length = S at *
    generalize mnL l.length pr pr.length = m at *
    ((conv => whnf); repeat (refine stepK_in ?_; (repeat (first | refine seqQ_n ?_ | refine blockQ_n ?_ | refine awp_skip ?_ | refine awp_seq ?_ | refine awp_block ?_)); (conv => whnf)))
    refine AW_loop (X := cx 102) (cx_ok 102) [0, 1, 9, 10, 12, 13] (fun vs M => ∃ s : Nat, s ≤ l.length ∧ vs = [.ints false l, .int n, .int S, .sl 0 0 0 l.length, .int (rcL l.length n pr s), .int s] ∧ M = [some ⟨3, 1, 0, .il m⟩])
      (fun vs _ => l.length - (vs.getD 5 .any).toInt.toNat) ?_ ?_
    · exact ⟨0, Nat.zero_le _, rfl, rfl⟩
    rintro vs M ⟨s, hs, rfl, rfl⟩
    ((conv => whnf); repeat (refine stepK_in ?_; (repeat (first | refine seqQ_n ?_ | refine blockQ_n ?_ | refine awp_skip ?_ | refine awp_seq ?_ | refine awp_block ?_)); (conv => whnf)))
    refine br_dec (fun hlt2 => ?_) (fun hge2 => ?_)
    · have hs' : s < l.length := by omega
      have hnx : rcL l.length n pr (s + 1) = maxI (rcL l.length n pr s) (cnL l.length n pr s pr.length) := rfl
      rw [← hms s] at hnx
      have hmn := hmn s
      generalize rcL l.length n pr s = r at *
      ((conv => whnf); repeat (refine stepK_in ?_; (repeat (first | refine seqQ_n ?_ | refine blockQ_n ?_ | refine awp_skip ?_ | refine awp_seq ?_ | refine awp_block ?_)); (conv => whnf)))
      refine AW_loop (X := cx 102) (cx_ok 102) [0, 1, 9, 10, 12, 13, 14, 15] (fun vs M => ∃ j : Nat, j ≤ n ∧ vs = [.ints false l, .int n, .int S, .sl 0 0 0 l.length, .int r, .int s, .int (sm j (fun k => m.getD (arH l.length ((s : Int) + k)) 0)), .int j] ∧ M = [some ⟨3, 1, 0, .il m⟩])
        (fun vs _ => n - (vs.getD 7 .any).toInt.toNat) ?_ ?_
      · exact ⟨0, Nat.zero_le _, rfl, rfl⟩
      rintro vs M ⟨j, hj, rfl, rfl⟩
      ((conv => whnf); repeat (refine stepK_in ?_; (repeat (first | refine seqQ_n ?_ | refine blockQ_n ?_ | refine awp_skip ?_ | refine awp_seq ?_ | refine awp_block ?_)); (conv => whnf)))
      refine br_dec (fun hlt3 => ?_) (fun hge3 => ?_)
      · have hj' : j < n := by omega
        have hq : ((s : Int) + j).tmod l.length = arH l.length ((s : Int) + j) := by rw [Int.tmod_eq_emod_of_nonneg (by omega), arH_val n11]
        have hal := arH_lt n11 ((s : Int) + j)
        have hmj := hmn j
        have hmy := hmb _ hal
        have hsj : sm (j + 1) (fun k => m.getD (arH l.length ((s : Int) + k)) 0) = sm j (fun k => m.getD (arH l.length ((s : Int) + k)) 0) + m.getD (arH l.length ((s : Int) + j)) 0 := rfl
        have hjb : pr.length * (j : Int) ≤ 60 * 12 := Int.mul_le_mul (by omega) (by omega) (by omega) (by omega)
        generalize sm j (fun k => m.getD (arH l.length ((s : Int) + k)) 0) = x at *
        generalize arH l.length ((s : Int) + j) = a at *
        ((conv => whnf); repeat (refine stepK_in ?_; (repeat (first | refine seqQ_n ?_ | refine blockQ_n ?_ | refine awp_skip ?_ | refine awp_seq ?_ | refine awp_block ?_)); (conv => whnf)))
        refine ⟨inr (by omega), ?_⟩
        ((conv => whnf); repeat (refine stepK_in ?_; (repeat (first | refine seqQ_n ?_ | refine blockQ_n ?_ | refine awp_skip ?_ | refine awp_seq ?_ | refine awp_block ?_)); (conv => whnf)))
        refine ⟨(show (l.length : Int) ≠ 0 by omega), ?_⟩
        rw [hq]
        ((conv => whnf); repeat (refine stepK_in ?_; (repeat (first | refine seqQ_n ?_ | refine blockQ_n ?_ | refine awp_skip ?_ | refine awp_seq ?_ | refine awp_block ?_)); (conv => whnf)))
        refine ⟨(show (0 : Int) ≤ (a : Int) by omega), ?_⟩
        refine ⟨(show (a : Int) < (l.length : Int) by omega), ?_⟩
        ((conv => whnf); repeat (refine stepK_in ?_; (repeat (first | refine seqQ_n ?_ | refine blockQ_n ?_ | refine awp_skip ?_ | refine awp_seq ?_ | refine awp_block ?_)); (conv => whnf)))
        refine ⟨inr (show -9223372036854775808 ≤ x + m.getD (0 + (a : Int).toNat) 0 ∧ x + m.getD (0 + (a : Int).toNat) 0 ≤ 9223372036854775807 by rw [Int.toNat_natCast, Nat.zero_add]; omega), ?_⟩
        ((conv => whnf); repeat (refine stepK_in ?_; (repeat (first | refine seqQ_n ?_ | refine blockQ_n ?_ | refine awp_skip ?_ | refine awp_seq ?_ | refine awp_block ?_)); (conv => whnf)))
        refine ⟨inr (by omega), ?_⟩
        ((conv => whnf); repeat (refine stepK_in ?_; (repeat (first | refine seqQ_n ?_ | refine blockQ_n ?_ | refine awp_skip ?_ | refine awp_seq ?_ | refine awp_block ?_)); (conv => whnf)))
        refine ⟨⟨j + 1, by omega, ?_, rfl⟩, ?_⟩
        · rw [hsj, show x + m.getD a 0 = x + m.getD (0 + (a : Int).toNat) 0 by rw [Int.toNat_natCast, Nat.zero_add]]; rfl
        · simp [V.toInt, sel, Env.get]; omega
      · obtain rfl : j = n := by omega
        ((conv => whnf); repeat (refine stepK_in ?_; (repeat (first | refine seqQ_n ?_ | refine blockQ_n ?_ | refine awp_skip ?_ | refine awp_seq ?_ | refine awp_block ?_)); (conv => whnf)))
        refine ⟨inr (by omega), ?_⟩
        ((conv => whnf); repeat (refine stepK_in ?_; (repeat (first | refine seqQ_n ?_ | refine blockQ_n ?_ | refine awp_skip ?_ | refine awp_seq ?_ | refine awp_block ?_)); (conv => whnf)))
        refine ⟨⟨s + 1, by omega, ?_, rfl⟩, ?_⟩
        · rw [hnx]; rfl
        · simp [V.toInt, sel, Env.get]; omega
    · obtain rfl : s = l.length := by omega
      ((conv => whnf); repeat (refine stepK_in ?_; (repeat (first | refine seqQ_n ?_ | refine blockQ_n ?_ | refine awp_skip ?_ | refine awp_seq ?_ | refine awp_block ?_)); (conv => whnf)))
      have hrl := hrl l.length
      generalize rcL l.length n pr l.length = r at *
      refine ⟨inr (by omega), ?_⟩
      ((conv => whnf); repeat (refine stepK_in ?_; (repeat (first | refine seqQ_n ?_ | refine blockQ_n ?_ | refine awp_skip ?_ | refine awp_seq ?_ | refine awp_block ?_)); (conv => whnf)))
      refine ⟨inr (by omega), ?_⟩
      ((conv => whnf); repeat (refine stepK_in ?_; (repeat (first | refine seqQ_n ?_ | refine blockQ_n ?_ | refine awp_skip ?_ | refine awp_seq ?_ | refine awp_block ?_)); (conv => whnf)))
      have hq : -9223372036854775808 ≤ (S + r - 1).tdiv r ∧ (S + r - 1).tdiv r ≤ 9223372036854775807 := by
        have h0 : 0 ≤ S + r - 1 := by omega
        rw [Int.tdiv_eq_ediv_of_nonneg h0]
        have := Int.ediv_nonneg h0 (show 0 ≤ r by omega)
        have := Int.ediv_le_self r h0
        omega
      refine ⟨(show r ≠ 0 by omega), ?_⟩
      refine ⟨inr hq, ?_⟩
      ((conv => whnf); repeat (refine stepK_in ?_; (repeat (first | refine seqQ_n ?_ | refine blockQ_n ?_ | refine awp_skip ?_ | refine awp_seq ?_ | refine awp_block ?_)); (conv => whnf)))
      exact ⟨trivial, trivial, c3⟩
end Go.Tri
