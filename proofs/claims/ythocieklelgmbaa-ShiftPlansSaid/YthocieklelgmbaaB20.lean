/-
  CONTRACTS: the reference's divisor and ratio; its least, Least and Share.
-/
import Derived.Test.YthocieklelgmbaaB19
import Derived.Test.YthocieklelgmbaaB11
import Derived.Test.YthocieklelgmbaaM10
namespace Go.Tri
open Go.Proofs

theorem tmod_nat (p q : Nat) : ((p : Int).tmod (q : Int)) = ((p % q : Nat) : Int) := by
  rw [Int.ofNat_tmod]
theorem gcd_step (p q : Nat) : Nat.gcd q (p % q) = Nat.gcd p q := by
  rw [Nat.gcd_comm q, ← Nat.gcd_rec, Nat.gcd_comm]
theorem maxI_neg {p : Nat} : maxI (p : Int) (-(p : Int)) = p := by unfold maxI; split <;> omega
theorem Gcd_pure (a b : Nat) (ha : a ≤ 100000000) (hb : b ≤ 100000000) : APure Try.prog 65 [.int a, .int b] (fun R => R = .int (Nat.gcd a b)) := by
  refine APure_of (X := cx 15) (cx_ok 15) rfl (rs := [(.tmp 4, 3)]) Try.func65 (by decide) rfl rfl rfl (by simp [cx]) (by simp [NoFr]) ?_
  intro hlen
  ((conv => whnf); repeat (refine stepK_in ?_; (repeat (first | refine seqQ_n ?_ | refine blockQ_n ?_ | refine awp_skip ?_ | refine awp_seq ?_ | refine awp_block ?_)); (conv => whnf)))
  refine AW_loop (X := cx 15) (cx_ok 15) [0, 1] (fun vs M => ∃ p q : Nat, p ≤ 100000000 ∧ q ≤ 100000000 ∧ Nat.gcd p q = Nat.gcd a b ∧ vs = [.int p, .int q] ∧ M = []) (fun vs _ => (vs.getD 1 .any).toInt.toNat) ?_ ?_
  · exact ⟨a, b, ha, hb, rfl, rfl, rfl⟩
  rintro vs M ⟨p, q, hp, hq, hg, rfl, rfl⟩
  ((conv => whnf); repeat (refine stepK_in ?_; (repeat (first | refine seqQ_n ?_ | refine blockQ_n ?_ | refine awp_skip ?_ | refine awp_seq ?_ | refine awp_block ?_)); (conv => whnf)))
  refine br_ne (fun h => ?_) (fun h => ?_)
  · have hq0 : 0 < q := by omega
    have hlt := Nat.mod_lt p hq0
    ((conv => whnf); repeat (refine stepK_in ?_; (repeat (first | refine seqQ_n ?_ | refine blockQ_n ?_ | refine awp_skip ?_ | refine awp_seq ?_ | refine awp_block ?_)); (conv => whnf)))
    refine AW_draw (X := cx 15) (cx_ok 15) mixed (by kernel_rfl) ?_
    ((conv => whnf); repeat (refine stepK_in ?_; (repeat (first | refine seqQ_n ?_ | refine blockQ_n ?_ | refine awp_skip ?_ | refine awp_seq ?_ | refine awp_block ?_)); (conv => whnf)))
    refine ⟨h, ?_⟩
    ((conv => whnf); repeat (refine stepK_in ?_; (repeat (first | refine seqQ_n ?_ | refine blockQ_n ?_ | refine awp_skip ?_ | refine awp_seq ?_ | refine awp_block ?_)); (conv => whnf)))
    refine ⟨⟨q, p % q, hq, by omega, by rw [gcd_step]; exact hg, by rw [← tmod_nat]; rfl, rfl⟩, ?_⟩
    show ((p : Int).tmod (q : Int)).toNat < q
    rw [tmod_nat, Int.toNat_natCast]
    exact hlt
  · have hq0 : q = 0 := by omega
    subst hq0
    ((conv => whnf); repeat (refine stepK_in ?_; (repeat (first | refine seqQ_n ?_ | refine blockQ_n ?_ | refine awp_skip ?_ | refine awp_seq ?_ | refine awp_block ?_)); (conv => whnf)))
    refine ⟨inr (by omega), ?_⟩
    ((conv => whnf); repeat (refine stepK_in ?_; (repeat (first | refine seqQ_n ?_ | refine blockQ_n ?_ | refine awp_skip ?_ | refine awp_seq ?_ | refine awp_block ?_)); (conv => whnf)))
    exact ⟨trivial, Qi (by rw [maxI_neg, ← hg, Nat.gcd_zero_right])⟩

theorem Ratio_pure (a b : Nat) (ha : a ≤ 100000000) (hb : 0 < b) (hb2 : b ≤ 100000000) (hg : Nat.gcd a b = 1) : APure Try.prog 46 [.int a, .int b] (fun R => R = ratV a b) := by
  refine APure_of (X := cx 19) (cx_ok 19) rfl (rs := [(.cell 4 34, 34)]) Try.func46 (by decide) rfl rfl rfl (by simp [cx]) (by simp [NoFr]) ?_
  intro hlen
  have c1 := Gcd_pure a b ha hb2
  rw [hg] at c1
  have c2 : APure Try.prog 65 [.int (maxI a (-(a : Int))), .int b] (fun R => R = .int (1 : Nat)) := by rw [maxI_neg]; exact c1
  have e1 : (a : Int).tdiv ((1 : Nat) : Int) = a := Int.tdiv_one _
  have e2 : (b : Int).tdiv ((1 : Nat) : Int) = b := Int.tdiv_one _
  ((conv => whnf); repeat (refine stepK_in ?_; (repeat (first | refine seqQ_n ?_ | refine blockQ_n ?_ | refine awp_skip ?_ | refine awp_seq ?_ | refine awp_block ?_)); (conv => whnf)))
  refine ⟨inr (by omega), ?_⟩
  ((conv => whnf); repeat (refine stepK_in ?_; (repeat (first | refine seqQ_n ?_ | refine blockQ_n ?_ | refine awp_skip ?_ | refine awp_seq ?_ | refine awp_block ?_)); (conv => whnf)))
  refine APure.to c2 ?_
  ((conv => whnf); repeat (refine stepK_in ?_; (repeat (first | refine seqQ_n ?_ | refine blockQ_n ?_ | refine awp_skip ?_ | refine awp_seq ?_ | refine awp_block ?_)); (conv => whnf)))
  refine AW_draw (X := cx 19) (cx_ok 19) mixed (by kernel_rfl) ?_
  ((conv => whnf); repeat (refine stepK_in ?_; (repeat (first | refine seqQ_n ?_ | refine blockQ_n ?_ | refine awp_skip ?_ | refine awp_seq ?_ | refine awp_block ?_)); (conv => whnf)))
  repeat ((first | refine ⟨by omega, ?_⟩ | refine ⟨inr (show -9223372036854775808 ≤ (a : Int).tdiv ((1 : Nat) : Int) ∧ (a : Int).tdiv ((1 : Nat) : Int) ≤ 9223372036854775807 by rw [e1]; omega), ?_⟩ | refine ⟨inr (show -9223372036854775808 ≤ (b : Int).tdiv ((1 : Nat) : Int) ∧ (b : Int).tdiv ((1 : Nat) : Int) ≤ 9223372036854775807 by rw [e2]; omega), ?_⟩); ((conv => whnf); repeat (refine stepK_in ?_; (repeat (first | refine seqQ_n ?_ | refine blockQ_n ?_ | refine awp_skip ?_ | refine awp_seq ?_ | refine awp_block ?_)); (conv => whnf))))
  refine ⟨fun k hk => ?_, congrArg (V.agg 2) (funext fun k => ?_)⟩
  · match k, hk with
    | 0, _ => trivial
    | 1, _ => trivial
    | k + 2, h => exact absurd h (by show ¬ k + 2 < 2; omega)
  · match k with
    | 0 => exact Qi e1
    | 1 => exact Qi e2
    | k + 2 => rfl

theorem mulBet {l : List Int} (hn : Nds l) {t : Nat} (ht : t ≤ 12) : bet 0 10000 (mul l t) l.length := fun q hq => by
  have := mul_wide hn ht q (by rw [mul_len]; exact hq)
  omega
/-- With no beginning. -/
theorem can_least {l : List Int} {t long : Nat} {size : Int} (hn : Nds l) (ht : t ≤ 12) (hl1 : 1 ≤ long) (hl : long ≤ l.length) (hs : 0 ≤ size ∧ size ≤ 10000) :
    APure Try.prog 50 [.ints false l, .int t, .int long, .int size, .ints false []] (fun R => R = .bool (decide ((leL (mul l t) long : Int) ≤ size))) := by
  have hB : bet 0 10000 ([] : List Int) ([] : List Int).length := fun q hq => absurd hq (by simp)
  have h := can_pure l t long size [] hn.1 hn.2.1 hl1 hl (mulBet hn ht) hs hB
  have e : canR l t long size [] = decide ((leL (mul l t) long : Int) ≤ size) := by
    rw [Bool.eq_iff_iff, canR_iff hn.1 hl1 hl (mulBet hn ht) hs hB, decide_eq_true_iff, ← leM_iff hn hl1 hl ht]
    constructor
    · rintro ⟨q, hq, _⟩
      exact ⟨q, hq⟩
    · rintro ⟨q, hq⟩
      exact ⟨q, hq, fun i hi _ => absurd hi (by simp)⟩
  rw [e] at h
  exact h

theorem halve {d : Int} (hd : 1 < d) : 1 ≤ d.tdiv 2 ∧ d.tdiv 2 < d := by
  rw [Int.tdiv_eq_ediv_of_nonneg (by omega)]
  omega
set_option maxRecDepth 100000 in
theorem refleast_pure {l : List Int} {t long : Nat} (hn : Nds l) (ht1 : 1 ≤ t) (ht : t ≤ 12) (hl1 : 1 ≤ long) (hl : long ≤ l.length) :
    APure Try.prog 44 [.ints false l, .int t, .int long] (fun R => R = .int (leL (mul l t) long)) := by
  refine APure_of (X := cx 43) (cx_ok 43) rfl (rs := [(.tmp 6, 3)]) Try.func44 (by decide) rfl rfl rfl (by simp [cx]) (by simp [NoFr]) ?_
  intro hlen
  have n12 := hn.2.1
  have hc := fun (s : Int) (h0 : 0 ≤ s) (h1 : s ≤ 10000) => can_least hn ht hl1 hl ⟨h0, h1⟩
  have hsum : (leL (mul l t) long : Int) ≤ sumL (mul l t) l.length := by
    have := leL_sum (l := mul l t) (long := long) (by rw [mul_len]; exact hn.1) (by rw [mul_len]; exact n12) hl1 (by rw [mul_len]; exact hl) (mul_wide hn ht)
    rw [mul_len] at this
    exact this
  have hmu : ∀ i, i < l.length → (t : Int) * l.getD i 0 = (mul l t).getD i 0 := fun i hi => by rw [mul_get l t hi, Int.mul_comm]
  have hms : bet 0 600 (mul l t) (mul l t).length := mul_bet hn.2.2 (by omega) (by omega)
  have hbd := sumL_bd hms
  rw [mul_len] at hbd
  have hbt := hms
  rw [mul_len] at hbt
  generalize mul l t = m at *
  generalize leL m long = n at *
  ((conv => whnf); repeat (refine stepK_in ?_; (repeat (first | refine seqQ_n ?_ | refine blockQ_n ?_ | refine awp_skip ?_ | refine awp_seq ?_ | refine awp_block ?_)); (conv => whnf)))
  refine AW_loop (X := cx 43) (cx_ok 43) [0, 1, 2, 7, 8, 9] (fun vs M => ∃ i : Nat, i ≤ l.length ∧ vs = [.ints false l, .int t, .int long, .int (-1), .int (sumL m i), .int i] ∧ M = [])
    (fun vs _ => l.length - (vs.getD 5 .any).toInt.toNat) ?_ ?_
  · exact ⟨0, Nat.zero_le _, rfl, rfl⟩
  rintro vs M ⟨i, hi, rfl, rfl⟩
  have hb := hbd i hi
  ((conv => whnf); repeat (refine stepK_in ?_; (repeat (first | refine seqQ_n ?_ | refine blockQ_n ?_ | refine awp_skip ?_ | refine awp_seq ?_ | refine awp_block ?_)); (conv => whnf)))
  refine br_dec (fun hlt => ?_) (fun hge => ?_)
  · have hi' : i < l.length := by omega
    have hs : sumL m (i + 1) = sumL m i + m.getD i 0 := rfl
    have hm := hmu i hi'
    have hbi := hbt i hi'
    ((conv => whnf); repeat (refine stepK_in ?_; (repeat (first | refine seqQ_n ?_ | refine blockQ_n ?_ | refine awp_skip ?_ | refine awp_seq ?_ | refine awp_block ?_)); (conv => whnf)))
    refine ⟨(show (0 : Int) ≤ (i : Int) by omega), ?_⟩
    refine ⟨(show (i : Int) < (l.length : Int) by omega), ?_⟩
    ((conv => whnf); repeat (refine stepK_in ?_; (repeat (first | refine seqQ_n ?_ | refine blockQ_n ?_ | refine awp_skip ?_ | refine awp_seq ?_ | refine awp_block ?_)); (conv => whnf)))
    refine ⟨inr (show -9223372036854775808 ≤ (t : Int) * l.getD i 0 ∧ (t : Int) * l.getD i 0 ≤ 9223372036854775807 by rw [hm]; omega), ?_⟩
    ((conv => whnf); repeat (refine stepK_in ?_; (repeat (first | refine seqQ_n ?_ | refine blockQ_n ?_ | refine awp_skip ?_ | refine awp_seq ?_ | refine awp_block ?_)); (conv => whnf)))
    refine ⟨inr (show -9223372036854775808 ≤ sumL m i + (t : Int) * l.getD i 0 ∧ sumL m i + (t : Int) * l.getD i 0 ≤ 9223372036854775807 by rw [hm]; omega), ?_⟩
    ((conv => whnf); repeat (refine stepK_in ?_; (repeat (first | refine seqQ_n ?_ | refine blockQ_n ?_ | refine awp_skip ?_ | refine awp_seq ?_ | refine awp_block ?_)); (conv => whnf)))
    refine ⟨inr (by omega), ?_⟩
    ((conv => whnf); repeat (refine stepK_in ?_; (repeat (first | refine seqQ_n ?_ | refine blockQ_n ?_ | refine awp_skip ?_ | refine awp_seq ?_ | refine awp_block ?_)); (conv => whnf)))
    refine ⟨⟨i + 1, hi', ?_, rfl⟩, ?_⟩
    · rw [hs, ← hm]; rfl
    · simp [V.toInt, sel, Env.get]; omega
  obtain rfl : i = l.length := by omega
  ((conv => whnf); repeat (refine stepK_in ?_; (repeat (first | refine seqQ_n ?_ | refine blockQ_n ?_ | refine awp_skip ?_ | refine awp_seq ?_ | refine awp_block ?_)); (conv => whnf)))
  refine AW_loop (X := cx 43) (cx_ok 43) [0, 1, 2, 7, 8] (fun vs M => ∃ lo hi : Int, -1 ≤ lo ∧ lo < n ∧ n ≤ hi ∧ hi ≤ 7200 ∧ vs = [.ints false l, .int t, .int long, .int lo, .int hi] ∧ M = [])
    (fun vs _ => ((vs.getD 4 .any).toInt - (vs.getD 3 .any).toInt).toNat) ?_ ?_
  · exact ⟨-1, sumL m l.length, Int.le_refl _, by omega, hsum, by omega, rfl, rfl⟩
  rintro vs M ⟨lo, hi, h1, h2, h3, h4, rfl, rfl⟩
  ((conv => whnf); repeat (refine stepK_in ?_; (repeat (first | refine seqQ_n ?_ | refine blockQ_n ?_ | refine awp_skip ?_ | refine awp_seq ?_ | refine awp_block ?_)); (conv => whnf)))
  refine ⟨inr (by omega), ?_⟩
  ((conv => whnf); repeat (refine stepK_in ?_; (repeat (first | refine seqQ_n ?_ | refine blockQ_n ?_ | refine awp_skip ?_ | refine awp_seq ?_ | refine awp_block ?_)); (conv => whnf)))
  refine br_dec (fun hgt => ?_) (fun hle => ?_)
  · obtain ⟨d1, d2⟩ := halve hgt
    ((conv => whnf); repeat (refine stepK_in ?_; (repeat (first | refine seqQ_n ?_ | refine blockQ_n ?_ | refine awp_skip ?_ | refine awp_seq ?_ | refine awp_block ?_)); (conv => whnf)))
    repeat ((first | refine ⟨inr (by omega), ?_⟩ | refine ⟨by omega, ?_⟩); ((conv => whnf); repeat (refine stepK_in ?_; (repeat (first | refine seqQ_n ?_ | refine blockQ_n ?_ | refine awp_skip ?_ | refine awp_seq ?_ | refine awp_block ?_)); (conv => whnf))))
    generalize hd : (hi - lo).tdiv 2 = d at *
    refine APure.to (hc (lo + d) (by omega) (by omega)) ?_
    ((conv => whnf); repeat (refine stepK_in ?_; (repeat (first | refine seqQ_n ?_ | refine blockQ_n ?_ | refine awp_skip ?_ | refine awp_seq ?_ | refine awp_block ?_)); (conv => whnf)))
    refine br_dec (fun hb => ?_) (fun hb => ?_)
    · ((conv => whnf); repeat (refine stepK_in ?_; (repeat (first | refine seqQ_n ?_ | refine blockQ_n ?_ | refine awp_skip ?_ | refine awp_seq ?_ | refine awp_block ?_)); (conv => whnf)))
      refine ⟨⟨lo, lo + d, h1, h2, hb, by omega, rfl, rfl⟩, ?_⟩
      simp [V.toInt, sel, Env.get]; omega
    · ((conv => whnf); repeat (refine stepK_in ?_; (repeat (first | refine seqQ_n ?_ | refine blockQ_n ?_ | refine awp_skip ?_ | refine awp_seq ?_ | refine awp_block ?_)); (conv => whnf)))
      refine ⟨⟨lo + d, hi, by omega, by omega, h3, h4, rfl, rfl⟩, ?_⟩
      simp [V.toInt, sel, Env.get]; omega
  · ((conv => whnf); repeat (refine stepK_in ?_; (repeat (first | refine seqQ_n ?_ | refine blockQ_n ?_ | refine awp_skip ?_ | refine awp_seq ?_ | refine awp_block ?_)); (conv => whnf)))
    exact ⟨trivial, Qi (by omega)⟩

theorem refLeast_pure (l : List Int) (long : Int) : APure Try.prog 23 [.ints false l, .int long] (fun R => R = leV l long) := by
  refine APure_of (X := cx 16) (cx_ok 16) rfl (rs := [(.tmp 4, 3), (.tmp 5, 25)]) Try.func23 (by decide) rfl rfl rfl (by simp [cx]) (by simp [NoFr]) ?_
  intro hlen
  have c1 : dayE l long ≠ 0 → tup2 (.int 0) (.int (dayE l long)) = leV l long := fun h => by unfold leV; rw [if_neg h]
  have c2 : dayE l long = 0 → tup2 (.int (leL l long)) (.int 0) = leV l long := fun h => by unfold leV; rw [if_pos h]
  generalize leV l long = E at *
  ((conv => whnf); repeat (refine stepK_in ?_; (repeat (first | refine seqQ_n ?_ | refine blockQ_n ?_ | refine awp_skip ?_ | refine awp_seq ?_ | refine awp_block ?_)); (conv => whnf)))
  refine APure.to (refDay_pure l long) ?_
  ((conv => whnf); repeat (refine stepK_in ?_; (repeat (first | refine seqQ_n ?_ | refine blockQ_n ?_ | refine awp_skip ?_ | refine awp_seq ?_ | refine awp_block ?_)); (conv => whnf)))
  refine br_ne (fun h => ?_) (fun h => ?_)
  · ((conv => whnf); repeat (refine stepK_in ?_; (repeat (first | refine seqQ_n ?_ | refine blockQ_n ?_ | refine awp_skip ?_ | refine awp_seq ?_ | refine awp_block ?_)); (conv => whnf)))
    exact ⟨trivial, trivial, c1 h⟩
  obtain ⟨hn, hl1, hl2⟩ := dayE_inv h
  have hs := refleast_pure (t := 1) (long := long.toNat) hn (by omega) (by omega) (by omega) (by omega)
  rw [show ((long.toNat : Nat) : Int) = long by omega, show ((1 : Nat) : Int) = 1 from rfl, mul_id] at hs
  ((conv => whnf); repeat (refine stepK_in ?_; (repeat (first | refine seqQ_n ?_ | refine blockQ_n ?_ | refine awp_skip ?_ | refine awp_seq ?_ | refine awp_block ?_)); (conv => whnf)))
  refine APure.to hs ?_
  ((conv => whnf); repeat (refine stepK_in ?_; (repeat (first | refine seqQ_n ?_ | refine blockQ_n ?_ | refine awp_skip ?_ | refine awp_seq ?_ | refine awp_block ?_)); (conv => whnf)))
  exact ⟨trivial, trivial, c2 h⟩
end Go.Tri
