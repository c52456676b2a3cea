/-
  CONTRACTS: around, sum, slices.Min, spare; Enough and Spare.
-/
import Derived.Test.YthocieklelgmbaaB1
namespace Go.Tri
open Go.Proofs

/-- An hour of the clock. -/
def arH (n : Nat) (h : Int) : Nat := (h % (n : Int)).toNat
theorem arH_lt {n : Nat} (hn : 1 ≤ n) (h : Int) : arH n h < n := by
  unfold arH
  have h1 := Int.emod_nonneg h (show (n : Int) ≠ 0 by omega)
  have h2 := Int.emod_lt_of_pos h (show (0 : Int) < n by omega)
  omega
theorem arH_val {n : Nat} (hn : 1 ≤ n) (h : Int) : (arH n h : Int) = h % n := by
  unfold arH
  have h1 := Int.emod_nonneg h (show (n : Int) ≠ 0 by omega)
  omega
theorem arH_small {n : Nat} {h : Nat} (hh : h < n) : arH n h = h := by
  unfold arH
  rw [Int.emod_eq_of_lt (by omega) (by omega)]
  omega
theorem ar_go {n : Nat} (hn : 1 ≤ n) (h : Int) : ((h.tmod n) + n).tmod n = h % n := by
  have hp : (0 : Int) < n := by omega
  have h1 := Int.tmod_lt_of_pos h hp
  have h2 : -(n : Int) < h.tmod n := Int.lt_tmod_of_pos h hp
  have h3 : h.tmod n % n = h % n := by
    have := Int.tmod_add_mul_tdiv h n
    have e : h.tmod n = h - n * h.tdiv n := by omega
    rw [e, Int.sub_mul_emod_self_left]
  rw [Int.tmod_eq_emod_of_nonneg (by omega), Int.add_emod_right, h3]

@[reducible] def clockV (l : List Int) (long : Int) : V := .agg 2 fun k => match k with | 0 => .ints false l | _ => .int long
@[reducible] def clockG (l : List Int) (long : Int) : Nat → V := fun k => match k with | 0 => .ints false l | _ => .int long
theorem nofrCk {l : List Int} {long : Int} : NoFr (clockV l long) := fun k => by show NoFr (match k with | 0 => V.ints false l | _ => .int long); split <;> trivial
theorem subCk {g : Nat → V} {l : List Int} {long : Int} (h0 : g 0 = .ints false l) (h1 : g 1 = .int long) : Sub (.agg 2 g) (clockV l long) := sub_agg fun i hi => by
  rcases (by omega : i = 0 ∨ i = 1) with rfl | rfl
  · exact Sub.of h0
  · exact Sub.of h1
theorem nofr1 {a : V} (h : NoFr a) : ∀ x ∈ [a], NoFr x := by intro x hx; simp at hx; subst hx; exact h
theorem nofr2 {a b : V} (h : NoFr a) (h' : NoFr b) : ∀ x ∈ [a, b], NoFr x := by intro x hx; simp at hx; rcases hx with rfl | rfl <;> assumption
theorem nofr3 {a b c : V} (h : NoFr a) (h' : NoFr b) (h2 : NoFr c) : ∀ x ∈ [a, b, c], NoFr x := by intro x hx; simp at hx; rcases hx with rfl | rfl | rfl <;> assumption

theorem around_pure (l : List Int) (long h : Int) (h1 : 1 ≤ l.length) (h2 : l.length ≤ 12) (_hh : -9223372036854775808 ≤ h ∧ h ≤ 9223372036854775807) :
    APure Try.prog 56 [clockV l long, .int h] (fun R => R = .int (arH l.length h)) := by
  refine APure_of (X := cx 16) (cx_ok 16) rfl (rs := [(.tmp 4, 3)]) Try.func56 (by decide) rfl rfl rfl (by simp [cx]) (nofr2 nofrCk (by trivial)) ?_
  intro hlen
  have hp : (0 : Int) < (l.length : Int) := by omega
  have t1 := Int.tmod_lt_of_pos h hp
  have t2 : -(l.length : Int) < h.tmod l.length := Int.lt_tmod_of_pos h hp
  ((conv => whnf); repeat (refine stepK_in ?_; (repeat (first | refine seqQ_n ?_ | refine blockQ_n ?_ | refine awp_skip ?_ | refine awp_seq ?_ | refine awp_block ?_)); (conv => whnf)))
  refine ⟨(show (l.length : Int) ≠ 0 by omega), ?_⟩
  ((conv => whnf); repeat (refine stepK_in ?_; (repeat (first | refine seqQ_n ?_ | refine blockQ_n ?_ | refine awp_skip ?_ | refine awp_seq ?_ | refine awp_block ?_)); (conv => whnf)))
  refine ⟨inr (show -9223372036854775808 ≤ h.tmod l.length + l.length ∧ h.tmod l.length + l.length ≤ 9223372036854775807 by omega), ?_⟩
  ((conv => whnf); repeat (refine stepK_in ?_; (repeat (first | refine seqQ_n ?_ | refine blockQ_n ?_ | refine awp_skip ?_ | refine awp_seq ?_ | refine awp_block ?_)); (conv => whnf)))
  refine ⟨(show (l.length : Int) ≠ 0 by omega), ?_⟩
  ((conv => whnf); repeat (refine stepK_in ?_; (repeat (first | refine seqQ_n ?_ | refine blockQ_n ?_ | refine awp_skip ?_ | refine awp_seq ?_ | refine awp_block ?_)); (conv => whnf)))
  refine ⟨trivial, Qi ?_⟩
  show (h.tmod l.length + l.length).tmod l.length = _
  rw [ar_go h1, arH_val h1]

/-- The sum of the first k of a list. -/
def sumL (l : List Int) : Nat → Int
  | 0 => 0
  | k + 1 => sumL l k + l.getD k 0
theorem sumL_bd {l : List Int} {c : Int} (hb : bet 0 c l l.length) : ∀ k, k ≤ l.length → 0 ≤ sumL l k ∧ sumL l k ≤ c * k := by
  intro k
  induction k with
  | zero => intro _; simp [sumL]
  | succ k ih =>
    intro hk
    have h1 := ih (by omega)
    have h2 := hb k (by omega)
    simp only [sumL]
    have : c * ((k + 1 : Nat) : Int) = c * k + c := by rw [Int.natCast_add, Int.mul_add]; simp
    omega
theorem sum_pure (l : List Int) (c : Int) (hl : l.length ≤ 100) (hc : 0 ≤ c ∧ c ≤ 1000000) (hb : bet 0 c l l.length) : APure Try.prog 39 [.ints false l] (fun R => R = .int (sumL l l.length)) := by
  refine APure_of (X := cx 17) (cx_ok 17) rfl (rs := [(.tmp 2, 3)]) Try.func39 (by decide) rfl rfl rfl (by simp [cx]) (by simp [NoFr]) ?_
  intro hlen
  ((conv => whnf); repeat (refine stepK_in ?_; (repeat (first | refine seqQ_n ?_ | refine blockQ_n ?_ | refine awp_skip ?_ | refine awp_seq ?_ | refine awp_block ?_)); (conv => whnf)))
  refine AW_loop (X := cx 17) (cx_ok 17) [3, 6, 7, 8] (fun vs M => ∃ k : Nat, k ≤ l.length ∧ vs = [.int (sumL l k), .ints false l, .int l.length, .int k] ∧ M = []) (fun vs _ => l.length - (vs.getD 3 .any).toInt.toNat) ?_ ?_
  · exact ⟨0, Nat.zero_le _, rfl, rfl⟩
  rintro vs M ⟨k, hk, rfl, rfl⟩
  have s1 := sumL_bd hb k hk
  ((conv => whnf); repeat (refine stepK_in ?_; (repeat (first | refine seqQ_n ?_ | refine blockQ_n ?_ | refine awp_skip ?_ | refine awp_seq ?_ | refine awp_block ?_)); (conv => whnf)))
  refine br_dec (fun hlt => ?_) (fun hge => ?_)
  · have hk' : k < l.length := by omega
    have s2 := hb k hk'
    have s3 : c * (k : Int) ≤ 1000000 * 100 := Int.le_trans (Int.mul_le_mul_of_nonneg_right hc.2 (by omega)) (by omega)
    ((conv => whnf); repeat (refine stepK_in ?_; (repeat (first | refine seqQ_n ?_ | refine blockQ_n ?_ | refine awp_skip ?_ | refine awp_seq ?_ | refine awp_block ?_)); (conv => whnf)))
    refine ⟨by omega, ?_⟩
    ((conv => whnf); repeat (refine stepK_in ?_; (repeat (first | refine seqQ_n ?_ | refine blockQ_n ?_ | refine awp_skip ?_ | refine awp_seq ?_ | refine awp_block ?_)); (conv => whnf)))
    refine ⟨by omega, ?_⟩
    ((conv => whnf); repeat (refine stepK_in ?_; (repeat (first | refine seqQ_n ?_ | refine blockQ_n ?_ | refine awp_skip ?_ | refine awp_seq ?_ | refine awp_block ?_)); (conv => whnf)))
    refine ⟨inr (show -9223372036854775808 ≤ sumL l k + l.getD k 0 ∧ sumL l k + l.getD k 0 ≤ 9223372036854775807 by omega), ?_⟩
    ((conv => whnf); repeat (refine stepK_in ?_; (repeat (first | refine seqQ_n ?_ | refine blockQ_n ?_ | refine awp_skip ?_ | refine awp_seq ?_ | refine awp_block ?_)); (conv => whnf)))
    refine ⟨inr (by omega), ?_⟩
    ((conv => whnf); repeat (refine stepK_in ?_; (repeat (first | refine seqQ_n ?_ | refine blockQ_n ?_ | refine awp_skip ?_ | refine awp_seq ?_ | refine awp_block ?_)); (conv => whnf)))
    refine ⟨⟨k + 1, by omega, rfl, rfl⟩, ?_⟩
    simp [V.toInt, sel, Env.get]; omega
  · obtain rfl : k = l.length := by omega
    ((conv => whnf); repeat (refine stepK_in ?_; (repeat (first | refine seqQ_n ?_ | refine blockQ_n ?_ | refine awp_skip ?_ | refine awp_seq ?_ | refine awp_block ?_)); (conv => whnf)))
    exact ⟨trivial, rfl⟩

/-- The least of the first k. -/
def minL (l : List Int) : Nat → Int
  | 0 => l.getD 0 0
  | k + 1 => if k = 0 then l.getD 0 0 else minI (minL l k) (l.getD k 0)
theorem minL_ge (l : List Int) (c : Int) : ∀ k, 1 ≤ k → (c ≤ minL l k ↔ ∀ j, j < k → c ≤ l.getD j 0) := by
  intro k
  induction k with
  | zero => intro h; omega
  | succ k ih =>
    intro _
    simp only [minL]
    split
    · next h => subst h; exact ⟨fun h j hj => by rw [show j = 0 by omega]; exact h, fun h => h 0 (by omega)⟩
    · next h =>
      have := ih (by omega)
      unfold minI
      constructor
      · intro h1 j hj
        have h2 : c ≤ minL l k ∧ c ≤ l.getD k 0 := by split at h1 <;> omega
        rcases (by omega : j < k ∨ j = k) with h3 | rfl
        · exact this.1 h2.1 j h3
        · exact h2.2
      · intro h1
        have h2 := this.2 fun j hj => h1 j (by omega)
        have h3 := h1 k (by omega)
        split <;> omega
theorem Min_pure (l : List Int) (h1 : 1 ≤ l.length) : APure Try.prog 40 [.ints false l] (fun R => R = .int (minL l l.length)) := by
  refine APure_of (X := cx 25) (cx_ok 25) rfl (rs := [(.tmp 2, 3)]) Try.func40 (by decide) rfl rfl rfl (by simp [cx]) (by simp [NoFr]) ?_
  intro hlen
  have hla := LenI hlen
  ((conv => whnf); repeat (refine stepK_in ?_; (repeat (first | refine seqQ_n ?_ | refine blockQ_n ?_ | refine awp_skip ?_ | refine awp_seq ?_ | refine awp_block ?_)); (conv => whnf)))
  refine br_dec (fun h => absurd h (by omega)) (fun _ => ?_)
  ((conv => whnf); repeat (refine stepK_in ?_; (repeat (first | refine seqQ_n ?_ | refine blockQ_n ?_ | refine awp_skip ?_ | refine awp_seq ?_ | refine awp_block ?_)); (conv => whnf)))
  repeat ((first | refine ⟨by omega, ?_⟩ | refine ⟨inr (by omega), ?_⟩ | refine eqn_self ?_ | refine ⟨ms (by omega), ?_⟩ | refine ⟨ms (by simp only [Src.n]; omega), ?_⟩ | refine ⟨msk (by omega), ?_⟩ | refine ⟨ms1, ?_⟩); ((conv => whnf); repeat (refine stepK_in ?_; (repeat (first | refine seqQ_n ?_ | refine blockQ_n ?_ | refine awp_skip ?_ | refine awp_seq ?_ | refine awp_block ?_)); (conv => whnf))))
  refine AW_loop (X := cx 25) (cx_ok 25) [0, 3, 4] (fun vs M => ∃ k : Nat, 1 ≤ k ∧ k ≤ l.length ∧ vs = [.ints false l, .int (minL l k), .int k] ∧ M = []) (fun vs _ => l.length - (vs.getD 2 .any).toInt.toNat) ?_ ?_
  · exact ⟨1, Nat.le_refl _, h1, rfl, rfl⟩
  rintro vs M ⟨k, hk1, hk, rfl, rfl⟩
  ((conv => whnf); repeat (refine stepK_in ?_; (repeat (first | refine seqQ_n ?_ | refine blockQ_n ?_ | refine awp_skip ?_ | refine awp_seq ?_ | refine awp_block ?_)); (conv => whnf)))
  refine br_dec (fun hlt => ?_) (fun hge => ?_)
  · have hk' : k < l.length := by omega
    have e : minL l (k + 1) = minI (minL l k) (l.getD k 0) := by simp only [minL]; rw [if_neg (by omega)]
    ((conv => whnf); repeat (refine stepK_in ?_; (repeat (first | refine seqQ_n ?_ | refine blockQ_n ?_ | refine awp_skip ?_ | refine awp_seq ?_ | refine awp_block ?_)); (conv => whnf)))
    repeat ((first | refine ⟨by omega, ?_⟩ | refine ⟨inr (by omega), ?_⟩ | refine eqn_self ?_ | refine ⟨ms (by omega), ?_⟩ | refine ⟨ms (by simp only [Src.n]; omega), ?_⟩ | refine ⟨msk (by omega), ?_⟩ | refine ⟨ms1, ?_⟩); ((conv => whnf); repeat (refine stepK_in ?_; (repeat (first | refine seqQ_n ?_ | refine blockQ_n ?_ | refine awp_skip ?_ | refine awp_seq ?_ | refine awp_block ?_)); (conv => whnf))))
    refine ⟨⟨k + 1, by omega, by omega, ?_, rfl⟩, ?_⟩
    · rw [e]; rfl
    · simp [V.toInt, sel, Env.get]; omega
  · obtain rfl : k = l.length := by omega
    ((conv => whnf); repeat (refine stepK_in ?_; (repeat (first | refine seqQ_n ?_ | refine blockQ_n ?_ | refine awp_skip ?_ | refine awp_seq ?_ | refine awp_block ?_)); (conv => whnf)))
    exact ⟨trivial, rfl⟩
end Go.Tri
