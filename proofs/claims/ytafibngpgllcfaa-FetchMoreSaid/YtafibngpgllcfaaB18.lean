/-
 CONTRACTS: the specification's cuts.
-/
import Derived.Test.YtafibngpgllcfaaB15
import Derived.Test.YtafibngpgllcfaaB16
namespace Go.Tri
open Go.Proofs

theorem or_add {x k : Nat} (h : x < 2 ^ k) : x ||| 2 ^ k = x + 2 ^ k := by
 have := Nat.two_pow_add_eq_or_of_lt h 1
 rw [Nat.mul_one] at this
 rw [Nat.or_comm, ← this, Nat.add_comm]
theorem mkI {p : Bool} {x : Int} : ((bI p == x) = decide (bI p = x)) := rfl
set_option maxRecDepth 100000 in
theorem rIsCut_pure {n m : Nat} {A B : Nat → Nat} (hQ : Qn n m A B) (z : Int) : APure Try.prog 49 [.int n, stV false m (fun j => A j) (fun j => B j), .int z] (fun R => R = .bool (cutZ n m A B z)) := by
 refine APure_of (X := cx 43) (cx_ok 43) rfl (rs := [(.tmp 6, 4)]) Try.func49 (by decide) rfl rfl rfl (by simp [cx]) (nofrN3) ?_
 intro hlen
 have hA := hQ.hA
 have hB := hQ.hB
 have h7 := hQ.hi
 have hm := hQ.sm
 have hf := full_le h7
 have hp := pow_le62 (show n ≤ 62 by omega)
 have hp0 : 0 < 2 ^ n := Nat.two_pow_pos n
 ((conv=>whnf);repeat (refine Wa ?_;(repeat (first|refine Wb ?_|refine Wc ?_|refine Wd ?_|refine We ?_|refine Wf ?_));(conv=>whnf)))
 refine br_dec (fun h => ?_) (fun h => ?_)
 ·have h : z < 1 := h
  ((conv=>whnf);repeat (refine Wa ?_;(repeat (first|refine Wb ?_|refine Wc ?_|refine Wd ?_|refine We ?_|refine Wf ?_));(conv=>whnf)))
  refine ⟨trivial, Qb ?_⟩
  unfold cutZ
  rw [decide_eq_false (by omega), Bool.false_and]
 have h : ¬ z < 1 := h
 obtain ⟨s, rfl⟩ : ∃ s : Nat, z = s := ⟨z.toNat, by omega⟩
 rw [cutZ_nat]
 ((conv=>whnf);repeat (refine Wa ?_;(repeat (first|refine Wb ?_|refine Wc ?_|refine Wd ?_|refine We ?_|refine Wf ?_));(conv=>whnf)))
 refine ⟨by omega, ?_⟩
 rw [shlI (by omega)]
 ((conv=>whnf);repeat (refine Wa ?_;(repeat (first|refine Wb ?_|refine Wc ?_|refine Wd ?_|refine We ?_|refine Wf ?_));(conv=>whnf)))
 refine ⟨inr (by omega), ?_⟩
 ((conv=>whnf);repeat (refine Wa ?_;(repeat (first|refine Wb ?_|refine Wc ?_|refine Wd ?_|refine We ?_|refine Wf ?_));(conv=>whnf)))
 refine br_dec (fun h2 => ?_) (fun h2 => ?_)
 ·have h2 : (s : Int) ≥ ((2 ^ n : Nat) : Int) - 1 := h2
  ((conv=>whnf);repeat (refine Wa ?_;(repeat (first|refine Wb ?_|refine Wc ?_|refine Wd ?_|refine We ?_|refine Wf ?_));(conv=>whnf)))
  refine ⟨trivial, Qb ?_⟩
  unfold cutB fullN
  rw [decide_eq_false (show ¬ s < 2 ^ n - 1 by omega), Bool.false_and, Bool.and_false]
 have h2 : ¬ (s : Int) ≥ ((2 ^ n : Nat) : Int) - 1 := h2
 have h2' : s < fullN n := by unfold fullN; omega
 ((conv=>whnf);repeat (refine Wa ?_;(repeat (first|refine Wb ?_|refine Wc ?_|refine Wd ?_|refine We ?_|refine Wf ?_));(conv=>whnf)))
 refine AW_loop (X := cx 43) (cx_ok 43) [1, 2, 7] (fun vs M => ∃ k : Nat, k ≤ m ∧ (∀ j, j < k → s.testBit (B j) = true → s.testBit (A j) = true) ∧ vs = [stV false m (fun j => A j) (fun j => B j), .int s, .int k] ∧ M = []) (fun vs _ => m - (vs.getD 2 .any).toInt.toNat) ?_ ?_
 ·exact ⟨0, Nat.zero_le _, fun j hj => absurd hj (Nat.not_lt_zero _), rfl, rfl⟩
 rintro vs M ⟨k, hk, hj, rfl, rfl⟩
 ((conv=>whnf);repeat (refine Wa ?_;(repeat (first|refine Wb ?_|refine Wc ?_|refine Wd ?_|refine We ?_|refine Wf ?_));(conv=>whnf)))
 refine br_dec (fun hlt => ?_) (fun hge => ?_)
 ·have hk' : k < m := by omega
  have hAk := hA k hk'
  have hBk := hB k hk'
  have nxt : (s.testBit (B k) = true → s.testBit (A k) = true) → ∃ k' : Nat, k' ≤ m ∧ (∀ j, j < k' → s.testBit (B j) = true → s.testBit (A j) = true) ∧ [stV false m (fun j => A j) (fun j => B j), V.int s, V.int ((k : Int) + 1)] = [stV false m (fun j => A j) (fun j => B j), V.int s, V.int k'] ∧ ([] : Mem) = [] := fun h => ⟨k + 1, hk', fun j hj1 => by
   by_cases hjk : j = k
   ·rw [hjk]
    exact h
   ·exact hj j (by omega), rfl, rfl⟩
  ((conv=>whnf);repeat (refine Wa ?_;(repeat (first|refine Wb ?_|refine Wc ?_|refine Wd ?_|refine We ?_|refine Wf ?_));(conv=>whnf)))
  repeat ((first | refine ⟨by omega, ?_⟩ | refine ⟨inr (by omega), ?_⟩ | refine eqn_self ?_ | refine ⟨ms (by omega), ?_⟩ | refine ⟨ms (by simp only [Src.n]; omega), ?_⟩ | refine ⟨msk (by omega), ?_⟩ | refine ⟨ms1, ?_⟩); ((conv=>whnf);repeat (refine Wa ?_;(repeat (first|refine Wb ?_|refine Wc ?_|refine Wd ?_|refine We ?_|refine Wf ?_));(conv=>whnf))))
  rw [Int.toNat_natCast]
  refine ⟨(show (0 : Int) ≤ (A k : Int) by omega), ?_⟩
  rw [show (s : Int).fdiv (2 ^ min ((fun j => (A j : Int)) k).toNat IntKind.i64.bits) = _ from shrN (s := s) (i := A k) (by omega)]
  ((conv=>whnf);repeat (refine Wa ?_;(repeat (first|refine Wb ?_|refine Wc ?_|refine Wd ?_|refine We ?_|refine Wf ?_));(conv=>whnf)))
  refine ⟨by decide, ?_⟩
  rw [tmI]
  cases hp : s.testBit (A k)
  ·((conv=>whnf);repeat (refine Wa ?_;(repeat (first|refine Wb ?_|refine Wc ?_|refine Wd ?_|refine We ?_|refine Wf ?_));(conv=>whnf)))
   repeat ((first | refine ⟨by omega, ?_⟩ | refine ⟨inr (by omega), ?_⟩ | refine eqn_self ?_ | refine ⟨ms (by omega), ?_⟩ | refine ⟨ms (by simp only [Src.n]; omega), ?_⟩ | refine ⟨msk (by omega), ?_⟩ | refine ⟨ms1, ?_⟩); ((conv=>whnf);repeat (refine Wa ?_;(repeat (first|refine Wb ?_|refine Wc ?_|refine Wd ?_|refine We ?_|refine Wf ?_));(conv=>whnf))))
   rw [Int.toNat_natCast]
   refine ⟨(show (0 : Int) ≤ (B k : Int) by omega), ?_⟩
   rw [show (s : Int).fdiv (2 ^ min ((fun j => (B j : Int)) k).toNat IntKind.i64.bits) = _ from shrN (s := s) (i := B k) (by omega)]
   ((conv=>whnf);repeat (refine Wa ?_;(repeat (first|refine Wb ?_|refine Wc ?_|refine Wd ?_|refine We ?_|refine Wf ?_));(conv=>whnf)))
   refine ⟨by decide, ?_⟩
   rw [tmI]
   cases hq : s.testBit (B k)
   ·((conv=>whnf);repeat (refine Wa ?_;(repeat (first|refine Wb ?_|refine Wc ?_|refine Wd ?_|refine We ?_|refine Wf ?_));(conv=>whnf)))
    refine ⟨inr (by omega), ?_⟩
    ((conv=>whnf);repeat (refine Wa ?_;(repeat (first|refine Wb ?_|refine Wc ?_|refine Wd ?_|refine We ?_|refine Wf ?_));(conv=>whnf)))
    exact ⟨nxt (by rw [hq]; simp), by simp [V.toInt, sel, Env.get]; omega⟩
   ·((conv=>whnf);repeat (refine Wa ?_;(repeat (first|refine Wb ?_|refine Wc ?_|refine Wd ?_|refine We ?_|refine Wf ?_));(conv=>whnf)))
    refine ⟨trivial, Qb ?_⟩
    cases hc : cutB n m A B s with
    | false => rfl
    | true => exact absurd (((cutB_iff hA hB).1 hc).2.2 k hk' hq) (by rw [hp]; simp)
  ·((conv=>whnf);repeat (refine Wa ?_;(repeat (first|refine Wb ?_|refine Wc ?_|refine Wd ?_|refine We ?_|refine Wf ?_));(conv=>whnf)))
   refine ⟨inr (by omega), ?_⟩
   ((conv=>whnf);repeat (refine Wa ?_;(repeat (first|refine Wb ?_|refine Wc ?_|refine Wd ?_|refine We ?_|refine Wf ?_));(conv=>whnf)))
   exact ⟨nxt (fun _ => hp), by simp [V.toInt, sel, Env.get]; omega⟩
 ·obtain rfl : k = m := by omega
  ((conv=>whnf);repeat (refine Wa ?_;(repeat (first|refine Wb ?_|refine Wc ?_|refine Wd ?_|refine We ?_|refine Wf ?_));(conv=>whnf)))
  refine ⟨trivial, Qb ?_⟩
  exact ((cutB_iff hA hB).2 ⟨by omega, h2', hj⟩).symm
theorem nofrC {z : Int} {m : Nat} {A B : Nat → Int} : ∀ x ∈ [stV false m A B, V.int z], NoFr x := nofr2 nofrS nofrInt
set_option maxRecDepth 100000 in
theorem crossing_pure {n m : Nat} {A B : Nat → Nat} (hQ : Qn n m A B) (s : Nat) : APure Try.prog 51 [stV false m (fun j => A j) (fun j => B j), .int s] (fun R => R = .int (lvS A B s m : Nat)) := by
 refine APure_of (X := cx 38) (cx_ok 38) rfl (rs := [(.tmp 4, 3)]) Try.func51 (by decide) rfl rfl rfl (by simp [cx]) (nofrC) ?_
 intro hlen
 have hA := hQ.hA
 have hB := hQ.hB
 have h7 := hQ.hi
 have hm := hQ.sm
 ((conv=>whnf);repeat (refine Wa ?_;(repeat (first|refine Wb ?_|refine Wc ?_|refine Wd ?_|refine We ?_|refine Wf ?_));(conv=>whnf)))
 refine AW_loop (X := cx 38) (cx_ok 38) [0, 1, 5, 6] (fun vs M => ∃ k : Nat, k ≤ m ∧ vs = [stV false m (fun j => A j) (fun j => B j), .int s, .int (lvS A B s k : Nat), .int k] ∧ M = []) (fun vs _ => m - (vs.getD 3 .any).toInt.toNat) ?_ ?_
 ·exact ⟨0, Nat.zero_le _, rfl, rfl⟩
 rintro vs M ⟨k, hk, rfl, rfl⟩
 ((conv=>whnf);repeat (refine Wa ?_;(repeat (first|refine Wb ?_|refine Wc ?_|refine Wd ?_|refine We ?_|refine Wf ?_));(conv=>whnf)))
 refine br_dec (fun hlt => ?_) (fun hge => ?_)
 ·have hk' : k < m := by omega
  have hAk := hA k hk'
  have hBk := hB k hk'
  have e : (lvS A B s (k + 1)) = if (s.testBit (A k) && !s.testBit (B k)) = true then lvS A B s k ||| 2 ^ k else lvS A B s k := rfl
  have hl := lvS_lt A B s k
  have hpk : 2 ^ k ≤ 2 ^ 14 := Nat.pow_le_pow_right (by decide) (by omega)
  have nxt : ∀ t : Nat, lvS A B s (k + 1) = t → ∃ k' : Nat, k' ≤ m ∧ [stV false m (fun j => A j) (fun j => B j), V.int s, V.int t, V.int ((k : Int) + 1)] = [stV false m (fun j => A j) (fun j => B j), V.int s, V.int (lvS A B s k' : Nat), V.int k'] ∧ ([] : Mem) = [] := fun t h => ⟨k + 1, hk', by rw [h]; rfl, rfl⟩
  ((conv=>whnf);repeat (refine Wa ?_;(repeat (first|refine Wb ?_|refine Wc ?_|refine Wd ?_|refine We ?_|refine Wf ?_));(conv=>whnf)))
  repeat ((first | refine ⟨by omega, ?_⟩ | refine ⟨inr (by omega), ?_⟩ | refine eqn_self ?_ | refine ⟨ms (by omega), ?_⟩ | refine ⟨ms (by simp only [Src.n]; omega), ?_⟩ | refine ⟨msk (by omega), ?_⟩ | refine ⟨ms1, ?_⟩); ((conv=>whnf);repeat (refine Wa ?_;(repeat (first|refine Wb ?_|refine Wc ?_|refine Wd ?_|refine We ?_|refine Wf ?_));(conv=>whnf))))
  rw [Int.toNat_natCast]
  refine ⟨(show (0 : Int) ≤ (A k : Int) by omega), ?_⟩
  rw [show (s : Int).fdiv (2 ^ min ((fun j => (A j : Int)) k).toNat IntKind.i64.bits) = _ from shrN (s := s) (i := A k) (by omega)]
  ((conv=>whnf);repeat (refine Wa ?_;(repeat (first|refine Wb ?_|refine Wc ?_|refine Wd ?_|refine We ?_|refine Wf ?_));(conv=>whnf)))
  refine ⟨by decide, ?_⟩
  rw [tmI]
  cases hp : s.testBit (A k)
  ·rw [hp] at e
   ((conv=>whnf);repeat (refine Wa ?_;(repeat (first|refine Wb ?_|refine Wc ?_|refine Wd ?_|refine We ?_|refine Wf ?_));(conv=>whnf)))
   refine ⟨inr (by omega), ?_⟩
   ((conv=>whnf);repeat (refine Wa ?_;(repeat (first|refine Wb ?_|refine Wc ?_|refine Wd ?_|refine We ?_|refine Wf ?_));(conv=>whnf)))
   exact ⟨nxt _ e, by simp [V.toInt, sel, Env.get]; omega⟩
  ·((conv=>whnf);repeat (refine Wa ?_;(repeat (first|refine Wb ?_|refine Wc ?_|refine Wd ?_|refine We ?_|refine Wf ?_));(conv=>whnf)))
   repeat ((first | refine ⟨by omega, ?_⟩ | refine ⟨inr (by omega), ?_⟩ | refine eqn_self ?_ | refine ⟨ms (by omega), ?_⟩ | refine ⟨ms (by simp only [Src.n]; omega), ?_⟩ | refine ⟨msk (by omega), ?_⟩ | refine ⟨ms1, ?_⟩); ((conv=>whnf);repeat (refine Wa ?_;(repeat (first|refine Wb ?_|refine Wc ?_|refine Wd ?_|refine We ?_|refine Wf ?_));(conv=>whnf))))
   rw [Int.toNat_natCast]
   refine ⟨(show (0 : Int) ≤ (B k : Int) by omega), ?_⟩
   rw [show (s : Int).fdiv (2 ^ min ((fun j => (B j : Int)) k).toNat IntKind.i64.bits) = _ from shrN (s := s) (i := B k) (by omega)]
   ((conv=>whnf);repeat (refine Wa ?_;(repeat (first|refine Wb ?_|refine Wc ?_|refine Wd ?_|refine We ?_|refine Wf ?_));(conv=>whnf)))
   refine ⟨by decide, ?_⟩
   rw [tmI]
   cases hq : s.testBit (B k)
   ·rw [hp, hq] at e
    ((conv=>whnf);repeat (refine Wa ?_;(repeat (first|refine Wb ?_|refine Wc ?_|refine Wd ?_|refine We ?_|refine Wf ?_));(conv=>whnf)))
    refine ⟨by omega, ?_⟩
    rw [shlI (by omega)]
    ((conv=>whnf);repeat (refine Wa ?_;(repeat (first|refine Wb ?_|refine Wc ?_|refine Wd ?_|refine We ?_|refine Wf ?_));(conv=>whnf)))
    rw [show ((lvS A B s k : Nat) : Int) + ((2 ^ k : Nat) : Int) = ((lvS A B s k + 2 ^ k : Nat) : Int) by omega]
    refine ⟨inr (by omega), ?_⟩
    ((conv=>whnf);repeat (refine Wa ?_;(repeat (first|refine Wb ?_|refine Wc ?_|refine Wd ?_|refine We ?_|refine Wf ?_));(conv=>whnf)))
    refine ⟨inr (by omega), ?_⟩
    ((conv=>whnf);repeat (refine Wa ?_;(repeat (first|refine Wb ?_|refine Wc ?_|refine Wd ?_|refine We ?_|refine Wf ?_));(conv=>whnf)))
    exact ⟨nxt _ (e.trans (or_add hl)), by simp [V.toInt, sel, Env.get]; omega⟩
   ·rw [hp, hq] at e
    ((conv=>whnf);repeat (refine Wa ?_;(repeat (first|refine Wb ?_|refine Wc ?_|refine Wd ?_|refine We ?_|refine Wf ?_));(conv=>whnf)))
    refine ⟨inr (by omega), ?_⟩
    ((conv=>whnf);repeat (refine Wa ?_;(repeat (first|refine Wb ?_|refine Wc ?_|refine Wd ?_|refine We ?_|refine Wf ?_));(conv=>whnf)))
    exact ⟨nxt _ e, by simp [V.toInt, sel, Env.get]; omega⟩
 ·obtain rfl : k = m := by omega
  ((conv=>whnf);repeat (refine Wa ?_;(repeat (first|refine Wb ?_|refine Wc ?_|refine Wd ?_|refine We ?_|refine Wf ?_));(conv=>whnf)))
  exact ⟨trivial, rfl⟩
end Go.Tri
