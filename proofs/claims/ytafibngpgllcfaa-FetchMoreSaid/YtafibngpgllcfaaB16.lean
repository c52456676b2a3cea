/-
 CONTRACTS: what the specification reaches.
-/
import Derived.Test.YtafibngpgllcfaaB11
import Derived.Test.YtafibngpgllcfaaM4
namespace Go.Tri
open Go.Proofs

def bI (b : Bool) : Int := if b = true then 1 else 0
theorem tmI (s i : Nat) : ((s / 2 ^ i : Nat) : Int).tmod 2 = bI (s.testBit i) := by
 rw [Nat.testBit_eq_decide_div_mod_eq, show ((s / 2 ^ i : Nat) : Int).tmod 2 = ((s / 2 ^ i % 2 : Nat) : Int) from rfl]
 unfold bI
 rcases Nat.mod_two_eq_zero_or_one (s / 2 ^ i) with h | h <;> rw [h] <;> rfl
theorem nofrB {b : Bool} : NoFr (.bool b) := trivial
theorem nofrR {c : Int} {b : Bool} {m : Nat} {A B : Nat → Int} : ∀ x ∈ [stV false m A B, .int c, .bool b], NoFr x := by intro x hx; simp at hx; rcases hx with rfl | rfl | rfl; exact nofrS; exact nofrInt; exact nofrB
set_option maxRecDepth 100000 in
set_option maxHeartbeats 1000000 in
theorem reached_pure {n m : Nat} {A B : Nat → Nat} (hQ : Qn n m A B) (b : Bool) (c : Nat) (hc : c < n) : APure Try.prog 66 [stV false m (fun j => A j) (fun j => B j), .int c, .bool b] (fun R => R = .int (rcN n m A B b c : Nat)) := by
 refine APure_of (X := cx 70) (cx_ok 70) rfl (rs := [(.tmp 6, 3)]) Try.func66 (by decide) rfl rfl rfl (by simp [cx]) (nofrR) ?_
 intro hlen
 obtain ⟨h2, h7, hm, hA, hB⟩ := hQ
 have small : ∀ s, s < 2 ^ n → s < 9223372036854775808 := fun s hs => lt63 hs (by omega)
 ((conv=>whnf);repeat (refine Wa ?_;(repeat (first|refine Wb ?_|refine Wc ?_|refine Wd ?_|refine We ?_|refine Wf ?_));(conv=>whnf)))
 refine ⟨by omega, ?_⟩
 rw [shlI (by omega)]
 ((conv=>whnf);repeat (refine Wa ?_;(repeat (first|refine Wb ?_|refine Wc ?_|refine Wd ?_|refine We ?_|refine Wf ?_));(conv=>whnf)))
 refine AW_loop (X := cx 70) (cx_ok 70) [0, 2, 7, 8] (fun vs M => ∃ (s : Nat) (ag : Bool), s < 2 ^ n ∧ s.testBit c = true ∧ (∀ i, s.testBit i = true → Rch A B m b c i) ∧ (ag = false → ∀ j, j < m → newB A B b s j = false) ∧ vs = [stV false m (fun j => A j) (fun j => B j), .bool b, .int s, .bool ag] ∧ M = []) (fun vs _ => 2 * unv (vs.getD 2 .any).toInt.toNat n + if (vs.getD 3 .any).toBool = true then 1 else 0) ?_ ?_
 ·exact ⟨2 ^ c, true, Nat.pow_lt_pow_right (by decide) hc, by rw [Nat.testBit_two_pow]; simp, fun i hi => by
   rw [Nat.testBit_two_pow, decide_eq_true_iff] at hi
   exact hi ▸ .here, fun h => absurd h (by simp), rfl, rfl⟩
 rintro vs M ⟨s, ag, hs, h0, h1, h3, rfl, rfl⟩
 ((conv=>whnf);repeat (refine Wa ?_;(repeat (first|refine Wb ?_|refine Wc ?_|refine Wd ?_|refine We ?_|refine Wf ?_));(conv=>whnf)))
 refine br_mk (fun hag => ?_) (fun hag => ?_)
 ·subst hag
  ((conv=>whnf);repeat (refine Wa ?_;(repeat (first|refine Wb ?_|refine Wc ?_|refine Wd ?_|refine We ?_|refine Wf ?_));(conv=>whnf)))
  refine AW_loop (X := cx 70) (cx_ok 70) [0, 2, 7, 8, 9] (fun vs M => ∃ (t k : Nat) (ag : Bool), k ≤ m ∧ t < 2 ^ n ∧ SubB s t ∧ (∀ i, t.testBit i = true → Rch A B m b c i) ∧ (ag = false → t = s ∧ ∀ j, j < k → newB A B b s j = false) ∧ (ag = true → unv t n < unv s n) ∧ vs = [stV false m (fun j => A j) (fun j => B j), .bool b, .int t, .bool ag, .int k] ∧ M = []) (fun vs _ => m - (vs.getD 4 .any).toInt.toNat) ?_ ?_
  ·exact ⟨s, 0, false, Nat.zero_le _, hs, SubB.refl s, h1, fun _ => ⟨rfl, fun j h => absurd h (Nat.not_lt_zero _)⟩, fun h => absurd h (by simp), rfl, rfl⟩
  clear h3
  rintro vs M ⟨t, k, ag, hk, ht, h4, h5, h6, h7', rfl, rfl⟩
  ((conv=>whnf);repeat (refine Wa ?_;(repeat (first|refine Wb ?_|refine Wc ?_|refine Wd ?_|refine We ?_|refine Wf ?_));(conv=>whnf)))
  refine br_dec (fun hlt => ?_) (fun hge => ?_)
  ·have hk' : k < m := by omega
   have hAk := hA k hk'
   have hBk := hB k hk'
   have ht63 := small t ht
   ((conv=>whnf);repeat (refine Wa ?_;(repeat (first|refine Wb ?_|refine Wc ?_|refine Wd ?_|refine We ?_|refine Wf ?_));(conv=>whnf)))
   refine AW_draw (X := cx 70) (cx_ok 70) mixed (by kernel_rfl) ?_
   ((conv=>whnf);repeat (refine Wa ?_;(repeat (first|refine Wb ?_|refine Wc ?_|refine Wd ?_|refine We ?_|refine Wf ?_));(conv=>whnf)))
   repeat ((first | refine ⟨by omega, ?_⟩ | refine ⟨inr (by omega), ?_⟩ | refine eqn_self ?_ | refine ⟨ms (by omega), ?_⟩ | refine ⟨ms (by simp only [Src.n]; omega), ?_⟩ | refine ⟨msk (by omega), ?_⟩ | refine ⟨ms1, ?_⟩); ((conv=>whnf);repeat (refine Wa ?_;(repeat (first|refine Wb ?_|refine Wc ?_|refine Wd ?_|refine We ?_|refine Wf ?_));(conv=>whnf))))
   rw [Int.toNat_natCast]
   refine ⟨(show (0 : Int) ≤ (A k : Int) by omega), ?_⟩
   rw [show (t : Int).fdiv (2 ^ min ((fun j => (A j : Int)) k).toNat IntKind.i64.bits) = _ from shrN (s := t) (i := A k) (by omega)]
   ((conv=>whnf);repeat (refine Wa ?_;(repeat (first|refine Wb ?_|refine Wc ?_|refine Wd ?_|refine We ?_|refine Wf ?_));(conv=>whnf)))
   refine ⟨by decide, ?_⟩
   rw [tmI]
   ((conv=>whnf);repeat (refine Wa ?_;(repeat (first|refine Wb ?_|refine Wc ?_|refine Wd ?_|refine We ?_|refine Wf ?_));(conv=>whnf)))
   repeat ((first | refine ⟨by omega, ?_⟩ | refine ⟨inr (by omega), ?_⟩ | refine eqn_self ?_ | refine ⟨ms (by omega), ?_⟩ | refine ⟨ms (by simp only [Src.n]; omega), ?_⟩ | refine ⟨msk (by omega), ?_⟩ | refine ⟨ms1, ?_⟩); ((conv=>whnf);repeat (refine Wa ?_;(repeat (first|refine Wb ?_|refine Wc ?_|refine Wd ?_|refine We ?_|refine Wf ?_));(conv=>whnf))))
   rw [Int.toNat_natCast]
   refine ⟨(show (0 : Int) ≤ (B k : Int) by omega), ?_⟩
   rw [show (t : Int).fdiv (2 ^ min ((fun j => (B j : Int)) k).toNat IntKind.i64.bits) = _ from shrN (s := t) (i := B k) (by omega)]
   ((conv=>whnf);repeat (refine Wa ?_;(repeat (first|refine Wb ?_|refine Wc ?_|refine Wd ?_|refine We ?_|refine Wf ?_));(conv=>whnf)))
   refine ⟨by decide, ?_⟩
   rw [tmI]
   have pA : 2 ^ A k < 9223372036854775808 := small _ (Nat.pow_lt_pow_right (by decide) hAk)
   have pB : 2 ^ B k < 9223372036854775808 := small _ (Nat.pow_lt_pow_right (by decide) hBk)
   have hor : t ||| 2 ^ A k < 9223372036854775808 := small _ (Nat.or_lt_two_pow ht (Nat.pow_lt_pow_right (by decide) hAk))
   have no : newB A B b t k = false → ∃ (t' k' : Nat) (ag' : Bool), k' ≤ m ∧ t' < 2 ^ n ∧ SubB s t' ∧ (∀ i, t'.testBit i = true → Rch A B m b c i) ∧ (ag' = false → t' = s ∧ ∀ j, j < k' → newB A B b s j = false) ∧ (ag' = true → unv t' n < unv s n) ∧ [stV false m (fun j => A j) (fun j => B j), .bool b, .int t, .bool ag, .int ((k : Int) + 1)] = [stV false m (fun j => A j) (fun j => B j), .bool b, .int t', .bool ag', .int k'] ∧ ([] : Mem) = [] := fun h => ⟨t, k + 1, ag, hk', ht, h4, h5, fun ha => ⟨(h6 ha).1, fun j hj => by
    by_cases hjk : j = k
    ·rw [hjk, ← (h6 ha).1]
     exact h
    ·exact (h6 ha).2 j (by omega)⟩, h7', rfl, rfl⟩
   have yes : newB A B b t k = true → ∃ (t' k' : Nat) (ag' : Bool), k' ≤ m ∧ t' < 2 ^ n ∧ SubB s t' ∧ (∀ i, t'.testBit i = true → Rch A B m b c i) ∧ (ag' = false → t' = s ∧ ∀ j, j < k' → newB A B b s j = false) ∧ (ag' = true → unv t' n < unv s n) ∧ [stV false m (fun j => A j) (fun j => B j), .bool b, .int (addS A B t k : Nat), .bool true, .int ((k : Int) + 1)] = [stV false m (fun j => A j) (fun j => B j), .bool b, .int t', .bool ag', .int k'] ∧ ([] : Mem) = [] := fun h => ⟨addS A B t k, k + 1, true, hk', addS_lt ht hAk hBk, h4.trans (addS_sub A B t k), addS_rch hk' h h5, fun ha => absurd ha (by simp), fun _ => by
    have := addS_unv (n := n) h hAk hBk
    have := unv_le h4 n
    omega, rfl, rfl⟩
   cases hp : t.testBit (A k) <;> cases hq : t.testBit (B k) <;> cases b
   ·((conv=>whnf);repeat (refine Wa ?_;(repeat (first|refine Wb ?_|refine Wc ?_|refine Wd ?_|refine We ?_|refine Wf ?_));(conv=>whnf)))
    refine ⟨inr (by omega), ?_⟩
    ((conv=>whnf);repeat (refine Wa ?_;(repeat (first|refine Wb ?_|refine Wc ?_|refine Wd ?_|refine We ?_|refine Wf ?_));(conv=>whnf)))
    exact ⟨no (by simp [newB, hp, hq]), by simp [V.toInt, sel, Env.get]; omega⟩
   ·((conv=>whnf);repeat (refine Wa ?_;(repeat (first|refine Wb ?_|refine Wc ?_|refine Wd ?_|refine We ?_|refine Wf ?_));(conv=>whnf)))
    refine ⟨inr (by omega), ?_⟩
    ((conv=>whnf);repeat (refine Wa ?_;(repeat (first|refine Wb ?_|refine Wc ?_|refine Wd ?_|refine We ?_|refine Wf ?_));(conv=>whnf)))
    exact ⟨no (by simp [newB, hp, hq]), by simp [V.toInt, sel, Env.get]; omega⟩
   ·((conv=>whnf);repeat (refine Wa ?_;(repeat (first|refine Wb ?_|refine Wc ?_|refine Wd ?_|refine We ?_|refine Wf ?_));(conv=>whnf)))
    refine ⟨inr (by omega), ?_⟩
    ((conv=>whnf);repeat (refine Wa ?_;(repeat (first|refine Wb ?_|refine Wc ?_|refine Wd ?_|refine We ?_|refine Wf ?_));(conv=>whnf)))
    exact ⟨no (by simp [newB, hp, hq]), by simp [V.toInt, sel, Env.get]; omega⟩
   ·((conv=>whnf);repeat (refine Wa ?_;(repeat (first|refine Wb ?_|refine Wc ?_|refine Wd ?_|refine We ?_|refine Wf ?_));(conv=>whnf)))
    refine AW_draw (X := cx 70) (cx_ok 70) mixed (by kernel_rfl) ?_
    ((conv=>whnf);repeat (refine Wa ?_;(repeat (first|refine Wb ?_|refine Wc ?_|refine Wd ?_|refine We ?_|refine Wf ?_));(conv=>whnf)))
    repeat ((first | refine ⟨by omega, ?_⟩ | refine ⟨inr (by omega), ?_⟩ | refine eqn_self ?_ | refine ⟨ms (by omega), ?_⟩ | refine ⟨ms (by simp only [Src.n]; omega), ?_⟩ | refine ⟨msk (by omega), ?_⟩ | refine ⟨ms1, ?_⟩); ((conv=>whnf);repeat (refine Wa ?_;(repeat (first|refine Wb ?_|refine Wc ?_|refine Wd ?_|refine We ?_|refine Wf ?_));(conv=>whnf))))
    rw [Int.toNat_natCast]
    refine ⟨(show (0 : Int) ≤ (A k : Int) by omega), ?_⟩
    rw [show IntKind.i64.wrap (1 * 2 ^ (min ((fun j => (A j : Int)) k).toNat IntKind.i64.bits)) = _ from shlI (i := A k) (by omega)]
    ((conv=>whnf);repeat (refine Wa ?_;(repeat (first|refine Wb ?_|refine Wc ?_|refine Wd ?_|refine We ?_|refine Wf ?_));(conv=>whnf)))
    rw [orI ht63 pA]
    repeat ((first | refine ⟨by omega, ?_⟩ | refine ⟨inr (by omega), ?_⟩ | refine eqn_self ?_ | refine ⟨ms (by omega), ?_⟩ | refine ⟨ms (by simp only [Src.n]; omega), ?_⟩ | refine ⟨msk (by omega), ?_⟩ | refine ⟨ms1, ?_⟩); ((conv=>whnf);repeat (refine Wa ?_;(repeat (first|refine Wb ?_|refine Wc ?_|refine Wd ?_|refine We ?_|refine Wf ?_));(conv=>whnf))))
    rw [Int.toNat_natCast]
    refine ⟨(show (0 : Int) ≤ (B k : Int) by omega), ?_⟩
    rw [show IntKind.i64.wrap (1 * 2 ^ (min ((fun j => (B j : Int)) k).toNat IntKind.i64.bits)) = _ from shlI (i := B k) (by omega)]
    ((conv=>whnf);repeat (refine Wa ?_;(repeat (first|refine Wb ?_|refine Wc ?_|refine Wd ?_|refine We ?_|refine Wf ?_));(conv=>whnf)))
    rw [orI hor pB]
    refine ⟨inr (by omega), ?_⟩
    ((conv=>whnf);repeat (refine Wa ?_;(repeat (first|refine Wb ?_|refine Wc ?_|refine Wd ?_|refine We ?_|refine Wf ?_));(conv=>whnf)))
    exact ⟨yes (by simp [newB, hp, hq]), by simp [V.toInt, sel, Env.get]; omega⟩
   ·((conv=>whnf);repeat (refine Wa ?_;(repeat (first|refine Wb ?_|refine Wc ?_|refine Wd ?_|refine We ?_|refine Wf ?_));(conv=>whnf)))
    refine AW_draw (X := cx 70) (cx_ok 70) mixed (by kernel_rfl) ?_
    ((conv=>whnf);repeat (refine Wa ?_;(repeat (first|refine Wb ?_|refine Wc ?_|refine Wd ?_|refine We ?_|refine Wf ?_));(conv=>whnf)))
    repeat ((first | refine ⟨by omega, ?_⟩ | refine ⟨inr (by omega), ?_⟩ | refine eqn_self ?_ | refine ⟨ms (by omega), ?_⟩ | refine ⟨ms (by simp only [Src.n]; omega), ?_⟩ | refine ⟨msk (by omega), ?_⟩ | refine ⟨ms1, ?_⟩); ((conv=>whnf);repeat (refine Wa ?_;(repeat (first|refine Wb ?_|refine Wc ?_|refine Wd ?_|refine We ?_|refine Wf ?_));(conv=>whnf))))
    rw [Int.toNat_natCast]
    refine ⟨(show (0 : Int) ≤ (A k : Int) by omega), ?_⟩
    rw [show IntKind.i64.wrap (1 * 2 ^ (min ((fun j => (A j : Int)) k).toNat IntKind.i64.bits)) = _ from shlI (i := A k) (by omega)]
    ((conv=>whnf);repeat (refine Wa ?_;(repeat (first|refine Wb ?_|refine Wc ?_|refine Wd ?_|refine We ?_|refine Wf ?_));(conv=>whnf)))
    rw [orI ht63 pA]
    repeat ((first | refine ⟨by omega, ?_⟩ | refine ⟨inr (by omega), ?_⟩ | refine eqn_self ?_ | refine ⟨ms (by omega), ?_⟩ | refine ⟨ms (by simp only [Src.n]; omega), ?_⟩ | refine ⟨msk (by omega), ?_⟩ | refine ⟨ms1, ?_⟩); ((conv=>whnf);repeat (refine Wa ?_;(repeat (first|refine Wb ?_|refine Wc ?_|refine Wd ?_|refine We ?_|refine Wf ?_));(conv=>whnf))))
    rw [Int.toNat_natCast]
    refine ⟨(show (0 : Int) ≤ (B k : Int) by omega), ?_⟩
    rw [show IntKind.i64.wrap (1 * 2 ^ (min ((fun j => (B j : Int)) k).toNat IntKind.i64.bits)) = _ from shlI (i := B k) (by omega)]
    ((conv=>whnf);repeat (refine Wa ?_;(repeat (first|refine Wb ?_|refine Wc ?_|refine Wd ?_|refine We ?_|refine Wf ?_));(conv=>whnf)))
    rw [orI hor pB]
    refine ⟨inr (by omega), ?_⟩
    ((conv=>whnf);repeat (refine Wa ?_;(repeat (first|refine Wb ?_|refine Wc ?_|refine Wd ?_|refine We ?_|refine Wf ?_));(conv=>whnf)))
    exact ⟨yes (by simp [newB, hp, hq]), by simp [V.toInt, sel, Env.get]; omega⟩
   ·((conv=>whnf);repeat (refine Wa ?_;(repeat (first|refine Wb ?_|refine Wc ?_|refine Wd ?_|refine We ?_|refine Wf ?_));(conv=>whnf)))
    refine AW_draw (X := cx 70) (cx_ok 70) mixed (by kernel_rfl) ?_
    ((conv=>whnf);repeat (refine Wa ?_;(repeat (first|refine Wb ?_|refine Wc ?_|refine Wd ?_|refine We ?_|refine Wf ?_));(conv=>whnf)))
    repeat ((first | refine ⟨by omega, ?_⟩ | refine ⟨inr (by omega), ?_⟩ | refine eqn_self ?_ | refine ⟨ms (by omega), ?_⟩ | refine ⟨ms (by simp only [Src.n]; omega), ?_⟩ | refine ⟨msk (by omega), ?_⟩ | refine ⟨ms1, ?_⟩); ((conv=>whnf);repeat (refine Wa ?_;(repeat (first|refine Wb ?_|refine Wc ?_|refine Wd ?_|refine We ?_|refine Wf ?_));(conv=>whnf))))
    rw [Int.toNat_natCast]
    refine ⟨(show (0 : Int) ≤ (A k : Int) by omega), ?_⟩
    rw [show IntKind.i64.wrap (1 * 2 ^ (min ((fun j => (A j : Int)) k).toNat IntKind.i64.bits)) = _ from shlI (i := A k) (by omega)]
    ((conv=>whnf);repeat (refine Wa ?_;(repeat (first|refine Wb ?_|refine Wc ?_|refine Wd ?_|refine We ?_|refine Wf ?_));(conv=>whnf)))
    rw [orI ht63 pA]
    repeat ((first | refine ⟨by omega, ?_⟩ | refine ⟨inr (by omega), ?_⟩ | refine eqn_self ?_ | refine ⟨ms (by omega), ?_⟩ | refine ⟨ms (by simp only [Src.n]; omega), ?_⟩ | refine ⟨msk (by omega), ?_⟩ | refine ⟨ms1, ?_⟩); ((conv=>whnf);repeat (refine Wa ?_;(repeat (first|refine Wb ?_|refine Wc ?_|refine Wd ?_|refine We ?_|refine Wf ?_));(conv=>whnf))))
    rw [Int.toNat_natCast]
    refine ⟨(show (0 : Int) ≤ (B k : Int) by omega), ?_⟩
    rw [show IntKind.i64.wrap (1 * 2 ^ (min ((fun j => (B j : Int)) k).toNat IntKind.i64.bits)) = _ from shlI (i := B k) (by omega)]
    ((conv=>whnf);repeat (refine Wa ?_;(repeat (first|refine Wb ?_|refine Wc ?_|refine Wd ?_|refine We ?_|refine Wf ?_));(conv=>whnf)))
    rw [orI hor pB]
    refine ⟨inr (by omega), ?_⟩
    ((conv=>whnf);repeat (refine Wa ?_;(repeat (first|refine Wb ?_|refine Wc ?_|refine Wd ?_|refine We ?_|refine Wf ?_));(conv=>whnf)))
    exact ⟨yes (by simp [newB, hp, hq]), by simp [V.toInt, sel, Env.get]; omega⟩
   ·((conv=>whnf);repeat (refine Wa ?_;(repeat (first|refine Wb ?_|refine Wc ?_|refine Wd ?_|refine We ?_|refine Wf ?_));(conv=>whnf)))
    refine ⟨inr (by omega), ?_⟩
    ((conv=>whnf);repeat (refine Wa ?_;(repeat (first|refine Wb ?_|refine Wc ?_|refine Wd ?_|refine We ?_|refine Wf ?_));(conv=>whnf)))
    exact ⟨no (by simp [newB, hp, hq]), by simp [V.toInt, sel, Env.get]; omega⟩
   ·((conv=>whnf);repeat (refine Wa ?_;(repeat (first|refine Wb ?_|refine Wc ?_|refine Wd ?_|refine We ?_|refine Wf ?_));(conv=>whnf)))
    refine ⟨inr (by omega), ?_⟩
    ((conv=>whnf);repeat (refine Wa ?_;(repeat (first|refine Wb ?_|refine Wc ?_|refine Wd ?_|refine We ?_|refine Wf ?_));(conv=>whnf)))
    exact ⟨no (by simp [newB, hp, hq]), by simp [V.toInt, sel, Env.get]; omega⟩
  ·obtain rfl : k = m := by omega
   ((conv=>whnf);repeat (refine Wa ?_;(repeat (first|refine Wb ?_|refine Wc ?_|refine Wd ?_|refine We ?_|refine Wf ?_));(conv=>whnf)))
   refine ⟨⟨t, ag, ht, h4 _ h0, h5, fun h j hj => ?_, rfl, rfl⟩, ?_⟩
   ·obtain ⟨rfl, h8⟩ := h6 h
    exact h8 j hj
   ·simp [V.toInt, V.toBool, sel, Env.get]
    have := unv_le h4 n
    cases ag with
    | true => have := h7' rfl; simp; omega
    | false => simp; omega
 ·((conv=>whnf);repeat (refine Wa ?_;(repeat (first|refine Wb ?_|refine Wc ?_|refine Wd ?_|refine We ?_|refine Wf ?_));(conv=>whnf)))
  refine ⟨trivial, Qi ?_⟩
  exact congrArg (fun x : Nat => (x : Int)) (rcN_eq hA hB hc h0 h1 (h3 hag))
end Go.Tri
