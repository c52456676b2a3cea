/-
 CONTRACTS: the streets that lead out of a set; is it a cut?
-/
import Derived.Test.YtafibngpgllcfaaB3
import Derived.Test.YtafibngpgllcfaaB6
import Derived.Test.YtafibngpgllcfaaM2
namespace Go.Tri
open Go.Proofs

/-- A quarter within its limits. -/
structure Qn (n m : Nat) (A B : Nat → Nat) : Prop where
 lo : 2 ≤ n
 hi : n ≤ 7
 sm : m ≤ 14
 hA : ∀ j, j < m → A j < n
 hB : ∀ j, j < m → B j < n
@[reducible] def qu (n m : Nat) (A B : Nat → Nat) : V := quV n m (fun j => A j) (fun j => B j)
theorem nofrQ' {n m : Nat} {A B : Nat → Int} : NoFr (quV n m A B) := fun k => nofrQ k
theorem nofrInt {a : Int} : NoFr (.int a) := trivial
@[reducible] def quO (n m : Nat) (A B : Nat → Int) : Ob := ⟨57, 2, 0, .one [.int n, stV false m A B]⟩
theorem subQ {g : Nat → V} {M : Mem} {d n m : Nat} {A B : Nat → Int} (h0 : g 0 = .int n) (h1 : g 1 = .seq false 2 m fun j k => byvalN M (d + 1) (raS A B j k)) : Sub (.agg 2 g) (quV n m A B) := sub_agg fun i hi => by
 rcases (by omega : i = 0 ∨ i = 1) with rfl | rfl
 ·rw [h0]
  exact Sub.refl _
 ·rw [h1]
  exact subS
set_option maxRecDepth 100000 in
theorem leaving_pure {n m : Nat} {A B : Nat → Nat} (hQ : Qn n m A B) (s : Nat) (hs : s < 9223372036854775808) : APure Try.prog 48 [qu n m A B, .int s] (fun R => R = .int (lvS A B s m : Nat)) := by
 refine APure_of (X := cx 33) (cx_ok 33) rfl (rs := [(.tmp 4, 3)]) Try.func48 (by decide) rfl rfl rfl (by simp [cx]) (nofr2 nofrQ' nofrInt) ?_
 intro hlen
 obtain ⟨h2, h7, hm, hA, hB⟩ := hQ
 ((conv=>whnf);repeat (refine Wa ?_;(repeat (first|refine Wb ?_|refine Wc ?_|refine Wd ?_|refine We ?_|refine Wf ?_));(conv=>whnf)))
 refine AW_loopA (X := cx 33) (cx_ok 33) [1, 5, 9, 10, 11] (cutN 1) (fun vs M => ∃ k : Nat, k ≤ m ∧ vs = [.int s, .int (lvS A B s k : Nat), stV false m (fun j => A j) (fun j => B j), .int m, .int k] ∧ M = [some (quO n m (fun j => A j) (fun j => B j))]) (fun vs _ => m - (vs.getD 4 .any).toInt.toNat) (fun t ht => cutN_iff.2 ht) ?_ ?_
 ·exact same0 ⟨0, Nat.zero_le _, rfl, rfl⟩
 rintro vs M ⟨k, hk, rfl, rfl⟩
 ((conv=>whnf);repeat (refine Wa ?_;(repeat (first|refine Wb ?_|refine Wc ?_|refine Wd ?_|refine We ?_|refine Wf ?_));(conv=>whnf)))
 refine br_dec (fun hlt => ?_) (fun hge => ?_)
 ·have hk' : k < m := by omega
  have hAk := hA k hk'
  have hBk := hB k hk'
  have c1 := has_pure (s := s) (i := A k) hs (by omega)
  have c2 := has_pure (s := s) (i := B k) hs (by omega)
  have e : (lvS A B s (k + 1)) = if (s.testBit (A k) && !s.testBit (B k)) = true then lvS A B s k ||| 2 ^ k else lvS A B s k := rfl
  ((conv=>whnf);repeat (refine Wa ?_;(repeat (first|refine Wb ?_|refine Wc ?_|refine Wd ?_|refine We ?_|refine Wf ?_));(conv=>whnf)))
  repeat ((first | refine ⟨by omega, ?_⟩ | refine ⟨inr (by omega), ?_⟩ | refine eqn_self ?_ | refine ⟨ms (by omega), ?_⟩ | refine ⟨ms (by simp only [Src.n]; omega), ?_⟩ | refine ⟨msk (by omega), ?_⟩ | refine ⟨ms1, ?_⟩); ((conv=>whnf);repeat (refine Wa ?_;(repeat (first|refine Wb ?_|refine Wc ?_|refine Wd ?_|refine We ?_|refine Wf ?_));(conv=>whnf))))
  rw [Int.toNat_natCast]
  refine APure.to c1 ?_
  ((conv=>whnf);repeat (refine Wa ?_;(repeat (first|refine Wb ?_|refine Wc ?_|refine Wd ?_|refine We ?_|refine Wf ?_));(conv=>whnf)))
  have hl : lvS A B s k < 9223372036854775808 := lt63 (lvS_lt A B s k) (by omega)
  have hp : 2 ^ k < 9223372036854775808 := lt63 (Nat.pow_lt_pow_right (by decide) (Nat.lt_succ_self k)) (by omega)
  have rnd : ∀ t : Nat, lvS A B s (k + 1) = t → (∃ k' : Nat, k' ≤ m ∧ [V.int s, V.int t, stV false m (fun j => A j) (fun j => B j), V.int m, V.int ((k : Int) + 1)] = [V.int s, V.int (lvS A B s k' : Nat), stV false m (fun j => A j) (fun j => B j), V.int m, V.int k'] ∧ [some (quO n m (fun j => A j) (fun j => B j))] = [some (quO n m (fun j => A j) (fun j => B j))]) := fun t ht => ⟨k + 1, hk', by rw [ht]; rfl, rfl⟩
  refine br_mk (fun hb => ?_) (fun hb => ?_)
  ·((conv=>whnf);repeat (refine Wa ?_;(repeat (first|refine Wb ?_|refine Wc ?_|refine Wd ?_|refine We ?_|refine Wf ?_));(conv=>whnf)))
   refine APure.to c2 ?_
   ((conv=>whnf);repeat (refine Wa ?_;(repeat (first|refine Wb ?_|refine Wc ?_|refine Wd ?_|refine We ?_|refine Wf ?_));(conv=>whnf)))
   refine br_not ?_
   refine br_mk (fun hb2 => ?_) (fun hb2 => ?_)
   ·rw [hb, hb2] at e
    ((conv=>whnf);repeat (refine Wa ?_;(repeat (first|refine Wb ?_|refine Wc ?_|refine Wd ?_|refine We ?_|refine Wf ?_));(conv=>whnf)))
    refine ⟨inr (by omega), ?_⟩
    ((conv=>whnf);repeat (refine Wa ?_;(repeat (first|refine Wb ?_|refine Wc ?_|refine Wd ?_|refine We ?_|refine Wf ?_));(conv=>whnf)))
    refine ⟨?_, same1 ⟨rnd _ e, by simp [V.toInt, sel, Env.get]; omega⟩⟩
    exact ⟨by repeat (first|exact trivial|exact rfl|exact namedS|exact fun _=>trivial|exact fun _ _=>trivial|exact fun _ _ _=>trivial|exact fun _ _ _ _=>trivial|refine And.intro ?_ ?_), ⟨trivial, namedS, trivial⟩, trivial⟩
   ·rw [hb, hb2] at e
    ((conv=>whnf);repeat (refine Wa ?_;(repeat (first|refine Wb ?_|refine Wc ?_|refine Wd ?_|refine We ?_|refine Wf ?_));(conv=>whnf)))
    refine ⟨by omega, ?_⟩
    rw [shlI (by omega)]
    ((conv=>whnf);repeat (refine Wa ?_;(repeat (first|refine Wb ?_|refine Wc ?_|refine Wd ?_|refine We ?_|refine Wf ?_));(conv=>whnf)))
    rw [orI hl hp]
    ((conv=>whnf);repeat (refine Wa ?_;(repeat (first|refine Wb ?_|refine Wc ?_|refine Wd ?_|refine We ?_|refine Wf ?_));(conv=>whnf)))
    refine ⟨inr (by omega), ?_⟩
    ((conv=>whnf);repeat (refine Wa ?_;(repeat (first|refine Wb ?_|refine Wc ?_|refine Wd ?_|refine We ?_|refine Wf ?_));(conv=>whnf)))
    refine ⟨?_, same1 ⟨rnd _ e, by simp [V.toInt, sel, Env.get]; omega⟩⟩
    exact ⟨by repeat (first|exact trivial|exact rfl|exact namedS|exact fun _=>trivial|exact fun _ _=>trivial|exact fun _ _ _=>trivial|exact fun _ _ _ _=>trivial|refine And.intro ?_ ?_), ⟨trivial, namedS, trivial⟩, trivial⟩
  ·rw [hb] at e
   ((conv=>whnf);repeat (refine Wa ?_;(repeat (first|refine Wb ?_|refine Wc ?_|refine Wd ?_|refine We ?_|refine Wf ?_));(conv=>whnf)))
   refine ⟨inr (by omega), ?_⟩
   ((conv=>whnf);repeat (refine Wa ?_;(repeat (first|refine Wb ?_|refine Wc ?_|refine Wd ?_|refine We ?_|refine Wf ?_));(conv=>whnf)))
   refine ⟨?_, same1 ⟨rnd _ e, by simp [V.toInt, sel, Env.get]; omega⟩⟩
   exact ⟨by repeat (first|exact trivial|exact rfl|exact namedS|exact fun _=>trivial|exact fun _ _=>trivial|exact fun _ _ _=>trivial|exact fun _ _ _ _=>trivial|refine And.intro ?_ ?_), ⟨trivial, namedS, trivial⟩, trivial⟩
 ·obtain rfl : k = m := by omega
  ((conv=>whnf);repeat (refine Wa ?_;(repeat (first|refine Wb ?_|refine Wc ?_|refine Wd ?_|refine We ?_|refine Wf ?_));(conv=>whnf)))
  exact ⟨trivial, rfl⟩
end Go.Tri
