/-
 CONTRACTS: the smallest cut.
-/
import Derived.Test.YtafibngpgllcfaaB13
namespace Go.Tri
open Go.Proofs

@[reducible] def tup2 (a b : V) : V := .tup 2 fun k => match k with | 0 => a | _ => b
@[reducible] def tup3 (a b c : V) : V := .tup 3 fun k => match k with | 0 => a | 1 => b | _ => c
/-- How many streets a cut has. -/
def szC (m : Nat) (A B : Nat → Nat) (c : Int) : Nat := ct (lvS A B c.toNat m) 14
/-- The smallest of the first k. -/
def smF (m : Nat) (A B : Nat → Nat) (L : List Int) : Nat → Int × Int
 | 0 => (0, 0)
 | k + 1 => if (smF m A B L k).2 = 0 ∨ (szC m A B (L.getD k 0) : Int) < (smF m A B L k).1 then ((szC m A B (L.getD k 0) : Int), L.getD k 0) else smF m A B L k
theorem lv_small {n m : Nat} {A B : Nat → Nat} (hQ : Qn n m A B) (s : Nat) : lvS A B s m < 16384 := Nat.lt_of_lt_of_le (lvS_lt A B s m) (Nat.pow_le_pow_right (by decide) hQ.sm)
theorem nofrCu {m : Nat} {A B : Nat → Nat} {L : List Int} : NoFr (cusV m A B false L) := ⟨rfl, fun j k => by unfold cuF; split <;> trivial⟩
theorem subCu {M : Mem} {d m : Nat} {A B : Nat → Nat} {L : List Int} : Sub (.seq false 2 L.length fun j k => byvalN M (d + 1) (cuF m A B L j k)) (cusV m A B false L) := sub_seq fun j k _ _ => Sub.of (by unfold cuF; split <;> rfl)
set_option maxRecDepth 100000 in
theorem smallest_pure {n m : Nat} {A B : Nat → Nat} (hQ : Qn n m A B) (L : List Int) : APure Try.prog 52 [cusV m A B false L] (fun R => R = tup2 (.int (smF m A B L L.length).1) (.int (smF m A B L L.length).2)) := by
 refine APure_of (X := cx 30) (cx_ok 30) rfl (rs := [(.tmp 2, 3), (.tmp 3, 3)]) Try.func52 (by decide) rfl rfl rfl (by simp [cx]) (nofr1 nofrCu) ?_
 intro hlen
 have hl : (L.length : Int) ≤ 9223372036854775807 := hlen _ (List.mem_cons_self ..)
 ((conv=>whnf);repeat (refine Wa ?_;(repeat (first|refine Wb ?_|refine Wc ?_|refine Wd ?_|refine We ?_|refine Wf ?_));(conv=>whnf)))
 refine AW_loopA (X := cx 30) (cx_ok 30) [2, 3, 7, 8, 9] (cutN 0) (fun vs M => ∃ k : Nat, k ≤ L.length ∧ vs = [.int (smF m A B L k).1, .int (smF m A B L k).2, cusV m A B false L, .int L.length, .int k] ∧ M = []) (fun vs _ => L.length - (vs.getD 4 .any).toInt.toNat) (fun t ht => absurd ht (Nat.not_lt_zero _)) ?_ ?_
 ·exact same0 ⟨0, Nat.zero_le _, rfl, rfl⟩
 rintro vs M ⟨k, hk, rfl, rfl⟩
 ((conv=>whnf);repeat (refine Wa ?_;(repeat (first|refine Wb ?_|refine Wc ?_|refine Wd ?_|refine We ?_|refine Wf ?_));(conv=>whnf)))
 refine br_dec (fun hlt => ?_) (fun hge => ?_)
 ·have hk' : k < L.length := by omega
  have c1 := Ones_pure (lvS A B (L.getD k 0).toNat m) (lv_small hQ _)
  ((conv=>whnf);repeat (refine Wa ?_;(repeat (first|refine Wb ?_|refine Wc ?_|refine Wd ?_|refine We ?_|refine Wf ?_));(conv=>whnf)))
  repeat ((first | refine ⟨by omega, ?_⟩ | refine ⟨inr (by omega), ?_⟩ | refine eqn_self ?_ | refine ⟨ms (by omega), ?_⟩ | refine ⟨ms (by simp only [Src.n]; omega), ?_⟩ | refine ⟨msk (by omega), ?_⟩ | refine ⟨ms1, ?_⟩); ((conv=>whnf);repeat (refine Wa ?_;(repeat (first|refine Wb ?_|refine Wc ?_|refine Wd ?_|refine We ?_|refine Wf ?_));(conv=>whnf))))
  rw [Int.toNat_natCast]
  have hw : lvS A B (L.getD k 0).toNat m < 16384 := lv_small hQ _
  rw [wrU (by omega)]
  refine APure.to c1 ?_
  have e : smF m A B L (k + 1) = if (smF m A B L k).2 = 0 ∨ (szC m A B (L.getD k 0) : Int) < (smF m A B L k).1 then ((szC m A B (L.getD k 0) : Int), L.getD k 0) else smF m A B L k := rfl
  have rnd : ∀ p : Int × Int, smF m A B L (k + 1) = p → (∃ k' : Nat, k' ≤ L.length ∧ [V.int p.1, V.int p.2, cusV m A B false L, V.int L.length, V.int ((k : Int) + 1)] = [V.int (smF m A B L k').1, V.int (smF m A B L k').2, cusV m A B false L, V.int L.length, V.int k'] ∧ ([] : Mem) = []) := fun p hp => ⟨k + 1, hk', by rw [hp]; rfl, rfl⟩
  ((conv=>whnf);repeat (refine Wa ?_;(repeat (first|refine Wb ?_|refine Wc ?_|refine Wd ?_|refine We ?_|refine Wf ?_));(conv=>whnf)))
  refine br_eq (fun h => ?_) (fun h => ?_)
  ·have h : (smF m A B L k).2 = 0 := h
   rw [if_pos (.inl h)] at e
   ((conv=>whnf);repeat (refine Wa ?_;(repeat (first|refine Wb ?_|refine Wc ?_|refine Wd ?_|refine We ?_|refine Wf ?_));(conv=>whnf)))
   refine AW_draw (X := cx 30) (cx_ok 30) mixed (by kernel_rfl) ?_
   ((conv=>whnf);repeat (refine Wa ?_;(repeat (first|refine Wb ?_|refine Wc ?_|refine Wd ?_|refine We ?_|refine Wf ?_));(conv=>whnf)))
   refine ⟨inr (by omega), ?_⟩
   ((conv=>whnf);repeat (refine Wa ?_;(repeat (first|refine Wb ?_|refine Wc ?_|refine Wd ?_|refine We ?_|refine Wf ?_));(conv=>whnf)))
   refine ⟨?_, same1 ⟨rnd _ e, by simp [V.toInt, sel, Env.get]; omega⟩⟩
   exact ⟨⟨trivial, trivial, fun j q _ _ => namedCu, trivial, trivial, trivial⟩, trivial⟩
  ·have h : (smF m A B L k).2 ≠ 0 := h
   ((conv=>whnf);repeat (refine Wa ?_;(repeat (first|refine Wb ?_|refine Wc ?_|refine Wd ?_|refine We ?_|refine Wf ?_));(conv=>whnf)))
   refine br_dec (fun h2 => ?_) (fun h2 => ?_)
   ·have h2 : (szC m A B (L.getD k 0) : Int) < (smF m A B L k).1 := h2
    rw [if_pos (.inr h2)] at e
    ((conv=>whnf);repeat (refine Wa ?_;(repeat (first|refine Wb ?_|refine Wc ?_|refine Wd ?_|refine We ?_|refine Wf ?_));(conv=>whnf)))
    refine AW_draw (X := cx 30) (cx_ok 30) mixed (by kernel_rfl) ?_
    ((conv=>whnf);repeat (refine Wa ?_;(repeat (first|refine Wb ?_|refine Wc ?_|refine Wd ?_|refine We ?_|refine Wf ?_));(conv=>whnf)))
    refine ⟨inr (by omega), ?_⟩
    ((conv=>whnf);repeat (refine Wa ?_;(repeat (first|refine Wb ?_|refine Wc ?_|refine Wd ?_|refine We ?_|refine Wf ?_));(conv=>whnf)))
    refine ⟨?_, same1 ⟨rnd _ e, by simp [V.toInt, sel, Env.get]; omega⟩⟩
    exact ⟨⟨trivial, trivial, fun j q _ _ => namedCu, trivial, trivial, trivial⟩, trivial⟩
   ·have h2 : ¬ (szC m A B (L.getD k 0) : Int) < (smF m A B L k).1 := h2
    rw [if_neg (by intro h3; rcases h3 with h3 | h3; exact h h3; exact h2 h3)] at e
    ((conv=>whnf);repeat (refine Wa ?_;(repeat (first|refine Wb ?_|refine Wc ?_|refine Wd ?_|refine We ?_|refine Wf ?_));(conv=>whnf)))
    refine ⟨inr (by omega), ?_⟩
    ((conv=>whnf);repeat (refine Wa ?_;(repeat (first|refine Wb ?_|refine Wc ?_|refine Wd ?_|refine We ?_|refine Wf ?_));(conv=>whnf)))
    refine ⟨?_, same1 ⟨rnd _ e, by simp [V.toInt, sel, Env.get]; omega⟩⟩
    exact ⟨⟨trivial, trivial, fun j q _ _ => namedCu, trivial, trivial, trivial⟩, trivial⟩
 ·obtain rfl : k = L.length := by omega
  ((conv=>whnf);repeat (refine Wa ?_;(repeat (first|refine Wb ?_|refine Wc ?_|refine Wd ?_|refine We ?_|refine Wf ?_));(conv=>whnf)))
  exact ⟨trivial, trivial, rfl⟩
end Go.Tri
