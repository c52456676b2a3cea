/-
 CONTRACTS: Smallest of the specification.
-/
import Derived.Test.YtafibngpgllcfaaB19
namespace Go.Tri
open Go.Proofs

theorem ct_le {n m : Nat} {A B : Nat → Nat} (hQ : Qn n m A B) (c : Int) : szC m A B c ≤ m := by
 unfold szC
 rw [← mbL_ct]
 obtain ⟨q, hq⟩ : ∃ q, 14 = m + q := ⟨14 - m, by have := hQ.sm; omega⟩
 rw [hq, mbL_more (lvS_lt A B c.toNat m) q]
 exact mbL_len _ m
/-- The specification's smallest of the first k. -/
def rsF (m : Nat) (A B : Nat → Nat) (L : List Int) (k : Nat) : Int × Int := if k = 0 then ((m : Int) + 1, 0) else smF m A B L k
theorem smF_snd {m : Nat} {A B : Nat → Nat} {L : List Int} (hL : ∀ j, j < L.length → L.getD j 0 ≠ 0) : ∀ k, k < L.length → (smF m A B L (k + 1)).2 ≠ 0 := by
 intro k
 induction k with
 | zero =>
  intro hk
  simp only [smF]
  rw [if_pos (.inl trivial)]
  exact hL 0 hk
 | succ k ih =>
  intro hk
  rw [smF]
  split
  ·exact hL (k + 1) hk
  ·exact ih (by omega)
theorem rsF_succ {n m : Nat} {A B : Nat → Nat} (hQ : Qn n m A B) {L : List Int} (hL : ∀ j, j < L.length → L.getD j 0 ≠ 0) {k : Nat} (hk : k < L.length) : rsF m A B L (k + 1) = if (szC m A B (L.getD k 0) : Int) < (rsF m A B L k).1 then ((szC m A B (L.getD k 0) : Int), L.getD k 0) else rsF m A B L k := by
 unfold rsF
 rw [if_neg (Nat.succ_ne_zero k)]
 have h1 := ct_le hQ (L.getD k 0)
 cases k with
 | zero =>
  rw [if_pos rfl]
  simp only [smF]
  rw [if_pos (.inl trivial), if_pos (by omega)]
 | succ k =>
  rw [if_neg (Nat.succ_ne_zero k)]
  rw [smF]
  have := smF_snd (m := m) (A := A) (B := B) hL k (by omega)
  by_cases h : (szC m A B (L.getD (k + 1) 0) : Int) < (smF m A B L (k + 1)).1
  ·rw [if_pos (.inr h), if_pos h]
  ·rw [if_neg (by intro h3; rcases h3 with h3 | h3; exact this h3; exact h h3), if_neg h]
theorem cutL_pos {n m : Nat} {A B : Nat → Nat} {k : Nat} : ∀ j, j < (cutL n m A B k).length → (cutL n m A B k).getD j 0 ≠ 0 := fun j hj => by
 obtain ⟨s, _, h2, h3⟩ := (cutL_mem k).1 (getD_mem hj)
 rw [h3]
 unfold cutB at h2
 simp only [Bool.and_eq_true, decide_eq_true_iff] at h2
 omega
theorem cutL_nat {n m : Nat} {A B : Nat → Nat} {k j : Nat} (hj : j < (cutL n m A B k).length) : ∃ s : Nat, s < k ∧ cutB n m A B s = true ∧ (cutL n m A B k).getD j 0 = s := (cutL_mem k).1 (getD_mem hj)
set_option maxRecDepth 100000 in
theorem rSmallest_bad {n : Int} {m : Nat} {A B : Nat → Int} (h : ckE n m A B ≠ 0) : APure Try.prog 23 [.int n, stV false m A B] (fun R => R = tup3 (.int 0) (.int 0) (.int (ckE n m A B))) := by
 refine APure_of (X := cx 52) (cx_ok 52) rfl (rs := [(.tmp 4, 3), (.tmp 5, 3), (.tmp 6, 26)]) Try.func23 (by decide) rfl rfl rfl (by simp [cx]) (nofrN2) ?_
 intro hlen
 have c1 := Quarter_pure n m A B
 ((conv=>whnf);repeat (refine Wa ?_;(repeat (first|refine Wb ?_|refine Wc ?_|refine Wd ?_|refine We ?_|refine Wf ?_));(conv=>whnf)))
 refine APure.to (APure.arg2 (Sub.refl _) subS c1) ?_
 ((conv=>whnf);repeat (refine Wa ?_;(repeat (first|refine Wb ?_|refine Wc ?_|refine Wd ?_|refine We ?_|refine Wf ?_));(conv=>whnf)))
 refine br_ne (fun _ => ?_) (fun h' => absurd h' h)
 ((conv=>whnf);repeat (refine Wa ?_;(repeat (first|refine Wb ?_|refine Wc ?_|refine Wd ?_|refine We ?_|refine Wf ?_));(conv=>whnf)))
 exact ⟨trivial, trivial, trivial, rfl⟩
set_option maxRecDepth 100000 in
theorem rSmallest_pure {n m : Nat} {A B : Nat → Nat} (h : Qok n m A B) : APure Try.prog 23 [.int n, stV false m (fun j => A j) (fun j => B j)] (fun R => R = smV m A B (cutL n m A B (fullN n))) := by
 refine APure_of (X := cx 52) (cx_ok 52) rfl (rs := [(.tmp 4, 3), (.tmp 5, 3), (.tmp 6, 26)]) Try.func23 (by decide) rfl rfl rfl (by simp [cx]) (nofrN2) ?_
 intro hlen
 have c1 := Quarter_pure n m (fun j => A j) (fun j => B j)
 rw [ckE_ok h] at c1
 have c2 := rcuts_pure h.q
 have hLp := cutL_pos (n := n) (m := m) (A := A) (B := B) (k := fullN n)
 have hLn : ∀ j, j < (cutL n m A B (fullN n)).length → ∃ s : Nat, s < fullN n ∧ cutB n m A B s = true ∧ (cutL n m A B (fullN n)).getD j 0 = s := fun j hj => cutL_nat hj
 have hll := cutL_len (n := n) (m := m) (A := A) (B := B) (fullN n)
 obtain ⟨L, hLe⟩ : ∃ L, cutL n m A B (fullN n) = L := ⟨_, rfl⟩
 rw [hLe] at c2 hLp hLn hll ⊢
 have hf := full_le h.q.hi
 have hm := h.q.sm
 ((conv=>whnf);repeat (refine Wa ?_;(repeat (first|refine Wb ?_|refine Wc ?_|refine Wd ?_|refine We ?_|refine Wf ?_));(conv=>whnf)))
 refine APure.to (APure.arg2 (Sub.refl _) subS c1) ?_
 ((conv=>whnf);repeat (refine Wa ?_;(repeat (first|refine Wb ?_|refine Wc ?_|refine Wd ?_|refine We ?_|refine Wf ?_));(conv=>whnf)))
 refine APure.to (APure.arg2 (Sub.refl _) subS c2) ?_
 ((conv=>whnf);repeat (refine Wa ?_;(repeat (first|refine Wb ?_|refine Wc ?_|refine Wd ?_|refine We ?_|refine Wf ?_));(conv=>whnf)))
 refine br_eq (fun h0 => ?_) (fun h0 => ?_)
 ·have h0 : L = [] := List.eq_nil_of_length_eq_zero (by have h0 : (L.length : Int) = 0 := h0; omega)
  ((conv=>whnf);repeat (refine Wa ?_;(repeat (first|refine Wb ?_|refine Wc ?_|refine Wd ?_|refine We ?_|refine Wf ?_));(conv=>whnf)))
  refine ⟨trivial, trivial, trivial, ?_⟩
  rw [h0]
  rfl
 have h0 : (L.length : Int) ≠ 0 := h0
 ((conv=>whnf);repeat (refine Wa ?_;(repeat (first|refine Wb ?_|refine Wc ?_|refine Wd ?_|refine We ?_|refine Wf ?_));(conv=>whnf)))
 refine ⟨inr (by omega), ?_⟩
 ((conv=>whnf);repeat (refine Wa ?_;(repeat (first|refine Wb ?_|refine Wc ?_|refine Wd ?_|refine We ?_|refine Wf ?_));(conv=>whnf)))
 refine AW_loopA (X := cx 52) (cx_ok 52) [1, 8, 9, 10, 11] (cutN 0) (fun vs M => ∃ k : Nat, k ≤ L.length ∧ vs = [stV false m (fun j => A j) (fun j => B j), .ints true L, .int (rsF m A B L k).1, .int (rsF m A B L k).2, .int k] ∧ M = []) (fun vs _ => L.length - (vs.getD 4 .any).toInt.toNat) (fun t ht => absurd ht (Nat.not_lt_zero _)) ?_ ?_
 ·exact same0 ⟨0, Nat.zero_le _, rfl, rfl⟩
 rintro vs M ⟨k, hk, rfl, rfl⟩
 ((conv=>whnf);repeat (refine Wa ?_;(repeat (first|refine Wb ?_|refine Wc ?_|refine Wd ?_|refine We ?_|refine Wf ?_));(conv=>whnf)))
 refine br_dec (fun hlt => ?_) (fun hge => ?_)
 ·have hk' : k < L.length := by omega
  obtain ⟨s, hs, _, hse⟩ := hLn k hk'
  have c3 := crossing_pure h.q s
  have c4 := Members_pure (lvS A B s m) (lv_small h.q _)
  have e := rsF_succ h.q hLp hk'
  have esz : szC m A B (L.getD k 0) = (mbL (lvS A B s m) 14).length := by
   unfold szC
   rw [hse, Int.toNat_natCast, mbL_ct]
  rw [esz, hse] at e
  have nxt : ∀ p : Int × Int, rsF m A B L (k + 1) = p → ∃ k' : Nat, k' ≤ L.length ∧ [stV false m (fun j => A j) (fun j => B j), .ints true L, .int p.1, .int p.2, .int ((k : Int) + 1)] = [stV false m (fun j => A j) (fun j => B j), .ints true L, .int (rsF m A B L k').1, .int (rsF m A B L k').2, .int k'] ∧ ([] : Mem) = [] := fun p hp => ⟨k + 1, hk', by rw [hp]; rfl, rfl⟩
  ((conv=>whnf);repeat (refine Wa ?_;(repeat (first|refine Wb ?_|refine Wc ?_|refine Wd ?_|refine We ?_|refine Wf ?_));(conv=>whnf)))
  repeat ((first | refine ⟨by omega, ?_⟩ | refine ⟨inr (by omega), ?_⟩ | refine eqn_self ?_ | refine ⟨ms (by omega), ?_⟩ | refine ⟨ms (by simp only [Src.n]; omega), ?_⟩ | refine ⟨msk (by omega), ?_⟩ | refine ⟨ms1, ?_⟩); ((conv=>whnf);repeat (refine Wa ?_;(repeat (first|refine Wb ?_|refine Wc ?_|refine Wd ?_|refine We ?_|refine Wf ?_));(conv=>whnf))))
  rw [Int.toNat_natCast, hse]
  refine APure.to (APure.arg2 subS (Sub.refl _) c3) ?_
  ((conv=>whnf);repeat (refine Wa ?_;(repeat (first|refine Wb ?_|refine Wc ?_|refine Wd ?_|refine We ?_|refine Wf ?_));(conv=>whnf)))
  refine APure.to c4 ?_
  ((conv=>whnf);repeat (refine Wa ?_;(repeat (first|refine Wb ?_|refine Wc ?_|refine Wd ?_|refine We ?_|refine Wf ?_));(conv=>whnf)))
  refine br_dec (fun h2 => ?_) (fun h2 => ?_)
  ·have h2 : ((mbL (lvS A B s m) 14).length : Int) < (rsF m A B L k).1 := h2
   rw [if_pos h2] at e
   ((conv=>whnf);repeat (refine Wa ?_;(repeat (first|refine Wb ?_|refine Wc ?_|refine Wd ?_|refine We ?_|refine Wf ?_));(conv=>whnf)))
   repeat ((first | refine ⟨by omega, ?_⟩ | refine ⟨inr (by omega), ?_⟩ | refine eqn_self ?_ | refine ⟨ms (by omega), ?_⟩ | refine ⟨ms (by simp only [Src.n]; omega), ?_⟩ | refine ⟨msk (by omega), ?_⟩ | refine ⟨ms1, ?_⟩); ((conv=>whnf);repeat (refine Wa ?_;(repeat (first|refine Wb ?_|refine Wc ?_|refine Wd ?_|refine We ?_|refine Wf ?_));(conv=>whnf))))
   rw [Int.toNat_natCast, hse]
   refine ⟨⟨⟨namedS, trivial, trivial, trivial, trivial, trivial⟩, trivial⟩, ?_⟩
   exact same1 ⟨nxt _ e, by simp [V.toInt, sel, Env.get]; omega⟩
  ·have h2 : ¬ ((mbL (lvS A B s m) 14).length : Int) < (rsF m A B L k).1 := h2
   rw [if_neg h2] at e
   ((conv=>whnf);repeat (refine Wa ?_;(repeat (first|refine Wb ?_|refine Wc ?_|refine Wd ?_|refine We ?_|refine Wf ?_));(conv=>whnf)))
   refine ⟨inr (by omega), ?_⟩
   ((conv=>whnf);repeat (refine Wa ?_;(repeat (first|refine Wb ?_|refine Wc ?_|refine Wd ?_|refine We ?_|refine Wf ?_));(conv=>whnf)))
   refine ⟨⟨⟨namedS, trivial, trivial, trivial, trivial, trivial⟩, trivial⟩, ?_⟩
   exact same1 ⟨nxt _ e, by simp [V.toInt, sel, Env.get]; omega⟩
 ·obtain rfl : k = L.length := by omega
  have e : smV m A B L = tup3 (.int (rsF m A B L L.length).1) (.int (rsF m A B L L.length).2) (.int 0) := by
   obtain ⟨q, hq⟩ : ∃ q, L.length = q + 1 := ⟨L.length - 1, by omega⟩
   unfold smV rsF
   rw [hq, if_neg (smF_snd hLp q (by omega)), if_neg (Nat.succ_ne_zero q)]
  ((conv=>whnf);repeat (refine Wa ?_;(repeat (first|refine Wb ?_|refine Wc ?_|refine Wd ?_|refine We ?_|refine Wf ?_));(conv=>whnf)))
  refine ⟨trivial, trivial, trivial, ?_⟩
  rw [e]
  rfl
end Go.Tri
