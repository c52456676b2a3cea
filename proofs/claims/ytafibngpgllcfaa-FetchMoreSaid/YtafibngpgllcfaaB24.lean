/-
 CONTRACTS: lists of streets and of cuts, as the specification judges them.
-/
import Derived.Test.YtafibngpgllcfaaM5
import Derived.Test.YtafibngpgllcfaaB19
namespace Go.Tri
open Go.Proofs

theorem nofrSL4 {m : Nat} {A B : Nat → Int} {l : List Int} : ∀ x ∈ [stV false m A B, V.ints false l], NoFr x := nofr2 nofrS (show NoFr (.ints false l) from rfl)
theorem asB_no {m : Nat} {l : List Int} {k : Nat} (hk : k < l.length) (h : ¬ (0 ≤ l.getD k 0 ∧ l.getD k 0 < m ∧ (0 < k → l.getD (k - 1) 0 < l.getD k 0))) : asB m l l.length = false := allB_false hk (show asP m l k = false from decide_eq_false h)
theorem asB_succ {m : Nat} {l : List Int} {k : Nat} (h : asB m l k = true) (h' : 0 ≤ l.getD k 0 ∧ l.getD k 0 < m ∧ (0 < k → l.getD (k - 1) 0 < l.getD k 0)) : asB m l (k + 1) = true := allB_iff.2 fun j hj => by
 by_cases hjk : j = k
 ·rw [hjk]; exact asP_iff.2 h'
 ·exact allB_iff.1 h j (by omega)
/-- The set of a list, and whether it is one. -/
def setV (m : Nat) (l : List Int) : V := if asB m l l.length = true then tup2 (.int (stO l l.length : Nat)) (.bool true) else tup2 (.int 0) (.bool false)
set_option maxRecDepth 100000 in
theorem Set_pure (m : Nat) (A B : Nat → Int) (hm : m ≤ 40) (l : List Int) : APure Try.prog 56 [stV false m A B, .ints false l] (fun R => R = setV m l) := by
 refine APure_of (X := cx 52) (cx_ok 52) rfl (rs := [(.tmp 4, 3), (.tmp 5, 4)]) Try.func56 (by decide) rfl rfl rfl (by simp [cx]) (nofrSL4) ?_
 intro hlen
 have hl : (l.length : Int) ≤ 9223372036854775807 := hlen (.ints false l) (by simp)
 have no : ∀ k, k < l.length → ¬ (0 ≤ l.getD k 0 ∧ l.getD k 0 < m ∧ (0 < k → l.getD (k - 1) 0 < l.getD k 0)) → tup2 (.int 0) (.bool false) = setV m l := fun k hk h => by
  unfold setV
  rw [if_neg (by rw [asB_no hk h]; simp)]
 ((conv=>whnf);repeat (refine Wa ?_;(repeat (first|refine Wb ?_|refine Wc ?_|refine Wd ?_|refine We ?_|refine Wf ?_));(conv=>whnf)))
 refine AW_loop (X := cx 52) (cx_ok 52) [0, 1, 6, 7] (fun vs M => ∃ k : Nat, k ≤ l.length ∧ asB m l k = true ∧ vs = [stV false m A B, .ints false l, .int (stO l k : Nat), .int k] ∧ M = []) (fun vs _ => l.length - (vs.getD 3 .any).toInt.toNat) ?_ ?_
 ·exact ⟨0, Nat.zero_le _, rfl, rfl, rfl⟩
 rintro vs M ⟨k, hk, has, rfl, rfl⟩
 ((conv=>whnf);repeat (refine Wa ?_;(repeat (first|refine Wb ?_|refine Wc ?_|refine Wd ?_|refine We ?_|refine Wf ?_));(conv=>whnf)))
 refine br_dec (fun hlt => ?_) (fun hge => ?_)
 ·have hk' : k < l.length := by omega
  have go : (0 ≤ l.getD k 0 ∧ l.getD k 0 < m ∧ (0 < k → l.getD (k - 1) 0 < l.getD k 0)) → ∃ t : Nat, l.getD k 0 = t ∧ t < 40 ∧ stO l (k + 1) = stO l k + 2 ^ t ∧ stO l k + 2 ^ t < 2 ^ 40 ∧ asB m l (k + 1) = true := fun h => by
   have h1 := asB_succ has h
   obtain ⟨t, ht⟩ : ∃ t : Nat, l.getD k 0 = t := ⟨(l.getD k 0).toNat, by omega⟩
   have h2 := stO_add h1
   rw [ht, Int.toNat_natCast] at h2
   refine ⟨t, ht, by omega, h2, ?_, h1⟩
   rw [← h2]
   exact Nat.lt_of_lt_of_le (stO_lt h1).1 (Nat.pow_le_pow_right (by decide) hm)
  ((conv=>whnf);repeat (refine Wa ?_;(repeat (first|refine Wb ?_|refine Wc ?_|refine Wd ?_|refine We ?_|refine Wf ?_));(conv=>whnf)))
  refine AW_draw (X := cx 52) (cx_ok 52) mixed (by kernel_rfl) ?_
  ((conv=>whnf);repeat (refine Wa ?_;(repeat (first|refine Wb ?_|refine Wc ?_|refine Wd ?_|refine We ?_|refine Wf ?_));(conv=>whnf)))
  repeat ((first | refine ⟨by omega, ?_⟩ | refine ⟨inr (by omega), ?_⟩ | refine eqn_self ?_ | refine ⟨ms (by omega), ?_⟩ | refine ⟨ms (by simp only [Src.n]; omega), ?_⟩ | refine ⟨msk (by omega), ?_⟩ | refine ⟨ms1, ?_⟩); ((conv=>whnf);repeat (refine Wa ?_;(repeat (first|refine Wb ?_|refine Wc ?_|refine Wd ?_|refine We ?_|refine Wf ?_));(conv=>whnf))))
  rw [Int.toNat_natCast]
  refine br_dec (fun h1 => ?_) (fun h1 => ?_)
  ·have h1 : l.getD k 0 < 0 := h1
   ((conv=>whnf);repeat (refine Wa ?_;(repeat (first|refine Wb ?_|refine Wc ?_|refine Wd ?_|refine We ?_|refine Wf ?_));(conv=>whnf)))
   exact ⟨trivial, trivial, no k hk' (fun h => by omega)⟩
  have h1 : ¬ l.getD k 0 < 0 := h1
  ((conv=>whnf);repeat (refine Wa ?_;(repeat (first|refine Wb ?_|refine Wc ?_|refine Wd ?_|refine We ?_|refine Wf ?_));(conv=>whnf)))
  repeat ((first | refine ⟨by omega, ?_⟩ | refine ⟨inr (by omega), ?_⟩ | refine eqn_self ?_ | refine ⟨ms (by omega), ?_⟩ | refine ⟨ms (by simp only [Src.n]; omega), ?_⟩ | refine ⟨msk (by omega), ?_⟩ | refine ⟨ms1, ?_⟩); ((conv=>whnf);repeat (refine Wa ?_;(repeat (first|refine Wb ?_|refine Wc ?_|refine Wd ?_|refine We ?_|refine Wf ?_));(conv=>whnf))))
  rw [Int.toNat_natCast]
  refine br_dec (fun h2 => ?_) (fun h2 => ?_)
  ·have h2 : l.getD k 0 ≥ (m : Int) := h2
   ((conv=>whnf);repeat (refine Wa ?_;(repeat (first|refine Wb ?_|refine Wc ?_|refine Wd ?_|refine We ?_|refine Wf ?_));(conv=>whnf)))
   exact ⟨trivial, trivial, no k hk' (fun h => by omega)⟩
  have h2 : ¬ l.getD k 0 ≥ (m : Int) := h2
  ((conv=>whnf);repeat (refine Wa ?_;(repeat (first|refine Wb ?_|refine Wc ?_|refine Wd ?_|refine We ?_|refine Wf ?_));(conv=>whnf)))
  refine br_dec (fun h3 => ?_) (fun h3 => ?_)
  ·have h3 : (k : Int) > 0 := h3
   ((conv=>whnf);repeat (refine Wa ?_;(repeat (first|refine Wb ?_|refine Wc ?_|refine Wd ?_|refine We ?_|refine Wf ?_));(conv=>whnf)))
   repeat ((first | refine ⟨by omega, ?_⟩ | refine ⟨inr (by omega), ?_⟩ | refine eqn_self ?_ | refine ⟨ms (by omega), ?_⟩ | refine ⟨ms (by simp only [Src.n]; omega), ?_⟩ | refine ⟨msk (by omega), ?_⟩ | refine ⟨ms1, ?_⟩); ((conv=>whnf);repeat (refine Wa ?_;(repeat (first|refine Wb ?_|refine Wc ?_|refine Wd ?_|refine We ?_|refine Wf ?_));(conv=>whnf))))
   rw [show ((k : Int) - 1).toNat = k - 1 by omega, Int.toNat_natCast]
   refine br_dec (fun h4 => ?_) (fun h4 => ?_)
   ·have h4 : l.getD k 0 ≤ l.getD (k - 1) 0 := h4
    ((conv=>whnf);repeat (refine Wa ?_;(repeat (first|refine Wb ?_|refine Wc ?_|refine Wd ?_|refine We ?_|refine Wf ?_));(conv=>whnf)))
    exact ⟨trivial, trivial, no k hk' (fun h => by have := h.2.2 (by omega); omega)⟩
   have h4 : ¬ l.getD k 0 ≤ l.getD (k - 1) 0 := h4
   obtain ⟨t, ht, ht40, e, e40, has'⟩ := go ⟨by omega, by omega, fun _ => by omega⟩
   ((conv=>whnf);repeat (refine Wa ?_;(repeat (first|refine Wb ?_|refine Wc ?_|refine Wd ?_|refine We ?_|refine Wf ?_));(conv=>whnf)))
   repeat ((first | refine ⟨by omega, ?_⟩ | refine ⟨inr (by omega), ?_⟩ | refine eqn_self ?_ | refine ⟨ms (by omega), ?_⟩ | refine ⟨ms (by simp only [Src.n]; omega), ?_⟩ | refine ⟨msk (by omega), ?_⟩ | refine ⟨ms1, ?_⟩); ((conv=>whnf);repeat (refine Wa ?_;(repeat (first|refine Wb ?_|refine Wc ?_|refine Wd ?_|refine We ?_|refine Wf ?_));(conv=>whnf))))
   rw [Int.toNat_natCast, ht]
   refine ⟨by omega, ?_⟩
   rw [shlI (by omega)]
   ((conv=>whnf);repeat (refine Wa ?_;(repeat (first|refine Wb ?_|refine Wc ?_|refine Wd ?_|refine We ?_|refine Wf ?_));(conv=>whnf)))
   rw [show ((stO l k : Nat) : Int) + ((2 ^ t : Nat) : Int) = ((stO l k + 2 ^ t : Nat) : Int) by omega]
   refine ⟨inr (by omega), ?_⟩
   ((conv=>whnf);repeat (refine Wa ?_;(repeat (first|refine Wb ?_|refine Wc ?_|refine Wd ?_|refine We ?_|refine Wf ?_));(conv=>whnf)))
   refine ⟨inr (by omega), ?_⟩
   ((conv=>whnf);repeat (refine Wa ?_;(repeat (first|refine Wb ?_|refine Wc ?_|refine Wd ?_|refine We ?_|refine Wf ?_));(conv=>whnf)))
   exact ⟨⟨k + 1, hk', has', by rw [e]; rfl, rfl⟩, by simp [V.toInt, sel, Env.get]; omega⟩
  ·have h3 : ¬ (k : Int) > 0 := h3
   obtain ⟨t, ht, ht40, e, e40, has'⟩ := go ⟨by omega, by omega, fun _ => by omega⟩
   ((conv=>whnf);repeat (refine Wa ?_;(repeat (first|refine Wb ?_|refine Wc ?_|refine Wd ?_|refine We ?_|refine Wf ?_));(conv=>whnf)))
   repeat ((first | refine ⟨by omega, ?_⟩ | refine ⟨inr (by omega), ?_⟩ | refine eqn_self ?_ | refine ⟨ms (by omega), ?_⟩ | refine ⟨ms (by simp only [Src.n]; omega), ?_⟩ | refine ⟨msk (by omega), ?_⟩ | refine ⟨ms1, ?_⟩); ((conv=>whnf);repeat (refine Wa ?_;(repeat (first|refine Wb ?_|refine Wc ?_|refine Wd ?_|refine We ?_|refine Wf ?_));(conv=>whnf))))
   rw [Int.toNat_natCast, ht]
   refine ⟨by omega, ?_⟩
   rw [shlI (by omega)]
   ((conv=>whnf);repeat (refine Wa ?_;(repeat (first|refine Wb ?_|refine Wc ?_|refine Wd ?_|refine We ?_|refine Wf ?_));(conv=>whnf)))
   rw [show ((stO l k : Nat) : Int) + ((2 ^ t : Nat) : Int) = ((stO l k + 2 ^ t : Nat) : Int) by omega]
   refine ⟨inr (by omega), ?_⟩
   ((conv=>whnf);repeat (refine Wa ?_;(repeat (first|refine Wb ?_|refine Wc ?_|refine Wd ?_|refine We ?_|refine Wf ?_));(conv=>whnf)))
   refine ⟨inr (by omega), ?_⟩
   ((conv=>whnf);repeat (refine Wa ?_;(repeat (first|refine Wb ?_|refine Wc ?_|refine Wd ?_|refine We ?_|refine Wf ?_));(conv=>whnf)))
   exact ⟨⟨k + 1, hk', has', by rw [e]; rfl, rfl⟩, by simp [V.toInt, sel, Env.get]; omega⟩
 ·obtain rfl : k = l.length := by omega
  ((conv=>whnf);repeat (refine Wa ?_;(repeat (first|refine Wb ?_|refine Wc ?_|refine Wd ?_|refine We ?_|refine Wf ?_));(conv=>whnf)))
  refine ⟨trivial, trivial, ?_⟩
  unfold setV
  rw [if_pos has]
  rfl
theorem nofrSLI {m : Nat} {A B : Nat → Int} {l : List Int} {s : Int} : ∀ x ∈ [stV false m A B, V.ints false l, V.int s], NoFr x := by intro x hx; simp at hx; rcases hx with rfl | rfl | rfl; exact nofrS; rfl; exact nofrInt
set_option maxRecDepth 100000 in
theorem rmends_pure {n m : Nat} {A B : Nat → Nat} (hQ : Qn n m A B) (L : List Int) (hL : ∀ j, j < L.length → 0 ≤ L.getD j 0) (s : Nat) (hs : s < 9223372036854775808) : APure Try.prog 57 [stV false m (fun j => A j) (fun j => B j), .ints false L, .int s] (fun R => R = .bool (mtB m A B L s L.length)) := by
 refine APure_of (X := cx 23) (cx_ok 23) rfl (rs := [(.tmp 6, 4)]) Try.func57 (by decide) rfl rfl rfl (by simp [cx]) (nofrSLI) ?_
 intro hlen
 have hl : (L.length : Int) ≤ 9223372036854775807 := hlen (.ints false L) (by simp)
 have hm := hQ.sm
 ((conv=>whnf);repeat (refine Wa ?_;(repeat (first|refine Wb ?_|refine Wc ?_|refine Wd ?_|refine We ?_|refine Wf ?_));(conv=>whnf)))
 refine AW_loop (X := cx 23) (cx_ok 23) [0, 1, 2, 7] (fun vs M => ∃ k : Nat, k ≤ L.length ∧ mtB m A B L s k = true ∧ vs = [stV false m (fun j => A j) (fun j => B j), .ints false L, .int s, .int k] ∧ M = []) (fun vs _ => L.length - (vs.getD 3 .any).toInt.toNat) ?_ ?_
 ·exact ⟨0, Nat.zero_le _, rfl, rfl, rfl⟩
 rintro vs M ⟨k, hk, hmt, rfl, rfl⟩
 ((conv=>whnf);repeat (refine Wa ?_;(repeat (first|refine Wb ?_|refine Wc ?_|refine Wd ?_|refine We ?_|refine Wf ?_));(conv=>whnf)))
 refine br_dec (fun hlt => ?_) (fun hge => ?_)
 ·have hk' : k < L.length := by omega
  obtain ⟨t, ht⟩ : ∃ t : Nat, L.getD k 0 = t := ⟨(L.getD k 0).toNat, by have := hL k hk'; omega⟩
  have c1 := crossing_pure hQ t
  have ht2 : lvS A B t m < 9223372036854775808 := lt63 (lvS_lt A B t m) (by omega)
  have eP : (!(s &&& lvS A B (L.getD k 0).toNat m == 0)) = !(lvS A B t m &&& s == 0) := by rw [ht, Int.toNat_natCast, Nat.and_comm]
  ((conv=>whnf);repeat (refine Wa ?_;(repeat (first|refine Wb ?_|refine Wc ?_|refine Wd ?_|refine We ?_|refine Wf ?_));(conv=>whnf)))
  repeat ((first | refine ⟨by omega, ?_⟩ | refine ⟨inr (by omega), ?_⟩ | refine eqn_self ?_ | refine ⟨ms (by omega), ?_⟩ | refine ⟨ms (by simp only [Src.n]; omega), ?_⟩ | refine ⟨msk (by omega), ?_⟩ | refine ⟨ms1, ?_⟩); ((conv=>whnf);repeat (refine Wa ?_;(repeat (first|refine Wb ?_|refine Wc ?_|refine Wd ?_|refine We ?_|refine Wf ?_));(conv=>whnf))))
  rw [Int.toNat_natCast, ht]
  refine APure.to (APure.arg2 subS (Sub.refl _) c1) ?_
  ((conv=>whnf);repeat (refine Wa ?_;(repeat (first|refine Wb ?_|refine Wc ?_|refine Wd ?_|refine We ?_|refine Wf ?_));(conv=>whnf)))
  rw [andI ht2 hs]
  refine br_eq (fun h1 => ?_) (fun h1 => ?_)
  ·have h1 : ((lvS A B t m &&& s : Nat) : Int) = 0 := h1
   ((conv=>whnf);repeat (refine Wa ?_;(repeat (first|refine Wb ?_|refine Wc ?_|refine Wd ?_|refine We ?_|refine Wf ?_));(conv=>whnf)))
   refine ⟨trivial, Qb (allB_false hk' ?_).symm⟩
   rw [eP, show lvS A B t m &&& s = 0 by omega]
   rfl
  ·have h1 : ((lvS A B t m &&& s : Nat) : Int) ≠ 0 := h1
   ((conv=>whnf);repeat (refine Wa ?_;(repeat (first|refine Wb ?_|refine Wc ?_|refine Wd ?_|refine We ?_|refine Wf ?_));(conv=>whnf)))
   refine ⟨inr (by omega), ?_⟩
   ((conv=>whnf);repeat (refine Wa ?_;(repeat (first|refine Wb ?_|refine Wc ?_|refine Wd ?_|refine We ?_|refine Wf ?_));(conv=>whnf)))
   refine ⟨⟨k + 1, hk', allB_iff.2 fun j hj => ?_, rfl, rfl⟩, by simp [V.toInt, sel, Env.get]; omega⟩
   by_cases hjk : j = k
   ·rw [hjk, eP, Bool.not_eq_true', beq_eq_false_iff_ne]
    omega
   ·exact allB_iff.1 hmt j (by omega)
 ·obtain rfl : k = L.length := by omega
  ((conv=>whnf);repeat (refine Wa ?_;(repeat (first|refine Wb ?_|refine Wc ?_|refine Wd ?_|refine We ?_|refine Wf ?_));(conv=>whnf)))
  exact ⟨trivial, Qb hmt.symm⟩
theorem nofrNL' {n : Int} {m : Nat} {A B : Nat → Int} {l : List Int} : ∀ x ∈ [V.int n, stV false m A B, V.ints false l], NoFr x := by intro x hx; simp at hx; rcases hx with rfl | rfl | rfl; exact nofrInt; exact nofrS; rfl
set_option maxRecDepth 100000 in
theorem rIsMend_bad {n : Int} {m : Nat} {A B : Nat → Int} (l : List Int) (h : ckE n m A B ≠ 0) : APure Try.prog 29 [.int n, stV false m A B, .ints false l] (fun R => R = tup2 (.bool false) (.int (ckE n m A B))) := by
 refine APure_of (X := cx 32) (cx_ok 32) rfl (rs := [(.tmp 6, 4), (.tmp 7, 26)]) Try.func29 (by decide) rfl rfl rfl (by simp [cx]) (nofrNL') ?_
 intro hlen
 have c1 := Quarter_pure n m A B
 ((conv=>whnf);repeat (refine Wa ?_;(repeat (first|refine Wb ?_|refine Wc ?_|refine Wd ?_|refine We ?_|refine Wf ?_));(conv=>whnf)))
 refine APure.to (APure.arg2 (Sub.refl _) subS c1) ?_
 ((conv=>whnf);repeat (refine Wa ?_;(repeat (first|refine Wb ?_|refine Wc ?_|refine Wd ?_|refine We ?_|refine Wf ?_));(conv=>whnf)))
 refine br_ne (fun _ => ?_) (fun h' => absurd h' h)
 ((conv=>whnf);repeat (refine Wa ?_;(repeat (first|refine Wb ?_|refine Wc ?_|refine Wd ?_|refine We ?_|refine Wf ?_));(conv=>whnf)))
 exact ⟨trivial, trivial, rfl⟩
theorem cutL_nn {n m : Nat} {A B : Nat → Nat} {k : Nat} : ∀ j, j < (cutL n m A B k).length → 0 ≤ (cutL n m A B k).getD j 0 := fun j hj => by
 obtain ⟨s, _, _, h3⟩ := (cutL_mem k).1 (getD_mem hj)
 omega
set_option maxRecDepth 100000 in
theorem rIsMend_pure {n m : Nat} {A B : Nat → Nat} (h : Qok n m A B) (l : List Int) : APure Try.prog 29 [.int n, stV false m (fun j => A j) (fun j => B j), .ints false l] (fun R => R = tup2 (.bool (imB n m A B l)) (.int 0)) := by
 refine APure_of (X := cx 32) (cx_ok 32) rfl (rs := [(.tmp 6, 4), (.tmp 7, 26)]) Try.func29 (by decide) rfl rfl rfl (by simp [cx]) (nofrNL') ?_
 intro hlen
 have hm := h.q.sm
 have c1 := Quarter_pure n m (fun j => A j) (fun j => B j)
 rw [ckE_ok h] at c1
 have c2 := Set_pure m (fun j => A j) (fun j => B j) (by omega) l
 have c3 := rcuts_pure h.q
 cases ha : asB m l l.length with
 | false =>
  rw [show setV m l = tup2 (.int 0) (.bool false) by unfold setV; rw [if_neg (by rw [ha]; simp)]] at c2
  ((conv=>whnf);repeat (refine Wa ?_;(repeat (first|refine Wb ?_|refine Wc ?_|refine Wd ?_|refine We ?_|refine Wf ?_));(conv=>whnf)))
  refine APure.to (APure.arg2 (Sub.refl _) subS c1) ?_
  ((conv=>whnf);repeat (refine Wa ?_;(repeat (first|refine Wb ?_|refine Wc ?_|refine Wd ?_|refine We ?_|refine Wf ?_));(conv=>whnf)))
  refine APure.to (APure.arg2 subS (Sub.refl _) c2) ?_
  ((conv=>whnf);repeat (refine Wa ?_;(repeat (first|refine Wb ?_|refine Wc ?_|refine Wd ?_|refine We ?_|refine Wf ?_));(conv=>whnf)))
  refine ⟨trivial, trivial, ?_⟩
  unfold imB
  rw [ha, Bool.false_and]
  rfl
 | true =>
  rw [show setV m l = tup2 (.int (stO l l.length : Nat)) (.bool true) by unfold setV; rw [if_pos ha]] at c2
  have c4 := rmends_pure h.q (cutL n m A B (fullN n)) cutL_nn (stO l l.length) (lt63 (stO_lt ha).1 (by omega))
  ((conv=>whnf);repeat (refine Wa ?_;(repeat (first|refine Wb ?_|refine Wc ?_|refine Wd ?_|refine We ?_|refine Wf ?_));(conv=>whnf)))
  refine APure.to (APure.arg2 (Sub.refl _) subS c1) ?_
  ((conv=>whnf);repeat (refine Wa ?_;(repeat (first|refine Wb ?_|refine Wc ?_|refine Wd ?_|refine We ?_|refine Wf ?_));(conv=>whnf)))
  refine APure.to (APure.arg2 subS (Sub.refl _) c2) ?_
  ((conv=>whnf);repeat (refine Wa ?_;(repeat (first|refine Wb ?_|refine Wc ?_|refine Wd ?_|refine We ?_|refine Wf ?_));(conv=>whnf)))
  refine APure.to (APure.arg2 (Sub.refl _) subS c3) ?_
  ((conv=>whnf);repeat (refine Wa ?_;(repeat (first|refine Wb ?_|refine Wc ?_|refine Wd ?_|refine We ?_|refine Wf ?_));(conv=>whnf)))
  refine APure.to (APure.arg3 subS (Sub.refl _) (Sub.refl _) c4) ?_
  ((conv=>whnf);repeat (refine Wa ?_;(repeat (first|refine Wb ?_|refine Wc ?_|refine Wd ?_|refine We ?_|refine Wf ?_));(conv=>whnf)))
  refine ⟨trivial, trivial, ?_⟩
  unfold imB
  rw [ha, Bool.true_and]
  rfl
set_option maxRecDepth 100000 in
theorem rAreApart_bad {n : Int} {m : Nat} {A B : Nat → Int} (l : List Int) (h : ckE n m A B ≠ 0) : APure Try.prog 31 [.int n, stV false m A B, .ints false l] (fun R => R = tup2 (.bool false) (.int (ckE n m A B))) := by
 refine APure_of (X := cx 50) (cx_ok 50) rfl (rs := [(.tmp 6, 4), (.tmp 7, 26)]) Try.func31 (by decide) rfl rfl rfl (by simp [cx]) (nofrNL') ?_
 intro hlen
 have c1 := Quarter_pure n m A B
 ((conv=>whnf);repeat (refine Wa ?_;(repeat (first|refine Wb ?_|refine Wc ?_|refine Wd ?_|refine We ?_|refine Wf ?_));(conv=>whnf)))
 refine APure.to (APure.arg2 (Sub.refl _) subS c1) ?_
 ((conv=>whnf);repeat (refine Wa ?_;(repeat (first|refine Wb ?_|refine Wc ?_|refine Wd ?_|refine We ?_|refine Wf ?_));(conv=>whnf)))
 refine br_ne (fun _ => ?_) (fun h' => absurd h' h)
 ((conv=>whnf);repeat (refine Wa ?_;(repeat (first|refine Wb ?_|refine Wc ?_|refine Wd ?_|refine We ?_|refine Wf ?_));(conv=>whnf)))
 exact ⟨trivial, trivial, rfl⟩
set_option maxRecDepth 100000 in
theorem rAreApart_pure {n m : Nat} {A B : Nat → Nat} (h : Qok n m A B) (l : List Int) : APure Try.prog 31 [.int n, stV false m (fun j => A j) (fun j => B j), .ints false l] (fun R => R = tup2 (.bool (apB n m A B l l.length)) (.int 0)) := by
 refine APure_of (X := cx 50) (cx_ok 50) rfl (rs := [(.tmp 6, 4), (.tmp 7, 26)]) Try.func31 (by decide) rfl rfl rfl (by simp [cx]) (nofrNL') ?_
 intro hlen
 have hl : (l.length : Int) ≤ 9223372036854775807 := hlen (.ints false l) (by simp)
 have hm := h.q.sm
 have c1 := Quarter_pure n m (fun j => A j) (fun j => B j)
 rw [ckE_ok h] at c1
 ((conv=>whnf);repeat (refine Wa ?_;(repeat (first|refine Wb ?_|refine Wc ?_|refine Wd ?_|refine We ?_|refine Wf ?_));(conv=>whnf)))
 refine APure.to (APure.arg2 (Sub.refl _) subS c1) ?_
 ((conv=>whnf);repeat (refine Wa ?_;(repeat (first|refine Wb ?_|refine Wc ?_|refine Wd ?_|refine We ?_|refine Wf ?_));(conv=>whnf)))
 refine AW_loop (X := cx 50) (cx_ok 50) [0, 1, 2, 9, 10] (fun vs M => ∃ k : Nat, k ≤ l.length ∧ apB n m A B l k = true ∧ vs = [.int n, stV false m (fun j => A j) (fun j => B j), .ints false l, .int (tkO m A B l k : Nat), .int k] ∧ M = []) (fun vs _ => l.length - (vs.getD 4 .any).toInt.toNat) ?_ ?_
 ·exact ⟨0, Nat.zero_le _, rfl, rfl, rfl⟩
 rintro vs M ⟨k, hk, hap, rfl, rfl⟩
 ((conv=>whnf);repeat (refine Wa ?_;(repeat (first|refine Wb ?_|refine Wc ?_|refine Wd ?_|refine We ?_|refine Wf ?_));(conv=>whnf)))
 refine br_dec (fun hlt => ?_) (fun hge => ?_)
 ·have hk' : k < l.length := by omega
  have no : apP n m A B l k = false → false = apB n m A B l l.length := fun h => (allB_false hk' h).symm
  have c2 := rIsCut_pure h.q (l.getD k 0)
  have ht1 : tkO m A B l k < 9223372036854775808 := lt63 (tkO_lt l k) (by omega)
  cases hc : cutZ n m A B (l.getD k 0) with
  | false =>
   rw [hc] at c2
   ((conv=>whnf);repeat (refine Wa ?_;(repeat (first|refine Wb ?_|refine Wc ?_|refine Wd ?_|refine We ?_|refine Wf ?_));(conv=>whnf)))
   repeat ((first | refine ⟨by omega, ?_⟩ | refine ⟨inr (by omega), ?_⟩ | refine eqn_self ?_ | refine ⟨ms (by omega), ?_⟩ | refine ⟨ms (by simp only [Src.n]; omega), ?_⟩ | refine ⟨msk (by omega), ?_⟩ | refine ⟨ms1, ?_⟩); ((conv=>whnf);repeat (refine Wa ?_;(repeat (first|refine Wb ?_|refine Wc ?_|refine Wd ?_|refine We ?_|refine Wf ?_));(conv=>whnf))))
   rw [Int.toNat_natCast]
   refine APure.to (APure.arg3 (Sub.refl _) subS (Sub.refl _) c2) ?_
   ((conv=>whnf);repeat (refine Wa ?_;(repeat (first|refine Wb ?_|refine Wc ?_|refine Wd ?_|refine We ?_|refine Wf ?_));(conv=>whnf)))
   refine ⟨trivial, trivial, Eq.trans ?_ (congrArg (fun b => tup2 (V.bool b) (.int 0)) (no ?_))⟩
   ·rfl
   unfold apP
   rw [hc, Bool.false_and]
  | true =>
   rw [hc] at c2
   have hz : 0 < l.getD k 0 := by
    unfold cutZ at hc
    simp only [Bool.and_eq_true, decide_eq_true_iff] at hc
    exact hc.1
   obtain ⟨t, ht⟩ : ∃ t : Nat, l.getD k 0 = t := ⟨(l.getD k 0).toNat, by omega⟩
   have c3 := crossing_pure h.q t
   have ht2 : lvS A B t m < 9223372036854775808 := lt63 (lvS_lt A B t m) (by omega)
   have e : tkO m A B l (k + 1) = tkO m A B l k ||| lvS A B t m := by rw [tkO, ht, Int.toNat_natCast]
   have eP : apP n m A B l k = (lvS A B t m &&& tkO m A B l k == 0) := by unfold apP; rw [hc, Bool.true_and, ht, Int.toNat_natCast, Nat.and_comm]
   rw [ht] at c2
   ((conv=>whnf);repeat (refine Wa ?_;(repeat (first|refine Wb ?_|refine Wc ?_|refine Wd ?_|refine We ?_|refine Wf ?_));(conv=>whnf)))
   repeat ((first | refine ⟨by omega, ?_⟩ | refine ⟨inr (by omega), ?_⟩ | refine eqn_self ?_ | refine ⟨ms (by omega), ?_⟩ | refine ⟨ms (by simp only [Src.n]; omega), ?_⟩ | refine ⟨msk (by omega), ?_⟩ | refine ⟨ms1, ?_⟩); ((conv=>whnf);repeat (refine Wa ?_;(repeat (first|refine Wb ?_|refine Wc ?_|refine Wd ?_|refine We ?_|refine Wf ?_));(conv=>whnf))))
   rw [Int.toNat_natCast, ht]
   refine APure.to (APure.arg3 (Sub.refl _) subS (Sub.refl _) c2) ?_
   ((conv=>whnf);repeat (refine Wa ?_;(repeat (first|refine Wb ?_|refine Wc ?_|refine Wd ?_|refine We ?_|refine Wf ?_));(conv=>whnf)))
   repeat ((first | refine ⟨by omega, ?_⟩ | refine ⟨inr (by omega), ?_⟩ | refine eqn_self ?_ | refine ⟨ms (by omega), ?_⟩ | refine ⟨ms (by simp only [Src.n]; omega), ?_⟩ | refine ⟨msk (by omega), ?_⟩ | refine ⟨ms1, ?_⟩); ((conv=>whnf);repeat (refine Wa ?_;(repeat (first|refine Wb ?_|refine Wc ?_|refine Wd ?_|refine We ?_|refine Wf ?_));(conv=>whnf))))
   rw [Int.toNat_natCast, ht]
   refine APure.to (APure.arg2 subS (Sub.refl _) c3) ?_
   ((conv=>whnf);repeat (refine Wa ?_;(repeat (first|refine Wb ?_|refine Wc ?_|refine Wd ?_|refine We ?_|refine Wf ?_));(conv=>whnf)))
   rw [andI ht2 ht1]
   refine br_ne (fun h1 => ?_) (fun h1 => ?_)
   ·((conv=>whnf);repeat (refine Wa ?_;(repeat (first|refine Wb ?_|refine Wc ?_|refine Wd ?_|refine We ?_|refine Wf ?_));(conv=>whnf)))
    refine ⟨trivial, trivial, Eq.trans ?_ (congrArg (fun b => tup2 (V.bool b) (.int 0)) (no ?_))⟩
    ·rfl
    rw [eP]
    cases h2 : (lvS A B t m &&& tkO m A B l k == 0) with
    | false => rfl
    | true => rw [beq_iff_eq] at h2; rw [h2] at h1; exact absurd rfl h1
   ·((conv=>whnf);repeat (refine Wa ?_;(repeat (first|refine Wb ?_|refine Wc ?_|refine Wd ?_|refine We ?_|refine Wf ?_));(conv=>whnf)))
    repeat ((first | refine ⟨by omega, ?_⟩ | refine ⟨inr (by omega), ?_⟩ | refine eqn_self ?_ | refine ⟨ms (by omega), ?_⟩ | refine ⟨ms (by simp only [Src.n]; omega), ?_⟩ | refine ⟨msk (by omega), ?_⟩ | refine ⟨ms1, ?_⟩); ((conv=>whnf);repeat (refine Wa ?_;(repeat (first|refine Wb ?_|refine Wc ?_|refine Wd ?_|refine We ?_|refine Wf ?_));(conv=>whnf))))
    rw [Int.toNat_natCast, ht]
    refine APure.to (APure.arg2 subS (Sub.refl _) c3) ?_
    ((conv=>whnf);repeat (refine Wa ?_;(repeat (first|refine Wb ?_|refine Wc ?_|refine Wd ?_|refine We ?_|refine Wf ?_));(conv=>whnf)))
    rw [orI ht1 ht2]
    refine ⟨inr (by omega), ?_⟩
    ((conv=>whnf);repeat (refine Wa ?_;(repeat (first|refine Wb ?_|refine Wc ?_|refine Wd ?_|refine We ?_|refine Wf ?_));(conv=>whnf)))
    refine ⟨⟨k + 1, hk', allB_iff.2 fun j hj => ?_, by rw [e]; rfl, rfl⟩, by simp [V.toInt, sel, Env.get]; omega⟩
    by_cases hjk : j = k
    ·rw [hjk, eP, beq_iff_eq]
     omega
    ·exact allB_iff.1 hap j (by omega)
 ·obtain rfl : k = l.length := by omega
  ((conv=>whnf);repeat (refine Wa ?_;(repeat (first|refine Wb ?_|refine Wc ?_|refine Wd ?_|refine We ?_|refine Wf ?_));(conv=>whnf)))
  refine ⟨trivial, trivial, ?_⟩
  rw [hap]
  rfl
end Go.Tri
