/-
 CONTRACTS: the checks of points, the program's and the reference's; few.
-/
import Derived.Test.YtpolaegggclhcaaB1
namespace Go.Tri
open Go.Proofs

/-- The first place from k on (fuel f) where p holds, or -1. -/
def idxP (p : Int → Bool) (l : List Int) : Nat → Nat → Int
 | _, 0 => -1
 | k, f + 1 => if p (l.getD k 0) = true then k else idxP p l (k + 1) f
theorem idxP_ge (p : Int → Bool) (l : List Int) : ∀ f k, (0 ≤ idxP p l k f) ↔ ∃ j, k ≤ j ∧ j < k + f ∧ p (l.getD j 0) = true := by
 intro f
 induction f with
 | zero => intro k; simp only [idxP]; exact ⟨fun h => absurd h (by omega), fun ⟨j, h1, h2, _⟩ => by omega⟩
 | succ f ih =>
  intro k
  simp only [idxP]
  by_cases h : p (l.getD k 0) = true
  ·rw [if_pos h]; exact ⟨fun _ => ⟨k, by omega, by omega, h⟩, fun _ => by omega⟩
  ·rw [if_neg h, ih]
   constructor
   ·rintro ⟨j, h1, h2, h3⟩; exact ⟨j, by omega, by omega, h3⟩
   ·rintro ⟨j, h1, h2, h3⟩
    refine ⟨j, ?_, by omega, h3⟩
    rcases (by omega : k = j ∨ k + 1 ≤ j) with rfl | h4
    ·exact absurd h3 h
    ·exact h4
theorem idxP_bd (p : Int → Bool) (l : List Int) : ∀ f k, -1 ≤ idxP p l k f ∧ idxP p l k f < k + f + 1 := by
 intro f
 induction f with
 | zero => intro k; simp only [idxP]; omega
 | succ f ih =>
  intro k
  simp only [idxP]
  split
  ·omega
  ·have := ih (k + 1); omega

theorem subC1 {f : Nat} {g : Nat → V} {h : Nat → V} {z : Int} (h1 : g 0 = .at_ 1 h 0) (h2 : h 0 = .int z) : Sub (.clo f 1 g) (.clo f 1 fun _ => .at_ 1 (fun _ => .int z) 0) := sub_clo fun i hi => by
 rw [show i = 0 by omega, h1]
 exact sub_at fun j hj => by rw [show j = 0 by omega, h2]; exact Sub.refl _
theorem IndexFunc1 (p : Int → Bool) (f : Nat) (z : Int) (l : List Int) (hp : ∀ x : Int, APure Try.prog f [.int x, .at_ 1 (fun _ => .int z) 0] (fun R => R = .bool (p x))) :
  APure Try.prog 115 [.ints false l, .clo f 1 fun _ => .at_ 1 (fun _ => .int z) 0] (fun R => R = .int (idxP p l 0 l.length)) := by
 refine APure_of (X := cx 19) (cx_ok 19) rfl (rs := [(.tmp 4, 3)]) Try.func115 (by decide) rfl rfl rfl (by simp [cx]) (by simp [NoFr]) ?_
 intro hlen
 have hla := LenI hlen
 ((conv=>whnf);repeat (refine Wa ?_;(repeat (first|refine Wb ?_|refine Wc ?_|refine Wd ?_|refine We ?_|refine Wf ?_));(conv=>whnf)))
 refine AW_loop (X := cx 19) (cx_ok 19) [0, 1, 7, 8] (fun vs M => ∃ k : Nat, k ≤ l.length ∧ idxP p l 0 l.length = idxP p l k (l.length - k) ∧ vs = [.ints false l, .clo f 1 fun _ => .at_ 1 (fun _ => .int z) 0, .int l.length, .int k] ∧ M = []) (fun vs _ => l.length - (vs.getD 3 .any).toInt.toNat) ?_ ?_
 ·exact ⟨0, Nat.zero_le _, rfl, rfl, rfl⟩
 rintro vs M ⟨k, hk, hi, rfl, rfl⟩
 ((conv=>whnf);repeat (refine Wa ?_;(repeat (first|refine Wb ?_|refine Wc ?_|refine Wd ?_|refine We ?_|refine Wf ?_));(conv=>whnf)))
 refine br_dec (fun hlt => ?_) (fun hge => ?_)
 ·have hk' : k < l.length := by omega
  obtain ⟨q, hq⟩ : ∃ q, l.length - k = q + 1 := ⟨l.length - k - 1, by omega⟩
  rw [hq] at hi
  simp only [idxP] at hi
  ((conv=>whnf);repeat (refine Wa ?_;(repeat (first|refine Wb ?_|refine Wc ?_|refine Wd ?_|refine We ?_|refine Wf ?_));(conv=>whnf)))
  repeat ((first | refine ⟨by omega, ?_⟩ | refine ⟨inr (by omega), ?_⟩ | refine eqn_self ?_ | refine ⟨ms (by omega), ?_⟩ | refine ⟨ms (by simp only [Src.n]; omega), ?_⟩ | refine ⟨msk (by omega), ?_⟩ | refine ⟨ms1, ?_⟩); ((conv=>whnf);repeat (refine Wa ?_;(repeat (first|refine Wb ?_|refine Wc ?_|refine Wd ?_|refine We ?_|refine Wf ?_));(conv=>whnf))))
  refine APure.to (hp _) ?_
  ((conv=>whnf);repeat (refine Wa ?_;(repeat (first|refine Wb ?_|refine Wc ?_|refine Wd ?_|refine We ?_|refine Wf ?_));(conv=>whnf)))
  refine br_mk (fun hb => ?_) (fun hb => ?_)
  ·rw [if_pos (by simpa using hb)] at hi
   ((conv=>whnf);repeat (refine Wa ?_;(repeat (first|refine Wb ?_|refine Wc ?_|refine Wd ?_|refine We ?_|refine Wf ?_));(conv=>whnf)))
   exact ⟨trivial, Qi hi.symm⟩
  ·rw [if_neg (by simpa using hb)] at hi
   ((conv=>whnf);repeat (refine Wa ?_;(repeat (first|refine Wb ?_|refine Wc ?_|refine Wd ?_|refine We ?_|refine Wf ?_));(conv=>whnf)))
   refine ⟨inr (by omega), ?_⟩
   ((conv=>whnf);repeat (refine Wa ?_;(repeat (first|refine Wb ?_|refine Wc ?_|refine Wd ?_|refine We ?_|refine Wf ?_));(conv=>whnf)))
   refine ⟨⟨k + 1, by omega, ?_, rfl, rfl⟩, ?_⟩
   ·rw [hi, show l.length - (k + 1) = q by omega]
   ·simp [V.toInt, sel, Env.get]; omega
 ·obtain rfl : k = l.length := by omega
  ((conv=>whnf);repeat (refine Wa ?_;(repeat (first|refine Wb ?_|refine Wc ?_|refine Wd ?_|refine We ?_|refine Wf ?_));(conv=>whnf)))
  refine ⟨trivial, Qi ?_⟩
  rw [hi, Nat.sub_self]
  rfl

theorem ContainsFunc1 (p : Int → Bool) (f : Nat) (z : Int) (l : List Int) (hp : ∀ x : Int, APure Try.prog f [.int x, .at_ 1 (fun _ => .int z) 0] (fun R => R = .bool (p x))) :
  APure Try.prog 95 [.ints false l, .clo f 1 fun _ => .at_ 1 (fun _ => .int z) 0] (fun R => R = .bool (decide (0 ≤ idxP p l 0 l.length))) := by
 refine APure_of (X := cx 9) (cx_ok 9) rfl (rs := [(.tmp 4, 4)]) Try.func95 (by decide) rfl rfl rfl (by simp [cx]) (by simp [NoFr]) ?_
 intro hlen
 ((conv=>whnf);repeat (refine Wa ?_;(repeat (first|refine Wb ?_|refine Wc ?_|refine Wd ?_|refine We ?_|refine Wf ?_));(conv=>whnf)))
 refine APure.to (APure.arg2 (Sub.refl _) (subC1 rfl rfl) (IndexFunc1 p f z l hp)) ?_
 ((conv=>whnf);repeat (refine Wa ?_;(repeat (first|refine Wb ?_|refine Wc ?_|refine Wd ?_|refine We ?_|refine Wf ?_));(conv=>whnf)))
 exact ⟨trivial, rfl⟩

def sumL (l : List Int) : Nat → Int
 | 0 => 0
 | k + 1 => sumL l k + l.getD k 0
theorem sumL_bd {l : List Int} {c : Int} (hb : bet 0 c l l.length) : ∀ k, k ≤ l.length → 0 ≤ sumL l k ∧ sumL l k ≤ c * k := by
 intro k
 induction k with
 | zero => intro _; simp [sumL]
 | succ k ih =>
  intro hk
  have h1 := ih (by omega)
  have h2 := hb k (by omega)
  simp only [sumL]
  have : c * ((k + 1 : Nat) : Int) = c * k + c := by rw [Int.natCast_add, Int.mul_add]; simp
  omega
theorem sum_pure (l : List Int) (c : Int) (hl : l.length ≤ 100) (hc : 0 ≤ c ∧ c ≤ 1000000) (hb : bet 0 c l l.length) : APure Try.prog 85 [.ints false l] (fun R => R = .int (sumL l l.length)) := by
 refine APure_of (X := cx 17) (cx_ok 17) rfl (rs := [(.tmp 2, 3)]) Try.func85 (by decide) rfl rfl rfl (by simp [cx]) (by simp [NoFr]) ?_
 intro hlen
 ((conv=>whnf);repeat (refine Wa ?_;(repeat (first|refine Wb ?_|refine Wc ?_|refine Wd ?_|refine We ?_|refine Wf ?_));(conv=>whnf)))
 refine AW_loop (X := cx 17) (cx_ok 17) [3, 6, 7, 8] (fun vs M => ∃ k : Nat, k ≤ l.length ∧ vs = [.int (sumL l k), .ints false l, .int l.length, .int k] ∧ M = []) (fun vs _ => l.length - (vs.getD 3 .any).toInt.toNat) ?_ ?_
 ·exact ⟨0, Nat.zero_le _, rfl, rfl⟩
 rintro vs M ⟨k, hk, rfl, rfl⟩
 have s1 := sumL_bd hb k hk
 ((conv=>whnf);repeat (refine Wa ?_;(repeat (first|refine Wb ?_|refine Wc ?_|refine Wd ?_|refine We ?_|refine Wf ?_));(conv=>whnf)))
 refine br_dec (fun hlt => ?_) (fun hge => ?_)
 ·have hk' : k < l.length := by omega
  have s2 := hb k hk'
  have s3 : c * (k : Int) ≤ 1000000 * 100 := Int.le_trans (Int.mul_le_mul_of_nonneg_right hc.2 (by omega)) (by omega)
  ((conv=>whnf);repeat (refine Wa ?_;(repeat (first|refine Wb ?_|refine Wc ?_|refine Wd ?_|refine We ?_|refine Wf ?_));(conv=>whnf)))
  refine ⟨by omega, ?_⟩
  ((conv=>whnf);repeat (refine Wa ?_;(repeat (first|refine Wb ?_|refine Wc ?_|refine Wd ?_|refine We ?_|refine Wf ?_));(conv=>whnf)))
  refine ⟨by omega, ?_⟩
  ((conv=>whnf);repeat (refine Wa ?_;(repeat (first|refine Wb ?_|refine Wc ?_|refine Wd ?_|refine We ?_|refine Wf ?_));(conv=>whnf)))
  refine ⟨inr (show -9223372036854775808 ≤ sumL l k + l.getD k 0 ∧ sumL l k + l.getD k 0 ≤ 9223372036854775807 by omega), ?_⟩
  ((conv=>whnf);repeat (refine Wa ?_;(repeat (first|refine Wb ?_|refine Wc ?_|refine Wd ?_|refine We ?_|refine Wf ?_));(conv=>whnf)))
  refine ⟨inr (by omega), ?_⟩
  ((conv=>whnf);repeat (refine Wa ?_;(repeat (first|refine Wb ?_|refine Wc ?_|refine Wd ?_|refine We ?_|refine Wf ?_));(conv=>whnf)))
  refine ⟨⟨k + 1, by omega, rfl, rfl⟩, ?_⟩
  simp [V.toInt, sel, Env.get]; omega
 ·obtain rfl : k = l.length := by omega
  ((conv=>whnf);repeat (refine Wa ?_;(repeat (first|refine Wb ?_|refine Wc ?_|refine Wd ?_|refine We ?_|refine Wf ?_));(conv=>whnf)))
  exact ⟨trivial, rfl⟩


theorem few_pure (a b c : List Int) : APure Try.prog 14 [.ints false a, .ints false b, .ints false c] (fun R => R = .bool (decide (a.length ≤ 30 ∧ b.length ≤ 30 ∧ c.length ≤ 30))) := by
 refine APure_of (X := cx 20) (cx_ok 20) rfl (rs := [(.tmp 6, 4)]) Try.func14 (by decide) rfl rfl rfl (by simp [cx]) (by simp [NoFr]) ?_
 intro hlen
 ((conv=>whnf);repeat (refine Wa ?_;(repeat (first|refine Wb ?_|refine Wc ?_|refine Wd ?_|refine We ?_|refine Wf ?_));(conv=>whnf)))
 refine br_dec (fun h1 => ?_) (fun h1 => ?_)
 ·((conv=>whnf);repeat (refine Wa ?_;(repeat (first|refine Wb ?_|refine Wc ?_|refine Wd ?_|refine We ?_|refine Wf ?_));(conv=>whnf)))
  refine br_dec (fun h2 => ?_) (fun h2 => ?_)
  ·((conv=>whnf);repeat (refine Wa ?_;(repeat (first|refine Wb ?_|refine Wc ?_|refine Wd ?_|refine We ?_|refine Wf ?_));(conv=>whnf)))
   exact ⟨trivial, Qb (decide_eq_decide.2 (by omega))⟩
  ·((conv=>whnf);repeat (refine Wa ?_;(repeat (first|refine Wb ?_|refine Wc ?_|refine Wd ?_|refine We ?_|refine Wf ?_));(conv=>whnf)))
   exact ⟨trivial, Qb (decide_eq_false (by omega)).symm⟩
 ·((conv=>whnf);repeat (refine Wa ?_;(repeat (first|refine Wb ?_|refine Wc ?_|refine Wd ?_|refine We ?_|refine Wf ?_));(conv=>whnf)))
  exact ⟨trivial, Qb (decide_eq_false (by omega)).symm⟩

theorem wf_u8 {p : Int} (h : (Lit.int .u8 p).wf = true) : 0 ≤ p ∧ p ≤ 255 := by
 simp only [Lit.wf, Bool.and_eq_true, decide_eq_true_eq] at h
 exact h
/-- Points. -/
def Pts (l : List Int) : Prop := 1 ≤ l.length ∧ l.length ≤ 8 ∧ bet 0 100 l l.length ∧ sumL l l.length = 100
open Classical in
noncomputable def ptE (l : List Int) : Int := if l.length > 8 then 3 else if Pts l then 0 else 2
noncomputable def boE (a b : List Int) : Int := if ptE a = 0 then (if ptE b = 0 then (if a.length = b.length then 0 else 2) else ptE b) else ptE a
theorem ptE_big {l : List Int} (h : l.length > 8) : ptE l = 3 := by unfold ptE; rw [if_pos h]
theorem ptE_bad {l : List Int} (h : ¬ l.length > 8) (h2 : ¬ Pts l) : ptE l = 2 := by unfold ptE; rw [if_neg h, if_neg h2]
theorem ptE_ok {l : List Int} (h2 : Pts l) : ptE l = 0 := by unfold ptE; rw [if_neg (by have := h2.2.1; omega), if_pos h2]
theorem ptE_inv {l : List Int} (h : ptE l = 0) : Pts l := by
 unfold ptE at h
 split at h
 ·omega
 ·split at h
  ·assumption
  ·omega
theorem boE_inv {a b : List Int} (h : boE a b = 0) : Pts a ∧ Pts b ∧ a.length = b.length := by
 unfold boE at h
 split at h
 ·next h1 =>
  split at h
  ·next h2 =>
   split at h
   ·next h3 => exact ⟨ptE_inv h1, ptE_inv h2, h3⟩
   ·omega
  ·next h2 => exact absurd h h2
 ·next h1 => exact absurd h h1

theorem within1_pure (x z : Int) : APure Try.prog 106 [.int x, .at_ 1 (fun _ => .int z) 0] (fun R => R = .bool (decide (x < 0 ∨ x > z))) := by
 refine APure_of (X := cx 11) (cx_ok 11) rfl (rs := [(.tmp 3, 4)]) Try.func106 (by decide) rfl rfl rfl (by simp [cx]) (by simp [NoFr]) ?_
 intro _
 ((conv=>whnf);repeat (refine Wa ?_;(repeat (first|refine Wb ?_|refine Wc ?_|refine Wd ?_|refine We ?_|refine Wf ?_));(conv=>whnf)))
 refine br_dec (fun h => ?_) (fun h => ?_)
 ·((conv=>whnf);repeat (refine Wa ?_;(repeat (first|refine Wb ?_|refine Wc ?_|refine Wd ?_|refine We ?_|refine Wf ?_));(conv=>whnf)))
  exact ⟨trivial, Qb (decide_eq_true (Or.inl h)).symm⟩
 ·((conv=>whnf);repeat (refine Wa ?_;(repeat (first|refine Wb ?_|refine Wc ?_|refine Wd ?_|refine We ?_|refine Wf ?_));(conv=>whnf)))
  exact ⟨trivial, Qb (decide_eq_decide.2 (by omega))⟩
open Classical in
theorem within_pure (l : List Int) (z : Int) : APure Try.prog 84 [.ints false l, .int z] (fun R => R = .bool (decide (bet 0 z l l.length))) := by
 refine APure_of (X := cx 9) (cx_ok 9) rfl (rs := [(.tmp 4, 4)]) Try.func84 (by decide) rfl rfl rfl (by simp [cx]) (by simp [NoFr]) ?_
 intro hlen
 have hiff := idxP_ge (fun x => decide (x < 0 ∨ x > z)) l l.length 0
 have e : (!decide (0 ≤ idxP (fun x => decide (x < 0 ∨ x > z)) l 0 l.length)) = decide (bet 0 z l l.length) := by
  rw [Bool.eq_iff_iff, Bool.not_eq_true', decide_eq_false_iff_not, decide_eq_true_iff, hiff]
  constructor
  ·intro h j hj
   have : ¬ (l.getD j 0 < 0 ∨ l.getD j 0 > z) := fun h3 => h ⟨j, by omega, by omega, decide_eq_true h3⟩
   omega
  ·rintro h ⟨j, _, h2, h3⟩
   have := h j (by omega)
   have h3 := of_decide_eq_true h3
   omega
 ((conv=>whnf);repeat (refine Wa ?_;(repeat (first|refine Wb ?_|refine Wc ?_|refine Wd ?_|refine We ?_|refine Wf ?_));(conv=>whnf)))
 refine APure.to (APure.arg2 (Sub.refl _) (subC1 rfl rfl) (ContainsFunc1 _ _ z l (fun x => within1_pure x z))) ?_
 ((conv=>whnf);repeat (refine Wa ?_;(repeat (first|refine Wb ?_|refine Wc ?_|refine Wd ?_|refine We ?_|refine Wf ?_));(conv=>whnf)))
 exact ⟨trivial, Qb e⟩

open Classical in
theorem checkPoints_pure (l : List Int) : APure Try.prog 75 [.ints false l] (fun R => R = .int (ptE l)) := by
 refine APure_of (X := cx 14) (cx_ok 14) rfl (rs := [(.tmp 2, 29)]) Try.func75 (by decide) rfl rfl rfl (by simp [cx]) (by simp [NoFr]) ?_
 intro hlen
 ((conv=>whnf);repeat (refine Wa ?_;(repeat (first|refine Wb ?_|refine Wc ?_|refine Wd ?_|refine We ?_|refine Wf ?_));(conv=>whnf)))
 refine br_dec (fun h => ?_) (fun h => ?_)
 ·((conv=>whnf);repeat (refine Wa ?_;(repeat (first|refine Wb ?_|refine Wc ?_|refine Wd ?_|refine We ?_|refine Wf ?_));(conv=>whnf)))
  exact ⟨trivial, Qi (ptE_big (by omega)).symm⟩
 have h8 : ¬ l.length > 8 := by omega
 ((conv=>whnf);repeat (refine Wa ?_;(repeat (first|refine Wb ?_|refine Wc ?_|refine Wd ?_|refine We ?_|refine Wf ?_));(conv=>whnf)))
 refine APure.to (within_pure l 100) ?_
 by_cases hb : bet 0 100 l l.length
 ·rw [decide_eq_true hb]
  have hs := sum_pure l 100 (by omega) (by omega) hb
  ((conv=>whnf);repeat (refine Wa ?_;(repeat (first|refine Wb ?_|refine Wc ?_|refine Wd ?_|refine We ?_|refine Wf ?_));(conv=>whnf)))
  refine APure.to hs ?_
  ((conv=>whnf);repeat (refine Wa ?_;(repeat (first|refine Wb ?_|refine Wc ?_|refine Wd ?_|refine We ?_|refine Wf ?_));(conv=>whnf)))
  refine br_ne (fun hx => ?_) (fun hx => ?_)
  ·((conv=>whnf);repeat (refine Wa ?_;(repeat (first|refine Wb ?_|refine Wc ?_|refine Wd ?_|refine We ?_|refine Wf ?_));(conv=>whnf)))
   exact ⟨trivial, Qi (ptE_bad h8 fun hv => hx hv.2.2.2).symm⟩
  ·((conv=>whnf);repeat (refine Wa ?_;(repeat (first|refine Wb ?_|refine Wc ?_|refine Wd ?_|refine We ?_|refine Wf ?_));(conv=>whnf)))
   refine ⟨trivial, Qi (ptE_ok ⟨?_, by omega, hb, hx⟩).symm⟩
   rcases Nat.eq_zero_or_pos l.length with h0 | h0
   ·rw [h0] at hx
    exact absurd hx (by show ¬ (0 : Int) = 100; decide)
   ·exact h0
 ·rw [decide_eq_false hb]
  ((conv=>whnf);repeat (refine Wa ?_;(repeat (first|refine Wb ?_|refine Wc ?_|refine Wd ?_|refine We ?_|refine Wf ?_));(conv=>whnf)))
  exact ⟨trivial, Qi (ptE_bad h8 fun hv => hb hv.2.2.1).symm⟩

theorem checkBoth_pure (a b : List Int) : APure Try.prog 50 [.ints false a, .ints false b] (fun R => R = .int (boE a b)) := by
 refine APure_of (X := cx 22) (cx_ok 22) rfl (rs := [(.tmp 4, 29)]) Try.func50 (by decide) rfl rfl rfl (by simp [cx]) (by simp [NoFr]) ?_
 intro hlen
 have c1 := checkPoints_pure a
 have c2 := checkPoints_pure b
 unfold boE
 ((conv=>whnf);repeat (refine Wa ?_;(repeat (first|refine Wb ?_|refine Wc ?_|refine Wd ?_|refine We ?_|refine Wf ?_));(conv=>whnf)))
 refine APure.to c1 ?_
 ((conv=>whnf);repeat (refine Wa ?_;(repeat (first|refine Wb ?_|refine Wc ?_|refine Wd ?_|refine We ?_|refine Wf ?_));(conv=>whnf)))
 refine br_ne (fun h1 => ?_) (fun h1 => ?_)
 ·rw [if_neg h1]
  ((conv=>whnf);repeat (refine Wa ?_;(repeat (first|refine Wb ?_|refine Wc ?_|refine Wd ?_|refine We ?_|refine Wf ?_));(conv=>whnf)))
  exact ⟨trivial, rfl⟩
 rw [if_pos h1]
 ((conv=>whnf);repeat (refine Wa ?_;(repeat (first|refine Wb ?_|refine Wc ?_|refine Wd ?_|refine We ?_|refine Wf ?_));(conv=>whnf)))
 refine APure.to c2 ?_
 ((conv=>whnf);repeat (refine Wa ?_;(repeat (first|refine Wb ?_|refine Wc ?_|refine Wd ?_|refine We ?_|refine Wf ?_));(conv=>whnf)))
 refine br_ne (fun h2 => ?_) (fun h2 => ?_)
 ·rw [if_neg h2]
  ((conv=>whnf);repeat (refine Wa ?_;(repeat (first|refine Wb ?_|refine Wc ?_|refine Wd ?_|refine We ?_|refine Wf ?_));(conv=>whnf)))
  exact ⟨trivial, rfl⟩
 rw [if_pos h2]
 ((conv=>whnf);repeat (refine Wa ?_;(repeat (first|refine Wb ?_|refine Wc ?_|refine Wd ?_|refine We ?_|refine Wf ?_));(conv=>whnf)))
 refine br_ne (fun h3 => ?_) (fun h3 => ?_)
 ·rw [if_neg (by omega)]
  ((conv=>whnf);repeat (refine Wa ?_;(repeat (first|refine Wb ?_|refine Wc ?_|refine Wd ?_|refine We ?_|refine Wf ?_));(conv=>whnf)))
  exact ⟨trivial, rfl⟩
 ·rw [if_pos (by omega)]
  ((conv=>whnf);repeat (refine Wa ?_;(repeat (first|refine Wb ?_|refine Wc ?_|refine Wd ?_|refine We ?_|refine Wf ?_));(conv=>whnf)))
  exact ⟨trivial, rfl⟩

open Classical in
theorem isPoints_pure (l : List Int) (h8 : l.length ≤ 8) : APure Try.prog 64 [.ints false l] (fun R => R = .bool (decide (Pts l))) := by
 refine APure_of (X := cx 36) (cx_ok 36) rfl (rs := [(.tmp 2, 4)]) Try.func64 (by decide) rfl rfl rfl (by simp [cx]) (by simp [NoFr]) ?_
 intro hlen
 ((conv=>whnf);repeat (refine Wa ?_;(repeat (first|refine Wb ?_|refine Wc ?_|refine Wd ?_|refine We ?_|refine Wf ?_));(conv=>whnf)))
 refine AW_loop (X := cx 36) (cx_ok 36) [0, 3, 4] (fun vs M => ∃ k : Nat, k ≤ l.length ∧ bet 0 100 l k ∧ vs = [.ints false l, .int (sumL l k), .int k] ∧ M = []) (fun vs _ => l.length - (vs.getD 2 .any).toInt.toNat) ?_ ?_
 ·exact ⟨0, Nat.zero_le _, fun j hj => absurd hj (by omega), rfl, rfl⟩
 rintro vs M ⟨k, hk, hb, rfl, rfl⟩
 have hsb : 0 ≤ sumL l k ∧ sumL l k ≤ 100 * k := by
  clear hlen
  revert hk hb
  induction k with
  | zero => intro _ _; simp [sumL]
  | succ k ih =>
   intro hk hb
   have h1 := ih (by omega) (fun j hj => hb j (by omega))
   have h2 := hb k (by omega)
   simp only [sumL]
   omega
 ((conv=>whnf);repeat (refine Wa ?_;(repeat (first|refine Wb ?_|refine Wc ?_|refine Wd ?_|refine We ?_|refine Wf ?_));(conv=>whnf)))
 refine br_dec (fun hlt => ?_) (fun hge => ?_)
 ·have hk' : k < l.length := by omega
  ((conv=>whnf);repeat (refine Wa ?_;(repeat (first|refine Wb ?_|refine Wc ?_|refine Wd ?_|refine We ?_|refine Wf ?_));(conv=>whnf)))
  refine ⟨(show (0 : Int) ≤ (k : Int) by omega), ?_⟩
  refine ⟨(show (k : Int) < (l.length : Int) by omega), ?_⟩
  ((conv=>whnf);repeat (refine Wa ?_;(repeat (first|refine Wb ?_|refine Wc ?_|refine Wd ?_|refine We ?_|refine Wf ?_));(conv=>whnf)))
  refine br_dec (fun h1 => ?_) (fun h1 => ?_)
  ·((conv=>whnf);repeat (refine Wa ?_;(repeat (first|refine Wb ?_|refine Wc ?_|refine Wd ?_|refine We ?_|refine Wf ?_));(conv=>whnf)))
   refine ⟨trivial, Qb (decide_eq_false fun hv => ?_).symm⟩
   have := hv.2.2.1 k hk'
   have h1 : l.getD k 0 < 0 := h1
   omega
  ((conv=>whnf);repeat (refine Wa ?_;(repeat (first|refine Wb ?_|refine Wc ?_|refine Wd ?_|refine We ?_|refine Wf ?_));(conv=>whnf)))
  refine ⟨(show (0 : Int) ≤ (k : Int) by omega), ?_⟩
  refine ⟨(show (k : Int) < (l.length : Int) by omega), ?_⟩
  ((conv=>whnf);repeat (refine Wa ?_;(repeat (first|refine Wb ?_|refine Wc ?_|refine Wd ?_|refine We ?_|refine Wf ?_));(conv=>whnf)))
  refine br_dec (fun h2 => ?_) (fun h2 => ?_)
  ·((conv=>whnf);repeat (refine Wa ?_;(repeat (first|refine Wb ?_|refine Wc ?_|refine Wd ?_|refine We ?_|refine Wf ?_));(conv=>whnf)))
   refine ⟨trivial, Qb (decide_eq_false fun hv => ?_).symm⟩
   have := hv.2.2.1 k hk'
   have h2 : l.getD k 0 > 100 := h2
   omega
  have h1 : ¬ l.getD k 0 < 0 := h1
  have h2 : ¬ l.getD k 0 > 100 := h2
  ((conv=>whnf);repeat (refine Wa ?_;(repeat (first|refine Wb ?_|refine Wc ?_|refine Wd ?_|refine We ?_|refine Wf ?_));(conv=>whnf)))
  refine ⟨(show (0 : Int) ≤ (k : Int) by omega), ?_⟩
  refine ⟨(show (k : Int) < (l.length : Int) by omega), ?_⟩
  ((conv=>whnf);repeat (refine Wa ?_;(repeat (first|refine Wb ?_|refine Wc ?_|refine Wd ?_|refine We ?_|refine Wf ?_));(conv=>whnf)))
  refine ⟨inr (show -9223372036854775808 ≤ sumL l k + l.getD k 0 ∧ sumL l k + l.getD k 0 ≤ 9223372036854775807 by omega), ?_⟩
  ((conv=>whnf);repeat (refine Wa ?_;(repeat (first|refine Wb ?_|refine Wc ?_|refine Wd ?_|refine We ?_|refine Wf ?_));(conv=>whnf)))
  refine ⟨inr (by omega), ?_⟩
  ((conv=>whnf);repeat (refine Wa ?_;(repeat (first|refine Wb ?_|refine Wc ?_|refine Wd ?_|refine We ?_|refine Wf ?_));(conv=>whnf)))
  refine ⟨⟨k + 1, hk', hb.succ (by omega) (by omega), rfl, rfl⟩, ?_⟩
  simp [V.toInt, sel, Env.get]; omega
 ·obtain rfl : k = l.length := by omega
  ((conv=>whnf);repeat (refine Wa ?_;(repeat (first|refine Wb ?_|refine Wc ?_|refine Wd ?_|refine We ?_|refine Wf ?_));(conv=>whnf)))
  refine br_dec (fun h1 => ?_) (fun h1 => ?_)
  ·((conv=>whnf);repeat (refine Wa ?_;(repeat (first|refine Wb ?_|refine Wc ?_|refine Wd ?_|refine We ?_|refine Wf ?_));(conv=>whnf)))
   refine ⟨trivial, Qb ?_⟩
   rw [Bool.eq_iff_iff, decide_eq_true_iff]
   constructor
   ·intro h
    exact ⟨by omega, h8, hb, by simpa using h⟩
   ·intro h
    simpa using h.2.2.2
  ·((conv=>whnf);repeat (refine Wa ?_;(repeat (first|refine Wb ?_|refine Wc ?_|refine Wd ?_|refine We ?_|refine Wf ?_));(conv=>whnf)))
   exact ⟨trivial, Qb (decide_eq_false fun hv => by have := hv.1; omega).symm⟩

open Classical in
theorem Points_pure (a b : List Int) : APure Try.prog 35 [.ints false a, .ints false b] (fun R => R = .int (boE a b)) := by
 refine APure_of (X := cx 24) (cx_ok 24) rfl (rs := [(.tmp 4, 29)]) Try.func35 (by decide) rfl rfl rfl (by simp [cx]) (by simp [NoFr]) ?_
 intro hlen
 unfold boE
 ((conv=>whnf);repeat (refine Wa ?_;(repeat (first|refine Wb ?_|refine Wc ?_|refine Wd ?_|refine We ?_|refine Wf ?_));(conv=>whnf)))
 refine br_dec (fun h1 => ?_) (fun h1 => ?_)
 ·rw [ptE_big (l := a) (by omega), if_neg (by decide)]
  ((conv=>whnf);repeat (refine Wa ?_;(repeat (first|refine Wb ?_|refine Wc ?_|refine Wd ?_|refine We ?_|refine Wf ?_));(conv=>whnf)))
  exact ⟨trivial, rfl⟩
 have a8 : ¬ a.length > 8 := by omega
 ((conv=>whnf);repeat (refine Wa ?_;(repeat (first|refine Wb ?_|refine Wc ?_|refine Wd ?_|refine We ?_|refine Wf ?_));(conv=>whnf)))
 refine APure.to (isPoints_pure a (by omega)) ?_
 by_cases ha : Pts a
 ·rw [decide_eq_true ha, ptE_ok ha, if_pos rfl]
  ((conv=>whnf);repeat (refine Wa ?_;(repeat (first|refine Wb ?_|refine Wc ?_|refine Wd ?_|refine We ?_|refine Wf ?_));(conv=>whnf)))
  refine br_dec (fun h2 => ?_) (fun h2 => ?_)
  ·rw [ptE_big (l := b) (by omega), if_neg (by decide)]
   ((conv=>whnf);repeat (refine Wa ?_;(repeat (first|refine Wb ?_|refine Wc ?_|refine Wd ?_|refine We ?_|refine Wf ?_));(conv=>whnf)))
   exact ⟨trivial, rfl⟩
  have b8 : ¬ b.length > 8 := by omega
  ((conv=>whnf);repeat (refine Wa ?_;(repeat (first|refine Wb ?_|refine Wc ?_|refine Wd ?_|refine We ?_|refine Wf ?_));(conv=>whnf)))
  refine APure.to (isPoints_pure b (by omega)) ?_
  by_cases hb : Pts b
  ·rw [decide_eq_true hb, ptE_ok hb, if_pos rfl]
   ((conv=>whnf);repeat (refine Wa ?_;(repeat (first|refine Wb ?_|refine Wc ?_|refine Wd ?_|refine We ?_|refine Wf ?_));(conv=>whnf)))
   refine br_ne (fun h3 => ?_) (fun h3 => ?_)
   ·rw [if_neg (by omega)]
    ((conv=>whnf);repeat (refine Wa ?_;(repeat (first|refine Wb ?_|refine Wc ?_|refine Wd ?_|refine We ?_|refine Wf ?_));(conv=>whnf)))
    exact ⟨trivial, rfl⟩
   ·rw [if_pos (by omega)]
    ((conv=>whnf);repeat (refine Wa ?_;(repeat (first|refine Wb ?_|refine Wc ?_|refine Wd ?_|refine We ?_|refine Wf ?_));(conv=>whnf)))
    exact ⟨trivial, rfl⟩
  ·rw [decide_eq_false hb, ptE_bad b8 hb, if_neg (by decide)]
   ((conv=>whnf);repeat (refine Wa ?_;(repeat (first|refine Wb ?_|refine Wc ?_|refine Wd ?_|refine We ?_|refine Wf ?_));(conv=>whnf)))
   exact ⟨trivial, rfl⟩
 ·rw [decide_eq_false ha, ptE_bad a8 ha, if_neg (by decide)]
  ((conv=>whnf);repeat (refine Wa ?_;(repeat (first|refine Wb ?_|refine Wc ?_|refine Wd ?_|refine We ?_|refine Wf ?_));(conv=>whnf)))
  exact ⟨trivial, rfl⟩
end Go.Tri
