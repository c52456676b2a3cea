/-
 CONTRACTS: lists of streets, mends and lists of cuts, as the program judges them.
-/
import Derived.Test.YtafibngpgllcfaaM5
import Derived.Test.YtafibngpgllcfaaB15
namespace Go.Tri
open Go.Proofs

theorem nofrQL {n m : Nat} {A B : Nat → Int} {l : List Int} : ∀ x ∈ [quV n m A B, V.ints false l], NoFr x := nofr2 nofrQ' (show NoFr (.ints false l) from rfl)
theorem LenL {x : V} {l : List Int} (h : ∀ y ∈ [x, V.ints false l], LenOk y) : (l.length : Int) ≤ 9223372036854775807 := h (.ints false l) (by simp)
set_option maxRecDepth 100000 in
theorem areStreets_pure {n m : Nat} {A B : Nat → Nat} (hQ : Qn n m A B) (l : List Int) : APure Try.prog 78 [qu n m A B, .ints false l] (fun R => R = .bool (asB m l l.length)) := by
 refine APure_of (X := cx 27) (cx_ok 27) rfl (rs := [(.tmp 4, 4)]) Try.func78 (by decide) rfl rfl rfl (by simp [cx]) (nofrQL) ?_
 intro hlen
 have hl := LenL hlen
 have hm := hQ.sm
 ((conv=>whnf);repeat (refine Wa ?_;(repeat (first|refine Wb ?_|refine Wc ?_|refine Wd ?_|refine We ?_|refine Wf ?_));(conv=>whnf)))
 refine AW_loop (X := cx 27) (cx_ok 27) [2, 5, 8, 9, 10] (fun vs M => ∃ k : Nat, k ≤ l.length ∧ asB m l k = true ∧ vs = [.ptr 0 0 0 0, .int (nxS l k), .ints false l, .int l.length, .int k] ∧ M = [some (quO n m (fun j => A j) (fun j => B j))]) (fun vs _ => l.length - (vs.getD 4 .any).toInt.toNat) ?_ ?_
 ·exact ⟨0, Nat.zero_le _, rfl, rfl, rfl⟩
 rintro vs M ⟨k, hk, has, rfl, rfl⟩
 ((conv=>whnf);repeat (refine Wa ?_;(repeat (first|refine Wb ?_|refine Wc ?_|refine Wd ?_|refine We ?_|refine Wf ?_));(conv=>whnf)))
 refine br_dec (fun hlt => ?_) (fun hge => ?_)
 ·have hk' : k < l.length := by omega
  have no : ¬ (0 ≤ l.getD k 0 ∧ l.getD k 0 < m ∧ (0 < k → l.getD (k - 1) 0 < l.getD k 0)) → false = asB m l l.length := fun h => (allB_false hk' (show asP m l k = false from decide_eq_false h)).symm
  ((conv=>whnf);repeat (refine Wa ?_;(repeat (first|refine Wb ?_|refine Wc ?_|refine Wd ?_|refine We ?_|refine Wf ?_));(conv=>whnf)))
  repeat ((first | refine ⟨by omega, ?_⟩ | refine ⟨inr (by omega), ?_⟩ | refine eqn_self ?_ | refine ⟨ms (by omega), ?_⟩ | refine ⟨ms (by simp only [Src.n]; omega), ?_⟩ | refine ⟨msk (by omega), ?_⟩ | refine ⟨ms1, ?_⟩); ((conv=>whnf);repeat (refine Wa ?_;(repeat (first|refine Wb ?_|refine Wc ?_|refine Wd ?_|refine We ?_|refine Wf ?_));(conv=>whnf))))
  rw [Int.toNat_natCast]
  refine br_dec (fun h1 => ?_) (fun h1 => ?_)
  ·have h1 : l.getD k 0 < nxS l k := h1
   ((conv=>whnf);repeat (refine Wa ?_;(repeat (first|refine Wb ?_|refine Wc ?_|refine Wd ?_|refine We ?_|refine Wf ?_));(conv=>whnf)))
   refine ⟨trivial, Qb (no fun h => ?_)⟩
   unfold nxS at h1
   split at h1
   ·omega
   ·have := h.2.2 (by omega); omega
  have h1 : ¬ l.getD k 0 < nxS l k := h1
  ((conv=>whnf);repeat (refine Wa ?_;(repeat (first|refine Wb ?_|refine Wc ?_|refine Wd ?_|refine We ?_|refine Wf ?_));(conv=>whnf)))
  refine br_dec (fun h2 => ?_) (fun h2 => ?_)
  ·have h2 : l.getD k 0 ≥ (m : Int) := h2
   ((conv=>whnf);repeat (refine Wa ?_;(repeat (first|refine Wb ?_|refine Wc ?_|refine Wd ?_|refine We ?_|refine Wf ?_));(conv=>whnf)))
   exact ⟨trivial, Qb (no fun h => by omega)⟩
  have h2 : ¬ l.getD k 0 ≥ (m : Int) := h2
  have h3 : 0 ≤ l.getD k 0 ∧ l.getD k 0 < m ∧ (0 < k → l.getD (k - 1) 0 < l.getD k 0) := by
   unfold nxS at h1
   by_cases h0 : k = 0
   ·rw [if_pos h0] at h1
    exact ⟨by omega, by omega, fun h => by omega⟩
   ·rw [if_neg h0] at h1
    have := (asP_iff.1 (allB_iff.1 has (k - 1) (by omega))).1
    exact ⟨by omega, by omega, fun h => by omega⟩
  ((conv=>whnf);repeat (refine Wa ?_;(repeat (first|refine Wb ?_|refine Wc ?_|refine Wd ?_|refine We ?_|refine Wf ?_));(conv=>whnf)))
  refine ⟨inr (by omega), ?_⟩
  ((conv=>whnf);repeat (refine Wa ?_;(repeat (first|refine Wb ?_|refine Wc ?_|refine Wd ?_|refine We ?_|refine Wf ?_));(conv=>whnf)))
  refine ⟨inr (by omega), ?_⟩
  ((conv=>whnf);repeat (refine Wa ?_;(repeat (first|refine Wb ?_|refine Wc ?_|refine Wd ?_|refine We ?_|refine Wf ?_));(conv=>whnf)))
  refine ⟨⟨k + 1, hk', allB_iff.2 fun j hj => ?_, ?_, rfl⟩, by simp [V.toInt, sel, Env.get]; omega⟩
  ·by_cases hjk : j = k
   ·rw [hjk]; exact asP_iff.2 h3
   ·exact allB_iff.1 has j (by omega)
  ·rw [show nxS l (k + 1) = l.getD k 0 + 1 from by unfold nxS; rw [if_neg (Nat.succ_ne_zero k), Nat.add_sub_cancel]]
   rfl
 ·obtain rfl : k = l.length := by omega
  ((conv=>whnf);repeat (refine Wa ?_;(repeat (first|refine Wb ?_|refine Wc ?_|refine Wd ?_|refine We ?_|refine Wf ?_));(conv=>whnf)))
  exact ⟨trivial, Qb has.symm⟩
/-- The place of the first that is so. -/
def idxF (p : Nat → Bool) : Nat → Nat → Int
 | _, 0 => -1
 | k, f + 1 => if p k = true then k else idxF p (k + 1) f
theorem idxF_ge (p : Nat → Bool) : ∀ f k, (0 ≤ idxF p k f) ↔ ∃ j, k ≤ j ∧ j < k + f ∧ p j = true := by
 intro f
 induction f with
 | zero => intro k; simp [idxF]; omega
 | succ f ih =>
  intro k
  rw [idxF]
  by_cases h : p k = true
  ·rw [if_pos h]
   exact ⟨fun _ => ⟨k, by omega, by omega, h⟩, fun _ => by omega⟩
  ·rw [if_neg h, ih]
   refine ⟨fun ⟨j, h1, h2, h3⟩ => ⟨j, by omega, by omega, h3⟩, fun ⟨j, h1, h2, h3⟩ => ⟨j, ?_, by omega, h3⟩⟩
   by_cases hj : j = k
   ·rw [hj] at h3; exact absurd h3 h
   ·omega
theorem idxF_all (p : Nat → Bool) (k : Nat) : (!decide (0 ≤ idxF p 0 k)) = allB (fun j => !p j) k := by
 rw [Bool.eq_iff_iff, Bool.not_eq_true', decide_eq_false_iff_not, idxF_ge, allB_iff]
 refine ⟨fun h j hj => ?_, fun h ⟨j, _, h2, h3⟩ => ?_⟩
 ·cases hp : p j with
  | false => rfl
  | true => exact absurd ⟨j, by omega, by omega, hp⟩ h
 ·have := h j (by omega)
  rw [h3] at this
  cases this
theorem meets1_pure (a : Int) (x s : Nat) (hx : x < 9223372036854775808) (hs : s < 9223372036854775808) : APure Try.prog 89 [prV a x, boxN s] (fun R => R = .bool (s &&& x == 0)) := by
 refine APure_of (X := cx 9) (cx_ok 9) rfl (rs := [(.tmp 3, 4)]) Try.func89 (by decide) rfl rfl rfl (by simp [cx]) (nofr2 nofrPrV nofrBoxN) ?_
 intro _
 ((conv=>whnf);repeat (refine Wa ?_;(repeat (first|refine Wb ?_|refine Wc ?_|refine Wd ?_|refine We ?_|refine Wf ?_));(conv=>whnf)))
 rw [andI hs hx]
 refine ⟨trivial, Qb ?_⟩
 rw [Bool.eq_iff_iff, beq_iff_eq, beq_iff_eq]
 omega
@[reducible] def meC (s : Nat) : V := .clo 89 1 fun _ => boxN s
theorem nofrMe {s : Nat} : NoFr (meC s) := fun _ => nofrBoxN
def meP (m : Nat) (A B : Nat → Nat) (L : List Int) (s j : Nat) : Bool := s &&& lvS A B (L.getD j 0).toNat m == 0
theorem IndexM {n m : Nat} {A B : Nat → Nat} (hQ : Qn n m A B) (L : List Int) (s : Nat) (hs : s < 9223372036854775808) : APure Try.prog 99 [cusV m A B false L, meC s] (fun R => R = .int (idxF (meP m A B L s) 0 L.length)) := by
 refine APure_of (X := cx 19) (cx_ok 19) rfl (rs := [(.tmp 4, 3)]) Try.func99 (by decide) rfl rfl rfl (by simp [cx]) (nofr2 nofrCu nofrMe) ?_
 intro hlen
 have hl : (L.length : Int) ≤ 9223372036854775807 := hlen (cusV m A B false L) (by simp)
 ((conv=>whnf);repeat (refine Wa ?_;(repeat (first|refine Wb ?_|refine Wc ?_|refine Wd ?_|refine We ?_|refine Wf ?_));(conv=>whnf)))
 refine AW_loop (X := cx 19) (cx_ok 19) [0, 1, 7, 8] (fun vs M => ∃ k : Nat, k ≤ L.length ∧ idxF (meP m A B L s) 0 L.length = idxF (meP m A B L s) k (L.length - k) ∧ vs = [cusV m A B false L, meC s, .int L.length, .int k] ∧ M = []) (fun vs _ => L.length - (vs.getD 3 .any).toInt.toNat) ?_ ?_
 ·exact ⟨0, Nat.zero_le _, rfl, rfl, rfl⟩
 rintro vs M ⟨k, hk, hi, rfl, rfl⟩
 ((conv=>whnf);repeat (refine Wa ?_;(repeat (first|refine Wb ?_|refine Wc ?_|refine Wd ?_|refine We ?_|refine Wf ?_));(conv=>whnf)))
 refine br_dec (fun hlt => ?_) (fun hge => ?_)
 ·have hk' : k < L.length := by omega
  obtain ⟨q, hq⟩ : ∃ q, L.length - k = q + 1 := ⟨L.length - k - 1, by omega⟩
  rw [hq] at hi
  simp only [idxF] at hi
  have c1 := meets1_pure (L.getD k 0) (lvS A B (L.getD k 0).toNat m) s (by have := lv_small hQ (L.getD k 0).toNat; omega) hs
  ((conv=>whnf);repeat (refine Wa ?_;(repeat (first|refine Wb ?_|refine Wc ?_|refine Wd ?_|refine We ?_|refine Wf ?_));(conv=>whnf)))
  repeat ((first | refine ⟨by omega, ?_⟩ | refine ⟨inr (by omega), ?_⟩ | refine eqn_self ?_ | refine ⟨ms (by omega), ?_⟩ | refine ⟨ms (by simp only [Src.n]; omega), ?_⟩ | refine ⟨msk (by omega), ?_⟩ | refine ⟨ms1, ?_⟩); ((conv=>whnf);repeat (refine Wa ?_;(repeat (first|refine Wb ?_|refine Wc ?_|refine Wd ?_|refine We ?_|refine Wf ?_));(conv=>whnf))))
  rw [Int.toNat_natCast]
  refine APure.to (APure.arg2 (sub_agg fun i hi => by
   have hi : i < 2 := hi
   rcases (by omega : i = 0 ∨ i = 1) with rfl | rfl <;> exact Sub.refl _) (sub_at fun i hi => Sub.refl _) c1) ?_
  ((conv=>whnf);repeat (refine Wa ?_;(repeat (first|refine Wb ?_|refine Wc ?_|refine Wd ?_|refine We ?_|refine Wf ?_));(conv=>whnf)))
  refine br_mk (fun hb => ?_) (fun hb => ?_)
  ·rw [if_pos (show meP m A B L s k = true from hb)] at hi
   ((conv=>whnf);repeat (refine Wa ?_;(repeat (first|refine Wb ?_|refine Wc ?_|refine Wd ?_|refine We ?_|refine Wf ?_));(conv=>whnf)))
   exact ⟨trivial, Qi hi.symm⟩
  ·rw [if_neg (show ¬ meP m A B L s k = true by unfold meP; rw [hb]; simp)] at hi
   ((conv=>whnf);repeat (refine Wa ?_;(repeat (first|refine Wb ?_|refine Wc ?_|refine Wd ?_|refine We ?_|refine Wf ?_));(conv=>whnf)))
   refine ⟨inr (by omega), ?_⟩
   ((conv=>whnf);repeat (refine Wa ?_;(repeat (first|refine Wb ?_|refine Wc ?_|refine Wd ?_|refine We ?_|refine Wf ?_));(conv=>whnf)))
   refine ⟨⟨k + 1, by omega, ?_, rfl, rfl⟩, ?_⟩
   ·rw [hi, show L.length - (k + 1) = q by omega]
   ·simp [V.toInt, sel, Env.get]; omega
 ·obtain rfl : k = L.length := by omega
  ((conv=>whnf);repeat (refine Wa ?_;(repeat (first|refine Wb ?_|refine Wc ?_|refine Wd ?_|refine We ?_|refine Wf ?_));(conv=>whnf)))
  refine ⟨trivial, Qi ?_⟩
  rw [hi, Nat.sub_self]
  rfl
theorem ContainsM {n m : Nat} {A B : Nat → Nat} (hQ : Qn n m A B) (L : List Int) (s : Nat) (hs : s < 9223372036854775808) : APure Try.prog 88 [cusV m A B false L, meC s] (fun R => R = .bool (decide (0 ≤ idxF (meP m A B L s) 0 L.length))) := by
 refine APure_of (X := cx 9) (cx_ok 9) rfl (rs := [(.tmp 4, 4)]) Try.func88 (by decide) rfl rfl rfl (by simp [cx]) (nofr2 nofrCu nofrMe) ?_
 intro hlen
 ((conv=>whnf);repeat (refine Wa ?_;(repeat (first|refine Wb ?_|refine Wc ?_|refine Wd ?_|refine We ?_|refine Wf ?_));(conv=>whnf)))
 refine APure.to (APure.arg2 subCu (sub_clo fun i hi => by
  have hi : i < 1 := hi
  rw [show i = 0 by omega]
  exact sub_at fun i hi => Sub.refl _) (IndexM hQ L s hs)) ?_
 ((conv=>whnf);repeat (refine Wa ?_;(repeat (first|refine Wb ?_|refine Wc ?_|refine Wd ?_|refine We ?_|refine Wf ?_));(conv=>whnf)))
 exact ⟨trivial, rfl⟩
theorem meets_pure {n m : Nat} {A B : Nat → Nat} (hQ : Qn n m A B) (L : List Int) (s : Nat) (hs : s < 9223372036854775808) : APure Try.prog 74 [.int s, cusV m A B false L] (fun R => R = .bool (mtB m A B L s L.length)) := by
 refine APure_of (X := cx 9) (cx_ok 9) rfl (rs := [(.tmp 4, 4)]) Try.func74 (by decide) rfl rfl rfl (by simp [cx]) (nofr2 nofrInt nofrCu) ?_
 intro hlen
 ((conv=>whnf);repeat (refine Wa ?_;(repeat (first|refine Wb ?_|refine Wc ?_|refine Wd ?_|refine We ?_|refine Wf ?_));(conv=>whnf)))
 refine APure.to (APure.arg2 subCu (sub_clo fun i hi => by
  have hi : i < 1 := hi
  rw [show i = 0 by omega]
  exact sub_at fun i hi => by have hi : i < 1 := hi; rw [show i = 0 by omega]; exact Sub.refl _) (ContainsM hQ L s hs)) ?_
 ((conv=>whnf);repeat (refine Wa ?_;(repeat (first|refine Wb ?_|refine Wc ?_|refine Wd ?_|refine We ?_|refine Wf ?_));(conv=>whnf)))
 exact ⟨trivial, Qb (idxF_all _ _)⟩
set_option maxRecDepth 100000 in
theorem isMend_pure {n m : Nat} {A B : Nat → Nat} (hQ : Qn n m A B) (l : List Int) : APure Try.prog 55 [qu n m A B, .ints false l] (fun R => R = .bool (imB n m A B l)) := by
 refine APure_of (X := cx 27) (cx_ok 27) rfl (rs := [(.tmp 4, 4)]) Try.func55 (by decide) rfl rfl rfl (by simp [cx]) (nofrQL) ?_
 intro hlen
 have hl := LenL hlen
 have hm := hQ.sm
 have c1 := areStreets_pure hQ l
 have c2 := cuts_pure hQ
 cases ha : asB m l l.length with
 | false =>
  rw [ha] at c1
  ((conv=>whnf);repeat (refine Wa ?_;(repeat (first|refine Wb ?_|refine Wc ?_|refine Wd ?_|refine We ?_|refine Wf ?_));(conv=>whnf)))
  refine APure.to (APure.arg2 (subQ rfl rfl) (Sub.refl _) c1) ?_
  ((conv=>whnf);repeat (refine Wa ?_;(repeat (first|refine Wb ?_|refine Wc ?_|refine Wd ?_|refine We ?_|refine Wf ?_));(conv=>whnf)))
  refine ⟨trivial, Qb ?_⟩
  unfold imB
  rw [ha, Bool.false_and]
 | true =>
 rw [ha] at c1
 have hst := stO_lt ha
 have c3 := meets_pure hQ (cutL n m A B (fullN n)) (stO l l.length) (lt63 hst.1 (by omega))
 ((conv=>whnf);repeat (refine Wa ?_;(repeat (first|refine Wb ?_|refine Wc ?_|refine Wd ?_|refine We ?_|refine Wf ?_));(conv=>whnf)))
 refine APure.to (APure.arg2 (subQ rfl rfl) (Sub.refl _) c1) ?_
 ((conv=>whnf);repeat (refine Wa ?_;(repeat (first|refine Wb ?_|refine Wc ?_|refine Wd ?_|refine We ?_|refine Wf ?_));(conv=>whnf)))
 refine AW_loop (X := cx 27) (cx_ok 27) [2, 5, 12, 13, 14] (fun vs M => ∃ k : Nat, k ≤ l.length ∧ vs = [.ptr 0 0 0 0, .int (stO l k : Nat), .ints false l, .int l.length, .int k] ∧ M = [some (quO n m (fun j => A j) (fun j => B j))]) (fun vs _ => l.length - (vs.getD 4 .any).toInt.toNat) ?_ ?_
 ·exact ⟨0, Nat.zero_le _, rfl, rfl⟩
 rintro vs M ⟨k, hk, rfl, rfl⟩
 ((conv=>whnf);repeat (refine Wa ?_;(repeat (first|refine Wb ?_|refine Wc ?_|refine Wd ?_|refine We ?_|refine Wf ?_));(conv=>whnf)))
 refine br_dec (fun hlt => ?_) (fun hge => ?_)
 ·have hk' : k < l.length := by omega
  have h1 := asP_iff.1 (allB_iff.1 ha k hk')
  obtain ⟨t, ht⟩ : ∃ t : Nat, l.getD k 0 = t := ⟨(l.getD k 0).toNat, by omega⟩
  have hk0 : asB m l k = true := allB_iff.2 fun j hj => allB_iff.1 ha j (by omega)
  have hp1 : stO l k < 9223372036854775808 := lt63 (stO_lt hk0).1 (by omega)
  have hp2 : 2 ^ t < 9223372036854775808 := lt63 (Nat.pow_lt_pow_right (by decide) (show t < m by omega)) (by omega)
  have e : stO l (k + 1) = stO l k ||| 2 ^ t := by rw [stO, ht, Int.toNat_natCast]
  ((conv=>whnf);repeat (refine Wa ?_;(repeat (first|refine Wb ?_|refine Wc ?_|refine Wd ?_|refine We ?_|refine Wf ?_));(conv=>whnf)))
  repeat ((first | refine ⟨by omega, ?_⟩ | refine ⟨inr (by omega), ?_⟩ | refine eqn_self ?_ | refine ⟨ms (by omega), ?_⟩ | refine ⟨ms (by simp only [Src.n]; omega), ?_⟩ | refine ⟨msk (by omega), ?_⟩ | refine ⟨ms1, ?_⟩); ((conv=>whnf);repeat (refine Wa ?_;(repeat (first|refine Wb ?_|refine Wc ?_|refine Wd ?_|refine We ?_|refine Wf ?_));(conv=>whnf))))
  rw [Int.toNat_natCast, ht]
  refine ⟨by omega, ?_⟩
  rw [shlI (by omega)]
  ((conv=>whnf);repeat (refine Wa ?_;(repeat (first|refine Wb ?_|refine Wc ?_|refine Wd ?_|refine We ?_|refine Wf ?_));(conv=>whnf)))
  rw [orI hp1 hp2]
  refine ⟨inr (by omega), ?_⟩
  ((conv=>whnf);repeat (refine Wa ?_;(repeat (first|refine Wb ?_|refine Wc ?_|refine Wd ?_|refine We ?_|refine Wf ?_));(conv=>whnf)))
  exact ⟨⟨k + 1, hk', by rw [e]; rfl, rfl⟩, by simp [V.toInt, sel, Env.get]; omega⟩
 ·obtain rfl : k = l.length := by omega
  ((conv=>whnf);repeat (refine Wa ?_;(repeat (first|refine Wb ?_|refine Wc ?_|refine Wd ?_|refine We ?_|refine Wf ?_));(conv=>whnf)))
  refine APure.to (APure.arg1 (subQ rfl rfl) c2) ?_
  ((conv=>whnf);repeat (refine Wa ?_;(repeat (first|refine Wb ?_|refine Wc ?_|refine Wd ?_|refine We ?_|refine Wf ?_));(conv=>whnf)))
  refine APure.to (APure.arg2 (Sub.refl _) subCu c3) ?_
  ((conv=>whnf);repeat (refine Wa ?_;(repeat (first|refine Wb ?_|refine Wc ?_|refine Wd ?_|refine We ?_|refine Wf ?_));(conv=>whnf)))
  refine ⟨trivial, Qb ?_⟩
  unfold imB
  rw [ha, Bool.true_and]
end Go.Tri
