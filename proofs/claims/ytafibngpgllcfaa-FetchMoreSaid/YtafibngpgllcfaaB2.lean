/-
 CONTRACTS: do the streets join corners? Streets turned around.
-/
import Derived.Test.YtafibngpgllcfaaB1
namespace Go.Tri
open Go.Proofs

theorem Qb {b c : Bool} (h : b = c) : V.bool b = V.bool c := by rw [h]
theorem Qi {a b : Int} (h : a = b) : V.int a = V.int b := by rw [h]
theorem nofr2 {a b : V} (h : NoFr a) (h' : NoFr b) : ∀ x ∈ [a, b], NoFr x := by intro x hx; simp at hx; rcases hx with rfl | rfl <;> assumption
def prF (a b : Int) : Nat → V := fun k => match k with | 0 => .int a | _ => .int b
@[reducible] def prV (a b : Int) : V := .agg 2 (prF a b)
theorem nofrPr {a b : Int} (k : Nat) : NoFr (prF a b k) := by unfold prF; split <;> trivial
theorem isCorner_pure (n a : Int) : APure Try.prog 97 [.int n, .int a] (fun R => R = .bool (decide (0 ≤ a ∧ a < n))) := by
 refine APure_of (X := cx 12) (cx_ok 12) rfl (rs := [(.tmp 4, 4)]) Try.func97 (by decide) rfl rfl rfl (by simp [cx]) (by simp [NoFr]) ?_
 intro _
 ((conv=>whnf);repeat (refine Wa ?_;(repeat (first|refine Wb ?_|refine Wc ?_|refine Wd ?_|refine We ?_|refine Wf ?_));(conv=>whnf)))
 refine br_dec (fun h1 => ?_) (fun h1 => ?_)
 ·have h1 : a ≥ 0 := h1
  ((conv=>whnf);repeat (refine Wa ?_;(repeat (first|refine Wb ?_|refine Wc ?_|refine Wd ?_|refine We ?_|refine Wf ?_));(conv=>whnf)))
  exact ⟨trivial, Qb (decide_eq_decide.2 ⟨fun h => ⟨h1, h⟩, fun h => h.2⟩)⟩
 ·have h1 : ¬ a ≥ 0 := h1
  ((conv=>whnf);repeat (refine Wa ?_;(repeat (first|refine Wb ?_|refine Wc ?_|refine Wd ?_|refine We ?_|refine Wf ?_));(conv=>whnf)))
  exact ⟨trivial, Qb (decide_eq_false (fun h => h1 h.1)).symm⟩
/-- Does a street join two different corners? -/
def jn (n a b : Int) : Bool := decide ((0 ≤ a ∧ a < n) ∧ (0 ≤ b ∧ b < n) ∧ a ≠ b)
@[reducible] def boxN (n : Int) : V := .at_ 1 (fun _ => .int n) 0
theorem nofrBoxN {n : Int} : NoFr (boxN n) := fun _ => trivial
@[simp] theorem nofrPrV {a b : Int} : NoFr (prV a b) := fun k => nofrPr k
theorem join1_pure (n a b : Int) : APure Try.prog 96 [prV a b, boxN n] (fun R => R = .bool (!jn n a b)) := by
 refine APure_of (X := cx 23) (cx_ok 23) rfl (rs := [(.tmp 3, 4)]) Try.func96 (by decide) rfl rfl rfl (by simp [cx]) (nofr2 nofrPrV nofrBoxN) ?_
 intro _
 have c1 := isCorner_pure n a
 have c2 := isCorner_pure n b
 ((conv=>whnf);repeat (refine Wa ?_;(repeat (first|refine Wb ?_|refine Wc ?_|refine Wd ?_|refine We ?_|refine Wf ?_));(conv=>whnf)))
 refine APure.to c1 ?_
 ((conv=>whnf);repeat (refine Wa ?_;(repeat (first|refine Wb ?_|refine Wc ?_|refine Wd ?_|refine We ?_|refine Wf ?_));(conv=>whnf)))
 refine br_not ?_
 refine br_dec (fun h1 => ?_) (fun h1 => ?_)
 ·((conv=>whnf);repeat (refine Wa ?_;(repeat (first|refine Wb ?_|refine Wc ?_|refine Wd ?_|refine We ?_|refine Wf ?_));(conv=>whnf)))
  refine APure.to c2 ?_
  ((conv=>whnf);repeat (refine Wa ?_;(repeat (first|refine Wb ?_|refine Wc ?_|refine Wd ?_|refine We ?_|refine Wf ?_));(conv=>whnf)))
  refine br_not ?_
  refine br_dec (fun h2 => ?_) (fun h2 => ?_)
  ·((conv=>whnf);repeat (refine Wa ?_;(repeat (first|refine Wb ?_|refine Wc ?_|refine Wd ?_|refine We ?_|refine Wf ?_));(conv=>whnf)))
   refine ⟨trivial, Qb ?_⟩
   simp [jn, h1, h2]
   rfl
  ·((conv=>whnf);repeat (refine Wa ?_;(repeat (first|refine Wb ?_|refine Wc ?_|refine Wd ?_|refine We ?_|refine Wf ?_));(conv=>whnf)))
   refine ⟨trivial, Qb ?_⟩
   simp [jn, h2]
 ·((conv=>whnf);repeat (refine Wa ?_;(repeat (first|refine Wb ?_|refine Wc ?_|refine Wd ?_|refine We ?_|refine Wf ?_));(conv=>whnf)))
  refine ⟨trivial, Qb ?_⟩
  simp [jn, h1]
/-- The place of the first street that joins nothing. -/
def idxJ (n : Int) (A B : Nat → Int) : Nat → Nat → Int
 | _, 0 => -1
 | k, f + 1 => if jn n (A k) (B k) = true then idxJ n A B (k + 1) f else k
theorem idxJ_ge (n : Int) (A B : Nat → Int) : ∀ f k, (0 ≤ idxJ n A B k f) ↔ ∃ j, k ≤ j ∧ j < k + f ∧ jn n (A j) (B j) = false := by
 intro f
 induction f with
 | zero => intro k; simp [idxJ]; omega
 | succ f ih =>
  intro k
  rw [idxJ]
  by_cases h : jn n (A k) (B k) = true
  ·rw [if_pos h, ih]
   refine ⟨fun ⟨j, h1, h2, h3⟩ => ⟨j, by omega, by omega, h3⟩, fun ⟨j, h1, h2, h3⟩ => ⟨j, ?_, by omega, h3⟩⟩
   by_cases hj : j = k
   ·rw [hj, h] at h3
    exact absurd h3 (by simp)
   ·omega
  ·rw [if_neg h]
   exact ⟨fun _ => ⟨k, by omega, by omega, by simpa using h⟩, fun _ => by omega⟩
theorem subS {M : Mem} {d n : Nat} {A B : Nat → Int} : Sub (.seq false 2 n fun j k => byvalN M (d + 1) (raS A B j k)) (stV false n A B) := sub_seq fun j k _ _ => Sub.of (by unfold raS; split <;> rfl)
@[reducible] def joC (n : Int) : V := .clo 96 1 fun _ => boxN n
theorem nofrJo {n : Int} : NoFr (joC n) := fun _ => nofrBoxN
theorem IndexJ (n : Int) (m : Nat) (A B : Nat → Int) : APure Try.prog 111 [stV false m A B, joC n] (fun R => R = .int (idxJ n A B 0 m)) := by
 refine APure_of (X := cx 19) (cx_ok 19) rfl (rs := [(.tmp 4, 3)]) Try.func111 (by decide) rfl rfl rfl (by simp [cx]) (nofr2 nofrS nofrJo) ?_
 intro hlen
 have hl := hlen _ (List.mem_cons_self ..)
 ((conv=>whnf);repeat (refine Wa ?_;(repeat (first|refine Wb ?_|refine Wc ?_|refine Wd ?_|refine We ?_|refine Wf ?_));(conv=>whnf)))
 refine AW_loop (X := cx 19) (cx_ok 19) [0, 1, 7, 8] (fun vs M => ∃ k : Nat, k ≤ m ∧ idxJ n A B 0 m = idxJ n A B k (m - k) ∧ vs = [stV false m A B, joC n, .int m, .int k] ∧ M = []) (fun vs _ => m - (vs.getD 3 .any).toInt.toNat) ?_ ?_
 ·exact ⟨0, Nat.zero_le _, rfl, rfl, rfl⟩
 rintro vs M ⟨k, hk, hi, rfl, rfl⟩
 ((conv=>whnf);repeat (refine Wa ?_;(repeat (first|refine Wb ?_|refine Wc ?_|refine Wd ?_|refine We ?_|refine Wf ?_));(conv=>whnf)))
 refine br_dec (fun hlt => ?_) (fun hge => ?_)
 ·have hk' : k < m := by omega
  obtain ⟨q, hq⟩ : ∃ q, m - k = q + 1 := ⟨m - k - 1, by omega⟩
  rw [hq] at hi
  simp only [idxJ] at hi
  ((conv=>whnf);repeat (refine Wa ?_;(repeat (first|refine Wb ?_|refine Wc ?_|refine Wd ?_|refine We ?_|refine Wf ?_));(conv=>whnf)))
  repeat ((first | refine ⟨by omega, ?_⟩ | refine ⟨inr (by omega), ?_⟩ | refine eqn_self ?_ | refine ⟨ms (by omega), ?_⟩ | refine ⟨ms (by simp only [Src.n]; omega), ?_⟩ | refine ⟨msk (by omega), ?_⟩ | refine ⟨ms1, ?_⟩); ((conv=>whnf);repeat (refine Wa ?_;(repeat (first|refine Wb ?_|refine Wc ?_|refine Wd ?_|refine We ?_|refine Wf ?_));(conv=>whnf))))
  rw [Int.toNat_natCast]
  refine APure.to (APure.arg2 (sub_agg fun i hi => by
   have hi : i < 2 := hi
   rcases (by omega : i = 0 ∨ i = 1) with rfl | rfl <;> exact Sub.refl _) (sub_at fun i hi => Sub.refl _) (join1_pure n (A k) (B k))) ?_
  ((conv=>whnf);repeat (refine Wa ?_;(repeat (first|refine Wb ?_|refine Wc ?_|refine Wd ?_|refine We ?_|refine Wf ?_));(conv=>whnf)))
  refine br_mk (fun hb => ?_) (fun hb => ?_)
  ·rw [if_neg (by simpa using hb)] at hi
   ((conv=>whnf);repeat (refine Wa ?_;(repeat (first|refine Wb ?_|refine Wc ?_|refine Wd ?_|refine We ?_|refine Wf ?_));(conv=>whnf)))
   exact ⟨trivial, Qi hi.symm⟩
  ·rw [if_pos (by simpa using hb)] at hi
   have hm : (m : Int) ≤ 9223372036854775807 := hl
   ((conv=>whnf);repeat (refine Wa ?_;(repeat (first|refine Wb ?_|refine Wc ?_|refine Wd ?_|refine We ?_|refine Wf ?_));(conv=>whnf)))
   refine ⟨inr (by omega), ?_⟩
   ((conv=>whnf);repeat (refine Wa ?_;(repeat (first|refine Wb ?_|refine Wc ?_|refine Wd ?_|refine We ?_|refine Wf ?_));(conv=>whnf)))
   refine ⟨⟨k + 1, by omega, ?_, rfl, rfl⟩, ?_⟩
   ·rw [hi, show m - (k + 1) = q by omega]
   ·simp [V.toInt, sel, Env.get]; omega
 ·obtain rfl : k = m := by omega
  ((conv=>whnf);repeat (refine Wa ?_;(repeat (first|refine Wb ?_|refine Wc ?_|refine Wd ?_|refine We ?_|refine Wf ?_));(conv=>whnf)))
  refine ⟨trivial, Qi ?_⟩
  rw [hi, Nat.sub_self]
  rfl
theorem ContainsJ (n : Int) (m : Nat) (A B : Nat → Int) : APure Try.prog 95 [stV false m A B, joC n] (fun R => R = .bool (decide (0 ≤ idxJ n A B 0 m))) := by
 refine APure_of (X := cx 9) (cx_ok 9) rfl (rs := [(.tmp 4, 4)]) Try.func95 (by decide) rfl rfl rfl (by simp [cx]) (nofr2 nofrS nofrJo) ?_
 intro hlen
 ((conv=>whnf);repeat (refine Wa ?_;(repeat (first|refine Wb ?_|refine Wc ?_|refine Wd ?_|refine We ?_|refine Wf ?_));(conv=>whnf)))
 refine APure.to (APure.arg2 subS (sub_clo fun i hi => by
  have hi : i < 1 := hi
  rw [show i = 0 by omega]
  exact sub_at fun i hi => Sub.refl _) (IndexJ n m A B)) ?_
 ((conv=>whnf);repeat (refine Wa ?_;(repeat (first|refine Wb ?_|refine Wc ?_|refine Wd ?_|refine We ?_|refine Wf ?_));(conv=>whnf)))
 exact ⟨trivial, rfl⟩
/-- All streets join corners. -/
def joinB (n : Int) (m : Nat) (A B : Nat → Int) : Bool := !decide (0 ≤ idxJ n A B 0 m)
theorem joinB_iff {n : Int} {m : Nat} {A B : Nat → Int} : joinB n m A B = true ↔ ∀ j, j < m → (0 ≤ A j ∧ A j < n) ∧ (0 ≤ B j ∧ B j < n) ∧ A j ≠ B j := by
 unfold joinB
 rw [Bool.not_eq_true', decide_eq_false_iff_not, idxJ_ge]
 refine ⟨fun h j hj => ?_, fun h ⟨j, _, h2, h3⟩ => ?_⟩
 ·refine Classical.byContradiction fun h' => h ⟨j, by omega, by omega, decide_eq_false h'⟩
 ·exact of_decide_eq_false h3 (h j (by omega))
theorem Join_pure (n : Int) (m : Nat) (A B : Nat → Int) : APure Try.prog 84 [.int n, stV false m A B] (fun R => R = .bool (joinB n m A B)) := by
 refine APure_of (X := cx 9) (cx_ok 9) rfl (rs := [(.tmp 4, 4)]) Try.func84 (by decide) rfl rfl rfl (by simp [cx]) (nofr2 (show NoFr (.int n) from trivial) nofrS) ?_
 intro hlen
 ((conv=>whnf);repeat (refine Wa ?_;(repeat (first|refine Wb ?_|refine Wc ?_|refine Wd ?_|refine We ?_|refine Wf ?_));(conv=>whnf)))
 refine APure.to (APure.arg2 subS (sub_clo fun i hi => by
  have hi : i < 1 := hi
  rw [show i = 0 by omega]
  exact sub_at fun i hi => by have hi : i < 1 := hi; rw [show i = 0 by omega]; exact Sub.refl _) (ContainsJ n m A B)) ?_
 ((conv=>whnf);repeat (refine Wa ?_;(repeat (first|refine Wb ?_|refine Wc ?_|refine Wd ?_|refine We ?_|refine Wf ?_));(conv=>whnf)))
 exact ⟨trivial, rfl⟩
@[simp] theorem nofrPrF {a b : Int} (k : Nat) : NoFr (prF a b k) := nofrPr k
@[reducible] def prG (a b : Int) : V := .agg 2 fun k => [V.int a, V.int b].getD k .any
theorem Turned_pure (a b : Int) : APure Try.prog 81 [prV a b] (fun R => R = prG b a) := by
 refine APure_of (X := cx 8) (cx_ok 8) rfl (rs := [(.cell 2 34, 34)]) Try.func81 (by decide) rfl rfl rfl (by simp [cx]) (by simp [NoFr]) ?_
 intro _
 ((conv=>whnf);repeat (refine Wa ?_;(repeat (first|refine Wb ?_|refine Wc ?_|refine Wd ?_|refine We ?_|refine Wf ?_));(conv=>whnf)))
 refine ⟨fun k hk => ?_, ?_⟩
 ·have hk : k < 2 := hk
  rcases (by omega : k = 0 ∨ k = 1) with rfl | rfl <;> trivial
 ·show V.agg 2 _ = V.agg 2 _
  congr 1
  funext k
  match k with
  | 0 => rfl
  | 1 => rfl
  | _ + 2 => rfl
end Go.Tri
