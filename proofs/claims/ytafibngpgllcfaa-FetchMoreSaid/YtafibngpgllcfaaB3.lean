/-
 CONTRACTS: all streets turned around.
-/
import Derived.Test.YtafibngpgllcfaaB2
namespace Go.Tri
open Go.Proofs

theorem ObSub_vv {e sz ver n : Nat} {f g : Nat → Nat → V} (h : ∀ j k, j < n → k < sz → f j k = g j k) : ObSub ⟨e, sz, ver, .cv n f⟩ ⟨e, sz, ver, .cv n g⟩ := ⟨rfl, rfl, rfl, rfl, ⟨rfl, rfl⟩, fun j k hj hk => Sub.of (h j k hj hk)⟩
@[reducible] def quT (n : Nat) (m : Nat) (A B : Nat → Int) : V := .agg 2 fun k => [V.int n, stV true m A B].getD k .any
/-- Nothing is beyond m. -/
def Cl (m : Nat) (A : Nat → Int) : Prop := ∀ j, m ≤ j → A j = 0
/-- The first k are turned. -/
def turF (A B : Nat → Int) (k : Nat) : Nat → Nat → V := fun j q => if j < k then raS B A j q else .int 0
theorem namedTF {kp : Nat → Bool} {A B : Nat → Int} {k j q : Nat} : Named kp (turF A B k j q) := by
 unfold turF raS
 split
 ·split <;> trivial
 ·trivial
theorem namedS {kp : Nat → Bool} {fr : Bool} {m : Nat} {A B : Nat → Int} : Named kp (stV fr m A B) := fun j q _ _ => by
 unfold raS
 split <;> trivial
set_option maxRecDepth 100000 in
theorem turned_pure (n m : Nat) (A B : Nat → Int) (hm : m ≤ 100) (hA : Cl m A) (hB : Cl m B) : APure Try.prog 82 [quV n m A B] (fun R => R = quT n m B A) := by
 refine APure_of (X := cx 28) (cx_ok 28) rfl (rs := [(.cell 2 57, 57)]) Try.func82 (by decide) rfl rfl rfl (by simp [cx]) (by simp [NoFr]) ?_
 intro hlen
 ((conv=>whnf);repeat (refine Wa ?_;(repeat (first|refine Wb ?_|refine Wc ?_|refine Wd ?_|refine We ?_|refine Wf ?_));(conv=>whnf)))
 refine ⟨(show (0 : Int) ≤ (m : Int) by omega), ?_⟩
 refine ⟨Int.le_refl _, ?_⟩
 refine ⟨(show (16 : Int) * (m : Int) ≤ 140737488355328 by omega), ?_⟩
 rw [Int.toNat_natCast]
 ((conv=>whnf);repeat (refine Wa ?_;(repeat (first|refine Wb ?_|refine Wc ?_|refine Wd ?_|refine We ?_|refine Wf ?_));(conv=>whnf)))
 refine AW_loopA (X := cx 28) (cx_ok 28) [1, 2, 3, 11, 12, 13] (fun t => Nat.blt t 3) (fun vs M => ∃ k : Nat, k ≤ m ∧ vs = [.ptr 0 0 0 0, .ptr 1 0 0 0, .sl 2 0 0 m, stV false m A B, .int m, .int k] ∧ M = [some ⟨57, 2, 0, .one [.int n, stV false m A B]⟩, some ⟨57, 2, 0, .one ((tab.row 57).zero.map constV)⟩, some ⟨34, 2, 0, .cv m (turF A B k)⟩])
  (fun vs _ => m - (vs.getD 5 .any).toInt.toNat) (fun t ht => by have : t < 3 := ht; simp [Nat.blt_eq]; omega) ?_ ?_
 ·refine memA0 [some ⟨57, 2, 0, .one [.int n, stV false m A B]⟩, some ⟨57, 2, 0, .one ((tab.row 57).zero.map constV)⟩, some ⟨34, 2, 0, .cv m (turF A B 0)⟩] ⟨ObSub.refl _, ObSub.refl _, ObSub_vv (fun j q hj hq => ?_), trivial⟩ ⟨0, Nat.zero_le _, rfl, rfl⟩
  have hq : q < 2 := hq
  unfold turF
  rw [if_neg (by omega)]
  rcases (by omega : q = 0 ∨ q = 1) with rfl | rfl <;> rfl
 rintro vs M ⟨k, hk, rfl, rfl⟩
 ((conv=>whnf);repeat (refine Wa ?_;(repeat (first|refine Wb ?_|refine Wc ?_|refine Wd ?_|refine We ?_|refine Wf ?_));(conv=>whnf)))
 refine br_dec (fun hlt => ?_) (fun hge => ?_)
 ·have hk' : k < m := by omega
  ((conv=>whnf);repeat (refine Wa ?_;(repeat (first|refine Wb ?_|refine Wc ?_|refine Wd ?_|refine We ?_|refine Wf ?_));(conv=>whnf)))
  repeat ((first | refine ⟨(show (0 : Int) ≤ (k : Int) by omega), ?_⟩ | refine ⟨(show (k : Int) < (m : Int) by omega), ?_⟩); ((conv=>whnf);repeat (refine Wa ?_;(repeat (first|refine Wb ?_|refine Wc ?_|refine Wd ?_|refine We ?_|refine Wf ?_));(conv=>whnf))))
  refine APure.to (APure.arg1 (sub_agg fun i hi => by
   have hi : i < 2 := hi
   rcases (by omega : i = 0 ∨ i = 1) with rfl | rfl <;> exact Sub.refl _) (Turned_pure (A k) (B k))) ?_
  ((conv=>whnf);repeat (refine Wa ?_;(repeat (first|refine Wb ?_|refine Wc ?_|refine Wd ?_|refine We ?_|refine Wf ?_));(conv=>whnf)))
  repeat ((first | refine ⟨(show (0 : Int) ≤ (k : Int) by omega), ?_⟩ | refine ⟨(show (k : Int) < (m : Int) by omega), ?_⟩); ((conv=>whnf);repeat (refine Wa ?_;(repeat (first|refine Wb ?_|refine Wc ?_|refine Wd ?_|refine We ?_|refine Wf ?_));(conv=>whnf))))
  refine ⟨inr (by omega), ?_⟩
  ((conv=>whnf);repeat (refine Wa ?_;(repeat (first|refine Wb ?_|refine Wc ?_|refine Wd ?_|refine We ?_|refine Wf ?_));(conv=>whnf)))
  refine ⟨⟨by repeat (first|exact trivial|exact rfl|exact namedS|exact fun _=>trivial|exact fun _ _=>trivial|exact fun _ _ _=>trivial|exact fun _ _ _ _=>trivial|refine And.intro ?_ ?_), ?_⟩, memA1 [some ⟨57, 2, 0, .one [.int n, stV false m A B]⟩, some ⟨57, 2, 0, .one ((tab.row 57).zero.map constV)⟩, some ⟨34, 2, 0, .cv m (turF A B (k + 1))⟩] ⟨ObSub.refl _, ObSub.refl _, ObSub_vv (fun j q hj hq => ?_), trivial⟩ ⟨⟨k + 1, hk', rfl, rfl⟩, ?_⟩⟩
  ·refine ⟨⟨trivial, namedS, trivial⟩, ⟨trivial, trivial, trivial⟩, fun j q _ hq => ?_, trivial⟩
   have hq : q < 2 := hq
   rcases (by omega : q = 0 ∨ q = 1) with rfl | rfl <;> repeat (first | exact trivial | exact namedTF | (show Named _ (if _ then _ else _); split))
  ·have hq : q < 2 := hq
   have e0 : (k : Int).toNat = k := Int.toNat_natCast k
   have old : ∀ q, j ≠ k → turF A B k j q = turF A B (k + 1) j q := fun q hne => by
    unfold turF
    by_cases hjk : j < k
    ·rw [if_pos hjk, if_pos (by omega)]
    ·rw [if_neg hjk, if_neg (by omega)]
   rcases (by omega : q = 0 ∨ q = 1) with rfl | rfl
   ·refine (if_neg (show ¬ (j = 0 + (k : Int).toNat ∧ 0 = 0 + 1) by omega)).trans ?_
    by_cases hjk : j = k
    ·refine (if_pos (show j = 0 + (k : Int).toNat ∧ 0 = 0 + 0 by omega)).trans ?_
     unfold turF
     rw [if_pos (by omega), hjk]
     rfl
    ·exact (if_neg (show ¬ (j = 0 + (k : Int).toNat ∧ 0 = 0 + 0) by omega)).trans (old 0 hjk)
   ·by_cases hjk : j = k
    ·refine (if_pos (show j = 0 + (k : Int).toNat ∧ 1 = 0 + 1 by omega)).trans ?_
     unfold turF
     rw [if_pos (by omega), hjk]
     rfl
    ·refine (if_neg (show ¬ (j = 0 + (k : Int).toNat ∧ 1 = 0 + 1) by omega)).trans ?_
     exact (if_neg (show ¬ (j = 0 + (k : Int).toNat ∧ 1 = 0 + 0) by omega)).trans (old 1 hjk)
  ·simp [V.toInt, sel, Env.get]; omega
 ·obtain rfl : k = m := by omega
  ((conv=>whnf);repeat (refine Wa ?_;(repeat (first|refine Wb ?_|refine Wc ?_|refine Wd ?_|refine We ?_|refine Wf ?_));(conv=>whnf)))
  refine ⟨fun i hi => ?_, ?_⟩
  ·have hi : i < 2 := hi
   rcases (by omega : i = 0 ∨ i = 1) with rfl | rfl
   ·exact trivial
   ·refine ⟨rfl, fun j q _ _ => ?_⟩
    show Fr (ownvalN _ _ (turF _ _ _ (0 + j) q))
    unfold turF raS
    split
    ·split <;> exact trivial
    ·exact trivial
  ·show V.agg 2 _ = V.agg 2 _
   congr 1
   funext i
   match i with
   | 0 => rfl
   | 1 =>
    refine congrArg (V.seq true 2 k) (funext fun j => funext fun q => ?_)
    show ownvalN _ _ (turF _ _ _ (0 + j) q) = raS _ _ j q
    rw [show turF A B k (0 + j) q = turF A B k j q by rw [Nat.zero_add]]
    unfold turF
    by_cases hj : j < k
    ·rw [if_pos hj]
     unfold raS
     split <;> rfl
    ·rw [if_neg hj]
     unfold raS
     split
     ·exact congrArg V.int (hB j (by omega)).symm
     ·exact congrArg V.int (hA j (by omega)).symm
   | _ + 2 => rfl
end Go.Tri
