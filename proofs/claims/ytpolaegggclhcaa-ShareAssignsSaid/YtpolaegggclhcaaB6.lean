/-
 CONTRACTS: deals; sets of things; the lesser score; ranks and the greatest of them.
-/
import Derived.Test.YtpolaegggclhcaaB5
namespace Go.Tri
open Go.Proofs

theorem isNaN_pure (a : Int) : APure Try.prog 117 [.int a] (fun R => R = .bool false) := by
 refine APure_of (X := cx 6) (cx_ok 6) rfl (rs := [(.tmp 2, 4)]) Try.func117 (by decide) rfl rfl rfl (by simp [cx]) (by simp [NoFr]) ?_
 intro _
 ((conv=>whnf);repeat (refine Wa ?_;(repeat (first|refine Wb ?_|refine Wc ?_|refine Wd ?_|refine We ?_|refine Wf ?_));(conv=>whnf)))
 exact ⟨trivial, Qb (by simp)⟩
def cmpI (a b : Int) : Int := if a < b then -1 else if a > b then 1 else 0
theorem cmpI_neg {a b : Int} : cmpI a b < 0 ↔ a < b := by unfold cmpI; split <;> (try split) <;> omega
theorem Compare_pure (a b : Int) : APure Try.prog 102 [.int a, .int b] (fun R => R = .int (cmpI a b)) := by
 refine APure_of (X := cx 20) (cx_ok 20) rfl (rs := [(.tmp 4, 3)]) Try.func102 (by decide) rfl rfl rfl (by simp [cx]) (by simp [NoFr]) ?_
 intro _
 ((conv=>whnf);repeat (refine Wa ?_;(repeat (first|refine Wb ?_|refine Wc ?_|refine Wd ?_|refine We ?_|refine Wf ?_));(conv=>whnf)))
 refine APure.to (isNaN_pure a) ?_
 ((conv=>whnf);repeat (refine Wa ?_;(repeat (first|refine Wb ?_|refine Wc ?_|refine Wd ?_|refine We ?_|refine Wf ?_));(conv=>whnf)))
 refine APure.to (isNaN_pure b) ?_
 ((conv=>whnf);repeat (refine Wa ?_;(repeat (first|refine Wb ?_|refine Wc ?_|refine Wd ?_|refine We ?_|refine Wf ?_));(conv=>whnf)))
 refine br_dec (fun h => ?_) (fun h => ?_)
 ·((conv=>whnf);repeat (refine Wa ?_;(repeat (first|refine Wb ?_|refine Wc ?_|refine Wd ?_|refine We ?_|refine Wf ?_));(conv=>whnf)))
  exact ⟨trivial, Qi (by unfold cmpI; rw [if_pos h])⟩
 ·((conv=>whnf);repeat (refine Wa ?_;(repeat (first|refine Wb ?_|refine Wc ?_|refine Wd ?_|refine We ?_|refine Wf ?_));(conv=>whnf)))
  refine br_dec (fun h2 => ?_) (fun h2 => ?_)
  ·((conv=>whnf);repeat (refine Wa ?_;(repeat (first|refine Wb ?_|refine Wc ?_|refine Wd ?_|refine We ?_|refine Wf ?_));(conv=>whnf)))
   exact ⟨trivial, Qi (by unfold cmpI; rw [if_neg h, if_pos h2])⟩
  ·((conv=>whnf);repeat (refine Wa ?_;(repeat (first|refine Wb ?_|refine Wc ?_|refine Wd ?_|refine We ?_|refine Wf ?_));(conv=>whnf)))
   exact ⟨trivial, Qi (by unfold cmpI; rw [if_neg h, if_neg h2])⟩


theorem ObSub_vv {e sz ver n : Nat} {f g : Nat → Nat → V} (h : ∀ j k, j < n → k < sz → f j k = g j k) : ObSub ⟨e, sz, ver, .cv n f⟩ ⟨e, sz, ver, .cv n g⟩ := ⟨rfl, rfl, rfl, rfl, ⟨rfl, rfl⟩, fun j k hj hk => Sub.of (h j k hj hk)⟩
/-- Two ints for each place. -/
def raD (f g : Nat → Int) : Nat → Nat → V := fun j k => match k with | 0 => .int (f j) | _ => .int (g j)
@[reducible] def dealV (fr : Bool) (n : Nat) (f g : Nat → Int) : V := .seq fr 2 n (raD f g)
theorem nofrD {n : Nat} {f g : Nat → Int} : NoFr (dealV false n f g) := ⟨rfl, fun j k => by unfold raD; split <;> trivial⟩
theorem frD {n : Nat} {f g : Nat → Int} : Fr (dealV true n f g) := ⟨rfl, fun j k _ _ => by unfold raD; split <;> trivial⟩
theorem subD {M : Mem} {d n : Nat} {f g : Nat → Int} : Sub (.seq false 2 n fun j k => byvalN M (d + 1) (raD f g j k)) (dealV false n f g) := sub_seq fun j k _ _ => Sub.of (by unfold raD; split <;> rfl)

/-- The first k are laid. -/
def dealF (f g : Nat → Int) (k : Nat) : Nat → Nat → V := fun j q => if j < k then raD f g j q else .int 0
theorem namedDF {kp : Nat → Bool} {f g : Nat → Int} {k j q : Nat} : Named kp (dealF f g k j q) := by
 unfold dealF raD
 split
 ·split <;> trivial
 ·trivial
set_option maxRecDepth 100000 in
theorem newDeal_pure (a b : List Int) (h : a.length = b.length) (h8 : a.length ≤ 8) : APure Try.prog 44 [.ints false a, .ints false b] (fun R => R = dealV true a.length (fun j => a.getD j 0) (fun j => b.getD j 0)) := by
 refine APure_of (X := cx 29) (cx_ok 29) rfl (rs := [(.tmp 4, 69)]) Try.func44 (by decide) rfl rfl rfl (by simp [cx]) (by simp [NoFr]) ?_
 intro hlen
 ((conv=>whnf);repeat (refine Wa ?_;(repeat (first|refine Wb ?_|refine Wc ?_|refine Wd ?_|refine We ?_|refine Wf ?_));(conv=>whnf)))
 refine ⟨(show (0 : Int) ≤ (a.length : Int) by omega), ?_⟩
 refine ⟨Int.le_refl _, ?_⟩
 refine ⟨(show (16 : Int) * (a.length : Int) ≤ 140737488355328 by omega), ?_⟩
 rw [Int.toNat_natCast]
 ((conv=>whnf);repeat (refine Wa ?_;(repeat (first|refine Wb ?_|refine Wc ?_|refine Wd ?_|refine We ?_|refine Wf ?_));(conv=>whnf)))
 refine AW_loopA (X := cx 29) (cx_ok 29) [0, 1, 5, 11, 12] (fun t => Nat.beq t 0) (fun vs M => ∃ k : Nat, k ≤ a.length ∧ vs = [.ints false a, .ints false b, .sl 0 0 0 a.length, .int a.length, .int k] ∧ M = [some ⟨98, 2, 0, .cv a.length (dealF (fun j => a.getD j 0) (fun j => b.getD j 0) k)⟩])
  (fun vs _ => a.length - (vs.getD 4 .any).toInt.toNat) (fun t ht => by have : t < 1 := ht; simp; omega) ?_ ?_
 ·refine memA0 [some ⟨98, 2, 0, .cv a.length (dealF (fun j => a.getD j 0) (fun j => b.getD j 0) 0)⟩] ⟨ObSub_vv (fun j q hj hq => ?_), trivial⟩ ⟨0, Nat.zero_le _, rfl, rfl⟩
  have hq : q < 2 := hq
  unfold dealF
  rw [if_neg (by omega)]
  rcases (by omega : q = 0 ∨ q = 1) with rfl | rfl <;> rfl
 rintro vs M ⟨k, hk, rfl, rfl⟩
 ((conv=>whnf);repeat (refine Wa ?_;(repeat (first|refine Wb ?_|refine Wc ?_|refine Wd ?_|refine We ?_|refine Wf ?_));(conv=>whnf)))
 refine br_dec (fun hlt => ?_) (fun hge => ?_)
 ·have hk' : k < a.length := by omega
  ((conv=>whnf);repeat (refine Wa ?_;(repeat (first|refine Wb ?_|refine Wc ?_|refine Wd ?_|refine We ?_|refine Wf ?_));(conv=>whnf)))
  refine AW_draw (X := cx 29) (cx_ok 29) mixed (by kernel_rfl) ?_
  ((conv=>whnf);repeat (refine Wa ?_;(repeat (first|refine Wb ?_|refine Wc ?_|refine Wd ?_|refine We ?_|refine Wf ?_));(conv=>whnf)))
  repeat ((first | refine ⟨(show (0 : Int) ≤ (k : Int) by omega), ?_⟩ | refine ⟨(show (k : Int) < (a.length : Int) by omega), ?_⟩ | refine ⟨(show (k : Int) < (b.length : Int) by omega), ?_⟩); ((conv=>whnf);repeat (refine Wa ?_;(repeat (first|refine Wb ?_|refine Wc ?_|refine Wd ?_|refine We ?_|refine Wf ?_));(conv=>whnf))))
  refine ⟨inr (by omega), ?_⟩
  ((conv=>whnf);repeat (refine Wa ?_;(repeat (first|refine Wb ?_|refine Wc ?_|refine Wd ?_|refine We ?_|refine Wf ?_));(conv=>whnf)))
  refine ⟨⟨by repeat (first|exact trivial|exact rfl|exact fun _=>trivial|exact fun _ _=>trivial|exact fun _ _ _=>trivial|exact fun _ _ _ _=>trivial|refine And.intro ?_ ?_), ?_⟩, memA1 [some ⟨98, 2, 0, .cv a.length (dealF (fun j => a.getD j 0) (fun j => b.getD j 0) (k + 1))⟩] ⟨ObSub_vv (fun j q hj hq => ?_), trivial⟩ ⟨⟨k + 1, hk', rfl, rfl⟩, ?_⟩⟩
  ·refine ⟨fun j q _ hq => ?_, trivial⟩
   have hq : q < 2 := hq
   rcases (by omega : q = 0 ∨ q = 1) with rfl | rfl <;> repeat (first | exact trivial | exact namedDF | (show Named _ (if _ then _ else _); split))
  ·have hq : q < 2 := hq
   have e0 : (k : Int).toNat = k := Int.toNat_natCast k
   have old : ∀ q, j ≠ k → dealF (fun j => a.getD j 0) (fun j => b.getD j 0) k j q = dealF (fun j => a.getD j 0) (fun j => b.getD j 0) (k + 1) j q := fun q hne => by
    unfold dealF
    by_cases hjk : j < k
    ·rw [if_pos hjk, if_pos (by omega)]
    ·rw [if_neg hjk, if_neg (by omega)]
   rcases (by omega : q = 0 ∨ q = 1) with rfl | rfl
   ·refine (if_neg (show ¬ (j = 0 + (k : Int).toNat ∧ 0 = 0 + 1) by omega)).trans ?_
    by_cases hjk : j = k
    ·refine (if_pos (show j = 0 + (k : Int).toNat ∧ 0 = 0 + 0 by omega)).trans ?_
     unfold dealF
     rw [if_pos (by omega), hjk]
     exact congrArg (fun n => V.int (a.getD n 0)) e0
    ·exact (if_neg (show ¬ (j = 0 + (k : Int).toNat ∧ 0 = 0 + 0) by omega)).trans (old 0 hjk)
   ·by_cases hjk : j = k
    ·refine (if_pos (show j = 0 + (k : Int).toNat ∧ 1 = 0 + 1 by omega)).trans ?_
     unfold dealF
     rw [if_pos (by omega), hjk]
     exact congrArg (fun n => V.int (b.getD n 0)) e0
    ·refine (if_neg (show ¬ (j = 0 + (k : Int).toNat ∧ 1 = 0 + 1) by omega)).trans ?_
     exact (if_neg (show ¬ (j = 0 + (k : Int).toNat ∧ 1 = 0 + 0) by omega)).trans (old 1 hjk)
  ·simp [V.toInt, sel, Env.get]; omega
 ·obtain rfl : k = a.length := by omega
  ((conv=>whnf);repeat (refine Wa ?_;(repeat (first|refine Wb ?_|refine Wc ?_|refine Wd ?_|refine We ?_|refine Wf ?_));(conv=>whnf)))
  refine ⟨⟨rfl, fun j q _ _ => ?_⟩, congrArg (V.seq true 2 a.length) (funext fun j => funext fun q => ?_)⟩
  ·show Fr (ownvalN _ _ (dealF _ _ _ (0 + j) q))
   unfold dealF raD
   split
   ·split <;> exact trivial
   ·exact trivial
  ·show ownvalN _ _ (dealF _ _ _ (0 + j) q) = raD _ _ j q
   rw [Nat.zero_add]
   unfold dealF
   by_cases hj : j < a.length
   ·rw [if_pos hj]
    unfold raD
    split <;> rfl
   ·rw [if_neg hj]
    unfold raD
    split
    ·exact congrArg V.int (by simp [List.getD, List.getElem?_eq_none (Nat.le_of_not_lt hj)])
    ·exact congrArg V.int (by simp [List.getD, List.getElem?_eq_none (show b.length ≤ j by omega)])
end Go.Tri
