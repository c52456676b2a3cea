/-
 CONTRACTS: ranks, the greatest of them; Whole.
-/
import Derived.Test.YtpolaegggclhcaaB7
namespace Go.Tri
open Go.Proofs

/-- The first place of the greatest of the first k. -/
def mxI (f : Nat → Int) : Nat → Nat
 | 0 => 0
 | k + 1 => if k = 0 then 0 else if f k > f (mxI f k) then k else mxI f k
theorem mxI_is (f : Nat → Int) : ∀ k, 1 ≤ k → mxI f k < k ∧ (∀ j, j < k → f j ≤ f (mxI f k)) ∧ ∀ j, j < mxI f k → f j < f (mxI f k) := by
 intro k
 induction k with
 | zero => intro h; omega
 | succ k ih =>
  intro _
  simp only [mxI]
  by_cases h0 : k = 0
  ·rw [if_pos h0]
   exact ⟨by omega, fun j hj => by rw [show j = 0 by omega]; exact Int.le_refl _, fun j hj => by omega⟩
  ·rw [if_neg h0]
   obtain ⟨h1, h2, h3⟩ := ih (by omega)
   by_cases hg : f k > f (mxI f k)
   ·rw [if_pos hg]
    refine ⟨by omega, fun j hj => ?_, fun j hj => ?_⟩
    ·rcases (by omega : j < k ∨ j = k) with h | rfl
     ·have := h2 j h
      omega
     ·exact Int.le_refl _
    ·have := h2 j hj
     omega
   ·rw [if_neg hg]
    refine ⟨by omega, fun j hj => ?_, h3⟩
    rcases (by omega : j < k ∨ j = k) with h | rfl
    ·exact h2 j h
    ·omega

@[reducible] def lesO (n : Nat) (f g : Nat → Int) : V := .bnd 83 1 fun _ => dealV false n f g
theorem nofrO {n : Nat} {f g : Nat → Int} : NoFr (lesO n f g) := fun _ => nofrD
def upI (m : Nat) (h : Nat → Int) (j : Nat) : Int := if j < m then h j else 0
theorem put_pair {f g : Nat → Int} {i k j q : Nat} {va vb : V} (hi : i = k) (ha : va = .int (f k)) (hb : vb = .int (g k)) (hq : q < 2) : (if j = i ∧ q = 0 + 1 then vb else if j = i ∧ q = 0 + 0 then va else dealF f g k j q) = dealF f g (k + 1) j q := by
 subst hi
 have old : j ≠ i → dealF f g i j q = dealF f g (i + 1) j q := fun hne => by
  unfold dealF
  by_cases hjk : j < i
  ·rw [if_pos hjk, if_pos (by omega)]
  ·rw [if_neg hjk, if_neg (by omega)]
 by_cases hji : j = i
 ·subst hji
  rcases (by omega : q = 0 ∨ q = 1) with rfl | rfl
  ·rw [if_neg (by omega), if_pos (by omega), ha]
   unfold dealF
   rw [if_pos (by omega)]
   rfl
  ·rw [if_pos (by omega), hb]
   unfold dealF
   rw [if_pos (by omega)]
   rfl
 ·rw [if_neg (fun h => hji h.1), if_neg (fun h => hji h.1)]
  exact old hji
set_option maxRecDepth 100000 in
theorem rank_pure {n m : Nat} {f g : Nat → Int} (hn : n ≤ 8) (hm : m ≤ 256) (hf : in100 n f) (hg : in100 n g) : APure Try.prog 104 [.ints false (idx m), lesO n f g] (fun R => R = dealV true m (upI m fun j => (j : Int)) (upI m (les f g n))) := by
 refine APure_of (X := cx 28) (cx_ok 28) rfl (rs := [(.tmp 4, 131)]) Try.func104 (by decide) rfl rfl rfl (by simp [cx]) (nofr2 (by rfl) nofrO) ?_
 intro hlen
 have hil := idx_len m
 have hig : ∀ j, j < m → (idx m).getD j 0 = j := fun j hj => idx_get hj
 have hc := fun (j : Nat) (hj : j < m) => lesser_pure hn hf hg j (by omega)
 generalize idx m = xs at *
 subst hil
 ((conv=>whnf);repeat (refine Wa ?_;(repeat (first|refine Wb ?_|refine Wc ?_|refine Wd ?_|refine We ?_|refine Wf ?_));(conv=>whnf)))
 refine ⟨(show (0 : Int) ≤ (xs.length : Int) by omega), ?_⟩
 refine ⟨Int.le_refl _, ?_⟩
 refine ⟨(show (16 : Int) * (xs.length : Int) ≤ 140737488355328 by omega), ?_⟩
 rw [Int.toNat_natCast]
 ((conv=>whnf);repeat (refine Wa ?_;(repeat (first|refine Wb ?_|refine Wc ?_|refine Wd ?_|refine We ?_|refine Wf ?_));(conv=>whnf)))
 refine AW_loopA (X := cx 28) (cx_ok 28) [1, 5, 11, 12, 13] (fun t => Nat.beq t 0) (fun vs M => ∃ k : Nat, k ≤ xs.length ∧ vs = [lesO n f g, .sl 0 0 0 xs.length, .ints false xs, .int xs.length, .int k] ∧ M = [some ⟨108, 2, 0, .cv xs.length (dealF (fun j => (j : Int)) (les f g n) k)⟩])
  (fun vs _ => xs.length - (vs.getD 4 .any).toInt.toNat) (fun t ht => by have : t < 1 := ht; simp; omega) ?_ ?_
 ·refine memA0 [some ⟨108, 2, 0, .cv xs.length (dealF (fun j => (j : Int)) (les f g n) 0)⟩] ⟨ObSub_vv (fun j q hj hq => ?_), trivial⟩ ⟨0, Nat.zero_le _, rfl, rfl⟩
  have hq : q < 2 := hq
  unfold dealF
  rw [if_neg (by omega)]
  rcases (by omega : q = 0 ∨ q = 1) with rfl | rfl <;> rfl
 rintro vs M ⟨k, hk, rfl, rfl⟩
 ((conv=>whnf);repeat (refine Wa ?_;(repeat (first|refine Wb ?_|refine Wc ?_|refine Wd ?_|refine We ?_|refine Wf ?_));(conv=>whnf)))
 refine br_dec (fun hlt => ?_) (fun hge => ?_)
 ·have hk' : k < xs.length := by omega
  have hck := hc k hk'
  have hgk := hig k hk'
  ((conv=>whnf);repeat (refine Wa ?_;(repeat (first|refine Wb ?_|refine Wc ?_|refine Wd ?_|refine We ?_|refine Wf ?_));(conv=>whnf)))
  refine ⟨(show (0 : Int) ≤ (k : Int) by omega), ?_⟩
  refine ⟨(show (k : Int) < (xs.length : Int) by omega), ?_⟩
  ((conv=>whnf);repeat (refine Wa ?_;(repeat (first|refine Wb ?_|refine Wc ?_|refine Wd ?_|refine We ?_|refine Wf ?_));(conv=>whnf)))
  rw [show xs.getD (k : Int).toNat 0 = k by rw [Int.toNat_natCast, hgk]]
  refine APure.to (APure.arg2 subD (Sub.refl _) hck) ?_
  ((conv=>whnf);repeat (refine Wa ?_;(repeat (first|refine Wb ?_|refine Wc ?_|refine Wd ?_|refine We ?_|refine Wf ?_));(conv=>whnf)))
  refine ⟨(show (0 : Int) ≤ (k : Int) by omega), ?_⟩
  refine ⟨(show (k : Int) < (xs.length : Int) by omega), ?_⟩
  ((conv=>whnf);repeat (refine Wa ?_;(repeat (first|refine Wb ?_|refine Wc ?_|refine Wd ?_|refine We ?_|refine Wf ?_));(conv=>whnf)))
  refine ⟨inr (by omega), ?_⟩
  ((conv=>whnf);repeat (refine Wa ?_;(repeat (first|refine Wb ?_|refine Wc ?_|refine Wd ?_|refine We ?_|refine Wf ?_));(conv=>whnf)))
  refine ⟨⟨by repeat (first|exact trivial|exact rfl|exact namedD|exact fun _ _=>namedD|exact fun _=>trivial|exact fun _ _=>trivial|exact fun _ _ _=>trivial|exact fun _ _ _ _=>trivial|refine And.intro ?_ ?_), ?_⟩, memA1 [some ⟨108, 2, 0, .cv xs.length (dealF (fun j => (j : Int)) (les f g n) (k + 1))⟩] ⟨ObSub_vv (fun j q hj hq => ?_), trivial⟩ ⟨⟨k + 1, hk', rfl, rfl⟩, ?_⟩⟩
  ·refine ⟨fun j q _ hq => ?_, trivial⟩
   have hq : q < 2 := hq
   rcases (by omega : q = 0 ∨ q = 1) with rfl | rfl <;> repeat (first | exact trivial | exact namedDF | (show Named _ (if _ then _ else _); split))
  ·exact put_pair (show 0 + (k : Int).toNat = k by omega) rfl rfl hq
  ·simp [V.toInt, sel, Env.get]; omega
 ·obtain rfl : k = xs.length := by omega
  ((conv=>whnf);repeat (refine Wa ?_;(repeat (first|refine Wb ?_|refine Wc ?_|refine Wd ?_|refine We ?_|refine Wf ?_));(conv=>whnf)))
  refine ⟨⟨rfl, fun j q _ _ => ?_⟩, congrArg (V.seq true 2 xs.length) (funext fun j => funext fun q => ?_)⟩
  ·show Fr (ownvalN _ _ (dealF _ _ _ (0 + j) q))
   unfold dealF raD
   split
   ·split <;> exact trivial
   ·exact trivial
  ·show ownvalN _ _ (dealF _ _ _ (0 + j) q) = raD _ _ j q
   rw [Nat.zero_add]
   unfold dealF raD upI
   by_cases hj : j < xs.length
   ·rw [if_pos hj, if_pos hj, if_pos hj]
    split <;> rfl
   ·rw [if_neg hj, if_neg hj, if_neg hj]
    split <;> rfl
end Go.Tri
