/-
 CONTRACTS: sets of things, the lesser score, indices.
-/
import Derived.Test.YtpolaegggclhcaaB6
namespace Go.Tri
open Go.Proofs

/-- Is the thing i in the set s? -/
def bt (s i : Nat) : Nat := s / 2 ^ i % 2
theorem bt_two (s i : Nat) : bt s i = 0 ∨ bt s i = 1 := by unfold bt; omega
theorem shrI {s i : Nat} (hi : i ≤ 8) : (s : Int).fdiv (2 ^ (min (i : Int).toNat IntKind.i64.bits)) = ((s / 2 ^ i : Nat) : Int) := by
 have h64 : IntKind.i64.bits = 64 := rfl
 rw [Int.toNat_natCast, h64, Nat.min_eq_left (by omega), Int.fdiv_eq_ediv_of_nonneg _ (Int.le_of_lt (Int.pow_pos (by decide)))]
 simp
theorem and1 {x : Nat} (_hx : x < 4294967296) : bitI .and .i64 (x : Int) 1 = ((x % 2 : Nat) : Int) := by
 simp only [bitI]
 have : (BitVec.ofInt IntKind.i64.bits (x : Int) &&& BitVec.ofInt IntKind.i64.bits 1).toNat = x % 2 := by
  rw [BitVec.toNat_and]
  show (BitVec.ofInt 64 (x : Int)).toNat &&& (BitVec.ofInt 64 1).toNat = x % 2
  rw [show (BitVec.ofInt 64 1).toNat = 2 ^ 1 - 1 from by decide, Nat.and_two_pow_sub_one_eq_mod]
  simp
 rw [this]
 rw [IntKind.wrap_i64]
 omega
/-- The scores of a set, of the first k things. -/
def sA (f : Nat → Int) (s : Nat) : Nat → Int
 | 0 => 0
 | k + 1 => sA f s k + (if bt s k = 1 then f k else 0)
def sB (g : Nat → Int) (s : Nat) : Nat → Int
 | 0 => 0
 | k + 1 => sB g s k + (if bt s k = 1 then 0 else g k)
def les (f g : Nat → Int) (n s : Nat) : Int := minI (sA f s n) (sB g s n)
def in100 (n : Nat) (f : Nat → Int) : Prop := ∀ j, j < n → 0 ≤ f j ∧ f j ≤ 100
theorem sA_bd {n : Nat} {f : Nat → Int} (h : in100 n f) (s : Nat) : ∀ k : Nat, k ≤ n → 0 ≤ sA f s k ∧ sA f s k ≤ 100 * k := by
 intro k
 induction k with
 | zero => intro _; simp [sA]
 | succ k ih =>
  intro hk
  have h1 := ih (by omega)
  have h2 := h k (by omega)
  simp only [sA]
  split <;> omega
theorem sB_bd {n : Nat} {g : Nat → Int} (h : in100 n g) (s : Nat) : ∀ k : Nat, k ≤ n → 0 ≤ sB g s k ∧ sB g s k ≤ 100 * k := by
 intro k
 induction k with
 | zero => intro _; simp [sB]
 | succ k ih =>
  intro hk
  have h1 := ih (by omega)
  have h2 := h k (by omega)
  simp only [sB]
  split <;> omega
theorem les_bd {n : Nat} {f g : Nat → Int} (hn : n ≤ 8) (hf : in100 n f) (hg : in100 n g) (s : Nat) : 0 ≤ les f g n s ∧ les f g n s ≤ 800 := by
 have h1 := sA_bd hf s n (Nat.le_refl _)
 have h2 := sB_bd hg s n (Nat.le_refl _)
 unfold les minI
 split <;> omega

theorem nofr1 {a : V} (ha : NoFr a) : ∀ x ∈ [a], NoFr x := by simp [ha]
theorem nofr2 {a b : V} (ha : NoFr a) (hb : NoFr b) : ∀ x ∈ [a, b], NoFr x := by simp [ha, hb]
theorem nofr3 {a b c : V} (h : NoFr a) (h' : NoFr b) (h2 : NoFr c) : ∀ x ∈ [a, b, c], NoFr x := by intro x hx; simp at hx; rcases hx with rfl | rfl | rfl <;> assumption
theorem namedD {kp : Nat → Bool} {fr : Bool} {n : Nat} {f g : Nat → Int} : Named kp (dealV fr n f g) := fun j k _ _ => by
 show Named kp (raD f g j k)
 unfold raD
 split <;> trivial
set_option maxRecDepth 100000 in
theorem lesser_pure {n : Nat} {f g : Nat → Int} (hn : n ≤ 8) (hf : in100 n f) (hg : in100 n g) (s : Nat) (hs : s < 4294967296) : APure Try.prog 83 [dealV false n f g, .int s] (fun R => R = .int (les f g n s)) := by
 refine APure_of (X := cx 33) (cx_ok 33) rfl (rs := [(.tmp 4, 3)]) Try.func83 (by decide) rfl rfl rfl (by simp [cx]) (nofr2 nofrD (by trivial)) ?_
 intro hlen
 ((conv=>whnf);repeat (refine Wa ?_;(repeat (first|refine Wb ?_|refine Wc ?_|refine Wd ?_|refine We ?_|refine Wf ?_));(conv=>whnf)))
 refine AW_loopA (X := cx 33) (cx_ok 33) [1, 5, 6, 9, 10, 11] (fun _ => false) (fun vs M => ∃ k : Nat, k ≤ n ∧ vs = [.int s, .int (sA f s k), .int (sB g s k), dealV false n f g, .int n, .int k] ∧ M = [])
  (fun vs _ => n - (vs.getD 5 .any).toInt.toNat) (fun t ht => absurd ht (by simp)) ?_ ?_
 ·exact same0 ⟨0, Nat.zero_le _, rfl, rfl⟩
 rintro vs M ⟨k, hk, rfl, rfl⟩
 have h1 := sA_bd hf s k hk
 have h2 := sB_bd hg s k hk
 ((conv=>whnf);repeat (refine Wa ?_;(repeat (first|refine Wb ?_|refine Wc ?_|refine Wd ?_|refine We ?_|refine Wf ?_));(conv=>whnf)))
 refine br_dec (fun hlt => ?_) (fun hge => ?_)
 ·have hk' : k < n := by omega
  have hfk := hf k hk'
  have hgk := hg k hk'
  have hsl : s / 2 ^ k < 4294967296 := Nat.lt_of_le_of_lt (Nat.div_le_self _ _) hs
  have ha : sA f s (k + 1) = sA f s k + (if bt s k = 1 then f k else 0) := rfl
  have hb : sB g s (k + 1) = sB g s k + (if bt s k = 1 then 0 else g k) := rfl
  ((conv=>whnf);repeat (refine Wa ?_;(repeat (first|refine Wb ?_|refine Wc ?_|refine Wd ?_|refine We ?_|refine Wf ?_));(conv=>whnf)))
  refine ⟨(show (0 : Int) ≤ (k : Int) by omega), ?_⟩
  refine ⟨(show (k : Int) < (n : Int) by omega), ?_⟩
  ((conv=>whnf);repeat (refine Wa ?_;(repeat (first|refine Wb ?_|refine Wc ?_|refine Wd ?_|refine We ?_|refine Wf ?_));(conv=>whnf)))
  refine ⟨(show (0 : Int) ≤ (k : Int) by omega), ?_⟩
  rw [shrI (by omega)]
  ((conv=>whnf);repeat (refine Wa ?_;(repeat (first|refine Wb ?_|refine Wc ?_|refine Wd ?_|refine We ?_|refine Wf ?_));(conv=>whnf)))
  rw [and1 hsl, show ((s / 2 ^ k % 2 : Nat) : Int) = ((bt s k : Nat) : Int) from rfl]
  rcases bt_two s k with hb0 | hb1
  ·rw [hb0, if_neg (by decide)] at ha
   rw [hb0, if_neg (by decide)] at hb
   rw [hb0]
   ((conv=>whnf);repeat (refine Wa ?_;(repeat (first|refine Wb ?_|refine Wc ?_|refine Wd ?_|refine We ?_|refine Wf ?_));(conv=>whnf)))
   refine ⟨inr (show -9223372036854775808 ≤ sB g s k + g k ∧ sB g s k + g k ≤ 9223372036854775807 by omega), ?_⟩
   ((conv=>whnf);repeat (refine Wa ?_;(repeat (first|refine Wb ?_|refine Wc ?_|refine Wd ?_|refine We ?_|refine Wf ?_));(conv=>whnf)))
   refine ⟨inr (by omega), ?_⟩
   ((conv=>whnf);repeat (refine Wa ?_;(repeat (first|refine Wb ?_|refine Wc ?_|refine Wd ?_|refine We ?_|refine Wf ?_));(conv=>whnf)))
   refine ⟨by repeat (first|exact trivial|exact rfl|exact namedD|exact fun _=>trivial|exact fun _ _=>trivial|exact fun _ _ _=>trivial|exact fun _ _ _ _=>trivial|refine And.intro ?_ ?_), memA1 [] trivial ⟨⟨k + 1, hk', ?_, rfl⟩, ?_⟩⟩
   ·rw [ha, hb, Int.add_zero]; rfl
   ·simp [V.toInt, sel, Env.get]; omega
  ·rw [hb1, if_pos rfl] at ha
   rw [hb1, if_pos rfl] at hb
   rw [hb1]
   ((conv=>whnf);repeat (refine Wa ?_;(repeat (first|refine Wb ?_|refine Wc ?_|refine Wd ?_|refine We ?_|refine Wf ?_));(conv=>whnf)))
   refine ⟨inr (show -9223372036854775808 ≤ sA f s k + f k ∧ sA f s k + f k ≤ 9223372036854775807 by omega), ?_⟩
   ((conv=>whnf);repeat (refine Wa ?_;(repeat (first|refine Wb ?_|refine Wc ?_|refine Wd ?_|refine We ?_|refine Wf ?_));(conv=>whnf)))
   refine ⟨inr (by omega), ?_⟩
   ((conv=>whnf);repeat (refine Wa ?_;(repeat (first|refine Wb ?_|refine Wc ?_|refine Wd ?_|refine We ?_|refine Wf ?_));(conv=>whnf)))
   refine ⟨by repeat (first|exact trivial|exact rfl|exact namedD|exact fun _=>trivial|exact fun _ _=>trivial|exact fun _ _ _=>trivial|exact fun _ _ _ _=>trivial|refine And.intro ?_ ?_), memA1 [] trivial ⟨⟨k + 1, hk', ?_, rfl⟩, ?_⟩⟩
   ·rw [ha, hb, Int.add_zero]; rfl
   ·simp [V.toInt, sel, Env.get]; omega
 ·obtain rfl : k = n := by omega
  ((conv=>whnf);repeat (refine Wa ?_;(repeat (first|refine Wb ?_|refine Wc ?_|refine Wd ?_|refine We ?_|refine Wf ?_));(conv=>whnf)))
  exact ⟨trivial, rfl⟩

def idx (n : Nat) : List Int := (List.range n).map fun (j : Nat) => (j : Int)
theorem idx_len (n : Nat) : (idx n).length = n := by simp [idx]
theorem idx_get {n j : Nat} (h : j < n) : (idx n).getD j 0 = j := by simp [idx, List.getD, h]
theorem indices_pure (n : Nat) (hn : n ≤ 100000) : APure Try.prog 77 [.int n] (fun R => R = .ints true (idx n)) := by
 refine APure_of (X := cx 18) (cx_ok 18) rfl (rs := [(.tmp 2, 22)]) Try.func77 (by decide) rfl rfl rfl (by simp [cx]) (by simp [NoFr]) ?_
 intro hlen
 ((conv=>whnf);repeat (refine Wa ?_;(repeat (first|refine Wb ?_|refine Wc ?_|refine Wd ?_|refine We ?_|refine Wf ?_));(conv=>whnf)))
 refine ⟨(show (0 : Int) ≤ (n : Int) by omega), ?_⟩
 refine ⟨Int.le_refl _, ?_⟩
 refine ⟨(show (8 : Int) * (n : Int) ≤ 140737488355328 by omega), ?_⟩
 rw [Int.toNat_natCast]
 ((conv=>whnf);repeat (refine Wa ?_;(repeat (first|refine Wb ?_|refine Wc ?_|refine Wd ?_|refine We ?_|refine Wf ?_));(conv=>whnf)))
 refine AW_loopA (X := cx 18) (cx_ok 18) [3, 8, 9] (fun t => Nat.beq t 0) (fun vs M => ∃ (k : Nat) (L : List Int), k ≤ n ∧ L.length = n ∧ (∀ j, j < k → L.getD j 0 = j) ∧ vs = [.sl 0 0 0 n, .int n, .int k] ∧ M = [some ⟨3, 1, 0, .il L⟩])
  (fun vs _ => n - (vs.getD 2 .any).toInt.toNat) (fun t ht => by have : t < 1 := ht; simp; omega) ?_ ?_
 ·exact same0 ⟨0, _, Nat.zero_le _, List.length_replicate, fun j hj => absurd hj (by omega), rfl, rfl⟩
 rintro vs M ⟨k, L, hk, hL, hg, rfl, rfl⟩
 ((conv=>whnf);repeat (refine Wa ?_;(repeat (first|refine Wb ?_|refine Wc ?_|refine Wd ?_|refine We ?_|refine Wf ?_));(conv=>whnf)))
 refine br_dec (fun hlt => ?_) (fun hge => ?_)
 ·have hk' : k < n := by omega
  ((conv=>whnf);repeat (refine Wa ?_;(repeat (first|refine Wb ?_|refine Wc ?_|refine Wd ?_|refine We ?_|refine Wf ?_));(conv=>whnf)))
  refine ⟨(show (0 : Int) ≤ (k : Int) by omega), ?_⟩
  refine ⟨(show (k : Int) < (n : Int) by omega), ?_⟩
  ((conv=>whnf);repeat (refine Wa ?_;(repeat (first|refine Wb ?_|refine Wc ?_|refine Wd ?_|refine We ?_|refine Wf ?_));(conv=>whnf)))
  refine ⟨inr (by omega), ?_⟩
  ((conv=>whnf);repeat (refine Wa ?_;(repeat (first|refine Wb ?_|refine Wc ?_|refine Wd ?_|refine We ?_|refine Wf ?_));(conv=>whnf)))
  refine ⟨by repeat (first|exact trivial|exact rfl|exact fun _=>trivial|exact fun _ _=>trivial|exact fun _ _ _=>trivial|exact fun _ _ _ _=>trivial|refine And.intro ?_ ?_), memA1 [some ⟨3, 1, 0, .il (L.set k k)⟩] ⟨ObSub.ii (by rw [Nat.zero_add]; rfl), trivial⟩ ⟨⟨k + 1, _, hk', by rw [List.length_set, hL], fun j hj => ?_, rfl, rfl⟩, ?_⟩⟩
  ·rcases (by omega : j < k ∨ j = k) with h | rfl
   ·rw [← hg j h]
    simp only [List.getD, List.getElem?_set_ne (show k ≠ j by omega)]
   ·simp [List.getD, hL, hk']
  ·simp [V.toInt, sel, Env.get]; omega
 ·obtain rfl : k = n := by omega
  ((conv=>whnf);repeat (refine Wa ?_;(repeat (first|refine Wb ?_|refine Wc ?_|refine Wd ?_|refine We ?_|refine Wf ?_));(conv=>whnf)))
  refine ⟨rfl, Ql ?_⟩
  refine ext_getD (by simp [hL, idx_len]) fun j hj => ?_
  have hj : j < k := by simpa [hL] using hj
  rw [idx_get hj, ← hg j hj]
  simp [List.getD, hL, hj]
end Go.Tri
