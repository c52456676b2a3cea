/-
 CONTRACTS: steps (made by a program: a round for each number of rows that are laid).
-/
import Derived.Test.YtpolaegggclhcaaM12
import Derived.Test.YtpolaegggclhcaaM1
namespace Go.Tri
open Go.Proofs

/-- The rows' names: 1, 2 and so on. -/
def outF (n k : Nat) : Nat → Nat → V := fun j _ => if j < k then .sl (1 + j) 0 0 n else .emp true
@[reducible] def oOb (n k : Nat) : Ob := ⟨22, 1, 0, .cv n (outF n k)⟩
@[reducible] def rOw (l : List Int) : Ob := ⟨3, 1, 0, .il l⟩
@[reducible] noncomputable def sOb (n : Nat) (W : Nat → List Int) (a : Nat) : Ob := rOw (lsN n (stp n W a))
def StM (n : Nat) (W : Nat → List Int) (x : Nat) (M : Mem) : Prop := (x = 0 ∧ M = [some (oOb n 0)]) ∨ (x = 1 ∧ M = [some (oOb n 1), some (sOb n W 0)]) ∨ (x = 2 ∧ M = [some (oOb n 2), some (sOb n W 0), some (sOb n W 1)]) ∨ (x = 3 ∧ M = [some (oOb n 3), some (sOb n W 0), some (sOb n W 1), some (sOb n W 2)]) ∨ (x = 4 ∧ M = [some (oOb n 4), some (sOb n W 0), some (sOb n W 1), some (sOb n W 2), some (sOb n W 3)]) ∨ (x = 5 ∧ M = [some (oOb n 5), some (sOb n W 0), some (sOb n W 1), some (sOb n W 2), some (sOb n W 3), some (sOb n W 4)])
/-- The first k numbers of a row of steps are laid. -/
def Laid (n : Nat) (W : Nat → List Int) (x k : Nat) (Z : List Int) : Prop := Z.length = n ∧ ∀ i, i < k → Z.getD (rkB n W i) 0 = (W i).getD (rkB n W i) 0 - (W i).getD x 0
theorem laid_all {n : Nat} {W : Nat → List Int} {x : Nat} {Z : List Int} (h : Laid n W x n Z) : Z = lsN n (stp n W x) := by
 refine ext_getD (by rw [h.1, lsN_len]) fun j hj => ?_
 have hj : j < n := by rw [h.1] at hj; exact hj
 rw [lsN_get hj]
 obtain ⟨h1, h2⟩ := hoB_is W hj
 have := h.2 _ h1
 rw [h2] at this
 exact this
theorem laid_next {n : Nat} {W : Nat → List Int} {x k : Nat} {Z : List Int} (h : Laid n W x k Z) (hk : k < n) : Laid n W x (k + 1) (Z.set (rkB n W k) ((W k).getD (rkB n W k) 0 - (W k).getD x 0)) := by
 obtain ⟨_, r1, r2⟩ := rkB_is (n := n) W
 refine ⟨by rw [List.length_set]; exact h.1, fun i hi => ?_⟩
 rw [getD_setL]
 rcases (by omega : i = k ∨ i < k) with rfl | hik
 ·rw [if_pos ⟨rfl, by rw [h.1]; exact (r1 i hk).1⟩]
 ·rw [if_neg (fun h2 => r2 i k hik hk h2.1.symm)]
  exact h.2 i hik
theorem put_out {n x i j : Nat} {v : V} (hi : i = x) (hv : v = .sl (1 + x) 0 0 n) : (if j = i ∧ 0 = 0 then v else outF n x j 0) = outF n (x + 1) j 0 := by
 subst hi hv
 unfold outF
 by_cases h : j = i
 ·subst h
  rw [if_pos ⟨rfl, rfl⟩, if_pos (by omega)]
 ·rw [if_neg (fun h2 => h h2.1)]
  by_cases h2 : j < i
  ·rw [if_pos h2, if_pos (by omega)]
  ·rw [if_neg h2, if_neg (by omega)]
theorem namedO {n k : Nat} (hk : k ≤ 5) : ∀ j q, j < n → q < 1 → Named (fun t => Nat.ble t 5) (outF n k j q) := fun j q _ _ => by
 unfold outF
 split
 ·exact Nat.ble_eq_true_of_le (by omega)
 ·trivial
@[reducible] noncomputable def xS : Cx := ⟨Try.prog, tab, [], 54, 0, false⟩
set_option maxHeartbeats 2000000 in
set_option maxRecDepth 100000 in
theorem steps_cm {n : Nat} {W : Nat → List Int} (hW : Wis n W) : ACM Try.prog 90 [tabV n W, .ints true (asB n W)] [] (fun R M' => R = .sl 0 0 0 n ∧ StM n W n M') (some 0) := by
 refine ACM_ofW (T := tab) tab_ok Try.func90 (by decide) rfl (Nat.le_of_ble_eq_true rfl) ?_
 have h1 := hW.1
 have h5 := hW.2.1
 obtain ⟨r0, r1, r2⟩ := rkB_is (n := n) W
 have hrow : ∀ i, i < n → (W i).length = n ∧ ∀ j, j < n → 0 ≤ (W i).getD j 0 ∧ (W i).getD j 0 ≤ 1000 := fun i hi => ⟨(hW.2.2 i hi).1, fun j hj => (hW.2.2 i hi).2.1 j hj⟩
 generalize asB n W = B at *
 refine AW_of_awp (X := xS) tab_ok ?_
 ((conv=>whnf);repeat (refine Wa ?_;(repeat (first|refine Wb ?_|refine Wc ?_|refine Wd ?_|refine We ?_|refine Wf ?_));(conv=>whnf)))
 refine ⟨(show (0 : Int) ≤ (n : Int) by omega), ?_⟩
 refine ⟨Int.le_refl _, ?_⟩
 refine ⟨(show (24 : Int) * (n : Int) ≤ 140737488355328 by omega), ?_⟩
 rw [Int.toNat_natCast]
 ((conv=>whnf);repeat (refine Wa ?_;(repeat (first|refine Wb ?_|refine Wc ?_|refine Wd ?_|refine We ?_|refine Wf ?_));(conv=>whnf)))
 refine AW_loopA (X := xS) tab_ok [0, 1, 5, 13, 14] (fun t => Nat.ble t 5) (fun vs M => ∃ x : Nat, x ≤ n ∧ StM n W x M ∧ vs = [tabV n W, .ints true B, .sl 0 0 0 n, .int n, .int x])
  (fun vs _ => n - (vs.getD 4 .any).toInt.toNat) (fun t ht => by have : t < 1 := ht; simp; omega) ?_ ?_
 ·refine memA0 [some (oOb n 0)] ⟨ObSub_vv (fun j q hj hq => ?_), trivial⟩ ⟨0, Nat.zero_le _, .inl ⟨rfl, rfl⟩, rfl⟩
  have hq : q < 1 := hq
  obtain rfl : q = 0 := by omega
  unfold outF
  rw [if_neg (by omega)]
  rfl
 rintro vs M ⟨x, hx, hM, rfl⟩
 have fin : x = n → StM n W n M := fun h => h ▸ hM
 rcases hM with ⟨rfl, rfl⟩ | ⟨rfl, rfl⟩ | ⟨rfl, rfl⟩ | ⟨rfl, rfl⟩ | ⟨rfl, rfl⟩ | ⟨rfl, rfl⟩
 ·((conv=>whnf);repeat (refine Wa ?_;(repeat (first|refine Wb ?_|refine Wc ?_|refine Wd ?_|refine We ?_|refine Wf ?_));(conv=>whnf)))
  refine br_dec (fun hlt => ?_) (fun hge => ?_)
  ·have hx' : 0 < n := by have h := hlt; simp at h; omega
   ((conv=>whnf);repeat (refine Wa ?_;(repeat (first|refine Wb ?_|refine Wc ?_|refine Wd ?_|refine We ?_|refine Wf ?_));(conv=>whnf)))
   refine ⟨(show (0 : Int) ≤ (n : Int) by omega), ?_⟩
   refine ⟨Int.le_refl _, ?_⟩
   refine ⟨(show (8 : Int) * (n : Int) ≤ 140737488355328 by omega), ?_⟩
   rw [Int.toNat_natCast]
   ((conv=>whnf);repeat (refine Wa ?_;(repeat (first|refine Wb ?_|refine Wc ?_|refine Wd ?_|refine We ?_|refine Wf ?_));(conv=>whnf)))
   refine ⟨(show (0 : Int) ≤ ((0 : Nat) : Int) by decide), ?_⟩
   refine ⟨(show ((0 : Nat) : Int) < (n : Int) by omega), ?_⟩
   ((conv=>whnf);repeat (refine Wa ?_;(repeat (first|refine Wb ?_|refine Wc ?_|refine Wd ?_|refine We ?_|refine Wf ?_));(conv=>whnf)))
   refine AW_loopA (X := xS) tab_ok [0, 1, 5, 6, 13, 14, 23, 24, 25] (fun t => Nat.ble t 5) (fun vs M => ∃ (k : Nat) (Z : List Int), k ≤ n ∧ Laid n W 0 k Z ∧ vs = [tabV n W, .ints true B, .sl 0 0 0 n, .int (0 : Nat), .int n, .int (0 : Nat), .ints true B, .int n, .int k] ∧ M = [some (oOb n 1), some (rOw Z)])
    (fun vs _ => n - (vs.getD 8 .any).toInt.toNat) (fun t ht => by have : t < 0 + 2 := ht; simp; omega) ?_ ?_
   ·refine memA0 [some (oOb n 1), some (rOw (List.replicate n 0))] ⟨ObSub_vv (fun j q hj hq => ?_), ObSub.refl _, trivial⟩ ⟨0, _, Nat.zero_le _, ⟨List.length_replicate, fun i hi => absurd hi (by omega)⟩, ?_, rfl⟩
    ·have hq : q < 1 := hq
     obtain rfl : q = 0 := by omega
     exact put_out (x := 0) rfl rfl
    ·rw [← r0]; rfl
   rintro vs M ⟨k, Z, hk, hZ, rfl, rfl⟩
   ((conv=>whnf);repeat (refine Wa ?_;(repeat (first|refine Wb ?_|refine Wc ?_|refine Wd ?_|refine We ?_|refine Wf ?_));(conv=>whnf)))
   refine br_dec (fun hlt2 => ?_) (fun hge2 => ?_)
   ·have hk' : k < n := by omega
    obtain ⟨q1, q2⟩ := r1 k hk'
    obtain ⟨w1, w2⟩ := hrow k hk'
    have w3 := w2 _ q1
    have w4 := w2 0 hx'
    have hnx := laid_next hZ hk'
    have hz := hZ.1
    ((conv=>whnf);repeat (refine Wa ?_;(repeat (first|refine Wb ?_|refine Wc ?_|refine Wd ?_|refine We ?_|refine Wf ?_));(conv=>whnf)))
    refine ⟨(show (0 : Int) ≤ (k : Int) by omega), ?_⟩
    refine ⟨(show (k : Int) < (B.length : Int) by omega), ?_⟩
    rw [show B.getD (k : Int).toNat 0 = (rkB n W k : Int) from q2]
    generalize rkB n W k = y at *
    ((conv=>whnf);repeat (refine Wa ?_;(repeat (first|refine Wb ?_|refine Wc ?_|refine Wd ?_|refine We ?_|refine Wf ?_));(conv=>whnf)))
    refine AW_draw (X := xS) tab_ok mixed (by kernel_rfl) ?_
    ((conv=>whnf);repeat (refine Wa ?_;(repeat (first|refine Wb ?_|refine Wc ?_|refine Wd ?_|refine We ?_|refine Wf ?_));(conv=>whnf)))
    repeat ((first | refine ⟨(show (0 : Int) ≤ ((0 : Nat) : Int) by decide), ?_⟩ | refine ⟨(show ((0 : Nat) : Int) < (n : Int) by omega), ?_⟩ | refine ⟨(show (0 : Int) ≤ (k : Int) by omega), ?_⟩ | refine ⟨(show (k : Int) < (n : Int) by omega), ?_⟩ | refine ⟨(show (0 : Int) ≤ (y : Int) by omega), ?_⟩ | refine ⟨(show (y : Int) < ((W k).length : Int) by omega), ?_⟩ | refine ⟨(show ((0 : Nat) : Int) < ((W k).length : Int) by omega), ?_⟩ | refine ⟨(show InR ((W k).getD y 0 - (W k).getD 0 0) from inr (by omega)), ?_⟩ | refine ⟨(show (y : Int) < (n : Int) by omega), ?_⟩); ((conv=>whnf);repeat (refine Wa ?_;(repeat (first|refine Wb ?_|refine Wc ?_|refine Wd ?_|refine We ?_|refine Wf ?_));(conv=>whnf))))
    refine ⟨inr (by omega), ?_⟩
    ((conv=>whnf);repeat (refine Wa ?_;(repeat (first|refine Wb ?_|refine Wc ?_|refine Wd ?_|refine We ?_|refine Wf ?_));(conv=>whnf)))
    refine ⟨by exact ⟨by repeat (first|exact trivial|exact rfl|exact namedTb|exact fun _ _=>namedTb|exact fun _=>trivial|exact fun _ _=>trivial|exact fun _ _ _=>trivial|exact fun _ _ _ _=>trivial|refine And.intro ?_ ?_), namedO (by omega), trivial, trivial⟩, memA1 [some (oOb n 1), some (rOw (Z.set y ((W k).getD y 0 - (W k).getD 0 0)))] ⟨ObSub.refl _, ObSub.ii (congrArg (fun z => Z.set z ((W k).getD y 0 - (W k).getD 0 0)) (Nat.zero_add y)), trivial⟩ ⟨⟨k + 1, _, hk', hnx, rfl, rfl⟩, ?_⟩⟩
    simp [V.toInt, sel, Env.get]; omega
   ·obtain rfl : n = k := by omega
    have hl := laid_all hZ
    subst hl
    ((conv=>whnf);repeat (refine Wa ?_;(repeat (first|refine Wb ?_|refine Wc ?_|refine Wd ?_|refine We ?_|refine Wf ?_));(conv=>whnf)))
    refine ⟨inr (by omega), ?_⟩
    ((conv=>whnf);repeat (refine Wa ?_;(repeat (first|refine Wb ?_|refine Wc ?_|refine Wd ?_|refine We ?_|refine Wf ?_));(conv=>whnf)))
    refine ⟨by exact ⟨by repeat (first|exact trivial|exact rfl|exact namedTb|exact fun _ _=>namedTb|exact fun _=>trivial|exact fun _ _=>trivial|exact fun _ _ _=>trivial|exact fun _ _ _ _=>trivial|refine And.intro ?_ ?_), namedO (by omega), trivial, trivial⟩, memA1 [some (oOb n 1), some (sOb n W 0)] ⟨ObSub.refl _, ObSub.refl _, trivial⟩ ⟨⟨1, hx', .inr (.inl ⟨rfl, rfl⟩), rfl⟩, ?_⟩⟩
    simp [V.toInt, sel, Env.get]; omega
  ·((conv=>whnf);repeat (refine Wa ?_;(repeat (first|refine Wb ?_|refine Wc ?_|refine Wd ?_|refine We ?_|refine Wf ?_));(conv=>whnf)))
   exact ⟨_, rfl, rfl, fin (by have h := hge; simp at h; omega)⟩
 ·((conv=>whnf);repeat (refine Wa ?_;(repeat (first|refine Wb ?_|refine Wc ?_|refine Wd ?_|refine We ?_|refine Wf ?_));(conv=>whnf)))
  refine br_dec (fun hlt => ?_) (fun hge => ?_)
  ·have hx' : 1 < n := by have h := hlt; simp at h; omega
   ((conv=>whnf);repeat (refine Wa ?_;(repeat (first|refine Wb ?_|refine Wc ?_|refine Wd ?_|refine We ?_|refine Wf ?_));(conv=>whnf)))
   refine ⟨(show (0 : Int) ≤ (n : Int) by omega), ?_⟩
   refine ⟨Int.le_refl _, ?_⟩
   refine ⟨(show (8 : Int) * (n : Int) ≤ 140737488355328 by omega), ?_⟩
   rw [Int.toNat_natCast]
   ((conv=>whnf);repeat (refine Wa ?_;(repeat (first|refine Wb ?_|refine Wc ?_|refine Wd ?_|refine We ?_|refine Wf ?_));(conv=>whnf)))
   refine ⟨(show (0 : Int) ≤ ((1 : Nat) : Int) by decide), ?_⟩
   refine ⟨(show ((1 : Nat) : Int) < (n : Int) by omega), ?_⟩
   ((conv=>whnf);repeat (refine Wa ?_;(repeat (first|refine Wb ?_|refine Wc ?_|refine Wd ?_|refine We ?_|refine Wf ?_));(conv=>whnf)))
   refine AW_loopA (X := xS) tab_ok [0, 1, 5, 6, 13, 14, 23, 24, 25] (fun t => Nat.ble t 5) (fun vs M => ∃ (k : Nat) (Z : List Int), k ≤ n ∧ Laid n W 1 k Z ∧ vs = [tabV n W, .ints true B, .sl 0 0 0 n, .int (1 : Nat), .int n, .int (1 : Nat), .ints true B, .int n, .int k] ∧ M = [some (oOb n 2), some (sOb n W 0), some (rOw Z)])
    (fun vs _ => n - (vs.getD 8 .any).toInt.toNat) (fun t ht => by have : t < 1 + 2 := ht; simp; omega) ?_ ?_
   ·refine memA0 [some (oOb n 2), some (sOb n W 0), some (rOw (List.replicate n 0))] ⟨ObSub_vv (fun j q hj hq => ?_), ObSub.refl _, ObSub.refl _, trivial⟩ ⟨0, _, Nat.zero_le _, ⟨List.length_replicate, fun i hi => absurd hi (by omega)⟩, ?_, rfl⟩
    ·have hq : q < 1 := hq
     obtain rfl : q = 0 := by omega
     exact put_out (x := 1) rfl rfl
    ·rw [← r0]; rfl
   rintro vs M ⟨k, Z, hk, hZ, rfl, rfl⟩
   ((conv=>whnf);repeat (refine Wa ?_;(repeat (first|refine Wb ?_|refine Wc ?_|refine Wd ?_|refine We ?_|refine Wf ?_));(conv=>whnf)))
   refine br_dec (fun hlt2 => ?_) (fun hge2 => ?_)
   ·have hk' : k < n := by omega
    obtain ⟨q1, q2⟩ := r1 k hk'
    obtain ⟨w1, w2⟩ := hrow k hk'
    have w3 := w2 _ q1
    have w4 := w2 1 hx'
    have hnx := laid_next hZ hk'
    have hz := hZ.1
    ((conv=>whnf);repeat (refine Wa ?_;(repeat (first|refine Wb ?_|refine Wc ?_|refine Wd ?_|refine We ?_|refine Wf ?_));(conv=>whnf)))
    refine ⟨(show (0 : Int) ≤ (k : Int) by omega), ?_⟩
    refine ⟨(show (k : Int) < (B.length : Int) by omega), ?_⟩
    rw [show B.getD (k : Int).toNat 0 = (rkB n W k : Int) from q2]
    generalize rkB n W k = y at *
    ((conv=>whnf);repeat (refine Wa ?_;(repeat (first|refine Wb ?_|refine Wc ?_|refine Wd ?_|refine We ?_|refine Wf ?_));(conv=>whnf)))
    refine AW_draw (X := xS) tab_ok mixed (by kernel_rfl) ?_
    ((conv=>whnf);repeat (refine Wa ?_;(repeat (first|refine Wb ?_|refine Wc ?_|refine Wd ?_|refine We ?_|refine Wf ?_));(conv=>whnf)))
    repeat ((first | refine ⟨(show (0 : Int) ≤ ((1 : Nat) : Int) by decide), ?_⟩ | refine ⟨(show ((1 : Nat) : Int) < (n : Int) by omega), ?_⟩ | refine ⟨(show (0 : Int) ≤ (k : Int) by omega), ?_⟩ | refine ⟨(show (k : Int) < (n : Int) by omega), ?_⟩ | refine ⟨(show (0 : Int) ≤ (y : Int) by omega), ?_⟩ | refine ⟨(show (y : Int) < ((W k).length : Int) by omega), ?_⟩ | refine ⟨(show ((1 : Nat) : Int) < ((W k).length : Int) by omega), ?_⟩ | refine ⟨(show InR ((W k).getD y 0 - (W k).getD 1 0) from inr (by omega)), ?_⟩ | refine ⟨(show (y : Int) < (n : Int) by omega), ?_⟩); ((conv=>whnf);repeat (refine Wa ?_;(repeat (first|refine Wb ?_|refine Wc ?_|refine Wd ?_|refine We ?_|refine Wf ?_));(conv=>whnf))))
    refine ⟨inr (by omega), ?_⟩
    ((conv=>whnf);repeat (refine Wa ?_;(repeat (first|refine Wb ?_|refine Wc ?_|refine Wd ?_|refine We ?_|refine Wf ?_));(conv=>whnf)))
    refine ⟨by exact ⟨by repeat (first|exact trivial|exact rfl|exact namedTb|exact fun _ _=>namedTb|exact fun _=>trivial|exact fun _ _=>trivial|exact fun _ _ _=>trivial|exact fun _ _ _ _=>trivial|refine And.intro ?_ ?_), namedO (by omega), trivial, trivial, trivial⟩, memA1 [some (oOb n 2), some (sOb n W 0), some (rOw (Z.set y ((W k).getD y 0 - (W k).getD 1 0)))] ⟨ObSub.refl _, ObSub.refl _, ObSub.ii (congrArg (fun z => Z.set z ((W k).getD y 0 - (W k).getD 1 0)) (Nat.zero_add y)), trivial⟩ ⟨⟨k + 1, _, hk', hnx, rfl, rfl⟩, ?_⟩⟩
    simp [V.toInt, sel, Env.get]; omega
   ·obtain rfl : n = k := by omega
    have hl := laid_all hZ
    subst hl
    ((conv=>whnf);repeat (refine Wa ?_;(repeat (first|refine Wb ?_|refine Wc ?_|refine Wd ?_|refine We ?_|refine Wf ?_));(conv=>whnf)))
    refine ⟨inr (by omega), ?_⟩
    ((conv=>whnf);repeat (refine Wa ?_;(repeat (first|refine Wb ?_|refine Wc ?_|refine Wd ?_|refine We ?_|refine Wf ?_));(conv=>whnf)))
    refine ⟨by exact ⟨by repeat (first|exact trivial|exact rfl|exact namedTb|exact fun _ _=>namedTb|exact fun _=>trivial|exact fun _ _=>trivial|exact fun _ _ _=>trivial|exact fun _ _ _ _=>trivial|refine And.intro ?_ ?_), namedO (by omega), trivial, trivial, trivial⟩, memA1 [some (oOb n 2), some (sOb n W 0), some (sOb n W 1)] ⟨ObSub.refl _, ObSub.refl _, ObSub.refl _, trivial⟩ ⟨⟨2, hx', .inr (.inr (.inl ⟨rfl, rfl⟩)), rfl⟩, ?_⟩⟩
    simp [V.toInt, sel, Env.get]; omega
  ·((conv=>whnf);repeat (refine Wa ?_;(repeat (first|refine Wb ?_|refine Wc ?_|refine Wd ?_|refine We ?_|refine Wf ?_));(conv=>whnf)))
   exact ⟨_, rfl, rfl, fin (by have h := hge; simp at h; omega)⟩
 ·((conv=>whnf);repeat (refine Wa ?_;(repeat (first|refine Wb ?_|refine Wc ?_|refine Wd ?_|refine We ?_|refine Wf ?_));(conv=>whnf)))
  refine br_dec (fun hlt => ?_) (fun hge => ?_)
  ·have hx' : 2 < n := by have h := hlt; simp at h; omega
   ((conv=>whnf);repeat (refine Wa ?_;(repeat (first|refine Wb ?_|refine Wc ?_|refine Wd ?_|refine We ?_|refine Wf ?_));(conv=>whnf)))
   refine ⟨(show (0 : Int) ≤ (n : Int) by omega), ?_⟩
   refine ⟨Int.le_refl _, ?_⟩
   refine ⟨(show (8 : Int) * (n : Int) ≤ 140737488355328 by omega), ?_⟩
   rw [Int.toNat_natCast]
   ((conv=>whnf);repeat (refine Wa ?_;(repeat (first|refine Wb ?_|refine Wc ?_|refine Wd ?_|refine We ?_|refine Wf ?_));(conv=>whnf)))
   refine ⟨(show (0 : Int) ≤ ((2 : Nat) : Int) by decide), ?_⟩
   refine ⟨(show ((2 : Nat) : Int) < (n : Int) by omega), ?_⟩
   ((conv=>whnf);repeat (refine Wa ?_;(repeat (first|refine Wb ?_|refine Wc ?_|refine Wd ?_|refine We ?_|refine Wf ?_));(conv=>whnf)))
   refine AW_loopA (X := xS) tab_ok [0, 1, 5, 6, 13, 14, 23, 24, 25] (fun t => Nat.ble t 5) (fun vs M => ∃ (k : Nat) (Z : List Int), k ≤ n ∧ Laid n W 2 k Z ∧ vs = [tabV n W, .ints true B, .sl 0 0 0 n, .int (2 : Nat), .int n, .int (2 : Nat), .ints true B, .int n, .int k] ∧ M = [some (oOb n 3), some (sOb n W 0), some (sOb n W 1), some (rOw Z)])
    (fun vs _ => n - (vs.getD 8 .any).toInt.toNat) (fun t ht => by have : t < 2 + 2 := ht; simp; omega) ?_ ?_
   ·refine memA0 [some (oOb n 3), some (sOb n W 0), some (sOb n W 1), some (rOw (List.replicate n 0))] ⟨ObSub_vv (fun j q hj hq => ?_), ObSub.refl _, ObSub.refl _, ObSub.refl _, trivial⟩ ⟨0, _, Nat.zero_le _, ⟨List.length_replicate, fun i hi => absurd hi (by omega)⟩, ?_, rfl⟩
    ·have hq : q < 1 := hq
     obtain rfl : q = 0 := by omega
     exact put_out (x := 2) rfl rfl
    ·rw [← r0]; rfl
   rintro vs M ⟨k, Z, hk, hZ, rfl, rfl⟩
   ((conv=>whnf);repeat (refine Wa ?_;(repeat (first|refine Wb ?_|refine Wc ?_|refine Wd ?_|refine We ?_|refine Wf ?_));(conv=>whnf)))
   refine br_dec (fun hlt2 => ?_) (fun hge2 => ?_)
   ·have hk' : k < n := by omega
    obtain ⟨q1, q2⟩ := r1 k hk'
    obtain ⟨w1, w2⟩ := hrow k hk'
    have w3 := w2 _ q1
    have w4 := w2 2 hx'
    have hnx := laid_next hZ hk'
    have hz := hZ.1
    ((conv=>whnf);repeat (refine Wa ?_;(repeat (first|refine Wb ?_|refine Wc ?_|refine Wd ?_|refine We ?_|refine Wf ?_));(conv=>whnf)))
    refine ⟨(show (0 : Int) ≤ (k : Int) by omega), ?_⟩
    refine ⟨(show (k : Int) < (B.length : Int) by omega), ?_⟩
    rw [show B.getD (k : Int).toNat 0 = (rkB n W k : Int) from q2]
    generalize rkB n W k = y at *
    ((conv=>whnf);repeat (refine Wa ?_;(repeat (first|refine Wb ?_|refine Wc ?_|refine Wd ?_|refine We ?_|refine Wf ?_));(conv=>whnf)))
    refine AW_draw (X := xS) tab_ok mixed (by kernel_rfl) ?_
    ((conv=>whnf);repeat (refine Wa ?_;(repeat (first|refine Wb ?_|refine Wc ?_|refine Wd ?_|refine We ?_|refine Wf ?_));(conv=>whnf)))
    repeat ((first | refine ⟨(show (0 : Int) ≤ ((2 : Nat) : Int) by decide), ?_⟩ | refine ⟨(show ((2 : Nat) : Int) < (n : Int) by omega), ?_⟩ | refine ⟨(show (0 : Int) ≤ (k : Int) by omega), ?_⟩ | refine ⟨(show (k : Int) < (n : Int) by omega), ?_⟩ | refine ⟨(show (0 : Int) ≤ (y : Int) by omega), ?_⟩ | refine ⟨(show (y : Int) < ((W k).length : Int) by omega), ?_⟩ | refine ⟨(show ((2 : Nat) : Int) < ((W k).length : Int) by omega), ?_⟩ | refine ⟨(show InR ((W k).getD y 0 - (W k).getD 2 0) from inr (by omega)), ?_⟩ | refine ⟨(show (y : Int) < (n : Int) by omega), ?_⟩); ((conv=>whnf);repeat (refine Wa ?_;(repeat (first|refine Wb ?_|refine Wc ?_|refine Wd ?_|refine We ?_|refine Wf ?_));(conv=>whnf))))
    refine ⟨inr (by omega), ?_⟩
    ((conv=>whnf);repeat (refine Wa ?_;(repeat (first|refine Wb ?_|refine Wc ?_|refine Wd ?_|refine We ?_|refine Wf ?_));(conv=>whnf)))
    refine ⟨by exact ⟨by repeat (first|exact trivial|exact rfl|exact namedTb|exact fun _ _=>namedTb|exact fun _=>trivial|exact fun _ _=>trivial|exact fun _ _ _=>trivial|exact fun _ _ _ _=>trivial|refine And.intro ?_ ?_), namedO (by omega), trivial, trivial, trivial, trivial⟩, memA1 [some (oOb n 3), some (sOb n W 0), some (sOb n W 1), some (rOw (Z.set y ((W k).getD y 0 - (W k).getD 2 0)))] ⟨ObSub.refl _, ObSub.refl _, ObSub.refl _, ObSub.ii (congrArg (fun z => Z.set z ((W k).getD y 0 - (W k).getD 2 0)) (Nat.zero_add y)), trivial⟩ ⟨⟨k + 1, _, hk', hnx, rfl, rfl⟩, ?_⟩⟩
    simp [V.toInt, sel, Env.get]; omega
   ·obtain rfl : n = k := by omega
    have hl := laid_all hZ
    subst hl
    ((conv=>whnf);repeat (refine Wa ?_;(repeat (first|refine Wb ?_|refine Wc ?_|refine Wd ?_|refine We ?_|refine Wf ?_));(conv=>whnf)))
    refine ⟨inr (by omega), ?_⟩
    ((conv=>whnf);repeat (refine Wa ?_;(repeat (first|refine Wb ?_|refine Wc ?_|refine Wd ?_|refine We ?_|refine Wf ?_));(conv=>whnf)))
    refine ⟨by exact ⟨by repeat (first|exact trivial|exact rfl|exact namedTb|exact fun _ _=>namedTb|exact fun _=>trivial|exact fun _ _=>trivial|exact fun _ _ _=>trivial|exact fun _ _ _ _=>trivial|refine And.intro ?_ ?_), namedO (by omega), trivial, trivial, trivial, trivial⟩, memA1 [some (oOb n 3), some (sOb n W 0), some (sOb n W 1), some (sOb n W 2)] ⟨ObSub.refl _, ObSub.refl _, ObSub.refl _, ObSub.refl _, trivial⟩ ⟨⟨3, hx', .inr (.inr (.inr (.inl ⟨rfl, rfl⟩))), rfl⟩, ?_⟩⟩
    simp [V.toInt, sel, Env.get]; omega
  ·((conv=>whnf);repeat (refine Wa ?_;(repeat (first|refine Wb ?_|refine Wc ?_|refine Wd ?_|refine We ?_|refine Wf ?_));(conv=>whnf)))
   exact ⟨_, rfl, rfl, fin (by have h := hge; simp at h; omega)⟩
 ·((conv=>whnf);repeat (refine Wa ?_;(repeat (first|refine Wb ?_|refine Wc ?_|refine Wd ?_|refine We ?_|refine Wf ?_));(conv=>whnf)))
  refine br_dec (fun hlt => ?_) (fun hge => ?_)
  ·have hx' : 3 < n := by have h := hlt; simp at h; omega
   ((conv=>whnf);repeat (refine Wa ?_;(repeat (first|refine Wb ?_|refine Wc ?_|refine Wd ?_|refine We ?_|refine Wf ?_));(conv=>whnf)))
   refine ⟨(show (0 : Int) ≤ (n : Int) by omega), ?_⟩
   refine ⟨Int.le_refl _, ?_⟩
   refine ⟨(show (8 : Int) * (n : Int) ≤ 140737488355328 by omega), ?_⟩
   rw [Int.toNat_natCast]
   ((conv=>whnf);repeat (refine Wa ?_;(repeat (first|refine Wb ?_|refine Wc ?_|refine Wd ?_|refine We ?_|refine Wf ?_));(conv=>whnf)))
   refine ⟨(show (0 : Int) ≤ ((3 : Nat) : Int) by decide), ?_⟩
   refine ⟨(show ((3 : Nat) : Int) < (n : Int) by omega), ?_⟩
   ((conv=>whnf);repeat (refine Wa ?_;(repeat (first|refine Wb ?_|refine Wc ?_|refine Wd ?_|refine We ?_|refine Wf ?_));(conv=>whnf)))
   refine AW_loopA (X := xS) tab_ok [0, 1, 5, 6, 13, 14, 23, 24, 25] (fun t => Nat.ble t 5) (fun vs M => ∃ (k : Nat) (Z : List Int), k ≤ n ∧ Laid n W 3 k Z ∧ vs = [tabV n W, .ints true B, .sl 0 0 0 n, .int (3 : Nat), .int n, .int (3 : Nat), .ints true B, .int n, .int k] ∧ M = [some (oOb n 4), some (sOb n W 0), some (sOb n W 1), some (sOb n W 2), some (rOw Z)])
    (fun vs _ => n - (vs.getD 8 .any).toInt.toNat) (fun t ht => by have : t < 3 + 2 := ht; simp; omega) ?_ ?_
   ·refine memA0 [some (oOb n 4), some (sOb n W 0), some (sOb n W 1), some (sOb n W 2), some (rOw (List.replicate n 0))] ⟨ObSub_vv (fun j q hj hq => ?_), ObSub.refl _, ObSub.refl _, ObSub.refl _, ObSub.refl _, trivial⟩ ⟨0, _, Nat.zero_le _, ⟨List.length_replicate, fun i hi => absurd hi (by omega)⟩, ?_, rfl⟩
    ·have hq : q < 1 := hq
     obtain rfl : q = 0 := by omega
     exact put_out (x := 3) rfl rfl
    ·rw [← r0]; rfl
   rintro vs M ⟨k, Z, hk, hZ, rfl, rfl⟩
   ((conv=>whnf);repeat (refine Wa ?_;(repeat (first|refine Wb ?_|refine Wc ?_|refine Wd ?_|refine We ?_|refine Wf ?_));(conv=>whnf)))
   refine br_dec (fun hlt2 => ?_) (fun hge2 => ?_)
   ·have hk' : k < n := by omega
    obtain ⟨q1, q2⟩ := r1 k hk'
    obtain ⟨w1, w2⟩ := hrow k hk'
    have w3 := w2 _ q1
    have w4 := w2 3 hx'
    have hnx := laid_next hZ hk'
    have hz := hZ.1
    ((conv=>whnf);repeat (refine Wa ?_;(repeat (first|refine Wb ?_|refine Wc ?_|refine Wd ?_|refine We ?_|refine Wf ?_));(conv=>whnf)))
    refine ⟨(show (0 : Int) ≤ (k : Int) by omega), ?_⟩
    refine ⟨(show (k : Int) < (B.length : Int) by omega), ?_⟩
    rw [show B.getD (k : Int).toNat 0 = (rkB n W k : Int) from q2]
    generalize rkB n W k = y at *
    ((conv=>whnf);repeat (refine Wa ?_;(repeat (first|refine Wb ?_|refine Wc ?_|refine Wd ?_|refine We ?_|refine Wf ?_));(conv=>whnf)))
    refine AW_draw (X := xS) tab_ok mixed (by kernel_rfl) ?_
    ((conv=>whnf);repeat (refine Wa ?_;(repeat (first|refine Wb ?_|refine Wc ?_|refine Wd ?_|refine We ?_|refine Wf ?_));(conv=>whnf)))
    repeat ((first | refine ⟨(show (0 : Int) ≤ ((3 : Nat) : Int) by decide), ?_⟩ | refine ⟨(show ((3 : Nat) : Int) < (n : Int) by omega), ?_⟩ | refine ⟨(show (0 : Int) ≤ (k : Int) by omega), ?_⟩ | refine ⟨(show (k : Int) < (n : Int) by omega), ?_⟩ | refine ⟨(show (0 : Int) ≤ (y : Int) by omega), ?_⟩ | refine ⟨(show (y : Int) < ((W k).length : Int) by omega), ?_⟩ | refine ⟨(show ((3 : Nat) : Int) < ((W k).length : Int) by omega), ?_⟩ | refine ⟨(show InR ((W k).getD y 0 - (W k).getD 3 0) from inr (by omega)), ?_⟩ | refine ⟨(show (y : Int) < (n : Int) by omega), ?_⟩); ((conv=>whnf);repeat (refine Wa ?_;(repeat (first|refine Wb ?_|refine Wc ?_|refine Wd ?_|refine We ?_|refine Wf ?_));(conv=>whnf))))
    refine ⟨inr (by omega), ?_⟩
    ((conv=>whnf);repeat (refine Wa ?_;(repeat (first|refine Wb ?_|refine Wc ?_|refine Wd ?_|refine We ?_|refine Wf ?_));(conv=>whnf)))
    refine ⟨by exact ⟨by repeat (first|exact trivial|exact rfl|exact namedTb|exact fun _ _=>namedTb|exact fun _=>trivial|exact fun _ _=>trivial|exact fun _ _ _=>trivial|exact fun _ _ _ _=>trivial|refine And.intro ?_ ?_), namedO (by omega), trivial, trivial, trivial, trivial, trivial⟩, memA1 [some (oOb n 4), some (sOb n W 0), some (sOb n W 1), some (sOb n W 2), some (rOw (Z.set y ((W k).getD y 0 - (W k).getD 3 0)))] ⟨ObSub.refl _, ObSub.refl _, ObSub.refl _, ObSub.refl _, ObSub.ii (congrArg (fun z => Z.set z ((W k).getD y 0 - (W k).getD 3 0)) (Nat.zero_add y)), trivial⟩ ⟨⟨k + 1, _, hk', hnx, rfl, rfl⟩, ?_⟩⟩
    simp [V.toInt, sel, Env.get]; omega
   ·obtain rfl : n = k := by omega
    have hl := laid_all hZ
    subst hl
    ((conv=>whnf);repeat (refine Wa ?_;(repeat (first|refine Wb ?_|refine Wc ?_|refine Wd ?_|refine We ?_|refine Wf ?_));(conv=>whnf)))
    refine ⟨inr (by omega), ?_⟩
    ((conv=>whnf);repeat (refine Wa ?_;(repeat (first|refine Wb ?_|refine Wc ?_|refine Wd ?_|refine We ?_|refine Wf ?_));(conv=>whnf)))
    refine ⟨by exact ⟨by repeat (first|exact trivial|exact rfl|exact namedTb|exact fun _ _=>namedTb|exact fun _=>trivial|exact fun _ _=>trivial|exact fun _ _ _=>trivial|exact fun _ _ _ _=>trivial|refine And.intro ?_ ?_), namedO (by omega), trivial, trivial, trivial, trivial, trivial⟩, memA1 [some (oOb n 4), some (sOb n W 0), some (sOb n W 1), some (sOb n W 2), some (sOb n W 3)] ⟨ObSub.refl _, ObSub.refl _, ObSub.refl _, ObSub.refl _, ObSub.refl _, trivial⟩ ⟨⟨4, hx', .inr (.inr (.inr (.inr (.inl ⟨rfl, rfl⟩)))), rfl⟩, ?_⟩⟩
    simp [V.toInt, sel, Env.get]; omega
  ·((conv=>whnf);repeat (refine Wa ?_;(repeat (first|refine Wb ?_|refine Wc ?_|refine Wd ?_|refine We ?_|refine Wf ?_));(conv=>whnf)))
   exact ⟨_, rfl, rfl, fin (by have h := hge; simp at h; omega)⟩
 ·((conv=>whnf);repeat (refine Wa ?_;(repeat (first|refine Wb ?_|refine Wc ?_|refine Wd ?_|refine We ?_|refine Wf ?_));(conv=>whnf)))
  refine br_dec (fun hlt => ?_) (fun hge => ?_)
  ·have hx' : 4 < n := by have h := hlt; simp at h; omega
   ((conv=>whnf);repeat (refine Wa ?_;(repeat (first|refine Wb ?_|refine Wc ?_|refine Wd ?_|refine We ?_|refine Wf ?_));(conv=>whnf)))
   refine ⟨(show (0 : Int) ≤ (n : Int) by omega), ?_⟩
   refine ⟨Int.le_refl _, ?_⟩
   refine ⟨(show (8 : Int) * (n : Int) ≤ 140737488355328 by omega), ?_⟩
   rw [Int.toNat_natCast]
   ((conv=>whnf);repeat (refine Wa ?_;(repeat (first|refine Wb ?_|refine Wc ?_|refine Wd ?_|refine We ?_|refine Wf ?_));(conv=>whnf)))
   refine ⟨(show (0 : Int) ≤ ((4 : Nat) : Int) by decide), ?_⟩
   refine ⟨(show ((4 : Nat) : Int) < (n : Int) by omega), ?_⟩
   ((conv=>whnf);repeat (refine Wa ?_;(repeat (first|refine Wb ?_|refine Wc ?_|refine Wd ?_|refine We ?_|refine Wf ?_));(conv=>whnf)))
   refine AW_loopA (X := xS) tab_ok [0, 1, 5, 6, 13, 14, 23, 24, 25] (fun t => Nat.ble t 5) (fun vs M => ∃ (k : Nat) (Z : List Int), k ≤ n ∧ Laid n W 4 k Z ∧ vs = [tabV n W, .ints true B, .sl 0 0 0 n, .int (4 : Nat), .int n, .int (4 : Nat), .ints true B, .int n, .int k] ∧ M = [some (oOb n 5), some (sOb n W 0), some (sOb n W 1), some (sOb n W 2), some (sOb n W 3), some (rOw Z)])
    (fun vs _ => n - (vs.getD 8 .any).toInt.toNat) (fun t ht => by have : t < 4 + 2 := ht; simp; omega) ?_ ?_
   ·refine memA0 [some (oOb n 5), some (sOb n W 0), some (sOb n W 1), some (sOb n W 2), some (sOb n W 3), some (rOw (List.replicate n 0))] ⟨ObSub_vv (fun j q hj hq => ?_), ObSub.refl _, ObSub.refl _, ObSub.refl _, ObSub.refl _, ObSub.refl _, trivial⟩ ⟨0, _, Nat.zero_le _, ⟨List.length_replicate, fun i hi => absurd hi (by omega)⟩, ?_, rfl⟩
    ·have hq : q < 1 := hq
     obtain rfl : q = 0 := by omega
     exact put_out (x := 4) rfl rfl
    ·rw [← r0]; rfl
   rintro vs M ⟨k, Z, hk, hZ, rfl, rfl⟩
   ((conv=>whnf);repeat (refine Wa ?_;(repeat (first|refine Wb ?_|refine Wc ?_|refine Wd ?_|refine We ?_|refine Wf ?_));(conv=>whnf)))
   refine br_dec (fun hlt2 => ?_) (fun hge2 => ?_)
   ·have hk' : k < n := by omega
    obtain ⟨q1, q2⟩ := r1 k hk'
    obtain ⟨w1, w2⟩ := hrow k hk'
    have w3 := w2 _ q1
    have w4 := w2 4 hx'
    have hnx := laid_next hZ hk'
    have hz := hZ.1
    ((conv=>whnf);repeat (refine Wa ?_;(repeat (first|refine Wb ?_|refine Wc ?_|refine Wd ?_|refine We ?_|refine Wf ?_));(conv=>whnf)))
    refine ⟨(show (0 : Int) ≤ (k : Int) by omega), ?_⟩
    refine ⟨(show (k : Int) < (B.length : Int) by omega), ?_⟩
    rw [show B.getD (k : Int).toNat 0 = (rkB n W k : Int) from q2]
    generalize rkB n W k = y at *
    ((conv=>whnf);repeat (refine Wa ?_;(repeat (first|refine Wb ?_|refine Wc ?_|refine Wd ?_|refine We ?_|refine Wf ?_));(conv=>whnf)))
    refine AW_draw (X := xS) tab_ok mixed (by kernel_rfl) ?_
    ((conv=>whnf);repeat (refine Wa ?_;(repeat (first|refine Wb ?_|refine Wc ?_|refine Wd ?_|refine We ?_|refine Wf ?_));(conv=>whnf)))
    repeat ((first | refine ⟨(show (0 : Int) ≤ ((4 : Nat) : Int) by decide), ?_⟩ | refine ⟨(show ((4 : Nat) : Int) < (n : Int) by omega), ?_⟩ | refine ⟨(show (0 : Int) ≤ (k : Int) by omega), ?_⟩ | refine ⟨(show (k : Int) < (n : Int) by omega), ?_⟩ | refine ⟨(show (0 : Int) ≤ (y : Int) by omega), ?_⟩ | refine ⟨(show (y : Int) < ((W k).length : Int) by omega), ?_⟩ | refine ⟨(show ((4 : Nat) : Int) < ((W k).length : Int) by omega), ?_⟩ | refine ⟨(show InR ((W k).getD y 0 - (W k).getD 4 0) from inr (by omega)), ?_⟩ | refine ⟨(show (y : Int) < (n : Int) by omega), ?_⟩); ((conv=>whnf);repeat (refine Wa ?_;(repeat (first|refine Wb ?_|refine Wc ?_|refine Wd ?_|refine We ?_|refine Wf ?_));(conv=>whnf))))
    refine ⟨inr (by omega), ?_⟩
    ((conv=>whnf);repeat (refine Wa ?_;(repeat (first|refine Wb ?_|refine Wc ?_|refine Wd ?_|refine We ?_|refine Wf ?_));(conv=>whnf)))
    refine ⟨by exact ⟨by repeat (first|exact trivial|exact rfl|exact namedTb|exact fun _ _=>namedTb|exact fun _=>trivial|exact fun _ _=>trivial|exact fun _ _ _=>trivial|exact fun _ _ _ _=>trivial|refine And.intro ?_ ?_), namedO (by omega), trivial, trivial, trivial, trivial, trivial, trivial⟩, memA1 [some (oOb n 5), some (sOb n W 0), some (sOb n W 1), some (sOb n W 2), some (sOb n W 3), some (rOw (Z.set y ((W k).getD y 0 - (W k).getD 4 0)))] ⟨ObSub.refl _, ObSub.refl _, ObSub.refl _, ObSub.refl _, ObSub.refl _, ObSub.ii (congrArg (fun z => Z.set z ((W k).getD y 0 - (W k).getD 4 0)) (Nat.zero_add y)), trivial⟩ ⟨⟨k + 1, _, hk', hnx, rfl, rfl⟩, ?_⟩⟩
    simp [V.toInt, sel, Env.get]; omega
   ·obtain rfl : n = k := by omega
    have hl := laid_all hZ
    subst hl
    ((conv=>whnf);repeat (refine Wa ?_;(repeat (first|refine Wb ?_|refine Wc ?_|refine Wd ?_|refine We ?_|refine Wf ?_));(conv=>whnf)))
    refine ⟨inr (by omega), ?_⟩
    ((conv=>whnf);repeat (refine Wa ?_;(repeat (first|refine Wb ?_|refine Wc ?_|refine Wd ?_|refine We ?_|refine Wf ?_));(conv=>whnf)))
    refine ⟨by exact ⟨by repeat (first|exact trivial|exact rfl|exact namedTb|exact fun _ _=>namedTb|exact fun _=>trivial|exact fun _ _=>trivial|exact fun _ _ _=>trivial|exact fun _ _ _ _=>trivial|refine And.intro ?_ ?_), namedO (by omega), trivial, trivial, trivial, trivial, trivial, trivial⟩, memA1 [some (oOb n 5), some (sOb n W 0), some (sOb n W 1), some (sOb n W 2), some (sOb n W 3), some (sOb n W 4)] ⟨ObSub.refl _, ObSub.refl _, ObSub.refl _, ObSub.refl _, ObSub.refl _, ObSub.refl _, trivial⟩ ⟨⟨5, hx', .inr (.inr (.inr (.inr (.inr (⟨rfl, rfl⟩))))), rfl⟩, ?_⟩⟩
    simp [V.toInt, sel, Env.get]; omega
  ·((conv=>whnf);repeat (refine Wa ?_;(repeat (first|refine Wb ?_|refine Wc ?_|refine Wd ?_|refine We ?_|refine Wf ?_));(conv=>whnf)))
   exact ⟨_, rfl, rfl, fin (by have h := hge; simp at h; omega)⟩
 ·((conv=>whnf);repeat (refine Wa ?_;(repeat (first|refine Wb ?_|refine Wc ?_|refine Wd ?_|refine We ?_|refine Wf ?_));(conv=>whnf)))
  refine br_dec (fun hlt => ?_) (fun hge => ?_)
  ·have hx' : 5 < n := by have h := hlt; simp at h; omega
   omega
  ·((conv=>whnf);repeat (refine Wa ?_;(repeat (first|refine Wb ?_|refine Wc ?_|refine Wd ?_|refine We ?_|refine Wf ?_));(conv=>whnf)))
   exact ⟨_, rfl, rfl, fin (by have h := hge; simp at h; omega)⟩
end Go.Tri
