/-
  CONTRACTS: Ratio, Deviation, Quota: the program's and the reference's.
-/
import Derived.Test.YtjcjjakmggfmcaaB7
namespace Go.Tri
open Go.Proofs

theorem Ratio_pure (a b : Nat) (ha : a ≤ 100000000) (hb : 0 < b) (hb2 : b ≤ 100000000) : APure Try.prog 42 [.int a, .int b] (fun R => R = agg2 ((a / Nat.gcd a b : Nat) : Int) ((b / Nat.gcd a b : Nat) : Int)) := by
  have hg : 0 < Nat.gcd a b := Nat.gcd_pos_of_pos_right _ hb
  have e1 : ((a : Int).tdiv (Nat.gcd a b : Nat)) = ((a / Nat.gcd a b : Nat) : Int) := (Int.ofNat_tdiv a _).symm
  have e2 : ((b : Int).tdiv (Nat.gcd a b : Nat)) = ((b / Nat.gcd a b : Nat) : Int) := (Int.ofNat_tdiv b _).symm
  have l1 := Nat.div_le_self a (Nat.gcd a b)
  have l2 := Nat.div_le_self b (Nat.gcd a b)
  have b1 : -9223372036854775808 ≤ (a : Int).tdiv (Nat.gcd a b : Nat) ∧ (a : Int).tdiv (Nat.gcd a b : Nat) ≤ 9223372036854775807 := by rw [e1]; generalize a / Nat.gcd a b = x at *; omega
  have b2 : -9223372036854775808 ≤ (b : Int).tdiv (Nat.gcd a b : Nat) ∧ (b : Int).tdiv (Nat.gcd a b : Nat) ≤ 9223372036854775807 := by rw [e2]; generalize b / Nat.gcd a b = x at *; omega
  have hG : ∀ x : Int, x = a → APure Try.prog 68 [.int x, .int b] (fun R => R = .int (Nat.gcd a b)) := fun x h => by rw [h]; exact Gcd_pure a b ha hb2
  refine APure_of (X := cx 19) (cx_ok 19) rfl (rs := [(.cell 4 26, 26)]) Try.func42 (by decide) rfl rfl rfl (by simp [cx]) (by simp [NoFr]) ?_
  intro _
  conv => whnf
  repeat ((first | refine ⟨by omega, ?_⟩ | refine ⟨inr (by omega), ?_⟩ | refine eqn_self ?_ | refine ⟨ms (by omega), ?_⟩ | refine ⟨ms (by simp only [Src.n]; omega), ?_⟩ | refine ⟨msk (by omega), ?_⟩ | refine ⟨ms1, ?_⟩); conv => whnf)
  refine APure.to (hG _ maxI_neg) ?_
  conv => whnf
  refine AW_draw (X := cx 19) (cx_ok 19) mixed (by kernel_rfl) ?_
  conv => whnf
  repeat ((first | refine ⟨by omega, ?_⟩ | refine ⟨inr b1, ?_⟩ | refine ⟨inr b2, ?_⟩); conv => whnf)
  refine res_agg ?_
  refine congrArg (V.agg 2) (funext fun k => ?_)
  match k with
  | 0 => exact Qi e1
  | 1 => exact Qi e2
  | k + 2 => rfl

/-- The ratio of Deviation. -/
def rat1 (s l : List Int) : Int := if askedE s l = 0 then (((dv s l l.length).toNat / Nat.gcd (dv s l l.length).toNat (sumL s).toNat : Nat) : Int) else 0
def rat2 (s l : List Int) : Int := if askedE s l = 0 then (((sumL s).toNat / Nat.gcd (dv s l l.length).toNat (sumL s).toNat : Nat) : Int) else 0

theorem askedE_ok {s l : List Int} (h : askedE s l = 0) : Shs s ∧ Dys l s.length ∧ sharesE s = 0 := by
  unfold askedE at h
  by_cases hs : sharesE s = 0
  · rw [if_pos hs] at h
    obtain ⟨h1, h2⟩ := daysE_ok h
    refine ⟨sharesE_ok hs, ⟨h1, fun x hx => ?_⟩, hs⟩
    have := List.all_eq_true.1 h2 x hx
    simpa using this
  · rw [if_neg hs] at h; exact absurd h hs

theorem res2 {x y : V} {a b c : Int} (h : x = agg2 a b) (h2 : y = .int c) : Fr x ∧ Fr y ∧ tup2 x y = tup2 (agg2 a b) (.int c) := by
  subst h h2
  exact ⟨Fr_agg2 a b, trivial, rfl⟩

theorem Deviation_pure (s l : List Int) : APure Try.prog 18 [.ints false s, .ints false l] (fun R => R = tup2 (agg2 (rat1 s l) (rat2 s l)) (.int (askedE s l))) := by
  refine APure_of (X := cx 20) (cx_ok 20) rfl (rs := [(.cell 4 26, 26), (.tmp 5, 27)]) Try.func18 (by decide) rfl rfl rfl (by simp [cx]) (by simp [NoFr]) ?_
  intro _
  conv => whnf
  refine APure.to (checkDays_pure s l) ?_
  conv => whnf
  refine br_ne (fun h => ?_) (fun h => ?_)
  · conv => whnf
    refine res2 (congrArg (V.agg 2) (funext fun k => ?_)) rfl
    match k with
    | 0 => exact Qi (by unfold rat1; rw [if_neg h])
    | 1 => exact Qi (by unfold rat2; rw [if_neg h])
    | k + 2 => rfl
  · obtain ⟨hs, hl, _⟩ := askedE_ok h
    have hb := sumL_bd s hs.2.2
    have hd := dv_bd (l := l) hs l.length hl.1
    have h8 := hs.1
    have h0 := hs.2.1
    have hL : ∀ x y : Int, x = ((dv s l l.length).toNat : Nat) → y = ((sumL s).toNat : Nat) → APure Try.prog 44 [.int x, .int y] (fun R => R = agg2 (rat1 s l) (rat2 s l)) := fun x y hx hy => by
      rw [hx, hy]
      unfold rat1 rat2
      rw [if_pos h, if_pos h]
      exact lowest_pure _ _ (by omega) (by omega) (by omega)
    conv => whnf
    refine APure.to (furthest_pure s l hs hl) ?_
    conv => whnf
    refine APure.to (sum_pure s hs) ?_
    conv => whnf
    refine APure.to (hL _ _ (by omega) (by omega)) ?_
    conv => whnf
    refine res2 (congrArg (V.agg 2) (funext fun k => ?_)) (Qi h.symm)
    match k with
    | 0 => rfl
    | 1 => rfl
    | k + 2 => rfl

theorem refDeviation_pure (s l : List Int) : APure Try.prog 19 [.ints false s, .ints false l] (fun R => R = tup2 (agg2 (rat1 s l) (rat2 s l)) (.int (askedE s l))) := by
  refine APure_of (X := cx 24) (cx_ok 24) rfl (rs := [(.cell 4 26, 26), (.tmp 5, 27)]) Try.func19 (by decide) rfl rfl rfl (by simp [cx]) (by simp [NoFr]) ?_
  intro _
  conv => whnf
  refine APure.to (asked_pure s l) ?_
  conv => whnf
  refine br_ne (fun h => ?_) (fun h => ?_)
  · conv => whnf
    refine res2 (congrArg (V.agg 2) (funext fun k => ?_)) rfl
    match k with
    | 0 => exact Qi (by unfold rat1; rw [if_neg h])
    | 1 => exact Qi (by unfold rat2; rw [if_neg h])
    | k + 2 => rfl
  · obtain ⟨hs, hl, hse⟩ := askedE_ok h
    have hb := sumL_bd s hs.2.2
    have hd := dv_bd (l := l) hs l.length hl.1
    have h8 := hs.1
    have h0 := hs.2.1
    have hW : ∀ y : Int, y = sumL s → APure Try.prog 48 [.ints false s, .ints false l, .int y] (fun R => R = .int (dv s l l.length)) := fun y hy => by rw [hy]; exact Worst_pure s l hs hl
    have hif : (if sharesE s = 0 then sumL s else 0) = sumL s := if_pos hse
    have hL : ∀ x y : Int, x = ((dv s l l.length).toNat : Nat) → y = ((sumL s).toNat : Nat) → APure Try.prog 42 [.int x, .int y] (fun R => R = agg2 (rat1 s l) (rat2 s l)) := fun x y hx hy => by
      rw [hx, hy]
      unfold rat1 rat2
      rw [if_pos h, if_pos h]
      exact Ratio_pure _ _ (by omega) (by omega) (by omega)
    conv => whnf
    refine APure.to (hW _ hif) ?_
    conv => whnf
    refine APure.to (hL _ _ (by omega) (by rw [hif]; omega)) ?_
    conv => whnf
    refine res2 (congrArg (V.agg 2) (funext fun k => ?_)) (Qi h.symm)
    match k with
    | 0 => rfl
    | 1 => rfl
    | k + 2 => rfl

/-- The judgement of Quota. -/
def quo (s l : List Int) : Bool := if askedE s l = 0 then decide (dv s l l.length < sumL s) else false

theorem Quota_pure (s l : List Int) : APure Try.prog 20 [.ints false s, .ints false l] (fun R => R = tup2 (.bool (quo s l)) (.int (askedE s l))) := by
  refine APure_of (X := cx 19) (cx_ok 19) rfl (rs := [(.tmp 4, 4), (.tmp 5, 27)]) Try.func20 (by decide) rfl rfl rfl (by simp [cx]) (by simp [NoFr]) ?_
  intro _
  conv => whnf
  refine APure.to (checkDays_pure s l) ?_
  conv => whnf
  refine br_ne (fun h => ?_) (fun h => ?_)
  · conv => whnf
    exact ⟨trivial, trivial, Q2 (Qb (by unfold quo; rw [if_neg h])) rfl⟩
  · obtain ⟨hs, hl, _⟩ := askedE_ok h
    conv => whnf
    refine APure.to (furthest_pure s l hs hl) ?_
    conv => whnf
    refine APure.to (sum_pure s hs) ?_
    conv => whnf
    exact ⟨trivial, trivial, Q2 (Qb (by unfold quo; rw [if_pos h])) (Qi h.symm)⟩
end Go.Tri
