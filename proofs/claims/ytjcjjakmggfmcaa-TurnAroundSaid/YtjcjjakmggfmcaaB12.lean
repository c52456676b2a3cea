/-
  CONTRACTS: checkMany, many, Greedy.
-/
import Derived.Test.YtjcjjakmggfmcaaB11
namespace Go.Tri
open Go.Proofs

def manyE (s : List Int) (m : Int) : Int := if sharesE s = 0 then (if m < 0 ∨ m > 400 then 2 else 0) else sharesE s
theorem manyE_ok {s : List Int} {m : Int} (h : manyE s m = 0) : Shs s ∧ sharesE s = 0 ∧ 0 ≤ m ∧ m ≤ 400 := by
  unfold manyE at h
  split at h
  · next h1 =>
    split at h
    · cases h
    · exact ⟨sharesE_ok h1, h1, by omega, by omega⟩
  · next h1 => exact absurd h h1
theorem manyE_of {s : List Int} {m : Int} (h1 : sharesE s = 0) (h2 : 0 ≤ m) (h3 : m ≤ 400) : manyE s m = 0 := by unfold manyE; rw [if_pos h1, if_neg (by omega)]

theorem checkMany_pure (s : List Int) (m : Int) : APure Try.prog 49 [.ints false s, .int m] (fun R => R = .int (manyE s m)) := by
  refine APure_of (X := cx 17) (cx_ok 17) rfl (rs := [(.tmp 4, 27)]) Try.func49 (by decide) rfl rfl rfl (by simp [cx]) (by simp [NoFr]) ?_
  intro _
  conv => whnf
  refine APure.to (checkShares_pure s) ?_
  conv => whnf
  refine br_ne (fun h => ?_) (fun h => ?_)
  · conv => whnf
    exact ⟨trivial, Qi (by unfold manyE; rw [if_neg h])⟩
  · conv => whnf
    refine br_dec (fun h2 => ?_) (fun h2 => ?_)
    · conv => whnf
      exact ⟨trivial, Qi (by unfold manyE; rw [if_pos h, if_pos (.inl h2)])⟩
    · conv => whnf
      refine br_dec (fun h3 => ?_) (fun h3 => ?_)
      · conv => whnf
        exact ⟨trivial, Qi (by unfold manyE; rw [if_pos h, if_pos (.inr h3)])⟩
      · conv => whnf
        exact ⟨trivial, Qi (by unfold manyE; rw [if_pos h, if_neg (by omega)])⟩

theorem many_pure (s : List Int) (m : Int) : APure Try.prog 53 [.ints false s, .int m] (fun R => R = tup2 (.int (if manyE s m = 0 then sumL s else 0)) (.int (manyE s m))) := by
  refine APure_of (X := cx 23) (cx_ok 23) rfl (rs := [(.tmp 4, 3), (.tmp 5, 27)]) Try.func53 (by decide) rfl rfl rfl (by simp [cx]) (by simp [NoFr]) ?_
  intro _
  conv => whnf
  refine APure.to (Shares_pure s) ?_
  conv => whnf
  refine br_ne (fun h => ?_) (fun h => ?_)
  · have e : manyE s m = sharesE s := by unfold manyE; rw [if_neg h]
    conv => whnf
    exact ⟨trivial, trivial, Q2 (Qi (by rw [e, if_neg h])) (Qi e.symm)⟩
  · conv => whnf
    refine br_dec (fun h2 => ?_) (fun h2 => ?_)
    · have e : manyE s m = 2 := by unfold manyE; rw [if_pos h, if_pos (.inl h2)]
      conv => whnf
      exact ⟨trivial, trivial, Q2 (Qi (by rw [e]; rfl)) (Qi e.symm)⟩
    · conv => whnf
      refine br_dec (fun h3 => ?_) (fun h3 => ?_)
      · have e : manyE s m = 2 := by unfold manyE; rw [if_pos h, if_pos (.inr h3)]
        conv => whnf
        exact ⟨trivial, trivial, Q2 (Qi (by rw [e]; rfl)) (Qi e.symm)⟩
      · have e : manyE s m = 0 := by unfold manyE; rw [if_pos h, if_neg (by omega)]
        conv => whnf
        exact ⟨trivial, trivial, Q2 (Qi (by rw [e, if_pos h]; rfl)) (Qi e.symm)⟩

/-- The greatest, of several the first one. -/
theorem pickG_max (f : Nat → Nat → Int) : ∀ k, 1 ≤ k → 0 ≤ pick allO (mostB f) k ∧ ∀ i, i < k → f i 1 ≤ f (pick allO (mostB f) k).toNat 1 ∧ (f i 1 = f (pick allO (mostB f) k).toNat 1 → pick allO (mostB f) k ≤ i) := by
  intro k hk
  induction k with
  | zero => omega
  | succ k ih =>
    by_cases hk0 : k = 0
    · subst hk0
      have e : pick allO (mostB f) 1 = (0 : Nat) := (pick_yes (k := 0) rfl (.inl (by show (-1 : Int) < 0; decide))).symm
      rw [e]
      refine ⟨by omega, fun i hi => ?_⟩
      obtain rfl : i = 0 := by omega
      exact ⟨Int.le_refl _, fun _ => by omega⟩
    · obtain ⟨h1, h2⟩ := ih (by omega)
      have hb := pick_bd allO (mostB f) k
      by_cases hc : mostB f k (pick allO (mostB f) k).toNat = true
      · have e := pick_yes (opn := allO) (bef := mostB f) (k := k) rfl (.inr hc)
        rw [← e]
        have hc : f k 1 > f (pick allO (mostB f) k).toNat 1 := of_decide_eq_true hc
        refine ⟨by omega, fun i hi => ?_⟩
        rw [Int.toNat_natCast]
        by_cases hik : i = k
        · subst hik; exact ⟨Int.le_refl _, fun _ => by omega⟩
        · have := (h2 i (by omega)).1
          exact ⟨by omega, fun h => by omega⟩
      · have e := pick_no (opn := allO) (bef := mostB f) (k := k) (by rintro ⟨_, h | h⟩; omega; exact hc h)
        rw [← e]
        have hc : ¬ f k 1 > f (pick allO (mostB f) k).toNat 1 := fun h => hc (decide_eq_true h)
        refine ⟨h1, fun i hi => ?_⟩
        by_cases hik : i = k
        · subst hik; exact ⟨by omega, fun h => by omega⟩
        · exact h2 i (by omega)

theorem pkG_bd {s : List Int} (hs : Shs s) (f : Nat → Nat → Int) : 0 ≤ pkG s f ∧ pkG s f < s.length :=
  ⟨(pickG_max f s.length hs.2.1).1, (pick_bd allO (mostB f) s.length).2⟩

def greedyR (s : List Int) (m : Int) : List Int := if manyE s m = 0 then calledL s (pkG s) m.toNat else []

theorem Greedy_pure (s : List Int) (m : Int) : APure Try.prog 23 [.ints false s, .int m] (fun R => R = tup2 (.ints true (greedyR s m)) (.int (manyE s m))) := by
  refine APure_of (X := cx 20) (cx_ok 20) rfl (rs := [(.tmp 4, 22), (.tmp 5, 27)]) Try.func23 (by decide) rfl rfl rfl (by simp [cx]) (by simp [NoFr]) ?_
  intro _
  conv => whnf
  refine APure.to (checkMany_pure s m) ?_
  conv => whnf
  refine br_ne (fun h => ?_) (fun h => ?_)
  · conv => whnf
    exact ⟨rfl, trivial, Q2 (Ql (by unfold greedyR; rw [if_neg h])) rfl⟩
  · obtain ⟨hs, _, h1, h2⟩ := manyE_ok h
    have hC := calledG_pure s hs m.toNat (by omega) (fun t _ => pkG_bd hs _)
    rw [show ((m.toNat : Nat) : Int) = m from by omega] at hC
    conv => whnf
    refine APure.to (APure.arg4 (Sub.refl _) (Sub.refl _) (sub_clo fun i hi => absurd hi (by omega)) (sub_clo fun i hi => absurd hi (by omega)) hC) ?_
    conv => whnf
    exact ⟨rfl, trivial, Q2 (Ql (by unfold greedyR; rw [if_pos h])) (Qi h.symm)⟩
end Go.Tri
