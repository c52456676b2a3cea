/-
  CONTRACTS: the greatest value; amounts; the reference's checks.
-/
import Derived.Test.YtnjojmjcjhcnaaaB1
namespace Go.Tri
open Go.Proofs

/-- The last value. -/
def lastV (v : List Int) : Int := v.getD (v.length - 1) 0
theorem Asc.lt {v : List Int} {n : Nat} (h : Asc v n) : ∀ {i j : Nat}, i < j → j < n → v.getD i 0 < v.getD j 0 := by
  intro i j hij hj
  induction j with
  | zero => omega
  | succ j ih =>
    have h1 := (h (j + 1) hj).2.2 (by omega)
    simp only [Nat.add_sub_cancel] at h1
    rcases (by omega : i = j ∨ i < j) with rfl | h2
    · exact h1
    · have := ih h2 (by omega); omega
theorem foldl_maxI {v : List Int} (h : ∀ i j, i < j → j < v.length → v.getD i 0 < v.getD j 0) : ∀ k, 1 ≤ k → k ≤ v.length → ((v.take k).drop 1).foldl maxI (v.getD 0 0) = v.getD (k - 1) 0 := by
  intro k hk1 hk
  induction k with
  | zero => omega
  | succ k ih =>
    rcases (by omega : k = 0 ∨ 1 ≤ k) with rfl | h1
    · rw [show ((v.take (0 + 1)).drop 1) = [] from by simp]; rfl
    · rw [take_succ_getD _ _ (by omega), List.drop_append_of_le_length (by rw [List.length_take]; omega), List.foldl_append, ih h1 (by omega)]
      have := h (k - 1) k (by omega) (by omega)
      simp only [List.foldl_cons, List.foldl_nil, maxI, Nat.add_sub_cancel]
      rw [if_pos (by omega)]
theorem max_last {v : List Int} (hv : Vals v) : (v.drop 1).foldl maxI (v.getD 0 0) = lastV v := by
  have := foldl_maxI (fun i j => hv.2.2.lt (i := i) (j := j)) v.length hv.1 (Nat.le_refl _)
  rw [List.take_length] at this
  exact this
theorem Vals.at {v : List Int} (hv : Vals v) {i : Nat} (hi : i < v.length) : 1 ≤ v.getD i 0 ∧ v.getD i 0 ≤ 200 := ⟨(hv.2.2 i hi).1, (hv.2.2 i hi).2.1⟩
theorem Vals.last {v : List Int} (hv : Vals v) : 1 ≤ lastV v ∧ lastV v ≤ 200 := hv.at (by have := hv.1; omega)
theorem MaxV_pure (v : List Int) (hv : Vals v) : APure Try.prog 47 [.ints false v] (fun R => R = .int (lastV v)) := by
  rw [← max_last hv]; exact Max_pure v hv.1
theorem mul_bd {h l : Int} (hh : 1 ≤ h ∧ h ≤ 6) (hl : 1 ≤ l ∧ l ≤ 200) : 1 ≤ h * l ∧ h * l ≤ 1200 := by
  have e1 : 1 * 1 ≤ h * l := Int.mul_le_mul hh.1 hl.1 (by omega) (by omega)
  have e2 : h * l ≤ 6 * 200 := Int.mul_le_mul hh.2 hl.2 (by omega) (by omega)
  omega

/-- The error of an amount. -/
noncomputable def amtE (h : Int) (v : List Int) (a : Int) : Int := if tickE h v = 0 then (if 0 ≤ a ∧ a ≤ h * lastV v then 0 else 4) else tickE h v
theorem amtE_inv {h a : Int} {v : List Int} (e : amtE h v a = 0) : (1 ≤ h ∧ h ≤ 6) ∧ Vals v ∧ 0 ≤ a ∧ a ≤ h * lastV v := by
  unfold amtE at e
  split at e
  · next h1 =>
    obtain ⟨h2, h3⟩ := tickE_inv h1
    split at e
    · next h4 => exact ⟨h2, h3, h4⟩
    · omega
  · next h1 => exact absurd e h1

theorem checkAmount_pure (h : Int) (v : List Int) (a : Int) : APure Try.prog 40 [.int h, .ints false v, .int a] (fun R => R = .int (amtE h v a)) := by
  refine APure_of (X := cx 24) (cx_ok 24) rfl (rs := [(.tmp 6, 24)]) Try.func40 (by decide) rfl rfl rfl (by simp [cx]) (by simp [NoFr]) ?_
  intro _
  conv => whnf
  refine APure.to (checkTicket_pure h v) ?_
  conv => whnf
  refine br_ne (fun h0 => ?_) (fun h0 => ?_)
  · conv => whnf
    exact ⟨trivial, Qi (by unfold amtE; rw [if_neg h0])⟩
  obtain ⟨hh, hv⟩ := tickE_inv h0
  have hb := mul_bd hh hv.last
  conv => whnf
  refine br_dec (fun h1 => ?_) (fun h1 => ?_)
  · conv => whnf
    exact ⟨trivial, Qi (by unfold amtE; rw [if_pos h0, if_neg (by omega)])⟩
  conv => whnf
  refine APure.to (MaxV_pure v hv) ?_
  conv => whnf
  repeat ((first | refine ⟨by omega, ?_⟩ | refine ⟨inr (by omega), ?_⟩ | refine eqn_self ?_ | refine ⟨ms (by omega), ?_⟩ | refine ⟨ms (by simp only [Src.n]; omega), ?_⟩ | refine ⟨msk (by omega), ?_⟩ | refine ⟨ms1, ?_⟩); conv => whnf)
  refine br_dec (fun h2 => ?_) (fun h2 => ?_)
  · conv => whnf
    exact ⟨trivial, Qi (by unfold amtE; rw [if_pos h0, if_neg (by omega)])⟩
  · conv => whnf
    exact ⟨trivial, Qi (by unfold amtE; rw [if_pos h0, if_pos (by omega)])⟩

theorem refValues_pure (v : List Int) : APure Try.prog 62 [.ints false v] (fun R => R = .int (valsE v)) := by
  refine APure_of (X := cx 44) (cx_ok 44) rfl (rs := [(.tmp 2, 24)]) Try.func62 (by decide) rfl rfl rfl (by simp [cx]) (by simp [NoFr]) ?_
  intro hlen
  have hla := LenI hlen
  conv => whnf
  refine br_dec (fun h => ?_) (fun h => ?_)
  · conv => whnf
    exact ⟨trivial, Qi (by unfold valsE; rw [if_pos (by omega)])⟩
  have h6 : ¬ v.length > 6 := by omega
  conv => whnf
  refine br_eq (fun h0 => ?_) (fun h0 => ?_)
  · conv => whnf
    exact ⟨trivial, Qi (valsE_bad h6 fun hv => by have := hv.1; omega).symm⟩
  conv => whnf
  refine AW_loop (X := cx 44) (cx_ok 44) [0, 3] (fun vs M => ∃ k : Nat, k ≤ v.length ∧ Asc v k ∧ vs = [.ints false v, .int k] ∧ M = []) (fun vs _ => v.length - (vs.getD 1 .any).toInt.toNat) ?_ ?_
  · exact ⟨0, Nat.zero_le _, fun j hj => absurd hj (by omega), rfl, rfl⟩
  rintro vs M ⟨k, hk, hasc, rfl, rfl⟩
  conv => whnf
  refine br_dec (fun hlt => ?_) (fun hge => ?_)
  · have hk' : k < v.length := by omega
    have bad : ¬ (1 ≤ v.getD k 0 ∧ v.getD k 0 ≤ 200 ∧ (0 < k → v.getD (k - 1) 0 < v.getD k 0)) → V.int 2 = V.int (valsE v) := fun hb => Qi (valsE_bad h6 fun hv => hb (hv.2.2 k hk')).symm
    have good : (1 ≤ v.getD k 0 ∧ v.getD k 0 ≤ 200 ∧ (0 < k → v.getD (k - 1) 0 < v.getD k 0)) → Asc v (k + 1) := fun hg => hasc.succ hg.1 hg.2.1 hg.2.2
    conv => whnf
    refine AW_draw (X := cx 44) (cx_ok 44) mixed (by kernel_rfl) ?_
    conv => whnf
    repeat ((first | refine ⟨by omega, ?_⟩ | refine ⟨inr (by omega), ?_⟩ | refine eqn_self ?_ | refine ⟨ms (by omega), ?_⟩ | refine ⟨ms (by simp only [Src.n]; omega), ?_⟩ | refine ⟨msk (by omega), ?_⟩ | refine ⟨ms1, ?_⟩); conv => whnf)
    refine br_dec (fun h1 => ?_) (fun h1 => ?_)
    · simp only [Int.toNat_natCast] at h1
      conv => whnf
      refine ⟨trivial, bad fun hb => by omega⟩
    simp only [Int.toNat_natCast] at h1
    conv => whnf
    repeat ((first | refine ⟨by omega, ?_⟩ | refine ⟨inr (by omega), ?_⟩ | refine eqn_self ?_ | refine ⟨ms (by omega), ?_⟩ | refine ⟨ms (by simp only [Src.n]; omega), ?_⟩ | refine ⟨msk (by omega), ?_⟩ | refine ⟨ms1, ?_⟩); conv => whnf)
    refine br_dec (fun h2 => ?_) (fun h2 => ?_)
    · simp only [Int.toNat_natCast] at h2
      conv => whnf
      refine ⟨trivial, bad fun hb => by omega⟩
    simp only [Int.toNat_natCast] at h2
    conv => whnf
    refine br_dec (fun h3 => ?_) (fun h3 => ?_)
    · conv => whnf
      repeat ((first | refine ⟨by omega, ?_⟩ | refine ⟨inr (by omega), ?_⟩ | refine eqn_self ?_ | refine ⟨ms (by omega), ?_⟩ | refine ⟨ms (by simp only [Src.n]; omega), ?_⟩ | refine ⟨msk (by omega), ?_⟩ | refine ⟨ms1, ?_⟩); conv => whnf)
      have e1 : ((k : Int) - 1).toNat = k - 1 := by omega
      refine br_dec (fun h4 => ?_) (fun h4 => ?_)
      · simp only [Int.toNat_natCast, e1] at h4
        conv => whnf
        exact ⟨trivial, bad fun hb => by have := hb.2.2 (by omega); omega⟩
      · simp only [Int.toNat_natCast, e1] at h4
        conv => whnf
        repeat ((first | refine ⟨by omega, ?_⟩ | refine ⟨inr (by omega), ?_⟩ | refine eqn_self ?_ | refine ⟨ms (by omega), ?_⟩ | refine ⟨ms (by simp only [Src.n]; omega), ?_⟩ | refine ⟨msk (by omega), ?_⟩ | refine ⟨ms1, ?_⟩); conv => whnf)
        refine ⟨⟨k + 1, by omega, good ⟨by omega, by omega, fun _ => by omega⟩, rfl, rfl⟩, ?_⟩
        simp [V.toInt, sel, Env.get]; omega
    · conv => whnf
      repeat ((first | refine ⟨by omega, ?_⟩ | refine ⟨inr (by omega), ?_⟩ | refine eqn_self ?_ | refine ⟨ms (by omega), ?_⟩ | refine ⟨ms (by simp only [Src.n]; omega), ?_⟩ | refine ⟨msk (by omega), ?_⟩ | refine ⟨ms1, ?_⟩); conv => whnf)
      refine ⟨⟨k + 1, by omega, good ⟨by omega, by omega, fun _ => by omega⟩, rfl, rfl⟩, ?_⟩
      simp [V.toInt, sel, Env.get]; omega
  · conv => whnf
    refine ⟨trivial, Qi (valsE_ok ⟨by omega, by omega, ?_⟩).symm⟩
    rw [show v.length = k from by omega]; exact hasc

theorem refTicket_pure (h : Int) (v : List Int) : APure Try.prog 36 [.int h, .ints false v] (fun R => R = .int (tickE h v)) := by
  refine APure_of (X := cx 13) (cx_ok 13) rfl (rs := [(.tmp 4, 24)]) Try.func36 (by decide) rfl rfl rfl (by simp [cx]) (by simp [NoFr]) ?_
  intro _
  conv => whnf
  refine br_dec (fun h1 => ?_) (fun h1 => ?_)
  · conv => whnf
    exact ⟨trivial, Qi (by unfold tickE; rw [if_neg (by omega)])⟩
  · conv => whnf
    refine br_dec (fun h2 => ?_) (fun h2 => ?_)
    · conv => whnf
      exact ⟨trivial, Qi (by unfold tickE; rw [if_neg (by omega)])⟩
    · conv => whnf
      refine APure.to (refValues_pure v) ?_
      conv => whnf
      exact ⟨trivial, Qi (by unfold tickE; rw [if_pos (by omega)])⟩

theorem refAsked_pure (h : Int) (v : List Int) (a : Int) : APure Try.prog 43 [.int h, .ints false v, .int a] (fun R => R = .int (amtE h v a)) := by
  refine APure_of (X := cx 30) (cx_ok 30) rfl (rs := [(.tmp 6, 24)]) Try.func43 (by decide) rfl rfl rfl (by simp [cx]) (by simp [NoFr]) ?_
  intro hlen
  conv => whnf
  refine APure.to (refTicket_pure h v) ?_
  conv => whnf
  refine br_eq (fun h0 => ?_) (fun h0 => ?_)
  · obtain ⟨hh, hv⟩ := tickE_inv h0
    have hb := mul_bd hh hv.last
    have h1l := hv.1
    have h6l := hv.2.1
    have hl : v.getD ((v.length : Int) - 1).toNat 0 = lastV v := by unfold lastV; congr 1; omega
    conv => whnf
    refine br_dec (fun h1 => ?_) (fun h1 => ?_)
    · conv => whnf
      exact ⟨trivial, Qi (by unfold amtE; rw [if_pos h0, if_neg (by omega)])⟩
    · conv => whnf
      repeat ((first | refine ⟨by omega, ?_⟩ | refine ⟨inr (by omega), ?_⟩ | refine eqn_self ?_ | refine ⟨inr (by rw [hl]; omega), ?_⟩ | refine ⟨ms (by omega), ?_⟩ | refine ⟨ms (by simp only [Src.n]; omega), ?_⟩ | refine ⟨msk (by omega), ?_⟩ | refine ⟨ms1, ?_⟩); conv => whnf)
      refine br_dec (fun h2 => ?_) (fun h2 => ?_)
      · rw [hl] at h2
        conv => whnf
        exact ⟨trivial, Qi (by unfold amtE; rw [if_pos h0, if_neg (by omega)])⟩
      · rw [hl] at h2
        conv => whnf
        exact ⟨trivial, Qi (by unfold amtE; rw [if_pos h0, if_pos (by omega)]; exact h0)⟩
  · conv => whnf
    exact ⟨trivial, Qi (by unfold amtE; rw [if_neg h0])⟩
end Go.Tri
