/-
  CONTRACT: the reference's Quota.
-/
import Derived.Test.YtjcjjakmggfmcaaB8
namespace Go.Tri
open Go.Proofs

theorem maxI_le {x y : Int} : x ≤ maxI x y ∧ y ≤ maxI x y := by unfold maxI; split <;> omega
theorem maxI_lt {x y T : Int} : maxI x y < T ↔ x < T ∧ y < T := by unfold maxI; split <;> omega
theorem max3_lt {m x T : Int} : max3 m x < T ↔ m < T ∧ -T < x ∧ x < T := by unfold max3; rw [maxI_lt, maxI_lt]; omega
theorem dvI_mono (s l : List Int) (t : Nat) (m : Int) (k : Nat) : ∀ j, dvI s l t m k ≤ dvI s l t m (k + j) := by
  intro j
  induction j with
  | zero => exact Int.le_refl _
  | succ j ih =>
    have h1 := (maxI_le (x := dvI s l t m (k + j)) (y := dvx s l t (k + j))).1
    have h2 := (maxI_le (x := maxI (dvI s l t m (k + j)) (dvx s l t (k + j))) (y := -dvx s l t (k + j))).1
    show dvI s l t m k ≤ maxI (maxI (dvI s l t m (k + j)) (dvx s l t (k + j))) (-dvx s l t (k + j))
    omega
theorem dv_mono (s l : List Int) (t : Nat) : ∀ j, dv s l t ≤ dv s l (t + j) := by
  intro j
  induction j with
  | zero => exact Int.le_refl _
  | succ j ih =>
    have h := dvI_mono s l (t + j + 1) (dv s l (t + j)) 0 s.length
    rw [Nat.zero_add] at h
    have h : dv s l (t + j) ≤ dv s l (t + j + 1) := h
    exact Int.le_trans ih h

/-- The two roundings. -/
theorem quota_iff {T a c : Int} (hT : 0 < T) (ha : 0 ≤ a) : (c = a.tdiv T ∨ c = (a + T - 1).tdiv T) ↔ (-T < c * T - a ∧ c * T - a < T) := by
  rw [Int.tdiv_eq_ediv_of_nonneg ha, Int.tdiv_eq_ediv_of_nonneg (by omega)]
  have h1 := Int.emod_add_mul_ediv a T
  have h2 := Int.emod_nonneg a (by omega : T ≠ 0)
  have h3 := Int.emod_lt_of_pos a hT
  generalize hq : a / T = q at *
  generalize hr : a % T = r at *
  have e : (a + T - 1) / T = q + if r = 0 then 0 else 1 := by
    have : a + T - 1 = (if r = 0 then T - 1 else r - 1) + T * (q + if r = 0 then 0 else 1) := by
      split
      · rw [Int.add_zero]; omega
      · rw [Int.mul_add, Int.mul_one]; omega
    rw [this, Int.add_mul_ediv_left _ _ (by omega : T ≠ 0)]
    have : (if r = 0 then T - 1 else r - 1) / T = 0 := Int.ediv_eq_zero_of_lt (by split <;> omega) (by split <;> omega)
    rw [this, Int.zero_add]
  rw [e]
  have hc : c * T - a = (c - q) * T - r := by rw [Int.sub_mul, Int.mul_comm q T]; omega
  rw [hc]
  constructor
  · intro h
    split at h
    · have : c - q = 0 := by omega
      rw [this]; omega
    · rcases h with h | h
      · have : c - q = 0 := by omega
        rw [this]; omega
      · have : c - q = 1 := by omega
        rw [this]; omega
  · rintro ⟨g1, g2⟩
    rcases Int.lt_trichotomy (c - q) 0 with g | g | g
    · have : (c - q) * T ≤ -1 * T := Int.mul_le_mul_of_nonneg_right (by omega) (by omega)
      omega
    · left; omega
    · have h4 : 1 * T ≤ (c - q) * T := Int.mul_le_mul_of_nonneg_right (by omega) (by omega)
      have hr0 : r ≠ 0 := by omega
      rw [if_neg hr0]
      by_cases h5 : c - q = 1
      · right; omega
      · have : 2 * T ≤ (c - q) * T := Int.mul_le_mul_of_nonneg_right (by omega) (by omega)
        omega

theorem refQuota_pure (s l : List Int) : APure Try.prog 21 [.ints false s, .ints false l] (fun R => R = tup2 (.bool (quo s l)) (.int (askedE s l))) := by
  refine APure_of (X := cx 76) (cx_ok 76) rfl (rs := [(.tmp 4, 4), (.tmp 5, 27)]) Try.func21 (by decide) rfl rfl rfl (by simp [cx]) (by simp [NoFr]) ?_
  intro _
  conv => whnf
  refine APure.to (asked_pure s l) ?_
  conv => whnf
  refine br_ne (fun h => ?_) (fun h => ?_)
  · conv => whnf
    exact ⟨trivial, trivial, Q2 (Qb (by unfold quo; rw [if_neg h])) rfl⟩
  · obtain ⟨hs, hl, hse⟩ := askedE_ok h
    have hsb := sumL_bd s hs.2.2
    have h8 := hs.1
    have h0 := hs.2.1
    have h400 := hl.1
    generalize hT : (if sharesE s = 0 then sumL s else 0) = T
    have hT : T = sumL s := by rw [← hT, if_pos hse]
    subst hT
    have hquo : quo s l = decide (dv s l l.length < sumL s) := by unfold quo; rw [if_pos h]
    conv => whnf
    repeat ((first | refine ⟨by omega, ?_⟩ | refine ⟨inr (by omega), ?_⟩ | refine eqn_self ?_ | refine ⟨ms (by omega), ?_⟩ | refine ⟨ms (by simp only [Src.n]; omega), ?_⟩ | refine ⟨msk (by omega), ?_⟩ | refine ⟨ms1, ?_⟩); conv => whnf)
    refine AW_loop (X := cx 76) (cx_ok 76) [0, 1, 6, 8, 9] (fun vs M => ∃ t : Nat, t ≤ l.length ∧ dv s l t < sumL s ∧ vs = [.ints false s, .ints false l, .int (sumL s), .sl 0 0 0 s.length, .int (t + 1)] ∧ M = [some ⟨3, 1, 0, .il (rw_ s.length (cnt l t))⟩])
      (fun vs _ => (l.length + 1) - (vs.getD 4 .any).toInt.toNat) ?_ ?_
    · refine ⟨0, Nat.zero_le _, ?_, rfl, ?_⟩
      · show (0 : Int) < sumL s; omega
      · exact congrArg (fun q => [some (⟨3, 1, 0, .il q⟩ : Ob)]) (rw_rep s.length (fun i _ => by simp [cnt]))
    · rintro vs M ⟨t, ht, hgood, rfl, rfl⟩
      conv => whnf
      refine br_dec (fun hlt => ?_) (fun hge => ?_)
      · have ht' : t < l.length := by omega
        have htt : ((t : Int) + 1 - 1).toNat = t := by omega
        obtain ⟨d, hd, hdn⟩ : ∃ d : Nat, l.getD t 0 = d ∧ d < s.length := by
          have := hl.2 _ (getD_mem' ht')
          exact ⟨(l.getD t 0).toNat, by omega, by omega⟩
        have hd1 : l.getD ((t : Int) + 1 - 1).toNat 0 = d := by rw [htt]; exact hd
        have hdd : 0 ≤ l.getD ((t : Int) + 1 - 1).toNat 0 ∧ l.getD ((t : Int) + 1 - 1).toNat 0 < s.length := by rw [hd1]; omega
        have hcb := cnt_bd l t d
        have hcc : (rw_ s.length (cnt l t)).getD (0 + (l.getD ((t : Int) + 1 - 1).toNat 0).toNat) 0 = cnt l t d := by rw [hd1, Int.toNat_natCast, Nat.zero_add, rw_get hdn]
        have hst : ((rw_ s.length (cnt l t)).set (0 + (l.getD ((t : Int) + 1 - 1).toNat 0).toNat) ((rw_ s.length (cnt l t)).getD (0 + (l.getD ((t : Int) + 1 - 1).toNat 0).toNat) 0 + 1)) = rw_ s.length (cnt l (t + 1)) := by
          rw [hcc, hd1, Int.toNat_natCast, Nat.zero_add]
          refine rw_set ?_ fun i hi hne => ?_
          · rw [cnt_succ l t ht', if_pos hd]
          · rw [cnt_succ l t ht', if_neg (by rw [hd]; omega)]; omega
        conv => whnf
        repeat ((first | refine ⟨by omega, ?_⟩ | refine ⟨inr (by omega), ?_⟩ | refine ⟨inr (by rw [hcc]; omega), ?_⟩); conv => whnf)
        refine AW_loop (X := cx 76) (cx_ok 76) [0, 1, 6, 8, 9, 10] (fun vs M => ∃ k : Nat, k ≤ s.length ∧ dvI s l (t + 1) (dv s l t) k < sumL s ∧ vs = [.ints false s, .ints false l, .int (sumL s), .sl 0 0 0 s.length, .int (t + 1), .int k] ∧ M = [some ⟨3, 1, 0, .il (rw_ s.length (cnt l (t + 1)))⟩])
          (fun vs _ => s.length - (vs.getD 5 .any).toInt.toNat) ?_ ?_
        · refine ⟨0, Nat.zero_le _, hgood, rfl, ?_⟩
          exact congrArg (fun q => [some (⟨3, 1, 0, .il q⟩ : Ob)]) hst
        · rintro vs M ⟨k, hk, hgk, rfl, rfl⟩
          conv => whnf
          refine br_dec (fun hlt => ?_) (fun hge => ?_)
          · have hk' : k < s.length := by omega
            have hsk' : 1 ≤ s.getD (k : Int).toNat 0 ∧ s.getD (k : Int).toNat 0 ≤ 20 := hs.2.2 _ (getD_mem' hk')
            have hck : (rw_ s.length (cnt l (t + 1))).getD (0 + (k : Int).toNat) 0 = cnt l (t + 1) k := by rw [Int.toNat_natCast, Nat.zero_add, rw_get hk']
            have e3 : 0 ≤ ((t : Int) + 1) * s.getD (k : Int).toNat 0 := Int.mul_nonneg (by omega) (by omega)
            have e4 : ((t : Int) + 1) * s.getD (k : Int).toNat 0 ≤ 401 * 20 := Int.mul_le_mul (by omega) hsk'.2 (by omega) (by omega)
            have hxx : cnt l (t + 1) k * sumL s - ((t : Int) + 1) * s.getD (k : Int).toNat 0 = dvx s l (t + 1) k := rfl
            have hq := quota_iff (T := sumL s) (a := ((t : Int) + 1) * s.getD (k : Int).toNat 0) (c := cnt l (t + 1) k) (by omega) e3
            rw [hxx] at hq
            have d1 : 0 ≤ (((t : Int) + 1) * s.getD (k : Int).toNat 0).tdiv (sumL s) := Int.tdiv_nonneg e3 (by omega)
            have d2 : (((t : Int) + 1) * s.getD (k : Int).toNat 0).tdiv (sumL s) ≤ ((t : Int) + 1) * s.getD (k : Int).toNat 0 := by rw [Int.tdiv_eq_ediv_of_nonneg e3]; exact Int.ediv_le_self _ e3
            have d3 : 0 ≤ (((t : Int) + 1) * s.getD (k : Int).toNat 0 + sumL s - 1).tdiv (sumL s) := Int.tdiv_nonneg (by omega) (by omega)
            have d4 : (((t : Int) + 1) * s.getD (k : Int).toNat 0 + sumL s - 1).tdiv (sumL s) ≤ ((t : Int) + 1) * s.getD (k : Int).toNat 0 + sumL s - 1 := by rw [Int.tdiv_eq_ediv_of_nonneg (by omega)]; exact Int.ediv_le_self _ (by omega)
            have next : cnt l (t + 1) k = (((t : Int) + 1) * s.getD (k : Int).toNat 0).tdiv (sumL s) ∨ cnt l (t + 1) k = (((t : Int) + 1) * s.getD (k : Int).toNat 0 + sumL s - 1).tdiv (sumL s) → dvI s l (t + 1) (dv s l t) (k + 1) < sumL s := fun h => max3_lt.2 ⟨hgk, hq.1 h⟩
            conv => whnf
            refine AW_draw (X := cx 76) (cx_ok 76) mixed (by kernel_rfl) ?_
            conv => whnf
            repeat ((first | refine ⟨by omega, ?_⟩ | refine ⟨inr (by omega), ?_⟩); conv => whnf)
            refine br_ne (fun hne1 => ?_) (fun heq1 => ?_)
            · rw [hck] at hne1
              conv => whnf
              repeat ((first | refine ⟨by omega, ?_⟩ | refine ⟨inr (by omega), ?_⟩); conv => whnf)
              refine br_ne (fun hne2 => ?_) (fun heq2 => ?_)
              · rw [hck] at hne2
                have hbad : ¬ dv s l l.length < sumL s := by
                  intro hall
                  have g1 := dv_mono s l (t + 1) (l.length - (t + 1))
                  rw [show t + 1 + (l.length - (t + 1)) = l.length from by omega] at g1
                  have g2 := dvI_mono s l (t + 1) (dv s l t) (k + 1) (s.length - (k + 1))
                  rw [show k + 1 + (s.length - (k + 1)) = s.length from by omega] at g2
                  have g3 : dvI s l (t + 1) (dv s l t) (k + 1) < sumL s := by
                    have : dvI s l (t + 1) (dv s l t) s.length = dv s l (t + 1) := rfl
                    omega
                  rcases hq.2 (max3_lt.1 g3).2 with h | h
                  · exact hne1 h
                  · exact hne2 h
                conv => whnf
                exact ⟨trivial, trivial, Q2 (Qb (by rw [hquo]; simp [hbad])) (Qi h.symm)⟩
              · rw [hck] at heq2
                conv => whnf
                repeat ((first | refine ⟨by omega, ?_⟩ | refine ⟨inr (by omega), ?_⟩ | refine eqn_self ?_ | refine ⟨ms (by omega), ?_⟩ | refine ⟨ms (by simp only [Src.n]; omega), ?_⟩ | refine ⟨msk (by omega), ?_⟩ | refine ⟨ms1, ?_⟩); conv => whnf)
                refine ⟨⟨k + 1, by omega, next (.inr heq2), rfl, rfl⟩, ?_⟩
                simp [V.toInt, sel, Env.get]; omega
            · rw [hck] at heq1
              conv => whnf
              repeat ((first | refine ⟨by omega, ?_⟩ | refine ⟨inr (by omega), ?_⟩ | refine eqn_self ?_ | refine ⟨ms (by omega), ?_⟩ | refine ⟨ms (by simp only [Src.n]; omega), ?_⟩ | refine ⟨msk (by omega), ?_⟩ | refine ⟨ms1, ?_⟩); conv => whnf)
              refine ⟨⟨k + 1, by omega, next (.inl heq1), rfl, rfl⟩, ?_⟩
              simp [V.toInt, sel, Env.get]; omega
          · conv => whnf
            have : k = s.length := by omega
            subst this
            repeat ((first | refine ⟨by omega, ?_⟩ | refine ⟨inr (by omega), ?_⟩ | refine eqn_self ?_ | refine ⟨ms (by omega), ?_⟩ | refine ⟨ms (by simp only [Src.n]; omega), ?_⟩ | refine ⟨msk (by omega), ?_⟩ | refine ⟨ms1, ?_⟩); conv => whnf)
            refine ⟨⟨t + 1, by omega, hgk, rfl, rfl⟩, ?_⟩
            simp [V.toInt, sel, Env.get]; omega
      · conv => whnf
        have : t = l.length := by omega
        subst this
        exact ⟨trivial, trivial, Q2 (Qb (by rw [hquo]; simp [hgood])) (Qi h.symm)⟩
end Go.Tri
