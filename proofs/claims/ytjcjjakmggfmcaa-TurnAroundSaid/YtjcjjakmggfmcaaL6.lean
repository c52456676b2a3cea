/-
  LAW: TurnTijdeman.
-/
import Derived.Test.YtjcjjakmggfmcaaM2
import Derived.Test.YtjcjjakmggfmcaaD1
namespace Go.Tri
open Go.Proofs

theorem dv_mul {s l : List Int} {t : Nat} {S B : Int} (hS : 0 < S) (hB : 0 ≤ B) (h : ∀ u, 1 ≤ u → u ≤ t → ∀ i, i < s.length → -(dvx s l u i) * S ≤ B ∧ dvx s l u i * S ≤ B) : dv s l t * S ≤ B := by
  have h1 := (dv_le (s := s) (l := l) (B := B / S) t).2 ⟨Int.ediv_nonneg hB (by omega), fun u hu hu2 i hi => by
    obtain ⟨g1, g2⟩ := h u hu hu2 i hi
    have k1 := (Int.le_ediv_iff_mul_le hS).2 g1
    have k2 := (Int.le_ediv_iff_mul_le hS).2 g2
    omega⟩
  exact (Int.le_ediv_iff_mul_le hS).1 h1

theorem sumL_1 {s : List Int} (h : s.length = 1) : sumL s = s.getD 0 0 := by
  obtain ⟨x, rfl⟩ := List.length_eq_one_iff.1 h
  simp [sumL]

theorem fair_days {s : List Int} (hs : Shs s) {m : Nat} (hm : m ≤ 400) : Dys (fairL s m) s.length := by
  refine ⟨by rw [fairL_len]; exact hm, fun x hx => ?_⟩
  unfold fairL at hx
  have h0 := hs.2.1
  split at hx
  · rw [List.eq_of_mem_replicate hx]; omega
  · obtain ⟨i, hi, rfl⟩ := mem_getD hx
    rw [calledL_len] at hi
    exact lin (m := m) hs (by omega) rfl hi

theorem fair_dv {s : List Int} (hs : Shs s) (m : Nat) : (s.length = 1 → dv s (fairL s m) m = 0) ∧ (2 ≤ s.length → dv s (fairL s m) m * (2 * (s.length : Int) - 2) ≤ (2 * (s.length : Int) - 3) * sumL s) := by
  have hsb := sumL_bd s hs.2.2
  have h0 := hs.2.1
  constructor
  · intro h1
    have h := (dv_le (s := s) (l := fairL s m) (B := 0) m).2 ⟨by omega, fun u hu hu2 i hi => by
      obtain rfl : i = 0 := by omega
      have hc : cnt (fairL s m) u 0 = u := by
        unfold fairL cnt
        rw [if_pos h1, List.take_replicate, List.filter_replicate]
        simp
        omega
      unfold dvx
      rw [hc, sumL_1 h1]
      omega⟩
    have h2 := (dv_lt (s := s) (l := fairL s m) (B := dv s (fairL s m) m + 1) m).1 (by omega)
    omega
  · intro h1
    have hl : fairL s m = calledL s (pkF s) m := by unfold fairL; rw [if_neg (by omega)]
    have h := dv_mul (s := s) (l := fairL s m) (t := m) (S := SL s) (B := sumL s * (SL s - 1)) (by unfold SL; omega) (Int.mul_nonneg (by omega) (by unfold SL; omega)) fun u hu hu2 i hi => by
      have e : dvx s (fairL s m) u i = -ow s (fairL s m) u u i := by rw [ow_dvx]; omega
      rw [e, Int.neg_neg]
      exact ⟨fair_hi hs h1 hl hu2 hi, fair_lo hs h1 hl i u hu2⟩
    have e : sumL s * (SL s - 1) = (2 * (s.length : Int) - 3) * sumL s := by rw [Int.mul_comm]; congr 1; unfold SL; omega
    rw [← e]
    exact h

theorem TurnTijdeman_pure (s : List Int) (m : Int) (hm : 0 ≤ m ∧ m ≤ 65535) : APure Try.prog 8 [.ints false s, .lit (.int .u16 m)] (fun R => R = .bool true) := by
  refine APure_of (X := cx 96) (cx_ok 96) rfl (rs := [(.tmp 4, 4)]) Try.func8 (by decide) rfl rfl rfl (by simp [cx]) (by simp [NoFr]) ?_
  intro hlen
  conv => whnf
  refine APure.to (Shares_pure s) ?_
  conv => whnf
  refine br_dec (fun h30 => ?_) (fun h30 => ?_)
  · conv => whnf
    refine APure.to alive_pure ?_
    conv => whnf
    exact ⟨trivial, rfl⟩
  conv => whnf
  refine br_ne (fun hv => ?_) (fun hv => ?_)
  · conv => whnf
    refine APure.to alive_pure ?_
    conv => whnf
    exact ⟨trivial, rfl⟩
  have hs := sharesE_ok hv
  have hsb := sumL_bd s hs.2.2
  have h8 := hs.1
  have h0 := hs.2.1
  have hk : 0 ≤ m.tmod 401 ∧ m.tmod 401 ≤ 400 := by rw [Int.tmod_eq_emod_of_nonneg hm.1]; omega
  have hmE := manyE_of hv hk.1 hk.2
  have hF := Fair_pure s (m.tmod 401)
  rw [hmE] at hF
  have hL : fairR s (m.tmod 401) = fairL s (m.tmod 401).toNat := by unfold fairR; rw [if_pos hmE]
  rw [hL] at hF
  have hd := fair_days hs (m := (m.tmod 401).toNat) (by omega)
  obtain ⟨hv1, hv2⟩ := fair_dv hs (m.tmod 401).toNat
  have hll := fairL_len s (m.tmod 401).toNat
  have hE := askedE_of hs hd
  generalize hLL : fairL s (m.tmod 401).toNat = L at *
  have hD := Deviation_pure s L
  have hQ := Quota_pure s L
  rw [hE] at hD hQ
  have hdb := dv_bd (l := L) hs L.length hd.1
  rw [← hll] at hv1 hv2
  have hquo : quo s L = true := by
    unfold quo
    rw [if_pos hE]
    refine decide_eq_true ?_
    by_cases h1 : s.length = 1
    · rw [hv1 h1]; omega
    · have := hv2 (by omega)
      have k : dv s L L.length * (2 * (s.length : Int) - 2) < sumL s * (2 * (s.length : Int) - 2) := by
        have : sumL s * (2 * (s.length : Int) - 2) = (2 * (s.length : Int) - 3) * sumL s + sumL s := by grind
        omega
      exact Int.lt_of_mul_lt_mul_right k (by omega)
  rw [hquo] at hQ
  have r1 : smallB (rat1 s L) (rat2 s L) = true := by unfold rat1 rat2; rw [if_pos hE, if_pos hE]; exact low_small (by omega) (by omega) (by omega)
  have r0 : s.length = 1 → rat1 s L = 0 := by intro h1; unfold rat1; rw [if_pos hE, hv1 h1]; simp
  have r2 : 2 ≤ s.length → rat1 s L * (2 * (s.length : Int) - 2) ≤ (2 * (s.length : Int) - 3) * rat2 s L := by
    intro h1
    unfold rat1 rat2
    rw [if_pos hE, if_pos hE, low_le (by omega)]
    have := hv2 h1
    rw [show ((dv s L L.length).toNat : Int) = dv s L L.length by omega, show ((sumL s).toNat : Int) = sumL s by omega]
    exact this
  generalize rat1 s L = x1 at *
  generalize rat2 s L = x2 at *
  have g1 : 0 ≤ x1 ∧ 1 ≤ x2 ∧ x1 < 1073741824 ∧ x2 < 1073741824 := by unfold smallB at r1; simp at r1; omega
  conv => whnf
  repeat ((first | refine ⟨by omega, ?_⟩ | refine ⟨inr (by omega), ?_⟩ | refine eqn_self ?_ | refine ⟨ms (by omega), ?_⟩ | refine ⟨ms (by simp only [Src.n]; omega), ?_⟩ | refine ⟨msk (by omega), ?_⟩ | refine ⟨ms1, ?_⟩); conv => whnf)
  refine APure.to hF ?_
  conv => whnf
  refine APure.to hD ?_
  conv => whnf
  refine APure.to hQ ?_
  conv => whnf
  refine APure.to (APure.arg1 (agg2_alike rfl rfl) (small_pure x1 x2)) ?_
  conv => whnf
  refine br_not (br_mk (fun h5 => ?_) (fun h5 => ?_))
  · conv => whnf
    repeat ((first | refine ⟨by omega, ?_⟩ | refine ⟨inr (by omega), ?_⟩ | refine eqn_self ?_ | refine ⟨ms (by omega), ?_⟩ | refine ⟨ms (by simp only [Src.n]; omega), ?_⟩ | refine ⟨msk (by omega), ?_⟩ | refine ⟨ms1, ?_⟩); conv => whnf)
    refine br_ne (fun hne => absurd (by rw [hll]; omega) hne) (fun hne => ?_)
    conv => whnf
    refine br_eq (fun h1 => ?_) (fun h1 => ?_)
    · conv => whnf
      refine br_eq (fun h2 => ?_) (fun h2 => absurd (r0 (by omega)) h2)
      conv => whnf
      refine APure.to alive_pure ?_
      conv => whnf
      exact ⟨trivial, rfl⟩
    · conv => whnf
      repeat ((first | refine ⟨by omega, ?_⟩ | refine ⟨inr (by omega), ?_⟩ | refine eqn_self ?_ | refine ⟨ms (by omega), ?_⟩ | refine ⟨ms (by simp only [Src.n]; omega), ?_⟩ | refine ⟨msk (by omega), ?_⟩ | refine ⟨ms1, ?_⟩); conv => whnf)
      refine APure.to (APure.arg2 (agg2_alike rfl rfl) (agg2_alike rfl rfl) (atMost_pure x1 x2 (2 * (s.length : Int) - 3) (2 * (s.length : Int) - 2) (by omega) (by omega) (by omega) (by omega))) ?_
      conv => whnf
      refine br_dec (fun h7 => ?_) (fun h7 => absurd (r2 (by omega)) h7)
      conv => whnf
      refine APure.to alive_pure ?_
      conv => whnf
      exact ⟨trivial, rfl⟩
  · rw [r1] at h5; cases h5
end Go.Tri
