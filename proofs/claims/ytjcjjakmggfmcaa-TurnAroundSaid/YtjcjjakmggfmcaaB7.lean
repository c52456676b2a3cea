/-
  CONTRACTS: the program's furthest.
-/
import Derived.Test.YtjcjjakmggfmcaaB6
namespace Go.Tri
open Go.Proofs

/-- What is owed after t days of calls and u days of shares. -/
def ow (s l : List Int) (t u i : Nat) : Int := u * s.getD i 0 - cnt l t i * sumL s
theorem ow_dvx (s l : List Int) (t i : Nat) : ow s l t t i = -dvx s l t i := by unfold ow dvx; omega
def owK (s l : List Int) (t k i : Nat) : Int := if i < k then ow s l (t + 1) (t + 1) i else ow s l (t + 1) t i

theorem ow_bd {s l : List Int} (hs : Shs s) {t u : Nat} (ht : t ≤ 401) (hu : u ≤ 401) (i : Nat) : -100000 ≤ ow s l t u i ∧ ow s l t u i ≤ 100000 := by
  have hb := sumL_bd s hs.2.2
  have hc := cnt_bd l t i
  have h8 := hs.1
  have hsi : 0 ≤ s.getD i 0 ∧ s.getD i 0 ≤ 20 := by
    by_cases hi : i < s.length
    · have := hs.2.2 _ (getD_mem' hi); omega
    · simp [List.getD, List.getElem?_eq_none (Nat.le_of_not_lt hi)]
  have e1 : 0 ≤ cnt l t i * sumL s := Int.mul_nonneg hc.1 (by omega)
  have e2 : cnt l t i * sumL s ≤ 401 * 160 := Int.mul_le_mul (by omega) (by omega) (by omega) (by omega)
  have e3 : 0 ≤ (u : Int) * s.getD i 0 := Int.mul_nonneg (by omega) hsi.1
  have e4 : (u : Int) * s.getD i 0 ≤ 401 * 20 := Int.mul_le_mul (by omega) hsi.2 hsi.1 (by omega)
  unfold ow
  omega

theorem furthest_pure (s l : List Int) (hs : Shs s) (hl : Dys l s.length) : APure Try.prog 45 [.ints false s, .ints false l] (fun R => R = .int (dv s l l.length)) := by
  have hsb := sumL_bd s hs.2.2
  have h8 := hs.1
  have h400 := hl.1
  refine APure_of (X := cx 58) (cx_ok 58) rfl (rs := [(.tmp 4, 3)]) Try.func45 (by decide) rfl rfl rfl (by simp [cx]) (by simp [NoFr]) ?_
  intro _
  conv => whnf
  refine APure.to (sum_pure s hs) ?_
  conv => whnf
  repeat ((first | refine ⟨by omega, ?_⟩ | refine ⟨inr (by omega), ?_⟩ | refine eqn_self ?_ | refine ⟨ms (by omega), ?_⟩ | refine ⟨ms (by simp only [Src.n]; omega), ?_⟩ | refine ⟨msk (by omega), ?_⟩ | refine ⟨ms1, ?_⟩); conv => whnf)
  refine AW_loop (X := cx 58) (cx_ok 58) [0, 1, 5, 6, 7, 17, 18, 19] (fun vs M => ∃ t : Nat, t ≤ l.length ∧ vs = [.ints false s, .ints false l, .int (sumL s), .int (dv s l t), .sl 0 0 0 s.length, .ints false l, .int l.length, .int t] ∧ M = [some ⟨3, 1, 0, .il (rw_ s.length (ow s l t t))⟩])
    (fun vs _ => l.length - (vs.getD 7 .any).toInt.toNat) ?_ ?_
  · refine ⟨0, Nat.zero_le _, rfl, ?_⟩
    exact congrArg (fun q => [some (⟨3, 1, 0, .il q⟩ : Ob)]) (rw_rep s.length (fun i _ => by simp [ow, cnt]))
  · rintro vs M ⟨t, ht, rfl, rfl⟩
    have hdv := dv_bd (l := l) hs t (by omega)
    conv => whnf
    refine br_dec (fun hlt => ?_) (fun hge => ?_)
    · have ht' : t < l.length := by omega
      obtain ⟨d, hd, hdn⟩ : ∃ d : Nat, l.getD t 0 = d ∧ d < s.length := by
        have := hl.2 _ (getD_mem' ht')
        exact ⟨(l.getD t 0).toNat, by omega, by omega⟩
      have hd1 : l.getD (t : Int).toNat 0 = d := hd
      have hdd : 0 ≤ l.getD (t : Int).toNat 0 ∧ l.getD (t : Int).toNat 0 < s.length := by rw [hd1]; omega
      have hob := ow_bd (l := l) hs (t := t) (u := t) (by omega) (by omega) d
      have hcc : (rw_ s.length (ow s l t t)).getD (0 + (l.getD (t : Int).toNat 0).toNat) 0 = ow s l t t d := by rw [hd1, Int.toNat_natCast, Nat.zero_add, rw_get hdn]
      have hst : ((rw_ s.length (ow s l t t)).set (0 + (l.getD (t : Int).toNat 0).toNat) ((rw_ s.length (ow s l t t)).getD (0 + (l.getD (t : Int).toNat 0).toNat) 0 - sumL s)) = rw_ s.length (owK s l t 0) := by
        rw [hcc, hd1, Int.toNat_natCast, Nat.zero_add]
        refine rw_set ?_ fun i hi hne => ?_
        · unfold owK ow
          rw [if_neg (by omega), cnt_succ l t ht', if_pos hd, Int.add_mul]
          omega
        · unfold owK ow
          rw [if_neg (by omega), cnt_succ l t ht', if_neg (by rw [hd]; omega), Int.add_zero]
      conv => whnf
      repeat ((first | refine ⟨by omega, ?_⟩ | refine ⟨inr (by omega), ?_⟩ | refine ⟨inr (by rw [hcc]; omega), ?_⟩); conv => whnf)
      refine AW_loop (X := cx 58) (cx_ok 58) [0, 1, 5, 6, 7, 17, 18, 19, 30, 31, 32] (fun vs M => ∃ k : Nat, k ≤ s.length ∧ vs = [.ints false s, .ints false l, .int (sumL s), .int (dvI s l (t + 1) (dv s l t) k), .sl 0 0 0 s.length, .ints false l, .int l.length, .int t, .ints false s, .int s.length, .int k] ∧ M = [some ⟨3, 1, 0, .il (rw_ s.length (owK s l t k))⟩])
        (fun vs _ => s.length - (vs.getD 10 .any).toInt.toNat) ?_ ?_
      · refine ⟨0, Nat.zero_le _, rfl, ?_⟩
        exact congrArg (fun q => [some (⟨3, 1, 0, .il q⟩ : Ob)]) hst
      · rintro vs M ⟨k, hk, rfl, rfl⟩
        have hb1 := dvI_bd (l := l) hs (t := t + 1) (by omega) hdv k
        conv => whnf
        refine br_dec (fun hlt => ?_) (fun hge => ?_)
        · have hk' : k < s.length := by omega
          have hsk' : 1 ≤ s.getD (k : Int).toNat 0 ∧ s.getD (k : Int).toNat 0 ≤ 20 := hs.2.2 _ (getD_mem' hk')
          have ho1 := ow_bd (l := l) hs (t := t + 1) (u := t) (by omega) (by omega) k
          have ho2 := ow_bd (l := l) hs (t := t + 1) (u := t + 1) (by omega) (by omega) k
          have hck : (rw_ s.length (owK s l t k)).getD (0 + (k : Int).toNat) 0 = ow s l (t + 1) t k := by rw [Int.toNat_natCast, Nat.zero_add, rw_get hk']; unfold owK; rw [if_neg (by omega)]
          have hstep : ow s l (t + 1) t k + s.getD (k : Int).toNat 0 = ow s l (t + 1) (t + 1) k := by
            unfold ow
            rw [Int.toNat_natCast, show ((t + 1 : Nat) : Int) = (t : Int) + 1 from rfl, Int.add_mul]
            omega
          have hst2 : ((rw_ s.length (owK s l t k)).set (0 + (k : Int).toNat) ((rw_ s.length (owK s l t k)).getD (0 + (k : Int).toNat) 0 + s.getD (k : Int).toNat 0)) = rw_ s.length (owK s l t (k + 1)) := by
            rw [hck, hstep, Int.toNat_natCast, Nat.zero_add]
            refine rw_set ?_ fun i hi hne => ?_
            · unfold owK; rw [if_pos (by omega)]
            · unfold owK
              by_cases hik : i < k
              · rw [if_pos hik, if_pos (by omega)]
              · rw [if_neg hik, if_neg (by omega)]
          have hg2 : ((rw_ s.length (owK s l t k)).set (0 + (k : Int).toNat) ((rw_ s.length (owK s l t k)).getD (0 + (k : Int).toNat) 0 + s.getD (k : Int).toNat 0)).getD (0 + (k : Int).toNat) 0 = -dvx s l (t + 1) k := by
            rw [hst2, Int.toNat_natCast, Nat.zero_add, rw_get hk']
            unfold owK
            rw [if_pos (by omega), ow_dvx]
          have hx := dvx_bd (l := l) hs (t := t + 1) (by omega) k
          have hgb : -9223372036854775808 ≤ -(((rw_ s.length (owK s l t k)).set (0 + (k : Int).toNat) ((rw_ s.length (owK s l t k)).getD (0 + (k : Int).toNat) 0 + s.getD (k : Int).toNat 0)).getD (0 + (k : Int).toNat) 0) ∧
              -(((rw_ s.length (owK s l t k)).set (0 + (k : Int).toNat) ((rw_ s.length (owK s l t k)).getD (0 + (k : Int).toNat) 0 + s.getD (k : Int).toNat 0)).getD (0 + (k : Int).toNat) 0) ≤ 9223372036854775807 := by rw [hg2]; omega
          conv => whnf
          repeat ((first | refine ⟨by omega, ?_⟩ | refine ⟨inr (by omega), ?_⟩ | refine ⟨inr (by rw [hck]; omega), ?_⟩); conv => whnf)
          refine AW_draw (X := cx 58) (cx_ok 58) mixed (by kernel_rfl) ?_
          conv => whnf
          repeat ((first | refine ⟨by omega, ?_⟩ | refine ⟨inr (by omega), ?_⟩ | refine ⟨inr hgb, ?_⟩); conv => whnf)
          refine ⟨⟨k + 1, by omega, ?_, ?_⟩, ?_⟩
          · have hm : dvI s l (t + 1) (dv s l t) (k + 1) = maxI (maxI (dvI s l (t + 1) (dv s l t) k) (-dvx s l (t + 1) k)) (-(-dvx s l (t + 1) k)) := by
              rw [Int.neg_neg, max3_neg]; rfl
            rw [← hg2] at hm
            rw [hm]
            rfl
          · exact congrArg (fun q => [some (⟨3, 1, 0, .il q⟩ : Ob)]) hst2
          · simp [V.toInt, sel, Env.get]; omega
        · conv => whnf
          have : k = s.length := by omega
          subst this
          repeat ((first | refine ⟨by omega, ?_⟩ | refine ⟨inr (by omega), ?_⟩ | refine eqn_self ?_ | refine ⟨ms (by omega), ?_⟩ | refine ⟨ms (by simp only [Src.n]; omega), ?_⟩ | refine ⟨msk (by omega), ?_⟩ | refine ⟨ms1, ?_⟩); conv => whnf)
          refine ⟨⟨t + 1, by omega, rfl, ?_⟩, ?_⟩
          · exact congrArg (fun q => [some (⟨3, 1, 0, .il q⟩ : Ob)]) (List.map_congr_left fun i hi => by unfold owK; rw [if_pos (List.mem_range.1 hi)])
          · simp [V.toInt, sel, Env.get]; omega
    · conv => whnf
      have : t = l.length := by omega
      subst this
      exact ⟨trivial, Qi rfl⟩
end Go.Tri
