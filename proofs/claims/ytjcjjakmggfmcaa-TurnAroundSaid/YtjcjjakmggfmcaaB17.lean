/-
  CONTRACTS: the program's Fair.
-/
import Derived.Test.YtjcjjakmggfmcaaB16
import Derived.Test.YtjcjjakmggfmcaaM1
namespace Go.Tri
open Go.Proofs

/-- Some driver is open every day. -/
theorem fair_open {s l : List Int} (hs : Shs s) (h2 : 2 ≤ s.length) {t : Nat} (hl : l.length = t) (h : ∀ u, u < t → 0 ≤ l.getD u 0 ∧ l.getD u 0 < s.length) :
    ∃ i, i < s.length ∧ opF (sumL s) (2 * (s.length : Int) - 2) (clm s l t (t + 1)) i = true := by
  have hsb := sumL_bd s hs.2.2
  rcases Classical.em (∃ i, i < s.length ∧ opF (sumL s) (2 * (s.length : Int) - 2) (clm s l t (t + 1)) i = true) with h1 | h1
  · exact h1
  exfalso
  have hall : ∀ i, i < s.length → ow s l t (t + 1) i * (2 * (s.length : Int) - 2) ≤ sumL s - 1 := by
    intro i hi
    rcases (by omega : sumL s - 1 < ow s l t (t + 1) i * (2 * (s.length : Int) - 2) ∨ ow s l t (t + 1) i * (2 * (s.length : Int) - 2) ≤ sumL s - 1) with hlt | hge
    · exact absurd ⟨i, hi, decide_eq_true (show ow s l t (t + 1) i * (2 * (s.length : Int) - 2) ≥ sumL s by omega)⟩ h1
    · exact hge
  have hsum := sm_le s.length hall
  rw [sm_const, sm_mulr, sm_ow (by omega) h] at hsum
  have e : (((t + 1 : Nat) : Int) - t) * sumL s = sumL s := by rw [show ((t + 1 : Nat) : Int) - t = 1 by omega, Int.one_mul]
  rw [e, Int.mul_sub, Int.mul_sub, Int.mul_one] at hsum
  have e2 : sumL s * (2 * (s.length : Int)) = (s.length : Int) * sumL s + (s.length : Int) * sumL s := by rw [Int.mul_comm, Int.mul_assoc, Int.two_mul]
  have e3 : sumL s * 2 ≤ (s.length : Int) * sumL s := by rw [Int.mul_comm]; exact Int.mul_le_mul_of_nonneg_right (by omega) (by omega)
  omega

theorem fair_in {s : List Int} (hs : Shs s) (h2 : 2 ≤ s.length) : ∀ t, (∀ u, u < t → 0 ≤ (calledL s (pkF s) t).getD u 0 ∧ (calledL s (pkF s) t).getD u 0 < s.length) ∧
    0 ≤ pkF s (clm s (calledL s (pkF s) t) t (t + 1)) ∧ pkF s (clm s (calledL s (pkF s) t) t (t + 1)) < s.length := by
  intro t
  have step : (∀ u, u < t → 0 ≤ (calledL s (pkF s) t).getD u 0 ∧ (calledL s (pkF s) t).getD u 0 < s.length) → 0 ≤ pkF s (clm s (calledL s (pkF s) t) t (t + 1)) ∧ pkF s (clm s (calledL s (pkF s) t) t (t + 1)) < s.length := fun h => by
    obtain ⟨i, hi, ho⟩ := fair_open hs h2 (calledL_len s (pkF s) t) h
    exact ⟨pick_open _ i hi ho, (pick_bd _ _ _).2⟩
  suffices h : ∀ u, u < t → 0 ≤ (calledL s (pkF s) t).getD u 0 ∧ (calledL s (pkF s) t).getD u 0 < s.length from ⟨h, step h⟩
  clear step
  induction t with
  | zero => intro u hu; omega
  | succ t ih =>
    intro u hu
    have hlen := calledL_len s (pkF s) t
    obtain ⟨i, hi, ho⟩ := fair_open hs h2 hlen ih
    have hp : 0 ≤ pkF s (clm s (calledL s (pkF s) t) t (t + 1)) ∧ pkF s (clm s (calledL s (pkF s) t) t (t + 1)) < s.length := ⟨pick_open _ i hi ho, (pick_bd _ _ _).2⟩
    by_cases hut : u < t
    · have : (calledL s (pkF s) (t + 1)).getD u 0 = (calledL s (pkF s) t).getD u 0 := by
        show (calledL s (pkF s) t ++ _).getD u 0 = _
        simp only [List.getD]
        rw [List.getElem?_append_left (by omega)]
      rw [this]
      exact ih u hut
    · obtain rfl : u = t := by omega
      have : (calledL s (pkF s) (u + 1)).getD u 0 = pkF s (clm s (calledL s (pkF s) u) u (u + 1)) := by
        show (calledL s (pkF s) u ++ _).getD u 0 = _
        simp only [List.getD]
        rw [List.getElem?_append_right (by omega), hlen, Nat.sub_self]
        rfl
      rw [this]
      exact hp

def fairL (s : List Int) (m : Nat) : List Int := if s.length = 1 then List.replicate m 0 else calledL s (pkF s) m
def fairR (s : List Int) (m : Int) : List Int := if manyE s m = 0 then fairL s m.toNat else []
theorem fairL_len (s : List Int) (m : Nat) : (fairL s m).length = m := by unfold fairL; split <;> simp [calledL_len]

theorem Fair_pure (s : List Int) (m : Int) : APure Try.prog 25 [.ints false s, .int m] (fun R => R = tup2 (.ints true (fairR s m)) (.int (manyE s m))) := by
  refine APure_of (X := cx 37) (cx_ok 37) rfl (rs := [(.tmp 4, 22), (.tmp 5, 27)]) Try.func25 (by decide) rfl rfl rfl (by simp [cx]) (by simp [NoFr]) ?_
  intro _
  conv => whnf
  refine APure.to (checkMany_pure s m) ?_
  conv => whnf
  refine br_ne (fun h => ?_) (fun h => ?_)
  · conv => whnf
    exact ⟨rfl, trivial, Q2 (Ql (by unfold fairR; rw [if_neg h])) rfl⟩
  · obtain ⟨hs, _, h1, h2⟩ := manyE_ok h
    have hsb := sumL_bd s hs.2.2
    have h8 := hs.1
    have h0 := hs.2.1
    conv => whnf
    refine br_eq (fun h3 => ?_) (fun h3 => ?_)
    · conv => whnf
      repeat ((first | refine ⟨by omega, ?_⟩ | refine ⟨inr (by omega), ?_⟩ | refine eqn_self ?_ | refine ⟨ms (by omega), ?_⟩ | refine ⟨ms (by simp only [Src.n]; omega), ?_⟩ | refine ⟨msk (by omega), ?_⟩ | refine ⟨ms1, ?_⟩); conv => whnf)
      exact ⟨rfl, trivial, Q2 (Ql (by unfold fairR fairL; rw [if_pos h, if_pos (by omega)]; simp)) (Qi h.symm)⟩
    · have hC := calledF_pure s hs m.toNat (by omega) (by omega) (fun t _ => (fair_in hs (by omega) t).2)
      rw [show ((m.toNat : Nat) : Int) = m from by omega] at hC
      conv => whnf
      refine APure.to (sum_pure s hs) ?_
      conv => whnf
      repeat ((first | refine ⟨by omega, ?_⟩ | refine ⟨inr (by omega), ?_⟩ | refine eqn_self ?_ | refine ⟨ms (by omega), ?_⟩ | refine ⟨ms (by simp only [Src.n]; omega), ?_⟩ | refine ⟨msk (by omega), ?_⟩ | refine ⟨ms1, ?_⟩); conv => whnf)
      refine APure.to (APure.arg4 (Sub.refl _) (Sub.refl _) (sub_clo fun i hi => ?_) (sub_clo fun i hi => ?_) hC) ?_
      · rcases i with _ | _ | i
        · conv => arg 1; whnf
          exact sub_at fun k hk => match k, hk with
            | 0, _ => Sub.of rfl
        · conv => arg 1; whnf
          exact sub_at fun k hk => match k, hk with
            | 0, _ => Sub.of rfl
        · exact absurd (show i + 1 + 1 < 2 from hi) (by omega)
      · rcases i with _ | i
        · conv => arg 1; whnf
          refine sub_at fun k hk => ?_
          rcases k with _ | k
          · conv => arg 1; whnf
            refine sub_clo fun i hi => ?_
            rcases i with _ | _ | i
            · conv => arg 1; whnf
              exact sub_at fun k hk => match k, hk with
                | 0, _ => Sub.of rfl
            · conv => arg 1; whnf
              exact sub_at fun k hk => match k, hk with
                | 0, _ => Sub.of rfl
            · exact absurd (show i + 1 + 1 < 2 from hi) (by omega)
          · exact absurd (show k + 1 < 1 from hk) (by omega)
        · exact absurd (show i + 1 < 1 from hi) (by omega)
      conv => whnf
      exact ⟨rfl, trivial, Q2 (Ql (by unfold fairR fairL; rw [if_pos h, if_neg (by omega)])) (Qi h.symm)⟩
end Go.Tri
