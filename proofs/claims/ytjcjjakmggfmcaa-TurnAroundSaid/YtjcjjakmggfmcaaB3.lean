/-
  CONTRACTS: Merged, the reference's.
-/
import Derived.Test.YtjcjjakmggfmcaaB2
namespace Go.Tri
open Go.Proofs

theorem daysE_ok {l : List Int} {n : Int} (h : daysE l n = 0) : l.length ≤ 400 ∧ (l.all fun x => decide (0 ≤ x) && decide (x < n)) = true := by
  unfold daysE at h
  split at h
  · cases h
  · split at h
    · next h1 h2 => exact ⟨by omega, h2⟩
    · cases h

theorem refMerged_pure (l : List Int) (a b : Int) : APure Try.prog 36 [.ints false l, .int a, .int b] (fun R => R = tup2 (.ints true (mergedL l a b)) (.int (mergedE l a b))) := by
  refine APure_of (X := cx 52) (cx_ok 52) rfl (rs := [(.tmp 6, 22), (.tmp 7, 27)]) Try.func36 (by decide) rfl rfl rfl (by simp [cx]) (by simp [NoFr]) ?_
  intro hlen
  conv => whnf
  refine APure.to (Days_pure l 8) ?_
  conv => whnf
  refine br_ne (fun h => ?_) (fun h => ?_)
  · have e : mergedE l a b = daysE l 8 := by
      by_cases h4 : l.length > 400
      · simp only [mergedE, daysE, if_pos h4]
      · by_cases hd : (l.all fun x => decide (0 ≤ x) && decide (x < 8)) = true
        · exact absurd (by simp only [daysE, if_neg h4, if_pos hd]) h
        · unfold mergedE daysE
          rw [if_neg h4, if_neg h4, if_neg hd, if_neg]
          intro h
          simp only [Bool.and_eq_true] at h
          exact hd h.1.1.1
    conv => whnf
    exact ⟨rfl, trivial, Q2 (Ql (by simp [mergedL, e, h])) (Qi (by rw [e]))⟩
  · obtain ⟨h4, hd⟩ := daysE_ok h
    conv => whnf
    refine br_dec (fun h1 => ?_) (fun h1 => ?_)
    · conv => whnf
      have e : mergedE l a b = 2 := by unfold mergedE; rw [if_neg (by omega), if_neg (by simp; omega)]
      exact ⟨rfl, trivial, Q2 (Ql (by simp [mergedL, e])) (Qi (by rw [e]))⟩
    · conv => whnf
      refine br_dec (fun h2 => ?_) (fun h2 => ?_)
      · conv => whnf
        have e : mergedE l a b = 2 := by unfold mergedE; rw [if_neg (by omega), if_neg (by simp; omega)]
        exact ⟨rfl, trivial, Q2 (Ql (by simp [mergedL, e])) (Qi (by rw [e]))⟩
      · conv => whnf
        refine br_dec (fun h3 => ?_) (fun h3 => ?_)
        · conv => whnf
          have e : mergedE l a b = 2 := by unfold mergedE; rw [if_neg (by omega), if_neg (by simp; omega)]
          exact ⟨rfl, trivial, Q2 (Ql (by simp [mergedL, e])) (Qi (by rw [e]))⟩
        · have e : mergedE l a b = 0 := by unfold mergedE; rw [if_neg (by omega), if_pos (by rw [hd]; simp; omega)]
          have hl : ∀ x ∈ l, 0 ≤ x ∧ x < 8 := by
            intro x hx
            have := List.all_eq_true.1 hd x hx
            simp at this
            exact this
          conv => whnf
          refine AW_loopK (X := cx 52) (cx_ok 52) [0, 1, 2, 9, 10] (fun t => Nat.beq t 1) (fun vs M => ∃ k : Nat, k ≤ l.length ∧ ((k = 0 ∧ vs = [.ints false l, .int a, .int b, .emp, .int k] ∧ M = []) ∨
              ∃ ver, vs = [.ints false l, .int a, .int b, .sl 1 ver 0 k, .int k] ∧ M = [none, some ⟨3, 1, ver, .il ((l.take k).map (mergeD a b))⟩]))
            (fun vs _ => l.length - (vs.getD 4 .any).toInt.toNat) (fun t ht => absurd ht (by simp)) ?_ ?_
          · exact ⟨0, Nat.zero_le _, .inl ⟨rfl, rfl, rfl⟩⟩
          · rintro vs M ⟨k, hk, h⟩
            have hlk : ((l.take k).map (mergeD a b)).length = k := by rw [List.length_map, List.length_take]; omega
            have fin : ∀ (hk' : k < l.length) (v : Int), v = mergeD a b (l.getD (k : Int).toNat 0) → ((l.take k).map (mergeD a b)).take k ++ [v] = (l.take (k + 1)).map (mergeD a b) := by
              intro hk' v hv
              rw [take_len (by omega), take_succ_getD _ _ hk', List.map_append, hv]
              rfl
            have fin0 : ∀ (hk' : k < l.length) (hk0 : k = 0) (v : Int), v = mergeD a b (l.getD (k : Int).toNat 0) → [v] = (l.take (k + 1)).map (mergeD a b) := by
              intro hk' hk0 v hv
              rw [← fin hk' v hv, hk0]
              rfl
            rcases h with ⟨hk0, rfl, rfl⟩ | ⟨ver, rfl, rfl⟩
            · have hk0' : (k : Int) = 0 := by omega
              conv => whnf
              refine br_dec (fun hlt => ?_) (fun hge => ?_)
              · have hk' : k < l.length := by omega
                have hx : 0 ≤ l.getD (k : Int).toNat 0 ∧ l.getD (k : Int).toNat 0 < 8 := hl _ (getD_mem' hk')
                conv => whnf
                repeat ((first | refine ⟨by omega, ?_⟩ | refine ⟨inr (by omega), ?_⟩ | refine eqn_self ?_ | refine ⟨ms (by omega), ?_⟩ | refine ⟨ms (by simp only [Src.n]; omega), ?_⟩ | refine ⟨msk (by omega), ?_⟩ | refine ⟨ms1, ?_⟩); conv => whnf)
                refine br_eq (fun h1 => ?_) (fun h1 => ?_)
                · conv => whnf
                  repeat ((first | refine ⟨by omega, ?_⟩ | refine ⟨inr (by omega), ?_⟩ | refine eqn_self ?_ | refine ⟨ms (by omega), ?_⟩ | refine ⟨ms (by simp only [Src.n]; omega), ?_⟩ | refine ⟨msk (by omega), ?_⟩ | refine ⟨ms1, ?_⟩); conv => whnf)
                  refine ⟨by repeat (first | exact trivial | exact rfl | refine And.intro ?_ ?_), ⟨k + 1, by omega, .inr ⟨0, by subst hk0; rfl, ?_⟩⟩, ?_⟩
                  · exact congrArg (fun q => [none, some (⟨3, 1, 0, .il q⟩ : Ob)]) (fin0 hk' hk0 a (by unfold mergeD; rw [if_pos h1]))
                  · simp [V.toInt, sel, Env.get]; omega
                · conv => whnf
                  refine br_dec (fun h2 => ?_) (fun h2 => ?_)
                  · conv => whnf
                    repeat ((first | refine ⟨by omega, ?_⟩ | refine ⟨inr (by omega), ?_⟩ | refine eqn_self ?_ | refine ⟨ms (by omega), ?_⟩ | refine ⟨ms (by simp only [Src.n]; omega), ?_⟩ | refine ⟨msk (by omega), ?_⟩ | refine ⟨ms1, ?_⟩); conv => whnf)
                    refine ⟨by repeat (first | exact trivial | exact rfl | refine And.intro ?_ ?_), ⟨k + 1, by omega, .inr ⟨0, by subst hk0; rfl, ?_⟩⟩, ?_⟩
                    · exact congrArg (fun q => [none, some (⟨3, 1, 0, .il q⟩ : Ob)]) (fin0 hk' hk0 (l.getD (k : Int).toNat 0 - 1) (by unfold mergeD; rw [if_neg h1, if_pos h2]))
                    · simp [V.toInt, sel, Env.get]; omega
                  · conv => whnf
                    repeat ((first | refine ⟨by omega, ?_⟩ | refine ⟨inr (by omega), ?_⟩ | refine eqn_self ?_ | refine ⟨ms (by omega), ?_⟩ | refine ⟨ms (by simp only [Src.n]; omega), ?_⟩ | refine ⟨msk (by omega), ?_⟩ | refine ⟨ms1, ?_⟩); conv => whnf)
                    refine ⟨by repeat (first | exact trivial | exact rfl | refine And.intro ?_ ?_), ⟨k + 1, by omega, .inr ⟨0, by subst hk0; rfl, ?_⟩⟩, ?_⟩
                    · exact congrArg (fun q => [none, some (⟨3, 1, 0, .il q⟩ : Ob)]) (fin0 hk' hk0 (l.getD (k : Int).toNat 0) (by unfold mergeD; rw [if_neg h1, if_neg h2]))
                    · simp [V.toInt, sel, Env.get]; omega
              · conv => whnf
                refine ⟨rfl, trivial, Q2 (Ql ?_) (Qi ?_)⟩
                · have : l = [] := List.eq_nil_of_length_eq_zero (by omega)
                  simp [mergedL, this]
                · rw [e]
            · conv => whnf
              refine br_dec (fun hlt => ?_) (fun hge => ?_)
              · have hk' : k < l.length := by omega
                have hx : 0 ≤ l.getD (k : Int).toNat 0 ∧ l.getD (k : Int).toNat 0 < 8 := hl _ (getD_mem' hk')
                conv => whnf
                repeat ((first | refine ⟨by omega, ?_⟩ | refine ⟨inr (by omega), ?_⟩ | refine eqn_self ?_ | refine ⟨ms (by omega), ?_⟩ | refine ⟨ms (by simp only [Src.n]; omega), ?_⟩ | refine ⟨msk (by omega), ?_⟩ | refine ⟨ms1, ?_⟩); conv => whnf)
                refine br_eq (fun h1 => ?_) (fun h1 => ?_)
                · conv => whnf
                  repeat ((first | refine ⟨by omega, ?_⟩ | refine ⟨inr (by omega), ?_⟩ | refine eqn_self ?_ | refine ⟨ms (by omega), ?_⟩ | refine ⟨ms (by simp only [Src.n]; omega), ?_⟩ | refine ⟨msk (by omega), ?_⟩ | refine ⟨ms1, ?_⟩); conv => whnf)
                  refine ⟨by repeat (first | exact trivial | exact rfl | refine And.intro ?_ ?_), ⟨k + 1, by omega, .inr ⟨ver + 1, rfl, ?_⟩⟩, ?_⟩
                  · exact congrArg (fun q => [none, some (⟨3, 1, ver + 1, .il q⟩ : Ob)]) (fin hk' a (by unfold mergeD; rw [if_pos h1]))
                  · simp [V.toInt, sel, Env.get]; omega
                · conv => whnf
                  refine br_dec (fun h2 => ?_) (fun h2 => ?_)
                  · conv => whnf
                    repeat ((first | refine ⟨by omega, ?_⟩ | refine ⟨inr (by omega), ?_⟩ | refine eqn_self ?_ | refine ⟨ms (by omega), ?_⟩ | refine ⟨ms (by simp only [Src.n]; omega), ?_⟩ | refine ⟨msk (by omega), ?_⟩ | refine ⟨ms1, ?_⟩); conv => whnf)
                    refine ⟨by repeat (first | exact trivial | exact rfl | refine And.intro ?_ ?_), ⟨k + 1, by omega, .inr ⟨ver + 1, rfl, ?_⟩⟩, ?_⟩
                    · exact congrArg (fun q => [none, some (⟨3, 1, ver + 1, .il q⟩ : Ob)]) (fin hk' (l.getD (k : Int).toNat 0 - 1) (by unfold mergeD; rw [if_neg h1, if_pos h2]))
                    · simp [V.toInt, sel, Env.get]; omega
                  · conv => whnf
                    repeat ((first | refine ⟨by omega, ?_⟩ | refine ⟨inr (by omega), ?_⟩ | refine eqn_self ?_ | refine ⟨ms (by omega), ?_⟩ | refine ⟨ms (by simp only [Src.n]; omega), ?_⟩ | refine ⟨msk (by omega), ?_⟩ | refine ⟨ms1, ?_⟩); conv => whnf)
                    refine ⟨by repeat (first | exact trivial | exact rfl | refine And.intro ?_ ?_), ⟨k + 1, by omega, .inr ⟨ver + 1, rfl, ?_⟩⟩, ?_⟩
                    · exact congrArg (fun q => [none, some (⟨3, 1, ver + 1, .il q⟩ : Ob)]) (fin hk' (l.getD (k : Int).toNat 0) (by unfold mergeD; rw [if_neg h1, if_neg h2]))
                    · simp [V.toInt, sel, Env.get]; omega
              · conv => whnf
                repeat ((first | refine ⟨by omega, ?_⟩ | refine ⟨inr (by omega), ?_⟩ | refine eqn_self ?_ | refine ⟨ms (by omega), ?_⟩ | refine ⟨ms (by simp only [Src.n]; omega), ?_⟩ | refine ⟨msk (by omega), ?_⟩ | refine ⟨ms1, ?_⟩); conv => whnf)
                refine ⟨rfl, trivial, Q2 (Ql ?_) (Qi ?_)⟩
                · have hkl : k = l.length := by omega
                  subst hkl
                  simp [mergedL, e, take_len]
                · rw [e]
end Go.Tri
