/-
  CONTRACTS: sum, checkShares, Shares, checkDays, asked.
-/
import Derived.Test.YtjcjjakmggfmcaaB3
namespace Go.Tri
open Go.Proofs

def sumL (l : List Int) : Int := l.foldl (· + ·) 0
theorem sumL_snoc (l : List Int) (x : Int) : sumL (l ++ [x]) = sumL l + x := by simp [sumL]
theorem sumL_bd (l : List Int) (h : ∀ x ∈ l, 1 ≤ x ∧ x ≤ 20) : l.length ≤ sumL l ∧ sumL l ≤ 20 * l.length := by
  have : ∀ (l : List Int) (a : Int), (∀ x ∈ l, 1 ≤ x ∧ x ≤ 20) → a + l.length ≤ l.foldl (· + ·) a ∧ l.foldl (· + ·) a ≤ a + 20 * l.length := by
    intro l
    induction l with
    | nil => intro a _; simp
    | cons x r ih =>
      intro a h
      have h1 := h x (by simp)
      have h2 := ih (a + x) (fun y hy => h y (by simp [hy]))
      simp only [List.foldl_cons, List.length_cons]
      omega
  have := this l 0 h
  unfold sumL
  omega

/-- The error of shares. -/
def sharesE (s : List Int) : Int := if s.length > 8 then 3 else if s.length = 0 then 2 else if s.all fun x => decide (1 ≤ x) && decide (x ≤ 20) then 0 else 2
def Shs (s : List Int) : Prop := s.length ≤ 8 ∧ 0 < s.length ∧ ∀ x ∈ s, 1 ≤ x ∧ x ≤ 20
theorem sharesE_ok {s : List Int} (h : sharesE s = 0) : Shs s := by
  unfold sharesE at h
  split at h
  · cases h
  · split at h
    · cases h
    · split at h
      · next h1 h2 h3 =>
        refine ⟨by omega, by omega, fun x hx => ?_⟩
        have := List.all_eq_true.1 h3 x hx
        simpa using this
      · cases h
theorem sharesE_bad {s : List Int} {x : Int} (h1 : ¬ s.length > 8) (h2 : ¬ s.length = 0) (hx : x ∈ s) (hb : x < 1 ∨ 20 < x) : sharesE s = 2 := by
  unfold sharesE
  rw [if_neg h1, if_neg h2, if_neg]
  rw [Bool.not_eq_true, List.all_eq_false]
  exact ⟨x, hx, by simp; omega⟩
theorem sharesE_of {s : List Int} (h1 : ¬ s.length > 8) (h2 : ¬ s.length = 0) (h : ∀ x ∈ s, 1 ≤ x ∧ x ≤ 20) : sharesE s = 0 := by
  unfold sharesE
  rw [if_neg h1, if_neg h2, if_pos]
  rw [List.all_eq_true]
  intro x hx
  have := h x hx
  simp; omega

theorem sum_pure (xs : List Int) (hs : Shs xs) : APure Try.prog 46 [.ints false xs] (fun R => R = .int (sumL xs)) := by
  obtain ⟨h, _, hx⟩ := hs
  refine APure_of (X := cx 17) (cx_ok 17) rfl (rs := [(.tmp 2, 3)]) Try.func46 (by decide) rfl rfl rfl (by simp [cx]) (by simp [NoFr]) ?_
  intro _
  conv => whnf
  refine AW_loop (X := cx 17) (cx_ok 17) [3, 6, 7, 8] (fun vs M => ∃ k : Nat, k ≤ xs.length ∧ vs = [.int (sumL (xs.take k)), .ints false xs, .int xs.length, .int k] ∧ M = []) (fun vs _ => xs.length - (vs.getD 3 .any).toInt.toNat) ?_ ?_
  · exact ⟨0, Nat.zero_le _, rfl, rfl⟩
  · rintro vs M ⟨k, hk, rfl, rfl⟩
    have hb := sumL_bd (xs.take k) (fun x hx' => hx x (List.mem_of_mem_take hx'))
    have hlen : (xs.take k).length ≤ 8 := by rw [List.length_take]; omega
    conv => whnf
    refine br_dec (fun hlt => ?_) (fun hge => ?_)
    · have hk' : k < xs.length := by omega
      have hxk : 1 ≤ xs.getD (k : Int).toNat 0 ∧ xs.getD (k : Int).toNat 0 ≤ 20 := hx _ (getD_mem' hk')
      conv => whnf
      repeat ((first | refine ⟨by omega, ?_⟩ | refine ⟨inr (by omega), ?_⟩ | refine eqn_self ?_ | refine ⟨ms (by omega), ?_⟩ | refine ⟨ms (by simp only [Src.n]; omega), ?_⟩ | refine ⟨msk (by omega), ?_⟩ | refine ⟨ms1, ?_⟩); conv => whnf)
      refine ⟨⟨k + 1, by omega, ?_, rfl⟩, ?_⟩
      · rw [take_succ_getD _ _ hk', sumL_snoc]
        rfl
      · simp [V.toInt, sel, Env.get]; omega
    · have hk' : k = xs.length := by omega
      subst hk'
      conv => whnf
      exact ⟨trivial, Qi (by rw [List.take_length])⟩

theorem checkShares_pure (s : List Int) : APure Try.prog 63 [.ints false s] (fun R => R = .int (sharesE s)) := by
  refine APure_of (X := cx 24) (cx_ok 24) rfl (rs := [(.tmp 2, 27)]) Try.func63 (by decide) rfl rfl rfl (by simp [cx]) (by simp [NoFr]) ?_
  intro _
  conv => whnf
  refine br_dec (fun h => ?_) (fun h => ?_)
  · conv => whnf
    exact ⟨trivial, Qi (by unfold sharesE; rw [if_pos (by omega)])⟩
  · have h1 : ¬ s.length > 8 := by omega
    conv => whnf
    refine br_eq (fun h => ?_) (fun h => ?_)
    · conv => whnf
      exact ⟨trivial, Qi (by unfold sharesE; rw [if_neg h1, if_pos (by omega)])⟩
    · have h2 : ¬ s.length = 0 := by omega
      conv => whnf
      refine AW_loop (X := cx 24) (cx_ok 24) [11, 12, 13] (fun vs M => ∃ k : Nat, k ≤ s.length ∧ (∀ x ∈ s.take k, 1 ≤ x ∧ x ≤ 20) ∧ vs = [.ints false s, .int s.length, .int k] ∧ M = []) (fun vs _ => s.length - (vs.getD 2 .any).toInt.toNat) ?_ ?_
      · exact ⟨0, Nat.zero_le _, by simp, rfl, rfl⟩
      · rintro vs M ⟨k, hk, hkab, rfl, rfl⟩
        conv => whnf
        refine br_dec (fun hlt => ?_) (fun hge => ?_)
        · have hk' : k < s.length := by omega
          have hkm : s.getD (k : Int).toNat 0 ∈ s := getD_mem' hk'
          conv => whnf
          repeat ((first | refine ⟨by omega, ?_⟩ | refine ⟨inr (by omega), ?_⟩ | refine eqn_self ?_ | refine ⟨ms (by omega), ?_⟩ | refine ⟨ms (by simp only [Src.n]; omega), ?_⟩ | refine ⟨msk (by omega), ?_⟩ | refine ⟨ms1, ?_⟩); conv => whnf)
          refine br_dec (fun h => ?_) (fun h => ?_)
          · conv => whnf
            exact ⟨trivial, Qi (sharesE_bad h1 h2 hkm (by omega)).symm⟩
          · conv => whnf
            refine br_dec (fun h3 => ?_) (fun h3 => ?_)
            · conv => whnf
              exact ⟨trivial, Qi (sharesE_bad h1 h2 hkm (by omega)).symm⟩
            · conv => whnf
              repeat ((first | refine ⟨by omega, ?_⟩ | refine ⟨inr (by omega), ?_⟩ | refine eqn_self ?_ | refine ⟨ms (by omega), ?_⟩ | refine ⟨ms (by simp only [Src.n]; omega), ?_⟩ | refine ⟨msk (by omega), ?_⟩ | refine ⟨ms1, ?_⟩); conv => whnf)
              refine ⟨⟨k + 1, by omega, ?_, rfl, rfl⟩, ?_⟩
              · rw [take_succ_getD _ _ hk']
                intro x hx
                rcases List.mem_append.1 hx with hx | hx
                · exact hkab x hx
                · rw [List.mem_singleton.1 hx]
                  simp only [Int.toNat_natCast] at h h3
                  omega
              · simp [V.toInt, sel, Env.get]; omega
        · conv => whnf
          rw [take_len (by omega)] at hkab
          exact ⟨trivial, Qi (sharesE_of h1 h2 hkab).symm⟩

theorem Shares_pure (s : List Int) : APure Try.prog 37 [.ints false s] (fun R => R = tup2 (.int (if sharesE s = 0 then sumL s else 0)) (.int (sharesE s))) := by
  refine APure_of (X := cx 37) (cx_ok 37) rfl (rs := [(.tmp 2, 3), (.tmp 3, 27)]) Try.func37 (by decide) rfl rfl rfl (by simp [cx]) (by simp [NoFr]) ?_
  intro _
  conv => whnf
  refine br_dec (fun h => ?_) (fun h => ?_)
  · have e : sharesE s = 3 := by unfold sharesE; rw [if_pos (by omega)]
    conv => whnf
    exact ⟨trivial, trivial, Q2 (Qi (by rw [e]; rfl)) (Qi (by rw [e]))⟩
  · have h1 : ¬ s.length > 8 := by omega
    conv => whnf
    refine br_eq (fun h => ?_) (fun h => ?_)
    · have e : sharesE s = 2 := by unfold sharesE; rw [if_neg h1, if_pos (by omega)]
      conv => whnf
      exact ⟨trivial, trivial, Q2 (Qi (by rw [e]; rfl)) (Qi (by rw [e]))⟩
    · have h2 : ¬ s.length = 0 := by omega
      conv => whnf
      refine AW_loop (X := cx 37) (cx_ok 37) [0, 4, 5] (fun vs M => ∃ k : Nat, k ≤ s.length ∧ (∀ x ∈ s.take k, 1 ≤ x ∧ x ≤ 20) ∧ vs = [.ints false s, .int (sumL (s.take k)), .int k] ∧ M = []) (fun vs _ => s.length - (vs.getD 2 .any).toInt.toNat) ?_ ?_
      · exact ⟨0, Nat.zero_le _, by simp, rfl, rfl⟩
      · rintro vs M ⟨k, hk, hkab, rfl, rfl⟩
        have hb := sumL_bd (s.take k) hkab
        have hlen : (s.take k).length ≤ 8 := by rw [List.length_take]; omega
        conv => whnf
        refine br_dec (fun hlt => ?_) (fun hge => ?_)
        · have hk' : k < s.length := by omega
          have hkm : s.getD (k : Int).toNat 0 ∈ s := getD_mem' hk'
          conv => whnf
          repeat ((first | refine ⟨by omega, ?_⟩ | refine ⟨inr (by omega), ?_⟩ | refine eqn_self ?_ | refine ⟨ms (by omega), ?_⟩ | refine ⟨ms (by simp only [Src.n]; omega), ?_⟩ | refine ⟨msk (by omega), ?_⟩ | refine ⟨ms1, ?_⟩); conv => whnf)
          refine br_dec (fun h => ?_) (fun h => ?_)
          · have e := sharesE_bad h1 h2 hkm (by omega)
            conv => whnf
            exact ⟨trivial, trivial, Q2 (Qi (by rw [e]; rfl)) (Qi (by rw [e]))⟩
          · conv => whnf
            repeat ((first | refine ⟨by omega, ?_⟩ | refine ⟨inr (by omega), ?_⟩ | refine eqn_self ?_ | refine ⟨ms (by omega), ?_⟩ | refine ⟨ms (by simp only [Src.n]; omega), ?_⟩ | refine ⟨msk (by omega), ?_⟩ | refine ⟨ms1, ?_⟩); conv => whnf)
            refine br_dec (fun h3 => ?_) (fun h3 => ?_)
            · have e := sharesE_bad h1 h2 hkm (by omega)
              conv => whnf
              exact ⟨trivial, trivial, Q2 (Qi (by rw [e]; rfl)) (Qi (by rw [e]))⟩
            · conv => whnf
              repeat ((first | refine ⟨by omega, ?_⟩ | refine ⟨inr (by omega), ?_⟩ | refine eqn_self ?_ | refine ⟨ms (by omega), ?_⟩ | refine ⟨ms (by simp only [Src.n]; omega), ?_⟩ | refine ⟨msk (by omega), ?_⟩ | refine ⟨ms1, ?_⟩); conv => whnf)
              refine ⟨⟨k + 1, by omega, ?_, ?_, rfl⟩, ?_⟩
              · rw [take_succ_getD _ _ hk']
                intro x hx
                rcases List.mem_append.1 hx with hx | hx
                · exact hkab x hx
                · rw [List.mem_singleton.1 hx]
                  simp only [Int.toNat_natCast] at h h3
                  omega
              · rw [take_succ_getD _ _ hk', sumL_snoc]
                rfl
              · simp [V.toInt, sel, Env.get]; omega
        · conv => whnf
          rw [take_len (by omega)] at hkab
          have e := sharesE_of h1 h2 hkab
          exact ⟨trivial, trivial, Q2 (Qi (by rw [e, take_len (by omega)]; rfl)) (Qi (by rw [e]))⟩

/-- The error of shares and days. -/
def askedE (s l : List Int) : Int := if sharesE s = 0 then daysE l s.length else sharesE s

theorem checkDays_pure (s l : List Int) : APure Try.prog 43 [.ints false s, .ints false l] (fun R => R = .int (askedE s l)) := by
  refine APure_of (X := cx 19) (cx_ok 19) rfl (rs := [(.tmp 4, 27)]) Try.func43 (by decide) rfl rfl rfl (by simp [cx]) (by simp [NoFr]) ?_
  intro _
  conv => whnf
  refine APure.to (checkShares_pure s) ?_
  conv => whnf
  refine br_ne (fun h => ?_) (fun h => ?_)
  · conv => whnf
    exact ⟨trivial, Qi (by unfold askedE; rw [if_neg h])⟩
  · conv => whnf
    refine br_dec (fun h4 => ?_) (fun h4 => ?_)
    · conv => whnf
      exact ⟨trivial, Qi (by unfold askedE daysE; rw [if_pos h, if_pos (by omega)])⟩
    · conv => whnf
      refine APure.to (areDrivers_pure l s.length) ?_
      conv => whnf
      refine br_not (br_mk (fun hd => ?_) (fun hd => ?_))
      · conv => whnf
        exact ⟨trivial, Qi (by unfold askedE daysE; rw [if_pos h, if_neg (by omega), if_pos hd])⟩
      · conv => whnf
        exact ⟨trivial, Qi (by unfold askedE daysE; rw [if_pos h, if_neg (by omega), if_neg (by rw [hd]; simp)])⟩

theorem asked_pure (s l : List Int) : APure Try.prog 47 [.ints false s, .ints false l] (fun R => R = tup2 (.int (if sharesE s = 0 then sumL s else 0)) (.int (askedE s l))) := by
  refine APure_of (X := cx 21) (cx_ok 21) rfl (rs := [(.tmp 4, 3), (.tmp 5, 27)]) Try.func47 (by decide) rfl rfl rfl (by simp [cx]) (by simp [NoFr]) ?_
  intro _
  conv => whnf
  refine APure.to (Shares_pure s) ?_
  conv => whnf
  refine br_ne (fun h => ?_) (fun h => ?_)
  · conv => whnf
    exact ⟨trivial, trivial, Q2 (Qi (by rw [if_neg h])) (Qi (by unfold askedE; rw [if_neg h]))⟩
  · conv => whnf
    refine APure.to (Days_pure l s.length) ?_
    conv => whnf
    exact ⟨trivial, trivial, Q2 rfl (Qi (by unfold askedE; rw [if_pos h]))⟩
end Go.Tri
