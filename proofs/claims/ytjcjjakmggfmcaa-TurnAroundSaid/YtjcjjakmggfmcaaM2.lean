/-
  TIJDEMAN: the days of Fair deviate by at most 1 - 1 / (2 n - 2).
-/
import Derived.Test.YtjcjjakmggfmcaaB18
namespace Go.Tri
open Go.Proofs

/-- What is picked has the least slack, in proportion. -/
theorem pickF_min {T S : Int} {f : Nat → Nat → Int} : ∀ k, (∀ i, i < k → 1 ≤ f i 0) → ∀ j, j < k → opF T S f j = true → slk T S (f (pick (opF T S f) (befF T S f) k).toNat 1) * f j 0 ≤ slk T S (f j 1) * f (pick (opF T S f) (befF T S f) k).toNat 0 := by
  intro k
  induction k with
  | zero => intro _ j hj; omega
  | succ k ih =>
    intro hpos j hj ho
    have ih := ih (fun i hi => hpos i (by omega))
    have hb := pick_bd (opF T S f) (befF T S f) k
    simp only [pick]
    split
    · next h =>
      rw [Int.toNat_natCast]
      by_cases hjk : j = k
      · subst hjk; exact Int.le_refl _
      · have hp := pick_open (bef := befF T S f) k j (by omega) ho
        rcases h.2 with h2 | h2
        · omega
        · have h2 := of_decide_eq_true h2
          have h3 := ih j (by omega) ho
          have p1 := hpos (pick (opF T S f) (befF T S f) k).toNat (by omega)
          have p2 := hpos k (by omega)
          have p3 := hpos j hj
          generalize f (pick (opF T S f) (befF T S f) k).toNat 0 = b at *
          generalize slk T S (f (pick (opF T S f) (befF T S f) k).toNat 1) = y at *
          generalize slk T S (f k 1) = x at *
          generalize slk T S (f j 1) = z at *
          generalize f k 0 = a at *
          generalize f j 0 = c at *
          have g1 : x * b * c ≤ y * a * c := Int.mul_le_mul_of_nonneg_right (by omega) (by omega)
          have g2 : y * c * a ≤ z * b * a := Int.mul_le_mul_of_nonneg_right h3 (by omega)
          have g3 : (x * c) * b ≤ (z * a) * b := by grind
          exact Int.le_of_mul_le_mul_right g3 (by omega)
    · next h =>
      by_cases hjk : j = k
      · subst hjk
        have hn : ¬ (pick (opF T S f) (befF T S f) j < 0 ∨ befF T S f j (pick (opF T S f) (befF T S f) j).toNat = true) := fun hc => h ⟨ho, hc⟩
        have h2 : ¬ befF T S f j (pick (opF T S f) (befF T S f) j).toNat = true := fun hc => hn (.inr hc)
        have h2 : ¬ (slk T S (f j 1) * f (pick (opF T S f) (befF T S f) j).toNat 0 < slk T S (f (pick (opF T S f) (befF T S f) j).toNat 1) * f j 0) := fun hc => h2 (decide_eq_true hc)
        omega
      · exact ih j (by omega) ho

section
variable {s : List Int} (hs : Shs s) (h2 : 2 ≤ s.length) {m : Nat} {l : List Int} (hl : l = calledL s (pkF s) m)

/-- The slots. -/
abbrev SL (s : List Int) : Int := 2 * (s.length : Int) - 2

theorem lget {t : Nat} (hl : l = calledL s (pkF s) m) (ht : t < m) : l.getD t 0 = pkF s (clm s (calledL s (pkF s) t) t (t + 1)) := by rw [hl, calledL_get s _ ht]
theorem clm_ow {t : Nat} (hl : l = calledL s (pkF s) m) (ht : t ≤ m) (v i : Nat) : clm s (calledL s (pkF s) t) t v i 1 = ow s l t v i := by
  show ow s (calledL s (pkF s) t) t v i = _
  rw [ow_called s (pkF s) ht, hl]

include hs hl in
/-- What is called is the most urgent. -/
theorem called_min {t : Nat} (ht : t < m) {j : Nat} (hj : j < s.length) (ho : ow s l t (t + 1) j * SL s ≥ sumL s) :
    slk (sumL s) (SL s) (ow s l t (t + 1) (l.getD t 0).toNat) * s.getD j 0 ≤ slk (sumL s) (SL s) (ow s l t (t + 1) j) * s.getD (l.getD t 0).toNat 0 := by
  have h := pickF_min (T := sumL s) (S := SL s) (f := clm s (calledL s (pkF s) t) t (t + 1)) s.length (fun i hi => (hs.2.2 _ (getD_mem' hi)).1) j hj (decide_eq_true (by rw [clm_ow hl (by omega)]; exact ho))
  rw [clm_ow hl (by omega), clm_ow hl (by omega)] at h
  rw [lget hl ht]
  exact h

include hs h2 hl
theorem lin {t : Nat} (ht : t < m) : 0 ≤ l.getD t 0 ∧ l.getD t 0 < s.length := by
  rw [lget hl ht]; exact (fair_in hs h2 t).2

/-- What is called is open. -/
theorem called_open {t : Nat} (ht : t < m) : ow s l t (t + 1) (l.getD t 0).toNat * SL s ≥ sumL s := by
  have h := pick_is (opn := opF (sumL s) (SL s) (clm s (calledL s (pkF s) t) t (t + 1))) (bef := befF (sumL s) (SL s) (clm s (calledL s (pkF s) t) t (t + 1))) s.length (fair_in hs h2 t).2.1
  have h := of_decide_eq_true h
  rw [clm_ow hl (by omega)] at h
  rw [lget hl ht]
  exact h

theorem fair_lo (i : Nat) : ∀ t, t ≤ m → -(ow s l t t i) * SL s ≤ sumL s * (SL s - 1) := by
  have hsb := sumL_bd s hs.2.2
  have hll : l.length = m := by rw [hl, calledL_len]
  intro t
  induction t with
  | zero =>
    intro _
    have : ow s l 0 0 i = 0 := by simp [ow, cnt]
    rw [this]
    have := Int.mul_nonneg (a := sumL s) (b := SL s - 1) (by omega) (by unfold SL; omega)
    omega
  | succ t ih =>
    intro ht
    have ih := ih (by omega)
    have e1 := ow_step s l t i
    have e2 : ow s l (t + 1) (t + 1) i = ow s l t (t + 1) i - if l.getD t 0 = (i : Int) then sumL s else 0 := by
      unfold ow
      rw [cnt_succ l t (by omega), Int.add_mul]
      split <;> omega
    have hS : 0 ≤ SL s := by unfold SL; omega
    have hsi : 0 ≤ s.getD i 0 := by
      by_cases hi : i < s.length
      · have := hs.2.2 _ (getD_mem' hi); omega
      · simp [List.getD, List.getElem?_eq_none (Nat.le_of_not_lt hi)]
    rw [e2]
    by_cases hc : l.getD t 0 = (i : Int)
    · rw [if_pos hc]
      have ho := called_open hs h2 hl (t := t) (by omega)
      rw [hc, Int.toNat_natCast] at ho
      generalize ow s l t (t + 1) i = x at *
      generalize SL s = S at *
      generalize sumL s = T at *
      have : -(x - T) * S = T * S - x * S := by grind
      rw [this, Int.mul_sub, Int.mul_one]
      omega
    · rw [if_neg hc, Int.sub_zero, ← e1]
      have g := Int.mul_nonneg hsi hS
      have : -(ow s l t t i + s.getD i 0) * SL s = -(ow s l t t i) * SL s - s.getD i 0 * SL s := by grind
      omega

omit hs h2 hl in
theorem last_or (P : Nat → Prop) : ∀ b, (∀ a, a < b → ¬ P a) ∨ ∃ a0, a0 < b ∧ P a0 ∧ ∀ a, a0 < a → a < b → ¬ P a := by
  intro b
  induction b with
  | zero => exact .inl fun a h => absurd h (by omega)
  | succ b ih =>
    rcases Classical.em (P b) with h | h
    · exact .inr ⟨b, by omega, h, fun a h1 h2 => absurd h2 (by omega)⟩
    · rcases ih with ih | ⟨a0, h1, h2, h3⟩
      · exact .inl fun a ha hp => by
          by_cases hab : a = b
          · subst hab; exact h hp
          · exact ih a (by omega) hp
      · exact .inr ⟨a0, by omega, h2, fun a g1 g2 hp => by
          by_cases hab : a = b
          · subst hab; exact h hp
          · exact h3 a g1 (by omega) hp⟩

omit hs h2 hl in
theorem last_call (l : List Int) (i t1 : Nat) : ∀ t, t1 ≤ t → t ≤ l.length → cnt l t1 i ≤ cnt l t i ∧ (cnt l t1 i < cnt l t i → ∃ a, t1 ≤ a ∧ a < t ∧ l.getD a 0 = i ∧ cnt l a i = cnt l t i - 1) := by
  intro t
  induction t with
  | zero => intro h1 _; obtain rfl : t1 = 0 := by omega
            exact ⟨Int.le_refl _, fun h => absurd h (by omega)⟩
  | succ t ih =>
    intro h1 h2
    by_cases ht : t1 = t + 1
    · subst ht; exact ⟨Int.le_refl _, fun h => absurd h (by omega)⟩
    · obtain ⟨ih1, ih2⟩ := ih (by omega) (by omega)
      have e := cnt_succ l t (by omega) i
      by_cases hc : l.getD t 0 = (i : Int)
      · rw [if_pos hc] at e
        exact ⟨by omega, fun _ => ⟨t, by omega, by omega, hc, by omega⟩⟩
      · rw [if_neg hc] at e
        refine ⟨by omega, fun h => ?_⟩
        obtain ⟨a, g1, g2, g3, g4⟩ := ih2 (by omega)
        exact ⟨a, g1, by omega, g3, by omega⟩

omit hs h2 hl in
theorem ari1 {t t0 si c e T S : Int} (h1 : (t * si - (c + e - 1) * T) * S ≥ T * (S - 1) + 1) (h2 : (t0 * si - c * T) * S ≤ T - 1) : e * T * S ≤ (t - t0) * si * S + (2 * T - 2) := by grind
omit hs h2 hl in
theorem ari2 {t si e T S : Int} (h1 : (t * si - (0 + e - 1) * T) * S ≥ T * (S - 1) + 1) : e * T * S ≤ t * si * S + (T - 1) := by grind
omit hs h2 hl in
/-- With fewer calls more is owed. -/
theorem ari3 {t si c c' T S : Int} (hT : 0 ≤ T) (hS : 0 ≤ S) (h : c ≤ c') : (t * si - c' * T) * S ≤ (t * si - c * T) * S := by
  have := Int.mul_le_mul_of_nonneg_right h hT
  exact Int.mul_le_mul_of_nonneg_right (by omega) hS
omit hs h2 hl in
theorem ari4 {t t0 sp si cp ci T S : Int} (hsp : 1 ≤ sp) (hsi : 1 ≤ si) (hp : (t * sp - cp * T) * S ≤ T * (S - 1)) (hi : (t * si - ci * T) * S > T * (S - 1)) (h : slk T S (t0 * sp - cp * T) * si ≤ slk T S (t0 * si - ci * T) * sp) : False := by
  have e1 : slk T S (t0 * sp - cp * T) * si = (T * (S - 1) - (t * sp - cp * T) * S) * si + (t - t0) * sp * S * si := by unfold slk; grind
  have e2 : slk T S (t0 * si - ci * T) * sp = (T * (S - 1) - (t * si - ci * T) * S) * sp + (t - t0) * sp * S * si := by unfold slk; grind
  have g1 := Int.mul_nonneg (a := T * (S - 1) - (t * sp - cp * T) * S) (b := si) (by omega) (by omega)
  have g2 := Int.mul_nonneg (a := (t * si - ci * T) * S - T * (S - 1) - 1) (b := sp) (by omega) (by omega)
  have e3 : ((t * si - ci * T) * S - T * (S - 1) - 1) * sp = -((T * (S - 1) - (t * si - ci * T) * S) * sp) - sp := by grind
  omega

omit hs h2 hl in
theorem ari5 {T S n : Int} (hn : 2 ≤ n) (hT : 1 ≤ T) (hS : S = 2 * n - 2) (k1 : T * S ≤ n * (T - 1)) : False := by
  subst hS
  have k2 := Int.mul_nonneg (a := T) (b := n - 2) (by omega) (by omega)
  grind
omit hs h2 hl in
theorem ari6 {T S n : Int} (hn : 2 ≤ n) (hS : S = 2 * n - 2) (k1 : T * S ≤ n * (2 * T - 2) - (2 * T - 2)) : False := by
  subst hS
  grind

theorem fair_hi {t : Nat} (ht : t ≤ m) {i0 : Nat} (hi0 : i0 < s.length) : ow s l t t i0 * SL s ≤ sumL s * (SL s - 1) := by
  have hsb := sumL_bd s hs.2.2
  have hll : l.length = m := by rw [hl, calledL_len]
  have hin := fun a (ha : a < m) => lin hs h2 hl ha
  have hsp : ∀ i, i < s.length → 1 ≤ s.getD i 0 := fun i hi => (hs.2.2 _ (getD_mem' hi)).1
  have hT : 1 ≤ sumL s := by omega
  have hn : 2 ≤ (s.length : Int) := by omega
  have hS : SL s = 2 * (s.length : Int) - 2 := rfl
  have hS2 : 2 ≤ SL s := by omega
  rcases Classical.em (ow s l t t i0 * SL s ≤ sumL s * (SL s - 1)) with hgood | hbad
  · exact hgood
  exfalso
  have hbad : ow s l t t i0 * SL s ≥ sumL s * (SL s - 1) + 1 := by omega
  have hcs := sm_cnt l s.length t (by omega) (fun u hu => hin u (by omega))
  rcases last_or (fun a => ow s l a t (l.getD a 0).toNat * SL s ≤ sumL s * (SL s - 1)) t with hno | ⟨a0, ha0, hlate, hno⟩
  · -- nothing late
    have hb : ∀ i, i < s.length → (cnt l t i + if i = i0 then 1 else 0) * sumL s * SL s ≤ (t : Int) * s.getD i 0 * SL s + (sumL s - 1) := by
      intro i hi
      have hc0 := (last_call l i 0 t (by omega) (by omega))
      have hz : cnt l 0 i = 0 := by simp [cnt]
      rw [hz] at hc0
      by_cases hii : i = i0
      · subst hii
        rw [if_pos rfl]
        refine ari2 (t := t) (si := s.getD i 0) (e := cnt l t i + 1) ?_
        rw [show 0 + (cnt l t i + 1) - 1 = cnt l t i by omega]
        exact hbad
      · rw [if_neg hii, Int.add_zero]
        by_cases hc : 0 < cnt l t i
        · obtain ⟨a, _, g2, g3, g4⟩ := hc0.2 hc
          have hna := hno a g2
          rw [g3, Int.toNat_natCast] at hna
          refine ari2 (t := t) (si := s.getD i 0) ?_
          rw [show 0 + cnt l t i - 1 = cnt l a i by omega]
          have : ow s l a t i = t * s.getD i 0 - cnt l a i * sumL s := rfl
          rw [← this]
          omega
        · have : cnt l t i = 0 := by omega
          rw [this, Int.zero_mul, Int.zero_mul]
          have := Int.mul_nonneg (Int.mul_nonneg (Int.natCast_nonneg t) (show 0 ≤ s.getD i 0 by have := hsp i hi; omega)) (show 0 ≤ SL s by omega)
          omega
    have hsum := sm_le s.length hb
    rw [sm_mulr, sm_mulr, sm_add, hcs, sm_one, if_pos hi0, sm_add, sm_mulr, sm_mul, sm_getD, sm_const] at hsum
    generalize sumL s = T at *
    generalize SL s = S at *
    generalize (s.length : Int) = n at *
    have k1 : T * S ≤ n * (T - 1) := by grind
    exact ari5 hn hT hS k1
  · -- the last late one
    have hd0 := hin a0 (by omega)
    obtain ⟨d, hd⟩ : ∃ d : Nat, l.getD a0 0 = d := ⟨(l.getD a0 0).toNat, by omega⟩
    rw [hd] at hd0
    have hlate : ow s l a0 t d * SL s ≤ sumL s * (SL s - 1) := by have := hlate; rw [hd, Int.toNat_natCast] at this; exact this
    have hdn : d < s.length := by omega
    have hcs0 := sm_cnt l s.length (a0 + 1) (by omega) (fun u hu => hin u (by omega))
    have hb : ∀ i, i < s.length → (cnt l t i - cnt l (a0 + 1) i + if i = i0 then 1 else 0) * sumL s * SL s ≤ ((t : Int) - (a0 + 1 : Nat)) * s.getD i 0 * SL s + ((2 * sumL s - 2) - if i = d then 2 * sumL s - 2 else 0) := by
      intro i hi
      have hsi := hsp i hi
      have hc0 := last_call l i (a0 + 1) t (by omega) (by omega)
      have hcd := cnt_succ l a0 (by omega) i
      rw [hd] at hcd
      generalize he : (cnt l t i - cnt l (a0 + 1) i + if i = i0 then 1 else 0) = e
      by_cases he1 : 1 ≤ e
      · have F1 : ((t : Int) * s.getD i 0 - (cnt l (a0 + 1) i + e - 1) * sumL s) * SL s ≥ sumL s * (SL s - 1) + 1 := by
          by_cases hii : i = i0
          · rw [if_pos hii] at he
            rw [show cnt l (a0 + 1) i + e - 1 = cnt l t i by omega, hii]
            exact hbad
          · rw [if_neg hii] at he
            obtain ⟨a, g1, g2, g3, g4⟩ := hc0.2 (by omega)
            have hna := hno a (by omega) g2
            rw [g3, Int.toNat_natCast] at hna
            rw [show cnt l (a0 + 1) i + e - 1 = cnt l a i by omega]
            have : ow s l a t i = t * s.getD i 0 - cnt l a i * sumL s := rfl
            rw [← this]
            omega
        have hid : i ≠ d := by
          intro hid
          subst hid
          rw [if_pos rfl] at hcd
          have := ari3 (t := t) (si := s.getD i 0) (c := cnt l a0 i) (c' := cnt l (a0 + 1) i + e - 1) (T := sumL s) (S := SL s) (by omega) (by omega) (by omega)
          have e1 : ow s l a0 t i = t * s.getD i 0 - cnt l a0 i * sumL s := rfl
          rw [e1] at hlate
          omega
        rw [if_neg (by omega)] at hcd
        rw [if_neg hid, Int.sub_zero]
        refine ari1 F1 ?_
        have hopen : ¬ ow s l a0 (a0 + 1) i * SL s ≥ sumL s := by
          intro ho
          have hm := called_min hs hl (t := a0) (by omega) hi ho
          rw [hd, Int.toNat_natCast] at hm
          have hA := ari3 (t := t) (si := s.getD i 0) (c := cnt l a0 i) (c' := cnt l (a0 + 1) i + e - 1) (T := sumL s) (S := SL s) (by omega) (by omega) (by omega)
          exact ari4 (t := t) (t0 := (a0 + 1 : Nat)) (hsp d hdn) hsi hlate (show ((t : Int) * s.getD i 0 - cnt l a0 i * sumL s) * SL s > sumL s * (SL s - 1) by omega) hm
        have e1 : ow s l a0 (a0 + 1) i = (a0 + 1 : Nat) * s.getD i 0 - cnt l a0 i * sumL s := rfl
        rw [show cnt l (a0 + 1) i = cnt l a0 i by omega, ← e1]
        omega
      · have he0 : e = 0 := by
          have : 0 ≤ e := by rw [← he]; split <;> omega
          omega
        rw [he0, Int.zero_mul, Int.zero_mul]
        have := Int.mul_nonneg (Int.mul_nonneg (show 0 ≤ (t : Int) - (a0 + 1 : Nat) by omega) (show 0 ≤ s.getD i 0 by omega)) (show 0 ≤ SL s by omega)
        split <;> omega
    have hsum := sm_le s.length hb
    rw [sm_mulr, sm_mulr, sm_add, sm_sub, hcs, hcs0, sm_one, if_pos hi0, sm_add, sm_mulr, sm_mul, sm_getD, sm_sub, sm_const, sm_one, if_pos hdn] at hsum
    generalize sumL s = T at *
    generalize SL s = S at *
    generalize (s.length : Int) = n at *
    generalize (t : Int) - (a0 + 1 : Nat) = x at *
    have k1 : T * S ≤ n * (2 * T - 2) - (2 * T - 2) := by grind
    exact ari6 hn hS k1
end
end Go.Tri
