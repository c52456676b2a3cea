/-
  THE BEST CERTIFICATE, and what Share says.
-/
import Derived.Test.YthocieklelgmbaaM4
namespace Go.Tri
open Go.Proofs

theorem mul_mul (l : List Int) (a b : Int) : mul (mul l a) b = mul l (a * b) := by
  refine ext_getD (by rw [mul_len, mul_len, mul_len]) (fun q hq => ?_)
  rw [mul_len, mul_len] at hq
  rw [mul_get _ _ (by rw [mul_len]; exact hq), mul_get _ _ hq, mul_get _ _ hq, Int.mul_assoc]
theorem mul_id (l : List Int) : mul l 1 = l := by
  refine ext_getD (mul_len _ _) (fun q hq => ?_)
  rw [mul_len] at hq
  rw [mul_get _ _ hq, Int.mul_one]
theorem le_of_mul {a b c : Int} (hc : 1 ≤ c) (h : c * a ≤ c * b) : a ≤ b := Int.le_of_mul_le_mul_left h (by omega)

theorem cert_of {l : List Int} {long : Nat} {T : Int} {B : Nat} (hn : Nds l) (hl1 : 1 ≤ long) (hl : long ≤ l.length) (hB : 1 ≤ B) (hf : okT (mul l B) long T = false) : ∃ S C, Cert l long S C ∧ T * C < B * S := by
  have hml := mul_len l (B : Int)
  have h12 := hn.2.1
  have hnq : ¬ ∀ q, q < 12 → rdT (mul l B) long T (mul l B).length q = rdT (mul l B) long T ((mul l B).length - 1) q := fun h => by
    have := (okT_iff (l := mul l B) (by rw [hml]; exact hn.1)).2 h
    rw [hf] at this
    cases this
  obtain ⟨q, hq⟩ := Classical.not_forall.1 hnq
  obtain ⟨hq12, hne⟩ := Classical.not_imp.1 hq
  have hup : rdT (mul l B) long T ((mul l B).length - 1) q < rdT (mul l B) long T (mul l B).length q := by
    have := rdT_upto (l := mul l B) (long := long) (T := T) q (a := (mul l B).length - 1) (b := (mul l B).length) (by omega)
    omega
  have hq2 : q < (mul l B).length := by
    rcases Nat.lt_or_ge q (mul l B).length with h | h
    · exact h
    · rw [rdT_out h, rdT_out h] at hup; omega
  have n1 : 1 ≤ (mul l B).length := by rw [hml]; exact hn.1
  have n2 : long ≤ (mul l B).length := by rw [hml]; exact hl
  obtain ⟨a, b, h1, h2, h3⟩ := pigeon (mul l B).length (hW (mul l B) long T q) (fun i _ => hW_lt n1 hq2 i)
  obtain ⟨r1, r2, r3⟩ := ring n1 hl1 n2 hq2 hup h1 h2 h3
  have hS : ∀ k, sm k (EW (mul l B) long T q) = B * sm k (fun i => if eW (mul l B) long T q i = true then l.getD (yW (mul l B) long T q i) 0 else 0) := fun k => by
    rw [← sm_mul]
    refine sm_congr fun i _ => ?_
    unfold EW
    have hy : yW (mul l B) long T q i < l.length := by unfold yW; rw [hml]; exact arH_lt hn.1 _
    split
    · rw [mul_get _ _ hy, Int.mul_comm]
    · rw [Int.mul_zero]
  have hge : sm a (fun i => if eW (mul l B) long T q i = true then l.getD (yW (mul l B) long T q i) 0 else 0) ≤ sm b (fun i => if eW (mul l B) long T q i = true then l.getD (yW (mul l B) long T q i) 0 else 0) := sm_mono (fun i => by
    have hy : yW (mul l B) long T q i < l.length := by unfold yW; rw [hml]; exact arH_lt hn.1 _
    split
    · exact (hn.2.2 _ hy).1
    · omega) (Nat.le_of_lt h1)
  generalize hs1 : sm b (fun i => if eW (mul l B) long T q i = true then l.getD (yW (mul l B) long T q i) 0 else 0) = s1 at *
  generalize hs2 : sm a (fun i => if eW (mul l B) long T q i = true then l.getD (yW (mul l B) long T q i) 0 else 0) = s2 at *
  have e1 := hS b
  have e2 := hS a
  rw [hs1] at e1
  rw [hs2] at e2
  have hBS : (B : Int) * (s1 - s2) = sm b (EW (mul l B) long T q) - sm a (EW (mul l B) long T q) := by rw [Int.mul_sub, e1, e2]
  refine ⟨s1 - s2, sm b (cW (mul l B) long T q) - sm a (cW (mul l B) long T q), ⟨r1, ?_, by omega, fun D T' p hD hp => ?_⟩, by rw [hBS]; exact r2⟩
  · have w1 := way_hour (T := T) n1 hl1 n2 hq2 a
    have w2 := way_hour (T := T) n1 hl1 n2 hq2 b
    rw [h3] at w1
    obtain ⟨m, rfl⟩ : ∃ m, b = a + m := ⟨b - a, by omega⟩
    have w3 : sm m (fun i => wW (mul l B) long T q (a + i)) ≤ sm m (fun _ => (long : Int)) := sm_le fun i _ => by unfold wW; split <;> omega
    rw [sm_const] at w3
    rw [sm_split (wW (mul l B) long T q)] at w2
    have w4 : ((mul l B).length : Int) * (sm (a + m) (cW (mul l B) long T q) - sm a (cW (mul l B) long T q)) = sm m (fun i => wW (mul l B) long T q (a + i)) := by rw [Int.mul_sub]; omega
    have w5 : (long : Int) * m ≤ (mul l B).length * (long : Int) := by
      rw [Int.mul_comm]
      exact Int.mul_le_mul_of_nonneg_right (by omega) (by omega)
    exact le_of_mul (c := ((mul l B).length : Int)) (by omega) (by omega)
  · have := ring_big (l := l) (T := T) hp (by rw [← hml]; exact hq2) hD hB (Nat.le_of_lt h1) (fun x hx => r3 x (by rw [hml]; exact hx))
    rw [← hBS, ← Int.mul_assoc, Int.mul_comm D, Int.mul_assoc] at this
    exact le_of_mul (c := (B : Int)) (by omega) this

theorem max_nat {P : Int → Prop} : ∀ N : Nat, (∀ s, P s → 0 ≤ s ∧ s ≤ N) → (∃ s, P s) → ∃ s, P s ∧ ∀ s', P s' → s' ≤ s := by
  intro N
  induction N with
  | zero =>
    rintro h ⟨s, hs⟩
    exact ⟨s, hs, fun s' hs' => by have := h s hs; have := h s' hs'; omega⟩
  | succ N ih =>
    rintro h ⟨s, hs⟩
    by_cases hN : P ((N + 1 : Nat) : Int)
    · exact ⟨_, hN, fun s' hs' => (h s' hs').2⟩
    · refine ih (fun s hs => ?_) ⟨s, hs⟩
      have := h s hs
      refine ⟨this.1, ?_⟩
      rcases (by omega : s ≤ N ∨ s = ((N + 1 : Nat) : Int)) with h1 | h1
      · exact h1
      · rw [h1] at hs; exact absurd hs hN
theorem max_quot {P : Int → Int → Prop} {N : Nat} (hP : ∀ s c, P s c → 0 ≤ s ∧ s ≤ N ∧ 1 ≤ c) : ∀ M : Nat, (∃ s c, P s c ∧ c ≤ M) → ∃ s c, P s c ∧ c ≤ M ∧ ∀ s' c', P s' c' → c' ≤ M → s' * c ≤ s * c' := by
  intro M
  induction M with
  | zero => rintro ⟨s, c, h, hc⟩; have := hP s c h; omega
  | succ M ih =>
    rintro ⟨s, c, h, hc⟩
    by_cases hM : ∃ s, P s ((M + 1 : Nat) : Int)
    · obtain ⟨s1, g1, g2⟩ := max_nat N (fun s hs => ⟨(hP s _ hs).1, (hP s _ hs).2.1⟩) hM
      by_cases hlow : ∃ s c, P s c ∧ c ≤ M
      · obtain ⟨s2, c2, k1, k2, k3⟩ := ih hlow
        have p2 := hP s2 c2 k1
        by_cases hcmp : s2 * ((M + 1 : Nat) : Int) ≤ s1 * c2
        · refine ⟨s1, _, g1, Int.le_refl _, fun s' c' h' hc' => ?_⟩
          have p' := hP s' c' h'
          rcases (by omega : c' ≤ M ∨ c' = ((M + 1 : Nat) : Int)) with q | q
          · have a1 := k3 s' c' h' q
            -- s'/c' <= s2/c2 <= s1/(M+1)
            refine le_of_mul (c := c2) (by omega) ?_
            have b1 : c2 * (s' * ((M + 1 : Nat) : Int)) = (s' * c2) * ((M + 1 : Nat) : Int) := by grind
            have b2 : (s' * c2) * ((M + 1 : Nat) : Int) ≤ (s2 * c') * ((M + 1 : Nat) : Int) := Int.mul_le_mul_of_nonneg_right a1 (by omega)
            have b3 : (s2 * c') * ((M + 1 : Nat) : Int) = (s2 * ((M + 1 : Nat) : Int)) * c' := by grind
            have b4 : (s2 * ((M + 1 : Nat) : Int)) * c' ≤ (s1 * c2) * c' := Int.mul_le_mul_of_nonneg_right hcmp (by omega)
            have b5 : (s1 * c2) * c' = c2 * (s1 * c') := by grind
            omega
          · rw [q] at h' ⊢
            exact Int.mul_le_mul_of_nonneg_right (g2 s' h') (by omega)
        · refine ⟨s2, c2, k1, by omega, fun s' c' h' hc' => ?_⟩
          rcases (by omega : c' ≤ M ∨ c' = ((M + 1 : Nat) : Int)) with q | q
          · exact k3 s' c' h' q
          · rw [q] at h' ⊢
            have := Int.mul_le_mul_of_nonneg_right (g2 s' h') (show 0 ≤ c2 by omega)
            omega
      · refine ⟨s1, _, g1, Int.le_refl _, fun s' c' h' hc' => ?_⟩
        rcases (by omega : c' ≤ M ∨ c' = ((M + 1 : Nat) : Int)) with q | q
        · exact absurd ⟨s', c', h', q⟩ hlow
        · rw [q] at h' ⊢
          exact Int.mul_le_mul_of_nonneg_right (g2 s' h') (by omega)
    · have hlow : ∃ s c, P s c ∧ c ≤ M := by
        refine ⟨s, c, h, ?_⟩
        rcases (by omega : c ≤ M ∨ c = ((M + 1 : Nat) : Int)) with q | q
        · exact q
        · rw [q] at h; exact absurd ⟨s, h⟩ hM
      obtain ⟨s2, c2, k1, k2, k3⟩ := ih hlow
      refine ⟨s2, c2, k1, by omega, fun s' c' h' hc' => ?_⟩
      rcases (by omega : c' ≤ M ∨ c' = ((M + 1 : Nat) : Int)) with q | q
      · exact k3 s' c' h' q
      · rw [q] at h'; exact absurd ⟨s', h'⟩ hM

theorem cert_bd {l : List Int} {long : Nat} (hn : Nds l) (hl1 : 1 ≤ long) {S C : Int} (h : Cert l long S C) : 0 ≤ S ∧ S ≤ ((long * (sumL l l.length).toNat : Nat) : Int) ∧ 1 ≤ C := by
  obtain ⟨p, hp⟩ := fea_sum (l := l) (long := long) hn.1 hl1 hn.2.2
  have h1 := h.2.2.2 1 (sumL l l.length) p (by omega) ⟨hp.nn, hp.size, fun y hy => by rw [Int.one_mul]; exact hp.enough y hy⟩
  have hs := sumL_bd hn.2.2 _ (Nat.le_refl _)
  have h2 := Int.mul_le_mul_of_nonneg_right h.2.1 hs.1
  refine ⟨h.2.2.1, ?_, h.1⟩
  rw [Int.natCast_mul, show (((sumL l l.length).toNat : Nat) : Int) = sumL l l.length by omega]
  omega
theorem cert_max {l : List Int} {long : Nat} (hn : Nds l) (hl1 : 1 ≤ long) : ∃ S C, Cert l long S C ∧ ∀ S' C', Cert l long S' C' → S' * C ≤ S * C' := by
  have h0 : Cert l long 0 1 := ⟨by omega, by omega, by omega, fun D T p _ hp => by
    rw [Int.mul_zero, Int.one_mul, ← hp.size]
    exact sm_nn hp.nn⟩
  obtain ⟨S, C, h1, _, h3⟩ := max_quot (P := Cert l long) (fun s c h => cert_bd hn hl1 h) long ⟨0, 1, h0, by omega⟩
  exact ⟨S, C, h1, fun S' C' h' => h3 S' C' h' h'.2.1⟩

theorem mul_wide {l : List Int} (hn : Nds l) {b : Nat} (hb : b ≤ 12) : bet 0 1000 (mul l b) (mul l b).length := mul_bet hn.2.2 (by omega) (by omega)
theorem mulOk {l : List Int} {long : Nat} {T : Int} (hn : Nds l) (hl1 : 1 ≤ long) (hl : long ≤ l.length) {b : Nat} (hb : b ≤ 12) (hT : 0 ≤ T) : okT (mul l b) long T = true ↔ Fea (mul l b) long T :=
  fea_iff (by rw [mul_len]; exact hn.1) (by rw [mul_len]; exact hn.2.1) hl1 (by rw [mul_len]; exact hl) (mul_wide hn hb) hT
theorem leM_iff {l : List Int} {long : Nat} {T : Int} (hn : Nds l) (hl1 : 1 ≤ long) (hl : long ≤ l.length) {b : Nat} (hb : b ≤ 12) : Fea (mul l b) long T ↔ (leL (mul l b) long : Int) ≤ T :=
  leL_iff (by rw [mul_len]; exact hn.1) (by rw [mul_len]; exact hn.2.1) hl1 (by rw [mul_len]; exact hl) (mul_wide hn hb)

/-- What Share returns. -/
structure ShIs (l : List Int) (long : Nat) (a b : Int) : Prop where
  q : ∃ d : Nat, 1 ≤ d ∧ d ≤ long ∧ a = leL (mul l d) long ∧ b = d
  least : ∀ d : Nat, 1 ≤ d → d ≤ long → a * d ≤ leL (mul l d) long * b
theorem shR_is {l : List Int} {long : Nat} : ∀ k, 2 ≤ k → (∃ d : Nat, 1 ≤ d ∧ d < k ∧ (shR l long k).1 = leL (mul l d) long ∧ (shR l long k).2 = d) ∧ ∀ d : Nat, 1 ≤ d → d < k → (shR l long k).1 * d ≤ leL (mul l d) long * (shR l long k).2 := by
  intro k
  induction k with
  | zero => intro h; omega
  | succ k ih =>
    intro hk
    by_cases h1 : k = 1
    · subst h1
      have e : shR l long (1 + 1) = ((leL l long : Int), 1) := rfl
      rw [e]
      refine ⟨⟨1, by omega, by omega, by rw [show ((1 : Nat) : Int) = 1 from rfl, mul_id], rfl⟩, fun d h2 h3 => ?_⟩
      rw [show d = 1 by omega, show ((1 : Nat) : Int) = 1 from rfl, mul_id]
      exact Int.le_refl _
    · obtain ⟨⟨d0, a1, a2, a3, a4⟩, hl⟩ := ih (by omega)
      rw [shR_succ l long (by omega)]
      split
      · next hlt =>
        refine ⟨⟨k, by omega, by omega, rfl, rfl⟩, fun d h2 h3 => ?_⟩
        show (leL (mul l k) long : Int) * d ≤ leL (mul l d) long * k
        rcases (by omega : d < k ∨ d = k) with h4 | rfl
        · have b1 := hl d h2 h4
          rw [a4] at b1 hlt
          refine le_of_mul (c := (d0 : Int)) (by omega) ?_
          have c1 : (d0 : Int) * (leL (mul l k) long * d) = (leL (mul l k) long * d0) * d := by grind
          have c2 : ((leL (mul l k) long : Int) * d0) * d ≤ ((shR l long k).1 * k) * d := Int.mul_le_mul_of_nonneg_right (by omega) (by omega)
          have c3 : ((shR l long k).1 * (k : Int)) * d = ((shR l long k).1 * d) * k := by grind
          have c4 : ((shR l long k).1 * (d : Int)) * k ≤ (leL (mul l d) long * d0) * k := Int.mul_le_mul_of_nonneg_right b1 (by omega)
          have c5 : ((leL (mul l d) long : Int) * d0) * k = d0 * (leL (mul l d) long * k) := by grind
          omega
        · exact Int.le_refl _
      · next hge =>
        refine ⟨⟨d0, a1, by omega, a3, a4⟩, fun d h2 h3 => ?_⟩
        rcases (by omega : d < k ∨ d = k) with h4 | rfl
        · exact hl d h2 h4
        · omega
theorem share_is {l : List Int} {long : Nat} (hl1 : 1 ≤ long) : ShIs l long (shR l long (max 2 (long + 1))).1 (shR l long (max 2 (long + 1))).2 := by
  obtain ⟨⟨d, h1, h2, h3, h4⟩, h5⟩ := shR_is (l := l) (long := long) (max 2 (long + 1)) (by omega)
  exact ⟨⟨d, h1, by omega, h3, h4⟩, fun d h6 h7 => h5 d h6 (by omega)⟩

/-- No plan, for any multiple of the needs, is better. -/
theorem sh_below {l : List Int} {long : Nat} (hn : Nds l) (hl1 : 1 ≤ long) (hl : long ≤ l.length) {a b : Int} (hs : ShIs l long a b) {D T : Int} {p : Nat → Int} (hD : 0 ≤ D) (hp : Big l long D T p) : D * a ≤ T * b := by
  have h12 := hn.2.1
  obtain ⟨S, C, hc, hmax⟩ := cert_max hn hl1
  obtain ⟨c, rfl⟩ : ∃ c : Nat, C = c := ⟨C.toNat, by have := hc.1; omega⟩
  have hc1 := hc.1
  have hc2 := hc.2.1
  have hle : (leL (mul l c) long : Int) ≤ S := by
    refine (leM_iff hn hl1 hl (by omega)).1 ((mulOk hn hl1 hl (by omega) hc.2.2.1).1 ?_)
    cases hok : okT (mul l c) long S with
    | true => rfl
    | false =>
      obtain ⟨S', C', g1, g2⟩ := cert_of hn hl1 hl (by omega) hok
      have := hmax S' C' g1
      rw [Int.mul_comm (c : Int)] at g2
      omega
  have h2 := hs.least c (by omega) (by omega)
  obtain ⟨d, e1, e2, e3, e4⟩ := hs.q
  have h3 := hc.2.2.2 D T p hD hp
  refine le_of_mul (c := (c : Int)) hc1 ?_
  have b0 : 0 ≤ b := by omega
  have c1 : (c : Int) * (D * a) = D * (a * c) := by grind
  have c2 : D * (a * (c : Int)) ≤ D * (leL (mul l c) long * b) := Int.mul_le_mul_of_nonneg_left h2 hD
  have c3 : D * ((leL (mul l c) long : Int) * b) ≤ D * (S * b) := Int.mul_le_mul_of_nonneg_left (Int.mul_le_mul_of_nonneg_right hle b0) hD
  have c4 : D * (S * b) = (D * S) * b := by grind
  have c5 : (D * S) * b ≤ ((c : Int) * T) * b := Int.mul_le_mul_of_nonneg_right h3 b0
  have c6 : ((c : Int) * T) * b = c * (T * b) := by grind
  omega
/-- Least is Share, rounded up. -/
theorem sh_round {l : List Int} {long : Nat} (hn : Nds l) (hl1 : 1 ≤ long) (hl : long ≤ l.length) {a b : Int} (hs : ShIs l long a b) : ((leL l long : Int) - 1) * b < a ∧ a ≤ leL l long * b := by
  have h12 := hn.2.1
  constructor
  · obtain ⟨d, e1, e2, e3, e4⟩ := hs.q
    by_cases h0 : leL l long = 0
    · rw [h0]
      omega
    · have hok : okT (mul l (1 : Nat)) long ((leL l long : Int) - 1) = false := by
        cases hx : okT (mul l (1 : Nat)) long ((leL l long : Int) - 1) with
        | false => rfl
        | true =>
          have := (mulOk hn hl1 hl (by omega) (by omega)).1 hx
          rw [show ((1 : Nat) : Int) = 1 from rfl, mul_id] at this
          have := leL_least hn.1 hn.2.1 hl1 hl hn.wide this
          omega
      obtain ⟨S, C, g1, g2⟩ := cert_of hn hl1 hl (Nat.le_refl 1) hok
      have hf := (leM_iff (T := a) hn hl1 hl (b := d) (by omega)).2 (by omega)
      obtain ⟨p, hp⟩ := fea_big.1 hf
      have h3 := g1.2.2.2 d a p (by omega) hp
      have hC := g1.1
      have i1 : (d : Int) * (((leL l long : Int) - 1) * C) ≤ d * (S - 1) := Int.mul_le_mul_of_nonneg_left (by omega) (by omega)
      rw [Int.mul_sub, Int.mul_one] at i1
      have i2 : (d : Int) * (((leL l long : Int) - 1) * C) = C * (((leL l long : Int) - 1) * b) := by rw [e4]; grind
      rcases (by omega : ((leL l long : Int) - 1) * b < a ∨ a ≤ ((leL l long : Int) - 1) * b) with h | h
      · exact h
      · have := Int.mul_le_mul_of_nonneg_left h (show 0 ≤ C by omega)
        omega
  · have := hs.least 1 (by omega) hl1
    rw [show ((1 : Nat) : Int) = 1 from rfl, mul_id] at this
    omega
theorem ceil_is {a b n : Int} (hb : 1 ≤ b) (ha : 0 ≤ a) (h1 : (n - 1) * b < a) (h2 : a ≤ n * b) : (a + b - 1).tdiv b = n := by
  rw [Int.tdiv_eq_ediv_of_nonneg (by omega)]
  rw [Int.sub_mul] at h1
  have h3 : (a + b - 1) / b < n + 1 := Int.ediv_lt_of_lt_mul (by omega) (by rw [Int.add_mul]; omega)
  have h4 : n ≤ (a + b - 1) / b := Int.le_ediv_of_mul_le (by omega) (by omega)
  omega
/-- Needs that are multiplied by k. -/
theorem sh_scaled {l : List Int} {long k : Nat} (hn : Nds l) (hn' : Nds (mul l k)) (hl1 : 1 ≤ long) (hl : long ≤ l.length) {a b a' b' : Int} (hs : ShIs l long a b) (hs' : ShIs (mul l k) long a' b') : k * a * b' = a' * b := by
  have h12 := hn.2.1
  have hlm : long ≤ (mul l k).length := by rw [mul_len]; exact hl
  obtain ⟨d, e1, e2, e3, e4⟩ := hs.q
  obtain ⟨d', f1, f2, f3, f4⟩ := hs'.q
  have i1 : k * a * b' ≤ a' * b := by
    have hf := (leM_iff (T := a') hn' hl1 hlm (b := d') (by omega)).2 (by omega)
    rw [mul_mul, show (k : Int) * (d' : Int) = ((k * d' : Nat) : Int) by rw [Int.natCast_mul]] at hf
    obtain ⟨p, hp⟩ := fea_big.1 hf
    have := sh_below hn hl1 hl hs (by omega) hp
    rw [Int.natCast_mul] at this
    have e : (k : Int) * a * b' = k * d' * a := by rw [f4]; grind
    omega
  have i2 : a' * b ≤ k * a * b' := by
    have h1 := hs'.least d (by omega) (by omega)
    have hf := (leM_iff (T := a) hn hl1 hl (b := d) (by omega)).2 (by omega)
    obtain ⟨p, hp⟩ := fea_big.1 hf
    have hf2 : Fea (mul (mul l k) d) long (k * a) := by
      rw [mul_mul, show (k : Int) * (d : Int) = ((k * d : Nat) : Int) by rw [Int.natCast_mul]]
      refine fea_big.2 ⟨fun i => k * p i, fun i hi => Int.mul_nonneg (by omega) (hp.nn i hi), by rw [sm_mul, hp.size], fun y hy => ?_⟩
      have e : cov l.length long (fun i => k * p i) y = k * cov l.length long p y := by
        unfold cov
        rw [← sm_mul]
        exact sm_congr fun x _ => by split <;> simp
      rw [e, Int.natCast_mul, Int.mul_assoc]
      exact Int.mul_le_mul_of_nonneg_left (hp.enough y hy) (by omega)
    have h2 := (leM_iff hn' hl1 hlm (b := d) (by omega)).1 hf2
    have h3 := Int.mul_le_mul_of_nonneg_right h2 (show 0 ≤ b' by omega)
    rw [e4]
    omega
  omega
theorem le_scaled {l : List Int} {long k : Nat} (hn : Nds l) (hn' : Nds (mul l k)) (hk : 1 ≤ k) (hl1 : 1 ≤ long) (hl : long ≤ l.length) : (leL (mul l k) long : Int) ≤ k * leL l long ∧ k * ((leL l long : Int) - 1) < leL (mul l k) long := by
  have hlm : long ≤ (mul l k).length := by rw [mul_len]; exact hl
  constructor
  · obtain ⟨p, hp⟩ := leL_fea hn.1 hn.2.1 hl1 hl hn.wide
    refine leL_least hn'.1 hn'.2.1 hl1 hlm hn'.wide (fea_big.2 ⟨fun i => k * p i, fun i hi => Int.mul_nonneg (by omega) (hp.nn i hi), by rw [sm_mul, hp.size], fun y hy => ?_⟩)
    have e : cov l.length long (fun i => k * p i) y = k * cov l.length long p y := by
      unfold cov
      rw [← sm_mul]
      exact sm_congr fun x _ => by split <;> simp
    rw [e]
    exact Int.mul_le_mul_of_nonneg_left (hp.enough y hy) (by omega)
  · by_cases h0 : leL l long = 0
    · rw [h0]; omega
    · have hok : okT (mul l (1 : Nat)) long ((leL l long : Int) - 1) = false := by
        cases hx : okT (mul l (1 : Nat)) long ((leL l long : Int) - 1) with
        | false => rfl
        | true =>
          have := (mulOk hn hl1 hl (by omega) (by omega)).1 hx
          rw [show ((1 : Nat) : Int) = 1 from rfl, mul_id] at this
          have := leL_least hn.1 hn.2.1 hl1 hl hn.wide this
          omega
      obtain ⟨S, C, g1, g2⟩ := cert_of hn hl1 hl (Nat.le_refl 1) hok
      obtain ⟨p, hp⟩ := fea_big.1 (leL_fea hn'.1 hn'.2.1 hl1 hlm hn'.wide)
      have h3 := g1.2.2.2 k _ p (by omega) hp
      have hC := g1.1
      have i1 : (k : Int) * (((leL l long : Int) - 1) * C) ≤ k * (S - 1) := Int.mul_le_mul_of_nonneg_left (by omega) (by omega)
      rw [Int.mul_sub, Int.mul_one] at i1
      have i2 : (k : Int) * (((leL l long : Int) - 1) * C) = C * (k * ((leL l long : Int) - 1)) := by grind
      rcases (by omega : k * ((leL l long : Int) - 1) < leL (mul l k) long ∨ (leL (mul l k) long : Int) ≤ k * ((leL l long : Int) - 1)) with h | h
      · exact h
      · have := Int.mul_le_mul_of_nonneg_left h (show 0 ≤ C by omega)
        omega
end Go.Tri
