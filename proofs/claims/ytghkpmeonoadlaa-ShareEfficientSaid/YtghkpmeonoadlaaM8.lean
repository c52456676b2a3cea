/-
  THE WINNER'S PARTS: in lowest terms, efficient, at most one between; the score.
-/
import Derived.Test.YtghkpmeonoadlaaB26
namespace Go.Tri
open Go.Proofs

theorem gL_univ {xs : List Int} {d : Nat} : ∀ k, (∀ j, j < k → (d : Int) ∣ xs.getD j 0) → d ∣ gL xs k
  | 0, _ => by simp [gL]
  | k + 1, h => by
    have e : gL xs (k + 1) = Nat.gcd (gL xs k) (xs.getD k 0).natAbs := rfl
    rw [e]
    exact Nat.dvd_gcd (gL_univ k fun j hj => h j (by omega)) (Int.ofNat_dvd_left.1 (h k (by omega)))
theorem gP_low {nums : List Int} {den : Int} (h1 : 1 ≤ den) : gP (lowN nums den) (den.tdiv (gP nums den)) = 1 := by
  have hg := gP_pos (nums := nums) h1
  have hd1 : 1 ≤ den.tdiv (gP nums den) := (low_bd (x := 0) hg (Int.le_refl _) (by omega) gP_dvd h1).2.2.1
  have hk := gP_pos (nums := lowN nums den) hd1
  have q1 : gP (lowN nums den) (den.tdiv (gP nums den)) ∣ den.tdiv (gP nums den) := gP_dvd
  have q2 : ∀ j, j < nums.length → gP (lowN nums den) (den.tdiv (gP nums den)) ∣ (nums.getD j 0).tdiv (gP nums den) := fun j hj => by
    rw [← lowN_get hj]
    exact gP_dvdn (by rw [lowN_len]; exact hj)
  have q3 : gP nums den ∣ den := gP_dvd
  have q4 : ∀ j, j < nums.length → gP nums den ∣ nums.getD j 0 := fun j hj => gP_dvdn hj
  generalize hkk : gP (lowN nums den) (den.tdiv (gP nums den)) = k at *
  have r1 : k * gP nums den ∣ den := by
    have := Int.mul_dvd_mul_right (gP nums den) q1
    rwa [Int.tdiv_mul_cancel q3] at this
  have r2 : ∀ j, j < nums.length → k * gP nums den ∣ nums.getD j 0 := fun j hj => by
    have := Int.mul_dvd_mul_right (gP nums den) (q2 j hj)
    rwa [Int.tdiv_mul_cancel (q4 j hj)] at this
  obtain ⟨c, hc⟩ : ∃ c : Nat, k * gP nums den = c := ⟨(k * gP nums den).toNat, by
    have := Int.mul_pos (show 0 < k by omega) (show 0 < gP nums den by omega)
    omega⟩
  rw [hc] at r1 r2
  have r3 : c ∣ Nat.gcd den.natAbs (gL nums nums.length) := Nat.dvd_gcd (Int.ofNat_dvd_left.1 r1) (gL_univ _ r2)
  have r4 : (c : Int) ∣ gP nums den := Int.ofNat_dvd.2 r3
  have r5 := Int.le_of_dvd (by omega) r4
  rw [← hc] at r5
  rcases (by omega : k = 1 ∨ 2 ≤ k) with h | h
  · exact h
  · have := Int.mul_le_mul_of_nonneg_right h (show 0 ≤ gP nums den by omega)
    omega
theorem mulB_low {g : Nat → Int} {nums : List Int} {den : Int} : ∀ n, n ≤ nums.length → mulB g (lowN nums den) (den.tdiv (gP nums den)) n * gP nums den = mulB g nums den n
  | 0, _ => by simp [mulB]
  | n + 1, h => by
    simp only [mulB]
    rw [Int.add_mul, mulB_low n (by omega), lowN_get (by omega), Int.mul_assoc, Int.sub_mul, Int.tdiv_mul_cancel (gP_dvdn (by omega)), Int.tdiv_mul_cancel gP_dvd]
theorem w_isP {a b : List Int} (ha : Pts a) (hb : Pts b) (hl : a.length = b.length) : IsP (wN a b) (wD a b) a.length := by
  obtain ⟨h1, h2, h3⟩ := wN_bd ha hb hl
  exact ⟨h2, h1.1, by omega, h3, gP_low (wNum_bd ha hb hl).1⟩
theorem w_cd {a b : List Int} (h : boE a b = 0) : cdE a b (wN a b) (wD a b) = 0 := by
  obtain ⟨ha, hb, hl⟩ := boE_inv h
  unfold cdE
  rw [if_pos h, if_pos (w_isP ha hb hl)]
/-- What the numbers come to, in lowest terms. -/
theorem w_fac {a b : List Int} (ha : Pts a) (hb : Pts b) (hl : a.length = b.length) : ∃ q : Int, 1 ≤ q ∧ wD a b * q = wDen a b ∧ mulA (fA a) (wN a b) a.length * q = wS a b ∧ mulB (fA b) (wN a b) (wD a b) a.length * q = wS a b := by
  obtain ⟨h1, h2, h3, h4⟩ := wNum_bd ha hb hl
  obtain ⟨s1, s2⟩ := wS_both ha hb hl
  exact ⟨gP (wNum a b) (wDen a b), gP_pos h1, Int.tdiv_mul_cancel gP_dvd, (mulA_low _ (by omega)).trans s1, (mulB_low _ (by omega)).trans s2⟩
theorem w_eq {a b : List Int} (ha : Pts a) (hb : Pts b) (hl : a.length = b.length) : mulB (fA b) (wN a b) (wD a b) a.length = mulA (fA a) (wN a b) a.length := by
  obtain ⟨q, h1, h2, h3, h4⟩ := w_fac ha hb hl
  exact Int.eq_of_mul_eq_mul_right (show q ≠ 0 by omega) (h4.trans h3.symm)
theorem mulA_ones {f : Nat → Int} {m : Nat} {l : List Int} (hf : ∀ j, f j = l.getD j 0) : ∀ n, n ≤ m → mulA f (List.replicate m 1) n = sumL l n
  | 0, _ => by simp [mulA, sumL]
  | n + 1, h => by
    simp only [mulA, sumL]
    rw [mulA_ones hf n (by omega), show (List.replicate m (1 : Int)).getD n 0 = 1 by simp [List.getD, show n < m by omega], hf]
    omega
theorem w_half {a b : List Int} (ha : Pts a) (hb : Pts b) (hl : a.length = b.length) : 100 * wDen a b ≤ wS a b * 2 := by
  obtain ⟨u, v, hu, hv, huv, h⟩ := best (x := List.replicate a.length 1) (D := 2) ha hb hl (fun j hj => by
    rw [show (List.replicate a.length (1 : Int)).getD j 0 = 1 by simp [List.getD, hj]]
    omega)
  rw [mulB_eq (b := b) (fun j => rfl), mulA_ones (l := a) (fun j => rfl) _ (Nat.le_refl _), mulA_ones (l := b) (fun j => rfl) _ (Nat.le_refl _), ha.2.2.2] at h
  have hs := hb.2.2.2
  rw [← hl] at hs
  rw [hs] at h
  omega
def bits (n s : Nat) : List Int := (List.range n).map fun j => (bt s j : Int)
theorem bits_get {n s j : Nat} (h : j < n) : (bits n s).getD j 0 = bt s j := by simp [bits, List.getD, h]
theorem mul_bits {f g : Nat → Int} {m s : Nat} : ∀ n, n ≤ m → mulA f (bits m s) n = sA f s n ∧ mulB g (bits m s) 1 n = sB g s n
  | 0, _ => ⟨rfl, rfl⟩
  | n + 1, h => by
    obtain ⟨h1, h2⟩ := mul_bits (f := f) (g := g) (m := m) (s := s) n (by omega)
    simp only [mulA, mulB, sA, sB]
    rw [h1, h2, bits_get (by omega)]
    rcases bt_two s n with h3 | h3 <;> rw [h3] <;> simp
theorem w_whole {a b : List Int} (ha : Pts a) (hb : Pts b) (hl : a.length = b.length) (s : Nat) : les (fA a) (fA b) a.length s * wDen a b ≤ wS a b := by
  obtain ⟨u, v, hu, hv, huv, h⟩ := best (x := bits a.length s) (D := 1) ha hb hl (fun j hj => by
    rw [bits_get hj]
    have := bt_two s j
    omega)
  rw [(mul_bits (f := fA a) (g := fA b) a.length (Nat.le_refl _)).1, (mul_bits (f := fA a) (g := fA b) a.length (Nat.le_refl _)).2] at h
  have e1 : les (fA a) (fA b) a.length s ≤ sA (fA a) s a.length := by unfold les minI; split <;> omega
  have e2 : les (fA a) (fA b) a.length s ≤ sB (fA b) s a.length := by unfold les minI; split <;> omega
  have h1 := Int.mul_le_mul_of_nonneg_left e1 hu
  have h2 := Int.mul_le_mul_of_nonneg_left e2 hv
  rw [← huv, Int.mul_add, Int.mul_comm _ u, Int.mul_comm _ v]
  omega
/-- Numbers of a ratio in lowest terms keep what its own numbers keep. -/
theorem rat_le {p d q m c : Int} (hd : 1 ≤ d) (hq : 1 ≤ q) (h : m * (d * q) ≤ p * q * c) : m * (d.tdiv (gR p d)) ≤ (p.tdiv (gR p d)) * c := by
  have hg := gR_pos (a := p) hd
  have e1 : gR p d ∣ p := by unfold gR; exact Int.ofNat_dvd_left.2 (Nat.gcd_dvd_left _ _)
  have e2 : gR p d ∣ d := by unfold gR; exact Int.ofNat_dvd_left.2 (Nat.gcd_dvd_right _ _)
  have t1 := Int.tdiv_mul_cancel e1
  have t2 := Int.tdiv_mul_cancel e2
  refine Int.le_of_mul_le_mul_right (?_ : _ * (gR p d * q) ≤ _ * (gR p d * q)) (Int.mul_pos (show 0 < gR p d by omega) (by omega))
  have a1 : m * d.tdiv (gR p d) * (gR p d * q) = m * ((d.tdiv (gR p d) * gR p d) * q) := by grind
  have a2 : p.tdiv (gR p d) * c * (gR p d * q) = (p.tdiv (gR p d) * gR p d) * q * c := by grind
  rw [a1, a2, t1, t2]
  exact h
/-- Sums of one driver's points over the order. -/
theorem sf_su {f : Nat → Int} {L : List Int} : ∀ k, k ≤ L.length → sfL f L k = suL (fun x => f x.toNat) (L.take k)
  | 0, _ => by simp [sfL, suL]
  | k + 1, h => by
    simp only [sfL]
    rw [sf_su k (by omega), take_succ_getD _ _ (by omega), suL_app, suL_one]
theorem sf_all {a : List Int} {n : Nat} (lt : Int → Int → Bool) (hs : sumL a n = 100) : sfL (fA a) (sortP lt (idx n) n) n = 100 := by
  rw [sf_su _ (by rw [sortP_len]; exact Nat.le_refl _), List.take_of_length_le (by rw [sortP_len]; exact Nat.le_refl _), suL_sortP _ _ _ _ (by rw [idx_len]; exact Nat.le_refl _), List.take_of_length_le (by rw [idx_len]; exact Nat.le_refl _)]
  exact (suL_idx a n).trans hs
theorem sf_mono {f : Nat → Int} {L : List Int} {k m : Nat} (hm : ∀ j, j < m → 0 ≤ f (L.getD j 0).toNat) : k ≤ m → sfL f L k ≤ sfL f L m := by
  induction m with
  | zero => intro h; rw [show k = 0 by omega]; exact Int.le_refl _
  | succ m ih =>
    intro h
    rcases (by omega : k ≤ m ∨ k = m + 1) with h1 | rfl
    · have := ih (fun j hj => hm j (by omega)) h1
      have := hm m (by omega)
      simp only [sfL]
      omega
    · exact Int.le_refl _
theorem sf_const {f : Nat → Int} {L : List Int} {k m : Nat} (hz : ∀ j, k ≤ j → j < m → f (L.getD j 0).toNat = 0) : k ≤ m → sfL f L m = sfL f L k := by
  induction m with
  | zero => intro h; rw [show k = 0 by omega]
  | succ m ih =>
    intro h
    rcases (by omega : k ≤ m ∨ k = m + 1) with h1 | rfl
    · simp only [sfL]
      rw [ih (fun j h2 h3 => hz j h2 (by omega)) h1, hz m h1 (by omega)]
      omega
    · rfl
theorem low_sign {x g : Int} (_hg : 1 ≤ g) (h0 : 0 ≤ x) (hd : g ∣ x) : (0 < x.tdiv g → 0 < x) := fun h => by
  rcases (by omega : x = 0 ∨ 0 < x) with rfl | h1
  · simp at h
  · exact h1
/-- Where a thing stands in the order, and what that says of its number. -/
theorem w_place {a b : List Int} (ha : Pts a) (hb : Pts b) (hl : a.length = b.length) {j : Nat} (hj : j < a.length) : ∃ p, p < a.length ∧ (ordR (fA a) (fA b) a.length).getD p 0 = j ∧ (0 < (wN a b).getD j 0 → p ≤ wR a b) ∧ ((wN a b).getD j 0 < wD a b → wR a b ≤ p) ∧ (0 < (wN a b).getD j 0 → p = wR a b → 0 < ldR (fA a) (fA b) (ordR (fA a) (fA b) a.length) p) := by
  obtain ⟨i, hi, hij⟩ := memI_at (ord_all (lt := ltR (fA a) (fA b)) a.length (Nat.le_refl _) j hj)
  have hi : i < a.length := by rw [sortP_len] at hi; exact hi
  have hij : (ordR (fA a) (fA b) a.length).getD i 0 = j := hij
  obtain ⟨g1, g2⟩ := wNum_get ha hb hl hi
  obtain ⟨d1, d2, d3, d4⟩ := wNum_bd ha hb hl
  rw [hij, Int.toNat_natCast] at g1 g2
  have hg := gP_pos (nums := wNum a b) d1
  have e1 : (wN a b).getD j 0 = ((wNum a b).getD j 0).tdiv (gP (wNum a b) (wDen a b)) := lowN_get (by omega)
  refine ⟨i, hi, hij, fun h => ?_, fun h => ?_, fun h hw => ?_⟩
  · refine Classical.byContradiction fun hn => ?_
    rw [e1, g2 (by omega)] at h
    simp at h
  · refine Classical.byContradiction fun hn => ?_
    rw [e1, g1 (by omega)] at h
    exact absurd h (Int.lt_irrefl _)
  · rw [e1] at h
    have h1 := low_sign hg (d4 j).1 (gP_dvdn (by omega)) h
    have e2 : (wNum a b).getD j 0 = ldR (fA a) (fA b) (ordR (fA a) (fA b) a.length) (wR a b) := by
      unfold wNum winN
      rw [getD_setL, if_pos ⟨by rw [← hw, hij]; rfl, by rw [setW_len]; exact hj⟩]
    rw [hw, ← e2]
    exact h1
theorem w_eff {a b : List Int} (ha : Pts a) (hb : Pts b) (hl : a.length = b.length) : Eff (fA a) (fA b) a.length (wN a b) (wD a b) := by
  have hf : in100 a.length (fA a) := pts_in ha
  have hg : in100 a.length (fA b) := by rw [hl]; exact pts_in hb
  obtain ⟨w1, w2, w3⟩ := wR_spec ha hb hl
  have hsa : sfL (fA a) (ordR (fA a) (fA b) a.length) a.length = 100 := sf_all _ ha.2.2.2
  have hsb : sfL (fA b) (ordR (fA a) (fA b) a.length) a.length = 100 := sf_all _ (by rw [hl]; exact hb.2.2.2)
  have hnn : ∀ m, m < a.length → 0 ≤ fA a ((ordR (fA a) (fA b) a.length).getD m 0).toNat ∧ 0 ≤ fA b ((ordR (fA a) (fA b) a.length).getD m 0).toNat := fun m hm => by
    have h1 := ordR_mem (f := fA a) (g := fA b) (n := a.length) _ (getD_memI (j := m) (by rw [ordR_len]; exact hm))
    exact ⟨(hf _ (by omega)).1, (hg _ (by omega)).1⟩
  have hr : ∀ i j, i < j → j < a.length → geR (fA a) (fA b) ((ordR (fA a) (fA b) a.length).getD i 0) ((ordR (fA a) (fA b) a.length).getD j 0) := fun i j => ord_ratio hf hg
  have hld := ldR_sf (f := fA a) (g := fA b) (L := ordR (fA a) (fA b) a.length)
  intro i hi
  obtain ⟨p, p1, p2, p3, p4, p5⟩ := w_place ha hb hl hi
  have key : ∀ m, m < a.length → ∀ x y : Int, x = fA a ((ordR (fA a) (fA b) a.length).getD m 0).toNat → y = fA b ((ordR (fA a) (fA b) a.length).getD m 0).toNat → (p < m → x * fA b i ≤ fA a i * y) ∧ (m < p → fA a i * y ≤ x * fA b i) := fun m hm x y hx hy => by
    refine ⟨fun h => ?_, fun h => ?_⟩
    · have := hr p m h hm
      unfold geR at this
      rw [p2, Int.toNat_natCast, ← hx, ← hy] at this
      exact this
    · have := hr m p h p1
      unfold geR at this
      rw [p2, Int.toNat_natCast, ← hx, ← hy] at this
      exact this
  refine ⟨⟨?_, ?_⟩, fun k hk => ?_⟩
  · rintro ⟨h1, h2, h3⟩
    have hz : ∀ m, p ≤ m → m < a.length → fA a ((ordR (fA a) (fA b) a.length).getD m 0).toNat = 0 := fun m h4 h5 => by
      rcases (by omega : p = m ∨ p < m) with rfl | h6
      · rw [p2, Int.toNat_natCast]; exact h3
      · have := (key m h5 _ _ rfl rfl).1 h6
        rw [h3, Int.zero_mul] at this
        have h7 := (hnn m h5).1
        rcases (by omega : fA a ((ordR (fA a) (fA b) a.length).getD m 0).toNat = 0 ∨ 0 < fA a ((ordR (fA a) (fA b) a.length).getD m 0).toNat) with h8 | h8
        · exact h8
        · have := Int.mul_pos h8 h2
          omega
    have c1 := sf_const (m := a.length) hz (by omega)
    have c2 := sf_mono (f := fA b) (L := ordR (fA a) (fA b) a.length) (k := 0) (m := p) (fun j hj => (hnn j (by omega)).2) (Nat.zero_le _)
    have c3 := hld p
    have c4 : sfL (fA b) (ordR (fA a) (fA b) a.length) 0 = 0 := rfl
    rcases (by have := p3 h1; omega : p < wR a b ∨ p = wR a b) with h9 | h9
    · have h10 := w2 p h9
      unfold toR at h10
      rw [p2, Int.toNat_natCast] at h10
      omega
    · have h10 := p5 h1 h9
      omega
  · rintro ⟨h1, h2, h3⟩
    have hz : ∀ m, m ≤ p → fA b ((ordR (fA a) (fA b) a.length).getD m 0).toNat = 0 := fun m h4 => by
      rcases (by omega : p = m ∨ m < p) with rfl | h6
      · rw [p2, Int.toNat_natCast]; exact h3
      · have := (key m (by omega) _ _ rfl rfl).2 h6
        rw [h3, Int.mul_zero] at this
        have h7 := (hnn m (by omega)).2
        rcases (by omega : fA b ((ordR (fA a) (fA b) a.length).getD m 0).toNat = 0 ∨ 0 < fA b ((ordR (fA a) (fA b) a.length).getD m 0).toNat) with h8 | h8
        · exact h8
        · have := Int.mul_pos h2 h8
          omega
    have c0 : ∀ k, k ≤ p + 1 → sfL (fA b) (ordR (fA a) (fA b) a.length) k = 0 := fun k hk => (sf_const (k := 0) (m := k) (fun j _ h5 => hz j (by omega)) (Nat.zero_le _))
    have c2 := sf_mono (f := fA a) (L := ordR (fA a) (fA b) a.length) (k := wR a b + 1) (m := a.length) (fun j hj => (hnn j (by omega)).1) (by omega)
    have c3 := hld (wR a b + 1)
    rw [c0 _ (by have := p4 h1; omega)] at c3
    have c4 : ldR (fA a) (fA b) (ordR (fA a) (fA b) a.length) (wR a b + 1) = ldR (fA a) (fA b) (ordR (fA a) (fA b) a.length) (wR a b) - toR (fA a) (fA b) ((ordR (fA a) (fA b) a.length).getD (wR a b) 0) := rfl
    omega
  · rintro ⟨h1, h2, h3⟩
    obtain ⟨q, q1, q2, q3, q4, q5⟩ := w_place ha hb hl hk
    have h5 := p3 h1
    have h6 := q4 h2
    rcases (by omega : p = q ∨ p < q) with rfl | h7
    · have : i = k := by omega
      subst this
      omega
    · have := (key q q1 _ _ rfl rfl).1 h7
      rw [q2, Int.toNat_natCast] at this
      omega
/-- How many are between. -/
def cnB (l : List Int) (d : Int) : Nat → Int
  | 0 => 0
  | k + 1 => cnB l d k + if 0 < l.getD k 0 ∧ l.getD k 0 < d then 1 else 0
theorem cnB_bd (l : List Int) (d : Int) : ∀ k : Nat, 0 ≤ cnB l d k ∧ cnB l d k ≤ k
  | 0 => by simp [cnB]
  | k + 1 => by
    have := cnB_bd l d k
    simp only [cnB]
    split <;> omega
theorem cnB_one {l : List Int} {d : Int} {t : Nat} (h : ∀ j, j < l.length → 0 < l.getD j 0 → l.getD j 0 < d → j = t) : ∀ k, k ≤ l.length → cnB l d k ≤ if t < k then 1 else 0
  | 0, _ => by simp [cnB]
  | k + 1, hk => by
    have h1 := cnB_one h k (by omega)
    simp only [cnB]
    by_cases h2 : 0 < l.getD k 0 ∧ l.getD k 0 < d
    · have h3 := h k (by omega) h2.1 h2.2
      rw [if_pos h2, if_pos (by omega)]
      rw [if_neg (by omega)] at h1
      omega
    · rw [if_neg h2]
      by_cases h3 : t < k
      · rw [if_pos h3] at h1
        rw [if_pos (by omega)]
        omega
      · rw [if_neg h3] at h1
        split <;> omega
theorem w_between {a b : List Int} (ha : Pts a) (hb : Pts b) (hl : a.length = b.length) : cnB (wN a b) (wD a b) (wN a b).length ≤ 1 := by
  obtain ⟨h1, h2, h3⟩ := wN_bd ha hb hl
  have := cnB_one (l := wN a b) (d := wD a b) (t := ((ordR (fA a) (fA b) a.length).getD (wR a b) 0).toNat) (fun j hj h4 h5 => by
    obtain ⟨p, p1, p2, p3, p4, p5⟩ := w_place ha hb hl (show j < a.length by omega)
    have h6 := p3 h4
    have h7 := p4 h5
    rw [show wR a b = p by omega, p2, Int.toNat_natCast]) _ (Nat.le_refl _)
  split at this <;> omega
end Go.Tri
