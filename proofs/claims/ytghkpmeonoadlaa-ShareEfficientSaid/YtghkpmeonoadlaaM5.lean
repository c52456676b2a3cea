/-
  THE WINNER'S NUMBERS: what they come to.
-/
import Derived.Test.YtghkpmeonoadlaaM4
namespace Go.Tri
open Go.Proofs

theorem ldR_const {f g : Nat → Int} {L : List Int} {j : Nat} : ∀ k, j ≤ k → (∀ i, j ≤ i → i < k → toR f g (L.getD i 0) = 0) → ldR f g L k = ldR f g L j
  | 0, h, _ => by rw [show j = 0 by omega]
  | k + 1, h, hz => by
    rcases (by omega : j = k + 1 ∨ j ≤ k) with rfl | h1
    · rfl
    · simp only [ldR]
      rw [ldR_const k h1 fun i h2 h3 => hz i h2 (by omega), hz k h1 (by omega)]
      omega
theorem ld_end {a b : List Int} (ha : Pts a) (hb : Pts b) (hl : a.length = b.length) : ldR (fA a) (fA b) (ordR (fA a) (fA b) a.length) a.length = -100 := by
  have hlen := ordR_len (fA a) (fA b) a.length
  have hsum : suL (toR (fA a) (fA b)) (ordR (fA a) (fA b) a.length) = 200 := by
    unfold ordR
    rw [suL_sortP _ _ _ _ (by rw [idx_len]; exact Nat.le_refl _), List.take_of_length_le (by rw [idx_len]; exact Nat.le_refl _)]
    have e : toR (fA a) (fA b) = fun x => a.getD x.toNat 0 + b.getD x.toNat 0 := rfl
    rw [e, suL_add, suL_idx, suL_idx, ha.2.2.2]
    have := hb.2.2.2
    rw [← hl] at this
    rw [this]
    rfl
  rw [ldR_su _ (by omega), List.take_of_length_le (by omega), hsum]
  rfl
/-- Whatever is given as a whole is worth something. -/
theorem whole_pos {a b : List Int} (ha : Pts a) (hb : Pts b) (hl : a.length = b.length) {w : Nat} (hw : WSpec a b w) {j : Nat} (hj : j < w) : 1 ≤ toR (fA a) (fA b) ((ordR (fA a) (fA b) a.length).getD j 0) := by
  obtain ⟨h1, h2, h3⟩ := hw
  have hb0 := in100_ord ha hb hl (show j < a.length by omega)
  have hge := h2 j hj
  rcases (by omega : 1 ≤ toR (fA a) (fA b) ((ordR (fA a) (fA b) a.length).getD j 0) ∨ toR (fA a) (fA b) ((ordR (fA a) (fA b) a.length).getD j 0) = 0) with h | h
  · exact h
  exfalso
  have hfb : in100 a.length (fA b) := by rw [hl]; exact pts_in hb
  obtain ⟨A, B, e, hA, hB⟩ := sort_split (pts_in ha) hfb a.length (Nat.le_refl _)
  have e : ordR (fA a) (fA b) a.length = A ++ B := e
  have hln := ordR_len (fA a) (fA b) a.length
  have hend := ld_end ha hb hl
  have hjA : A.length ≤ j := by
    rcases Nat.lt_or_ge j A.length with h4 | h4
    · exfalso
      refine hA _ (getD_memI h4) ?_
      rw [e, getD_app, if_pos h4] at h
      exact h
    · exact h4
  have := ldR_const (f := fA a) (g := fA b) (L := ordR (fA a) (fA b) a.length) (j := j) a.length (by omega) (fun i h4 h5 => by
    rw [e, List.length_append] at hln
    rw [e, getD_app, if_neg (by omega)]
    exact hB _ (getD_memI (by omega)))
  omega

theorem mulA_set {f : Nat → Int} {Z : List Int} {i : Nat} {x : Int} (hi : i < Z.length) : ∀ n, mulA f (Z.set i x) n = mulA f Z n + if i < n then f i * (x - Z.getD i 0) else 0
  | 0 => by simp [mulA]
  | n + 1 => by
    simp only [mulA]
    rw [mulA_set hi n, getD_setL]
    by_cases h : i = n
    · subst h
      rw [if_neg (by omega), if_pos ⟨rfl, hi⟩, if_pos (by omega), Int.mul_sub]
      omega
    · rw [if_neg (show ¬ (i = n ∧ n < Z.length) from fun h2 => h h2.1)]
      by_cases h2 : i < n
      · rw [if_pos h2, if_pos (by omega)]; omega
      · rw [if_neg h2, if_neg (by omega)]; omega
theorem mulA_zero {f : Nat → Int} {m : Nat} : ∀ n, mulA f (List.replicate m 0) n = 0
  | 0 => rfl
  | n + 1 => by
    simp only [mulA]
    have h0 : (List.replicate m (0 : Int)).getD n 0 = 0 := by
      simp only [List.getD]
      by_cases h : n < m <;> simp [h]
    rw [mulA_zero n, h0]
    simp
def sfL (f : Nat → Int) (L : List Int) : Nat → Int
  | 0 => 0
  | k + 1 => sfL f L k + f (L.getD k 0).toNat
theorem setW_out {n : Nat} {L : List Int} {den : Int} {i : Nat} : ∀ k, (∀ j, j < k → (L.getD j 0).toNat ≠ i) → (setW n L den k).getD i 0 = 0
  | 0, _ => by
    simp only [setW, List.getD]
    by_cases h : i < n <;> simp [h]
  | k + 1, h => by
    simp only [setW]
    rw [getD_setL, if_neg (fun h2 => h k (by omega) h2.1)]
    exact setW_out k fun j hj => h j (by omega)
theorem mulA_setW {n : Nat} {L : List Int} {den : Int} {f : Nat → Int} (hm : ∀ j, j < n → 0 ≤ L.getD j 0 ∧ L.getD j 0 < n) (hi : ∀ i j, i < j → j < n → L.getD i 0 ≠ L.getD j 0) : ∀ k, k ≤ n → mulA f (setW n L den k) n = sfL f L k * den
  | 0, _ => by simp only [setW, sfL]; rw [mulA_zero]; simp
  | k + 1, hk => by
    have h1 := hm k (by omega)
    simp only [setW, sfL]
    rw [mulA_set (by rw [setW_len]; omega), if_pos (by omega), mulA_setW hm hi k (by omega), setW_out k (fun j hj h2 => by
      have h3 := hm j (by omega)
      exact hi j k hj (by omega) (by omega)), Int.sub_zero, Int.add_mul]
theorem mulA_winN {n w : Nat} {L : List Int} {den lead : Int} {f : Nat → Int} (hm : ∀ j, j < n → 0 ≤ L.getD j 0 ∧ L.getD j 0 < n) (hi : ∀ i j, i < j → j < n → L.getD i 0 ≠ L.getD j 0) (hw : w < n) : mulA f (winN n L den lead w) n = sfL f L w * den + f (L.getD w 0).toNat * lead := by
  have h1 := hm w hw
  unfold winN
  rw [mulA_set (by rw [setW_len]; omega), if_pos (by omega), mulA_setW hm hi w (by omega), setW_out w (fun j hj h2 => by
    have h3 := hm j (by omega)
    exact hi j w hj hw (by omega)), Int.sub_zero]
theorem gL_dvd {xs : List Int} : ∀ k j, j < k → (gL xs k : Int) ∣ xs.getD j 0
  | k + 1, j, h => by
    have e : gL xs (k + 1) = Nat.gcd (gL xs k) (xs.getD k 0).natAbs := rfl
    rcases (by omega : j < k ∨ j = k) with h1 | rfl
    · refine Int.dvd_trans (Int.ofNat_dvd.2 ?_) (gL_dvd k j h1)
      rw [e]; exact Nat.gcd_dvd_left _ _
    · refine Int.ofNat_dvd_left.2 ?_
      rw [e]; exact Nat.gcd_dvd_right _ _
theorem gP_dvdn {nums : List Int} {den : Int} {j : Nat} (hj : j < nums.length) : gP nums den ∣ nums.getD j 0 := by
  refine Int.dvd_trans ?_ (gL_dvd nums.length j hj)
  unfold gP
  exact Int.ofNat_dvd.2 (Nat.gcd_dvd_right _ _)
theorem mulA_low {f : Nat → Int} {nums : List Int} {den : Int} : ∀ n, n ≤ nums.length → mulA f (lowN nums den) n * gP nums den = mulA f nums n
  | 0, _ => by simp [mulA]
  | n + 1, h => by
    simp only [mulA]
    rw [Int.add_mul, mulA_low n (by omega), lowN_get (by omega), Int.mul_assoc, Int.tdiv_mul_cancel (gP_dvdn (by omega))]
theorem ratP_mul {x d g : Int} (hg : 1 ≤ g) (hd : 1 ≤ d) : ratP (x * g) (d * g) = ratP x d := by
  have e : gR (x * g) (d * g) = gR x d * g := by
    unfold gR
    rw [Int.natAbs_mul, Int.natAbs_mul, Nat.gcd_mul_right]
    rw [Int.natCast_mul, show ((g.natAbs : Nat) : Int) = g by omega]
  have hp := gR_pos (a := x) hd
  unfold ratP
  rw [e]
  have e1 : ∀ y : Int, (y * g).tdiv (gR x d * g) = y.tdiv (gR x d) := fun y => Int.mul_tdiv_mul_of_pos_left y (gR x d) (by omega)
  rw [e1, e1]
end Go.Tri
