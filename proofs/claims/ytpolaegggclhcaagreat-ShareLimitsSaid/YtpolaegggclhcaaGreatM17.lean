/-
 ENVY: when there is none, by sums of steps; by sums of wishes; the rents of a rickshaw have none.
-/
import Derived.Test.YtpolaegggclhcaaGreatB44
import Derived.Test.YtpolaegggclhcaaGreatM10
namespace Go.Tri
open Go.Proofs
variable {n : Nat} {W : Nat → List Int} {r z : List Int} {d : Int}

theorem app_nil' {A B : List (Nat × Nat)} : A ++ B = [] ↔ A = [] ∧ B = [] := by simp
theorem envR_nil {i : Nat} : ∀ k, envR W r z d i k = [] ↔ ∀ q, q < k → lfN (W i) z d q ≤ lfN (W i) z d (r.getD i 0).toNat := by
 intro k
 induction k with
 | zero => exact ⟨fun _ q hq => absurd hq (by omega), fun _ => rfl⟩
 | succ k ih =>
  show envR W r z d i k ++ _ = [] ↔ _
  rw [app_nil', ih]
  constructor
  ·rintro ⟨h1, h2⟩ q hq
   rcases (by omega : q < k ∨ q = k) with h | rfl
   ·exact h1 q h
   ·refine Int.not_lt.1 fun h => ?_
    rw [if_pos (show envB W r z d i q = true from decide_eq_true h)] at h2
    cases h2
  ·intro h
   refine ⟨fun q hq => h q (by omega), if_neg fun e => ?_⟩
   have h1 := of_decide_eq_true e
   have h2 := h k (by omega)
   omega
theorem envT_nil : ∀ m, envT n W r z d m = [] ↔ ∀ i, i < m → ∀ q, q < n → lfN (W i) z d q ≤ lfN (W i) z d (r.getD i 0).toNat := by
 intro m
 induction m with
 | zero => exact ⟨fun _ q hq => absurd hq (by omega), fun _ => rfl⟩
 | succ m ih =>
  show envT n W r z d m ++ _ = [] ↔ _
  rw [app_nil', ih, envR_nil]
  constructor
  ·rintro ⟨h1, h2⟩ i hi
   rcases (by omega : i < m ∨ i = m) with h | rfl
   ·exact h1 i h
   ·exact h2
  ·intro h
   exact ⟨fun i hi => h i (by omega), h m (by omega)⟩
/-- No envy. -/
def NoE (n : Nat) (W : Nat → List Int) (r z : List Int) (d : Int) : Prop := ∀ i, i < n → ∀ q, q < n → lfN (W i) z d q ≤ lfN (W i) z d (r.getD i 0).toNat
/-- No two rents differ by more than the sums of steps. -/
def Fits (n : Nat) (W : Nat → List Int) (z : List Int) (d : Int) : Prop := ∀ k, k < n → ∀ l, l < n → z.getD l 0 - z.getD k 0 ≤ drr n W k l * d
theorem stp_mul {k l : Nat} : stp n W k l * d = (W (hoB n W l)).getD l 0 * d - (W (hoB n W l)).getD k 0 * d := by
 unfold stp
 rw [Int.sub_mul]
theorem noE_stp : NoE n W (asB n W) z d ↔ ∀ k, k < n → ∀ l, l < n → z.getD l 0 - z.getD k 0 ≤ stp n W k l * d := by
 constructor
 ·intro h k hk l hl
  have h1 := hoB_is W hl
  have h2 := h _ h1.1 k hk
  have e : ((asB n W).getD (hoB n W l) 0).toNat = l := h1.2
  rw [e] at h2
  unfold lfN at h2
  rw [stp_mul]
  omega
 ·intro h i hi q hq
  have h1 := (rkB_is W).2.1 i hi
  have h2 := h q hq (rkB n W i) h1.1
  rw [stp_mul, hoB_rk W hi] at h2
  show lfN (W i) z d q ≤ lfN (W i) z d (rkB n W i)
  unfold lfN
  omega
theorem noE_walk (h : ∀ k, k < n → ∀ l, l < n → z.getD l 0 - z.getD k 0 ≤ stp n W k l * d) (v : Nat → Nat) : ∀ m, (∀ i, i ≤ m → v i < n) → z.getD (v m) 0 - z.getD (v 0) 0 ≤ cw n W v m * d := by
 intro m
 induction m with
 | zero => intro _; simp [cw, sN]
 | succ m ih =>
  intro hv
  have h1 := ih fun i hi => hv i (by omega)
  have h2 := h (v m) (hv m (by omega)) (v (m + 1)) (hv (m + 1) (by omega))
  have e : cw n W v (m + 1) = cw n W v m + stp n W (v m) (v (m + 1)) := rfl
  rw [e, Int.add_mul]
  omega
theorem noE_fits (hd : 0 ≤ d) : NoE n W (asB n W) z d ↔ Fits n W z d := by
 rw [noE_stp]
 constructor
 ·intro h k hk l hl
  obtain ⟨m, v, hv, rfl, rfl, hc⟩ := (drr_base n W k l hk hl).1
  rw [← hc]
  exact noE_walk h v m hv
 ·intro h k hk l hl
  exact Int.le_trans (h k hk l hl) (Int.mul_le_mul_of_nonneg_right (drr_base n W k l hk hl).2 hd)

/-! Sums over an assignment. -/
theorem sN_le {f g : Nat → Int} : ∀ n, (∀ i, i < n → f i ≤ g i) → sN f n ≤ sN g n := by
 intro n
 induction n with
 | zero => intro _; exact Int.le_refl _
 | succ n ih =>
  intro h
  have := ih fun i hi => h i (by omega)
  have := h n (by omega)
  simp only [sN]
  omega
theorem sN_all {f g : Nat → Int} : ∀ n, (∀ i, i < n → f i ≤ g i) → sN g n ≤ sN f n → ∀ i, i < n → f i = g i := by
 intro n
 induction n with
 | zero => intro _ _ i hi; omega
 | succ n ih =>
  intro h hs i hi
  simp only [sN] at hs
  have h1 := sN_le n fun i hi => h i (by omega)
  have h2 := h n (by omega)
  rcases (by omega : i < n ∨ i = n) with h3 | rfl
  ·exact ih (fun i hi => h i (by omega)) (by omega) i h3
  ·omega
theorem sN_mulr {f : Nat → Int} {c : Int} : ∀ n, sN (fun i => f i * c) n = sN f n * c := by
 intro n
 induction n with
 | zero => simp [sN]
 | succ n ih => simp only [sN]; rw [ih, Int.add_mul]
theorem sN_perm {g : Nat → Int} (hr : r ∈ asg n n []) : sN (fun i => g (r.getD i 0).toNat) n = sN g n := by
 obtain ⟨_, h1, h2⟩ := asg_get.1 hr
 exact (sN_inj (n := n) n (fun i => (r.getD i 0).toNat) g (fun i hi => by have := h1 i hi; omega) (fun i j hij hj => by
  have := h1 i (by omega)
  have := h1 j hj
  have := h2 i j hij hj
  omega) (fun j hj hno => by
  exfalso
  obtain ⟨i, hi, e⟩ := inj_surj (f := fun i => (r.getD i 0).toNat) (fun i hi => by have := h1 i hi; show (r.getD i 0).toNat < n; omega) (fun i j hij hj => by
   have := h1 i (by omega)
   have := h1 j hj
   have := h2 i j hij hj
   show (r.getD i 0).toNat ≠ (r.getD j 0).toNat
   omega) hj
  exact hno i hi e)).symm
/-- What is left to all drivers together. -/
theorem left_sum (hr : r ∈ asg n n []) : sN (fun i => lfN (W i) z d (r.getD i 0).toNat) n = wrS W r n * d - sN (fun k => z.getD k 0) n := by
 have e : sN (fun i => lfN (W i) z d (r.getD i 0).toNat) n = sN (fun i => (W i).getD (r.getD i 0).toNat 0 * d - (fun k => z.getD k 0) (r.getD i 0).toNat) n := rfl
 rw [e, sN_sub, sN_mulr, sN_perm (g := fun k => z.getD k 0) hr, wrS_sN]
theorem noE_best (hd : 1 ≤ d) (hr : r ∈ asg n n []) (h : NoE n W r z d) : wrS W r n = wrS W (asB n W) n ∧ NoE n W (asB n W) z d := by
 obtain ⟨ha, hb⟩ := asB_is (n := n) W
 have h1 : ∀ i, i < n → lfN (W i) z d ((asB n W).getD i 0).toNat ≤ lfN (W i) z d (r.getD i 0).toNat := fun i hi => h i hi _ ((rkB_is W).2.1 i hi).1
 have h2 := sN_le n h1
 rw [left_sum hr, left_sum ha] at h2
 have h3 := hb r hr
 have h4 : wrS W r n = wrS W (asB n W) n := by
  have h5 : wrS W (asB n W) n * d ≤ wrS W r n * d := by omega
  have h6 := Int.le_of_mul_le_mul_right h5 (by omega)
  omega
 refine ⟨h4, fun i hi q hq => ?_⟩
 have h5 := sN_all n h1 (by rw [left_sum hr, left_sum ha, h4]; exact Int.le_refl _) i hi
 rw [h5]
 exact h i hi q hq
theorem noE_other (hr : r ∈ asg n n []) (h : NoE n W (asB n W) z d) (he : wrS W r n = wrS W (asB n W) n) : NoE n W r z d := by
 obtain ⟨ha, hb⟩ := asB_is (n := n) W
 obtain ⟨_, hg, _⟩ := asg_get.1 hr
 have h1 : ∀ i, i < n → lfN (W i) z d (r.getD i 0).toNat ≤ lfN (W i) z d ((asB n W).getD i 0).toNat := fun i hi => h i hi _ (by have := hg i hi; omega)
 intro i hi q hq
 have h5 := sN_all n h1 (by rw [left_sum hr, left_sum ha, he]; exact Int.le_refl _) i hi
 rw [h5]
 exact h i hi q hq

/-! The rents of one rickshaw. -/
theorem gP_dvd' {nums : List Int} {den : Int} : gP nums den ∣ den := by
 unfold gP
 exact Int.ofNat_dvd_left.2 (Nat.gcd_dvd_left _ _)
theorem low_bd' {x d g : Int} (hg : 1 ≤ g) (hx : 0 ≤ x) (hd : x ≤ d) (h2 : g ∣ d) (h1 : 1 ≤ d) : 0 ≤ x.tdiv g ∧ x.tdiv g ≤ d.tdiv g ∧ 1 ≤ d.tdiv g ∧ d.tdiv g ≤ d := by
 rw [Int.tdiv_eq_ediv_of_nonneg hx, Int.tdiv_eq_ediv_of_nonneg (by omega)]
 refine ⟨Int.ediv_nonneg hx (by omega), Int.ediv_le_ediv (by omega) hd, ?_, Int.ediv_le_self _ (by omega)⟩
 obtain ⟨c, rfl⟩ := h2
 rw [Int.mul_ediv_cancel_left _ (by omega)]
 rcases (by omega : c ≤ 0 ∨ 1 ≤ c) with h | h
 ·have := Int.mul_nonpos_of_nonneg_of_nonpos (show 0 ≤ g by omega) h
  omega
 ·exact h
theorem gL_dvd' {xs : List Int} : ∀ k j, j < k → (gL xs k : Int) ∣ xs.getD j 0
 | k + 1, j, h => by
  have e : gL xs (k + 1) = Nat.gcd (gL xs k) (xs.getD k 0).natAbs := rfl
  rcases (by omega : j < k ∨ j = k) with h1 | rfl
  ·refine Int.dvd_trans (Int.ofNat_dvd.2 ?_) (gL_dvd' k j h1)
   rw [e]; exact Nat.gcd_dvd_left _ _
  ·refine Int.ofNat_dvd_left.2 ?_
   rw [e]; exact Nat.gcd_dvd_right _ _
theorem gP_dvdn' {nums : List Int} {den : Int} {j : Nat} (hj : j < nums.length) : gP nums den ∣ nums.getD j 0 := by
 refine Int.dvd_trans ?_ (gL_dvd' nums.length j hj)
 unfold gP
 exact Int.ofNat_dvd.2 (Nat.gcd_dvd_right _ _)
theorem gL_univ' {xs : List Int} {d : Nat} : ∀ k, (∀ j, j < k → (d : Int) ∣ xs.getD j 0) → d ∣ gL xs k
 | 0, _ => by simp [gL]
 | k + 1, h => by
  have e : gL xs (k + 1) = Nat.gcd (gL xs k) (xs.getD k 0).natAbs := rfl
  rw [e]
  exact Nat.dvd_gcd (gL_univ' k fun j hj => h j (by omega)) (Int.ofNat_dvd_left.1 (h k (by omega)))
theorem gP_low' {nums : List Int} {den : Int} (h1 : 1 ≤ den) : 1 ≤ den.tdiv (gP nums den) ∧ gP (lowN nums den) (den.tdiv (gP nums den)) = 1 := by
 have hg := gP_pos (nums := nums) h1
 have hd1 : 1 ≤ den.tdiv (gP nums den) := (low_bd' (x := 0) hg (Int.le_refl _) (by omega) gP_dvd' h1).2.2.1
 refine ⟨hd1, ?_⟩
 have hk := gP_pos (nums := lowN nums den) hd1
 have q1 : gP (lowN nums den) (den.tdiv (gP nums den)) ∣ den.tdiv (gP nums den) := gP_dvd'
 have q2 : ∀ j, j < nums.length → gP (lowN nums den) (den.tdiv (gP nums den)) ∣ (nums.getD j 0).tdiv (gP nums den) := fun j hj => by
  rw [← lowN_get hj]
  exact gP_dvdn' (by rw [lowN_len]; exact hj)
 have q3 : gP nums den ∣ den := gP_dvd'
 have q4 : ∀ j, j < nums.length → gP nums den ∣ nums.getD j 0 := fun j hj => gP_dvdn' hj
 generalize hkk : gP (lowN nums den) (den.tdiv (gP nums den)) = k at *
 have r1 : k * gP nums den ∣ den := by
  have := Int.mul_dvd_mul_right (gP nums den) q1
  rwa [Int.tdiv_mul_cancel q3] at this
 have r2 : ∀ j, j < nums.length → k * gP nums den ∣ nums.getD j 0 := fun j hj => by
  have := Int.mul_dvd_mul_right (gP nums den) (q2 j hj)
  rwa [Int.tdiv_mul_cancel (q4 j hj)] at this
 obtain ⟨c, hc⟩ : ∃ c : Nat, k * gP nums den = c := ⟨(k * gP nums den).toNat, by
  have := Int.mul_pos (show 0 < k by omega) (show 0 < gP nums den by omega)
  omega⟩
 rw [hc] at r1 r2
 have r3 : c ∣ Nat.gcd den.natAbs (gL nums nums.length) := Nat.dvd_gcd (Int.ofNat_dvd_left.1 r1) (gL_univ' _ r2)
 have r4 : (c : Int) ∣ gP nums den := Int.ofNat_dvd.2 r3
 have r5 := Int.le_of_dvd (by omega) r4
 rw [← hc] at r5
 rcases (by omega : k = 1 ∨ 2 ≤ k) with h | h
 ·exact h
 ·have := Int.mul_le_mul_of_nonneg_right h (show 0 ≤ gP nums den by omega)
  omega
/-- Rents as they are handed over. -/
noncomputable def rN (n : Nat) (W : Nat → List Int) (k : Nat) : List Int := lowN (rnN n W k) n
noncomputable def rD (n : Nat) (W : Nat → List Int) (k : Nat) : Int := (n : Int).tdiv (gP (rnN n W k) n)
theorem rN_fac (hW : Wis n W) {k : Nat} : ∃ g : Int, 1 ≤ g ∧ rD n W k * g = n ∧ (rN n W k).length = n ∧ ∀ j, j < n → (rN n W k).getD j 0 * g = sumL (W 0) n - roS n W k + n * drr n W k j := by
 have h1 := hW.1
 have hl : (rnN n W k).length = n := lsN_len _ _
 refine ⟨gP (rnN n W k) n, gP_pos (by omega), Int.tdiv_mul_cancel gP_dvd', by rw [rN, lowN_len, hl], fun j hj => ?_⟩
 rw [rN, lowN_get (by omega), Int.tdiv_mul_cancel (gP_dvdn' (by omega)), rnN_get hj]
theorem sumL_c {l : List Int} {f : Nat → Int} : ∀ m, (∀ j, j < m → l.getD j 0 = f j) → sumL l m = sN f m := fun m h => by
 rw [sumL_sN]
 exact sN_congr m h
theorem roS_sN {k : Nat} : roS n W k = sN (drr n W k) n := by
 unfold roS
 exact sumL_c n fun j hj => lsN_get hj
theorem sN_const {c : Int} : ∀ n : Nat, sN (fun _ => c) n = n * c := by
 intro n
 induction n with
 | zero => simp [sN]
 | succ n ih => simp only [sN]; rw [ih]; grind
theorem rts_rN (hW : Wis n W) {k : Nat} (hk : k < n) : Rts n W (rN n W k) (rD n W k) := by
 obtain ⟨g, hg, e1, e2, e3⟩ := rN_fac (k := k) hW
 have h1 := hW.1
 have h5 := hW.2.1
 have hlow := gP_low' (nums := rnN n W k) (den := n) (by omega)
 have hd : 1 ≤ rD n W k := hlow.1
 have hr : 0 ≤ sumL (W 0) n ∧ sumL (W 0) n ≤ 1000 * n := by
  have h0 := hW.2.2 0 h1
  exact sumL_bd (c := 1000) (by rw [h0.1]; exact h0.2.1) n (by rw [h0.1]; exact Nat.le_refl _)
 have ho : -(1000 * n : Int) ≤ roS n W k ∧ roS n W k ≤ 1000 * n := sumL_bd2 (row_bet hW hk) n (by rw [lsN_len]; exact Nat.le_refl _)
 have hdn : rD n W k ≤ n := by
  have := Int.mul_le_mul_of_nonneg_left hg (show 0 ≤ rD n W k by omega)
  omega
 refine ⟨⟨e2, hd, by omega, fun j hj => ?_, hlow.2⟩, ?_⟩
 ·have hb := drr_bd hW hk hj
  have a1 : (n : Int) * drr n W k j ≤ n * 1000 := Int.mul_le_mul_of_nonneg_left hb.2 (by omega)
  have a2 : (n : Int) * -1000 ≤ n * drr n W k j := Int.mul_le_mul_of_nonneg_left hb.1 (by omega)
  have e := e3 j hj
  constructor
  ·refine Int.le_of_mul_le_mul_right (a := g) ?_ (by omega)
   rw [Int.mul_assoc, e1, e]
   omega
  ·refine Int.le_of_mul_le_mul_right (a := g) ?_ (by omega)
   rw [Int.mul_assoc, e1, e]
   omega
 ·refine Int.eq_of_mul_eq_mul_right (show g ≠ 0 by omega) ?_
  rw [Int.mul_assoc, e1, sumL_sN, ← sN_mulr, sN_congr n e3]
  have e4 : sN (fun j => sumL (W 0) n - roS n W k + n * drr n W k j) n = n * (sumL (W 0) n - roS n W k) + n * sN (drr n W k) n := by
   have a1 : ∀ m : Nat, sN (fun j => sumL (W 0) n - roS n W k + n * drr n W k j) m = m * (sumL (W 0) n - roS n W k) + n * sN (drr n W k) m := by
    intro m
    induction m with
    | zero => simp [sN]
    | succ m ih => simp only [sN]; rw [ih]; grind
   exact a1 n
  rw [e4, ← roS_sN]
  grind
theorem rN_fits (hW : Wis n W) {k : Nat} (hk : k < n) : Fits n W (rN n W k) (rD n W k) := fun j hj l hl => by
 obtain ⟨g, hg, e1, e2, e3⟩ := rN_fac (k := k) hW
 refine Int.le_of_mul_le_mul_right (a := g) ?_ (by omega)
 rw [Int.mul_assoc, e1, Int.sub_mul, e3 l hl, e3 j hj]
 have ht := drr_tri n W j hj k l hk hl
 have := Int.mul_le_mul_of_nonneg_left ht (show (0 : Int) ≤ n by omega)
 rw [Int.mul_add] at this
 have e : drr n W j l * (n : Int) = n * drr n W j l := Int.mul_comm _ _
 omega
theorem rN_noE (hW : Wis n W) {k : Nat} (hk : k < n) : NoE n W (asB n W) (rN n W k) (rD n W k) :=
 (noE_fits (by have := (rts_rN hW hk).1.2.1; omega)).2 (rN_fits hW hk)
end Go.Tri
