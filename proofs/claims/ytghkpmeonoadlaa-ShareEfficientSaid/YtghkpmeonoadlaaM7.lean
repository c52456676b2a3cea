/-
  THE WINNER'S SCORE: no parts give both more; exchanged drivers.
-/
import Derived.Test.YtghkpmeonoadlaaM6
import Derived.Test.YtghkpmeonoadlaaB20
namespace Go.Tri
open Go.Proofs

theorem dual_alg {gt ft fj gj x D W den : Int} (h : (gt * fj - ft * gj) * x * den ≤ (gt * fj - ft * gj) * W * D) : (gt * (fj * x) + ft * (gj * (D - x))) * den ≤ (gt * (fj * W) + ft * (gj * (den - W))) * D := by
  have e1 : (gt * (fj * x) + ft * (gj * (D - x))) * den = (gt * fj - ft * gj) * x * den + ft * gj * D * den := by grind
  have e2 : (gt * (fj * W) + ft * (gj * (den - W))) * D = (gt * fj - ft * gj) * W * D + ft * gj * D * den := by grind
  omega
theorem dual_sum {f g : Nat → Int} {gt ft D den : Int} {x W : List Int} : ∀ m, (∀ j, j < m → (gt * f j - ft * g j) * x.getD j 0 * den ≤ (gt * f j - ft * g j) * W.getD j 0 * D) → (gt * mulA f x m + ft * mulB g x D m) * den ≤ (gt * mulA f W m + ft * mulB g W den m) * D
  | 0, _ => by simp [mulA, mulB]
  | m + 1, h => by
    have h1 := dual_sum (f := f) (g := g) (gt := gt) (ft := ft) (D := D) (den := den) (x := x) (W := W) m fun j hj => h j (by omega)
    have h2 := dual_alg (h m (by omega))
    simp only [mulA, mulB]
    have e1 : (gt * (mulA f x m + f m * x.getD m 0) + ft * (mulB g x D m + g m * (D - x.getD m 0))) * den = (gt * mulA f x m + ft * mulB g x D m) * den + (gt * (f m * x.getD m 0) + ft * (g m * (D - x.getD m 0))) * den := by grind
    have e2 : (gt * (mulA f W m + f m * W.getD m 0) + ft * (mulB g W den m + g m * (den - W.getD m 0))) * D = (gt * mulA f W m + ft * mulB g W den m) * D + (gt * (f m * W.getD m 0) + ft * (g m * (den - W.getD m 0))) * D := by grind
    omega
theorem mulB_eq {g : Nat → Int} {x : List Int} {d : Int} {b : List Int} (hg : ∀ j, g j = b.getD j 0) : ∀ n, mulB g x d n = d * sumL b n - mulA g x n
  | 0 => by simp [mulB, mulA, sumL]
  | n + 1 => by
    simp only [mulB, mulA, sumL]
    rw [mulB_eq hg n, ← hg n]
    grind
/-- The score, times what the last thing is worth. -/
noncomputable def wS (a b : List Int) : Int := sfL (fA a) (ordR (fA a) (fA b) a.length) (wR a b) * wDen a b + (fA a) ((ordR (fA a) (fA b) a.length).getD (wR a b) 0).toNat * ldR (fA a) (fA b) (ordR (fA a) (fA b) a.length) (wR a b)
theorem wS_both {a b : List Int} (ha : Pts a) (hb : Pts b) (hl : a.length = b.length) : mulA (fA a) (wNum a b) a.length = wS a b ∧ mulB (fA b) (wNum a b) (wDen a b) a.length = wS a b := by
  obtain ⟨w1, w2, w3⟩ := wR_spec ha hb hl
  have hm : ∀ j, j < a.length → 0 ≤ (ordR (fA a) (fA b) a.length).getD j 0 ∧ (ordR (fA a) (fA b) a.length).getD j 0 < a.length := fun j hj => ordR_mem _ (getD_memI (by rw [ordR_len]; exact hj))
  have h1 : mulA (fA a) (wNum a b) a.length = wS a b := mulA_winN hm (fun i j => ord_inj) w1
  refine ⟨h1, ?_⟩
  rw [mulB_eq (b := b) (fun j => rfl)]
  have h2 : mulA (fA b) (wNum a b) a.length = sfL (fA b) (ordR (fA a) (fA b) a.length) (wR a b) * wDen a b + (fA b) ((ordR (fA a) (fA b) a.length).getD (wR a b) 0).toNat * ldR (fA a) (fA b) (ordR (fA a) (fA b) a.length) (wR a b) := mulA_winN hm (fun i j => ord_inj) w1
  have hs := hb.2.2.2
  rw [← hl] at hs
  rw [hs, h2]
  have hr := ldR_sf (f := fA a) (g := fA b) (L := ordR (fA a) (fA b) a.length) (wR a b)
  have hd : wDen a b = (fA a) ((ordR (fA a) (fA b) a.length).getD (wR a b) 0).toNat + (fA b) ((ordR (fA a) (fA b) a.length).getD (wR a b) 0).toNat := rfl
  unfold wS
  generalize ldR (fA a) (fA b) (ordR (fA a) (fA b) a.length) (wR a b) = l at *
  generalize sfL (fA a) (ordR (fA a) (fA b) a.length) (wR a b) = p at *
  generalize sfL (fA b) (ordR (fA a) (fA b) a.length) (wR a b) = q at *
  generalize (fA a) ((ordR (fA a) (fA b) a.length).getD (wR a b) 0).toNat = u at *
  generalize (fA b) ((ordR (fA a) (fA b) a.length).getD (wR a b) 0).toNat = v at *
  generalize wDen a b = d at *
  grind
theorem ord_all {lt : Int → Int → Bool} {n : Nat} : ∀ k, k ≤ n → ∀ j, j < k → (j : Int) ∈ sortP lt (idx n) k
  | k + 1, hk, j, hj => by
    show (j : Int) ∈ putL (sortP lt (idx n) k) ((idx n).getD k 0) [] _
    rw [putL_mem, idx_get (show k < n by omega)]
    rcases (by omega : j < k ∨ j = k) with h | rfl
    · exact .inl (ord_all k (by omega) j h)
    · exact .inr (.inl rfl)
theorem wNum_get {a b : List Int} (ha : Pts a) (hb : Pts b) (hl : a.length = b.length) {i : Nat} (hi : i < a.length) : (i < wR a b → (wNum a b).getD ((ordR (fA a) (fA b) a.length).getD i 0).toNat 0 = wDen a b) ∧ (wR a b < i → (wNum a b).getD ((ordR (fA a) (fA b) a.length).getD i 0).toNat 0 = 0) := by
  obtain ⟨w1, w2, w3⟩ := wR_spec ha hb hl
  have hm : ∀ j, j < a.length → 0 ≤ (ordR (fA a) (fA b) a.length).getD j 0 ∧ (ordR (fA a) (fA b) a.length).getD j 0 < a.length := fun j hj => ordR_mem _ (getD_memI (by rw [ordR_len]; exact hj))
  have hinj : ∀ i j, i < j → j < a.length → (ordR (fA a) (fA b) a.length).getD i 0 ≠ (ordR (fA a) (fA b) a.length).getD j 0 := fun i j => ord_inj
  unfold wNum winN
  generalize ordR (fA a) (fA b) a.length = L at *
  have hne : ∀ i j, i ≠ j → i < a.length → j < a.length → (L.getD i 0).toNat ≠ (L.getD j 0).toNat := fun i j h h1 h2 h3 => by
    have := hm i h1
    have := hm j h2
    rcases (by omega : i < j ∨ j < i) with h4 | h4
    · exact hinj i j h4 h2 (by omega)
    · exact hinj j i h4 h1 (by omega)
  have hset : ∀ k, k ≤ a.length → ∀ i, i < k → (setW a.length L (wDen a b) k).getD (L.getD i 0).toNat 0 = wDen a b := by
    intro k
    induction k with
    | zero => intro _ i h; omega
    | succ k ih =>
      intro hk i h
      have h1 := hm i (by omega)
      simp only [setW]
      rw [getD_setL]
      rcases (by omega : i < k ∨ i = k) with h2 | rfl
      · rw [if_neg (fun h3 => hne k i (by omega) (by omega) (by omega) h3.1)]
        exact ih (by omega) i h2
      · rw [if_pos ⟨rfl, by rw [setW_len]; omega⟩]
  refine ⟨fun h => ?_, fun h => ?_⟩
  · rw [getD_setL, if_neg (fun h3 => hne _ i (by omega) w1 hi h3.1)]
    exact hset _ (by omega) i h
  · rw [getD_setL, if_neg (fun h3 => hne _ i (by omega) w1 hi h3.1)]
    exact setW_out _ fun j hj => hne j i (by omega) (by omega) hi
/-- No parts give both more. -/
theorem best {a b x : List Int} {D : Int} (ha : Pts a) (hb : Pts b) (hl : a.length = b.length) (hx : ∀ j, j < a.length → 0 ≤ x.getD j 0 ∧ x.getD j 0 ≤ D) : ∃ u v : Int, 0 ≤ u ∧ 0 ≤ v ∧ u + v = wDen a b ∧ u * mulA (fA a) x a.length + v * mulB (fA b) x D a.length ≤ wS a b * D := by
  obtain ⟨w1, w2, w3⟩ := wR_spec ha hb hl
  have hf : in100 a.length (fA a) := pts_in ha
  have hg : in100 a.length (fA b) := by rw [hl]; exact pts_in hb
  obtain ⟨d1, d2, d3, d4⟩ := wNum_bd ha hb hl
  have hd : wDen a b = (fA a) ((ordR (fA a) (fA b) a.length).getD (wR a b) 0).toNat + (fA b) ((ordR (fA a) (fA b) a.length).getD (wR a b) 0).toNat := rfl
  have hm := ordR_mem (f := fA a) (g := fA b) (n := a.length) _ (getD_memI (j := wR a b) (by rw [ordR_len]; exact w1))
  have u1 := hf ((ordR (fA a) (fA b) a.length).getD (wR a b) 0).toNat (by omega)
  have v1 := hg ((ordR (fA a) (fA b) a.length).getD (wR a b) 0).toNat (by omega)
  obtain ⟨s1, s2⟩ := wS_both ha hb hl
  have key := dual_sum (f := fA a) (g := fA b) (gt := (fA b) ((ordR (fA a) (fA b) a.length).getD (wR a b) 0).toNat) (ft := (fA a) ((ordR (fA a) (fA b) a.length).getD (wR a b) 0).toNat) (D := D) (den := wDen a b) (x := x) (W := wNum a b) a.length (fun j hj => by
    obtain ⟨i, hi, hij⟩ := memI_at (ord_all (lt := ltR (fA a) (fA b)) a.length (Nat.le_refl _) j hj)
    have hi : i < a.length := by rw [sortP_len] at hi; exact hi
    have hij : (ordR (fA a) (fA b) a.length).getD i 0 = j := hij
    obtain ⟨g1, g2⟩ := wNum_get ha hb hl hi
    have hxj := hx j hj
    rw [hij, Int.toNat_natCast] at g1 g2
    rcases (by omega : i < wR a b ∨ i = wR a b ∨ wR a b < i) with h | h | h
    · have hr := ord_ratio hf hg h w1
      unfold geR at hr
      rw [hij, Int.toNat_natCast] at hr
      rw [g1 h]
      generalize (fA a) ((ordR (fA a) (fA b) a.length).getD (wR a b) 0).toNat = u at *
      generalize (fA b) ((ordR (fA a) (fA b) a.length).getD (wR a b) 0).toNat = v at *
      generalize wDen a b = den at *
      have hc : 0 ≤ v * fA a j - u * fA b j := by
        have : v * fA a j = fA a j * v := Int.mul_comm _ _
        omega
      have h5 : (v * fA a j - u * fA b j) * x.getD j 0 ≤ (v * fA a j - u * fA b j) * D := Int.mul_le_mul_of_nonneg_left hxj.2 hc
      have h6 := Int.mul_le_mul_of_nonneg_right h5 (show 0 ≤ den by omega)
      have e1 : (v * fA a j - u * fA b j) * D * den = (v * fA a j - u * fA b j) * den * D := by grind
      omega
    · rw [h] at hij
      rw [hij, Int.toNat_natCast, show fA b j * fA a j - fA a j * fA b j = 0 by rw [Int.mul_comm]; omega]
      simp
    · have hr := ord_ratio hf hg h hi
      unfold geR at hr
      rw [hij, Int.toNat_natCast] at hr
      rw [g2 h]
      generalize (fA a) ((ordR (fA a) (fA b) a.length).getD (wR a b) 0).toNat = u at *
      generalize (fA b) ((ordR (fA a) (fA b) a.length).getD (wR a b) 0).toNat = v at *
      generalize wDen a b = den at *
      have hc : 0 ≤ u * fA b j - v * fA a j := by
        have : v * fA a j = fA a j * v := Int.mul_comm _ _
        omega
      have h5 : 0 ≤ (u * fA b j - v * fA a j) * x.getD j 0 * den := Int.mul_nonneg (Int.mul_nonneg hc hxj.1) (by omega)
      have e1 : (v * fA a j - u * fA b j) * x.getD j 0 * den = -((u * fA b j - v * fA a j) * x.getD j 0 * den) := by grind
      rw [Int.mul_zero, Int.zero_mul]
      omega)
  rw [s1, s2] at key
  refine ⟨_, _, v1.1, u1.1, by omega, ?_⟩
  refine Int.le_of_mul_le_mul_right (?_ : _ * wDen a b ≤ wS a b * D * wDen a b) (by omega)
  refine Int.le_trans key ?_
  have e : ∀ (u v s D : Int), (v * s + u * s) * D = s * D * (u + v) := fun u v s D => by grind
  rw [e, ← hd]
  exact Int.le_refl _
theorem ratP_cross {x d y e : Int} (hd : 1 ≤ d) (he : 1 ≤ e) (h : x * e = y * d) : ratP x d = ratP y e := by
  rw [← ratP_mul he hd, h, Int.mul_comm d e, ratP_mul hd he]
def cmpL (x : List Int) (D : Int) (n : Nat) : List Int := (idx n).map fun j => D - x.getD j.toNat 0
theorem cmpL_get {x : List Int} {D : Int} {n j : Nat} (h : j < n) : (cmpL x D n).getD j 0 = D - x.getD j 0 := by
  have : (idx n)[j]? = some (j : Int) := by simp [idx, h]
  simp [cmpL, List.getD, this]
theorem cmpL_mul {f : Nat → Int} {x : List Int} {D : Int} {n : Nat} : ∀ m, m ≤ n → mulA f (cmpL x D n) m = mulB f x D m ∧ mulB f (cmpL x D n) D m = mulA f x m
  | 0, _ => ⟨rfl, rfl⟩
  | m + 1, h => by
    obtain ⟨h1, h2⟩ := cmpL_mul (f := f) (x := x) (D := D) (n := n) m (by omega)
    simp only [mulA, mulB]
    rw [h1, h2, cmpL_get (show m < n by omega), show D - (D - x.getD m 0) = x.getD m 0 by omega]
    exact ⟨rfl, rfl⟩
theorem exch_le {a b : List Int} (ha : Pts a) (hb : Pts b) (hl : a.length = b.length) : wS b a * wDen a b ≤ wS a b * wDen b a := by
  obtain ⟨d1, d2, d3, d4⟩ := wNum_bd hb ha hl.symm
  obtain ⟨s1, s2⟩ := wS_both hb ha hl.symm
  obtain ⟨u, v, hu, hv, huv, h⟩ := best (x := cmpL (wNum b a) (wDen b a) a.length) (D := wDen b a) ha hb hl (fun j hj => by
    rw [cmpL_get hj]
    have := d4 j
    omega)
  rw [(cmpL_mul a.length (Nat.le_refl _)).1, (cmpL_mul a.length (Nat.le_refl _)).2] at h
  rw [← hl] at s1 s2
  rw [s1, s2] at h
  rw [← huv]
  have e : wS b a * (u + v) = u * wS b a + v * wS b a := by grind
  omega
theorem exch_score {a b : List Int} (ha : Pts a) (hb : Pts b) (hl : a.length = b.length) : ratP (mulA (fA a) (wN a b) a.length) (wD a b) = ratP (mulA (fA b) (wN b a) b.length) (wD b a) := by
  rw [← score_is ha hb hl, ← score_is hb ha hl.symm]
  have h1 := exch_le ha hb hl
  have h2 := exch_le hb ha hl.symm
  exact ratP_cross (wNum_bd ha hb hl).1 (wNum_bd hb ha hl.symm).1 (show wS a b * wDen b a = wS b a * wDen a b by omega)

/-- The other things. -/
theorem bt_comp {n s i : Nat} (hs : s < 2 ^ n) (hi : i < n) : bt (2 ^ n - (s + 1)) i = 1 - bt s i := by
  have h := Nat.testBit_two_pow_sub_succ hs i
  have e : ∀ x, Nat.testBit x i = decide (bt x i = 1) := fun x => Nat.testBit_eq_decide_div_mod_eq
  rw [e, e, decide_eq_true hi, Bool.true_and] at h
  rcases bt_two s i with h1 | h1 <;> rcases bt_two (2 ^ n - (s + 1)) i with h2 | h2 <;> rw [h1, h2] at h ⊢ <;> simp at h
theorem comp_sum {n s : Nat} {f : Nat → Int} (hs : s < 2 ^ n) : ∀ k, k ≤ n → sA f (2 ^ n - (s + 1)) k = sB f s k ∧ sB f (2 ^ n - (s + 1)) k = sA f s k
  | 0, _ => ⟨rfl, rfl⟩
  | k + 1, h => by
    obtain ⟨h1, h2⟩ := comp_sum (f := f) hs k (by omega)
    simp only [sA, sB]
    rw [h1, h2, bt_comp hs (show k < n by omega)]
    rcases bt_two s k with h3 | h3 <;> rw [h3] <;> simp
theorem les_comp {n s : Nat} {f g : Nat → Int} (hs : s < 2 ^ n) : les g f n (2 ^ n - (s + 1)) = les f g n s := by
  unfold les
  rw [(comp_sum hs n (Nat.le_refl _)).1, (comp_sum hs n (Nat.le_refl _)).2]
  unfold minI
  split <;> split <;> omega
theorem exch_whole {n : Nat} {f g : Nat → Int} : les f g n (whoS f g n) ≤ les g f n (whoS g f n) := by
  have hp : 1 ≤ 2 ^ n := Nat.one_le_two_pow
  obtain ⟨h1, _, _⟩ := mxI_is (les f g n) (2 ^ n) hp
  obtain ⟨_, h2, _⟩ := mxI_is (les g f n) (2 ^ n) hp
  have h3 := h2 (2 ^ n - (mxI (les f g n) (2 ^ n) + 1)) (by omega)
  rw [les_comp h1] at h3
  exact h3
end Go.Tri
