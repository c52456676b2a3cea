/-
  THE WINNER'S ORDER: by ratios; no parts give both more.
-/
import Derived.Test.YtghkpmeonoadlaaM5
namespace Go.Tri
open Go.Proofs

theorem stopJ_hi {lt : Int → Int → Bool} {q : List Int} {x : Int} : ∀ j i, stopJ lt q x j ≤ i → i < j → lt x (q.getD i 0) = true
  | j + 1, i, h1, h2 => by
    simp only [stopJ] at h1
    split at h1
    · next h =>
      rcases (by omega : i < j ∨ i = j) with h3 | rfl
      · exact stopJ_hi j i h1 h3
      · exact h
    · omega
theorem stopJ_lo {lt : Int → Int → Bool} {q : List Int} {x : Int} : ∀ j p, stopJ lt q x j = p + 1 → lt x (q.getD p 0) = false
  | 0, p, h => by simp [stopJ] at h
  | j + 1, p, h => by
    simp only [stopJ] at h
    split at h
    · exact stopJ_lo j p h
    · next h2 =>
      obtain rfl : j = p := by omega
      simpa using h2
/-- x has as great a ratio as y. -/
def geR (f g : Nat → Int) (x y : Int) : Prop := f y.toNat * g x.toNat ≤ f x.toNat * g y.toNat
theorem geR_trans {f g : Nat → Int} {x y z : Int} (hx : 0 ≤ f x.toNat ∧ 0 ≤ g x.toNat) (hy : 0 ≤ f y.toNat ∧ 0 ≤ g y.toNat) (hz : 0 ≤ f z.toNat ∧ 0 ≤ g z.toNat) (h0 : toR f g y ≠ 0) (h1 : geR f g x y) (h2 : geR f g y z) : geR f g x z := by
  unfold geR toR at *
  generalize f x.toNat = a at *
  generalize g x.toNat = b at *
  generalize f y.toNat = c at *
  generalize g y.toNat = d at *
  generalize f z.toNat = e at *
  generalize g z.toNat = k at *
  rcases (by omega : c = 0 ∨ 0 < c) with rfl | hc
  · have hd : 0 < d := by omega
    have h3 : e * d ≤ 0 := by simpa using h2
    have h4 : e = 0 := by
      rcases (by omega : e = 0 ∨ 0 < e) with h | h
      · exact h
      · have := Int.mul_pos h hd
        omega
    rw [h4, Int.zero_mul]
    exact Int.mul_nonneg hx.1 hz.2
  · refine Int.le_of_mul_le_mul_left (?_ : c * (e * b) ≤ c * (a * k)) hc
    have h5 : e * (c * b) ≤ e * (a * d) := Int.mul_le_mul_of_nonneg_left h1 hz.1
    have h6 : a * (e * d) ≤ a * (c * k) := Int.mul_le_mul_of_nonneg_left h2 hx.1
    have e1 : c * (e * b) = e * (c * b) := by rw [← Int.mul_assoc, ← Int.mul_assoc, Int.mul_comm c e]
    have e2 : e * (a * d) = a * (e * d) := by rw [← Int.mul_assoc, ← Int.mul_assoc, Int.mul_comm e a]
    have e3 : a * (c * k) = c * (a * k) := by rw [← Int.mul_assoc, ← Int.mul_assoc, Int.mul_comm a c]
    omega
theorem geR_lt {f g : Nat → Int} {x y : Int} (hx : 0 ≤ f x.toNat ∧ 0 ≤ g x.toNat) (hy : 0 ≤ f y.toNat ∧ 0 ≤ g y.toNat) (h : ltR f g x y = true) : geR f g x y := by
  unfold ltR at h
  rw [decide_eq_true_iff, crI_neg hx.1 hx.2 hy.1 hy.2] at h
  unfold geR
  rcases h with ⟨h1, h2⟩ | ⟨_, h2⟩
  · have e1 : f y.toNat = 0 := by omega
    have e2 : g y.toNat = 0 := by omega
    rw [e1, e2]
    simp
  · omega
theorem geR_not {f g : Nat → Int} {x y : Int} (hx : 0 ≤ f x.toNat ∧ 0 ≤ g x.toNat) (hy : 0 ≤ f y.toNat ∧ 0 ≤ g y.toNat) (h0 : toR f g x ≠ 0) (h1 : toR f g y ≠ 0) (h : ltR f g x y = false) : geR f g y x := by
  unfold ltR at h
  rw [decide_eq_false_iff_not, crI_neg hx.1 hx.2 hy.1 hy.2] at h
  unfold geR
  unfold toR at h0 h1
  refine Classical.byContradiction fun hn => h (.inr ⟨⟨fun h2 => absurd h2 h1, fun h2 => absurd h2 h0⟩, ?_⟩)
  omega
/-- The order by ratios, of what is worth something. -/
theorem sort_ratio {n : Nat} {f g : Nat → Int} (hf : in100 n f) (hg : in100 n g) : ∀ k, k ≤ n → ∃ A B, sortP (ltR f g) (idx n) k = A ++ B ∧ (∀ y ∈ A, toR f g y ≠ 0) ∧ (∀ y ∈ B, toR f g y = 0) ∧ ∀ i j, i < j → j < A.length → geR f g (A.getD i 0) (A.getD j 0)
  | 0, _ => ⟨[], [], rfl, fun y hy => by simp at hy, fun y hy => by simp at hy, fun i j _ h => by simp at h⟩
  | k + 1, hk => by
    obtain ⟨A, B, e, hA, hB, hP⟩ := sort_ratio hf hg k (by omega)
    have hm := sortP_idx (lt := ltR f g) (n := n) k (by omega)
    have hkk := hf k (by omega)
    have hkg := hg k (by omega)
    have nf : ∀ y ∈ sortP (ltR f g) (idx n) k, 0 ≤ f y.toNat ∧ 0 ≤ g y.toNat := fun y hy => by
      have := hm y hy
      exact ⟨(hf _ (by omega)).1, (hg _ (by omega)).1⟩
    have e2 : sortP (ltR f g) (idx n) (k + 1) = putL (A ++ B) k [] (stopJ (ltR f g) (A ++ B) k (A ++ B).length) := by
      rw [← e, ← idx_get (show k < n by omega)]
      rfl
    rw [e] at nf
    have nk : 0 ≤ f (k : Int).toNat ∧ 0 ≤ g (k : Int).toNat := ⟨hkk.1, hkg.1⟩
    by_cases h0 : toR f g (k : Int) = 0
    · rw [e2, stopJ_none _ (fun y hy => ltR_zero h0 hkk.1 hkg.1 (nf y hy).1 (nf y hy).2) (Nat.le_refl _)]
      refine ⟨A, B ++ [(k : Int)], ?_, hA, fun y hy => ?_, hP⟩
      · unfold putL
        rw [List.take_of_length_le (Nat.le_refl _), List.drop_of_length_le (Nat.le_refl _)]
        simp
      · rcases List.mem_append.1 hy with h | h
        · exact hB y h
        · rw [List.mem_singleton.1 h]; exact h0
    · have hs := stopJ_app (A := A) (B := B) (x := (k : Int)) (lt := ltR f g) (fun y hy => ltR_pos h0 (hB y hy) hkk.1 hkg.1 (nf y (List.mem_append.2 (.inr hy))).1 (nf y (List.mem_append.2 (.inr hy))).2) _ (Nat.le_refl _)
      have hhi := stopJ_hi (lt := ltR f g) (q := A ++ B) (x := (k : Int)) (A ++ B).length
      have hlo := stopJ_lo (lt := ltR f g) (q := A ++ B) (x := (k : Int)) (A ++ B).length
      rw [e2]
      generalize stopJ (ltR f g) (A ++ B) k (A ++ B).length = p at *
      have nA : ∀ i, i < A.length → 0 ≤ f (A.getD i 0).toNat ∧ 0 ≤ g (A.getD i 0).toNat := fun i hi => nf _ (List.mem_append.2 (.inl (getD_memI hi)))
      have wA : ∀ i, i < A.length → toR f g (A.getD i 0) ≠ 0 := fun i hi => hA _ (getD_memI hi)
      have gA : ∀ i, i < A.length → (A ++ B).getD i 0 = A.getD i 0 := fun i hi => by rw [getD_app, if_pos hi]
      have hafter : ∀ i, p ≤ i → i < A.length → geR f g k (A.getD i 0) := fun i h1 h2 => by
        have := hhi i h1 (by rw [List.length_append]; omega)
        rw [gA i h2] at this
        exact geR_lt nk (nA i h2) this
      have hbefore : ∀ i, i < p → geR f g (A.getD i 0) k := fun i h1 => by
        obtain ⟨r, rfl⟩ : ∃ r, p = r + 1 := ⟨p - 1, by omega⟩
        have h3 := hlo r rfl
        rw [gA r (by omega)] at h3
        have h4 := geR_not nk (nA r (by omega)) h0 (wA r (by omega)) h3
        rcases (by omega : i < r ∨ i = r) with h5 | rfl
        · exact geR_trans (nA i (by omega)) (nA r (by omega)) nk (wA r (by omega)) (hP i r h5 (by omega)) h4
        · exact h4
      have eP : A.take p ++ [(k : Int)] ++ A.drop p = putL A k [] p := by unfold putL; simp
      refine ⟨putL A k [] p, B, ?_, fun y hy => ?_, hB, fun i j hij hj => ?_⟩
      · rw [← eP]
        unfold putL
        rw [List.take_append_of_le_length hs, List.drop_append_of_le_length hs]
        simp
      · rw [putL_mem] at hy
        rcases hy with h | rfl | h
        · exact hA y h
        · exact h0
        · simp at h
      · rw [putL_len hs] at hj
        have hj : j < A.length + 1 := by simpa using hj
        rw [putL_get hs, putL_get hs]
        by_cases h1 : j < p
        · rw [if_pos (show i < p by omega), if_pos h1]
          exact hP i j hij (by omega)
        · rw [if_neg h1]
          by_cases h2 : j = p
          · rw [if_pos h2, if_pos (show i < p by omega)]
            exact hbefore i (by omega)
          · rw [if_neg h2, if_pos (show j ≤ A.length by omega)]
            by_cases h3 : i < p
            · rw [if_pos h3]
              exact hP i (j - 1) (by omega) (by omega)
            · rw [if_neg h3]
              by_cases h4 : i = p
              · rw [if_pos h4]
                exact hafter (j - 1) (by omega) (by omega)
              · rw [if_neg h4, if_pos (show i ≤ A.length by omega)]
                exact hP (i - 1) (j - 1) (by omega) (by omega)
theorem ord_ratio {n : Nat} {f g : Nat → Int} (hf : in100 n f) (hg : in100 n g) {i j : Nat} (hij : i < j) (hj : j < n) : geR f g ((ordR f g n).getD i 0) ((ordR f g n).getD j 0) := by
  obtain ⟨A, B, e, hA, hB, hP⟩ := sort_ratio hf hg n (Nat.le_refl _)
  have e : ordR f g n = A ++ B := e
  have hl := ordR_len f g n
  rw [e, List.length_append] at hl
  have hm : ∀ y ∈ ordR f g n, 0 ≤ f y.toNat ∧ 0 ≤ g y.toNat := fun y hy => by
    have := ordR_mem y hy
    exact ⟨(hf _ (by omega)).1, (hg _ (by omega)).1⟩
  rw [e] at hm ⊢
  by_cases h1 : j < A.length
  · rw [getD_app, getD_app, if_pos h1, if_pos (by omega)]
    exact hP i j hij h1
  · have h2 : toR f g ((A ++ B).getD j 0) = 0 := by
      rw [getD_app, if_neg h1]
      exact hB _ (getD_memI (by omega))
    have h3 := hm _ (getD_memI (l := A ++ B) (j := j) (by rw [List.length_append]; omega))
    unfold geR
    unfold toR at h2
    rw [show f ((A ++ B).getD j 0).toNat = 0 by omega, show g ((A ++ B).getD j 0).toNat = 0 by omega]
    simp
end Go.Tri
