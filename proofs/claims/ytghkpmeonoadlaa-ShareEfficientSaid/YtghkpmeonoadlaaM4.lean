/-
  THE WINNER'S NUMBERS: what is worth nothing comes last; sums over the order.
-/
import Derived.Test.YtghkpmeonoadlaaM3
namespace Go.Tri
open Go.Proofs

theorem sortP_idx {lt : Int → Int → Bool} {n : Nat} : ∀ k, k ≤ n → ∀ y ∈ sortP lt (idx n) k, 0 ≤ y ∧ y < k
  | 0, _, y, hy => by simp [sortP] at hy
  | k + 1, hk, y, hy => by
    have hy : y ∈ putL (sortP lt (idx n) k) ((idx n).getD k 0) [] _ := hy
    rw [putL_mem, idx_get (by omega)] at hy
    rcases hy with h | rfl | h
    · have := sortP_idx k (by omega) y h
      omega
    · omega
    · simp at h
theorem ltR_zero {f g : Nat → Int} {x y : Int} (hx : toR f g x = 0) (h1 : 0 ≤ f x.toNat) (h2 : 0 ≤ g x.toNat) (h3 : 0 ≤ f y.toNat) (h4 : 0 ≤ g y.toNat) : ltR f g x y = false := by
  unfold ltR
  unfold toR at hx
  rw [decide_eq_false_iff_not, crI_neg h1 h2 h3 h4]
  have e1 : f x.toNat = 0 := by omega
  have e2 : g x.toNat = 0 := by omega
  rw [e1, e2]
  simp
theorem ltR_pos {f g : Nat → Int} {x y : Int} (hx : toR f g x ≠ 0) (hy : toR f g y = 0) (h1 : 0 ≤ f x.toNat) (h2 : 0 ≤ g x.toNat) (h3 : 0 ≤ f y.toNat) (h4 : 0 ≤ g y.toNat) : ltR f g x y = true := by
  unfold ltR
  unfold toR at hx hy
  rw [decide_eq_true_iff, crI_neg h1 h2 h3 h4]
  exact .inl ⟨hy, hx⟩
theorem stopJ_none {lt : Int → Int → Bool} {q : List Int} {x : Int} : ∀ j, (∀ y ∈ q, lt x y = false) → j ≤ q.length → stopJ lt q x j = j
  | 0, _, _ => rfl
  | j + 1, h, hj => by
    simp only [stopJ]
    rw [if_neg (by rw [h _ (getD_memI (by omega))]; decide)]
theorem stopJ_app {lt : Int → Int → Bool} {A B : List Int} {x : Int} (h : ∀ y ∈ B, lt x y = true) : ∀ j, j ≤ (A ++ B).length → stopJ lt (A ++ B) x j ≤ A.length
  | 0, _ => Nat.zero_le _
  | j + 1, hj => by
    simp only [stopJ]
    split
    · exact stopJ_app h j (by omega)
    · next hn =>
      by_cases hA : j < A.length
      · omega
      · exfalso
        apply hn
        apply h
        rw [getD_app, if_neg hA]
        exact getD_memI (by rw [List.length_append] at hj; omega)
/-- What is worth something, and then what is worth nothing. -/
theorem sort_split {n : Nat} {f g : Nat → Int} (hf : in100 n f) (hg : in100 n g) : ∀ k, k ≤ n → ∃ A B, sortP (ltR f g) (idx n) k = A ++ B ∧ (∀ y ∈ A, toR f g y ≠ 0) ∧ ∀ y ∈ B, toR f g y = 0
  | 0, _ => ⟨[], [], rfl, fun y hy => by simp at hy, fun y hy => by simp at hy⟩
  | k + 1, hk => by
    obtain ⟨A, B, e, hA, hB⟩ := sort_split hf hg k (by omega)
    have hm := sortP_idx (lt := ltR f g) (n := n) k (by omega)
    have hkk := hf k (by omega)
    have hkg := hg k (by omega)
    have nf : ∀ y ∈ sortP (ltR f g) (idx n) k, 0 ≤ f y.toNat ∧ 0 ≤ g y.toNat := fun y hy => by
      have := hm y hy
      exact ⟨(hf _ (by omega)).1, (hg _ (by omega)).1⟩
    have e2 : sortP (ltR f g) (idx n) (k + 1) = putL (A ++ B) k [] (stopJ (ltR f g) (A ++ B) k (A ++ B).length) := by
      rw [← e, ← idx_get (show k < n by omega)]
      rfl
    rw [e] at nf
    by_cases h0 : toR f g (k : Int) = 0
    · rw [e2, stopJ_none _ (fun y hy => ltR_zero h0 hkk.1 hkg.1 (nf y hy).1 (nf y hy).2) (Nat.le_refl _)]
      refine ⟨A, B ++ [(k : Int)], ?_, hA, fun y hy => ?_⟩
      · unfold putL
        rw [List.take_of_length_le (Nat.le_refl _), List.drop_of_length_le (Nat.le_refl _)]
        simp
      · rcases List.mem_append.1 hy with h | h
        · exact hB y h
        · rw [List.mem_singleton.1 h]; exact h0
    · have hs := stopJ_app (A := A) (B := B) (x := (k : Int)) (lt := ltR f g) (fun y hy => ltR_pos h0 (hB y hy) hkk.1 hkg.1 (nf y (List.mem_append.2 (.inr hy))).1 (nf y (List.mem_append.2 (.inr hy))).2) _ (Nat.le_refl _)
      rw [e2]
      generalize stopJ (ltR f g) (A ++ B) k (A ++ B).length = p at *
      refine ⟨A.take p ++ [(k : Int)] ++ A.drop p, B, ?_, fun y hy => ?_, hB⟩
      · unfold putL
        rw [List.take_append_of_le_length hs, List.drop_append_of_le_length hs]
        simp
      · simp only [List.mem_append, List.mem_singleton] at hy
        rcases hy with (h | rfl) | h
        · exact hA y (List.mem_of_mem_take h)
        · exact h0
        · exact hA y (List.mem_of_mem_drop h)
theorem ord_nodup {lt : Int → Int → Bool} {n : Nat} : ∀ k, k ≤ n → (sortP lt (idx n) k).Nodup
  | 0, _ => List.nodup_nil
  | k + 1, hk => by
    have h := ord_nodup (lt := lt) (n := n) k (by omega)
    have hm := sortP_idx (lt := lt) (n := n) k (by omega)
    show (putL (sortP lt (idx n) k) ((idx n).getD k 0) [] _).Nodup
    rw [idx_get (show k < n by omega)]
    generalize stopJ lt (sortP lt (idx n) k) _ _ = p
    generalize sortP lt (idx n) k = q at *
    have hp : (putL q k [] p).Perm ((k : Int) :: q) := by
      unfold putL
      rw [List.append_nil, List.append_assoc]
      refine List.perm_middle.trans ?_
      show ((k : Int) :: (q.take p ++ q.drop p)).Perm _
      rw [List.take_append_drop]
    rw [hp.nodup_iff, List.nodup_cons]
    exact ⟨fun h2 => by have := hm _ h2; omega, h⟩
theorem ord_inj {f g : Nat → Int} {n i j : Nat} (hij : i < j) (hj : j < n) : (ordR f g n).getD i 0 ≠ (ordR f g n).getD j 0 := by
  have h := ord_nodup (lt := ltR f g) n (Nat.le_refl _)
  have hl := ordR_len f g n
  have e1 : (ordR f g n).getD i 0 = (ordR f g n)[i]'(by omega) := by simp [List.getD, List.getElem?_eq_getElem (show i < (ordR f g n).length by omega)]
  have e2 : (ordR f g n).getD j 0 = (ordR f g n)[j]'(by omega) := by simp [List.getD, List.getElem?_eq_getElem (show j < (ordR f g n).length by omega)]
  rw [e1, e2]
  have h : (ordR f g n).Nodup := h
  exact List.pairwise_iff_getElem.1 h i j (by omega) (by omega) hij
end Go.Tri
