/-
  WHAT Pay'S LIST IS; TAKING THE GREATEST VALUE FIRST.
-/
import Derived.Test.YtnjojmjcjhcnaaaB14
namespace Go.Tri
open Go.Proofs

/-- The sum of the first k. -/
def sumP (l : List Int) : Nat → Int
  | 0 => 0
  | k + 1 => sumP l k + l.getD k 0
theorem sumP_cons (x : Int) (l : List Int) : ∀ k, sumP (x :: l) (k + 1) = x + sumP l k := by
  intro k
  induction k with
  | zero => simp [sumP, List.getD]
  | succ k ih =>
    rw [show sumP (x :: l) (k + 1 + 1) = sumP (x :: l) (k + 1) + (x :: l).getD (k + 1) 0 from rfl, ih, List.getD_cons_succ]
    simp only [sumP]
    omega
theorem getD_drop (l : List Int) (k i : Nat) : (l.drop k).getD i 0 = l.getD (k + i) 0 := by simp [List.getD]
/-- A list that Pay finds: values, ascending, with this sum. -/
theorem exF_spec : ∀ {m : Nat} {vals : List Int} {a : Int} {l : List Int}, (∀ i j, i < j → j < vals.length → vals.getD i 0 < vals.getD j 0) → exF m vals a = some l →
    (∀ x ∈ l, x ∈ vals) ∧ (∀ i, 0 < i → i < l.length → l.getD (i - 1) 0 ≤ l.getD i 0) ∧ sumP l l.length = a := by
  intro m
  induction m with
  | zero =>
    intro vals a l _ h
    simp only [exF] at h
    split at h
    · next h0 => cases h; exact ⟨fun x hx => absurd hx (by simp), fun i _ h => absurd h (by simp), h0.symm⟩
    · cases h
  | succ m ih =>
    intro vals a l hs h
    simp only [exF] at h
    obtain ⟨k, hk, h2⟩ := firstDown_some h
    split at h2
    · cases hq : exF m (vals.drop k) (a - vals.getD k 0) with
      | none => rw [hq] at h2; cases h2
      | some l' =>
        rw [hq] at h2
        simp only [Option.map_some, Option.some.injEq] at h2
        subst h2
        have hsd : ∀ i j, i < j → j < (vals.drop k).length → (vals.drop k).getD i 0 < (vals.drop k).getD j 0 := fun i j hij hj => by
          rw [List.length_drop] at hj
          rw [getD_drop, getD_drop]
          exact hs _ _ (by omega) (by omega)
        obtain ⟨g1, g2, g3⟩ := ih hsd hq
        refine ⟨fun x hx => ?_, fun i hi0 hi => ?_, ?_⟩
        · rcases List.mem_cons.1 hx with rfl | hx
          · exact getD_mem' hk
          · exact List.mem_of_mem_drop (g1 x hx)
        · obtain ⟨j, rfl⟩ : ∃ j, i = j + 1 := ⟨i - 1, by omega⟩
          rw [List.length_cons] at hi
          rw [List.getD_cons_succ, Nat.add_sub_cancel]
          rcases (by omega : j = 0 ∨ 0 < j) with rfl | hj
          · obtain ⟨n, hn, e⟩ := mem_getD (g1 _ (getD_mem' (l := l') (k := 0) (by omega)))
            rw [List.length_drop] at hn
            rw [← e, getD_drop, List.getD_cons_zero]
            rcases (by omega : n = 0 ∨ 0 < n) with rfl | hn0
            · exact Int.le_refl _
            · exact Int.le_of_lt (hs _ _ (by omega) (by omega))
          · obtain ⟨n, rfl⟩ : ∃ n, j = n + 1 := ⟨j - 1, by omega⟩
            rw [List.getD_cons_succ]
            exact g2 (n + 1) (by omega) (by omega)
        · rw [List.length_cons, sumP_cons, g3]
          omega
    · cases h2
theorem payO_spec {h : Nat} {v : List Int} (hv : Vals v) {a : Int} {l : List Int} (e : payO h v a = some l) :
    (∀ x ∈ l, x ∈ v) ∧ (∀ i, 0 < i → i < l.length → l.getD (i - 1) 0 ≤ l.getD i 0) ∧ sumP l l.length = a ∧ l.length ≤ h := by
  unfold payO at e
  rcases firstUp_spec (f := fun m => exF m v a) (h + 1) 0 with ⟨l', m, h1, h2, _, h4, _⟩ | ⟨h1, _⟩
  · rw [h1] at e
    cases e
    obtain ⟨g1, g2, g3⟩ := exF_spec (fun i j hij hj => hv.2.2.lt hij hj) h2
    exact ⟨g1, g2, g3, by rw [exF_len h2]; omega⟩
  · rw [h1] at e
    cases e

theorem letters_pos0 {h : Nat} {v : List Int} (hv : Vals v) (a : Nat) : 0 ≤ (lettersL h v).getD a 0 := by
  by_cases ha : (a : Int) ≤ h * lastV v
  · rw [letters_get hv ha]; omega
  · have hl := hv.last
    have hn : 0 ≤ (h : Int) * lastV v := Int.mul_nonneg (by omega) (by omega)
    rw [show (lettersL h v).getD a 0 = 0 from by simp only [List.getD, List.getElem?_eq_none (show (lettersL h v).length ≤ a by rw [lettersL_len]; omega), Option.getD_none]]
    exact Int.le_refl _

/-! ## The greatest value first -/

/-- With the values below k still to take: how many there are then, and what is left. -/
def greK (v : List Int) : Nat → Int → Int → Int × Int
  | 0, u, a => (u, a)
  | k + 1, u, a => greK v k (u + a.tdiv (v.getD k 0)) (a.tmod (v.getD k 0))
def gOk (h : Int) (v : List Int) (a : Int) : Bool := decide ((greK v v.length 0 a).2 = 0 ∧ (greK v v.length 0 a).1 ≤ h)
theorem gre_step {x a : Int} (hx : 1 ≤ x) (ha : 0 ≤ a) : 0 ≤ a.tdiv x ∧ 0 ≤ a.tmod x ∧ a.tdiv x + a.tmod x ≤ a := by
  have h1 := Int.tdiv_nonneg ha (show 0 ≤ x by omega)
  have h2 := Int.tmod_nonneg x ha
  have h3 := Int.tmod_add_mul_tdiv a x
  have h4 : 1 * a.tdiv x ≤ x * a.tdiv x := Int.mul_le_mul_of_nonneg_right hx h1
  omega
theorem gre_bd {v : List Int} (hv : ∀ i, i < v.length → 1 ≤ v.getD i 0) : ∀ (k : Nat) (u a : Int), k ≤ v.length → 0 ≤ u → 0 ≤ a →
    0 ≤ (greK v k u a).1 ∧ 0 ≤ (greK v k u a).2 ∧ (greK v k u a).1 + (greK v k u a).2 ≤ u + a := by
  intro k
  induction k with
  | zero => intro u a _ hu ha; exact ⟨hu, ha, Int.le_refl _⟩
  | succ k ih =>
    intro u a hk hu ha
    obtain ⟨h1, h2, h3⟩ := gre_step (hv k (by omega)) ha
    have := ih (u + a.tdiv (v.getD k 0)) (a.tmod (v.getD k 0)) (by omega) (by omega) h2
    simp only [greK]
    omega
theorem gre_zero (v : List Int) : ∀ k, greK v k 0 0 = (0, 0) := by
  intro k
  induction k with
  | zero => rfl
  | succ k ih => simp only [greK, Int.zero_tdiv, Int.zero_tmod, Int.add_zero]; exact ih
theorem gOk_zero {h : Int} (hh : 0 ≤ h) (v : List Int) : gOk h v 0 = true := by
  unfold gOk
  rw [gre_zero]
  simp [hh]

/-! ## The first amount of which something holds -/

def badO (p : Nat → Bool) : Nat → Option Nat
  | 0 => none
  | k + 1 => match badO p k with
    | some a => some a
    | none => if p k = true then some k else none
theorem badO_step {p : Nat → Bool} {k : Nat} (h : badO p k = none) : badO p (k + 1) = if p k = true then some k else none := by simp only [badO, h]
theorem badO_stay {p : Nat → Bool} {k a : Nat} (h : badO p k = some a) : ∀ d, badO p (k + d) = some a := by
  intro d
  induction d with
  | zero => exact h
  | succ d ih => rw [← Nat.add_assoc]; simp only [badO, ih]
theorem badO_stay' {p : Nat → Bool} {k a n : Nat} (h : badO p k = some a) (hn : k ≤ n) : badO p n = some a := by
  have := badO_stay h (n - k)
  rwa [show k + (n - k) = n from by omega] at this
theorem badO_some {p : Nat → Bool} : ∀ {k a : Nat}, badO p k = some a → a < k ∧ p a = true ∧ ∀ j, j < a → p j = false := by
  intro k
  induction k with
  | zero => intro a h; cases h
  | succ k ih =>
    intro a h
    cases hk : badO p k with
    | some b =>
      have := ih hk
      simp only [badO, hk, Option.some.injEq] at h
      subst h
      exact ⟨by omega, this.2⟩
    | none =>
      rw [badO_step hk] at h
      split at h
      · next hp =>
        cases h
        refine ⟨by omega, hp, fun j hj => ?_⟩
        clear ih hp
        induction k with
        | zero => omega
        | succ k ih =>
          cases hk2 : badO p k with
          | some b => simp only [badO, hk2] at hk; cases hk
          | none =>
            rw [badO_step hk2] at hk
            split at hk
            · cases hk
            · next hp =>
              rcases (by omega : j = k ∨ j < k) with rfl | h1
              · simpa using hp
              · exact ih hk2 h1
      · cases h
theorem badO_none {p : Nat → Bool} : ∀ {k : Nat}, badO p k = none → ∀ j, j < k → p j = false := by
  intro k
  induction k with
  | zero => intro _ j hj; omega
  | succ k ih =>
    intro h j hj
    cases hk : badO p k with
    | some b => simp only [badO, hk] at h; cases h
    | none =>
      rw [badO_step hk] at h
      split at h
      · cases h
      · next hp =>
        rcases (by omega : j = k ∨ j < k) with rfl | h1
        · simpa using hp
        · exact ih hk j h1
theorem badO_congr {p q : Nat → Bool} : ∀ k, (∀ a, a < k → p a = q a) → badO p k = badO q k := by
  intro k
  induction k with
  | zero => intro _; rfl
  | succ k ih => intro h; simp only [badO]; rw [ih (fun a ha => h a (by omega)), h k (by omega)]
end Go.Tri
