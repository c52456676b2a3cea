/-
  LAW: StampCounted.
-/
import Derived.Test.YtjhconffdkgikaaM1
namespace Go.Tri
open Go.Proofs

/-- n over i, as it is computed. -/
def chI (n : Int) : Nat → Int
  | 0 => 1
  | i + 1 => (chI n i * (n - ((i : Int) + 1) + 1)).tdiv ((i : Int) + 1)
theorem chI_bd : ∀ n, n < 13 → ∀ i, i < 7 → 0 ≤ chI (n : Nat) i ∧ chI (n : Nat) i ≤ 1000 ∧ -100000 ≤ chI (n : Nat) i * ((n : Nat) - ((i : Int) + 1) + 1) ∧ chI (n : Nat) i * ((n : Nat) - ((i : Int) + 1) + 1) ≤ 100000 := by decide
theorem choose_pure (n k : Nat) (hn : n < 13) (hk : k < 7) : APure Try.prog 37 [.int n, .int k] (fun R => R = .int (chI n k)) := by
  refine APure_of (X := cx 21) (cx_ok 21) rfl (rs := [(.tmp 4, 3)]) Try.func37 (by decide) rfl rfl rfl (by simp [cx]) (by simp [NoFr]) ?_
  intro _
  conv => whnf
  refine AW_loop (X := cx 21) (cx_ok 21) [0, 1, 5, 6] (fun vs M => ∃ i : Nat, i ≤ k ∧ vs = [.int n, .int k, .int (chI n i), .int ((i : Int) + 1)] ∧ M = []) (fun vs _ => k + 1 - (vs.getD 3 .any).toInt.toNat) ?_ ?_
  · exact ⟨0, Nat.zero_le _, rfl, rfl⟩
  rintro vs M ⟨i, hi, rfl, rfl⟩
  have hb := chI_bd n hn i (by omega)
  conv => whnf
  refine br_dec (fun hlt => ?_) (fun hge => ?_)
  · have hb2 := chI_bd n hn (i + 1) (by omega)
    conv => whnf
    refine ⟨inr (by omega), ?_⟩
    conv => whnf
    refine ⟨inr (by omega), ?_⟩
    conv => whnf
    refine ⟨inr (by omega), ?_⟩
    conv => whnf
    refine ⟨(show ((i : Int) + 1) ≠ 0 by omega), ?_⟩
    conv => whnf
    refine ⟨inr (show -9223372036854775808 ≤ chI n (i + 1) ∧ chI n (i + 1) ≤ 9223372036854775807 by omega), ?_⟩
    conv => whnf
    refine ⟨inr (by omega), ?_⟩
    conv => whnf
    refine ⟨⟨i + 1, by omega, rfl, rfl⟩, ?_⟩
    simp [V.toInt, sel, Env.get]; omega
  · conv => whnf
    exact ⟨trivial, Qi (by rw [show i = k from by omega])⟩

/-- How many lists extend yields. -/
def eN : Nat → Nat → Nat
  | 0, _ => 1
  | m + 1, k => sumK (fun i => eN m (k - i)) k
theorem flat_sum (f : Nat → List (List Int × Int)) : ∀ n, ((revTo n).flatMap f).length = sumK (fun k => (f k).length) n := by
  intro n
  induction n with
  | zero => rfl
  | succ n ih => simp only [revTo, List.flatMap_cons, List.length_append, ih, sumK]
theorem ext_length : ∀ (m : Nat) (l : List Int) (p : Int) (vals : List Int), (ext m l p vals).length = eN m vals.length := by
  intro m
  induction m with
  | zero => intro l p vals; rfl
  | succ m ih =>
    intro l p vals
    simp only [ext, eN]
    rw [flat_sum]
    exact sumK_congr _ (fun k _ => by rw [ih, List.length_drop])
theorem allX_length (h : Nat) (vals : List Int) : (allX h vals).length = sumK (fun m => eN m vals.length) (h + 1) := by
  unfold allX fromX
  have : ∀ n j, ((List.range' j n).flatMap fun m => ext m [] 0 vals).length = sumK (fun m => eN (j + m) vals.length) n := by
    intro n
    induction n with
    | zero => intro j; rfl
    | succ n ih =>
      intro j
      rw [List.range'_succ, List.flatMap_cons, List.length_append, ih, sumK_first, ext_length]
      simp only [Nat.add_zero]
      congr 1
      exact sumK_congr _ (fun k _ => by rw [show j + 1 + k = j + (k + 1) from by omega])
  rw [this]
  simp only [Nat.zero_add, Nat.sub_zero]
set_option maxRecDepth 100000 in
theorem ways_choose : ∀ h, h < 7 → ∀ k, k < 7 → 1 ≤ k → ((sumK (fun m => eN m k) (h + 1) : Nat) : Int) = chI ((h + k : Nat) : Int) h := by decide

def sumA (f : Nat → Int) : Nat → Int
  | 0 => 0
  | a + 1 => sumA f a + f a
theorem sumA_congr {f g : Nat → Int} : ∀ n, (∀ a, a < n → f a = g a) → sumA f n = sumA g n := by
  intro n
  induction n with
  | zero => intro _; rfl
  | succ n ih => intro h; simp only [sumA]; rw [ih (fun a ha => h a (by omega)), h n (by omega)]
theorem sumA_one (j : Nat) : ∀ n, sumA (fun a => if j = a then 1 else 0) n = if j < n then 1 else 0 := by
  intro n
  induction n with
  | zero => rfl
  | succ n ih =>
    simp only [sumA, ih]
    by_cases h1 : j < n
    · rw [if_pos h1, if_neg (by omega), if_pos (by omega)]; rfl
    · by_cases h2 : j = n
      · rw [if_neg h1, if_pos h2, if_pos (by omega)]; rfl
      · rw [if_neg h1, if_neg h2, if_neg (by omega)]; rfl
theorem sumA_add (f g : Nat → Int) : ∀ n, sumA (fun a => f a + g a) n = sumA f n + sumA g n := by
  intro n
  induction n with
  | zero => rfl
  | succ n ih => simp only [sumA, ih]; omega
theorem sumA_mono {f : Nat → Int} (hf : ∀ a, 0 ≤ f a) {m n : Nat} (h : m ≤ n) : sumA f m ≤ sumA f n := by
  induction n with
  | zero => obtain rfl : m = 0 := by omega
            exact Int.le_refl _
  | succ n ih =>
    rcases (by omega : m = n + 1 ∨ m ≤ n) with rfl | h1
    · exact Int.le_refl _
    · have := ih h1
      have := hf n
      simp only [sumA]
      omega
theorem sumA_ge {f : Nat → Int} : ∀ n, (∀ a, a < n → 1 ≤ f a) → (n : Int) ≤ sumA f n := by
  intro n
  induction n with
  | zero => intro _; exact Int.le_refl _
  | succ n ih =>
    intro h
    have := ih (fun a ha => h a (by omega))
    have := h n (by omega)
    simp only [sumA]
    omega
theorem sum_counts (n : Nat) : ∀ qs : List (List Int × Int), (∀ q ∈ qs, q.2.toNat < n) → sumA (fun j => ((qs.countP (fun q => decide (q.2.toNat = j)) : Nat) : Int)) n = qs.length := by
  intro qs
  induction qs with
  | nil =>
    intro _
    have : ∀ n, sumA (fun _ => 0) n = 0 := by
      intro n
      induction n with
      | zero => rfl
      | succ n ih => simp [sumA, ih]
    simpa using this n
  | cons q r ih =>
    intro h
    have h1 := h q List.mem_cons_self
    have h2 := sumA_one q.2.toNat n
    rw [if_pos h1] at h2
    rw [sumA_congr (g := fun a => ((r.countP (fun q => decide (q.2.toNat = a)) : Nat) : Int) + (if q.2.toNat = a then 1 else 0)) n ?_, sumA_add, ih (fun q hq => h q (List.mem_cons_of_mem _ hq)), h2]
    · simp
    · intro a _
      rw [List.countP_cons]
      by_cases he : q.2.toNat = a
      · simp [he]
      · simp [he]

theorem letters_nonneg {h : Nat} {v : List Int} (hv : Vals v) (a : Nat) : 0 ≤ (lettersL h v).getD a 0 := by
  by_cases ha : (a : Int) ≤ h * lastV v
  · rw [letters_get hv ha]; omega
  · have hl := hv.last
    have hn : 0 ≤ (h : Int) * lastV v := Int.mul_nonneg (by omega) (by omega)
    rw [show (lettersL h v).getD a 0 = 0 from by simp only [List.getD, List.getElem?_eq_none (show (lettersL h v).length ≤ a by rw [lettersL_len]; omega), Option.getD_none]]
    exact Int.le_refl _
theorem letters_sum {h : Nat} {v : List Int} (hv : Vals v) : sumA (fun a => (lettersL h v).getD a 0) (h * lastV v + 1).toNat = (allX h v).length := by
  have hl := hv.last
  have hn : 0 ≤ (h : Int) * lastV v := Int.mul_nonneg (by omega) (by omega)
  rw [← sum_counts (h * lastV v + 1).toNat (allX h v) (fun q hq => by have := allX_paid (h := h) hv.mem (by omega) q hq; omega)]
  refine sumA_congr _ (fun a ha => ?_)
  unfold lettersL
  rw [foldL_get _ _ _ (by rw [List.length_replicate]; exact ha)]
  have h0 : (List.replicate (h * lastV v + 1).toNat (0 : Int)).getD a 0 = 0 := by
    simp only [List.getD, List.getElem?_replicate]
    split <;> rfl
  rw [h0, Int.zero_add]

/-- What the range is. -/
structure IsReach (h : Nat) (v : List Int) (r : Int) : Prop where
  lo : 0 ≤ r
  hi : r ≤ h * lastV v
  yes : ∀ a : Nat, (a : Int) ≤ r → 1 ≤ (lettersL h v).getD a 0
  no : ∀ a : Nat, (a : Int) = r + 1 → (a : Int) ≤ h * lastV v → (lettersL h v).getD a 0 = 0
theorem rangeOf_yes {p : Nat → Bool} : ∀ (f n a : Nat), n < a → a ≤ rangeOf p f n → p a = true := by
  intro f
  induction f with
  | zero => intro n a h1 h2; simp only [rangeOf] at h2; omega
  | succ f ih =>
    intro n a h1 h2
    simp only [rangeOf] at h2
    split at h2
    · next hp =>
      rcases (by omega : a = n + 1 ∨ n + 1 < a) with rfl | h3
      · exact hp
      · exact ih _ _ h3 h2
    · omega
theorem rangeOf_no {p : Nat → Bool} : ∀ (f n : Nat), rangeOf p f n < n + f → p (rangeOf p f n + 1) = false := by
  intro f
  induction f with
  | zero => intro n h; simp only [rangeOf] at h; omega
  | succ f ih =>
    intro n h
    simp only [rangeOf] at h ⊢
    split
    · next hp =>
      rw [if_pos hp] at h
      exact ih _ (by omega)
    · next hp => simpa using hp
theorem is_reach {h : Nat} {v : List Int} (hv : Vals v) : IsReach h v (reachP (lettersL h v)) := by
  have hl := hv.last
  have hn : 0 ≤ (h : Int) * lastV v := Int.mul_nonneg (by omega) (by omega)
  have hll := lettersL_len h v
  have e0 : (lettersL h v).getD 0 0 = (cS (h + 1) v 0 : Nat) := letters_get (h := h) hv (a := 0) (by omega)
  rw [cS_at0 (fun x hx => (hv.mem x hx).1)] at e0
  have h0 : (lettersL h v).getD 0 0 ≠ 0 := by rw [e0]; decide
  rw [reachP_rangeOf (by omega) h0]
  have hle := rangeOf_le (hasB (lettersL h v)) ((lettersL h v).length - 1) 0
  refine ⟨by omega, by omega, fun a ha => ?_, fun a ha ha2 => ?_⟩
  · rcases (by omega : a = 0 ∨ 0 < a) with rfl | h1
    · rw [e0]; decide
    · have := rangeOf_yes _ _ _ h1 (by omega : a ≤ rangeOf (hasB (lettersL h v)) ((lettersL h v).length - 1) 0)
      unfold hasB at this
      have h2 := letters_nonneg (h := h) hv a
      have h3 := of_decide_eq_true this
      omega
  · have := rangeOf_no (p := hasB (lettersL h v)) ((lettersL h v).length - 1) 0 (by omega)
    rw [show rangeOf (hasB (lettersL h v)) ((lettersL h v).length - 1) 0 + 1 = a from by omega] at this
    unfold hasB at this
    have := of_decide_eq_false this
    exact Classical.not_not.1 this

set_option maxRecDepth 100000 in
theorem StampCounted_pure (h : Int) (v : List Int) : APure Try.prog 9 [.int h, .ints false v] (fun R => R = .bool true) := by
  refine APure_of (X := cx 99) (cx_ok 99) rfl (rs := [(.tmp 4, 4)]) Try.func9 (by decide) rfl rfl rfl (by simp [cx]) (by simp [NoFr]) ?_
  intro hlen
  have fin : APure Try.prog 16 [] (fun R => R = .bool true) := alive_pure
  conv => whnf
  refine br_dec (fun hl => ?_) (fun hl => ?_)
  · conv => whnf
    refine APure.to fin ?_
    conv => whnf
    exact ⟨trivial, rfl⟩
  conv => whnf
  refine APure.to (refTicket_pure h v) ?_
  conv => whnf
  refine br_ne (fun h0 => ?_) (fun h0 => ?_)
  · conv => whnf
    refine APure.to fin ?_
    conv => whnf
    exact ⟨trivial, rfl⟩
  obtain ⟨hh, hv⟩ := tickE_inv h0
  obtain ⟨n, rfl⟩ : ∃ n : Nat, h = n := ⟨h.toNat, by omega⟩
  have hb := mul_bd hh hv.last
  have h1l := hv.1
  have h6l := hv.2.1
  have hl : v.getD ((v.length : Int) - 1).toNat 0 = lastV v := by unfold lastV; congr 1; omega
  have hc := ways_choose n (by omega) v.length (by omega) h1l
  have hcb := chI_bd (n + v.length) (by omega) n (by omega)
  rw [← allX_length n v] at hc
  have hsum := letters_sum (h := n) hv
  have hr := is_reach (h := n) hv
  have hnn := letters_nonneg (h := n) hv
  have hll := lettersL_len n v
  have hrc : reachP (lettersL n v) + 1 ≤ (allX n v).length := by
    obtain ⟨r, hre⟩ : ∃ r : Nat, reachP (lettersL n v) = r := ⟨(reachP (lettersL n v)).toNat, by have := hr.lo; omega⟩
    have g1 := sumA_ge (f := fun a => (lettersL n v).getD a 0) (r + 1) (fun a ha => hr.yes a (by omega))
    have g2 := sumA_mono (f := fun a => (lettersL n v).getD a 0) hnn (m := r + 1) (n := (n * lastV v + 1).toNat) (by have := hr.hi; omega)
    omega
  have hs_le : ∀ a : Nat, (a : Int) ≤ n * lastV v + 1 → 0 ≤ sumA (fun a => (lettersL n v).getD a 0) a ∧ sumA (fun a => (lettersL n v).getD a 0) a ≤ (allX n v).length := fun a ha => by
    refine ⟨sumA_mono hnn (Nat.zero_le a), ?_⟩
    rw [← hsum]
    exact sumA_mono hnn (by omega)
  have hR := Range_pure n v
  have hW := Ways_pure n v
  rw [if_pos h0, h0, Int.toNat_natCast] at hR
  conv => whnf
  refine ⟨inr (by omega), ?_⟩
  conv => whnf
  refine APure.to (choose_pure (n + v.length) n (by omega) (by omega)) ?_
  rw [← hc]
  conv => whnf
  refine APure.to hR ?_
  generalize reachP (lettersL n v) = r at *
  conv => whnf
  refine br_dec (fun h1 => absurd h1 (by have := hr.lo; omega)) (fun _ => ?_)
  conv => whnf
  refine ⟨inr (by omega), ?_⟩
  conv => whnf
  refine br_dec (fun h1 => absurd h1 (by omega)) (fun _ => ?_)
  conv => whnf
  refine AW_loop (X := cx 99) (cx_ok 99) [0, 1, 5, 6, 8, 9] (fun vs M => ∃ a : Nat, (a : Int) ≤ n * lastV v + 1 ∧ vs = [.int n, .ints false v, .int (allX n v).length, .int r, .int (sumA (fun a => (lettersL n v).getD a 0) a), .int a] ∧ M = [])
    (fun vs _ => (n * lastV v + 2).toNat - (vs.getD 5 .any).toInt.toNat) ?_ ?_
  · exact ⟨0, by omega, rfl, rfl⟩
  rintro vs M ⟨a, ha, rfl, rfl⟩
  have hsa := hs_le a ha
  conv => whnf
  refine ⟨inr (by omega), ?_⟩
  conv => whnf
  refine ⟨by omega, ?_⟩
  conv => whnf
  refine ⟨by omega, ?_⟩
  rw [hl]
  conv => whnf
  refine ⟨inr (by omega), ?_⟩
  conv => whnf
  refine br_dec (fun hlt => ?_) (fun hge => ?_)
  · have hsa2 := hs_le (a + 1) (by omega)
    have hwa := hnn a
    have hyes := hr.yes a
    have hno := hr.no a
    have hW := hW a
    have e0 : amtE n v a = 0 := by unfold amtE; rw [if_pos h0, if_pos (by omega)]
    rw [if_pos e0, e0, Int.toNat_natCast, Int.toNat_natCast] at hW
    have hsn : sumA (fun a => (lettersL n v).getD a 0) (a + 1) = sumA (fun a => (lettersL n v).getD a 0) a + (lettersL n v).getD a 0 := rfl
    conv => whnf
    refine APure.to hW ?_
    generalize (lettersL n v).getD a 0 = w at *
    have fin2 : ∀ s', s' = sumA (fun a => (lettersL n v).getD a 0) (a + 1) → True := fun _ _ => trivial
    conv => whnf
    refine br_dec (fun h1 => absurd h1 (by omega)) (fun _ => ?_)
    conv => whnf
    refine br_dec (fun h1 => ?_) (fun h1 => ?_)
    · conv => whnf
      refine br_eq (fun h2 => absurd h2 (by have := hyes h1; omega)) (fun h2 => ?_)
      conv => whnf
      refine ⟨inr (by have := hr.hi; omega), ?_⟩
      conv => whnf
      refine br_eq (fun h3 => absurd h3 (by omega)) (fun h3 => ?_)
      conv => whnf
      refine ⟨inr (by omega), ?_⟩
      conv => whnf
      refine ⟨inr (by omega), ?_⟩
      conv => whnf
      refine ⟨⟨a + 1, by omega, ?_, rfl⟩, ?_⟩
      · rw [hsn]; rfl
      · simp [V.toInt, sel, Env.get]; omega
    · conv => whnf
      refine ⟨inr (by have := hr.hi; omega), ?_⟩
      conv => whnf
      refine br_eq (fun h3 => ?_) (fun h3 => ?_)
      · have h3 : (a : Int) = r + 1 := h3
        conv => whnf
        refine br_dec (fun h4 => absurd h4 (by have := hno h3 hlt; omega)) (fun h4 => ?_)
        conv => whnf
        refine ⟨inr (by omega), ?_⟩
        conv => whnf
        refine ⟨inr (by omega), ?_⟩
        conv => whnf
        refine ⟨⟨a + 1, by omega, ?_, rfl⟩, ?_⟩
        · rw [hsn]; rfl
        · simp [V.toInt, sel, Env.get]; omega
      · conv => whnf
        refine ⟨inr (by omega), ?_⟩
        conv => whnf
        refine ⟨inr (by omega), ?_⟩
        conv => whnf
        refine ⟨⟨a + 1, by omega, ?_, rfl⟩, ?_⟩
        · rw [hsn]; rfl
        · simp [V.toInt, sel, Env.get]; omega
  · have e : sumA (fun a => (lettersL n v).getD a 0) a = (allX n v).length := by
      rw [← hsum]
      congr 1
      omega
    rw [e]
    conv => whnf
    refine br_eq (fun _ => ?_) (fun h1 => absurd rfl h1)
    conv => whnf
    refine APure.to fin ?_
    conv => whnf
    exact ⟨trivial, rfl⟩
end Go.Tri
