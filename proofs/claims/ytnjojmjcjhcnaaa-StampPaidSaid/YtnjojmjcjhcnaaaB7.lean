/-
  CONTRACTS: the reference's few, reach, Range, Holes.
-/
import Derived.Test.YtnjojmjcjhcnaaaB2
namespace Go.Tri
open Go.Proofs

/-- The least number of stamps with which a is paid, of the first k values; h + 1 if there is none. -/
def fB (out v : List Int) (a h : Int) : Nat → Int
  | 0 => h + 1
  | k + 1 => if v.getD k 0 ≤ a ∧ 0 ≤ out.getD (a - v.getD k 0).toNat 0 then minI (fB out v a h k) (out.getD (a - v.getD k 0).toNat 0 + 1) else fB out v a h k
def fewV (h : Int) (v out : List Int) (a : Nat) : Int := if a = 0 then 0 else if fB out v a h v.length > h then -1 else fB out v a h v.length
/-- The first amounts. -/
def fewP (h : Int) (v : List Int) : Nat → List Int
  | 0 => []
  | a + 1 => fewP h v a ++ [fewV h v (fewP h v a) a]
def fewL (h : Int) (v : List Int) : List Int := fewP h v (h * lastV v + 1).toNat

theorem fewP_len (h : Int) (v : List Int) : ∀ a, (fewP h v a).length = a := by
  intro a
  induction a with
  | zero => rfl
  | succ a ih => simp [fewP, ih]
theorem getD_snoc (l : List Int) (x : Int) (n : Nat) (hl : l.length = n) : (l ++ [x]).getD n 0 = x := by subst hl; simp [List.getD]
theorem getD_app {l r : List Int} {j : Nat} (hj : j < l.length) : (l ++ r).getD j 0 = l.getD j 0 := by simp [List.getD, List.getElem?_append_left hj]
theorem fewP_get (h : Int) (v : List Int) : ∀ {a j : Nat}, j < a → (fewP h v a).getD j 0 = fewV h v (fewP h v j) j := by
  intro a
  induction a with
  | zero => intro j hj; omega
  | succ a ih =>
    intro j hj
    rcases (by omega : j = a ∨ j < a) with rfl | h1
    · exact getD_snoc _ _ _ (fewP_len h v j)
    · simp only [fewP]
      rw [getD_app (by rw [fewP_len]; exact h1), ih h1]
theorem fB_bd {out v : List Int} {a h : Int} (hh : 0 ≤ h) (ho : ∀ j, -1 ≤ out.getD j 0 ∧ out.getD j 0 ≤ h) : ∀ k, 1 ≤ fB out v a h k ∧ fB out v a h k ≤ h + 1 := by
  intro k
  induction k with
  | zero => simp only [fB]; omega
  | succ k ih =>
    simp only [fB]
    split
    · next hc =>
      have := ho (a - v.getD k 0).toNat
      unfold minI
      split <;> omega
    · exact ih
theorem fewP_bd {h : Int} (hh : 0 ≤ h) (v : List Int) : ∀ a j, -1 ≤ (fewP h v a).getD j 0 ∧ (fewP h v a).getD j 0 ≤ h := by
  intro a
  induction a with
  | zero => intro j; simp [fewP, List.getD]; omega
  | succ a ih =>
    intro j
    rcases (by omega : j < a ∨ j = a ∨ a < j) with h1 | rfl | h1
    · simp only [fewP]; rw [getD_app (by rw [fewP_len]; exact h1)]; exact ih j
    · rw [fewP_get h v (Nat.lt_succ_self j)]
      have := fB_bd (v := v) (a := j) hh ih v.length
      unfold fewV
      split
      · omega
      · split <;> omega
    · simp only [List.getD, List.getElem?_eq_none (show (fewP h v (a + 1)).length ≤ j by rw [fewP_len]; omega), Option.getD_none]
      omega

theorem refFew_pure (h : Int) (hh : 1 ≤ h ∧ h ≤ 6) (v : List Int) (hv : Vals v) : APure Try.prog 48 [.int h, .ints false v] (fun R => R = .ints true (fewL h v)) := by
  have hb := mul_bd hh hv.last
  have h1l := hv.1
  have h6l := hv.2.1
  have hl : v.getD ((v.length : Int) - 1).toNat 0 = lastV v := by unfold lastV; congr 1; omega
  refine APure_of (X := cx 71) (cx_ok 71) rfl (rs := [(.tmp 4, 22)]) Try.func48 (by decide) rfl rfl rfl (by simp [cx]) (by simp [NoFr]) ?_
  intro hlen
  conv => whnf
  refine ⟨inr (by omega), ?_⟩
  conv => whnf
  refine ⟨by omega, ?_⟩
  conv => whnf
  refine ⟨by omega, ?_⟩
  rw [hl]
  conv => whnf
  refine ⟨inr (by omega), ?_⟩
  conv => whnf
  refine ⟨inr (by omega), ?_⟩
  conv => whnf
  refine ⟨(show (0 : Int) ≤ h * lastV v + 1 by omega), ?_⟩
  conv => whnf
  refine ⟨(show (h * lastV v + 1 : Int) ≤ h * lastV v + 1 by omega), ?_⟩
  conv => whnf
  refine ⟨(show (8 : Int) * (h * lastV v + 1) ≤ 140737488355328 by omega), ?_⟩
  obtain ⟨n, hn⟩ : ∃ n, (h * lastV v + 1).toNat = n := ⟨_, rfl⟩
  rw [hn]
  conv => whnf
  refine AW_loop (X := cx 71) (cx_ok 71) [0, 1, 5, 6] (fun vs M => ∃ a : Nat, 1 ≤ a ∧ a ≤ n ∧ vs = [.int h, .ints false v, .sl 0 0 0 n, .int a] ∧ M = [some ⟨3, 1, 0, .il (fewP h v a ++ List.replicate (n - a) 0)⟩])
    (fun vs _ => n - (vs.getD 3 .any).toInt.toNat) ?_ ?_
  · refine ⟨1, Nat.le_refl _, by omega, rfl, ?_⟩
    have : List.replicate n (0 : Int) = fewP h v 1 ++ List.replicate (n - 1) 0 := by
      rw [show fewP h v 1 = [0] from rfl, show n = (n - 1) + 1 from by omega, List.replicate_succ]
      simp
    exact congrArg (fun q => [some (⟨3, 1, 0, .il q⟩ : Ob)]) this
  rintro vs M ⟨a, ha1, ha, rfl, rfl⟩
  conv => whnf
  refine br_dec (fun hlt => ?_) (fun hge => ?_)
  · have ha' : a < n := by omega
    conv => whnf
    refine ⟨inr (by omega), ?_⟩
    conv => whnf
    refine AW_loop (X := cx 71) (cx_ok 71) [0, 1, 5, 6, 7, 8] (fun vs M => ∃ k : Nat, k ≤ v.length ∧ vs = [.int h, .ints false v, .sl 0 0 0 n, .int a, .int (fB (fewP h v a) v a h k), .int k] ∧ M = [some ⟨3, 1, 0, .il (fewP h v a ++ List.replicate (n - a) 0)⟩])
      (fun vs _ => v.length - (vs.getD 5 .any).toInt.toNat) ?_ ?_
    · exact ⟨0, Nat.zero_le _, rfl, rfl⟩
    rintro vs M ⟨k, hk, rfl, rfl⟩
    conv => whnf
    refine br_dec (fun hlt2 => ?_) (fun hge2 => ?_)
    · have hk' : k < v.length := by omega
      have hvk : 1 ≤ v.getD (k : Int).toNat 0 ∧ v.getD (k : Int).toNat 0 ≤ 200 := hv.at hk'
      have hbk := fB_bd (out := fewP h v a) (v := v) (a := a) (h := h) (by omega) (fewP_bd (by omega) v a) k
      conv => whnf
      refine ⟨by omega, ?_⟩
      conv => whnf
      refine ⟨by omega, ?_⟩
      conv => whnf
      refine br_dec (fun h1 => ?_) (fun h1 => ?_)
      · have hix : (fewP h v a ++ List.replicate (n - a) 0).getD (0 + ((a : Int) - v.getD (k : Int).toNat 0).toNat) 0 = (fewP h v a).getD ((a : Int) - v.getD k 0).toNat 0 := by
          rw [Nat.zero_add, getD_app (by rw [fewP_len]; omega)]; rfl
        have hfb := fewP_bd (h := h) (by omega) v a ((a : Int) - v.getD k 0).toNat
        conv => whnf
        repeat ((first | refine ⟨by omega, ?_⟩ | refine ⟨inr (by omega), ?_⟩); conv => whnf)
        rw [hix]
        refine br_dec (fun h2 => ?_) (fun h2 => ?_)
        · conv => whnf
          repeat ((first | refine ⟨by omega, ?_⟩ | refine ⟨inr (by omega), ?_⟩ | refine ⟨inr (by rw [hix]; omega), ?_⟩); conv => whnf)
          refine ⟨⟨k + 1, by omega, ?_, rfl⟩, ?_⟩
          · rw [hix]
            have : fB (fewP h v a) v a h (k + 1) = minI (fB (fewP h v a) v a h k) ((fewP h v a).getD ((a : Int) - v.getD k 0).toNat 0 + 1) := by
              simp only [fB]; rw [if_pos ⟨h1, h2⟩]
            rw [this]
            rfl
          · simp [V.toInt, sel, Env.get]; omega
        · conv => whnf
          refine ⟨inr (by omega), ?_⟩
          conv => whnf
          refine ⟨⟨k + 1, by omega, ?_, rfl⟩, ?_⟩
          · have : fB (fewP h v a) v a h (k + 1) = fB (fewP h v a) v a h k := by
              simp only [fB]; rw [if_neg (fun hc => h2 hc.2)]
            rw [this]
            rfl
          · simp [V.toInt, sel, Env.get]; omega
      · conv => whnf
        refine ⟨inr (by omega), ?_⟩
        conv => whnf
        refine ⟨⟨k + 1, by omega, ?_, rfl⟩, ?_⟩
        · have : fB (fewP h v a) v a h (k + 1) = fB (fewP h v a) v a h k := by
            simp only [fB]; rw [if_neg (fun hc => h1 hc.1)]
          rw [this]
          rfl
        · simp [V.toInt, sel, Env.get]; omega
    · have hkl : k = v.length := by omega
      subst hkl
      have hset : ∀ x, x = fewV h v (fewP h v a) a → (fewP h v a ++ List.replicate (n - a) 0).set (0 + (a : Int).toNat) x = fewP h v (a + 1) ++ List.replicate (n - (a + 1)) 0 := by
        intro x hx
        rw [Nat.zero_add, Int.toNat_natCast, show n - a = (n - (a + 1)) + 1 from by omega, List.replicate_succ, List.set_append_right _ _ (by rw [fewP_len]; exact Nat.le_refl _), fewP_len]
        simp [fewP, hx]
      conv => whnf
      refine br_dec (fun h1 => ?_) (fun h1 => ?_)
      · conv => whnf
        repeat ((first | refine ⟨by omega, ?_⟩ | refine ⟨inr (by omega), ?_⟩); conv => whnf)
        refine ⟨⟨a + 1, by omega, by omega, rfl, ?_⟩, ?_⟩
        · exact congrArg (fun q => [some (⟨3, 1, 0, .il q⟩ : Ob)]) (hset (-1) (by unfold fewV; rw [if_neg (by omega), if_pos h1]))
        · simp [V.toInt, sel, Env.get]; omega
      · conv => whnf
        repeat ((first | refine ⟨by omega, ?_⟩ | refine ⟨inr (by omega), ?_⟩); conv => whnf)
        refine ⟨⟨a + 1, by omega, by omega, rfl, ?_⟩, ?_⟩
        · exact congrArg (fun q => [some (⟨3, 1, 0, .il q⟩ : Ob)]) (hset _ (by unfold fewV; rw [if_neg (by omega), if_neg h1]; rfl))
        · simp [V.toInt, sel, Env.get]; omega
  · have : a = n := by omega
    subst this
    conv => whnf
    refine ⟨rfl, Ql ?_⟩
    unfold fewL
    rw [hn]
    simp [fewP_len, List.take_of_length_le]

/-- How far a holds from 1 on. -/
def rangeOf (p : Nat → Bool) : Nat → Nat → Nat
  | 0, n => n
  | f + 1, n => if p (n + 1) = true then rangeOf p f (n + 1) else n
theorem rangeOf_congr {p q : Nat → Bool} : ∀ (f n : Nat), (∀ a, n < a → a ≤ n + f → p a = q a) → rangeOf p f n = rangeOf q f n := by
  intro f
  induction f with
  | zero => intro n _; rfl
  | succ f ih =>
    intro n h
    simp only [rangeOf]
    rw [h (n + 1) (by omega) (by omega), ih (n + 1) (fun a h1 h2 => h a (by omega) (by omega))]
theorem rangeOf_le (p : Nat → Bool) : ∀ (f n : Nat), n ≤ rangeOf p f n ∧ rangeOf p f n ≤ n + f := by
  intro f
  induction f with
  | zero => intro n; simp [rangeOf]
  | succ f ih =>
    intro n
    simp only [rangeOf]
    have := ih (n + 1)
    split <;> omega
theorem rangeOf_stop {p : Nat → Bool} {k : Nat} (hk : p k = false) : ∀ (f n : Nat), (∀ a, n < a → a < k → p a = true) → n < k → k ≤ n + f → rangeOf p f n = k - 1 := by
  intro f
  induction f with
  | zero => intro n _ h1 h2; omega
  | succ f ih =>
    intro n h h1 h2
    simp only [rangeOf]
    rcases (by omega : n + 1 = k ∨ n + 1 < k) with h3 | h3
    · rw [h3, hk]; simp; omega
    · rw [if_pos (h (n + 1) (by omega) h3)]
      exact ih (n + 1) (fun a h4 h5 => h a (by omega) h5) h3 (by omega)
theorem rangeOf_full {p : Nat → Bool} : ∀ (f n : Nat), (∀ a, n < a → a ≤ n + f → p a = true) → rangeOf p f n = n + f := by
  intro f
  induction f with
  | zero => intro n _; rfl
  | succ f ih =>
    intro n h
    simp only [rangeOf]
    rw [if_pos (h (n + 1) (by omega) (by omega)), ih (n + 1) (fun a h1 h2 => h a (by omega) (by omega))]
    omega

/-- Payable, by the reference's table. -/
def posB (l : List Int) (a : Nat) : Bool := decide (0 ≤ l.getD a 0)
theorem fewL_len {h : Int} {v : List Int} : (fewL h v).length = (h * lastV v + 1).toNat := fewP_len _ _ _
def refReach (h : Int) (v : List Int) : Nat := rangeOf (posB (fewL h v)) ((fewL h v).length - 1) 0

theorem refReach_pure (h : Int) (hh : 1 ≤ h ∧ h ≤ 6) (v : List Int) (hv : Vals v) : APure Try.prog 52 [.int h, .ints false v] (fun R => R = .int (refReach h v)) := by
  have hb := mul_bd hh hv.last
  have hfl : (fewL h v).length = (h * lastV v + 1).toNat := fewL_len
  refine APure_of (X := cx 26) (cx_ok 26) rfl (rs := [(.tmp 4, 3)]) Try.func52 (by decide) rfl rfl rfl (by simp [cx]) (by simp [NoFr]) ?_
  intro hlen
  conv => whnf
  refine APure.to (refFew_pure h hh v hv) ?_
  generalize hl : fewL h v = l at hfl
  have hrr : refReach h v = rangeOf (posB l) (l.length - 1) 0 := by unfold refReach; rw [hl]
  conv => whnf
  refine AW_loop (X := cx 26) (cx_ok 26) [5, 6] (fun vs M => ∃ n : Nat, n + 1 ≤ l.length ∧ rangeOf (posB l) (l.length - 1) 0 = rangeOf (posB l) (l.length - 1 - n) n ∧ vs = [.ints true l, .int n] ∧ M = [])
    (fun vs _ => l.length - (vs.getD 1 .any).toInt.toNat) ?_ ?_
  · exact ⟨0, by omega, rfl, rfl, rfl⟩
  rintro vs M ⟨n, hn, hr, rfl, rfl⟩
  conv => whnf
  refine ⟨inr (by omega), ?_⟩
  conv => whnf
  have e1 : ((n : Int) + 1).toNat = n + 1 := by omega
  refine br_dec (fun hlt => ?_) (fun hge => ?_)
  · have hstep : rangeOf (posB l) (l.length - 1 - n) n = if posB l (n + 1) = true then rangeOf (posB l) (l.length - 1 - (n + 1)) (n + 1) else n := by
      rw [show l.length - 1 - n = (l.length - 1 - (n + 1)) + 1 from by omega]
      rfl
    conv => whnf
    repeat ((first | refine ⟨by omega, ?_⟩ | refine ⟨inr (by omega), ?_⟩); conv => whnf)
    rw [e1]
    refine br_dec (fun h2 => ?_) (fun h2 => ?_)
    · conv => whnf
      refine ⟨inr (by omega), ?_⟩
      conv => whnf
      refine ⟨⟨n + 1, by omega, ?_, rfl, rfl⟩, ?_⟩
      · rw [hr, hstep, if_pos (by simp only [posB]; rw [decide_eq_true_iff]; exact h2)]
      · simp [V.toInt, sel, Env.get]; omega
    · conv => whnf
      refine ⟨trivial, Qi ?_⟩
      rw [hrr, hr, hstep, if_neg (by simp only [posB]; rw [decide_eq_true_iff]; exact h2)]
  · conv => whnf
    refine ⟨trivial, Qi ?_⟩
    rw [hrr, hr, show l.length - 1 - n = 0 from by omega]
    rfl

theorem refRange_pure (h : Int) (v : List Int) : APure Try.prog 25 [.int h, .ints false v] (fun R => R = tup2 (.int (if tickE h v = 0 then (refReach h v : Int) else 0)) (.int (tickE h v))) := by
  refine APure_of (X := cx 16) (cx_ok 16) rfl (rs := [(.tmp 4, 3), (.tmp 5, 24)]) Try.func25 (by decide) rfl rfl rfl (by simp [cx]) (by simp [NoFr]) ?_
  intro hlen
  conv => whnf
  refine APure.to (refTicket_pure h v) ?_
  conv => whnf
  refine br_ne (fun h0 => ?_) (fun h0 => ?_)
  · conv => whnf
    exact ⟨trivial, trivial, Q2 (Qi (by rw [if_neg h0])) rfl⟩
  · obtain ⟨hh, hv⟩ := tickE_inv h0
    conv => whnf
    refine APure.to (refReach_pure h hh v hv) ?_
    conv => whnf
    exact ⟨trivial, trivial, Q2 (Qi (by rw [if_pos h0])) (Qi h0.symm)⟩
end Go.Tri
