/-
  CONTRACTS: letters.
-/
import Derived.Test.YtnjojmjcjhcnaaaB5
namespace Go.Tri
open Go.Proofs

theorem flat_len {f : Nat → List (List Int × Int)} {B : Nat} (hf : ∀ k, (f k).length ≤ B) : ∀ k, ((revTo k).flatMap f).length ≤ k * B := by
  intro k
  induction k with
  | zero => simp [revTo]
  | succ k ih =>
    have := hf k
    simp only [revTo, List.flatMap_cons, List.length_append, Nat.add_mul]
    omega
theorem ext_len : ∀ (m : Nat) (l : List Int) (p : Int) (vals : List Int), vals.length ≤ 6 → (ext m l p vals).length ≤ 6 ^ m := by
  intro m
  induction m with
  | zero => intro l p vals _; simp [ext]
  | succ m ih =>
    intro l p vals hv
    simp only [ext]
    have := flat_len (B := 6 ^ m) (f := fun k => ext m (l ++ [vals.getD k 0]) (p + vals.getD k 0) (vals.drop k)) (fun k => ih _ _ _ (by rw [List.length_drop]; omega)) vals.length
    refine Nat.le_trans this ?_
    rw [Nat.pow_succ, Nat.mul_comm]
    exact Nat.mul_le_mul_left _ hv
theorem ext_paid {L : Int} : ∀ (m : Nat) (l : List Int) (p : Int) (vals : List Int), (∀ x ∈ vals, 1 ≤ x ∧ x ≤ L) → ∀ q ∈ ext m l p vals, p ≤ q.2 ∧ q.2 ≤ p + m * L := by
  intro m
  induction m with
  | zero =>
    intro l p vals _ q hq
    simp only [ext, List.mem_singleton] at hq
    subst hq
    simp
  | succ m ih =>
    intro l p vals hv q hq
    simp only [ext, List.mem_flatMap] at hq
    obtain ⟨k, hk, hq⟩ := hq
    have hkl : k < vals.length := by
      have : ∀ n, k ∈ revTo n → k < n := by
        intro n
        induction n with
        | zero => simp [revTo]
        | succ n ih2 =>
          simp only [revTo, List.mem_cons]
          rintro (h | h)
          · omega
          · have := ih2 h; omega
      exact this _ hk
    have h1 := ih _ _ _ (fun x hx => hv x (List.mem_of_mem_drop hx)) q hq
    have h2 := hv _ (getD_mem' hkl)
    have e : ((m + 1 : Nat) : Int) * L = m * L + L := by rw [show ((m + 1 : Nat) : Int) = (m : Int) + 1 from rfl, Int.add_mul, Int.one_mul]
    rw [e]
    omega
theorem allX_len {h : Nat} (hh : h ≤ 6) {vals : List Int} (hv : vals.length ≤ 6) : (allX h vals).length ≤ 400000 := by
  have h6 : ∀ m, m ≤ 6 → (ext m [] 0 vals).length ≤ 46656 := fun m hm => Nat.le_trans (ext_len m [] 0 vals hv) (Nat.le_trans (Nat.pow_le_pow_right (by omega) hm) (by decide))
  have : ∀ n j, j + n ≤ 7 → ((List.range' j n).flatMap fun m => ext m [] 0 vals).length ≤ n * 46656 := by
    intro n
    induction n with
    | zero => intro j _; simp
    | succ n ih =>
      intro j hj
      have h1 := h6 j (by omega)
      have h2 := ih (j + 1) (by omega)
      rw [List.range'_succ, List.flatMap_cons, List.length_append, Nat.add_mul]
      omega
  have := this (h + 1) 0 (by omega)
  unfold allX fromX
  simp only [Nat.sub_zero]
  omega
theorem allX_paid {h : Nat} {vals : List Int} {L : Int} (hv : ∀ x ∈ vals, 1 ≤ x ∧ x ≤ L) (hL : 0 ≤ L) : ∀ q ∈ allX h vals, 0 ≤ q.2 ∧ q.2 ≤ h * L := by
  intro q hq
  unfold allX fromX at hq
  rw [List.mem_flatMap] at hq
  obtain ⟨m, hm, hq⟩ := hq
  have h1 := ext_paid m [] 0 vals hv q hq
  rw [List.mem_range'] at hm
  obtain ⟨i, hi, rfl⟩ := hm
  have e : ((0 + 1 * i : Nat) : Int) * L ≤ h * L := Int.mul_le_mul_of_nonneg_right (by omega) hL
  omega
theorem Vals.mem {v : List Int} (hv : Vals v) : ∀ x ∈ v, 1 ≤ x ∧ x ≤ lastV v := by
  intro x hx
  obtain ⟨i, hi, rfl⟩ := List.getElem_of_mem hx
  have e : v[i] = v.getD i 0 := by simp [List.getD, hi]
  have := hv.at hi
  rw [e]
  refine ⟨this.1, ?_⟩
  unfold lastV
  rcases (by omega : i = v.length - 1 ∨ i < v.length - 1) with h | h
  · rw [h]; exact Int.le_refl _
  · exact Int.le_of_lt (hv.2.2.lt h (by omega))

/-- One letter more for an amount. -/
def stepL (w : List Int) (_ : List Int) (p : Int) : List Int × Bool := (w.set p.toNat (w.getD p.toNat 0 + 1), true)
def lettersL (h : Nat) (v : List Int) : List Int := (foldU stepL (allX h v) (List.replicate (h * lastV v + 1).toNat 0)).1
theorem foldL_len (qs : List (List Int × Int)) : ∀ w : List Int, (foldU stepL qs w).1.length = w.length := by
  induction qs with
  | nil => intro w; rfl
  | cons q r ih =>
    obtain ⟨l, p⟩ := q
    intro w
    simp only [foldU, stepL, if_true]
    rw [ih, List.length_set]

def GL (n : Nat) (k : Nat) (w : List Int) : Prop := w.length = n ∧ ∀ i, 0 ≤ w.getD i 0 ∧ w.getD i 0 + k ≤ 1000000

set_option maxRecDepth 100000 in
theorem letters_pure (h : Nat) (hh : 1 ≤ h ∧ h ≤ 6) (v : List Int) (hv : Vals v) : APure Try.prog 49 [.int h, .ints false v] (fun R => R = .ints true (lettersL h v)) := by
  have hb := mul_bd (h := h) (by omega) hv.last
  have hl := hv.last
  obtain ⟨n, hn⟩ : ∃ n, (h * lastV v + 1).toNat = n := ⟨_, rfl⟩
  refine APure_of (X := ⟨Try.prog, tab, wrL, 26, 0, false⟩) tab_ok rfl (rs := [(.tmp 4, 22)]) Try.func49 (by decide) rfl rfl rfl (by simp) (by simp [NoFr]) ?_
  intro _
  conv => whnf
  refine APure.to (MaxV_pure v hv) ?_
  conv => whnf
  refine ⟨inr (by omega), ?_⟩
  conv => whnf
  refine ⟨inr (by omega), ?_⟩
  conv => whnf
  refine ⟨(show (0 : Int) ≤ h * lastV v + 1 by omega), ?_⟩
  conv => whnf
  refine ⟨(show (h * lastV v + 1 : Int) ≤ h * lastV v + 1 by omega), ?_⟩
  conv => whnf
  refine ⟨(show (8 : Int) * (h * lastV v + 1) ≤ 140737488355328 by omega), ?_⟩
  rw [hn]
  conv => whnf
  refine (lists_cm h v _).mono ?_
  rintro R M' ⟨rfl, rfl⟩
  conv => whnf
  refine AW_rangeL (X := ⟨Try.prog, tab, wrL, 26, 0, false⟩) tab_ok rfl [5] rfl rfl (fun lp hlp hround => ?_)
  have hB : BodyOk stepL (GL n) (fun _ p => 0 ≤ p ∧ p < n) (fun w => ⟨3, 1, 0, .il w⟩) (fun _ => ⟨22, 1, 0, .one [.sl 0 0 0 n]⟩) (fun _ => lp .ready none) := by
    refine ⟨fun w => ⟨trivial, ⟨rfl, trivial⟩, hlp.flat _ _ _ ⟨rfl, trivial⟩⟩, fun k w _ => ⟨trivial, ⟨trivial, trivial⟩, hlp.nofr _ _ ⟨trivial, trivial⟩⟩, fun w => ⟨rfl, rfl, hlp.ver _ _⟩, ?_, ?_⟩
    · rintro k w l p ⟨h1, h2⟩ _
      refine ⟨by simp only [stepL, List.length_set]; exact h1, fun i => ?_⟩
      have hi := h2 i
      have hp := h2 p.toNat
      simp only [stepL]
      by_cases hpi : p.toNat = i
      · subst hpi
        by_cases hlt : p.toNat < w.length
        · rw [show (w.set p.toNat (w.getD p.toNat 0 + 1)).getD p.toNat 0 = w.getD p.toNat 0 + 1 from by simp [List.getD, hlt]]
          omega
        · rw [List.set_eq_of_length_le (by omega)]; omega
      · rw [show (w.set p.toNat (w.getD p.toNat 0 + 1)).getD i 0 = w.getD i 0 from by simp [List.getD, List.getElem?_set_ne hpi]]
        omega
    · rintro k w l p ts E ⟨h1, h2⟩ ⟨hp0, hp1⟩ _
      have hp := h2 p.toNat
      refine hround _ _ _ rfl rfl (fun nb => AW_of_awp (X := ⟨Try.prog, tab, wrL, 26, nb, true⟩) tab_ok ?_)
      conv => whnf
      refine ⟨rfl, ?_⟩
      conv => whnf
      refine ⟨hp0, ?_⟩
      conv => whnf
      refine ⟨hp1, ?_⟩
      conv => whnf
      refine ⟨inr (by rw [Nat.zero_add]; omega), ?_⟩
      conv => whnf
      refine ⟨hp0, ?_⟩
      conv => whnf
      refine ⟨hp1, ?_⟩
      conv => whnf
      rw [forceM_eq]
      conv => whnf
      have e : ∀ j, j = p.toNat → sp (fun w => ⟨3, 1, 0, .il w⟩) (fun _ => ⟨22, 1, 0, .one [.sl 0 0 0 n]⟩) (fun _ => lp .ready none) (w.set j (w.getD j 0 + 1)) ts E =
          sp (fun w => ⟨3, 1, 0, .il w⟩) (fun _ => ⟨22, 1, 0, .one [.sl 0 0 0 n]⟩) (fun _ => lp .ready none) (stepL w l p).1 ts E := by rintro j rfl; rfl
      exact ⟨rfl, rfl, e _ (Nat.zero_add _)⟩
  have hP := allX_paid (h := h) hv.mem (by omega)
  have hAl := allX_len (h := h) hh.2 hv.2.1
  refine ACM.mono (lists1_cm hB h hh v (fun x hx => by have := hv.mem x hx; omega) (by have := hv.2.1; omega) (List.replicate n 0) ⟨by simp, fun i => ?_⟩ (fun q hq => by have := hP q hq; exact ⟨this.1, by omega⟩)) ?_
  · have : (List.replicate n (0 : Int)).getD i 0 = 0 := by
      simp only [List.getD, List.getElem?_replicate]
      split <;> rfl
    rw [this]
    omega
  · rintro _ M' ⟨ts, rfl⟩
    refine ⟨.ready, none, by decide, rfl, ?_⟩
    conv => whnf
    refine ⟨rfl, Ql ?_⟩
    have hlen := foldL_len (allX h v) (List.replicate n 0)
    rw [List.length_replicate] at hlen
    unfold lettersL
    rw [hn]
    exact List.take_of_length_le (by simp only [List.drop_zero]; omega)
end Go.Tri
