/-
  CONTRACTS: orders.
-/
import Derived.Test.YtknpoobfecceeaaB4
namespace Go.Tri
open Go.Proofs

/-- The first k of a list are rides, each another one. -/
def fine (n : Nat) (O : List Int) (k : Nat) : Prop := ∀ j, j < k → (0 ≤ O.getD j 0 ∧ O.getD j 0 < n) ∧ ∀ i, i < j → O.getD i 0 ≠ O.getD j 0
def isOrd (n : Nat) (O : List Int) : Prop := O.length = n ∧ fine n O O.length
theorem fine_zero {n : Nat} {O : List Int} : fine n O 0 := fun j hj => absurd hj (by omega)
theorem fine_succ {n : Nat} {O : List Int} {k : Nat} (h : fine n O k) (h1 : 0 ≤ O.getD k 0) (h2 : O.getD k 0 < n) (h3 : ∀ i, i < k → O.getD i 0 ≠ O.getD k 0) : fine n O (k + 1) := fun j hj => by
  rcases (by omega : j < k ∨ j = k) with h4 | rfl
  · exact h j h4
  · exact ⟨⟨h1, h2⟩, h3⟩

theorem isRide_pure (i m : Int) : APure Try.prog 43 [.int i, .int m] (fun R => R = .bool (decide (0 ≤ i ∧ i < m))) := by
  refine APure_of (X := cx 12) (cx_ok 12) rfl (rs := [(.tmp 4, 4)]) Try.func43 (by decide) rfl rfl rfl (by simp [cx]) (by simp [NoFr]) ?_
  intro _
  ((conv => whnf); repeat (refine stepK_in ?_; (repeat (first | refine seqQ_n ?_ | refine blockQ_n ?_ | refine awp_skip ?_ | refine awp_seq ?_ | refine awp_block ?_)); (conv => whnf)))
  refine br_dec (fun h => ?_) (fun h => ?_)
  · ((conv => whnf); repeat (refine stepK_in ?_; (repeat (first | refine seqQ_n ?_ | refine blockQ_n ?_ | refine awp_skip ?_ | refine awp_seq ?_ | refine awp_block ?_)); (conv => whnf)))
    exact ⟨trivial, Qb (by simp [show (0 : Int) ≤ i from h])⟩
  · ((conv => whnf); repeat (refine stepK_in ?_; (repeat (first | refine seqQ_n ?_ | refine blockQ_n ?_ | refine awp_skip ?_ | refine awp_seq ?_ | refine awp_block ?_)); (conv => whnf)))
    exact ⟨trivial, Qb (by simp [show ¬ (0 : Int) ≤ i from h])⟩

/-- What has been met. -/
def metL (n : Nat) (O : List Int) : Nat → List Bool
  | 0 => List.replicate n false
  | k + 1 => (metL n O k).set (O.getD k 0).toNat true
theorem metL_len (n : Nat) (O : List Int) : ∀ k, (metL n O k).length = n := by
  intro k
  induction k with
  | zero => simp [metL]
  | succ k ih => simp only [metL]; rw [List.length_set, ih]
theorem metL_get (n : Nat) (O : List Int) : ∀ k, fine n O k → ∀ q, q < n → ((metL n O k).getD q false = true ↔ ∃ i, i < k ∧ O.getD i 0 = q) := by
  intro k
  induction k with
  | zero => intro _ q hq; simp [metL, List.getD, List.getElem?_replicate, hq]
  | succ k ih =>
    intro hf q hq
    have hk := ih (fun j hj => hf j (by omega)) q hq
    obtain ⟨⟨h1, h2⟩, _⟩ := hf k (by omega)
    have hl := metL_len n O k
    show ((metL n O k).set (O.getD k 0).toNat true).getD q false = true ↔ _
    rw [List.getD, List.getElem?_set]
    by_cases h : (O.getD k 0).toNat = q
    · rw [if_pos h, if_pos (by omega)]
      simp only [Option.getD_some, true_iff]
      exact ⟨k, by omega, by omega⟩
    · rw [if_neg h]
      refine hk.trans ⟨fun ⟨i, hi, e⟩ => ⟨i, by omega, e⟩, fun ⟨i, hi, e⟩ => ⟨i, ?_, e⟩⟩
      rcases (by omega : i < k ∨ i = k) with h3 | rfl
      · exact h3
      · exact absurd (show (O.getD i 0).toNat = q by omega) h

open Classical in
theorem refIsOrder_pure (n : Nat) (O : List Int) (hn : n ≤ 9) : APure Try.prog 34 [.int n, .ints false O] (fun R => R = .bool (decide (isOrd n O))) := by
  refine APure_of (X := cx 47) (cx_ok 47) rfl (rs := [(.tmp 4, 4)]) Try.func34 (by decide) rfl rfl rfl (by simp [cx]) (by simp [NoFr]) ?_
  intro hlen
  have hla : (O.length : Int) ≤ 9223372036854775807 := hlen (.ints false O) (by simp)
  ((conv => whnf); repeat (refine stepK_in ?_; (repeat (first | refine seqQ_n ?_ | refine blockQ_n ?_ | refine awp_skip ?_ | refine awp_seq ?_ | refine awp_block ?_)); (conv => whnf)))
  refine ⟨by omega, ?_⟩
  ((conv => whnf); repeat (refine stepK_in ?_; (repeat (first | refine seqQ_n ?_ | refine blockQ_n ?_ | refine awp_skip ?_ | refine awp_seq ?_ | refine awp_block ?_)); (conv => whnf)))
  refine ⟨by omega, ?_⟩
  ((conv => whnf); repeat (refine stepK_in ?_; (repeat (first | refine seqQ_n ?_ | refine blockQ_n ?_ | refine awp_skip ?_ | refine awp_seq ?_ | refine awp_block ?_)); (conv => whnf)))
  refine ⟨(show (1 : Int) * (n : Int) ≤ 140737488355328 by omega), ?_⟩
  rw [Int.toNat_natCast]
  ((conv => whnf); repeat (refine stepK_in ?_; (repeat (first | refine seqQ_n ?_ | refine blockQ_n ?_ | refine awp_skip ?_ | refine awp_seq ?_ | refine awp_block ?_)); (conv => whnf)))
  refine AW_loop (X := cx 47) (cx_ok 47) [0, 1, 5, 6] (fun vs M => ∃ k : Nat, k ≤ O.length ∧ fine n O k ∧ vs = [.int n, .ints false O, .sl 0 0 0 n, .int k] ∧ M = [some ⟨4, 1, 0, .bl (metL n O k)⟩])
    (fun vs _ => O.length - (vs.getD 3 .any).toInt.toNat) ?_ ?_
  · exact ⟨0, Nat.zero_le _, fine_zero, rfl, rfl⟩
  rintro vs M ⟨k, hk, hf, rfl, rfl⟩
  ((conv => whnf); repeat (refine stepK_in ?_; (repeat (first | refine seqQ_n ?_ | refine blockQ_n ?_ | refine awp_skip ?_ | refine awp_seq ?_ | refine awp_block ?_)); (conv => whnf)))
  refine br_dec (fun hlt => ?_) (fun hge => ?_)
  · have hk' : k < O.length := by omega
    have bad : ¬ fine n O (k + 1) → V.bool false = V.bool (decide (isOrd n O)) := fun hb => Qb (decide_eq_false fun h => hb fun j hj => h.2 j (by omega)).symm
    have hmg := metL_get n O k hf
    ((conv => whnf); repeat (refine stepK_in ?_; (repeat (first | refine seqQ_n ?_ | refine blockQ_n ?_ | refine awp_skip ?_ | refine awp_seq ?_ | refine awp_block ?_)); (conv => whnf)))
    refine ⟨by omega, ?_⟩
    ((conv => whnf); repeat (refine stepK_in ?_; (repeat (first | refine seqQ_n ?_ | refine blockQ_n ?_ | refine awp_skip ?_ | refine awp_seq ?_ | refine awp_block ?_)); (conv => whnf)))
    refine ⟨by omega, ?_⟩
    refine br_dec (fun h1 => ?_) (fun h1 => ?_)
    · have h1 : O.getD k 0 < 0 := h1
      ((conv => whnf); repeat (refine stepK_in ?_; (repeat (first | refine seqQ_n ?_ | refine blockQ_n ?_ | refine awp_skip ?_ | refine awp_seq ?_ | refine awp_block ?_)); (conv => whnf)))
      refine ⟨trivial, bad fun h => ?_⟩
      have := (h k (by omega)).1.1
      omega
    have h1 : ¬ O.getD k 0 < 0 := h1
    ((conv => whnf); repeat (refine stepK_in ?_; (repeat (first | refine seqQ_n ?_ | refine blockQ_n ?_ | refine awp_skip ?_ | refine awp_seq ?_ | refine awp_block ?_)); (conv => whnf)))
    refine ⟨by omega, ?_⟩
    ((conv => whnf); repeat (refine stepK_in ?_; (repeat (first | refine seqQ_n ?_ | refine blockQ_n ?_ | refine awp_skip ?_ | refine awp_seq ?_ | refine awp_block ?_)); (conv => whnf)))
    refine ⟨by omega, ?_⟩
    ((conv => whnf); repeat (refine stepK_in ?_; (repeat (first | refine seqQ_n ?_ | refine blockQ_n ?_ | refine awp_skip ?_ | refine awp_seq ?_ | refine awp_block ?_)); (conv => whnf)))
    refine br_dec (fun h2 => ?_) (fun h2 => ?_)
    · have h2 : O.getD k 0 ≥ n := h2
      ((conv => whnf); repeat (refine stepK_in ?_; (repeat (first | refine seqQ_n ?_ | refine blockQ_n ?_ | refine awp_skip ?_ | refine awp_seq ?_ | refine awp_block ?_)); (conv => whnf)))
      refine ⟨trivial, bad fun h => ?_⟩
      have := (h k (by omega)).1.2
      omega
    have h2 : ¬ O.getD k 0 ≥ n := h2
    ((conv => whnf); repeat (refine stepK_in ?_; (repeat (first | refine seqQ_n ?_ | refine blockQ_n ?_ | refine awp_skip ?_ | refine awp_seq ?_ | refine awp_block ?_)); (conv => whnf)))
    refine ⟨by omega, ?_⟩
    ((conv => whnf); repeat (refine stepK_in ?_; (repeat (first | refine seqQ_n ?_ | refine blockQ_n ?_ | refine awp_skip ?_ | refine awp_seq ?_ | refine awp_block ?_)); (conv => whnf)))
    refine ⟨by omega, ?_⟩
    ((conv => whnf); repeat (refine stepK_in ?_; (repeat (first | refine seqQ_n ?_ | refine blockQ_n ?_ | refine awp_skip ?_ | refine awp_seq ?_ | refine awp_block ?_)); (conv => whnf)))
    refine ⟨(show 0 ≤ O.getD k 0 by omega), ?_⟩
    refine ⟨(show O.getD k 0 < (n : Int) by omega), ?_⟩
    ((conv => whnf); repeat (refine stepK_in ?_; (repeat (first | refine seqQ_n ?_ | refine blockQ_n ?_ | refine awp_skip ?_ | refine awp_seq ?_ | refine awp_block ?_)); (conv => whnf)))
    have hq := hmg (0 + (O.getD k 0).toNat) (by omega)
    generalize hb : (metL n O k).getD (0 + (O.getD (k : Int).toNat 0).toNat) false = b
    have hb : (metL n O k).getD (0 + (O.getD k 0).toNat) false = b := hb
    rw [hb] at hq
    cases b with
    | true =>
      obtain ⟨i, hi, he⟩ := hq.1 rfl
      ((conv => whnf); repeat (refine stepK_in ?_; (repeat (first | refine seqQ_n ?_ | refine blockQ_n ?_ | refine awp_skip ?_ | refine awp_seq ?_ | refine awp_block ?_)); (conv => whnf)))
      refine ⟨trivial, bad fun h => ?_⟩
      exact (h k (by omega)).2 i hi (by omega)
    | false =>
      have hset : ∀ q : Nat, q = (O.getD k 0).toNat → (metL n O k).set q true = metL n O (k + 1) := fun q hq => by rw [hq]; rfl
      have hfi : fine n O (k + 1) := fine_succ hf (by omega) (by omega) fun i hi he => by
        have := hq.2 ⟨i, hi, by omega⟩
        cases this
      ((conv => whnf); repeat (refine stepK_in ?_; (repeat (first | refine seqQ_n ?_ | refine blockQ_n ?_ | refine awp_skip ?_ | refine awp_seq ?_ | refine awp_block ?_)); (conv => whnf)))
      repeat ((first | refine ⟨by omega, ?_⟩ | refine ⟨inr (by omega), ?_⟩ | refine ⟨(show 0 ≤ O.getD k 0 by omega), ?_⟩ | refine ⟨(show O.getD k 0 < (n : Int) by omega), ?_⟩); ((conv => whnf); repeat (refine stepK_in ?_; (repeat (first | refine seqQ_n ?_ | refine blockQ_n ?_ | refine awp_skip ?_ | refine awp_seq ?_ | refine awp_block ?_)); (conv => whnf))))
      refine ⟨⟨k + 1, by omega, hfi, rfl, congrArg (fun l => [some (⟨4, 1, 0, .bl l⟩ : Ob)]) (hset _ (Nat.zero_add _))⟩, ?_⟩
      simp [V.toInt, sel, Env.get]; omega
  · obtain rfl : k = O.length := by omega
    ((conv => whnf); repeat (refine stepK_in ?_; (repeat (first | refine seqQ_n ?_ | refine blockQ_n ?_ | refine awp_skip ?_ | refine awp_seq ?_ | refine awp_block ?_)); (conv => whnf)))
    refine ⟨trivial, Qb ?_⟩
    by_cases h : O.length = n
    · rw [decide_eq_true (show isOrd n O from ⟨h, hf⟩)]; simp [h]
    · rw [decide_eq_false (show ¬ isOrd n O from fun h' => h h'.1)]; simp; omega
theorem set_get {c : Prop} [Decidable c] {a b v : V} (h : c → a = v) (h' : ¬ c → b = v) : (if c then a else b) = v := by
  split
  · exact h (by assumption)
  · exact h' (by assumption)
theorem forceV_rw {x y : V} {K : V → Prop} (h : x = y) (k : forceV y K) : forceV x K := h ▸ k
theorem ldk {ver o sz : Nat} {K : Prop} (h : o < sz) (k : K) : (ldO ver ver o sz).req K := (Obl.req_iff _ _).2 ⟨ldO_holds.2 ⟨rfl, h⟩, k⟩
open Classical in
theorem isOrder_pure (n : Nat) (O : List Int) (hn : n ≤ 9) : APure Try.prog 39 [.ints false O, .int n] (fun R => R = .bool (decide (isOrd n O))) := by
  refine APure_of (X := cx 30) (cx_ok 30) rfl (rs := [(.tmp 4, 4)]) Try.func39 (by decide) rfl rfl rfl (by simp [cx]) (by simp [NoFr]) ?_
  intro hlen
  ((conv => whnf); repeat (refine stepK_in ?_; (repeat (first | refine seqQ_n ?_ | refine blockQ_n ?_ | refine awp_skip ?_ | refine awp_seq ?_ | refine awp_block ?_)); (conv => whnf)))
  refine br_ne (fun h => ?_) (fun h => ?_)
  · ((conv => whnf); repeat (refine stepK_in ?_; (repeat (first | refine seqQ_n ?_ | refine blockQ_n ?_ | refine awp_skip ?_ | refine awp_seq ?_ | refine awp_block ?_)); (conv => whnf)))
    exact ⟨trivial, Qb (decide_eq_false fun h' => h (by rw [h'.1])).symm⟩
  have hl : O.length = n := by omega
  ((conv => whnf); repeat (refine stepK_in ?_; (repeat (first | refine seqQ_n ?_ | refine blockQ_n ?_ | refine awp_skip ?_ | refine awp_seq ?_ | refine awp_block ?_)); (conv => whnf)))
  refine AW_loop (X := cx 30) (cx_ok 30) [1, 5, 12, 13, 14] (fun vs M => ∃ (k : Nat) (B : Nat → Nat → V), k ≤ n ∧ fine n O k ∧ (∀ q : Nat, q < n → B 0 q = .bool (decide (∃ i, i < k ∧ O.getD i 0 = q))) ∧ vs = [.int n, .ptr 0 0 0 0, .ints false O, .int O.length, .int k] ∧ M = [some ⟨82, 9, 0, .cv 1 B⟩])
    (fun vs _ => n - (vs.getD 4 .any).toInt.toNat) ?_ ?_
  · refine ⟨0, fun _ k => constV ((List.replicate 9 (Value.bool false)).getD k undef), Nat.zero_le _, fine_zero, fun q hq => ?_, rfl, rfl⟩
    show constV ((List.replicate 9 (Value.bool false)).getD q undef) = _
    rw [List.getD, List.getElem?_replicate, if_pos (by omega), decide_eq_false (fun ⟨i, hi, _⟩ => absurd hi (by omega))]
    rfl
  rintro vs M ⟨k, B, hk, hf, hB, rfl, rfl⟩
  ((conv => whnf); repeat (refine stepK_in ?_; (repeat (first | refine seqQ_n ?_ | refine blockQ_n ?_ | refine awp_skip ?_ | refine awp_seq ?_ | refine awp_block ?_)); (conv => whnf)))
  refine br_dec (fun hlt => ?_) (fun hge => ?_)
  · have hk' : k < n := by omega
    have bad : ¬ fine n O (k + 1) → V.bool false = V.bool (decide (isOrd n O)) := fun hb => Qb (decide_eq_false fun h => hb fun j hj => h.2 j (by omega)).symm
    have hr := isRide_pure (O.getD k 0) n
    ((conv => whnf); repeat (refine stepK_in ?_; (repeat (first | refine seqQ_n ?_ | refine blockQ_n ?_ | refine awp_skip ?_ | refine awp_seq ?_ | refine awp_block ?_)); (conv => whnf)))
    refine ⟨by omega, ?_⟩
    ((conv => whnf); repeat (refine stepK_in ?_; (repeat (first | refine seqQ_n ?_ | refine blockQ_n ?_ | refine awp_skip ?_ | refine awp_seq ?_ | refine awp_block ?_)); (conv => whnf)))
    refine ⟨by omega, ?_⟩
    ((conv => whnf); repeat (refine stepK_in ?_; (repeat (first | refine seqQ_n ?_ | refine blockQ_n ?_ | refine awp_skip ?_ | refine awp_seq ?_ | refine awp_block ?_)); (conv => whnf)))
    refine APure.to hr ?_
    by_cases h1 : 0 ≤ O.getD k 0 ∧ O.getD k 0 < n
    · rw [decide_eq_true h1]
      ((conv => whnf); repeat (refine stepK_in ?_; (repeat (first | refine seqQ_n ?_ | refine blockQ_n ?_ | refine awp_skip ?_ | refine awp_seq ?_ | refine awp_block ?_)); (conv => whnf)))
      refine ⟨h1.1, ?_⟩
      refine ⟨(show O.getD k 0 < (9 : Int) by omega), ?_⟩
      ((conv => whnf); repeat (refine stepK_in ?_; (repeat (first | refine seqQ_n ?_ | refine blockQ_n ?_ | refine awp_skip ?_ | refine awp_seq ?_ | refine awp_block ?_)); (conv => whnf)))
      refine ldk (ver := 0) (o := 0 + (O.getD k 0).toNat * 1) (sz := 9) (by omega) ?_
      have hq := hB (0 + (O.getD k 0).toNat * 1) (by omega)
      by_cases hm : ∃ i, i < k ∧ O.getD i 0 = ((0 + (O.getD k 0).toNat * 1 : Nat) : Int)
      · refine forceV_rw (hq.trans (Qb (decide_eq_true hm))) ?_
        obtain ⟨i, hi, he⟩ := hm
        ((conv => whnf); repeat (refine stepK_in ?_; (repeat (first | refine seqQ_n ?_ | refine blockQ_n ?_ | refine awp_skip ?_ | refine awp_seq ?_ | refine awp_block ?_)); (conv => whnf)))
        refine ⟨trivial, bad fun h => ?_⟩
        exact (h k (by omega)).2 i hi (by omega)
      · refine forceV_rw (hq.trans (Qb (decide_eq_false hm))) ?_
        have hfi : fine n O (k + 1) := fine_succ hf h1.1 h1.2 fun i hi he => hm ⟨i, hi, by omega⟩
        ((conv => whnf); repeat (refine stepK_in ?_; (repeat (first | refine seqQ_n ?_ | refine blockQ_n ?_ | refine awp_skip ?_ | refine awp_seq ?_ | refine awp_block ?_)); (conv => whnf)))
        refine ⟨h1.1, ?_⟩
        refine ⟨(show O.getD k 0 < (9 : Int) by omega), ?_⟩
        ((conv => whnf); repeat (refine stepK_in ?_; (repeat (first | refine seqQ_n ?_ | refine blockQ_n ?_ | refine awp_skip ?_ | refine awp_seq ?_ | refine awp_block ?_)); (conv => whnf)))
        refine ldk (ver := 0) (o := 0 + (O.getD k 0).toNat * 1) (sz := 9) (by omega) ?_
        ((conv => whnf); repeat (refine stepK_in ?_; (repeat (first | refine seqQ_n ?_ | refine blockQ_n ?_ | refine awp_skip ?_ | refine awp_seq ?_ | refine awp_block ?_)); (conv => whnf)))
        refine ⟨inr (by omega), ?_⟩
        ((conv => whnf); repeat (refine stepK_in ?_; (repeat (first | refine seqQ_n ?_ | refine blockQ_n ?_ | refine awp_skip ?_ | refine awp_seq ?_ | refine awp_block ?_)); (conv => whnf)))
        refine ⟨⟨k + 1, _, by omega, hfi, fun q hq => ?_, rfl, rfl⟩, ?_⟩
        · refine set_get (fun hx => ?_) (fun hx => ?_)
          · have hx : q = 0 + (O.getD k 0).toNat * 1 := hx.2
            exact Qb (decide_eq_true ⟨k, by omega, by omega⟩).symm
          · have hx : ¬ q = 0 + (O.getD k 0).toNat * 1 := fun h => hx ⟨rfl, h⟩
            refine (hB q hq).trans ?_
            refine Qb (decide_eq_decide.2 ⟨fun ⟨i, hi, e⟩ => ⟨i, by omega, e⟩, fun ⟨i, hi, e⟩ => ⟨i, ?_, e⟩⟩)
            rcases (by omega : i < k ∨ i = k) with h3 | rfl
            · exact h3
            · omega
        · simp [V.toInt, sel, Env.get]; omega
    · rw [decide_eq_false h1]
      ((conv => whnf); repeat (refine stepK_in ?_; (repeat (first | refine seqQ_n ?_ | refine blockQ_n ?_ | refine awp_skip ?_ | refine awp_seq ?_ | refine awp_block ?_)); (conv => whnf)))
      exact ⟨trivial, bad fun h => h1 (h k (by omega)).1⟩
  · obtain rfl : k = n := by omega
    ((conv => whnf); repeat (refine stepK_in ?_; (repeat (first | refine seqQ_n ?_ | refine blockQ_n ?_ | refine awp_skip ?_ | refine awp_seq ?_ | refine awp_block ?_)); (conv => whnf)))
    refine ⟨trivial, Qb (decide_eq_true (show isOrd k O from ⟨hl, by rw [hl]; exact hf⟩)).symm⟩
end Go.Tri
