/-
  CONTRACTS: costs of orders and of empty ways.
-/
import Derived.Test.YtknpoobfecceeaaB5
namespace Go.Tri
open Go.Proofs

theorem refEmp_pure {u w a b : Int} (hu : okH u) (hw : okH w) (ha : okH a) (hb : okH b) : APure Try.prog 45 [slopeV u w, .int a, .int b] (fun R => R = .int (if b - a > 0 then u * (b - a) else w * -(b - a))) := by
  have key : ∀ x y : Int, 0 ≤ x → x ≤ 1000 → 0 ≤ y → y ≤ 1000 → 0 ≤ x * y ∧ x * y ≤ 1000000 := fun a b h1 h2 h3 h4 =>
    ⟨Int.mul_nonneg h1 h3, by have := Int.mul_le_mul h2 h4 h3 (by omega : (0 : Int) ≤ 1000); omega⟩
  obtain ⟨u0, u1⟩ := hu
  obtain ⟨w0, w1⟩ := hw
  obtain ⟨a0, a1⟩ := ha
  obtain ⟨b0, b1⟩ := hb
  refine APure_of (X := cx 22) (cx_ok 22) rfl (rs := [(.tmp 6, 3)]) Try.func45 (by decide) rfl rfl rfl (by simp [cx]) (nofr3 (a := slopeV u w) (b := .int a) (c := .int b) nofrS trivial trivial) ?_
  intro _
  ((conv => whnf); repeat (refine stepK_in ?_; (repeat (first | refine seqQ_n ?_ | refine blockQ_n ?_ | refine awp_skip ?_ | refine awp_seq ?_ | refine awp_block ?_)); (conv => whnf)))
  refine br_dec (fun h => ?_) (fun h => ?_)
  · have h : b > a := h
    have hk := key u (b - a) u0 u1 (by omega) (by omega)
    ((conv => whnf); repeat (refine stepK_in ?_; (repeat (first | refine seqQ_n ?_ | refine blockQ_n ?_ | refine awp_skip ?_ | refine awp_seq ?_ | refine awp_block ?_)); (conv => whnf)))
    repeat ((first | refine ⟨inr (show -9223372036854775808 ≤ b - a ∧ b - a ≤ 9223372036854775807 by omega), ?_⟩ | refine ⟨inr (show -9223372036854775808 ≤ u * (b - a) ∧ u * (b - a) ≤ 9223372036854775807 by omega), ?_⟩); ((conv => whnf); repeat (refine stepK_in ?_; (repeat (first | refine seqQ_n ?_ | refine blockQ_n ?_ | refine awp_skip ?_ | refine awp_seq ?_ | refine awp_block ?_)); (conv => whnf))))
    exact ⟨trivial, Qi (by rw [if_pos (by omega)])⟩
  · have h : ¬ b > a := h
    have hk := key w (a - b) w0 w1 (by omega) (by omega)
    ((conv => whnf); repeat (refine stepK_in ?_; (repeat (first | refine seqQ_n ?_ | refine blockQ_n ?_ | refine awp_skip ?_ | refine awp_seq ?_ | refine awp_block ?_)); (conv => whnf)))
    repeat ((first | refine ⟨inr (show -9223372036854775808 ≤ a - b ∧ a - b ≤ 9223372036854775807 by omega), ?_⟩ | refine ⟨inr (show -9223372036854775808 ≤ w * (a - b) ∧ w * (a - b) ≤ 9223372036854775807 by omega), ?_⟩); ((conv => whnf); repeat (refine stepK_in ?_; (repeat (first | refine seqQ_n ?_ | refine blockQ_n ?_ | refine awp_skip ?_ | refine awp_seq ?_ | refine awp_block ?_)); (conv => whnf))))
    exact ⟨trivial, Qi (by rw [if_neg (by omega), show a - b = -(b - a) by omega])⟩

/-- The cost of the first k of an order. -/
def nxt (O : List Int) (k : Nat) : Nat := (k + 1) % O.length
def aro (F T : Nat → Int) (u w : Int) (O : List Int) : Nat → Int
  | 0 => 0
  | k + 1 => aro F T u w O k + emp F T u w (O.getD k 0).toNat (O.getD (nxt O k) 0).toNat
theorem nxt_lt {O : List Int} {k : Nat} (h : k < O.length) : nxt O k < O.length := Nat.mod_lt _ (by omega)
theorem ord_at {n : Nat} {O : List Int} (h : isOrd n O) {j : Nat} (hj : j < n) : ∃ i : Nat, i < n ∧ O.getD j 0 = i := by
  obtain ⟨h1, h2⟩ := h
  obtain ⟨⟨h3, h4⟩, _⟩ := h2 j (by omega)
  exact ⟨(O.getD j 0).toNat, by omega, by omega⟩
theorem aro_bd {n : Nat} {F T : Nat → Int} {u w : Int} {O : List Int} (hr : okRides n F T) (hu : okH u) (hw : okH w) (hO : isOrd n O) : ∀ k, k ≤ n → 0 ≤ aro F T u w O k ∧ aro F T u w O k ≤ 1000000 * k := by
  intro k
  induction k with
  | zero => intro _; simp [aro]
  | succ k ih =>
    intro hk
    have h1 := ih (by omega)
    obtain ⟨i, hi, ei⟩ := ord_at hO (j := k) (by omega)
    obtain ⟨j, hj, ej⟩ := ord_at hO (j := nxt O k) (by have := nxt_lt (O := O) (k := k) (by rw [hO.1]; omega); rw [hO.1] at this; exact this)
    have h3 := emp_bd hr hu hw hi hj
    simp only [aro]
    rw [ei, ej, Int.toNat_natCast, Int.toNat_natCast]
    omega
theorem tmod_nxt {O : List Int} {k : Nat} : ((k : Int) + 1).tmod (O.length : Int) = (nxt O k : Nat) := by
  rw [show ((k : Int) + 1) = ((k + 1 : Nat) : Int) by omega, ← Int.ofNat_tmod]; rfl

theorem around_pure {n : Nat} {F T : Nat → Int} {E S O : List Int} {u w : Int} (hr : okRides n F T) (hu : okH u) (hw : okH w) (hn : n ≤ 9) (hO : isOrd n O) :
    APure Try.prog 41 [dayA n F T E S u w, .ints false O] (fun R => R = .int (aro F T u w O n)) := by
  refine APure_of (X := cx 30) (cx_ok 30) rfl (rs := [(.tmp 4, 3)]) Try.func41 (by decide) rfl rfl rfl (by simp [cx]) (nofr2 (a := dayA n F T E S u w) (b := .ints false O) nofrD rfl) ?_
  intro _
  have hb := fun k => aro_bd hr hu hw hO k
  have hl := hO.1
  ((conv => whnf); repeat (refine stepK_in ?_; (repeat (first | refine seqQ_n ?_ | refine blockQ_n ?_ | refine awp_skip ?_ | refine awp_seq ?_ | refine awp_block ?_)); (conv => whnf)))
  refine AW_loop (X := cx 30) (cx_ok 30) [1, 2, 5, 8, 9, 10] (fun vs M => ∃ k : Nat, k ≤ n ∧ vs = [.ints false O, .ptr 0 0 0 0, .int (aro F T u w O k), .ints false O, .int O.length, .int k] ∧ M = [some ⟨60, 5, 0, .one [ridesV n F T, .ints false E, .ints false S, .int u, .int w]⟩])
    (fun vs _ => n - (vs.getD 5 .any).toInt.toNat) ?_ ?_
  · exact ⟨0, Nat.zero_le _, rfl, rfl⟩
  rintro vs M ⟨k, hk, rfl, rfl⟩
  ((conv => whnf); repeat (refine stepK_in ?_; (repeat (first | refine seqQ_n ?_ | refine blockQ_n ?_ | refine awp_skip ?_ | refine awp_seq ?_ | refine awp_block ?_)); (conv => whnf)))
  refine br_dec (fun hlt => ?_) (fun hge => ?_)
  · have hk' : k < n := by omega
    obtain ⟨i, hi, ei⟩ := ord_at hO (j := k) (by omega)
    have hnx := nxt_lt (O := O) (k := k) (by omega)
    obtain ⟨j, hj, ej⟩ := ord_at hO (j := nxt O k) (by omega)
    have hem := empty_pure (E := E) (S := S) hr hu hw i j hi hj
    have hb1 := hb k hk
    have hb2 := hb (k + 1) (by omega)
    have hw1 : aro F T u w O (k + 1) = aro F T u w O k + emp F T u w i j := by simp only [aro]; rw [ei, ej, Int.toNat_natCast, Int.toNat_natCast]
    have htm := tmod_nxt (O := O) (k := k)
    have hgo : ∀ x y, x = O.getD k 0 → y = O.getD (nxt O k) 0 → APure Try.prog 44 [dayA n F T E S u w, .int x, .int y] (fun R => R = .int (emp F T u w i j)) := fun x y hx hy => by rw [hx, hy, ei, ej]; exact hem
    ((conv => whnf); repeat (refine stepK_in ?_; (repeat (first | refine seqQ_n ?_ | refine blockQ_n ?_ | refine awp_skip ?_ | refine awp_seq ?_ | refine awp_block ?_)); (conv => whnf)))
    refine ⟨by omega, ?_⟩
    ((conv => whnf); repeat (refine stepK_in ?_; (repeat (first | refine seqQ_n ?_ | refine blockQ_n ?_ | refine awp_skip ?_ | refine awp_seq ?_ | refine awp_block ?_)); (conv => whnf)))
    refine ⟨by omega, ?_⟩
    ((conv => whnf); repeat (refine stepK_in ?_; (repeat (first | refine seqQ_n ?_ | refine blockQ_n ?_ | refine awp_skip ?_ | refine awp_seq ?_ | refine awp_block ?_)); (conv => whnf)))
    refine AW_draw (X := cx 30) (cx_ok 30) mixed (by kernel_rfl) ?_
    ((conv => whnf); repeat (refine stepK_in ?_; (repeat (first | refine seqQ_n ?_ | refine blockQ_n ?_ | refine awp_skip ?_ | refine awp_seq ?_ | refine awp_block ?_)); (conv => whnf)))
    refine ⟨inr (by omega), ?_⟩
    ((conv => whnf); repeat (refine stepK_in ?_; (repeat (first | refine seqQ_n ?_ | refine blockQ_n ?_ | refine awp_skip ?_ | refine awp_seq ?_ | refine awp_block ?_)); (conv => whnf)))
    refine ⟨(show (O.length : Int) ≠ 0 by omega), ?_⟩
    ((conv => whnf); repeat (refine stepK_in ?_; (repeat (first | refine seqQ_n ?_ | refine blockQ_n ?_ | refine awp_skip ?_ | refine awp_seq ?_ | refine awp_block ?_)); (conv => whnf)))
    refine ⟨(show 0 ≤ ((k : Int) + 1).tmod O.length by rw [htm]; omega), ?_⟩
    refine ⟨(show ((k : Int) + 1).tmod O.length < O.length by rw [htm]; omega), ?_⟩
    ((conv => whnf); repeat (refine stepK_in ?_; (repeat (first | refine seqQ_n ?_ | refine blockQ_n ?_ | refine awp_skip ?_ | refine awp_seq ?_ | refine awp_block ?_)); (conv => whnf)))
    refine ⟨.int (emp F T u w i j), APure.arg3 (subD rfl rfl rfl rfl rfl) (Sub.refl _) (Sub.refl _) (hgo _ _ rfl (show O.getD (((k : Int) + 1).tmod O.length).toNat 0 = O.getD (nxt O k) 0 by rw [htm]; rfl)), ?_⟩
    ((conv => whnf); repeat (refine stepK_in ?_; (repeat (first | refine seqQ_n ?_ | refine blockQ_n ?_ | refine awp_skip ?_ | refine awp_seq ?_ | refine awp_block ?_)); (conv => whnf)))
    rw [← hw1]
    refine ⟨inr (by omega), ?_⟩
    ((conv => whnf); repeat (refine stepK_in ?_; (repeat (first | refine seqQ_n ?_ | refine blockQ_n ?_ | refine awp_skip ?_ | refine awp_seq ?_ | refine awp_block ?_)); (conv => whnf)))
    refine ⟨inr (by omega), ?_⟩
    ((conv => whnf); repeat (refine stepK_in ?_; (repeat (first | refine seqQ_n ?_ | refine blockQ_n ?_ | refine awp_skip ?_ | refine awp_seq ?_ | refine awp_block ?_)); (conv => whnf)))
    refine ⟨⟨k + 1, by omega, rfl, rfl⟩, ?_⟩
    simp [V.toInt, sel, Env.get]; omega
  · obtain rfl : k = n := by omega
    ((conv => whnf); repeat (refine stepK_in ?_; (repeat (first | refine seqQ_n ?_ | refine blockQ_n ?_ | refine awp_skip ?_ | refine awp_seq ?_ | refine awp_block ?_)); (conv => whnf)))
    exact ⟨trivial, rfl⟩
theorem total_pure {n : Nat} {F T : Nat → Int} {O : List Int} {u w : Int} (hr : okRides n F T) (hu : okH u) (hw : okH w) (hn : n ≤ 9) (hO : isOrd n O) :
    APure Try.prog 42 [ridesV n F T, slopeV u w, .ints false O] (fun R => R = .int (aro F T u w O n)) := by
  refine APure_of (X := cx 40) (cx_ok 40) rfl (rs := [(.tmp 6, 3)]) Try.func42 (by decide) rfl rfl rfl (by simp [cx]) (nofr3 (a := ridesV n F T) (b := slopeV u w) (c := .ints false O) nofrR nofrS rfl) ?_
  intro _
  have hb := fun k => aro_bd hr hu hw hO k
  have hl := hO.1
  ((conv => whnf); repeat (refine stepK_in ?_; (repeat (first | refine seqQ_n ?_ | refine blockQ_n ?_ | refine awp_skip ?_ | refine awp_seq ?_ | refine awp_block ?_)); (conv => whnf)))
  refine AW_loop (X := cx 40) (cx_ok 40) [0, 2, 4, 7, 8] (fun vs M => ∃ k : Nat, k ≤ n ∧ vs = [ridesV n F T, .ints false O, .ptr 0 0 0 0, .int (aro F T u w O k), .int k] ∧ M = [some ⟨24, 2, 0, .one [.int u, .int w]⟩])
    (fun vs _ => n - (vs.getD 4 .any).toInt.toNat) ?_ ?_
  · exact ⟨0, Nat.zero_le _, rfl, rfl⟩
  rintro vs M ⟨k, hk, rfl, rfl⟩
  ((conv => whnf); repeat (refine stepK_in ?_; (repeat (first | refine seqQ_n ?_ | refine blockQ_n ?_ | refine awp_skip ?_ | refine awp_seq ?_ | refine awp_block ?_)); (conv => whnf)))
  refine br_dec (fun hlt => ?_) (fun hge => ?_)
  · have hk' : k < n := by omega
    obtain ⟨i, hi, ei⟩ := ord_at hO (j := k) (by omega)
    have hnx := nxt_lt (O := O) (k := k) (by omega)
    obtain ⟨j, hj, ej⟩ := ord_at hO (j := nxt O k) (by omega)
    have hem := refEmp_pure hu hw (hr i hi).2 (hr j hj).1
    have hb1 := hb k hk
    have hb2 := hb (k + 1) (by omega)
    have hw1 : aro F T u w O (k + 1) = aro F T u w O k + emp F T u w i j := by simp only [aro]; rw [ei, ej, Int.toNat_natCast, Int.toNat_natCast]
    have htm := tmod_nxt (O := O) (k := k)
    have htn : (((k : Int) + 1).tmod O.length).toNat = nxt O k := by rw [htm]; rfl
    have hgo : ∀ x y, x = T i → y = F j → APure Try.prog 45 [slopeV u w, .int x, .int y] (fun R => R = .int (emp F T u w i j)) := fun x y hx hy => by rw [hx, hy]; exact hem
    ((conv => whnf); repeat (refine stepK_in ?_; (repeat (first | refine seqQ_n ?_ | refine blockQ_n ?_ | refine awp_skip ?_ | refine awp_seq ?_ | refine awp_block ?_)); (conv => whnf)))
    refine AW_draw (X := cx 40) (cx_ok 40) mixed (by kernel_rfl) ?_
    ((conv => whnf); repeat (refine stepK_in ?_; (repeat (first | refine seqQ_n ?_ | refine blockQ_n ?_ | refine awp_skip ?_ | refine awp_seq ?_ | refine awp_block ?_)); (conv => whnf)))
    refine ⟨by omega, ?_⟩
    ((conv => whnf); repeat (refine stepK_in ?_; (repeat (first | refine seqQ_n ?_ | refine blockQ_n ?_ | refine awp_skip ?_ | refine awp_seq ?_ | refine awp_block ?_)); (conv => whnf)))
    refine ⟨by omega, ?_⟩
    ((conv => whnf); repeat (refine stepK_in ?_; (repeat (first | refine seqQ_n ?_ | refine blockQ_n ?_ | refine awp_skip ?_ | refine awp_seq ?_ | refine awp_block ?_)); (conv => whnf)))
    refine ⟨(show 0 ≤ O.getD k 0 by omega), ?_⟩
    refine ⟨(show O.getD k 0 < (n : Int) by omega), ?_⟩
    ((conv => whnf); repeat (refine stepK_in ?_; (repeat (first | refine seqQ_n ?_ | refine blockQ_n ?_ | refine awp_skip ?_ | refine awp_seq ?_ | refine awp_block ?_)); (conv => whnf)))
    refine ⟨inr (by omega), ?_⟩
    ((conv => whnf); repeat (refine stepK_in ?_; (repeat (first | refine seqQ_n ?_ | refine blockQ_n ?_ | refine awp_skip ?_ | refine awp_seq ?_ | refine awp_block ?_)); (conv => whnf)))
    refine ⟨(show (O.length : Int) ≠ 0 by omega), ?_⟩
    ((conv => whnf); repeat (refine stepK_in ?_; (repeat (first | refine seqQ_n ?_ | refine blockQ_n ?_ | refine awp_skip ?_ | refine awp_seq ?_ | refine awp_block ?_)); (conv => whnf)))
    refine ⟨(show 0 ≤ ((k : Int) + 1).tmod O.length by rw [htm]; omega), ?_⟩
    refine ⟨(show ((k : Int) + 1).tmod O.length < O.length by rw [htm]; omega), ?_⟩
    ((conv => whnf); repeat (refine stepK_in ?_; (repeat (first | refine seqQ_n ?_ | refine blockQ_n ?_ | refine awp_skip ?_ | refine awp_seq ?_ | refine awp_block ?_)); (conv => whnf)))
    refine ⟨(show 0 ≤ O.getD (((k : Int) + 1).tmod O.length).toNat 0 by rw [htn]; omega), ?_⟩
    refine ⟨(show O.getD (((k : Int) + 1).tmod O.length).toNat 0 < (n : Int) by rw [htn]; omega), ?_⟩
    ((conv => whnf); repeat (refine stepK_in ?_; (repeat (first | refine seqQ_n ?_ | refine blockQ_n ?_ | refine awp_skip ?_ | refine awp_seq ?_ | refine awp_block ?_)); (conv => whnf)))
    refine ⟨.int (emp F T u w i j), APure.arg3 (subS1 rfl rfl) (Sub.refl _) (Sub.refl _) (hgo _ _ (show T (O.getD k 0).toNat = T i by rw [ei]; rfl) (show F (O.getD (((k : Int) + 1).tmod O.length).toNat 0).toNat = F j by rw [htn, ej]; rfl)), ?_⟩
    ((conv => whnf); repeat (refine stepK_in ?_; (repeat (first | refine seqQ_n ?_ | refine blockQ_n ?_ | refine awp_skip ?_ | refine awp_seq ?_ | refine awp_block ?_)); (conv => whnf)))
    rw [← hw1]
    refine ⟨inr (by omega), ?_⟩
    ((conv => whnf); repeat (refine stepK_in ?_; (repeat (first | refine seqQ_n ?_ | refine blockQ_n ?_ | refine awp_skip ?_ | refine awp_seq ?_ | refine awp_block ?_)); (conv => whnf)))
    refine ⟨inr (by omega), ?_⟩
    ((conv => whnf); repeat (refine stepK_in ?_; (repeat (first | refine seqQ_n ?_ | refine blockQ_n ?_ | refine awp_skip ?_ | refine awp_seq ?_ | refine awp_block ?_)); (conv => whnf)))
    refine ⟨⟨k + 1, by omega, rfl, rfl⟩, ?_⟩
    simp [V.toInt, sel, Env.get]; omega
  · obtain rfl : k = n := by omega
    ((conv => whnf); repeat (refine stepK_in ?_; (repeat (first | refine seqQ_n ?_ | refine blockQ_n ?_ | refine awp_skip ?_ | refine awp_seq ?_ | refine awp_block ?_)); (conv => whnf)))
    exact ⟨trivial, rfl⟩

open Classical in
/-- The error of an order; its cost. -/
noncomputable def cosE (n : Nat) (F T : Nat → Int) (u w : Int) (O : List Int) : Int := if dayE n F T u w = 0 then (if isOrd n O then 0 else 2) else dayE n F T u w
open Classical in
noncomputable def cosC (n : Nat) (F T : Nat → Int) (u w : Int) (O : List Int) : Int := if dayE n F T u w = 0 ∧ isOrd n O then aro F T u w O n else 0

theorem nofrO {n : Nat} {F T : Nat → Int} {u w : Int} {O : List Int} : ∀ x ∈ [ridesV n F T, slopeV u w, .ints false O], NoFr x := nofr3 (a := ridesV n F T) (b := slopeV u w) (c := .ints false O) nofrR nofrS rfl

open Classical in
theorem Cost_pure (n : Nat) (F T : Nat → Int) (u w : Int) (O : List Int) : APure Try.prog 16 [ridesV n F T, slopeV u w, .ints false O] (fun R => R = tup2 (.int (cosC n F T u w O)) (.int (cosE n F T u w O))) := by
  refine APure_of (X := ⟨Try.prog, tab, wrL, 25, 0, false⟩) tab_ok rfl (rs := [(.tmp 6, 3), (.tmp 7, 30)]) Try.func16 (by decide) rfl rfl rfl (by simp) nofrO ?_
  intro hlen
  ((conv => whnf); repeat (refine stepK_in ?_; (repeat (first | refine seqQ_n ?_ | refine blockQ_n ?_ | refine awp_skip ?_ | refine awp_seq ?_ | refine awp_block ?_)); (conv => whnf)))
  refine APure.to (APure.arg2 subR (subS1 rfl rfl) (checkDay_pure n F T u w)) ?_
  ((conv => whnf); repeat (refine stepK_in ?_; (repeat (first | refine seqQ_n ?_ | refine blockQ_n ?_ | refine awp_skip ?_ | refine awp_seq ?_ | refine awp_block ?_)); (conv => whnf)))
  refine br_ne (fun h0 => ?_) (fun h0 => ?_)
  · ((conv => whnf); repeat (refine stepK_in ?_; (repeat (first | refine seqQ_n ?_ | refine blockQ_n ?_ | refine awp_skip ?_ | refine awp_seq ?_ | refine awp_block ?_)); (conv => whnf)))
    exact ⟨trivial, trivial, Q2 (Qi (by unfold cosC; rw [if_neg (fun h => h0 h.1)])) (Qi (by unfold cosE; rw [if_neg h0]))⟩
  obtain ⟨h1, h9, hr, hu, hw⟩ := dayE_inv h0
  ((conv => whnf); repeat (refine stepK_in ?_; (repeat (first | refine seqQ_n ?_ | refine blockQ_n ?_ | refine awp_skip ?_ | refine awp_seq ?_ | refine awp_block ?_)); (conv => whnf)))
  refine APure.to (isOrder_pure n O h9) ?_
  by_cases hO : isOrd n O
  · rw [decide_eq_true hO]
    ((conv => whnf); repeat (refine stepK_in ?_; (repeat (first | refine seqQ_n ?_ | refine blockQ_n ?_ | refine awp_skip ?_ | refine awp_seq ?_ | refine awp_block ?_)); (conv => whnf)))
    refine AImm.to (AImm.arg2 (Sub.refl _) (subS2 rfl rfl) (newDay_imm h1 h9)) ?_
    ((conv => whnf); repeat (refine stepK_in ?_; (repeat (first | refine seqQ_n ?_ | refine blockQ_n ?_ | refine awp_skip ?_ | refine awp_seq ?_ | refine awp_block ?_)); (conv => whnf)))
    refine APure.to (APure.arg2 (subD rfl rfl rfl rfl rfl) (Sub.refl _) (around_pure (E := ordL T n) (S := ordL F n) hr hu hw h9 hO)) ?_
    ((conv => whnf); repeat (refine stepK_in ?_; (repeat (first | refine seqQ_n ?_ | refine blockQ_n ?_ | refine awp_skip ?_ | refine awp_seq ?_ | refine awp_block ?_)); (conv => whnf)))
    exact ⟨trivial, trivial, Q2 (Qi (by unfold cosC; rw [if_pos ⟨h0, hO⟩])) (Qi (by unfold cosE; rw [if_pos h0, if_pos hO]))⟩
  · rw [decide_eq_false hO]
    ((conv => whnf); repeat (refine stepK_in ?_; (repeat (first | refine seqQ_n ?_ | refine blockQ_n ?_ | refine awp_skip ?_ | refine awp_seq ?_ | refine awp_block ?_)); (conv => whnf)))
    exact ⟨trivial, trivial, Q2 (Qi (by unfold cosC; rw [if_neg (fun h => hO h.2)])) (Qi (by unfold cosE; rw [if_pos h0, if_neg hO]))⟩

open Classical in
theorem refCost_pure (n : Nat) (F T : Nat → Int) (u w : Int) (O : List Int) : APure Try.prog 17 [ridesV n F T, slopeV u w, .ints false O] (fun R => R = tup2 (.int (cosC n F T u w O)) (.int (cosE n F T u w O))) := by
  refine APure_of (X := cx 24) (cx_ok 24) rfl (rs := [(.tmp 6, 3), (.tmp 7, 30)]) Try.func17 (by decide) rfl rfl rfl (by simp [cx]) nofrO ?_
  intro hlen
  ((conv => whnf); repeat (refine stepK_in ?_; (repeat (first | refine seqQ_n ?_ | refine blockQ_n ?_ | refine awp_skip ?_ | refine awp_seq ?_ | refine awp_block ?_)); (conv => whnf)))
  refine APure.to (APure.arg2 subR (subS1 rfl rfl) (refDay_pure n F T u w)) ?_
  ((conv => whnf); repeat (refine stepK_in ?_; (repeat (first | refine seqQ_n ?_ | refine blockQ_n ?_ | refine awp_skip ?_ | refine awp_seq ?_ | refine awp_block ?_)); (conv => whnf)))
  refine br_ne (fun h0 => ?_) (fun h0 => ?_)
  · ((conv => whnf); repeat (refine stepK_in ?_; (repeat (first | refine seqQ_n ?_ | refine blockQ_n ?_ | refine awp_skip ?_ | refine awp_seq ?_ | refine awp_block ?_)); (conv => whnf)))
    exact ⟨trivial, trivial, Q2 (Qi (by unfold cosC; rw [if_neg (fun h => h0 h.1)])) (Qi (by unfold cosE; rw [if_neg h0]))⟩
  obtain ⟨h1, h9, hr, hu, hw⟩ := dayE_inv h0
  ((conv => whnf); repeat (refine stepK_in ?_; (repeat (first | refine seqQ_n ?_ | refine blockQ_n ?_ | refine awp_skip ?_ | refine awp_seq ?_ | refine awp_block ?_)); (conv => whnf)))
  refine APure.to (refIsOrder_pure n O h9) ?_
  by_cases hO : isOrd n O
  · rw [decide_eq_true hO]
    ((conv => whnf); repeat (refine stepK_in ?_; (repeat (first | refine seqQ_n ?_ | refine blockQ_n ?_ | refine awp_skip ?_ | refine awp_seq ?_ | refine awp_block ?_)); (conv => whnf)))
    refine APure.to (APure.arg3 subR (subS1 rfl rfl) (Sub.refl _) (total_pure hr hu hw h9 hO)) ?_
    ((conv => whnf); repeat (refine stepK_in ?_; (repeat (first | refine seqQ_n ?_ | refine blockQ_n ?_ | refine awp_skip ?_ | refine awp_seq ?_ | refine awp_block ?_)); (conv => whnf)))
    exact ⟨trivial, trivial, Q2 (Qi (by unfold cosC; rw [if_pos ⟨h0, hO⟩])) (Qi (by unfold cosE; rw [if_pos h0, if_pos hO]))⟩
  · rw [decide_eq_false hO]
    ((conv => whnf); repeat (refine stepK_in ?_; (repeat (first | refine seqQ_n ?_ | refine blockQ_n ?_ | refine awp_skip ?_ | refine awp_seq ?_ | refine awp_block ?_)); (conv => whnf)))
    exact ⟨trivial, trivial, Q2 (Qi (by unfold cosC; rw [if_neg (fun h => hO h.2)])) (Qi (by unfold cosE; rw [if_pos h0, if_neg hO]))⟩

open Classical in
/-- The error of two rides; the cost of the way. -/
noncomputable def wayE (n : Nat) (F T : Nat → Int) (u w i k : Int) : Int := if dayE n F T u w = 0 then (if (0 ≤ i ∧ i < n) ∧ 0 ≤ k ∧ k < n then 0 else 2) else dayE n F T u w
open Classical in
noncomputable def wayC (n : Nat) (F T : Nat → Int) (u w i k : Int) : Int := if dayE n F T u w = 0 ∧ (0 ≤ i ∧ i < n) ∧ 0 ≤ k ∧ k < n then emp F T u w i.toNat k.toNat else 0
theorem nofrW {n : Nat} {F T : Nat → Int} {u w i k : Int} : ∀ x ∈ [ridesV n F T, slopeV u w, .int i, .int k], NoFr x := nofr4 (a := ridesV n F T) (b := slopeV u w) (c := .int i) (d := .int k) nofrR nofrS trivial trivial

theorem Empty_pure (n : Nat) (F T : Nat → Int) (u w i k : Int) : APure Try.prog 18 [ridesV n F T, slopeV u w, .int i, .int k] (fun R => R = tup2 (.int (wayC n F T u w i k)) (.int (wayE n F T u w i k))) := by
  refine APure_of (X := ⟨Try.prog, tab, wrL, 35, 0, false⟩) tab_ok rfl (rs := [(.tmp 8, 3), (.tmp 9, 30)]) Try.func18 (by decide) rfl rfl rfl (by simp) nofrW ?_
  intro hlen
  ((conv => whnf); repeat (refine stepK_in ?_; (repeat (first | refine seqQ_n ?_ | refine blockQ_n ?_ | refine awp_skip ?_ | refine awp_seq ?_ | refine awp_block ?_)); (conv => whnf)))
  refine APure.to (APure.arg2 subR (subS1 rfl rfl) (checkDay_pure n F T u w)) ?_
  ((conv => whnf); repeat (refine stepK_in ?_; (repeat (first | refine seqQ_n ?_ | refine blockQ_n ?_ | refine awp_skip ?_ | refine awp_seq ?_ | refine awp_block ?_)); (conv => whnf)))
  refine br_ne (fun h0 => ?_) (fun h0 => ?_)
  · ((conv => whnf); repeat (refine stepK_in ?_; (repeat (first | refine seqQ_n ?_ | refine blockQ_n ?_ | refine awp_skip ?_ | refine awp_seq ?_ | refine awp_block ?_)); (conv => whnf)))
    exact ⟨trivial, trivial, Q2 (Qi (by unfold wayC; rw [if_neg (fun h => h0 h.1)])) (Qi (by unfold wayE; rw [if_neg h0]))⟩
  obtain ⟨h1, h9, hr, hu, hw⟩ := dayE_inv h0
  have bad : ¬ ((0 ≤ i ∧ i < n) ∧ 0 ≤ k ∧ k < n) → tup2 (.int 0) (.int 2) = tup2 (.int (wayC n F T u w i k)) (.int (wayE n F T u w i k)) := fun hb =>
    Q2 (Qi (by unfold wayC; rw [if_neg (fun h => hb h.2)])) (Qi (by unfold wayE; rw [if_pos h0, if_neg hb]))
  ((conv => whnf); repeat (refine stepK_in ?_; (repeat (first | refine seqQ_n ?_ | refine blockQ_n ?_ | refine awp_skip ?_ | refine awp_seq ?_ | refine awp_block ?_)); (conv => whnf)))
  refine APure.to (isRide_pure i n) ?_
  by_cases hi : 0 ≤ i ∧ i < n
  · rw [decide_eq_true hi]
    ((conv => whnf); repeat (refine stepK_in ?_; (repeat (first | refine seqQ_n ?_ | refine blockQ_n ?_ | refine awp_skip ?_ | refine awp_seq ?_ | refine awp_block ?_)); (conv => whnf)))
    refine APure.to (isRide_pure k n) ?_
    by_cases hk : 0 ≤ k ∧ k < n
    · rw [decide_eq_true hk]
      obtain ⟨i, rfl⟩ : ∃ j : Nat, i = j := ⟨i.toNat, by omega⟩
      obtain ⟨k, rfl⟩ : ∃ j : Nat, k = j := ⟨k.toNat, by omega⟩
      ((conv => whnf); repeat (refine stepK_in ?_; (repeat (first | refine seqQ_n ?_ | refine blockQ_n ?_ | refine awp_skip ?_ | refine awp_seq ?_ | refine awp_block ?_)); (conv => whnf)))
      refine AImm.to (AImm.arg2 (Sub.refl _) (subS2 rfl rfl) (newDay_imm h1 h9)) ?_
      ((conv => whnf); repeat (refine stepK_in ?_; (repeat (first | refine seqQ_n ?_ | refine blockQ_n ?_ | refine awp_skip ?_ | refine awp_seq ?_ | refine awp_block ?_)); (conv => whnf)))
      refine APure.to (APure.arg3 (subD rfl rfl rfl rfl rfl) (Sub.refl _) (Sub.refl _) (empty_pure (E := ordL T n) (S := ordL F n) hr hu hw i k (by omega) (by omega))) ?_
      ((conv => whnf); repeat (refine stepK_in ?_; (repeat (first | refine seqQ_n ?_ | refine blockQ_n ?_ | refine awp_skip ?_ | refine awp_seq ?_ | refine awp_block ?_)); (conv => whnf)))
      exact ⟨trivial, trivial, Q2 (Qi (by unfold wayC; rw [if_pos ⟨h0, hi, hk⟩]; rfl)) (Qi (by unfold wayE; rw [if_pos h0, if_pos ⟨hi, hk⟩]))⟩
    · rw [decide_eq_false hk]
      ((conv => whnf); repeat (refine stepK_in ?_; (repeat (first | refine seqQ_n ?_ | refine blockQ_n ?_ | refine awp_skip ?_ | refine awp_seq ?_ | refine awp_block ?_)); (conv => whnf)))
      exact ⟨trivial, trivial, bad fun h => hk h.2⟩
  · rw [decide_eq_false hi]
    ((conv => whnf); repeat (refine stepK_in ?_; (repeat (first | refine seqQ_n ?_ | refine blockQ_n ?_ | refine awp_skip ?_ | refine awp_seq ?_ | refine awp_block ?_)); (conv => whnf)))
    exact ⟨trivial, trivial, bad fun h => hi h.1⟩

theorem refEmpty_pure (n : Nat) (F T : Nat → Int) (u w i k : Int) : APure Try.prog 19 [ridesV n F T, slopeV u w, .int i, .int k] (fun R => R = tup2 (.int (wayC n F T u w i k)) (.int (wayE n F T u w i k))) := by
  refine APure_of (X := cx 47) (cx_ok 47) rfl (rs := [(.tmp 8, 3), (.tmp 9, 30)]) Try.func19 (by decide) rfl rfl rfl (by simp [cx]) nofrW ?_
  intro hlen
  ((conv => whnf); repeat (refine stepK_in ?_; (repeat (first | refine seqQ_n ?_ | refine blockQ_n ?_ | refine awp_skip ?_ | refine awp_seq ?_ | refine awp_block ?_)); (conv => whnf)))
  refine APure.to (APure.arg2 subR (subS1 rfl rfl) (refDay_pure n F T u w)) ?_
  ((conv => whnf); repeat (refine stepK_in ?_; (repeat (first | refine seqQ_n ?_ | refine blockQ_n ?_ | refine awp_skip ?_ | refine awp_seq ?_ | refine awp_block ?_)); (conv => whnf)))
  refine br_ne (fun h0 => ?_) (fun h0 => ?_)
  · ((conv => whnf); repeat (refine stepK_in ?_; (repeat (first | refine seqQ_n ?_ | refine blockQ_n ?_ | refine awp_skip ?_ | refine awp_seq ?_ | refine awp_block ?_)); (conv => whnf)))
    exact ⟨trivial, trivial, Q2 (Qi (by unfold wayC; rw [if_neg (fun h => h0 h.1)])) (Qi (by unfold wayE; rw [if_neg h0]))⟩
  obtain ⟨h1, h9, hr, hu, hw⟩ := dayE_inv h0
  have bad : ¬ ((0 ≤ i ∧ i < n) ∧ 0 ≤ k ∧ k < n) → tup2 (.int 0) (.int 2) = tup2 (.int (wayC n F T u w i k)) (.int (wayE n F T u w i k)) := fun hb =>
    Q2 (Qi (by unfold wayC; rw [if_neg (fun h => hb h.2)])) (Qi (by unfold wayE; rw [if_pos h0, if_neg hb]))
  ((conv => whnf); repeat (refine stepK_in ?_; (repeat (first | refine seqQ_n ?_ | refine blockQ_n ?_ | refine awp_skip ?_ | refine awp_seq ?_ | refine awp_block ?_)); (conv => whnf)))
  refine br_dec (fun a1 => ?_) (fun a1 => ?_)
  · have a1 : i < 0 := a1
    ((conv => whnf); repeat (refine stepK_in ?_; (repeat (first | refine seqQ_n ?_ | refine blockQ_n ?_ | refine awp_skip ?_ | refine awp_seq ?_ | refine awp_block ?_)); (conv => whnf)))
    exact ⟨trivial, trivial, bad fun h => by omega⟩
  have a1 : ¬ i < 0 := a1
  ((conv => whnf); repeat (refine stepK_in ?_; (repeat (first | refine seqQ_n ?_ | refine blockQ_n ?_ | refine awp_skip ?_ | refine awp_seq ?_ | refine awp_block ?_)); (conv => whnf)))
  refine br_dec (fun a2 => ?_) (fun a2 => ?_)
  · have a2 : i ≥ n := a2
    ((conv => whnf); repeat (refine stepK_in ?_; (repeat (first | refine seqQ_n ?_ | refine blockQ_n ?_ | refine awp_skip ?_ | refine awp_seq ?_ | refine awp_block ?_)); (conv => whnf)))
    exact ⟨trivial, trivial, bad fun h => by omega⟩
  have a2 : ¬ i ≥ n := a2
  ((conv => whnf); repeat (refine stepK_in ?_; (repeat (first | refine seqQ_n ?_ | refine blockQ_n ?_ | refine awp_skip ?_ | refine awp_seq ?_ | refine awp_block ?_)); (conv => whnf)))
  refine br_dec (fun a3 => ?_) (fun a3 => ?_)
  · have a3 : k < 0 := a3
    ((conv => whnf); repeat (refine stepK_in ?_; (repeat (first | refine seqQ_n ?_ | refine blockQ_n ?_ | refine awp_skip ?_ | refine awp_seq ?_ | refine awp_block ?_)); (conv => whnf)))
    exact ⟨trivial, trivial, bad fun h => by omega⟩
  have a3 : ¬ k < 0 := a3
  ((conv => whnf); repeat (refine stepK_in ?_; (repeat (first | refine seqQ_n ?_ | refine blockQ_n ?_ | refine awp_skip ?_ | refine awp_seq ?_ | refine awp_block ?_)); (conv => whnf)))
  refine br_dec (fun a4 => ?_) (fun a4 => ?_)
  · have a4 : k ≥ n := a4
    ((conv => whnf); repeat (refine stepK_in ?_; (repeat (first | refine seqQ_n ?_ | refine blockQ_n ?_ | refine awp_skip ?_ | refine awp_seq ?_ | refine awp_block ?_)); (conv => whnf)))
    exact ⟨trivial, trivial, bad fun h => by omega⟩
  have a4 : ¬ k ≥ n := a4
  have hem := refEmp_pure hu hw (hr i.toNat (by omega)).2 (hr k.toNat (by omega)).1
  ((conv => whnf); repeat (refine stepK_in ?_; (repeat (first | refine seqQ_n ?_ | refine blockQ_n ?_ | refine awp_skip ?_ | refine awp_seq ?_ | refine awp_block ?_)); (conv => whnf)))
  refine AW_draw (X := cx 47) (cx_ok 47) mixed (by kernel_rfl) ?_
  ((conv => whnf); repeat (refine stepK_in ?_; (repeat (first | refine seqQ_n ?_ | refine blockQ_n ?_ | refine awp_skip ?_ | refine awp_seq ?_ | refine awp_block ?_)); (conv => whnf)))
  refine ⟨(show 0 ≤ i by omega), ?_⟩
  refine ⟨(show i < (n : Int) by omega), ?_⟩
  ((conv => whnf); repeat (refine stepK_in ?_; (repeat (first | refine seqQ_n ?_ | refine blockQ_n ?_ | refine awp_skip ?_ | refine awp_seq ?_ | refine awp_block ?_)); (conv => whnf)))
  refine ⟨(show 0 ≤ k by omega), ?_⟩
  refine ⟨(show k < (n : Int) by omega), ?_⟩
  ((conv => whnf); repeat (refine stepK_in ?_; (repeat (first | refine seqQ_n ?_ | refine blockQ_n ?_ | refine awp_skip ?_ | refine awp_seq ?_ | refine awp_block ?_)); (conv => whnf)))
  refine ⟨.int (emp F T u w i.toNat k.toNat), APure.arg3 (subS1 rfl rfl) (Sub.refl _) (Sub.refl _) hem, ?_⟩
  ((conv => whnf); repeat (refine stepK_in ?_; (repeat (first | refine seqQ_n ?_ | refine blockQ_n ?_ | refine awp_skip ?_ | refine awp_seq ?_ | refine awp_block ?_)); (conv => whnf)))
  exact ⟨trivial, trivial, Q2 (Qi (by unfold wayC; rw [if_pos ⟨h0, ⟨by omega, by omega⟩, by omega, by omega⟩])) (Qi (by unfold wayE; rw [if_pos h0, if_pos ⟨⟨by omega, by omega⟩, by omega, by omega⟩]))⟩
end Go.Tri
