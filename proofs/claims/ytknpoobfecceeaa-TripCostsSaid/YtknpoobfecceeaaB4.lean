/-
  CONTRACTS: the sorted matching and its cost.
-/
import Derived.Test.YtknpoobfecceeaaB3
namespace Go.Tri
open Go.Proofs

/-- Hills and a day as they are handed over. -/
@[reducible] def hillsA (n : Nat) (F T : Nat → Int) (E S : List Int) : V := .agg 3 fun k => match k with | 0 => ridesV n F T | 1 => .ints false E | _ => .ints false S
@[reducible] def dayA (n : Nat) (F T : Nat → Int) (E S : List Int) (u w : Int) : V := .agg 5 fun k => match k with | 0 => ridesV n F T | 1 => .ints false E | 2 => .ints false S | 3 => .int u | _ => .int w
theorem nofrH {n : Nat} {F T : Nat → Int} {E S : List Int} : NoFr (hillsA n F T E S) := fun k => by
  show NoFr (match k with | 0 => ridesV n F T | 1 => .ints false E | _ => .ints false S)
  split
  · exact nofrR
  · rfl
  · rfl
theorem nofrD {n : Nat} {F T : Nat → Int} {E S : List Int} {u w : Int} : NoFr (dayA n F T E S u w) := fun k => by
  show NoFr (match k with | 0 => ridesV n F T | 1 => .ints false E | 2 => .ints false S | 3 => .int u | _ => .int w)
  split
  · exact nofrR
  · rfl
  · rfl
  · trivial
  · trivial
theorem lenH {n : Nat} {F T : Nat → Int} {M : Mem} : Sub (.seq false 2 n fun j k => byvalN M 3 (rd F T j k)) (ridesV n F T) := subR

theorem subS1 {M : Mem} {d : Nat} {g : Nat → V} {u w : Int} (h0 : g 0 = .int u) (h1 : g 1 = .int w) : Sub (.agg 2 fun k => byvalN M (d + 1) (g k)) (slopeV u w) := by
  refine sub_agg fun k hk => ?_
  rcases (by omega : k = 0 ∨ k = 1) with rfl | rfl
  · rw [h0]; exact Sub.refl _
  · rw [h1]; exact Sub.refl _
theorem subS2 {g : Nat → V} {u w : Int} (h0 : g 0 = .int u) (h1 : g 1 = .int w) : Sub (.agg 2 g) (slopeV u w) := by
  refine sub_agg fun k hk => ?_
  rcases (by omega : k = 0 ∨ k = 1) with rfl | rfl
  · rw [h0]; exact Sub.refl _
  · rw [h1]; exact Sub.refl _
theorem subH {n : Nat} {F T : Nat → Int} {E S : List Int} {M : Mem} {d : Nat} {g : Nat → V} (h0 : g 0 = ridesV n F T) {f1 f2 : Bool} (h1 : g 1 = .ints f1 E) (h2 : g 2 = .ints f2 S) : Sub (.agg 3 fun k => byvalN M (d + 2) (g k)) (hillsA n F T E S) := by
  refine sub_agg fun k hk => ?_
  rcases (by omega : k = 0 ∨ k = 1 ∨ k = 2) with rfl | rfl | rfl
  · rw [h0]; exact subR
  · rw [h1]; exact Sub.refl _
  · rw [h2]; exact Sub.refl _
theorem subD {n : Nat} {F T : Nat → Int} {E S : List Int} {u w : Int} {M : Mem} {d : Nat} {g : Nat → V} (h0 : g 0 = ridesV n F T) {f1 f2 : Bool} (h1 : g 1 = .ints f1 E) (h2 : g 2 = .ints f2 S) (h3 : g 3 = .int u) (h4 : g 4 = .int w) : Sub (.agg 5 fun k => byvalN M (d + 2) (g k)) (dayA n F T E S u w) := by
  refine sub_agg fun k hk => ?_
  rcases (by omega : k = 0 ∨ k = 1 ∨ k = 2 ∨ k = 3 ∨ k = 4) with rfl | rfl | rfl | rfl | rfl
  · rw [h0]; exact subR
  · rw [h1]; exact Sub.refl _
  · rw [h2]; exact Sub.refl _
  · rw [h3]; exact Sub.refl _
  · rw [h4]; exact Sub.refl _

/-- The ride that follows each ride: the first k are laid. -/
def folP (n : Nat) (E S : List Int) : Nat → List Int
  | 0 => List.replicate n 0
  | k + 1 => (folP n E S k).set (E.getD k 0).toNat (S.getD k 0)
theorem folP_len (n : Nat) (E S : List Int) : ∀ k, (folP n E S k).length = n := by
  intro k
  induction k with
  | zero => simp [folP]
  | succ k ih => simp only [folP]; rw [List.length_set, ih]

theorem followers_pure (n : Nat) (F T : Nat → Int) (E S : List Int) (hn : n ≤ 9) (hE : E.length = n) (hS : S.length = n) (hEm : ∀ y ∈ E, 0 ≤ y ∧ y < n) : APure Try.prog 46 [hillsA n F T E S] (fun R => R = .ints true (folP n E S n)) := by
  refine APure_of (X := cx 28) (cx_ok 28) rfl (rs := [(.tmp 2, 25)]) Try.func46 (by decide) rfl rfl rfl (by simp [cx]) (nofr1 nofrH) ?_
  intro hlen
  ((conv => whnf); repeat (refine stepK_in ?_; (repeat (first | refine seqQ_n ?_ | refine blockQ_n ?_ | refine awp_skip ?_ | refine awp_seq ?_ | refine awp_block ?_)); (conv => whnf)))
  refine ⟨by omega, ?_⟩
  ((conv => whnf); repeat (refine stepK_in ?_; (repeat (first | refine seqQ_n ?_ | refine blockQ_n ?_ | refine awp_skip ?_ | refine awp_seq ?_ | refine awp_block ?_)); (conv => whnf)))
  refine ⟨by omega, ?_⟩
  ((conv => whnf); repeat (refine stepK_in ?_; (repeat (first | refine seqQ_n ?_ | refine blockQ_n ?_ | refine awp_skip ?_ | refine awp_seq ?_ | refine awp_block ?_)); (conv => whnf)))
  refine ⟨(show (8 : Int) * (n : Int) ≤ 140737488355328 by omega), ?_⟩
  rw [Int.toNat_natCast]
  ((conv => whnf); repeat (refine stepK_in ?_; (repeat (first | refine seqQ_n ?_ | refine blockQ_n ?_ | refine awp_skip ?_ | refine awp_seq ?_ | refine awp_block ?_)); (conv => whnf)))
  refine AW_loop (X := cx 28) (cx_ok 28) [1, 3, 11, 12, 13] (fun vs M => ∃ k : Nat, k ≤ n ∧ vs = [.ptr 0 0 0 0, .sl 1 0 0 n, .ints false E, .int n, .int k] ∧ M = [some ⟨58, 3, 0, .one [ridesV n F T, .ints false E, .ints false S]⟩, some ⟨3, 1, 0, .il (folP n E S k)⟩])
    (fun vs _ => n - (vs.getD 4 .any).toInt.toNat) ?_ ?_
  · refine ⟨0, Nat.zero_le _, ?_, rfl⟩
    rw [hE]
    rfl
  rintro vs M ⟨k, hk, rfl, rfl⟩
  ((conv => whnf); repeat (refine stepK_in ?_; (repeat (first | refine seqQ_n ?_ | refine blockQ_n ?_ | refine awp_skip ?_ | refine awp_seq ?_ | refine awp_block ?_)); (conv => whnf)))
  refine br_dec (fun hlt => ?_) (fun hge => ?_)
  · have hk' : k < n := by omega
    have hek := hEm _ (getD_mem' (l := E) (k := k) (by omega))
    have hset : ∀ (p : Nat) (x : Int), p = (E.getD k 0).toNat → x = S.getD k 0 → (folP n E S k).set p x = folP n E S (k + 1) := by
      intro p x hp hx
      rw [hp, hx]
      rfl
    ((conv => whnf); repeat (refine stepK_in ?_; (repeat (first | refine seqQ_n ?_ | refine blockQ_n ?_ | refine awp_skip ?_ | refine awp_seq ?_ | refine awp_block ?_)); (conv => whnf)))
    repeat ((first | refine ⟨by omega, ?_⟩ | refine ⟨inr (by omega), ?_⟩ | refine ⟨(show 0 ≤ E.getD k 0 by omega), ?_⟩ | refine ⟨(show E.getD k 0 < (n : Int) by omega), ?_⟩); ((conv => whnf); repeat (refine stepK_in ?_; (repeat (first | refine seqQ_n ?_ | refine blockQ_n ?_ | refine awp_skip ?_ | refine awp_seq ?_ | refine awp_block ?_)); (conv => whnf))))
    refine ⟨⟨k + 1, by omega, rfl, congrArg (fun l => [some (⟨58, 3, 0, .one [ridesV n F T, .ints false E, .ints false S]⟩ : Ob), some (⟨3, 1, 0, .il l⟩ : Ob)]) (hset _ _ (Nat.zero_add _) rfl)⟩, ?_⟩
    simp [V.toInt, sel, Env.get]; omega
  · obtain rfl : k = n := by omega
    ((conv => whnf); repeat (refine stepK_in ?_; (repeat (first | refine seqQ_n ?_ | refine blockQ_n ?_ | refine awp_skip ?_ | refine awp_seq ?_ | refine awp_block ?_)); (conv => whnf)))
    refine ⟨rfl, Ql ?_⟩
    simp [folP_len, List.take_of_length_le]

/-- What it costs to go empty. -/
def emp (F T : Nat → Int) (u w : Int) (i k : Nat) : Int := if F k - T i > 0 then u * (F k - T i) else w * -(F k - T i)
theorem emp_bd {n : Nat} {F T : Nat → Int} {u w : Int} (hr : okRides n F T) (hu : okH u) (hw : okH w) {i k : Nat} (hi : i < n) (hk : k < n) : 0 ≤ emp F T u w i k ∧ emp F T u w i k ≤ 1000000 := by
  obtain ⟨_, t0, t1⟩ := hr i hi
  obtain ⟨⟨f0, f1⟩, _⟩ := hr k hk
  obtain ⟨u0, u1⟩ := hu
  obtain ⟨w0, w1⟩ := hw
  unfold emp
  have key : ∀ a b : Int, 0 ≤ a → a ≤ 1000 → 0 ≤ b → b ≤ 1000 → 0 ≤ a * b ∧ a * b ≤ 1000000 := fun a b h1 h2 h3 h4 =>
    ⟨Int.mul_nonneg h1 h3, by have := Int.mul_le_mul h2 h4 h3 (by omega : (0 : Int) ≤ 1000); omega⟩
  split
  · exact key _ _ u0 u1 (by omega) (by omega)
  · exact key _ _ w0 w1 (by omega) (by omega)
theorem nofrE {n : Nat} {F T : Nat → Int} {E S : List Int} {u w : Int} {i k : Int} : ∀ x ∈ [dayA n F T E S u w, .int i, .int k], NoFr x := nofr3 (a := dayA n F T E S u w) (b := .int i) (c := .int k) nofrD trivial trivial

theorem empty_pure {n : Nat} {F T : Nat → Int} {E S : List Int} {u w : Int} (hr : okRides n F T) (hu : okH u) (hw : okH w) (i k : Nat) (hi : i < n) (hk : k < n) :
    APure Try.prog 44 [dayA n F T E S u w, .int i, .int k] (fun R => R = .int (emp F T u w i k)) := by
  have hb := emp_bd hr hu hw hi hk
  obtain ⟨_, t0, t1⟩ := hr i hi
  obtain ⟨⟨f0, f1⟩, _⟩ := hr k hk
  have hem : emp F T u w i k = if F k - T i > 0 then u * (F k - T i) else w * -(F k - T i) := rfl
  refine APure_of (X := cx 36) (cx_ok 36) rfl (rs := [(.tmp 6, 3)]) Try.func44 (by decide) rfl rfl rfl (by simp [cx]) nofrE ?_
  intro _
  ((conv => whnf); repeat (refine stepK_in ?_; (repeat (first | refine seqQ_n ?_ | refine blockQ_n ?_ | refine awp_skip ?_ | refine awp_seq ?_ | refine awp_block ?_)); (conv => whnf)))
  refine AW_draw (X := cx 36) (cx_ok 36) mixed (by kernel_rfl) ?_
  ((conv => whnf); repeat (refine stepK_in ?_; (repeat (first | refine seqQ_n ?_ | refine blockQ_n ?_ | refine awp_skip ?_ | refine awp_seq ?_ | refine awp_block ?_)); (conv => whnf)))
  repeat ((first | refine ⟨by omega, ?_⟩ | refine ⟨inr (show -9223372036854775808 ≤ F k - T i ∧ F k - T i ≤ 9223372036854775807 by omega), ?_⟩); ((conv => whnf); repeat (refine stepK_in ?_; (repeat (first | refine seqQ_n ?_ | refine blockQ_n ?_ | refine awp_skip ?_ | refine awp_seq ?_ | refine awp_block ?_)); (conv => whnf))))
  refine br_dec (fun h => ?_) (fun h => ?_)
  · have h : F k - T i > 0 := h
    rw [if_pos h] at hem
    ((conv => whnf); repeat (refine stepK_in ?_; (repeat (first | refine seqQ_n ?_ | refine blockQ_n ?_ | refine awp_skip ?_ | refine awp_seq ?_ | refine awp_block ?_)); (conv => whnf)))
    refine ⟨inr (show -9223372036854775808 ≤ u * (F k - T i) ∧ u * (F k - T i) ≤ 9223372036854775807 by omega), ?_⟩
    ((conv => whnf); repeat (refine stepK_in ?_; (repeat (first | refine seqQ_n ?_ | refine blockQ_n ?_ | refine awp_skip ?_ | refine awp_seq ?_ | refine awp_block ?_)); (conv => whnf)))
    exact ⟨trivial, Qi hem.symm⟩
  · have h : ¬ F k - T i > 0 := h
    rw [if_neg h] at hem
    ((conv => whnf); repeat (refine stepK_in ?_; (repeat (first | refine seqQ_n ?_ | refine blockQ_n ?_ | refine awp_skip ?_ | refine awp_seq ?_ | refine awp_block ?_)); (conv => whnf)))
    repeat ((first | refine ⟨inr (show -9223372036854775808 ≤ -(F k - T i) ∧ -(F k - T i) ≤ 9223372036854775807 by omega), ?_⟩ | refine ⟨inr (show -9223372036854775808 ≤ w * -(F k - T i) ∧ w * -(F k - T i) ≤ 9223372036854775807 by omega), ?_⟩); ((conv => whnf); repeat (refine stepK_in ?_; (repeat (first | refine seqQ_n ?_ | refine blockQ_n ?_ | refine awp_skip ?_ | refine awp_seq ?_ | refine awp_block ?_)); (conv => whnf))))
    exact ⟨trivial, Qi hem.symm⟩

/-- The cost of the first k. -/
def worP (F T : Nat → Int) (u w : Int) (m : List Int) : Nat → Int
  | 0 => 0
  | k + 1 => worP F T u w m k + emp F T u w k (m.getD k 0).toNat
theorem worP_bd {n : Nat} {F T : Nat → Int} {u w : Int} (hr : okRides n F T) (hu : okH u) (hw : okH w) {m : List Int} (hm : ∀ k, k < n → 0 ≤ m.getD k 0 ∧ m.getD k 0 < n) : ∀ k, k ≤ n → 0 ≤ worP F T u w m k ∧ worP F T u w m k ≤ 1000000 * k := by
  intro k
  induction k with
  | zero => intro _; simp [worP]
  | succ k ih =>
    intro hk
    have h1 := ih (by omega)
    have h2 := hm k (by omega)
    have h3 := emp_bd hr hu hw (i := k) (k := (m.getD k 0).toNat) (by omega) (by omega)
    simp only [worP]
    omega

theorem matched_pure {n : Nat} {F T : Nat → Int} {E S : List Int} {u w : Int} (hr : okRides n F T) (hu : okH u) (hw : okH w) (hn : n ≤ 9) (hE : E.length = n) (hS : S.length = n) (hEm : ∀ y ∈ E, 0 ≤ y ∧ y < n)
    (hm : ∀ k, k < n → 0 ≤ (folP n E S n).getD k 0 ∧ (folP n E S n).getD k 0 < n) : APure Try.prog 47 [dayA n F T E S u w] (fun R => R = .int (worP F T u w (folP n E S n) n)) := by
  refine APure_of (X := cx 23) (cx_ok 23) rfl (rs := [(.tmp 2, 3)]) Try.func47 (by decide) rfl rfl rfl (by simp [cx]) (nofr1 nofrD) ?_
  intro _
  have hfl := folP_len n E S n
  have hb := fun k => worP_bd hr hu hw hm k
  have hfo := followers_pure n F T E S hn hE hS hEm
  generalize folP n E S n = m at *
  ((conv => whnf); repeat (refine stepK_in ?_; (repeat (first | refine seqQ_n ?_ | refine blockQ_n ?_ | refine awp_skip ?_ | refine awp_seq ?_ | refine awp_block ?_)); (conv => whnf)))
  refine APure.to (APure.arg1 (subH rfl rfl rfl) hfo) ?_
  ((conv => whnf); repeat (refine stepK_in ?_; (repeat (first | refine seqQ_n ?_ | refine blockQ_n ?_ | refine awp_skip ?_ | refine awp_seq ?_ | refine awp_block ?_)); (conv => whnf)))
  refine AW_loop (X := cx 23) (cx_ok 23) [1, 3, 8, 9, 10] (fun vs M => ∃ k : Nat, k ≤ n ∧ vs = [.ptr 0 0 0 0, .int (worP F T u w m k), .ints true m, .int n, .int k] ∧ M = [some ⟨60, 5, 0, .one [ridesV n F T, .ints false E, .ints false S, .int u, .int w]⟩])
    (fun vs _ => n - (vs.getD 4 .any).toInt.toNat) ?_ ?_
  · refine ⟨0, Nat.zero_le _, ?_, rfl⟩
    rw [← hfl]
    rfl
  rintro vs M ⟨k, hk, rfl, rfl⟩
  ((conv => whnf); repeat (refine stepK_in ?_; (repeat (first | refine seqQ_n ?_ | refine blockQ_n ?_ | refine awp_skip ?_ | refine awp_seq ?_ | refine awp_block ?_)); (conv => whnf)))
  refine br_dec (fun hlt => ?_) (fun hge => ?_)
  · have hk' : k < n := by omega
    have hmk := hm k hk'
    obtain ⟨j, hj, hjm⟩ : ∃ j : Nat, j < n ∧ m.getD k 0 = j := ⟨(m.getD k 0).toNat, by omega, by omega⟩
    have hem := empty_pure (E := E) (S := S) hr hu hw k j hk' hj
    have hb1 := hb k hk
    have hb2 := hb (k + 1) (by omega)
    have hw1 : worP F T u w m (k + 1) = worP F T u w m k + emp F T u w k j := by simp only [worP]; rw [hjm, Int.toNat_natCast]
    have hgo : ∀ x, x = m.getD k 0 → APure Try.prog 44 [dayA n F T E S u w, .int k, .int x] (fun R => R = .int (emp F T u w k j)) := fun x hx => by rw [hx, hjm]; exact hem
    ((conv => whnf); repeat (refine stepK_in ?_; (repeat (first | refine seqQ_n ?_ | refine blockQ_n ?_ | refine awp_skip ?_ | refine awp_seq ?_ | refine awp_block ?_)); (conv => whnf)))
    refine ⟨by omega, ?_⟩
    ((conv => whnf); repeat (refine stepK_in ?_; (repeat (first | refine seqQ_n ?_ | refine blockQ_n ?_ | refine awp_skip ?_ | refine awp_seq ?_ | refine awp_block ?_)); (conv => whnf)))
    refine ⟨by omega, ?_⟩
    ((conv => whnf); repeat (refine stepK_in ?_; (repeat (first | refine seqQ_n ?_ | refine blockQ_n ?_ | refine awp_skip ?_ | refine awp_seq ?_ | refine awp_block ?_)); (conv => whnf)))
    refine APure.to (APure.arg3 (subD rfl rfl rfl rfl rfl) (Sub.refl _) (Sub.refl _) (hgo _ rfl)) ?_
    ((conv => whnf); repeat (refine stepK_in ?_; (repeat (first | refine seqQ_n ?_ | refine blockQ_n ?_ | refine awp_skip ?_ | refine awp_seq ?_ | refine awp_block ?_)); (conv => whnf)))
    rw [← hw1]
    refine ⟨inr (by omega), ?_⟩
    ((conv => whnf); repeat (refine stepK_in ?_; (repeat (first | refine seqQ_n ?_ | refine blockQ_n ?_ | refine awp_skip ?_ | refine awp_seq ?_ | refine awp_block ?_)); (conv => whnf)))
    refine ⟨inr (by omega), ?_⟩
    ((conv => whnf); repeat (refine stepK_in ?_; (repeat (first | refine seqQ_n ?_ | refine blockQ_n ?_ | refine awp_skip ?_ | refine awp_seq ?_ | refine awp_block ?_)); (conv => whnf)))
    refine ⟨⟨k + 1, by omega, rfl, rfl⟩, ?_⟩
    simp [V.toInt, sel, Env.get]; omega
  · obtain rfl : k = n := by omega
    ((conv => whnf); repeat (refine stepK_in ?_; (repeat (first | refine seqQ_n ?_ | refine blockQ_n ?_ | refine awp_skip ?_ | refine awp_seq ?_ | refine awp_block ?_)); (conv => whnf)))
    exact ⟨trivial, rfl⟩

/-- The sorted matching. -/
def matL (n : Nat) (F T : Nat → Int) : List Int := folP n (ordL T n) (ordL F n) n
theorem matL_len {n : Nat} {F T : Nat → Int} : (matL n F T).length = n := folP_len _ _ _ _
theorem folP_mem {n : Nat} {E S : List Int} (hS : S.length = n) (hSm : ∀ y ∈ S, 0 ≤ y ∧ y < n) : ∀ k, k ≤ n → ∀ j, j < n → 0 ≤ (folP n E S k).getD j 0 ∧ (folP n E S k).getD j 0 < n := by
  intro k
  induction k with
  | zero => intro _ j hj; simp only [folP, List.getD, List.getElem?_replicate]; rw [if_pos hj]; simp only [Option.getD_some]; omega
  | succ k ih =>
    intro hk j hj
    simp only [folP]
    rw [getD_setL]
    split
    · exact hSm _ (getD_mem' (by omega))
    · exact ih (by omega) j hj
theorem matL_mem {n : Nat} {F T : Nat → Int} : ∀ j, j < n → 0 ≤ (matL n F T).getD j 0 ∧ (matL n F T).getD j 0 < n := folP_mem (ordL_len _ _) (fun _ h => ordL_mem h) n (Nat.le_refl _)
def matC (n : Nat) (F T : Nat → Int) (u w : Int) : Int := worP F T u w (matL n F T) n

theorem Matching_pure (n : Nat) (F T : Nat → Int) (u w : Int) : APure Try.prog 21 [ridesV n F T, slopeV u w] (fun R => R = tup3 (.ints true (if dayE n F T u w = 0 then matL n F T else [])) (.int (if dayE n F T u w = 0 then matC n F T u w else 0)) (.int (dayE n F T u w))) := by
  refine APure_of (X := ⟨Try.prog, tab, wrL, 23, 0, false⟩) tab_ok rfl (rs := [(.tmp 4, 25), (.tmp 5, 3), (.tmp 6, 30)]) Try.func21 (by decide) rfl rfl rfl (by simp) (nofr2 nofrR nofrS) ?_
  intro _
  ((conv => whnf); repeat (refine stepK_in ?_; (repeat (first | refine seqQ_n ?_ | refine blockQ_n ?_ | refine awp_skip ?_ | refine awp_seq ?_ | refine awp_block ?_)); (conv => whnf)))
  refine APure.to (APure.arg2 subR (subS1 rfl rfl) (checkDay_pure n F T u w)) ?_
  ((conv => whnf); repeat (refine stepK_in ?_; (repeat (first | refine seqQ_n ?_ | refine blockQ_n ?_ | refine awp_skip ?_ | refine awp_seq ?_ | refine awp_block ?_)); (conv => whnf)))
  refine br_ne (fun h0 => ?_) (fun h0 => ?_)
  · ((conv => whnf); repeat (refine stepK_in ?_; (repeat (first | refine seqQ_n ?_ | refine blockQ_n ?_ | refine awp_skip ?_ | refine awp_seq ?_ | refine awp_block ?_)); (conv => whnf)))
    exact ⟨rfl, trivial, trivial, Q3 (Ql (by rw [if_neg h0])) (Qi (by rw [if_neg h0])) rfl⟩
  obtain ⟨h1, h9, hr, hu, hw⟩ := dayE_inv h0
  rw [if_pos h0, if_pos h0, h0]
  ((conv => whnf); repeat (refine stepK_in ?_; (repeat (first | refine seqQ_n ?_ | refine blockQ_n ?_ | refine awp_skip ?_ | refine awp_seq ?_ | refine awp_block ?_)); (conv => whnf)))
  refine AImm.to (AImm.arg2 (Sub.refl _) (subS2 rfl rfl) (newDay_imm h1 h9)) ?_
  ((conv => whnf); repeat (refine stepK_in ?_; (repeat (first | refine seqQ_n ?_ | refine blockQ_n ?_ | refine awp_skip ?_ | refine awp_seq ?_ | refine awp_block ?_)); (conv => whnf)))
  have hm := matL_mem (n := n) (F := F) (T := T)
  have hfo := followers_pure n F T (ordL T n) (ordL F n) h9 (ordL_len _ _) (ordL_len _ _) (fun _ h => ordL_mem h)
  have hmc := matched_pure (E := ordL T n) (S := ordL F n) hr hu hw h9 (ordL_len _ _) (ordL_len _ _) (fun _ h => ordL_mem h) hm
  refine AW_draw (X := ⟨Try.prog, tab, wrL, 23, 0, false⟩) tab_ok mixed (by kernel_rfl) ?_
  ((conv => whnf); repeat (refine stepK_in ?_; (repeat (first | refine seqQ_n ?_ | refine blockQ_n ?_ | refine awp_skip ?_ | refine awp_seq ?_ | refine awp_block ?_)); (conv => whnf)))
  refine ⟨.ints true (matL n F T), APure.arg1 (subH rfl rfl rfl) hfo, ?_⟩
  ((conv => whnf); repeat (refine stepK_in ?_; (repeat (first | refine seqQ_n ?_ | refine blockQ_n ?_ | refine awp_skip ?_ | refine awp_seq ?_ | refine awp_block ?_)); (conv => whnf)))
  refine ⟨.int (matC n F T u w), APure.arg1 (subD rfl rfl rfl rfl rfl) hmc, ?_⟩
  ((conv => whnf); repeat (refine stepK_in ?_; (repeat (first | refine seqQ_n ?_ | refine blockQ_n ?_ | refine awp_skip ?_ | refine awp_seq ?_ | refine awp_block ?_)); (conv => whnf)))
  exact ⟨rfl, trivial, trivial, rfl⟩

/-! Levels -/
def upP (F T : Nat → Int) (h : Int) : Nat → Int
  | 0 => 0
  | k + 1 => upP F T h k + if F k < h ∧ T k ≥ h then 1 else 0
def downP (F T : Nat → Int) (h : Int) : Nat → Int
  | 0 => 0
  | k + 1 => downP F T h k + if F k ≥ h ∧ T k < h then 1 else 0
theorem upP_bd (F T : Nat → Int) (h : Int) : ∀ k, 0 ≤ upP F T h k ∧ upP F T h k ≤ k := by
  intro k
  induction k with
  | zero => simp [upP]
  | succ k ih => simp only [upP]; split <;> omega
theorem downP_bd (F T : Nat → Int) (h : Int) : ∀ k, 0 ≤ downP F T h k ∧ downP F T h k ≤ k := by
  intro k
  induction k with
  | zero => simp [downP]
  | succ k ih => simp only [downP]; split <;> omega

theorem level_pure (n : Nat) (F T : Nat → Int) (h : Int) (hn : n ≤ 9) : APure Try.prog 61 [ridesV n F T, .int h] (fun R => R = tup2 (.int (upP F T h n)) (.int (downP F T h n))) := by
  refine APure_of (X := cx 43) (cx_ok 43) rfl (rs := [(.tmp 4, 3), (.tmp 5, 3)]) Try.func61 (by decide) rfl rfl rfl (by simp [cx]) (nofr2 (a := ridesV n F T) (b := .int h) nofrR trivial) ?_
  intro _
  ((conv => whnf); repeat (refine stepK_in ?_; (repeat (first | refine seqQ_n ?_ | refine blockQ_n ?_ | refine awp_skip ?_ | refine awp_seq ?_ | refine awp_block ?_)); (conv => whnf)))
  refine AW_loopA (X := cx 43) (cx_ok 43) [1, 4, 5, 8, 9, 10] (fun _ => false) (fun vs M => ∃ k : Nat, k ≤ n ∧ vs = [.int h, .int (upP F T h k), .int (downP F T h k), ridesV n F T, .int n, .int k] ∧ M = []) (fun vs _ => n - (vs.getD 5 .any).toInt.toNat) (fun t ht => absurd ht (by simp)) ?_ ?_
  · exact same0 ⟨0, Nat.zero_le _, rfl, rfl⟩
  rintro vs M ⟨k, hk, rfl, rfl⟩
  have hub := upP_bd F T h k
  have hdb := downP_bd F T h k
  ((conv => whnf); repeat (refine stepK_in ?_; (repeat (first | refine seqQ_n ?_ | refine blockQ_n ?_ | refine awp_skip ?_ | refine awp_seq ?_ | refine awp_block ?_)); (conv => whnf)))
  refine br_dec (fun hlt => ?_) (fun hge => ?_)
  · have hk' : k < n := by omega
    have e1 : upP F T h (k + 1) = upP F T h k + if F k < h ∧ T k ≥ h then 1 else 0 := rfl
    have e2 : downP F T h (k + 1) = downP F T h k + if F k ≥ h ∧ T k < h then 1 else 0 := rfl
    have next : ∀ a b : Int, a = upP F T h (k + 1) → b = downP F T h (k + 1) → ∃ j : Nat, j ≤ n ∧ [V.int h, .int a, .int b, ridesV n F T, .int n, .int ((k : Int) + 1)] = [.int h, .int (upP F T h j), .int (downP F T h j), ridesV n F T, .int n, .int j] ∧ ([] : Mem) = [] := fun a b ha hb => ⟨k + 1, by omega, by rw [ha, hb]; rfl, rfl⟩
    ((conv => whnf); repeat (refine stepK_in ?_; (repeat (first | refine seqQ_n ?_ | refine blockQ_n ?_ | refine awp_skip ?_ | refine awp_seq ?_ | refine awp_block ?_)); (conv => whnf)))
    refine ⟨by omega, ?_⟩
    ((conv => whnf); repeat (refine stepK_in ?_; (repeat (first | refine seqQ_n ?_ | refine blockQ_n ?_ | refine awp_skip ?_ | refine awp_seq ?_ | refine awp_block ?_)); (conv => whnf)))
    refine ⟨by omega, ?_⟩
    ((conv => whnf); repeat (refine stepK_in ?_; (repeat (first | refine seqQ_n ?_ | refine blockQ_n ?_ | refine awp_skip ?_ | refine awp_seq ?_ | refine awp_block ?_)); (conv => whnf)))
    refine br_dec (fun a1 => ?_) (fun a1 => ?_)
    · have a1 : F k < h := a1
      ((conv => whnf); repeat (refine stepK_in ?_; (repeat (first | refine seqQ_n ?_ | refine blockQ_n ?_ | refine awp_skip ?_ | refine awp_seq ?_ | refine awp_block ?_)); (conv => whnf)))
      refine br_dec (fun a2 => ?_) (fun a2 => ?_)
      · have a2 : T k ≥ h := a2
        ((conv => whnf); repeat (refine stepK_in ?_; (repeat (first | refine seqQ_n ?_ | refine blockQ_n ?_ | refine awp_skip ?_ | refine awp_seq ?_ | refine awp_block ?_)); (conv => whnf)))
        repeat (refine ⟨inr (by omega), ?_⟩; ((conv => whnf); repeat (refine stepK_in ?_; (repeat (first | refine seqQ_n ?_ | refine blockQ_n ?_ | refine awp_skip ?_ | refine awp_seq ?_ | refine awp_block ?_)); (conv => whnf))))
        refine ⟨by repeat (first | exact trivial | exact rfl | exact namedR |  exact fun _ => trivial | exact fun _ _ => trivial | exact fun _ _ _ => trivial | exact fun _ _ _ _ => trivial | refine And.intro ?_ ?_), same1 ⟨next _ _ (by rw [e1, if_pos (by omega)]) (by rw [e2, if_neg (by omega), Int.add_zero]), ?_⟩⟩
        simp [V.toInt, sel, Env.get]; omega
      · have a2 : ¬ T k ≥ h := a2
        ((conv => whnf); repeat (refine stepK_in ?_; (repeat (first | refine seqQ_n ?_ | refine blockQ_n ?_ | refine awp_skip ?_ | refine awp_seq ?_ | refine awp_block ?_)); (conv => whnf)))
        refine br_dec (fun a3 => absurd (show F k ≥ h from a3) (by omega)) (fun _ => ?_)
        ((conv => whnf); repeat (refine stepK_in ?_; (repeat (first | refine seqQ_n ?_ | refine blockQ_n ?_ | refine awp_skip ?_ | refine awp_seq ?_ | refine awp_block ?_)); (conv => whnf)))
        repeat (refine ⟨inr (by omega), ?_⟩; ((conv => whnf); repeat (refine stepK_in ?_; (repeat (first | refine seqQ_n ?_ | refine blockQ_n ?_ | refine awp_skip ?_ | refine awp_seq ?_ | refine awp_block ?_)); (conv => whnf))))
        refine ⟨by repeat (first | exact trivial | exact rfl | exact namedR |  exact fun _ => trivial | exact fun _ _ => trivial | exact fun _ _ _ => trivial | exact fun _ _ _ _ => trivial | refine And.intro ?_ ?_), same1 ⟨next _ _ (by rw [e1, if_neg (by omega), Int.add_zero]) (by rw [e2, if_neg (by omega), Int.add_zero]), ?_⟩⟩
        simp [V.toInt, sel, Env.get]; omega
    · have a1 : ¬ F k < h := a1
      ((conv => whnf); repeat (refine stepK_in ?_; (repeat (first | refine seqQ_n ?_ | refine blockQ_n ?_ | refine awp_skip ?_ | refine awp_seq ?_ | refine awp_block ?_)); (conv => whnf)))
      refine br_dec (fun a2 => ?_) (fun a2 => absurd (show F k ≥ h by omega) a2)
      ((conv => whnf); repeat (refine stepK_in ?_; (repeat (first | refine seqQ_n ?_ | refine blockQ_n ?_ | refine awp_skip ?_ | refine awp_seq ?_ | refine awp_block ?_)); (conv => whnf)))
      refine br_dec (fun a3 => ?_) (fun a3 => ?_)
      · have a3 : T k < h := a3
        ((conv => whnf); repeat (refine stepK_in ?_; (repeat (first | refine seqQ_n ?_ | refine blockQ_n ?_ | refine awp_skip ?_ | refine awp_seq ?_ | refine awp_block ?_)); (conv => whnf)))
        repeat (refine ⟨inr (by omega), ?_⟩; ((conv => whnf); repeat (refine stepK_in ?_; (repeat (first | refine seqQ_n ?_ | refine blockQ_n ?_ | refine awp_skip ?_ | refine awp_seq ?_ | refine awp_block ?_)); (conv => whnf))))
        refine ⟨by repeat (first | exact trivial | exact rfl | exact namedR |  exact fun _ => trivial | exact fun _ _ => trivial | exact fun _ _ _ => trivial | exact fun _ _ _ _ => trivial | refine And.intro ?_ ?_), same1 ⟨next _ _ (by rw [e1, if_neg (by omega), Int.add_zero]) (by rw [e2, if_pos (by omega)]), ?_⟩⟩
        simp [V.toInt, sel, Env.get]; omega
      · have a3 : ¬ T k < h := a3
        ((conv => whnf); repeat (refine stepK_in ?_; (repeat (first | refine seqQ_n ?_ | refine blockQ_n ?_ | refine awp_skip ?_ | refine awp_seq ?_ | refine awp_block ?_)); (conv => whnf)))
        repeat (refine ⟨inr (by omega), ?_⟩; ((conv => whnf); repeat (refine stepK_in ?_; (repeat (first | refine seqQ_n ?_ | refine blockQ_n ?_ | refine awp_skip ?_ | refine awp_seq ?_ | refine awp_block ?_)); (conv => whnf))))
        refine ⟨by repeat (first | exact trivial | exact rfl | exact namedR |  exact fun _ => trivial | exact fun _ _ => trivial | exact fun _ _ _ => trivial | exact fun _ _ _ _ => trivial | refine And.intro ?_ ?_), same1 ⟨next _ _ (by rw [e1, if_neg (by omega), Int.add_zero]) (by rw [e2, if_neg (by omega), Int.add_zero]), ?_⟩⟩
        simp [V.toInt, sel, Env.get]; omega
  · obtain rfl : k = n := by omega
    ((conv => whnf); repeat (refine stepK_in ?_; (repeat (first | refine seqQ_n ?_ | refine blockQ_n ?_ | refine awp_skip ?_ | refine awp_seq ?_ | refine awp_block ?_)); (conv => whnf)))
    exact ⟨trivial, trivial, rfl⟩

theorem Level_pure (n : Nat) (F T : Nat → Int) (h : Int) (hr : ridesE n F T = 0) (hh : okH h) : APure Try.prog 35 [ridesV n F T, .int h] (fun R => R = tup3 (.int (upP F T h n)) (.int (downP F T h n)) (.int 0)) := by
  obtain ⟨h1, h9, _⟩ := ridesE_inv hr
  have hc := checkRides_pure n F T
  rw [hr] at hc
  have hi := isHeight_pure h
  rw [decide_eq_true hh] at hi
  refine APure_of (X := cx 26) (cx_ok 26) rfl (rs := [(.tmp 4, 3), (.tmp 5, 3), (.tmp 6, 30)]) Try.func35 (by decide) rfl rfl rfl (by simp [cx]) (nofr2 (a := ridesV n F T) (b := .int h) nofrR trivial) ?_
  intro _
  ((conv => whnf); repeat (refine stepK_in ?_; (repeat (first | refine seqQ_n ?_ | refine blockQ_n ?_ | refine awp_skip ?_ | refine awp_seq ?_ | refine awp_block ?_)); (conv => whnf)))
  refine APure.to (APure.arg1 subR hc) ?_
  ((conv => whnf); repeat (refine stepK_in ?_; (repeat (first | refine seqQ_n ?_ | refine blockQ_n ?_ | refine awp_skip ?_ | refine awp_seq ?_ | refine awp_block ?_)); (conv => whnf)))
  refine APure.to hi ?_
  ((conv => whnf); repeat (refine stepK_in ?_; (repeat (first | refine seqQ_n ?_ | refine blockQ_n ?_ | refine awp_skip ?_ | refine awp_seq ?_ | refine awp_block ?_)); (conv => whnf)))
  refine APure.to (APure.arg2 subR (Sub.refl _) (level_pure n F T h h9)) ?_
  ((conv => whnf); repeat (refine stepK_in ?_; (repeat (first | refine seqQ_n ?_ | refine blockQ_n ?_ | refine awp_skip ?_ | refine awp_seq ?_ | refine awp_block ?_)); (conv => whnf)))
  exact ⟨trivial, trivial, trivial, rfl⟩
end Go.Tri
