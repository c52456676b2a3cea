/-
  CONTRACTS: the checks, the program's and the reference's.
-/
import Derived.Test.YtknpoobfecceeaaS
import Derived.Test.YtknpoobfecceeaaA30
namespace Go.Tri
open Go.Proofs

theorem eqn_self {x : Nat} {K : Prop} (h : K) : (eqnO x x).req K := (Obl.req_iff _ _).2 ⟨eqnO_holds.2 rfl, h⟩
theorem ms {n : Nat} {x : Int} (h : 8 * x ≤ 140737488355328) : (((cx n).T.row 3).bs : Int) * x ≤ 140737488355328 := h
theorem ms1 {n : Nat} : (((cx n).T.row 3).bs : Int) * ((1 : Nat) : Int) ≤ 140737488355328 := show (8 : Int) * 1 ≤ _ by decide
theorem msk {n k : Nat} (h : 8 * ((k : Int) + 1) ≤ 140737488355328) : (((cx n).T.row 3).bs : Int) * ((k : Int) + ((1 : Nat) : Int)) ≤ 140737488355328 := h
theorem Qb {b c : Bool} (h : b = c) : V.bool b = V.bool c := by rw [h]
theorem Qi {b c : Int} (h : b = c) : V.int b = V.int c := by rw [h]
theorem Ql {b : Bool} {c d : List Int} (h : c = d) : V.ints b c = V.ints b d := by rw [h]
@[reducible] def tup2 (a b : V) : V := .tup 2 fun k => match k with | 0 => a | _ => b
@[reducible] def tup3 (a b c : V) : V := .tup 3 fun k => match k with | 0 => a | 1 => b | _ => c
theorem Q2 {a b a' b' : V} (h : a = a') (h' : b = b') : tup2 a b = tup2 a' b' := by rw [h, h']
theorem Q3 {a b c a' b' c' : V} (h : a = a') (h' : b = b') (h2 : c = c') : tup3 a b c = tup3 a' b' c' := by rw [h, h', h2]
theorem take_succ_getD (l : List Int) (k : Nat) (h : k < l.length) : l.take (k + 1) = l.take k ++ [l.getD k 0] := by
  rw [List.take_add_one]; simp [List.getD, h]
theorem take_len {l : List Int} {k : Nat} (h : l.length ≤ k) : l.take k = l := List.take_of_length_le h
theorem getD_mem' {l : List Int} {k : Nat} (h : k < l.length) : l.getD k 0 ∈ l := by simp [List.getD, h]

/-- Rides: where they begin and end; a slope. -/
@[reducible] def rd (F T : Nat → Int) : Nat → Nat → V := fun j k => match k with | 0 => .int (F j) | _ => .int (T j)
@[reducible] def ridesV (n : Nat) (F T : Nat → Int) : V := .seq false 2 n (rd F T)
@[reducible] def slopeV (u d : Int) : V := .agg 2 fun k => match k with | 0 => .int u | _ => .int d
theorem subR {M : Mem} {d n : Nat} {F T : Nat → Int} : Sub (.seq false 2 n fun j k => byvalN M (d + 1) (rd F T j k)) (ridesV n F T) := by
  refine sub_seq fun j k _ hk => ?_
  rcases (by omega : k = 0 ∨ k = 1) with rfl | rfl <;> exact Sub.refl _
theorem subS {M : Mem} {d : Nat} {u w : Int} : Sub (.agg 2 fun k => byvalN M (d + 1) (match k with | 0 => V.int u | _ => V.int w)) (slopeV u w) := by
  refine sub_agg fun k hk => ?_
  rcases (by omega : k = 0 ∨ k = 1) with rfl | rfl <;> exact Sub.refl _

theorem nofrR {n : Nat} {F T : Nat → Int} : NoFr (ridesV n F T) := ⟨rfl, fun j k => by unfold rd; split <;> trivial⟩
theorem nofrS {u w : Int} : NoFr (slopeV u w) := fun k => by show NoFr (match k with | 0 => V.int u | _ => V.int w); split <;> trivial
theorem namedR {kp : Nat → Bool} {n : Nat} {F T : Nat → Int} : Named kp (ridesV n F T) := fun j k _ _ => by show Named kp (rd F T j k); unfold rd; split <;> trivial
theorem nofr1 {a : V} (h : NoFr a) : ∀ x ∈ [a], NoFr x := by intro x hx; simp at hx; subst hx; exact h
theorem nofr2 {a b : V} (h : NoFr a) (h' : NoFr b) : ∀ x ∈ [a, b], NoFr x := by intro x hx; simp at hx; rcases hx with rfl | rfl <;> assumption
theorem nofr3 {a b c : V} (h : NoFr a) (h' : NoFr b) (h2 : NoFr c) : ∀ x ∈ [a, b, c], NoFr x := by intro x hx; simp at hx; rcases hx with rfl | rfl | rfl <;> assumption
theorem nofr4 {a b c d : V} (h : NoFr a) (h' : NoFr b) (h2 : NoFr c) (h3 : NoFr d) : ∀ x ∈ [a, b, c, d], NoFr x := by intro x hx; simp at hx; rcases hx with rfl | rfl | rfl | rfl <;> assumption

/-- A height that is right; a toll. -/
def okH (x : Int) : Prop := 0 ≤ x ∧ x ≤ 1000
instance (x : Int) : Decidable (okH x) := by unfold okH; infer_instance
def okRides (n : Nat) (F T : Nat → Int) : Prop := ∀ j, j < n → okH (F j) ∧ okH (T j)
open Classical in
/-- The error of rides; of rides and a slope. -/
noncomputable def ridesE (n : Nat) (F T : Nat → Int) : Int := if n > 9 then 3 else if n = 0 then 2 else if okRides n F T then 0 else 2
noncomputable def dayE (n : Nat) (F T : Nat → Int) (u w : Int) : Int := if ridesE n F T = 0 then (if okH u ∧ okH w then 0 else 2) else ridesE n F T
theorem ridesE_bad {n : Nat} {F T : Nat → Int} (h1 : ¬ n > 9) (h : ¬ okRides n F T) : ridesE n F T = 2 := by unfold ridesE; rw [if_neg h1]; split <;> first | rfl | rw [if_neg h]
theorem ridesE_ok {n : Nat} {F T : Nat → Int} (h1 : ¬ n > 9) (h0 : n ≠ 0) (h : okRides n F T) : ridesE n F T = 0 := by unfold ridesE; rw [if_neg h1, if_neg h0, if_pos h]
theorem ridesE_inv {n : Nat} {F T : Nat → Int} (h : ridesE n F T = 0) : 1 ≤ n ∧ n ≤ 9 ∧ okRides n F T := by
  unfold ridesE at h
  split at h
  · omega
  · split at h
    · omega
    · split at h
      · next h3 => exact ⟨by omega, by omega, h3⟩
      · omega
theorem dayE_inv {n : Nat} {F T : Nat → Int} {u w : Int} (h : dayE n F T u w = 0) : 1 ≤ n ∧ n ≤ 9 ∧ okRides n F T ∧ okH u ∧ okH w := by
  unfold dayE at h
  split at h
  · next h1 =>
    obtain ⟨a, b, c⟩ := ridesE_inv h1
    split at h
    · next h2 => exact ⟨a, b, c, h2.1, h2.2⟩
    · omega
  · next h1 => exact absurd h h1
theorem dayE_rides {n : Nat} {F T : Nat → Int} {u w : Int} (h : dayE n F T u w = 0) : ridesE n F T = 0 := by
  unfold dayE at h
  split at h
  · assumption
  · next h1 => exact absurd h h1

theorem isHeight_pure (x : Int) : APure Try.prog 60 [.int x] (fun R => R = .bool (decide (okH x))) := by
  refine APure_of (X := cx 9) (cx_ok 9) rfl (rs := [(.tmp 2, 4)]) Try.func60 (by decide) rfl rfl rfl (by simp [cx]) (by simp [NoFr]) ?_
  intro _
  ((conv => whnf); repeat (refine stepK_in ?_; (repeat (first | refine seqQ_n ?_ | refine blockQ_n ?_ | refine awp_skip ?_ | refine awp_seq ?_ | refine awp_block ?_)); (conv => whnf)))
  refine br_dec (fun h => ?_) (fun h => ?_)
  · ((conv => whnf); repeat (refine stepK_in ?_; (repeat (first | refine seqQ_n ?_ | refine blockQ_n ?_ | refine awp_skip ?_ | refine awp_seq ?_ | refine awp_block ?_)); (conv => whnf)))
    exact ⟨trivial, Qb (by unfold okH; simp [show (0 : Int) ≤ x from h])⟩
  · ((conv => whnf); repeat (refine stepK_in ?_; (repeat (first | refine seqQ_n ?_ | refine blockQ_n ?_ | refine awp_skip ?_ | refine awp_seq ?_ | refine awp_block ?_)); (conv => whnf)))
    exact ⟨trivial, Qb (by unfold okH; simp [show ¬ (0 : Int) ≤ x from h])⟩
theorem isToll_pure (x : Int) : APure Try.prog 63 [.int x] (fun R => R = .bool (decide (okH x))) := by
  refine APure_of (X := cx 9) (cx_ok 9) rfl (rs := [(.tmp 2, 4)]) Try.func63 (by decide) rfl rfl rfl (by simp [cx]) (by simp [NoFr]) ?_
  intro _
  ((conv => whnf); repeat (refine stepK_in ?_; (repeat (first | refine seqQ_n ?_ | refine blockQ_n ?_ | refine awp_skip ?_ | refine awp_seq ?_ | refine awp_block ?_)); (conv => whnf)))
  refine br_dec (fun h => ?_) (fun h => ?_)
  · ((conv => whnf); repeat (refine stepK_in ?_; (repeat (first | refine seqQ_n ?_ | refine blockQ_n ?_ | refine awp_skip ?_ | refine awp_seq ?_ | refine awp_block ?_)); (conv => whnf)))
    exact ⟨trivial, Qb (by unfold okH; simp [show (0 : Int) ≤ x from h])⟩
  · ((conv => whnf); repeat (refine stepK_in ?_; (repeat (first | refine seqQ_n ?_ | refine blockQ_n ?_ | refine awp_skip ?_ | refine awp_seq ?_ | refine awp_block ?_)); (conv => whnf)))
    exact ⟨trivial, Qb (by unfold okH; simp [show ¬ (0 : Int) ≤ x from h])⟩

theorem LenR {n : Nat} {F T : Nat → Int} (h : ∀ x ∈ [ridesV n F T], LenOk x) : (n : Int) ≤ 9223372036854775807 := h (ridesV n F T) (by simp)

theorem checkRides_pure (n : Nat) (F T : Nat → Int) : APure Try.prog 51 [ridesV n F T] (fun R => R = .int (ridesE n F T)) := by
  refine APure_of (X := cx 28) (cx_ok 28) rfl (rs := [(.tmp 2, 30)]) Try.func51 (by decide) rfl rfl rfl (by simp [cx]) (nofr1 nofrR) ?_
  intro hlen
  have hla := LenR hlen
  ((conv => whnf); repeat (refine stepK_in ?_; (repeat (first | refine seqQ_n ?_ | refine blockQ_n ?_ | refine awp_skip ?_ | refine awp_seq ?_ | refine awp_block ?_)); (conv => whnf)))
  refine br_dec (fun h => ?_) (fun h => ?_)
  · ((conv => whnf); repeat (refine stepK_in ?_; (repeat (first | refine seqQ_n ?_ | refine blockQ_n ?_ | refine awp_skip ?_ | refine awp_seq ?_ | refine awp_block ?_)); (conv => whnf)))
    exact ⟨trivial, Qi (by unfold ridesE; rw [if_pos (by omega)])⟩
  have h9 : ¬ n > 9 := by omega
  ((conv => whnf); repeat (refine stepK_in ?_; (repeat (first | refine seqQ_n ?_ | refine blockQ_n ?_ | refine awp_skip ?_ | refine awp_seq ?_ | refine awp_block ?_)); (conv => whnf)))
  refine br_eq (fun h0 => ?_) (fun h0 => ?_)
  · ((conv => whnf); repeat (refine stepK_in ?_; (repeat (first | refine seqQ_n ?_ | refine blockQ_n ?_ | refine awp_skip ?_ | refine awp_seq ?_ | refine awp_block ?_)); (conv => whnf)))
    exact ⟨trivial, Qi (by unfold ridesE; rw [if_neg h9, if_pos (by omega)])⟩
  ((conv => whnf); repeat (refine stepK_in ?_; (repeat (first | refine seqQ_n ?_ | refine blockQ_n ?_ | refine awp_skip ?_ | refine awp_seq ?_ | refine awp_block ?_)); (conv => whnf)))
  refine AW_loopA (X := cx 28) (cx_ok 28) [11, 12, 13] (fun _ => false) (fun vs M => ∃ k : Nat, k ≤ n ∧ okRides k F T ∧ vs = [ridesV n F T, .int n, .int k] ∧ M = []) (fun vs _ => n - (vs.getD 2 .any).toInt.toNat) (fun t ht => absurd ht (by simp)) ?_ ?_
  · exact same0 ⟨0, Nat.zero_le _, fun j hj => absurd hj (by omega), rfl, rfl⟩
  rintro vs M ⟨k, hk, hok, rfl, rfl⟩
  ((conv => whnf); repeat (refine stepK_in ?_; (repeat (first | refine seqQ_n ?_ | refine blockQ_n ?_ | refine awp_skip ?_ | refine awp_seq ?_ | refine awp_block ?_)); (conv => whnf)))
  refine br_dec (fun hlt => ?_) (fun hge => ?_)
  · have hk' : k < n := by omega
    have next : okH (F k) → okH (T k) → okRides (k + 1) F T := fun h1 h2 j hj => by
      rcases (by omega : j = k ∨ j < k) with rfl | h3
      · exact ⟨h1, h2⟩
      · exact hok j h3
    ((conv => whnf); repeat (refine stepK_in ?_; (repeat (first | refine seqQ_n ?_ | refine blockQ_n ?_ | refine awp_skip ?_ | refine awp_seq ?_ | refine awp_block ?_)); (conv => whnf)))
    refine ⟨by omega, ?_⟩
    ((conv => whnf); repeat (refine stepK_in ?_; (repeat (first | refine seqQ_n ?_ | refine blockQ_n ?_ | refine awp_skip ?_ | refine awp_seq ?_ | refine awp_block ?_)); (conv => whnf)))
    refine ⟨by omega, ?_⟩
    ((conv => whnf); repeat (refine stepK_in ?_; (repeat (first | refine seqQ_n ?_ | refine blockQ_n ?_ | refine awp_skip ?_ | refine awp_seq ?_ | refine awp_block ?_)); (conv => whnf)))
    refine APure.to (isHeight_pure (F k)) ?_
    ((conv => whnf); repeat (refine stepK_in ?_; (repeat (first | refine seqQ_n ?_ | refine blockQ_n ?_ | refine awp_skip ?_ | refine awp_seq ?_ | refine awp_block ?_)); (conv => whnf)))
    by_cases h1 : okH (F k)
    · rw [decide_eq_true h1]
      ((conv => whnf); repeat (refine stepK_in ?_; (repeat (first | refine seqQ_n ?_ | refine blockQ_n ?_ | refine awp_skip ?_ | refine awp_seq ?_ | refine awp_block ?_)); (conv => whnf)))
      refine APure.to (isHeight_pure (T k)) ?_
      ((conv => whnf); repeat (refine stepK_in ?_; (repeat (first | refine seqQ_n ?_ | refine blockQ_n ?_ | refine awp_skip ?_ | refine awp_seq ?_ | refine awp_block ?_)); (conv => whnf)))
      by_cases h2 : okH (T k)
      · rw [decide_eq_true h2]
        ((conv => whnf); repeat (refine stepK_in ?_; (repeat (first | refine seqQ_n ?_ | refine blockQ_n ?_ | refine awp_skip ?_ | refine awp_seq ?_ | refine awp_block ?_)); (conv => whnf)))
        refine ⟨inr (by omega), ?_⟩
        ((conv => whnf); repeat (refine stepK_in ?_; (repeat (first | refine seqQ_n ?_ | refine blockQ_n ?_ | refine awp_skip ?_ | refine awp_seq ?_ | refine awp_block ?_)); (conv => whnf)))
        refine ⟨by repeat (first | exact trivial | exact rfl | exact namedR |  exact fun _ => trivial | exact fun _ _ => trivial | exact fun _ _ _ => trivial | exact fun _ _ _ _ => trivial | refine And.intro ?_ ?_), same1 ⟨⟨k + 1, by omega, next h1 h2, rfl, rfl⟩, ?_⟩⟩
        simp [V.toInt, sel, Env.get]; omega
      · rw [decide_eq_false h2]
        ((conv => whnf); repeat (refine stepK_in ?_; (repeat (first | refine seqQ_n ?_ | refine blockQ_n ?_ | refine awp_skip ?_ | refine awp_seq ?_ | refine awp_block ?_)); (conv => whnf)))
        exact ⟨trivial, Qi (ridesE_bad h9 fun h => h2 (h k hk').2).symm⟩
    · rw [decide_eq_false h1]
      ((conv => whnf); repeat (refine stepK_in ?_; (repeat (first | refine seqQ_n ?_ | refine blockQ_n ?_ | refine awp_skip ?_ | refine awp_seq ?_ | refine awp_block ?_)); (conv => whnf)))
      exact ⟨trivial, Qi (ridesE_bad h9 fun h => h1 (h k hk').1).symm⟩
  · obtain rfl : k = n := by omega
    ((conv => whnf); repeat (refine stepK_in ?_; (repeat (first | refine seqQ_n ?_ | refine blockQ_n ?_ | refine awp_skip ?_ | refine awp_seq ?_ | refine awp_block ?_)); (conv => whnf)))
    exact ⟨trivial, Qi (ridesE_ok h9 (by omega) hok).symm⟩

theorem checkDay_pure (n : Nat) (F T : Nat → Int) (u w : Int) : APure Try.prog 38 [ridesV n F T, slopeV u w] (fun R => R = .int (dayE n F T u w)) := by
  refine APure_of (X := cx 21) (cx_ok 21) rfl (rs := [(.tmp 4, 30)]) Try.func38 (by decide) rfl rfl rfl (by simp [cx]) (nofr2 nofrR nofrS) ?_
  intro hlen
  ((conv => whnf); repeat (refine stepK_in ?_; (repeat (first | refine seqQ_n ?_ | refine blockQ_n ?_ | refine awp_skip ?_ | refine awp_seq ?_ | refine awp_block ?_)); (conv => whnf)))
  refine APure.to (APure.arg1 subR (checkRides_pure n F T)) ?_
  ((conv => whnf); repeat (refine stepK_in ?_; (repeat (first | refine seqQ_n ?_ | refine blockQ_n ?_ | refine awp_skip ?_ | refine awp_seq ?_ | refine awp_block ?_)); (conv => whnf)))
  refine br_ne (fun h0 => ?_) (fun h0 => ?_)
  · ((conv => whnf); repeat (refine stepK_in ?_; (repeat (first | refine seqQ_n ?_ | refine blockQ_n ?_ | refine awp_skip ?_ | refine awp_seq ?_ | refine awp_block ?_)); (conv => whnf)))
    exact ⟨trivial, Qi (by unfold dayE; rw [if_neg h0])⟩
  ((conv => whnf); repeat (refine stepK_in ?_; (repeat (first | refine seqQ_n ?_ | refine blockQ_n ?_ | refine awp_skip ?_ | refine awp_seq ?_ | refine awp_block ?_)); (conv => whnf)))
  refine APure.to (isToll_pure u) ?_
  ((conv => whnf); repeat (refine stepK_in ?_; (repeat (first | refine seqQ_n ?_ | refine blockQ_n ?_ | refine awp_skip ?_ | refine awp_seq ?_ | refine awp_block ?_)); (conv => whnf)))
  by_cases h1 : okH u
  · rw [decide_eq_true h1]
    ((conv => whnf); repeat (refine stepK_in ?_; (repeat (first | refine seqQ_n ?_ | refine blockQ_n ?_ | refine awp_skip ?_ | refine awp_seq ?_ | refine awp_block ?_)); (conv => whnf)))
    refine APure.to (isToll_pure w) ?_
    ((conv => whnf); repeat (refine stepK_in ?_; (repeat (first | refine seqQ_n ?_ | refine blockQ_n ?_ | refine awp_skip ?_ | refine awp_seq ?_ | refine awp_block ?_)); (conv => whnf)))
    by_cases h2 : okH w
    · rw [decide_eq_true h2]
      ((conv => whnf); repeat (refine stepK_in ?_; (repeat (first | refine seqQ_n ?_ | refine blockQ_n ?_ | refine awp_skip ?_ | refine awp_seq ?_ | refine awp_block ?_)); (conv => whnf)))
      exact ⟨trivial, Qi (by unfold dayE; rw [if_pos h0, if_pos ⟨h1, h2⟩])⟩
    · rw [decide_eq_false h2]
      ((conv => whnf); repeat (refine stepK_in ?_; (repeat (first | refine seqQ_n ?_ | refine blockQ_n ?_ | refine awp_skip ?_ | refine awp_seq ?_ | refine awp_block ?_)); (conv => whnf)))
      exact ⟨trivial, Qi (by unfold dayE; rw [if_pos h0, if_neg (fun h => h2 h.2)])⟩
  · rw [decide_eq_false h1]
    ((conv => whnf); repeat (refine stepK_in ?_; (repeat (first | refine seqQ_n ?_ | refine blockQ_n ?_ | refine awp_skip ?_ | refine awp_seq ?_ | refine awp_block ?_)); (conv => whnf)))
    exact ⟨trivial, Qi (by unfold dayE; rw [if_pos h0, if_neg (fun h => h1 h.1)])⟩


theorem refRides_pure (n : Nat) (F T : Nat → Int) : APure Try.prog 36 [ridesV n F T] (fun R => R = .int (ridesE n F T)) := by
  refine APure_of (X := cx 46) (cx_ok 46) rfl (rs := [(.tmp 2, 30)]) Try.func36 (by decide) rfl rfl rfl (by simp [cx]) (nofr1 nofrR) ?_
  intro hlen
  have hla := LenR hlen
  ((conv => whnf); repeat (refine stepK_in ?_; (repeat (first | refine seqQ_n ?_ | refine blockQ_n ?_ | refine awp_skip ?_ | refine awp_seq ?_ | refine awp_block ?_)); (conv => whnf)))
  refine br_dec (fun h => ?_) (fun h => ?_)
  · ((conv => whnf); repeat (refine stepK_in ?_; (repeat (first | refine seqQ_n ?_ | refine blockQ_n ?_ | refine awp_skip ?_ | refine awp_seq ?_ | refine awp_block ?_)); (conv => whnf)))
    exact ⟨trivial, Qi (by unfold ridesE; rw [if_pos (by omega)])⟩
  have h9 : ¬ n > 9 := by omega
  ((conv => whnf); repeat (refine stepK_in ?_; (repeat (first | refine seqQ_n ?_ | refine blockQ_n ?_ | refine awp_skip ?_ | refine awp_seq ?_ | refine awp_block ?_)); (conv => whnf)))
  refine br_eq (fun h0 => ?_) (fun h0 => ?_)
  · ((conv => whnf); repeat (refine stepK_in ?_; (repeat (first | refine seqQ_n ?_ | refine blockQ_n ?_ | refine awp_skip ?_ | refine awp_seq ?_ | refine awp_block ?_)); (conv => whnf)))
    exact ⟨trivial, Qi (by unfold ridesE; rw [if_neg h9, if_pos (by omega)])⟩
  ((conv => whnf); repeat (refine stepK_in ?_; (repeat (first | refine seqQ_n ?_ | refine blockQ_n ?_ | refine awp_skip ?_ | refine awp_seq ?_ | refine awp_block ?_)); (conv => whnf)))
  refine AW_loop (X := cx 46) (cx_ok 46) [0, 3] (fun vs M => ∃ k : Nat, k ≤ n ∧ okRides k F T ∧ vs = [ridesV n F T, .int k] ∧ M = []) (fun vs _ => n - (vs.getD 1 .any).toInt.toNat) ?_ ?_
  · exact ⟨0, Nat.zero_le _, fun j hj => absurd hj (by omega), rfl, rfl⟩
  rintro vs M ⟨k, hk, hok, rfl, rfl⟩
  ((conv => whnf); repeat (refine stepK_in ?_; (repeat (first | refine seqQ_n ?_ | refine blockQ_n ?_ | refine awp_skip ?_ | refine awp_seq ?_ | refine awp_block ?_)); (conv => whnf)))
  refine br_dec (fun hlt => ?_) (fun hge => ?_)
  · have hk' : k < n := by omega
    have bad : ¬ (okH (F k) ∧ okH (T k)) → V.int 2 = V.int (ridesE n F T) := fun hb => Qi (ridesE_bad h9 fun h => hb (h k hk')).symm
    have next : okH (F k) ∧ okH (T k) → okRides (k + 1) F T := fun h2 j hj => by
      rcases (by omega : j = k ∨ j < k) with rfl | h3
      · exact h2
      · exact hok j h3
    unfold okH at bad next

    ((conv => whnf); repeat (refine stepK_in ?_; (repeat (first | refine seqQ_n ?_ | refine blockQ_n ?_ | refine awp_skip ?_ | refine awp_seq ?_ | refine awp_block ?_)); (conv => whnf)))
    refine ⟨by omega, ?_⟩
    ((conv => whnf); repeat (refine stepK_in ?_; (repeat (first | refine seqQ_n ?_ | refine blockQ_n ?_ | refine awp_skip ?_ | refine awp_seq ?_ | refine awp_block ?_)); (conv => whnf)))
    refine ⟨by omega, ?_⟩
    ((conv => whnf); repeat (refine stepK_in ?_; (repeat (first | refine seqQ_n ?_ | refine blockQ_n ?_ | refine awp_skip ?_ | refine awp_seq ?_ | refine awp_block ?_)); (conv => whnf)))
    refine br_dec (fun h1 => ?_) (fun h1 => ?_)
    · ((conv => whnf); repeat (refine stepK_in ?_; (repeat (first | refine seqQ_n ?_ | refine blockQ_n ?_ | refine awp_skip ?_ | refine awp_seq ?_ | refine awp_block ?_)); (conv => whnf)))
      exact ⟨trivial, bad (fun h => by simp only [Int.toNat_natCast] at h1; omega)⟩
    ((conv => whnf); repeat (refine stepK_in ?_; (repeat (first | refine seqQ_n ?_ | refine blockQ_n ?_ | refine awp_skip ?_ | refine awp_seq ?_ | refine awp_block ?_)); (conv => whnf)))
    refine ⟨by omega, ?_⟩
    ((conv => whnf); repeat (refine stepK_in ?_; (repeat (first | refine seqQ_n ?_ | refine blockQ_n ?_ | refine awp_skip ?_ | refine awp_seq ?_ | refine awp_block ?_)); (conv => whnf)))
    refine ⟨by omega, ?_⟩
    ((conv => whnf); repeat (refine stepK_in ?_; (repeat (first | refine seqQ_n ?_ | refine blockQ_n ?_ | refine awp_skip ?_ | refine awp_seq ?_ | refine awp_block ?_)); (conv => whnf)))
    refine br_dec (fun h2 => ?_) (fun h2 => ?_)
    · ((conv => whnf); repeat (refine stepK_in ?_; (repeat (first | refine seqQ_n ?_ | refine blockQ_n ?_ | refine awp_skip ?_ | refine awp_seq ?_ | refine awp_block ?_)); (conv => whnf)))
      exact ⟨trivial, bad (fun h => by simp only [Int.toNat_natCast] at h2; omega)⟩
    ((conv => whnf); repeat (refine stepK_in ?_; (repeat (first | refine seqQ_n ?_ | refine blockQ_n ?_ | refine awp_skip ?_ | refine awp_seq ?_ | refine awp_block ?_)); (conv => whnf)))
    refine ⟨by omega, ?_⟩
    ((conv => whnf); repeat (refine stepK_in ?_; (repeat (first | refine seqQ_n ?_ | refine blockQ_n ?_ | refine awp_skip ?_ | refine awp_seq ?_ | refine awp_block ?_)); (conv => whnf)))
    refine ⟨by omega, ?_⟩
    ((conv => whnf); repeat (refine stepK_in ?_; (repeat (first | refine seqQ_n ?_ | refine blockQ_n ?_ | refine awp_skip ?_ | refine awp_seq ?_ | refine awp_block ?_)); (conv => whnf)))
    refine br_dec (fun h3 => ?_) (fun h3 => ?_)
    · ((conv => whnf); repeat (refine stepK_in ?_; (repeat (first | refine seqQ_n ?_ | refine blockQ_n ?_ | refine awp_skip ?_ | refine awp_seq ?_ | refine awp_block ?_)); (conv => whnf)))
      exact ⟨trivial, bad (fun h => by simp only [Int.toNat_natCast] at h3; omega)⟩
    ((conv => whnf); repeat (refine stepK_in ?_; (repeat (first | refine seqQ_n ?_ | refine blockQ_n ?_ | refine awp_skip ?_ | refine awp_seq ?_ | refine awp_block ?_)); (conv => whnf)))
    refine ⟨by omega, ?_⟩
    ((conv => whnf); repeat (refine stepK_in ?_; (repeat (first | refine seqQ_n ?_ | refine blockQ_n ?_ | refine awp_skip ?_ | refine awp_seq ?_ | refine awp_block ?_)); (conv => whnf)))
    refine ⟨by omega, ?_⟩
    ((conv => whnf); repeat (refine stepK_in ?_; (repeat (first | refine seqQ_n ?_ | refine blockQ_n ?_ | refine awp_skip ?_ | refine awp_seq ?_ | refine awp_block ?_)); (conv => whnf)))
    refine br_dec (fun h4 => ?_) (fun h4 => ?_)
    · ((conv => whnf); repeat (refine stepK_in ?_; (repeat (first | refine seqQ_n ?_ | refine blockQ_n ?_ | refine awp_skip ?_ | refine awp_seq ?_ | refine awp_block ?_)); (conv => whnf)))
      exact ⟨trivial, bad (fun h => by simp only [Int.toNat_natCast] at h4; omega)⟩
    ((conv => whnf); repeat (refine stepK_in ?_; (repeat (first | refine seqQ_n ?_ | refine blockQ_n ?_ | refine awp_skip ?_ | refine awp_seq ?_ | refine awp_block ?_)); (conv => whnf)))
    refine ⟨inr (by omega), ?_⟩
    ((conv => whnf); repeat (refine stepK_in ?_; (repeat (first | refine seqQ_n ?_ | refine blockQ_n ?_ | refine awp_skip ?_ | refine awp_seq ?_ | refine awp_block ?_)); (conv => whnf)))
    refine ⟨⟨k + 1, by omega, next ⟨⟨?_, ?_⟩, ?_, ?_⟩, rfl, rfl⟩, ?_⟩
    · simp only [Int.toNat_natCast] at h1; omega
    · simp only [Int.toNat_natCast] at h2; omega
    · simp only [Int.toNat_natCast] at h3; omega
    · simp only [Int.toNat_natCast] at h4; omega
    · simp [V.toInt, sel, Env.get]; omega
  · obtain rfl : k = n := by omega
    ((conv => whnf); repeat (refine stepK_in ?_; (repeat (first | refine seqQ_n ?_ | refine blockQ_n ?_ | refine awp_skip ?_ | refine awp_seq ?_ | refine awp_block ?_)); (conv => whnf)))
    exact ⟨trivial, Qi (ridesE_ok h9 (by omega) hok).symm⟩

theorem refDay_pure (n : Nat) (F T : Nat → Int) (u w : Int) : APure Try.prog 33 [ridesV n F T, slopeV u w] (fun R => R = .int (dayE n F T u w)) := by
  refine APure_of (X := cx 31) (cx_ok 31) rfl (rs := [(.tmp 4, 30)]) Try.func33 (by decide) rfl rfl rfl (by simp [cx]) (nofr2 nofrR nofrS) ?_
  intro hlen
  ((conv => whnf); repeat (refine stepK_in ?_; (repeat (first | refine seqQ_n ?_ | refine blockQ_n ?_ | refine awp_skip ?_ | refine awp_seq ?_ | refine awp_block ?_)); (conv => whnf)))
  refine APure.to (APure.arg1 subR (refRides_pure n F T)) ?_
  ((conv => whnf); repeat (refine stepK_in ?_; (repeat (first | refine seqQ_n ?_ | refine blockQ_n ?_ | refine awp_skip ?_ | refine awp_seq ?_ | refine awp_block ?_)); (conv => whnf)))
  refine br_eq (fun h0 => ?_) (fun h0 => ?_)
  · have bad : ¬ (okH u ∧ okH w) → V.int 2 = V.int (dayE n F T u w) := fun hb => Qi (by unfold dayE; rw [if_pos h0, if_neg hb])
    unfold okH at bad
    ((conv => whnf); repeat (refine stepK_in ?_; (repeat (first | refine seqQ_n ?_ | refine blockQ_n ?_ | refine awp_skip ?_ | refine awp_seq ?_ | refine awp_block ?_)); (conv => whnf)))
    refine br_dec (fun h1 => ?_) (fun h1 => ?_)
    · ((conv => whnf); repeat (refine stepK_in ?_; (repeat (first | refine seqQ_n ?_ | refine blockQ_n ?_ | refine awp_skip ?_ | refine awp_seq ?_ | refine awp_block ?_)); (conv => whnf)))
      exact ⟨trivial, bad (fun h => by omega)⟩
    ((conv => whnf); repeat (refine stepK_in ?_; (repeat (first | refine seqQ_n ?_ | refine blockQ_n ?_ | refine awp_skip ?_ | refine awp_seq ?_ | refine awp_block ?_)); (conv => whnf)))
    refine br_dec (fun h2 => ?_) (fun h2 => ?_)
    · ((conv => whnf); repeat (refine stepK_in ?_; (repeat (first | refine seqQ_n ?_ | refine blockQ_n ?_ | refine awp_skip ?_ | refine awp_seq ?_ | refine awp_block ?_)); (conv => whnf)))
      exact ⟨trivial, bad (fun h => by omega)⟩
    ((conv => whnf); repeat (refine stepK_in ?_; (repeat (first | refine seqQ_n ?_ | refine blockQ_n ?_ | refine awp_skip ?_ | refine awp_seq ?_ | refine awp_block ?_)); (conv => whnf)))
    refine br_dec (fun h3 => ?_) (fun h3 => ?_)
    · ((conv => whnf); repeat (refine stepK_in ?_; (repeat (first | refine seqQ_n ?_ | refine blockQ_n ?_ | refine awp_skip ?_ | refine awp_seq ?_ | refine awp_block ?_)); (conv => whnf)))
      exact ⟨trivial, bad (fun h => by omega)⟩
    ((conv => whnf); repeat (refine stepK_in ?_; (repeat (first | refine seqQ_n ?_ | refine blockQ_n ?_ | refine awp_skip ?_ | refine awp_seq ?_ | refine awp_block ?_)); (conv => whnf)))
    refine br_dec (fun h4 => ?_) (fun h4 => ?_)
    · ((conv => whnf); repeat (refine stepK_in ?_; (repeat (first | refine seqQ_n ?_ | refine blockQ_n ?_ | refine awp_skip ?_ | refine awp_seq ?_ | refine awp_block ?_)); (conv => whnf)))
      exact ⟨trivial, bad (fun h => by omega)⟩
    ((conv => whnf); repeat (refine stepK_in ?_; (repeat (first | refine seqQ_n ?_ | refine blockQ_n ?_ | refine awp_skip ?_ | refine awp_seq ?_ | refine awp_block ?_)); (conv => whnf)))
    exact ⟨trivial, Qi (by unfold dayE; rw [if_pos h0, if_pos (by unfold okH; omega), h0])⟩
  · ((conv => whnf); repeat (refine stepK_in ?_; (repeat (first | refine seqQ_n ?_ | refine blockQ_n ?_ | refine awp_skip ?_ | refine awp_seq ?_ | refine awp_block ?_)); (conv => whnf)))
    exact ⟨trivial, Qi (by unfold dayE; rw [if_neg h0])⟩

theorem few_pure (n : Nat) (F T : Nat → Int) (o : List Int) : APure Try.prog 14 [ridesV n F T, .ints false o] (fun R => R = .bool (decide (n ≤ 30 ∧ o.length ≤ 30))) := by
  refine APure_of (X := cx 13) (cx_ok 13) rfl (rs := [(.tmp 4, 4)]) Try.func14 (by decide) rfl rfl rfl (by simp [cx]) (nofr2 nofrR (by rfl)) ?_
  intro _
  ((conv => whnf); repeat (refine stepK_in ?_; (repeat (first | refine seqQ_n ?_ | refine blockQ_n ?_ | refine awp_skip ?_ | refine awp_seq ?_ | refine awp_block ?_)); (conv => whnf)))
  refine br_dec (fun h => ?_) (fun h => ?_)
  · ((conv => whnf); repeat (refine stepK_in ?_; (repeat (first | refine seqQ_n ?_ | refine blockQ_n ?_ | refine awp_skip ?_ | refine awp_seq ?_ | refine awp_block ?_)); (conv => whnf)))
    exact ⟨trivial, Qb (decide_eq_decide.2 (by omega))⟩
  · ((conv => whnf); repeat (refine stepK_in ?_; (repeat (first | refine seqQ_n ?_ | refine blockQ_n ?_ | refine awp_skip ?_ | refine awp_seq ?_ | refine awp_block ?_)); (conv => whnf)))
    exact ⟨trivial, Qb (decide_eq_false (by omega)).symm⟩
end Go.Tri
