/-
  LAW: TripCosts.
-/
import Derived.Test.YtknpoobfecceeaaE1
import Derived.Test.YtknpoobfecceeaaB6
namespace Go.Tri
open Go.Proofs

theorem same_pure (a b : List Int) : APure Try.prog 20 [.ints false a, .ints false b] (fun R => R = .bool (decide (a = b))) := by
  refine APure_of (X := cx 26) (cx_ok 26) rfl (rs := [(.tmp 4, 4)]) Try.func20 (by decide) rfl rfl rfl (by simp [cx]) (by simp [NoFr]) ?_
  intro hlen
  have hla : (a.length : Int) ≤ 9223372036854775807 := hlen (.ints false a) (by simp)
  ((conv => whnf); repeat (refine stepK_in ?_; (repeat (first | refine seqQ_n ?_ | refine blockQ_n ?_ | refine awp_skip ?_ | refine awp_seq ?_ | refine awp_block ?_)); (conv => whnf)))
  refine br_ne (fun h => ?_) (fun h => ?_)
  · ((conv => whnf); repeat (refine stepK_in ?_; (repeat (first | refine seqQ_n ?_ | refine blockQ_n ?_ | refine awp_skip ?_ | refine awp_seq ?_ | refine awp_block ?_)); (conv => whnf)))
    refine ⟨trivial, Qb ?_⟩
    have : ¬ a = b := fun e => h (by rw [e])
    simp [this]
  · ((conv => whnf); repeat (refine stepK_in ?_; (repeat (first | refine seqQ_n ?_ | refine blockQ_n ?_ | refine awp_skip ?_ | refine awp_seq ?_ | refine awp_block ?_)); (conv => whnf)))
    have hab : a.length = b.length := by omega
    refine AW_loop (X := cx 26) (cx_ok 26) [0, 1, 5] (fun vs M => ∃ k : Nat, k ≤ a.length ∧ a.take k = b.take k ∧ vs = [.ints false a, .ints false b, .int k] ∧ M = []) (fun vs _ => a.length - (vs.getD 2 .any).toInt.toNat) ?_ ?_
    · exact ⟨0, Nat.zero_le _, rfl, rfl, rfl⟩
    · rintro vs M ⟨k, hk, hkab, rfl, rfl⟩
      ((conv => whnf); repeat (refine stepK_in ?_; (repeat (first | refine seqQ_n ?_ | refine blockQ_n ?_ | refine awp_skip ?_ | refine awp_seq ?_ | refine awp_block ?_)); (conv => whnf)))
      refine br_dec (fun hlt => ?_) (fun hge => ?_)
      · have hk' : k < a.length := by omega
        ((conv => whnf); repeat (refine stepK_in ?_; (repeat (first | refine seqQ_n ?_ | refine blockQ_n ?_ | refine awp_skip ?_ | refine awp_seq ?_ | refine awp_block ?_)); (conv => whnf)))
        refine AW_draw (X := cx 26) (cx_ok 26) mixed (by kernel_rfl) ?_
        ((conv => whnf); repeat (refine stepK_in ?_; (repeat (first | refine seqQ_n ?_ | refine blockQ_n ?_ | refine awp_skip ?_ | refine awp_seq ?_ | refine awp_block ?_)); (conv => whnf)))
        repeat ((first | refine ⟨by omega, ?_⟩ | refine ⟨inr (by omega), ?_⟩ | refine eqn_self ?_ | refine ⟨ms (by omega), ?_⟩ | refine ⟨ms (by simp only [Src.n]; omega), ?_⟩ | refine ⟨msk (by omega), ?_⟩ | refine ⟨ms1, ?_⟩); ((conv => whnf); repeat (refine stepK_in ?_; (repeat (first | refine seqQ_n ?_ | refine blockQ_n ?_ | refine awp_skip ?_ | refine awp_seq ?_ | refine awp_block ?_)); (conv => whnf))))
        refine br_ne (fun h => ?_) (fun h => ?_)
        · ((conv => whnf); repeat (refine stepK_in ?_; (repeat (first | refine seqQ_n ?_ | refine blockQ_n ?_ | refine awp_skip ?_ | refine awp_seq ?_ | refine awp_block ?_)); (conv => whnf)))
          refine ⟨trivial, Qb ?_⟩
          have : ¬ a = b := fun e => h (by rw [e])
          simp [this]
        · ((conv => whnf); repeat (refine stepK_in ?_; (repeat (first | refine seqQ_n ?_ | refine blockQ_n ?_ | refine awp_skip ?_ | refine awp_seq ?_ | refine awp_block ?_)); (conv => whnf)))
          repeat ((first | refine ⟨by omega, ?_⟩ | refine ⟨inr (by omega), ?_⟩ | refine eqn_self ?_ | refine ⟨ms (by omega), ?_⟩ | refine ⟨ms (by simp only [Src.n]; omega), ?_⟩ | refine ⟨msk (by omega), ?_⟩ | refine ⟨ms1, ?_⟩); ((conv => whnf); repeat (refine stepK_in ?_; (repeat (first | refine seqQ_n ?_ | refine blockQ_n ?_ | refine awp_skip ?_ | refine awp_seq ?_ | refine awp_block ?_)); (conv => whnf))))
          refine ⟨⟨k + 1, by omega, ?_, rfl, rfl⟩, ?_⟩
          · rw [take_succ_getD _ _ hk', take_succ_getD _ _ (by omega), hkab]
            simp only [Int.toNat_natCast] at h
            rw [h]
          · simp [V.toInt, sel, Env.get]; omega
      · ((conv => whnf); repeat (refine stepK_in ?_; (repeat (first | refine seqQ_n ?_ | refine blockQ_n ?_ | refine awp_skip ?_ | refine awp_seq ?_ | refine awp_block ?_)); (conv => whnf)))
        refine ⟨trivial, Qb ?_⟩
        rw [take_len (by omega), take_len (by omega)] at hkab
        simp [hkab]


theorem subO {M : Mem} {d n : Nat} {F T : Nat → Int} : Sub (.seq false 2 n fun j k => byvalN M (d + 1) (rd F T (0 + j) k)) (ridesV n F T) := by
  refine sub_seq fun j k _ hk => ?_
  rw [Nat.zero_add]
  rcases (by omega : k = 0 ∨ k = 1) with rfl | rfl <;> exact Sub.refl _
theorem nofrT {n : Nat} {F T : Nat → Int} {u w i k : Int} {O : List Int} : ∀ x ∈ [ridesV n F T, slopeV u w, .ints false O, slopeV i k], NoFr x := nofr4 (a := ridesV n F T) (b := slopeV u w) (c := .ints false O) (d := slopeV i k) nofrR nofrS rfl nofrS
set_option maxRecDepth 100000 in
theorem TripCosts_pure (n : Nat) (F T : Nat → Int) (u w : Int) (O : List Int) (i k : Int) : APure Try.prog 3 [ridesV n F T, slopeV u w, .ints false O, slopeV i k] (fun R => R = .bool true) := by
  refine APure_of (X := cx 102) (cx_ok 102) rfl (rs := [(.tmp 8, 4)]) Try.func3 (by decide) rfl rfl rfl (by simp [cx]) nofrT ?_
  intro _
  have fin : APure Try.prog 15 [] (fun R => R = .bool true) := alive_pure
  have hfew := few_pure n F T O
  have hO' : (O.drop 0).take O.length = O := by simp
  have hC : APure Try.prog 16 [ridesV n F T, slopeV u w, .ints false ((O.drop 0).take O.length)] (fun R => R = tup2 (.int (cosC n F T u w O)) (.int (cosE n F T u w O))) := by rw [hO']; exact Cost_pure n F T u w O
  have hC' := refCost_pure n F T u w O
  have hE := Empty_pure n F T u w i k
  have hE' := refEmpty_pure n F T u w i k
  have hS : APure Try.prog 20 [.ints false ((O.drop 0).take O.length), .ints false O] (fun R => R = .bool true) := by
    have := same_pure O O
    rw [hO']
    simpa using this
  generalize cosC n F T u w O = c1 at *
  generalize cosE n F T u w O = c2 at *
  generalize wayC n F T u w i k = w1 at *
  generalize wayE n F T u w i k = w2 at *
  ((conv => whnf); repeat (refine stepK_in ?_; (repeat (first | refine seqQ_n ?_ | refine blockQ_n ?_ | refine awp_skip ?_ | refine awp_seq ?_ | refine awp_block ?_)); (conv => whnf)))
  refine AW_draw (X := cx 102) (cx_ok 102) mixed (by kernel_rfl) ?_
  ((conv => whnf); repeat (refine stepK_in ?_; (repeat (first | refine seqQ_n ?_ | refine blockQ_n ?_ | refine awp_skip ?_ | refine awp_seq ?_ | refine awp_block ?_)); (conv => whnf)))
  refine APure.to (APure.arg2 subR (Sub.refl _) hfew) ?_
  by_cases h30 : n ≤ 30 ∧ O.length ≤ 30
  · rw [decide_eq_true h30]
    ((conv => whnf); repeat (refine stepK_in ?_; (repeat (first | refine seqQ_n ?_ | refine blockQ_n ?_ | refine awp_skip ?_ | refine awp_seq ?_ | refine awp_block ?_)); (conv => whnf)))
    refine ⟨(show (16 : Int) * (n : Int) ≤ 140737488355328 by omega), ?_⟩
    ((conv => whnf); repeat (refine stepK_in ?_; (repeat (first | refine seqQ_n ?_ | refine blockQ_n ?_ | refine awp_skip ?_ | refine awp_seq ?_ | refine awp_block ?_)); (conv => whnf)))
    refine ⟨(show (8 : Int) * (O.length : Int) ≤ 140737488355328 by omega), ?_⟩
    ((conv => whnf); repeat (refine stepK_in ?_; (repeat (first | refine seqQ_n ?_ | refine blockQ_n ?_ | refine awp_skip ?_ | refine awp_seq ?_ | refine awp_block ?_)); (conv => whnf)))
    refine APure.to (APure.arg3 subO (subS1 rfl rfl) (Sub.refl _) hC) ?_
    ((conv => whnf); repeat (refine stepK_in ?_; (repeat (first | refine seqQ_n ?_ | refine blockQ_n ?_ | refine awp_skip ?_ | refine awp_seq ?_ | refine awp_block ?_)); (conv => whnf)))
    refine APure.to (APure.arg3 subR (subS1 rfl rfl) (Sub.refl _) hC') ?_
    ((conv => whnf); repeat (refine stepK_in ?_; (repeat (first | refine seqQ_n ?_ | refine blockQ_n ?_ | refine awp_skip ?_ | refine awp_seq ?_ | refine awp_block ?_)); (conv => whnf)))
    refine br_ne (fun h => absurd rfl h) (fun _ => ?_)
    ((conv => whnf); repeat (refine stepK_in ?_; (repeat (first | refine seqQ_n ?_ | refine blockQ_n ?_ | refine awp_skip ?_ | refine awp_seq ?_ | refine awp_block ?_)); (conv => whnf)))
    refine br_ne (fun h => absurd rfl h) (fun _ => ?_)
    ((conv => whnf); repeat (refine stepK_in ?_; (repeat (first | refine seqQ_n ?_ | refine blockQ_n ?_ | refine awp_skip ?_ | refine awp_seq ?_ | refine awp_block ?_)); (conv => whnf)))
    refine APure.to (APure.arg4 subO (subS1 rfl rfl) (Sub.refl _) (Sub.refl _) hE) ?_
    ((conv => whnf); repeat (refine stepK_in ?_; (repeat (first | refine seqQ_n ?_ | refine blockQ_n ?_ | refine awp_skip ?_ | refine awp_seq ?_ | refine awp_block ?_)); (conv => whnf)))
    refine APure.to (APure.arg4 subR (subS1 rfl rfl) (Sub.refl _) (Sub.refl _) hE') ?_
    ((conv => whnf); repeat (refine stepK_in ?_; (repeat (first | refine seqQ_n ?_ | refine blockQ_n ?_ | refine awp_skip ?_ | refine awp_seq ?_ | refine awp_block ?_)); (conv => whnf)))
    refine AW_loop (X := cx 102) (cx_ok 102) [0, 2, 11, 12, 13, 14, 15, 16, 17] (fun vs M => ∃ k : Nat, k ≤ n ∧ vs = [ridesV n F T, .ints false O, .sl 2 0 0 n, .sl 3 0 0 O.length, .int w1, .int w2, .int w1, .int w2, .int k] ∧ ∃ o1 o2, M = [o1, o2, some ⟨35, 2, 0, .cv n (rd F T)⟩, some ⟨3, 1, 0, .il O⟩])
      (fun vs _ => n - (vs.getD 8 .any).toInt.toNat) ?_ ?_
    · exact ⟨0, Nat.zero_le _, rfl, _, _, rfl⟩
    rintro vs M ⟨k, hk, rfl, o1, o2, rfl⟩
    ((conv => whnf); repeat (refine stepK_in ?_; (repeat (first | refine seqQ_n ?_ | refine blockQ_n ?_ | refine awp_skip ?_ | refine awp_seq ?_ | refine awp_block ?_)); (conv => whnf)))
    refine br_dec (fun hlt => ?_) (fun hge => ?_)
    · have hk' : k < n := by omega
      ((conv => whnf); repeat (refine stepK_in ?_; (repeat (first | refine seqQ_n ?_ | refine blockQ_n ?_ | refine awp_skip ?_ | refine awp_seq ?_ | refine awp_block ?_)); (conv => whnf)))
      refine AW_draw (X := cx 102) (cx_ok 102) mixed (by kernel_rfl) ?_
      ((conv => whnf); repeat (refine stepK_in ?_; (repeat (first | refine seqQ_n ?_ | refine blockQ_n ?_ | refine awp_skip ?_ | refine awp_seq ?_ | refine awp_block ?_)); (conv => whnf)))
      repeat (refine ⟨by omega, ?_⟩; ((conv => whnf); repeat (refine stepK_in ?_; (repeat (first | refine seqQ_n ?_ | refine blockQ_n ?_ | refine awp_skip ?_ | refine awp_seq ?_ | refine awp_block ?_)); (conv => whnf))))
      have hb : (!(F (0 + (k : Int).toNat) == F (k : Int).toNat && (T (0 + (k : Int).toNat) == T (k : Int).toNat && true))) = false := by simp
      rw [hb]
      ((conv => whnf); repeat (refine stepK_in ?_; (repeat (first | refine seqQ_n ?_ | refine blockQ_n ?_ | refine awp_skip ?_ | refine awp_seq ?_ | refine awp_block ?_)); (conv => whnf)))
      refine ⟨inr (by omega), ?_⟩
      ((conv => whnf); repeat (refine stepK_in ?_; (repeat (first | refine seqQ_n ?_ | refine blockQ_n ?_ | refine awp_skip ?_ | refine awp_seq ?_ | refine awp_block ?_)); (conv => whnf)))
      refine ⟨⟨k + 1, by omega, rfl, _, _, rfl⟩, ?_⟩
      simp [V.toInt, sel, Env.get]; omega
    · ((conv => whnf); repeat (refine stepK_in ?_; (repeat (first | refine seqQ_n ?_ | refine blockQ_n ?_ | refine awp_skip ?_ | refine awp_seq ?_ | refine awp_block ?_)); (conv => whnf)))
      refine br_eq (fun _ => ?_) (fun h => absurd rfl h)
      ((conv => whnf); repeat (refine stepK_in ?_; (repeat (first | refine seqQ_n ?_ | refine blockQ_n ?_ | refine awp_skip ?_ | refine awp_seq ?_ | refine awp_block ?_)); (conv => whnf)))
      refine br_eq (fun _ => ?_) (fun h => absurd rfl h)
      ((conv => whnf); repeat (refine stepK_in ?_; (repeat (first | refine seqQ_n ?_ | refine blockQ_n ?_ | refine awp_skip ?_ | refine awp_seq ?_ | refine awp_block ?_)); (conv => whnf)))
      refine APure.to hS ?_
      ((conv => whnf); repeat (refine stepK_in ?_; (repeat (first | refine seqQ_n ?_ | refine blockQ_n ?_ | refine awp_skip ?_ | refine awp_seq ?_ | refine awp_block ?_)); (conv => whnf)))
      refine APure.to fin ?_
      ((conv => whnf); repeat (refine stepK_in ?_; (repeat (first | refine seqQ_n ?_ | refine blockQ_n ?_ | refine awp_skip ?_ | refine awp_seq ?_ | refine awp_block ?_)); (conv => whnf)))
      exact ⟨trivial, rfl⟩
  · rw [decide_eq_false h30]
    ((conv => whnf); repeat (refine stepK_in ?_; (repeat (first | refine seqQ_n ?_ | refine blockQ_n ?_ | refine awp_skip ?_ | refine awp_seq ?_ | refine awp_block ?_)); (conv => whnf)))
    refine APure.to fin ?_
    ((conv => whnf); repeat (refine stepK_in ?_; (repeat (first | refine seqQ_n ?_ | refine blockQ_n ?_ | refine awp_skip ?_ | refine awp_seq ?_ | refine awp_block ?_)); (conv => whnf)))
    exact ⟨trivial, rfl⟩
end Go.Tri
