/-
  CONTRACTS: the rides in the order of a height; hills and days.
-/
import Derived.Test.YtknpoobfecceeaaB2
namespace Go.Tri
open Go.Proofs

theorem stable_cm {n : Nat} {F T : Nat → Int} {g : FuncId} {κ : Nat → Int} (hg : KeyIs n F T g κ) (xs : List Int) (hx : ∀ y ∈ xs, 0 ≤ y ∧ y < n) (h1 : 1 ≤ xs.length) (h2 : xs.length ≤ 9) :
    ACM Try.prog 88 [.sl 2 0 0 xs.length, .int xs.length, cmpV] [some (boxR n F T), some (boxH g), some ⟨3, 1, 0, .il xs⟩]
      (fun _ M' => M' = [some (boxR n F T), some (boxH g), some ⟨3, 1, 0, .il (sortP (ltK κ) xs xs.length)⟩]) := by
  refine ACM_of (T := tab) (wr := wrL) tab_ok Try.func88 (by decide) rfl (Nat.le_of_ble_eq_true rfl) (fun nb => ?_)
  ((conv => whnf); repeat (refine stepK_in ?_; (repeat (first | refine seqQ_n ?_ | refine blockQ_n ?_ | refine awp_skip ?_ | refine awp_seq ?_ | refine awp_block ?_)); (conv => whnf)))
  refine AW_loop (X := ⟨Try.prog, tab, wrL, 63, nb, false⟩) tab_ok [0, 1, 2, 6, 7, 8] (fun vs M => vs = [.sl 2 0 0 xs.length, .int xs.length, cmpV, .int 20, .int 0, .int 20] ∧ M = [some (boxR n F T), some (boxH g), some ⟨3, 1, 0, .il xs⟩]) (fun _ _ => 0) ?_ ?_
  · exact ⟨rfl, rfl⟩
  rintro vs M ⟨rfl, rfl⟩
  ((conv => whnf); repeat (refine stepK_in ?_; (repeat (first | refine seqQ_n ?_ | refine blockQ_n ?_ | refine awp_skip ?_ | refine awp_seq ?_ | refine awp_block ?_)); (conv => whnf)))
  refine br_dec (fun h => absurd h (by omega)) (fun _ => ?_)
  ((conv => whnf); repeat (refine stepK_in ?_; (repeat (first | refine seqQ_n ?_ | refine blockQ_n ?_ | refine awp_skip ?_ | refine awp_seq ?_ | refine awp_block ?_)); (conv => whnf)))
  refine (insertion_cm hg xs hx h1 (by omega)).mono ?_
  rintro R M' rfl
  ((conv => whnf); repeat (refine stepK_in ?_; (repeat (first | refine seqQ_n ?_ | refine blockQ_n ?_ | refine awp_skip ?_ | refine awp_seq ?_ | refine awp_block ?_)); (conv => whnf)))
  refine AW_loop (X := ⟨Try.prog, tab, wrL, 63, nb, false⟩) tab_ok [0, 1, 2, 6] (fun vs M => vs = [.sl 2 0 0 xs.length, .int xs.length, cmpV, .int 20] ∧ M = [some (boxR n F T), some (boxH g), some ⟨3, 1, 0, .il (sortP (ltK κ) xs xs.length)⟩]) (fun _ _ => 0) ?_ ?_
  · exact ⟨rfl, rfl⟩
  rintro vs M ⟨rfl, rfl⟩
  ((conv => whnf); repeat (refine stepK_in ?_; (repeat (first | refine seqQ_n ?_ | refine blockQ_n ?_ | refine awp_skip ?_ | refine awp_seq ?_ | refine awp_block ?_)); (conv => whnf)))
  refine br_dec (fun h => absurd h (by omega)) (fun _ => ?_)
  ((conv => whnf); repeat (refine stepK_in ?_; (repeat (first | refine seqQ_n ?_ | refine blockQ_n ?_ | refine awp_skip ?_ | refine awp_seq ?_ | refine awp_block ?_)); (conv => whnf)))
  exact ⟨_, rfl, rfl⟩

theorem sortStable_cm {n : Nat} {F T : Nat → Int} {g : FuncId} {κ : Nat → Int} (hg : KeyIs n F T g κ) (xs : List Int) (hx : ∀ y ∈ xs, 0 ≤ y ∧ y < n) (h1 : 1 ≤ xs.length) (h2 : xs.length ≤ 9) :
    ACM Try.prog 78 [.sl 2 0 0 xs.length, cmpV] [some (boxR n F T), some (boxH g), some ⟨3, 1, 0, .il xs⟩]
      (fun _ M' => M' = [some (boxR n F T), some (boxH g), some ⟨3, 1, 0, .il (sortP (ltK κ) xs xs.length)⟩]) := by
  refine ACM_of (T := tab) (wr := wrL) tab_ok Try.func78 (by decide) rfl (Nat.le_of_ble_eq_true rfl) (fun nb => ?_)
  ((conv => whnf); repeat (refine stepK_in ?_; (repeat (first | refine seqQ_n ?_ | refine blockQ_n ?_ | refine awp_skip ?_ | refine awp_seq ?_ | refine awp_block ?_)); (conv => whnf)))
  repeat ((refine eqn_self ?_); ((conv => whnf); repeat (refine stepK_in ?_; (repeat (first | refine seqQ_n ?_ | refine blockQ_n ?_ | refine awp_skip ?_ | refine awp_seq ?_ | refine awp_block ?_)); (conv => whnf))))
  refine (stable_cm hg xs hx h1 h2).mono ?_
  rintro R M' rfl
  ((conv => whnf); repeat (refine stepK_in ?_; (repeat (first | refine seqQ_n ?_ | refine blockQ_n ?_ | refine awp_skip ?_ | refine awp_seq ?_ | refine awp_block ?_)); (conv => whnf)))
  exact ⟨_, rfl, rfl⟩

theorem indices_cm (o0 o1 : Ob) (n : Nat) (hn : n ≤ 1000) : ACM Try.prog 69 [.int n] [some o0, some o1] (fun R M' => R = .sl 2 0 0 n ∧ M' = [some o0, some o1, some ⟨3, 1, 0, .il (idxL n)⟩]) := by
  refine ACM_of (T := tab) (wr := wrL) tab_ok Try.func69 (by decide) rfl (Nat.le_of_ble_eq_true rfl) (fun nb => ?_)
  ((conv => whnf); repeat (refine stepK_in ?_; (repeat (first | refine seqQ_n ?_ | refine blockQ_n ?_ | refine awp_skip ?_ | refine awp_seq ?_ | refine awp_block ?_)); (conv => whnf)))
  refine ⟨by omega, ?_⟩
  ((conv => whnf); repeat (refine stepK_in ?_; (repeat (first | refine seqQ_n ?_ | refine blockQ_n ?_ | refine awp_skip ?_ | refine awp_seq ?_ | refine awp_block ?_)); (conv => whnf)))
  refine ⟨by omega, ?_⟩
  ((conv => whnf); repeat (refine stepK_in ?_; (repeat (first | refine seqQ_n ?_ | refine blockQ_n ?_ | refine awp_skip ?_ | refine awp_seq ?_ | refine awp_block ?_)); (conv => whnf)))
  refine ⟨(show (8 : Int) * (n : Int) ≤ 140737488355328 by omega), ?_⟩
  rw [Int.toNat_natCast]
  ((conv => whnf); repeat (refine stepK_in ?_; (repeat (first | refine seqQ_n ?_ | refine blockQ_n ?_ | refine awp_skip ?_ | refine awp_seq ?_ | refine awp_block ?_)); (conv => whnf)))
  refine AW_loop (X := ⟨Try.prog, tab, wrL, 18, nb, false⟩) tab_ok [3, 8, 9] (fun vs M => ∃ k : Nat, k ≤ n ∧ vs = [.sl 2 0 0 n, .int n, .int k] ∧ M = [some o0, some o1, some ⟨3, 1, 0, .il (idxL k ++ List.replicate (n - k) 0)⟩]) (fun vs _ => n - (vs.getD 2 .any).toInt.toNat) ?_ ?_
  · exact ⟨0, Nat.zero_le _, rfl, rfl⟩
  rintro vs M ⟨k, hk, rfl, rfl⟩
  ((conv => whnf); repeat (refine stepK_in ?_; (repeat (first | refine seqQ_n ?_ | refine blockQ_n ?_ | refine awp_skip ?_ | refine awp_seq ?_ | refine awp_block ?_)); (conv => whnf)))
  refine br_dec (fun hlt => ?_) (fun hge => ?_)
  · have hk' : k < n := by omega
    have hset : ∀ p : Nat, p = k → (idxL k ++ List.replicate (n - k) 0).set p (k : Int) = idxL (k + 1) ++ List.replicate (n - (k + 1)) 0 := by
      intro p hp
      rw [hp, idxL_succ, show n - k = (n - (k + 1)) + 1 from by omega, List.replicate_succ, List.set_append_right _ _ (by rw [idxL_len]; exact Nat.le_refl _), idxL_len]
      simp
    ((conv => whnf); repeat (refine stepK_in ?_; (repeat (first | refine seqQ_n ?_ | refine blockQ_n ?_ | refine awp_skip ?_ | refine awp_seq ?_ | refine awp_block ?_)); (conv => whnf)))
    repeat ((first | refine ⟨by omega, ?_⟩ | refine ⟨inr (by omega), ?_⟩); ((conv => whnf); repeat (refine stepK_in ?_; (repeat (first | refine seqQ_n ?_ | refine blockQ_n ?_ | refine awp_skip ?_ | refine awp_seq ?_ | refine awp_block ?_)); (conv => whnf))))
    refine ⟨⟨k + 1, by omega, rfl, congrArg (fun l => [some o0, some o1, some (⟨3, 1, 0, .il l⟩ : Ob)]) (hset _ (by omega))⟩, ?_⟩
    simp [V.toInt, sel, Env.get]; omega
  · obtain rfl : k = n := by omega
    ((conv => whnf); repeat (refine stepK_in ?_; (repeat (first | refine seqQ_n ?_ | refine blockQ_n ?_ | refine awp_skip ?_ | refine awp_seq ?_ | refine awp_block ?_)); (conv => whnf)))
    refine ⟨_, rfl, rfl, ?_⟩
    simp

/-- The rides in the order of a height. -/
def ordL (κ : Nat → Int) (n : Nat) : List Int := sortP (ltK κ) (idxL n) n
theorem ordL_len (κ : Nat → Int) (n : Nat) : (ordL κ n).length = n := sortP_len _ _ _
theorem ordL_mem {κ : Nat → Int} {n : Nat} {y : Int} (h : y ∈ ordL κ n) : 0 ≤ y ∧ y < n := idxL_mem (sortP_mem (by rw [idxL_len]; exact Nat.le_refl _) h)
theorem nofrSo {n : Nat} {F T : Nat → Int} {g : FuncId} : ∀ x ∈ [ridesV n F T, cloV g], NoFr x := nofr2 nofrR nofrC

theorem sorted_pure {n : Nat} {F T : Nat → Int} {g : FuncId} {κ : Nat → Int} (hg : KeyIs n F T g κ) (h1 : 1 ≤ n) (h2 : n ≤ 9) : APure Try.prog 64 [ridesV n F T, cloV g] (fun R => R = .ints true (ordL κ n)) := by
  refine APure_of (X := ⟨Try.prog, tab, wrL, 13, 0, false⟩) tab_ok rfl (rs := [(.tmp 4, 25)]) Try.func64 (by decide) rfl rfl rfl (by simp) nofrSo ?_
  intro hlen
  ((conv => whnf); repeat (refine stepK_in ?_; (repeat (first | refine seqQ_n ?_ | refine blockQ_n ?_ | refine awp_skip ?_ | refine awp_seq ?_ | refine awp_block ?_)); (conv => whnf)))
  refine (indices_cm _ _ n (by omega)).mono ?_
  rintro R M' ⟨rfl, rfl⟩
  ((conv => whnf); repeat (refine stepK_in ?_; (repeat (first | refine seqQ_n ?_ | refine blockQ_n ?_ | refine awp_skip ?_ | refine awp_seq ?_ | refine awp_block ?_)); (conv => whnf)))
  have hs := sortStable_cm hg (idxL n) (fun y hy => idxL_mem hy) (by rw [idxL_len]; exact h1) (by rw [idxL_len]; exact h2)
  rw [idxL_len] at hs
  refine hs.mono ?_
  rintro R M' rfl
  ((conv => whnf); repeat (refine stepK_in ?_; (repeat (first | refine seqQ_n ?_ | refine blockQ_n ?_ | refine awp_skip ?_ | refine awp_seq ?_ | refine awp_block ?_)); (conv => whnf)))
  refine ⟨rfl, Ql ?_⟩
  show ((sortP (ltK κ) (idxL n) n).drop 0).take n = ordL κ n
  rw [List.drop_zero, List.take_of_length_le (by rw [sortP_len]; exact Nat.le_refl _)]
  rfl

/-! Hills, and days. -/
@[reducible] def hillsV (n : Nat) (F T : Nat → Int) : V := .agg 3 fun k => ([ridesV n F T, .ints true (ordL T n), .ints true (ordL F n)] : List V).getD (0 + k) .any
theorem newHills_acm {n : Nat} {F T : Nat → Int} (h1 : 1 ≤ n) (h2 : n ≤ 9) (M : Mem) : ACM Try.prog 52 [ridesV n F T] M (fun R M' => R = hillsV n F T ∧ ∀ t, t < M.length → M'.get t = M.get t) := by
  refine ACM_of (T := tab) (wr := wrL) tab_ok Try.func52 (by decide) rfl (Nat.le_of_ble_eq_true rfl) (fun nb => ?_)
  ((conv => whnf); repeat (refine stepK_in ?_; (repeat (first | refine seqQ_n ?_ | refine blockQ_n ?_ | refine awp_skip ?_ | refine awp_seq ?_ | refine awp_block ?_)); (conv => whnf)))
  rw [forceNP_eq]
  ((conv => whnf); repeat (refine stepK_in ?_; (repeat (first | refine seqQ_n ?_ | refine blockQ_n ?_ | refine awp_skip ?_ | refine awp_seq ?_ | refine awp_block ?_)); (conv => whnf)))
  rw [forceM_eq]
  ((conv => whnf); repeat (refine stepK_in ?_; (repeat (first | refine seqQ_n ?_ | refine blockQ_n ?_ | refine awp_skip ?_ | refine awp_seq ?_ | refine awp_block ?_)); (conv => whnf)))
  have hT := sorted_pure (keyTo n F T) h1 h2
  have hF := sorted_pure (keyFrom n F T) h1 h2
  refine APure.to (APure.arg2 subR (Sub.refl _) hT) ?_
  ((conv => whnf); repeat (refine stepK_in ?_; (repeat (first | refine seqQ_n ?_ | refine blockQ_n ?_ | refine awp_skip ?_ | refine awp_seq ?_ | refine awp_block ?_)); (conv => whnf)))
  refine APure.to (APure.arg2 subR (Sub.refl _) hF) ?_
  ((conv => whnf); repeat (refine stepK_in ?_; (repeat (first | refine seqQ_n ?_ | refine blockQ_n ?_ | refine awp_skip ?_ | refine awp_seq ?_ | refine awp_block ?_)); (conv => whnf)))
  refine stepO (by exact aop_storeC rfl (Mem.get_put_same _ _ _) rfl) ?_
  ((conv => whnf); repeat (refine stepK_in ?_; (repeat (first | refine seqQ_n ?_ | refine blockQ_n ?_ | refine awp_skip ?_ | refine awp_seq ?_ | refine awp_block ?_)); (conv => whnf)))
  rw [forceM_eq]
  ((conv => whnf); repeat (refine stepK_in ?_; (repeat (first | refine seqQ_n ?_ | refine blockQ_n ?_ | refine awp_skip ?_ | refine awp_seq ?_ | refine awp_block ?_)); (conv => whnf)))
  refine ⟨_, finM_agg rfl (Mem.get_put_same _ _ _) rfl, rfl, fun t ht => ?_⟩
  rw [Mem.get_put_other _ (by omega), Mem.get_put_other _ (by omega)]
theorem named3 {n : Nat} {F T : Nat → Int} (kp : Nat → Bool) : Named kp (hillsV n F T) := fun k hk => by
  rcases (by omega : k = 0 ∨ k = 1 ∨ k = 2) with rfl | rfl | rfl
  · exact namedR
  · trivial
  · trivial
theorem newHills_imm {n : Nat} {F T : Nat → Int} (h1 : 1 ≤ n) (h2 : n ≤ 9) : AImm Try.prog 52 [ridesV n F T] (fun R => R = hillsV n F T) := AImm_of named3 (newHills_acm h1 h2)

@[reducible] def dayV (n : Nat) (F T : Nat → Int) (u w : Int) : V := .agg 5 fun k => ([ridesV n F T, .ints true (ordL T n), .ints true (ordL F n), .int u, .int w] : List V).getD (0 + k) .any
theorem newDay_acm {n : Nat} {F T : Nat → Int} {u w : Int} (h1 : 1 ≤ n) (h2 : n ≤ 9) (M : Mem) : ACM Try.prog 40 [ridesV n F T, slopeV u w] M (fun R M' => R = dayV n F T u w ∧ ∀ t, t < M.length → M'.get t = M.get t) := by
  refine ACM_of (T := tab) (wr := wrL) tab_ok Try.func40 (by decide) rfl (Nat.le_of_ble_eq_true rfl) (fun nb => ?_)
  ((conv => whnf); repeat (refine stepK_in ?_; (repeat (first | refine seqQ_n ?_ | refine blockQ_n ?_ | refine awp_skip ?_ | refine awp_seq ?_ | refine awp_block ?_)); (conv => whnf)))
  rw [forceNP_eq]
  ((conv => whnf); repeat (refine stepK_in ?_; (repeat (first | refine seqQ_n ?_ | refine blockQ_n ?_ | refine awp_skip ?_ | refine awp_seq ?_ | refine awp_block ?_)); (conv => whnf)))
  rw [forceM_eq]
  ((conv => whnf); repeat (refine stepK_in ?_; (repeat (first | refine seqQ_n ?_ | refine blockQ_n ?_ | refine awp_skip ?_ | refine awp_seq ?_ | refine awp_block ?_)); (conv => whnf)))
  rw [forceNP_eq]
  ((conv => whnf); repeat (refine stepK_in ?_; (repeat (first | refine seqQ_n ?_ | refine blockQ_n ?_ | refine awp_skip ?_ | refine awp_seq ?_ | refine awp_block ?_)); (conv => whnf)))
  rw [forceM_eq]
  ((conv => whnf); repeat (refine stepK_in ?_; (repeat (first | refine seqQ_n ?_ | refine blockQ_n ?_ | refine awp_skip ?_ | refine awp_seq ?_ | refine awp_block ?_)); (conv => whnf)))
  refine AW_draw (X := ⟨Try.prog, tab, wrL, 9, nb, false⟩) tab_ok mixed (by kernel_rfl) ?_
  ((conv => whnf); repeat (refine stepK_in ?_; (repeat (first | refine seqQ_n ?_ | refine blockQ_n ?_ | refine awp_skip ?_ | refine awp_seq ?_ | refine awp_block ?_)); (conv => whnf)))
  refine ⟨hillsV n F T, newHills_imm h1 h2, ?_⟩
  ((conv => whnf); repeat (refine stepK_in ?_; (repeat (first | refine seqQ_n ?_ | refine blockQ_n ?_ | refine awp_skip ?_ | refine awp_seq ?_ | refine awp_block ?_)); (conv => whnf)))
  refine stepO (by exact aop_load rfl get_new2 rfl) ?_
  ((conv => whnf); repeat (refine stepK_in ?_; (repeat (first | refine seqQ_n ?_ | refine blockQ_n ?_ | refine awp_skip ?_ | refine awp_seq ?_ | refine awp_block ?_)); (conv => whnf)))
  refine stepO (by exact aop_storeC rfl (Mem.get_put_same _ _ _) rfl) ?_
  ((conv => whnf); repeat (refine stepK_in ?_; (repeat (first | refine seqQ_n ?_ | refine blockQ_n ?_ | refine awp_skip ?_ | refine awp_seq ?_ | refine awp_block ?_)); (conv => whnf)))
  rw [forceM_eq]
  ((conv => whnf); repeat (refine stepK_in ?_; (repeat (first | refine seqQ_n ?_ | refine blockQ_n ?_ | refine awp_skip ?_ | refine awp_seq ?_ | refine awp_block ?_)); (conv => whnf)))
  refine ⟨_, finM_agg rfl (Mem.get_put_same _ _ _) rfl, ?_, fun t ht => ?_⟩
  · rfl
  · rw [Mem.get_put_other _ (by rw [put_len]; omega), Mem.get_put_other _ (by rw [put_len]; omega), Mem.get_put_other _ (by omega)]
theorem named5 {n : Nat} {F T : Nat → Int} {u w : Int} (kp : Nat → Bool) : Named kp (dayV n F T u w) := fun k hk => by
  rcases (by omega : k = 0 ∨ k = 1 ∨ k = 2 ∨ k = 3 ∨ k = 4) with rfl | rfl | rfl | rfl | rfl
  · exact namedR
  · trivial
  · trivial
  · trivial
  · trivial
theorem newDay_imm {n : Nat} {F T : Nat → Int} {u w : Int} (h1 : 1 ≤ n) (h2 : n ≤ 9) : AImm Try.prog 40 [ridesV n F T, slopeV u w] (fun R => R = dayV n F T u w) := AImm_of named5 (newDay_acm h1 h2)
end Go.Tri
