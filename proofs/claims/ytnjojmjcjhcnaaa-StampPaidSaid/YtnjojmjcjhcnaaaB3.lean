/-
  CONTRACTS: slices.Backward: what it makes, and a walk backwards, over any memory.
-/
import Derived.Test.YtnjojmjcjhcnaaaB2
namespace Go.Tri
open Go.Proofs

theorem ACM_xs {P : Program} {f : FuncId} {xs ys : List V} {M : Mem} {Q : V → Mem → Prop} (h : xs = ys) (hy : ACM P f ys M Q) : ACM P f xs M Q := h ▸ hy
/-- The box of a slice. -/
@[reducible] def boxOb (xs : List Int) : Ob := ⟨22, 1, 0, .one [.ints false xs]⟩
theorem back_cm (xs : List Int) (M : Mem) : ACM Try.prog 61 [.ints false xs] M (fun R M' => R = .clo 72 1 (fun i => ([V.ptr M.length 0 0 0]).getD i .any) ∧ M' = M.put M.length (boxOb xs)) := by
  refine ACM_of (T := tab) (wr := wrL) tab_ok Try.func61 (by decide) rfl (Nat.le_of_ble_eq_true rfl) (fun nb => ?_)
  conv => whnf
  rw [forceNP_eq]
  conv => whnf
  rw [forceM_eq]
  conv => whnf
  exact ⟨_, rfl, rfl, rfl⟩

theorem backs_cm (xs : List Int) (hx : (xs.length : Int) ≤ 9223372036854775807) (b t : Nat) (I : Nat → Mem → Prop) (D : Mem → Prop) (hb : ∀ k M, I k M → M.get b = some (boxOb xs))
    (hy : ∀ k M, k < xs.length → I (k + 1) M → YW Try.prog t [.int k, .int (xs.getD k 0)] M (fun R M' => (R = .bool true ∧ I k M') ∨ (R = .bool false ∧ D M')))
    (M : Mem) (h0 : I xs.length M) : ACM Try.prog 72 [.yld t, .ptr b 0 0 0] M (fun _ M' => I 0 M' ∨ D M') := by
  refine ACM_of (T := tab) (wr := wrL) tab_ok Try.func72 (by decide) rfl (Nat.le_of_ble_eq_true rfl) (fun nb => ?_)
  have hb0 := hb _ _ h0
  conv => whnf
  refine stepO (by exact aop_load rfl hb0 rfl) ?_
  conv => whnf
  repeat ((first | refine ⟨by omega, ?_⟩ | refine ⟨inr (by omega), ?_⟩ | refine eqn_self ?_ | refine ⟨ms (by omega), ?_⟩ | refine ⟨ms (by simp only [Src.n]; omega), ?_⟩ | refine ⟨msk (by omega), ?_⟩ | refine ⟨ms1, ?_⟩); conv => whnf)
  refine AW_loop (X := ⟨Try.prog, tab, wrL, 19, nb, false⟩) tab_ok [0, 1, 3] (fun vs M => ∃ k : Nat, k ≤ xs.length ∧ I k M ∧ vs = [.yld t, .ptr b 0 0 0, .int ((k : Int) - 1)]) (fun vs _ => ((vs.getD 2 .any).toInt + 1).toNat) ?_ ?_
  · exact ⟨xs.length, Nat.le_refl _, h0, rfl⟩
  rintro vs M ⟨k, hk, hI, rfl⟩
  have hb1 := hb _ _ hI
  conv => whnf
  refine br_dec (fun hlt => ?_) (fun hge => ?_)
  · obtain ⟨j, rfl⟩ : ∃ j, k = j + 1 := ⟨k - 1, by omega⟩
    have e1 : ((j + 1 : Nat) : Int) - 1 = j := by omega
    rw [e1]
    conv => whnf
    refine stepO (by exact aop_load rfl hb1 rfl) ?_
    conv => whnf
    repeat ((first | refine ⟨by omega, ?_⟩ | refine ⟨inr (by omega), ?_⟩ | refine eqn_self ?_ | refine ⟨ms (by omega), ?_⟩ | refine ⟨ms (by simp only [Src.n]; omega), ?_⟩ | refine ⟨msk (by omega), ?_⟩ | refine ⟨ms1, ?_⟩); conv => whnf)
    refine (hy j M (by omega) hI).mono ?_
    rintro R M' (⟨rfl, hI'⟩ | ⟨rfl, hD⟩)
    · conv => whnf
      repeat ((first | refine ⟨by omega, ?_⟩ | refine ⟨inr (by omega), ?_⟩ | refine eqn_self ?_ | refine ⟨ms (by omega), ?_⟩ | refine ⟨ms (by simp only [Src.n]; omega), ?_⟩ | refine ⟨msk (by omega), ?_⟩ | refine ⟨ms1, ?_⟩); conv => whnf)
      refine ⟨⟨j, by omega, hI', rfl⟩, ?_⟩
      simp [V.toInt, sel, Env.get]
    · conv => whnf
      exact ⟨_, rfl, .inr hD⟩
  · conv => whnf
    refine ⟨_, rfl, .inl ?_⟩
    rw [show k = 0 from by omega] at hI
    exact hI
end Go.Tri
