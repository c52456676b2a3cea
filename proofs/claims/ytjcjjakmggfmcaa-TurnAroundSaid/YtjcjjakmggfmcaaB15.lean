/-
  CONTRACTS: the claims of Fair, among all drivers.
-/
import Derived.Test.YtjcjjakmggfmcaaB14
namespace Go.Tri
open Go.Proofs

def opF (T S : Int) (f : Nat → Nat → Int) : Nat → Bool := fun i => decide (f i 1 * S ≥ T)
def befF (T S : Int) (f : Nat → Nat → Int) : Nat → Nat → Bool := fun i j => decide (slk T S (f i 1) * f j 0 < slk T S (f j 1) * f i 0)

theorem claimF_pure (n : Nat) (hn : n ≤ 8) (f : Nat → Nat → Int) {T S : Int} (hT : 0 ≤ T ∧ T ≤ 160) (hS : 1 ≤ S ∧ S ≤ 14) (hf : ∀ i, i < n → (0 ≤ f i 0 ∧ f i 0 ≤ 20) ∧ -100000 ≤ f i 1 ∧ f i 1 ≤ 100000) :
    APure Try.prog 70 [.seq false 2 n fun j k => .int (f j k), cloR T S, cloB T S] (fun R => R = .int (pick (opF T S f) (befF T S f) n)) := by
  refine APure_of (X := cx 36) (cx_ok 36) rfl (rs := [(.tmp 6, 3)]) Try.func70 (by decide) rfl rfl rfl (by simp [cx]) ?_ ?_
  · intro x hx
    rcases List.mem_cons.1 hx with rfl | hx
    · exact ⟨rfl, fun _ _ => trivial⟩
    rcases List.mem_cons.1 hx with rfl | hx
    · exact fun _ _ => trivial
    · rw [List.mem_singleton.1 hx]; exact fun _ _ _ _ => trivial
  intro _
  conv => whnf
  refine AW_loopA (X := cx 36) (cx_ok 36) [0, 1, 2, 7, 10, 11, 12] (fun _ => false) (fun vs M => ∃ k : Nat, k ≤ n ∧ vs = [.seq false 2 n fun j k => .int (f j k), cloR T S, cloB T S, .int (pick (opF T S f) (befF T S f) k), .seq false 2 n fun j k => .int (f j k), .int n, .int k] ∧ M = [])
    (fun vs _ => n - (vs.getD 6 .any).toInt.toNat) (fun t ht => absurd ht (by simp)) ?_ ?_
  · exact same0 ⟨0, Nat.zero_le _, rfl, rfl⟩
  · rintro vs M ⟨k, hk, rfl, rfl⟩
    have hp := pick_bd (opF T S f) (befF T S f) k
    have hyes := pick_yes (opn := opF T S f) (bef := befF T S f) (k := k)
    have hno := pick_no (opn := opF T S f) (bef := befF T S f) (k := k)
    generalize hpp : pick (opF T S f) (befF T S f) k = p at *
    conv => whnf
    refine br_dec (fun hlt => ?_) (fun hge => ?_)
    · have hk' : k < n := by omega
      have hfk := hf k hk'
      conv => whnf
      repeat ((first | refine ⟨by omega, ?_⟩ | refine ⟨inr (by omega), ?_⟩ | refine eqn_self ?_ | refine ⟨ms (by omega), ?_⟩ | refine ⟨ms (by simp only [Src.n]; omega), ?_⟩ | refine ⟨msk (by omega), ?_⟩ | refine ⟨ms1, ?_⟩); conv => whnf)
      refine AW_draw (X := cx 36) (cx_ok 36) mixed (by kernel_rfl) ?_
      conv => whnf
      refine ⟨.bool (decide (f k 1 * S ≥ T)), APure.arg3 (agg2_alike rfl rfl) (sub_at fun _ _ => Sub.of rfl) (sub_at fun _ _ => Sub.of rfl) (fr1_pure hT hS (f k 0) (f k 1) hfk.2), ?_⟩
      conv => whnf
      refine br_dec (fun h0 => ?_) (fun h0 => ?_)
      · conv => whnf
        refine br_dec (fun h1 => ?_) (fun h1 => ?_)
        · have e := hyes (decide_eq_true h0) (.inl h1)
          conv => whnf
          repeat ((first | refine ⟨by omega, ?_⟩ | refine ⟨inr (by omega), ?_⟩ | refine eqn_self ?_ | refine ⟨ms (by omega), ?_⟩ | refine ⟨ms (by simp only [Src.n]; omega), ?_⟩ | refine ⟨msk (by omega), ?_⟩ | refine ⟨ms1, ?_⟩); conv => whnf)
          refine ⟨by repeat (first | exact trivial | exact rfl | exact fun _ => trivial | exact fun _ _ => trivial | exact fun _ _ _ => trivial | exact fun _ _ _ _ => trivial | refine And.intro ?_ ?_), same1 ⟨⟨k + 1, by omega, by rw [← e]; rfl, rfl⟩, ?_⟩⟩
          simp [V.toInt, sel, Env.get]; omega
        · have hfp := hf p.toNat (by omega)
          conv => whnf
          repeat ((first | refine ⟨by omega, ?_⟩ | refine ⟨inr (by omega), ?_⟩ | refine eqn_self ?_ | refine ⟨ms (by omega), ?_⟩ | refine ⟨ms (by simp only [Src.n]; omega), ?_⟩ | refine ⟨msk (by omega), ?_⟩ | refine ⟨ms1, ?_⟩); conv => whnf)
          refine ⟨.bool (decide (slk T S (f k 1) * f p.toNat 0 < slk T S (f p.toNat 1) * f k 0)), APure.arg3 (agg2_alike rfl rfl) (agg2_alike rfl rfl) (sub_at fun _ _ => sub_clo fun _ _ => sub_at fun _ _ => Sub.of rfl) (fr3_pure hT hS (f k 0) (f k 1) (f p.toNat 0) (f p.toNat 1) hfk.1 hfk.2 hfp.1 hfp.2), ?_⟩
          conv => whnf
          refine br_dec (fun h2 => ?_) (fun h2 => ?_)
          · have e := hyes (decide_eq_true h0) (.inr (decide_eq_true h2))
            conv => whnf
            repeat ((first | refine ⟨by omega, ?_⟩ | refine ⟨inr (by omega), ?_⟩ | refine eqn_self ?_ | refine ⟨ms (by omega), ?_⟩ | refine ⟨ms (by simp only [Src.n]; omega), ?_⟩ | refine ⟨msk (by omega), ?_⟩ | refine ⟨ms1, ?_⟩); conv => whnf)
            refine ⟨by repeat (first | exact trivial | exact rfl | exact fun _ => trivial | exact fun _ _ => trivial | exact fun _ _ _ => trivial | exact fun _ _ _ _ => trivial | refine And.intro ?_ ?_), same1 ⟨⟨k + 1, by omega, by rw [← e]; rfl, rfl⟩, ?_⟩⟩
            simp [V.toInt, sel, Env.get]; omega
          · have e := hno (by rintro ⟨_, h | h⟩; exact h1 h; exact h2 (of_decide_eq_true h))
            conv => whnf
            repeat ((first | refine ⟨by omega, ?_⟩ | refine ⟨inr (by omega), ?_⟩ | refine eqn_self ?_ | refine ⟨ms (by omega), ?_⟩ | refine ⟨ms (by simp only [Src.n]; omega), ?_⟩ | refine ⟨msk (by omega), ?_⟩ | refine ⟨ms1, ?_⟩); conv => whnf)
            refine ⟨by repeat (first | exact trivial | exact rfl | exact fun _ => trivial | exact fun _ _ => trivial | exact fun _ _ _ => trivial | exact fun _ _ _ _ => trivial | refine And.intro ?_ ?_), same1 ⟨⟨k + 1, by omega, by rw [← e]; rfl, rfl⟩, ?_⟩⟩
            simp [V.toInt, sel, Env.get]; omega
      · have e := hno (by rintro ⟨h, _⟩; exact h0 (of_decide_eq_true h))
        conv => whnf
        repeat ((first | refine ⟨by omega, ?_⟩ | refine ⟨inr (by omega), ?_⟩ | refine eqn_self ?_ | refine ⟨ms (by omega), ?_⟩ | refine ⟨ms (by simp only [Src.n]; omega), ?_⟩ | refine ⟨msk (by omega), ?_⟩ | refine ⟨ms1, ?_⟩); conv => whnf)
        refine ⟨by repeat (first | exact trivial | exact rfl | exact fun _ => trivial | exact fun _ _ => trivial | exact fun _ _ _ => trivial | exact fun _ _ _ _ => trivial | refine And.intro ?_ ?_), same1 ⟨⟨k + 1, by omega, by rw [← e]; rfl, rfl⟩, ?_⟩⟩
        simp [V.toInt, sel, Env.get]; omega
    · conv => whnf
      have : k = n := by omega
      subst this
      exact ⟨trivial, Qi hpp.symm⟩

theorem clm_bd {s l : List Int} (hs : Shs s) {t u : Nat} (ht : t ≤ 401) (hu : u ≤ 401) (i : Nat) : (0 ≤ clm s l t u i 0 ∧ clm s l t u i 0 ≤ 20) ∧ -100000 ≤ clm s l t u i 1 ∧ clm s l t u i 1 ≤ 100000 := by
  have h3 : 0 ≤ s.getD i 0 ∧ s.getD i 0 ≤ 20 := by
    by_cases hi : i < s.length
    · have := hs.2.2 _ (getD_mem' hi); omega
    · simp [List.getD, List.getElem?_eq_none (Nat.le_of_not_lt hi)]
  exact ⟨h3, ow_bd hs ht hu i⟩
end Go.Tri
