/-
  CONTRACTS: the claims of Greedy.
-/
import Derived.Test.YtjcjjakmggfmcaaC1
namespace Go.Tri
open Go.Proofs

theorem ObSub.ci {e sz ver n : Nat} {f : Nat → Nat → V} {g : Nat → Nat → Int} (h : ∀ j k, j < n → k < sz → f j k = .int (g j k)) : ObSub ⟨e, sz, ver, .cv n f⟩ ⟨e, sz, ver, .ci n g⟩ := ⟨rfl, rfl, rfl, rfl, fun j k hj hk => Sub.of (h j k hj hk)⟩
theorem ObSub.cc {e sz ver n : Nat} {f g : Nat → Nat → Int} (h : ∀ j k, j < n → k < sz → f j k = g j k) : ObSub ⟨e, sz, ver, .ci n f⟩ ⟨e, sz, ver, .ci n g⟩ := ⟨rfl, rfl, rfl, rfl, fun j k hj hk => Sub.of (congrArg V.int (h j k hj hk))⟩
theorem ObSub.ii {e sz ver : Nat} {f g : List Int} (h : f = g) : ObSub ⟨e, sz, ver, .il f⟩ ⟨e, sz, ver, .il g⟩ := by subst h; exact ObSub.refl _

theorem NoFr2 (a b c d : Int) : ∀ x ∈ [agg2 a b, agg2 c d], NoFr x := by
  intro x hx
  rcases List.mem_cons.1 hx with rfl | hx
  · exact NoFr_agg2 _ _
  · rw [List.mem_singleton.1 hx]; exact NoFr_agg2 _ _

theorem g1_pure (a b : Int) : APure Try.prog 50 [agg2 a b] (fun R => R = .bool true) := by
  refine APure_of (X := cx 3) (cx_ok 3) rfl (rs := [(.tmp 2, 4)]) Try.func50 (by decide) rfl rfl rfl (by simp [cx]) (fun x hx => by rw [List.mem_singleton.1 hx]; exact NoFr_agg2 _ _) ?_
  intro _
  conv => whnf
  exact ⟨trivial, rfl⟩

theorem g2_pure (a b c d : Int) : APure Try.prog 51 [agg2 a b, agg2 c d] (fun R => R = .bool (decide (b > d))) := by
  refine APure_of (X := cx 10) (cx_ok 10) rfl (rs := [(.tmp 4, 4)]) Try.func51 (by decide) rfl rfl rfl (by simp [cx]) (NoFr2 a b c d) ?_
  intro _
  conv => whnf
  exact ⟨trivial, rfl⟩

/-- The place of the first best claim of those that are open, of the first k. -/
def pick (opn : Nat → Bool) (bef : Nat → Nat → Bool) : Nat → Int
  | 0 => -1
  | k + 1 => if opn k = true ∧ (pick opn bef k < 0 ∨ bef k (pick opn bef k).toNat = true) then k else pick opn bef k

theorem pick_bd (opn : Nat → Bool) (bef : Nat → Nat → Bool) : ∀ k, -1 ≤ pick opn bef k ∧ pick opn bef k < k := by
  intro k
  induction k with
  | zero => exact ⟨Int.le_refl _, by show (-1 : Int) < 0; decide⟩
  | succ k ih =>
    simp only [pick]
    split <;> omega

theorem pick_yes {opn : Nat → Bool} {bef : Nat → Nat → Bool} {k : Nat} (h1 : opn k = true) (h2 : pick opn bef k < 0 ∨ bef k (pick opn bef k).toNat = true) : (k : Int) = pick opn bef (k + 1) := by
  simp only [pick]; rw [if_pos ⟨h1, h2⟩]
theorem pick_no {opn : Nat → Bool} {bef : Nat → Nat → Bool} {k : Nat} (h : ¬ (opn k = true ∧ (pick opn bef k < 0 ∨ bef k (pick opn bef k).toNat = true))) : pick opn bef k = pick opn bef (k + 1) := by
  simp only [pick]; rw [if_neg h]

def allO : Nat → Bool := fun _ => true
def mostB (f : Nat → Nat → Int) : Nat → Nat → Bool := fun i j => decide (f i 1 > f j 1)

theorem claimG_pure (n : Nat) (hn : n ≤ 8) (f : Nat → Nat → Int) : APure Try.prog 70 [.seq false 2 n fun j k => .int (f j k), .clo 50 0 fun _ => .any, .clo 51 0 fun _ => .any] (fun R => R = .int (pick allO (mostB f) n)) := by
  refine APure_of (X := cx 36) (cx_ok 36) rfl (rs := [(.tmp 6, 3)]) Try.func70 (by decide) rfl rfl rfl (by simp [cx]) (by simp [NoFr]) ?_
  intro _
  conv => whnf
  refine AW_loopA (X := cx 36) (cx_ok 36) [0, 1, 2, 7, 10, 11, 12] (fun _ => false) (fun vs M => ∃ k : Nat, k ≤ n ∧ vs = [.seq false 2 n fun j k => .int (f j k), .clo 50 0 fun _ => .any, .clo 51 0 fun _ => .any, .int (pick allO (mostB f) k), .seq false 2 n fun j k => .int (f j k), .int n, .int k] ∧ M = [])
    (fun vs _ => n - (vs.getD 6 .any).toInt.toNat) (fun t ht => absurd ht (by simp)) ?_ ?_
  · exact same0 ⟨0, Nat.zero_le _, rfl, rfl⟩
  · rintro vs M ⟨k, hk, rfl, rfl⟩
    have hp := pick_bd allO (mostB f) k
    conv => whnf
    refine br_dec (fun hlt => ?_) (fun hge => ?_)
    · have hk' : k < n := by omega
      conv => whnf
      repeat ((first | refine ⟨by omega, ?_⟩ | refine ⟨inr (by omega), ?_⟩ | refine eqn_self ?_ | refine ⟨ms (by omega), ?_⟩ | refine ⟨ms (by simp only [Src.n]; omega), ?_⟩ | refine ⟨msk (by omega), ?_⟩ | refine ⟨ms1, ?_⟩); conv => whnf)
      refine AW_draw (X := cx 36) (cx_ok 36) mixed (by kernel_rfl) ?_
      conv => whnf
      refine ⟨.bool true, APure.arg1 (agg2_alike rfl rfl) (g1_pure _ _), ?_⟩
      conv => whnf
      refine br_dec (fun h1 => ?_) (fun h1 => ?_)
      · have e := pick_yes (opn := allO) (bef := mostB f) (k := k) rfl (.inl h1)
        conv => whnf
        repeat ((first | refine ⟨by omega, ?_⟩ | refine ⟨inr (by omega), ?_⟩ | refine eqn_self ?_ | refine ⟨ms (by omega), ?_⟩ | refine ⟨ms (by simp only [Src.n]; omega), ?_⟩ | refine ⟨msk (by omega), ?_⟩ | refine ⟨ms1, ?_⟩); conv => whnf)
        refine ⟨by repeat (first | exact trivial | exact rfl | exact fun _ => trivial | exact fun _ _ => trivial | refine And.intro ?_ ?_), same1 ⟨⟨k + 1, by omega, by rw [← e]; rfl, rfl⟩, ?_⟩⟩
        simp [V.toInt, sel, Env.get]; omega
      · conv => whnf
        repeat ((first | refine ⟨by omega, ?_⟩ | refine ⟨inr (by omega), ?_⟩ | refine eqn_self ?_ | refine ⟨ms (by omega), ?_⟩ | refine ⟨ms (by simp only [Src.n]; omega), ?_⟩ | refine ⟨msk (by omega), ?_⟩ | refine ⟨ms1, ?_⟩); conv => whnf)
        refine ⟨.bool (decide (f k 1 > f (pick allO (mostB f) k).toNat 1)), APure.arg2 (agg2_alike rfl rfl) (agg2_alike rfl rfl) (g2_pure _ _ _ _), ?_⟩
        conv => whnf
        refine br_dec (fun h2 => ?_) (fun h2 => ?_)
        · have e := pick_yes (opn := allO) (bef := mostB f) (k := k) rfl (.inr (by unfold mostB; exact decide_eq_true h2))
          conv => whnf
          repeat ((first | refine ⟨by omega, ?_⟩ | refine ⟨inr (by omega), ?_⟩ | refine eqn_self ?_ | refine ⟨ms (by omega), ?_⟩ | refine ⟨ms (by simp only [Src.n]; omega), ?_⟩ | refine ⟨msk (by omega), ?_⟩ | refine ⟨ms1, ?_⟩); conv => whnf)
          refine ⟨by repeat (first | exact trivial | exact rfl | exact fun _ => trivial | exact fun _ _ => trivial | refine And.intro ?_ ?_), same1 ⟨⟨k + 1, by omega, by rw [← e]; rfl, rfl⟩, ?_⟩⟩
          simp [V.toInt, sel, Env.get]; omega
        · have e := pick_no (opn := allO) (bef := mostB f) (k := k) (by rintro ⟨_, h | h⟩; exact h1 h; exact h2 (of_decide_eq_true h))
          conv => whnf
          repeat ((first | refine ⟨by omega, ?_⟩ | refine ⟨inr (by omega), ?_⟩ | refine eqn_self ?_ | refine ⟨ms (by omega), ?_⟩ | refine ⟨ms (by simp only [Src.n]; omega), ?_⟩ | refine ⟨msk (by omega), ?_⟩ | refine ⟨ms1, ?_⟩); conv => whnf)
          refine ⟨by repeat (first | exact trivial | exact rfl | exact fun _ => trivial | exact fun _ _ => trivial | refine And.intro ?_ ?_), same1 ⟨⟨k + 1, by omega, by rw [← e]; rfl, rfl⟩, ?_⟩⟩
          simp [V.toInt, sel, Env.get]; omega
    · conv => whnf
      have : k = n := by omega
      subst this
      exact ⟨trivial, rfl⟩
end Go.Tri
