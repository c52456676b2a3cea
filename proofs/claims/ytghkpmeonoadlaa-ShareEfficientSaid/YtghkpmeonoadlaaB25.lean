/-
  CONTRACTS: efficient parts.
-/
import Derived.Test.YtghkpmeonoadlaaB24
namespace Go.Tri
open Go.Proofs

theorem onlyB_pure (a b : Int) : APure Try.prog 72 [pairV a b] (fun R => R = .bool (decide (b > 0 ∧ a = 0))) := by
  refine APure_of (X := cx 11) (cx_ok 11) rfl (rs := [(.tmp 2, 4)]) Try.func72 (by decide) rfl rfl rfl (by simp [cx]) (nofr1 nofrP) ?_
  intro hlen
  ((conv => whnf); repeat (refine stepK_in ?_; (repeat (first | refine seqQ_n ?_ | refine blockQ_n ?_ | refine awp_skip ?_ | refine awp_seq ?_ | refine awp_block ?_)); (conv => whnf)))
  refine br_dec (fun h => ?_) (fun h => ?_)
  · have h : b > 0 := h
    ((conv => whnf); repeat (refine stepK_in ?_; (repeat (first | refine seqQ_n ?_ | refine blockQ_n ?_ | refine awp_skip ?_ | refine awp_seq ?_ | refine awp_block ?_)); (conv => whnf)))
    refine ⟨trivial, Qb ?_⟩
    rw [Bool.eq_iff_iff, beq_iff_eq, decide_eq_true_iff]
    exact ⟨fun h1 => ⟨h, h1⟩, fun h1 => h1.2⟩
  · ((conv => whnf); repeat (refine stepK_in ?_; (repeat (first | refine seqQ_n ?_ | refine blockQ_n ?_ | refine awp_skip ?_ | refine awp_seq ?_ | refine awp_block ?_)); (conv => whnf)))
    exact ⟨trivial, Qb (decide_eq_false (fun h1 => h h1.1)).symm⟩
theorem onlyA_pure (a b : Int) : APure Try.prog 73 [pairV a b] (fun R => R = .bool (decide (a > 0 ∧ b = 0))) := by
  refine APure_of (X := cx 11) (cx_ok 11) rfl (rs := [(.tmp 2, 4)]) Try.func73 (by decide) rfl rfl rfl (by simp [cx]) (nofr1 nofrP) ?_
  intro hlen
  ((conv => whnf); repeat (refine stepK_in ?_; (repeat (first | refine seqQ_n ?_ | refine blockQ_n ?_ | refine awp_skip ?_ | refine awp_seq ?_ | refine awp_block ?_)); (conv => whnf)))
  refine br_dec (fun h => ?_) (fun h => ?_)
  · have h : a > 0 := h
    ((conv => whnf); repeat (refine stepK_in ?_; (repeat (first | refine seqQ_n ?_ | refine blockQ_n ?_ | refine awp_skip ?_ | refine awp_seq ?_ | refine awp_block ?_)); (conv => whnf)))
    refine ⟨trivial, Qb ?_⟩
    rw [Bool.eq_iff_iff, beq_iff_eq, decide_eq_true_iff]
    exact ⟨fun h1 => ⟨h, h1⟩, fun h1 => h1.2⟩
  · ((conv => whnf); repeat (refine stepK_in ?_; (repeat (first | refine seqQ_n ?_ | refine blockQ_n ?_ | refine awp_skip ?_ | refine awp_seq ?_ | refine awp_block ?_)); (conv => whnf)))
    exact ⟨trivial, Qb (decide_eq_false (fun h1 => h h1.1)).symm⟩
theorem isAbove_pure (a b c d : Int) (ha : in100' a) (hb : in100' b) (hc : in100' c) (hd : in100' d) : APure Try.prog 74 [pairV a b, pairV c d] (fun R => R = .bool (decide (a * d > c * b))) := by
  refine APure_of (X := cx 16) (cx_ok 16) rfl (rs := [(.tmp 4, 4)]) Try.func74 (by decide) rfl rfl rfl (by simp [cx]) (nofr2 nofrP nofrP) ?_
  intro hlen
  have m1 := mul100 hc hb
  have m2 := mul100 ha hd
  ((conv => whnf); repeat (refine stepK_in ?_; (repeat (first | refine seqQ_n ?_ | refine blockQ_n ?_ | refine awp_skip ?_ | refine awp_seq ?_ | refine awp_block ?_)); (conv => whnf)))
  refine ⟨inr (by omega), ?_⟩
  ((conv => whnf); repeat (refine stepK_in ?_; (repeat (first | refine seqQ_n ?_ | refine blockQ_n ?_ | refine awp_skip ?_ | refine awp_seq ?_ | refine awp_block ?_)); (conv => whnf)))
  refine ⟨inr (by omega), ?_⟩
  ((conv => whnf); repeat (refine stepK_in ?_; (repeat (first | refine seqQ_n ?_ | refine blockQ_n ?_ | refine awp_skip ?_ | refine awp_seq ?_ | refine awp_block ?_)); (conv => whnf)))
  exact ⟨trivial, rfl⟩
/-- No part of the thing i is against the others. -/
def EffI (f g : Nat → Int) (l : List Int) (d : Int) (i : Nat) : Prop := ¬ (l.getD i 0 > 0 ∧ (g i > 0 ∧ f i = 0)) ∧ ¬ (l.getD i 0 < d ∧ (f i > 0 ∧ g i = 0))
def EffK (f g : Nat → Int) (l : List Int) (d : Int) (i k : Nat) : Prop := ¬ (l.getD i 0 > 0 ∧ l.getD k 0 < d ∧ f k * g i > f i * g k)
def Eff (f g : Nat → Int) (n : Nat) (l : List Int) (d : Int) : Prop := ∀ i, i < n → EffI f g l d i ∧ ∀ k, k < n → EffK f g l d i k
open Classical in
set_option maxRecDepth 100000 in
theorem efficient_pure {n : Nat} {f g : Nat → Int} {l : List Int} {d : Int} (h8 : n ≤ 100) (hf : in100 n f) (hg : in100 n g) (hl : l.length = n) : APure Try.prog 48 [dealV false n f g, parV false l d] (fun R => R = .bool (decide (Eff f g n l d))) := by
  refine APure_of (X := cx 68) (cx_ok 68) rfl (rs := [(.tmp 4, 4)]) Try.func48 (by decide) rfl rfl rfl (by simp [cx]) (nofr2 nofrD nofrPa) ?_
  intro hlen
  ((conv => whnf); repeat (refine stepK_in ?_; (repeat (first | refine seqQ_n ?_ | refine blockQ_n ?_ | refine awp_skip ?_ | refine awp_seq ?_ | refine awp_block ?_)); (conv => whnf)))
  refine AW_loopA (X := cx 68) (cx_ok 68) [0, 3, 10, 11, 12] (fun t => Nat.blt t 1) (fun vs M => ∃ i : Nat, i ≤ n ∧ (∀ q, q < i → EffI f g l d q ∧ ∀ k, k < n → EffK f g l d q k) ∧ vs = [dealV false n f g, .ptr 0 0 0 0, .ints false l, .int n, .int i] ∧ M = [some ⟨24, 2, 0, .one [.ints false l, .int d]⟩])
    (fun vs _ => n - (vs.getD 4 .any).toInt.toNat) (fun t ht => by have : t < 1 := ht; simp; omega) ?_ ?_
  · rw [hl]
    exact same0 ⟨0, Nat.zero_le _, fun q hq => absurd hq (by omega), rfl, rfl⟩
  rintro vs M ⟨i, hi, hI, rfl, rfl⟩
  ((conv => whnf); repeat (refine stepK_in ?_; (repeat (first | refine seqQ_n ?_ | refine blockQ_n ?_ | refine awp_skip ?_ | refine awp_seq ?_ | refine awp_block ?_)); (conv => whnf)))
  refine br_dec (fun hlt => ?_) (fun hge => ?_)
  · have hi' : i < n := by omega
    have hfi := hf i hi'
    have hgi := hg i hi'
    have cB := onlyB_pure (f i) (g i)
    have cA := onlyA_pure (f i) (g i)
    ((conv => whnf); repeat (refine stepK_in ?_; (repeat (first | refine seqQ_n ?_ | refine blockQ_n ?_ | refine awp_skip ?_ | refine awp_seq ?_ | refine awp_block ?_)); (conv => whnf)))
    refine ⟨(show (0 : Int) ≤ (i : Int) by omega), ?_⟩
    refine ⟨(show (i : Int) < (l.length : Int) by omega), ?_⟩
    ((conv => whnf); repeat (refine stepK_in ?_; (repeat (first | refine seqQ_n ?_ | refine blockQ_n ?_ | refine awp_skip ?_ | refine awp_seq ?_ | refine awp_block ?_)); (conv => whnf)))
    refine br_dec (fun h1 => ?_) (fun h1 => ?_)
    · have h1 : l.getD i 0 > 0 := h1
      ((conv => whnf); repeat (refine stepK_in ?_; (repeat (first | refine seqQ_n ?_ | refine blockQ_n ?_ | refine awp_skip ?_ | refine awp_seq ?_ | refine awp_block ?_)); (conv => whnf)))
      repeat ((first | refine ⟨(show (0 : Int) ≤ (i : Int) by omega), ?_⟩ | refine ⟨(show (i : Int) < (n : Int) by omega), ?_⟩); ((conv => whnf); repeat (refine stepK_in ?_; (repeat (first | refine seqQ_n ?_ | refine blockQ_n ?_ | refine awp_skip ?_ | refine awp_seq ?_ | refine awp_block ?_)); (conv => whnf))))
      refine APure.to (APure.arg1 (sub_pair rfl rfl) cB) ?_
      ((conv => whnf); repeat (refine stepK_in ?_; (repeat (first | refine seqQ_n ?_ | refine blockQ_n ?_ | refine awp_skip ?_ | refine awp_seq ?_ | refine awp_block ?_)); (conv => whnf)))
      refine br_dec (fun hB => ?_) (fun hB => ?_)
      · ((conv => whnf); repeat (refine stepK_in ?_; (repeat (first | refine seqQ_n ?_ | refine blockQ_n ?_ | refine awp_skip ?_ | refine awp_seq ?_ | refine awp_block ?_)); (conv => whnf)))
        exact ⟨trivial, Qb (decide_eq_false (fun h6 => (h6 i hi').1.1 ⟨h1, hB⟩)).symm⟩
      · have hB' : ¬ (l.getD i 0 > 0 ∧ (g i > 0 ∧ f i = 0)) := fun h6 => hB h6.2
        ((conv => whnf); repeat (refine stepK_in ?_; (repeat (first | refine seqQ_n ?_ | refine blockQ_n ?_ | refine awp_skip ?_ | refine awp_seq ?_ | refine awp_block ?_)); (conv => whnf)))
        refine br_dec (fun h2 => ?_) (fun h2 => ?_)
        · have h2 : l.getD i 0 < d := h2
          ((conv => whnf); repeat (refine stepK_in ?_; (repeat (first | refine seqQ_n ?_ | refine blockQ_n ?_ | refine awp_skip ?_ | refine awp_seq ?_ | refine awp_block ?_)); (conv => whnf)))
          repeat ((first | refine ⟨(show (0 : Int) ≤ (i : Int) by omega), ?_⟩ | refine ⟨(show (i : Int) < (n : Int) by omega), ?_⟩); ((conv => whnf); repeat (refine stepK_in ?_; (repeat (first | refine seqQ_n ?_ | refine blockQ_n ?_ | refine awp_skip ?_ | refine awp_seq ?_ | refine awp_block ?_)); (conv => whnf))))
          refine APure.to (APure.arg1 (sub_pair rfl rfl) cA) ?_
          ((conv => whnf); repeat (refine stepK_in ?_; (repeat (first | refine seqQ_n ?_ | refine blockQ_n ?_ | refine awp_skip ?_ | refine awp_seq ?_ | refine awp_block ?_)); (conv => whnf)))
          refine br_dec (fun hA => ?_) (fun hA => ?_)
          · ((conv => whnf); repeat (refine stepK_in ?_; (repeat (first | refine seqQ_n ?_ | refine blockQ_n ?_ | refine awp_skip ?_ | refine awp_seq ?_ | refine awp_block ?_)); (conv => whnf)))
            exact ⟨trivial, Qb (decide_eq_false (fun h6 => (h6 i hi').1.2 ⟨h2, hA⟩)).symm⟩
          · have hE : EffI f g l d i := ⟨hB', fun h6 => hA h6.2⟩
            ((conv => whnf); repeat (refine stepK_in ?_; (repeat (first | refine seqQ_n ?_ | refine blockQ_n ?_ | refine awp_skip ?_ | refine awp_seq ?_ | refine awp_block ?_)); (conv => whnf)))
            rw [hl]
            refine AW_loop (X := cx 68) (cx_ok 68) [0, 3, 5, 6, 10, 11, 12, 40, 41, 42] (fun vs M => ∃ k : Nat, k ≤ n ∧ (∀ q, q < k → EffK f g l d i q) ∧ vs = [dealV false n f g, .ptr 0 0 0 0, .int i, .int (l.getD i 0), .ints false l, .int n, .int i, .ints false l, .int n, .int k] ∧ M = [some ⟨24, 2, 0, .one [.ints false l, .int d]⟩])
              (fun vs _ => n - (vs.getD 9 .any).toInt.toNat) ?_ ?_
            · exact ⟨0, Nat.zero_le _, fun q hq => absurd hq (by omega), rfl, rfl⟩
            rintro vs M ⟨k, hk, hK, rfl, rfl⟩
            ((conv => whnf); repeat (refine stepK_in ?_; (repeat (first | refine seqQ_n ?_ | refine blockQ_n ?_ | refine awp_skip ?_ | refine awp_seq ?_ | refine awp_block ?_)); (conv => whnf)))
            refine br_dec (fun hlt2 => ?_) (fun hge2 => ?_)
            · have hk' : k < n := by omega
              have cAb := isAbove_pure (f k) (g k) (f i) (g i) (hf k hk') (hg k hk') hfi hgi
              have bad : ¬ EffK f g l d i k → ¬ Eff f g n l d := fun h5 h6 => h5 ((h6 i hi').2 k hk')
              have step : EffK f g l d i k → ∀ q, q < k + 1 → EffK f g l d i q := fun h5 q hq => by
                rcases (by omega : q < k ∨ q = k) with h6 | rfl
                · exact hK q h6
                · exact h5
              ((conv => whnf); repeat (refine stepK_in ?_; (repeat (first | refine seqQ_n ?_ | refine blockQ_n ?_ | refine awp_skip ?_ | refine awp_seq ?_ | refine awp_block ?_)); (conv => whnf)))
              refine ⟨(show (0 : Int) ≤ (k : Int) by omega), ?_⟩
              refine ⟨(show (k : Int) < (l.length : Int) by omega), ?_⟩
              ((conv => whnf); repeat (refine stepK_in ?_; (repeat (first | refine seqQ_n ?_ | refine blockQ_n ?_ | refine awp_skip ?_ | refine awp_seq ?_ | refine awp_block ?_)); (conv => whnf)))
              refine AW_draw (X := cx 68) (cx_ok 68) mixed (by kernel_rfl) ?_
              ((conv => whnf); repeat (refine stepK_in ?_; (repeat (first | refine seqQ_n ?_ | refine blockQ_n ?_ | refine awp_skip ?_ | refine awp_seq ?_ | refine awp_block ?_)); (conv => whnf)))
              refine br_dec (fun h7 => ?_) (fun h7 => ?_)
              · have h7 : l.getD i 0 > 0 := h7
                ((conv => whnf); repeat (refine stepK_in ?_; (repeat (first | refine seqQ_n ?_ | refine blockQ_n ?_ | refine awp_skip ?_ | refine awp_seq ?_ | refine awp_block ?_)); (conv => whnf)))
                refine br_dec (fun h8 => ?_) (fun h8 => ?_)
                · have h8 : l.getD k 0 < d := h8
                  ((conv => whnf); repeat (refine stepK_in ?_; (repeat (first | refine seqQ_n ?_ | refine blockQ_n ?_ | refine awp_skip ?_ | refine awp_seq ?_ | refine awp_block ?_)); (conv => whnf)))
                  repeat ((first | refine ⟨(show (0 : Int) ≤ (i : Int) by omega), ?_⟩ | refine ⟨(show (i : Int) < (n : Int) by omega), ?_⟩ | refine ⟨(show (0 : Int) ≤ (k : Int) by omega), ?_⟩ | refine ⟨(show (k : Int) < (n : Int) by omega), ?_⟩); ((conv => whnf); repeat (refine stepK_in ?_; (repeat (first | refine seqQ_n ?_ | refine blockQ_n ?_ | refine awp_skip ?_ | refine awp_seq ?_ | refine awp_block ?_)); (conv => whnf))))
                  refine ⟨_, APure.arg2 (sub_pair rfl rfl) (sub_pair rfl rfl) cAb, ?_⟩
                  ((conv => whnf); repeat (refine stepK_in ?_; (repeat (first | refine seqQ_n ?_ | refine blockQ_n ?_ | refine awp_skip ?_ | refine awp_seq ?_ | refine awp_block ?_)); (conv => whnf)))
                  refine br_dec (fun h9 => ?_) (fun h9 => ?_)
                  · have h9 : f k * g i > f i * g k := h9
                    ((conv => whnf); repeat (refine stepK_in ?_; (repeat (first | refine seqQ_n ?_ | refine blockQ_n ?_ | refine awp_skip ?_ | refine awp_seq ?_ | refine awp_block ?_)); (conv => whnf)))
                    exact ⟨trivial, Qb (decide_eq_false (bad fun h6 => h6 ⟨h7, h8, h9⟩)).symm⟩
                  · have hok : EffK f g l d i k := fun h6 => h9 h6.2.2
                    ((conv => whnf); repeat (refine stepK_in ?_; (repeat (first | refine seqQ_n ?_ | refine blockQ_n ?_ | refine awp_skip ?_ | refine awp_seq ?_ | refine awp_block ?_)); (conv => whnf)))
                    refine ⟨inr (by omega), ?_⟩
                    ((conv => whnf); repeat (refine stepK_in ?_; (repeat (first | refine seqQ_n ?_ | refine blockQ_n ?_ | refine awp_skip ?_ | refine awp_seq ?_ | refine awp_block ?_)); (conv => whnf)))
                    refine ⟨⟨k + 1, hk', step hok, rfl, rfl⟩, ?_⟩
                    simp [V.toInt, sel, Env.get]; omega
                · have hok : EffK f g l d i k := fun h6 => h8 h6.2.1
                  ((conv => whnf); repeat (refine stepK_in ?_; (repeat (first | refine seqQ_n ?_ | refine blockQ_n ?_ | refine awp_skip ?_ | refine awp_seq ?_ | refine awp_block ?_)); (conv => whnf)))
                  refine ⟨inr (by omega), ?_⟩
                  ((conv => whnf); repeat (refine stepK_in ?_; (repeat (first | refine seqQ_n ?_ | refine blockQ_n ?_ | refine awp_skip ?_ | refine awp_seq ?_ | refine awp_block ?_)); (conv => whnf)))
                  refine ⟨⟨k + 1, hk', step hok, rfl, rfl⟩, ?_⟩
                  simp [V.toInt, sel, Env.get]; omega
              · have hok : EffK f g l d i k := fun h6 => h7 h6.1
                ((conv => whnf); repeat (refine stepK_in ?_; (repeat (first | refine seqQ_n ?_ | refine blockQ_n ?_ | refine awp_skip ?_ | refine awp_seq ?_ | refine awp_block ?_)); (conv => whnf)))
                refine ⟨inr (by omega), ?_⟩
                ((conv => whnf); repeat (refine stepK_in ?_; (repeat (first | refine seqQ_n ?_ | refine blockQ_n ?_ | refine awp_skip ?_ | refine awp_seq ?_ | refine awp_block ?_)); (conv => whnf)))
                refine ⟨⟨k + 1, hk', step hok, rfl, rfl⟩, ?_⟩
                simp [V.toInt, sel, Env.get]; omega
            · obtain rfl : k = n := by omega
              ((conv => whnf); repeat (refine stepK_in ?_; (repeat (first | refine seqQ_n ?_ | refine blockQ_n ?_ | refine awp_skip ?_ | refine awp_seq ?_ | refine awp_block ?_)); (conv => whnf)))
              refine ⟨inr (by omega), ?_⟩
              ((conv => whnf); repeat (refine stepK_in ?_; (repeat (first | refine seqQ_n ?_ | refine blockQ_n ?_ | refine awp_skip ?_ | refine awp_seq ?_ | refine awp_block ?_)); (conv => whnf)))
              refine ⟨by repeat (first | exact trivial | exact rfl | exact namedD |  exact fun _ => trivial | exact fun _ _ => trivial | exact fun _ _ _ => trivial | exact fun _ _ _ _ => trivial | refine And.intro ?_ ?_), memA1 [some ⟨24, 2, 0, .one [.ints false l, .int d]⟩] ⟨ObSub.refl _, trivial⟩ ⟨⟨i + 1, hi', fun q hq => ?_, rfl, rfl⟩, ?_⟩⟩
              · rcases (by omega : q < i ∨ q = i) with h6 | rfl
                · exact hI q h6
                · exact ⟨hE, hK⟩
              · simp [V.toInt, sel, Env.get]; omega
        · have h2 : ¬ l.getD i 0 < d := h2
          have hE : EffI f g l d i := ⟨hB', fun h6 => h2 h6.1⟩
          ((conv => whnf); repeat (refine stepK_in ?_; (repeat (first | refine seqQ_n ?_ | refine blockQ_n ?_ | refine awp_skip ?_ | refine awp_seq ?_ | refine awp_block ?_)); (conv => whnf)))
          rw [hl]
          refine AW_loop (X := cx 68) (cx_ok 68) [0, 3, 5, 6, 10, 11, 12, 40, 41, 42] (fun vs M => ∃ k : Nat, k ≤ n ∧ (∀ q, q < k → EffK f g l d i q) ∧ vs = [dealV false n f g, .ptr 0 0 0 0, .int i, .int (l.getD i 0), .ints false l, .int n, .int i, .ints false l, .int n, .int k] ∧ M = [some ⟨24, 2, 0, .one [.ints false l, .int d]⟩])
            (fun vs _ => n - (vs.getD 9 .any).toInt.toNat) ?_ ?_
          · exact ⟨0, Nat.zero_le _, fun q hq => absurd hq (by omega), rfl, rfl⟩
          rintro vs M ⟨k, hk, hK, rfl, rfl⟩
          ((conv => whnf); repeat (refine stepK_in ?_; (repeat (first | refine seqQ_n ?_ | refine blockQ_n ?_ | refine awp_skip ?_ | refine awp_seq ?_ | refine awp_block ?_)); (conv => whnf)))
          refine br_dec (fun hlt2 => ?_) (fun hge2 => ?_)
          · have hk' : k < n := by omega
            have cAb := isAbove_pure (f k) (g k) (f i) (g i) (hf k hk') (hg k hk') hfi hgi
            have bad : ¬ EffK f g l d i k → ¬ Eff f g n l d := fun h5 h6 => h5 ((h6 i hi').2 k hk')
            have step : EffK f g l d i k → ∀ q, q < k + 1 → EffK f g l d i q := fun h5 q hq => by
              rcases (by omega : q < k ∨ q = k) with h6 | rfl
              · exact hK q h6
              · exact h5
            ((conv => whnf); repeat (refine stepK_in ?_; (repeat (first | refine seqQ_n ?_ | refine blockQ_n ?_ | refine awp_skip ?_ | refine awp_seq ?_ | refine awp_block ?_)); (conv => whnf)))
            refine ⟨(show (0 : Int) ≤ (k : Int) by omega), ?_⟩
            refine ⟨(show (k : Int) < (l.length : Int) by omega), ?_⟩
            ((conv => whnf); repeat (refine stepK_in ?_; (repeat (first | refine seqQ_n ?_ | refine blockQ_n ?_ | refine awp_skip ?_ | refine awp_seq ?_ | refine awp_block ?_)); (conv => whnf)))
            refine AW_draw (X := cx 68) (cx_ok 68) mixed (by kernel_rfl) ?_
            ((conv => whnf); repeat (refine stepK_in ?_; (repeat (first | refine seqQ_n ?_ | refine blockQ_n ?_ | refine awp_skip ?_ | refine awp_seq ?_ | refine awp_block ?_)); (conv => whnf)))
            refine br_dec (fun h7 => ?_) (fun h7 => ?_)
            · have h7 : l.getD i 0 > 0 := h7
              ((conv => whnf); repeat (refine stepK_in ?_; (repeat (first | refine seqQ_n ?_ | refine blockQ_n ?_ | refine awp_skip ?_ | refine awp_seq ?_ | refine awp_block ?_)); (conv => whnf)))
              refine br_dec (fun h8 => ?_) (fun h8 => ?_)
              · have h8 : l.getD k 0 < d := h8
                ((conv => whnf); repeat (refine stepK_in ?_; (repeat (first | refine seqQ_n ?_ | refine blockQ_n ?_ | refine awp_skip ?_ | refine awp_seq ?_ | refine awp_block ?_)); (conv => whnf)))
                repeat ((first | refine ⟨(show (0 : Int) ≤ (i : Int) by omega), ?_⟩ | refine ⟨(show (i : Int) < (n : Int) by omega), ?_⟩ | refine ⟨(show (0 : Int) ≤ (k : Int) by omega), ?_⟩ | refine ⟨(show (k : Int) < (n : Int) by omega), ?_⟩); ((conv => whnf); repeat (refine stepK_in ?_; (repeat (first | refine seqQ_n ?_ | refine blockQ_n ?_ | refine awp_skip ?_ | refine awp_seq ?_ | refine awp_block ?_)); (conv => whnf))))
                refine ⟨_, APure.arg2 (sub_pair rfl rfl) (sub_pair rfl rfl) cAb, ?_⟩
                ((conv => whnf); repeat (refine stepK_in ?_; (repeat (first | refine seqQ_n ?_ | refine blockQ_n ?_ | refine awp_skip ?_ | refine awp_seq ?_ | refine awp_block ?_)); (conv => whnf)))
                refine br_dec (fun h9 => ?_) (fun h9 => ?_)
                · have h9 : f k * g i > f i * g k := h9
                  ((conv => whnf); repeat (refine stepK_in ?_; (repeat (first | refine seqQ_n ?_ | refine blockQ_n ?_ | refine awp_skip ?_ | refine awp_seq ?_ | refine awp_block ?_)); (conv => whnf)))
                  exact ⟨trivial, Qb (decide_eq_false (bad fun h6 => h6 ⟨h7, h8, h9⟩)).symm⟩
                · have hok : EffK f g l d i k := fun h6 => h9 h6.2.2
                  ((conv => whnf); repeat (refine stepK_in ?_; (repeat (first | refine seqQ_n ?_ | refine blockQ_n ?_ | refine awp_skip ?_ | refine awp_seq ?_ | refine awp_block ?_)); (conv => whnf)))
                  refine ⟨inr (by omega), ?_⟩
                  ((conv => whnf); repeat (refine stepK_in ?_; (repeat (first | refine seqQ_n ?_ | refine blockQ_n ?_ | refine awp_skip ?_ | refine awp_seq ?_ | refine awp_block ?_)); (conv => whnf)))
                  refine ⟨⟨k + 1, hk', step hok, rfl, rfl⟩, ?_⟩
                  simp [V.toInt, sel, Env.get]; omega
              · have hok : EffK f g l d i k := fun h6 => h8 h6.2.1
                ((conv => whnf); repeat (refine stepK_in ?_; (repeat (first | refine seqQ_n ?_ | refine blockQ_n ?_ | refine awp_skip ?_ | refine awp_seq ?_ | refine awp_block ?_)); (conv => whnf)))
                refine ⟨inr (by omega), ?_⟩
                ((conv => whnf); repeat (refine stepK_in ?_; (repeat (first | refine seqQ_n ?_ | refine blockQ_n ?_ | refine awp_skip ?_ | refine awp_seq ?_ | refine awp_block ?_)); (conv => whnf)))
                refine ⟨⟨k + 1, hk', step hok, rfl, rfl⟩, ?_⟩
                simp [V.toInt, sel, Env.get]; omega
            · have hok : EffK f g l d i k := fun h6 => h7 h6.1
              ((conv => whnf); repeat (refine stepK_in ?_; (repeat (first | refine seqQ_n ?_ | refine blockQ_n ?_ | refine awp_skip ?_ | refine awp_seq ?_ | refine awp_block ?_)); (conv => whnf)))
              refine ⟨inr (by omega), ?_⟩
              ((conv => whnf); repeat (refine stepK_in ?_; (repeat (first | refine seqQ_n ?_ | refine blockQ_n ?_ | refine awp_skip ?_ | refine awp_seq ?_ | refine awp_block ?_)); (conv => whnf)))
              refine ⟨⟨k + 1, hk', step hok, rfl, rfl⟩, ?_⟩
              simp [V.toInt, sel, Env.get]; omega
          · obtain rfl : k = n := by omega
            ((conv => whnf); repeat (refine stepK_in ?_; (repeat (first | refine seqQ_n ?_ | refine blockQ_n ?_ | refine awp_skip ?_ | refine awp_seq ?_ | refine awp_block ?_)); (conv => whnf)))
            refine ⟨inr (by omega), ?_⟩
            ((conv => whnf); repeat (refine stepK_in ?_; (repeat (first | refine seqQ_n ?_ | refine blockQ_n ?_ | refine awp_skip ?_ | refine awp_seq ?_ | refine awp_block ?_)); (conv => whnf)))
            refine ⟨by repeat (first | exact trivial | exact rfl | exact namedD |  exact fun _ => trivial | exact fun _ _ => trivial | exact fun _ _ _ => trivial | exact fun _ _ _ _ => trivial | refine And.intro ?_ ?_), memA1 [some ⟨24, 2, 0, .one [.ints false l, .int d]⟩] ⟨ObSub.refl _, trivial⟩ ⟨⟨i + 1, hi', fun q hq => ?_, rfl, rfl⟩, ?_⟩⟩
            · rcases (by omega : q < i ∨ q = i) with h6 | rfl
              · exact hI q h6
              · exact ⟨hE, hK⟩
            · simp [V.toInt, sel, Env.get]; omega
    · have h1 : ¬ l.getD i 0 > 0 := h1
      have hB' : ¬ (l.getD i 0 > 0 ∧ (g i > 0 ∧ f i = 0)) := fun h6 => h1 h6.1
      ((conv => whnf); repeat (refine stepK_in ?_; (repeat (first | refine seqQ_n ?_ | refine blockQ_n ?_ | refine awp_skip ?_ | refine awp_seq ?_ | refine awp_block ?_)); (conv => whnf)))
      refine br_dec (fun h2 => ?_) (fun h2 => ?_)
      · have h2 : l.getD i 0 < d := h2
        ((conv => whnf); repeat (refine stepK_in ?_; (repeat (first | refine seqQ_n ?_ | refine blockQ_n ?_ | refine awp_skip ?_ | refine awp_seq ?_ | refine awp_block ?_)); (conv => whnf)))
        repeat ((first | refine ⟨(show (0 : Int) ≤ (i : Int) by omega), ?_⟩ | refine ⟨(show (i : Int) < (n : Int) by omega), ?_⟩); ((conv => whnf); repeat (refine stepK_in ?_; (repeat (first | refine seqQ_n ?_ | refine blockQ_n ?_ | refine awp_skip ?_ | refine awp_seq ?_ | refine awp_block ?_)); (conv => whnf))))
        refine APure.to (APure.arg1 (sub_pair rfl rfl) cA) ?_
        ((conv => whnf); repeat (refine stepK_in ?_; (repeat (first | refine seqQ_n ?_ | refine blockQ_n ?_ | refine awp_skip ?_ | refine awp_seq ?_ | refine awp_block ?_)); (conv => whnf)))
        refine br_dec (fun hA => ?_) (fun hA => ?_)
        · ((conv => whnf); repeat (refine stepK_in ?_; (repeat (first | refine seqQ_n ?_ | refine blockQ_n ?_ | refine awp_skip ?_ | refine awp_seq ?_ | refine awp_block ?_)); (conv => whnf)))
          exact ⟨trivial, Qb (decide_eq_false (fun h6 => (h6 i hi').1.2 ⟨h2, hA⟩)).symm⟩
        · have hE : EffI f g l d i := ⟨hB', fun h6 => hA h6.2⟩
          ((conv => whnf); repeat (refine stepK_in ?_; (repeat (first | refine seqQ_n ?_ | refine blockQ_n ?_ | refine awp_skip ?_ | refine awp_seq ?_ | refine awp_block ?_)); (conv => whnf)))
          rw [hl]
          refine AW_loop (X := cx 68) (cx_ok 68) [0, 3, 5, 6, 10, 11, 12, 40, 41, 42] (fun vs M => ∃ k : Nat, k ≤ n ∧ (∀ q, q < k → EffK f g l d i q) ∧ vs = [dealV false n f g, .ptr 0 0 0 0, .int i, .int (l.getD i 0), .ints false l, .int n, .int i, .ints false l, .int n, .int k] ∧ M = [some ⟨24, 2, 0, .one [.ints false l, .int d]⟩])
            (fun vs _ => n - (vs.getD 9 .any).toInt.toNat) ?_ ?_
          · exact ⟨0, Nat.zero_le _, fun q hq => absurd hq (by omega), rfl, rfl⟩
          rintro vs M ⟨k, hk, hK, rfl, rfl⟩
          ((conv => whnf); repeat (refine stepK_in ?_; (repeat (first | refine seqQ_n ?_ | refine blockQ_n ?_ | refine awp_skip ?_ | refine awp_seq ?_ | refine awp_block ?_)); (conv => whnf)))
          refine br_dec (fun hlt2 => ?_) (fun hge2 => ?_)
          · have hk' : k < n := by omega
            have cAb := isAbove_pure (f k) (g k) (f i) (g i) (hf k hk') (hg k hk') hfi hgi
            have bad : ¬ EffK f g l d i k → ¬ Eff f g n l d := fun h5 h6 => h5 ((h6 i hi').2 k hk')
            have step : EffK f g l d i k → ∀ q, q < k + 1 → EffK f g l d i q := fun h5 q hq => by
              rcases (by omega : q < k ∨ q = k) with h6 | rfl
              · exact hK q h6
              · exact h5
            ((conv => whnf); repeat (refine stepK_in ?_; (repeat (first | refine seqQ_n ?_ | refine blockQ_n ?_ | refine awp_skip ?_ | refine awp_seq ?_ | refine awp_block ?_)); (conv => whnf)))
            refine ⟨(show (0 : Int) ≤ (k : Int) by omega), ?_⟩
            refine ⟨(show (k : Int) < (l.length : Int) by omega), ?_⟩
            ((conv => whnf); repeat (refine stepK_in ?_; (repeat (first | refine seqQ_n ?_ | refine blockQ_n ?_ | refine awp_skip ?_ | refine awp_seq ?_ | refine awp_block ?_)); (conv => whnf)))
            refine AW_draw (X := cx 68) (cx_ok 68) mixed (by kernel_rfl) ?_
            ((conv => whnf); repeat (refine stepK_in ?_; (repeat (first | refine seqQ_n ?_ | refine blockQ_n ?_ | refine awp_skip ?_ | refine awp_seq ?_ | refine awp_block ?_)); (conv => whnf)))
            refine br_dec (fun h7 => ?_) (fun h7 => ?_)
            · have h7 : l.getD i 0 > 0 := h7
              ((conv => whnf); repeat (refine stepK_in ?_; (repeat (first | refine seqQ_n ?_ | refine blockQ_n ?_ | refine awp_skip ?_ | refine awp_seq ?_ | refine awp_block ?_)); (conv => whnf)))
              refine br_dec (fun h8 => ?_) (fun h8 => ?_)
              · have h8 : l.getD k 0 < d := h8
                ((conv => whnf); repeat (refine stepK_in ?_; (repeat (first | refine seqQ_n ?_ | refine blockQ_n ?_ | refine awp_skip ?_ | refine awp_seq ?_ | refine awp_block ?_)); (conv => whnf)))
                repeat ((first | refine ⟨(show (0 : Int) ≤ (i : Int) by omega), ?_⟩ | refine ⟨(show (i : Int) < (n : Int) by omega), ?_⟩ | refine ⟨(show (0 : Int) ≤ (k : Int) by omega), ?_⟩ | refine ⟨(show (k : Int) < (n : Int) by omega), ?_⟩); ((conv => whnf); repeat (refine stepK_in ?_; (repeat (first | refine seqQ_n ?_ | refine blockQ_n ?_ | refine awp_skip ?_ | refine awp_seq ?_ | refine awp_block ?_)); (conv => whnf))))
                refine ⟨_, APure.arg2 (sub_pair rfl rfl) (sub_pair rfl rfl) cAb, ?_⟩
                ((conv => whnf); repeat (refine stepK_in ?_; (repeat (first | refine seqQ_n ?_ | refine blockQ_n ?_ | refine awp_skip ?_ | refine awp_seq ?_ | refine awp_block ?_)); (conv => whnf)))
                refine br_dec (fun h9 => ?_) (fun h9 => ?_)
                · have h9 : f k * g i > f i * g k := h9
                  ((conv => whnf); repeat (refine stepK_in ?_; (repeat (first | refine seqQ_n ?_ | refine blockQ_n ?_ | refine awp_skip ?_ | refine awp_seq ?_ | refine awp_block ?_)); (conv => whnf)))
                  exact ⟨trivial, Qb (decide_eq_false (bad fun h6 => h6 ⟨h7, h8, h9⟩)).symm⟩
                · have hok : EffK f g l d i k := fun h6 => h9 h6.2.2
                  ((conv => whnf); repeat (refine stepK_in ?_; (repeat (first | refine seqQ_n ?_ | refine blockQ_n ?_ | refine awp_skip ?_ | refine awp_seq ?_ | refine awp_block ?_)); (conv => whnf)))
                  refine ⟨inr (by omega), ?_⟩
                  ((conv => whnf); repeat (refine stepK_in ?_; (repeat (first | refine seqQ_n ?_ | refine blockQ_n ?_ | refine awp_skip ?_ | refine awp_seq ?_ | refine awp_block ?_)); (conv => whnf)))
                  refine ⟨⟨k + 1, hk', step hok, rfl, rfl⟩, ?_⟩
                  simp [V.toInt, sel, Env.get]; omega
              · have hok : EffK f g l d i k := fun h6 => h8 h6.2.1
                ((conv => whnf); repeat (refine stepK_in ?_; (repeat (first | refine seqQ_n ?_ | refine blockQ_n ?_ | refine awp_skip ?_ | refine awp_seq ?_ | refine awp_block ?_)); (conv => whnf)))
                refine ⟨inr (by omega), ?_⟩
                ((conv => whnf); repeat (refine stepK_in ?_; (repeat (first | refine seqQ_n ?_ | refine blockQ_n ?_ | refine awp_skip ?_ | refine awp_seq ?_ | refine awp_block ?_)); (conv => whnf)))
                refine ⟨⟨k + 1, hk', step hok, rfl, rfl⟩, ?_⟩
                simp [V.toInt, sel, Env.get]; omega
            · have hok : EffK f g l d i k := fun h6 => h7 h6.1
              ((conv => whnf); repeat (refine stepK_in ?_; (repeat (first | refine seqQ_n ?_ | refine blockQ_n ?_ | refine awp_skip ?_ | refine awp_seq ?_ | refine awp_block ?_)); (conv => whnf)))
              refine ⟨inr (by omega), ?_⟩
              ((conv => whnf); repeat (refine stepK_in ?_; (repeat (first | refine seqQ_n ?_ | refine blockQ_n ?_ | refine awp_skip ?_ | refine awp_seq ?_ | refine awp_block ?_)); (conv => whnf)))
              refine ⟨⟨k + 1, hk', step hok, rfl, rfl⟩, ?_⟩
              simp [V.toInt, sel, Env.get]; omega
          · obtain rfl : k = n := by omega
            ((conv => whnf); repeat (refine stepK_in ?_; (repeat (first | refine seqQ_n ?_ | refine blockQ_n ?_ | refine awp_skip ?_ | refine awp_seq ?_ | refine awp_block ?_)); (conv => whnf)))
            refine ⟨inr (by omega), ?_⟩
            ((conv => whnf); repeat (refine stepK_in ?_; (repeat (first | refine seqQ_n ?_ | refine blockQ_n ?_ | refine awp_skip ?_ | refine awp_seq ?_ | refine awp_block ?_)); (conv => whnf)))
            refine ⟨by repeat (first | exact trivial | exact rfl | exact namedD |  exact fun _ => trivial | exact fun _ _ => trivial | exact fun _ _ _ => trivial | exact fun _ _ _ _ => trivial | refine And.intro ?_ ?_), memA1 [some ⟨24, 2, 0, .one [.ints false l, .int d]⟩] ⟨ObSub.refl _, trivial⟩ ⟨⟨i + 1, hi', fun q hq => ?_, rfl, rfl⟩, ?_⟩⟩
            · rcases (by omega : q < i ∨ q = i) with h6 | rfl
              · exact hI q h6
              · exact ⟨hE, hK⟩
            · simp [V.toInt, sel, Env.get]; omega
      · have h2 : ¬ l.getD i 0 < d := h2
        have hE : EffI f g l d i := ⟨hB', fun h6 => h2 h6.1⟩
        ((conv => whnf); repeat (refine stepK_in ?_; (repeat (first | refine seqQ_n ?_ | refine blockQ_n ?_ | refine awp_skip ?_ | refine awp_seq ?_ | refine awp_block ?_)); (conv => whnf)))
        rw [hl]
        refine AW_loop (X := cx 68) (cx_ok 68) [0, 3, 5, 6, 10, 11, 12, 40, 41, 42] (fun vs M => ∃ k : Nat, k ≤ n ∧ (∀ q, q < k → EffK f g l d i q) ∧ vs = [dealV false n f g, .ptr 0 0 0 0, .int i, .int (l.getD i 0), .ints false l, .int n, .int i, .ints false l, .int n, .int k] ∧ M = [some ⟨24, 2, 0, .one [.ints false l, .int d]⟩])
          (fun vs _ => n - (vs.getD 9 .any).toInt.toNat) ?_ ?_
        · exact ⟨0, Nat.zero_le _, fun q hq => absurd hq (by omega), rfl, rfl⟩
        rintro vs M ⟨k, hk, hK, rfl, rfl⟩
        ((conv => whnf); repeat (refine stepK_in ?_; (repeat (first | refine seqQ_n ?_ | refine blockQ_n ?_ | refine awp_skip ?_ | refine awp_seq ?_ | refine awp_block ?_)); (conv => whnf)))
        refine br_dec (fun hlt2 => ?_) (fun hge2 => ?_)
        · have hk' : k < n := by omega
          have cAb := isAbove_pure (f k) (g k) (f i) (g i) (hf k hk') (hg k hk') hfi hgi
          have bad : ¬ EffK f g l d i k → ¬ Eff f g n l d := fun h5 h6 => h5 ((h6 i hi').2 k hk')
          have step : EffK f g l d i k → ∀ q, q < k + 1 → EffK f g l d i q := fun h5 q hq => by
            rcases (by omega : q < k ∨ q = k) with h6 | rfl
            · exact hK q h6
            · exact h5
          ((conv => whnf); repeat (refine stepK_in ?_; (repeat (first | refine seqQ_n ?_ | refine blockQ_n ?_ | refine awp_skip ?_ | refine awp_seq ?_ | refine awp_block ?_)); (conv => whnf)))
          refine ⟨(show (0 : Int) ≤ (k : Int) by omega), ?_⟩
          refine ⟨(show (k : Int) < (l.length : Int) by omega), ?_⟩
          ((conv => whnf); repeat (refine stepK_in ?_; (repeat (first | refine seqQ_n ?_ | refine blockQ_n ?_ | refine awp_skip ?_ | refine awp_seq ?_ | refine awp_block ?_)); (conv => whnf)))
          refine AW_draw (X := cx 68) (cx_ok 68) mixed (by kernel_rfl) ?_
          ((conv => whnf); repeat (refine stepK_in ?_; (repeat (first | refine seqQ_n ?_ | refine blockQ_n ?_ | refine awp_skip ?_ | refine awp_seq ?_ | refine awp_block ?_)); (conv => whnf)))
          refine br_dec (fun h7 => ?_) (fun h7 => ?_)
          · have h7 : l.getD i 0 > 0 := h7
            ((conv => whnf); repeat (refine stepK_in ?_; (repeat (first | refine seqQ_n ?_ | refine blockQ_n ?_ | refine awp_skip ?_ | refine awp_seq ?_ | refine awp_block ?_)); (conv => whnf)))
            refine br_dec (fun h8 => ?_) (fun h8 => ?_)
            · have h8 : l.getD k 0 < d := h8
              ((conv => whnf); repeat (refine stepK_in ?_; (repeat (first | refine seqQ_n ?_ | refine blockQ_n ?_ | refine awp_skip ?_ | refine awp_seq ?_ | refine awp_block ?_)); (conv => whnf)))
              repeat ((first | refine ⟨(show (0 : Int) ≤ (i : Int) by omega), ?_⟩ | refine ⟨(show (i : Int) < (n : Int) by omega), ?_⟩ | refine ⟨(show (0 : Int) ≤ (k : Int) by omega), ?_⟩ | refine ⟨(show (k : Int) < (n : Int) by omega), ?_⟩); ((conv => whnf); repeat (refine stepK_in ?_; (repeat (first | refine seqQ_n ?_ | refine blockQ_n ?_ | refine awp_skip ?_ | refine awp_seq ?_ | refine awp_block ?_)); (conv => whnf))))
              refine ⟨_, APure.arg2 (sub_pair rfl rfl) (sub_pair rfl rfl) cAb, ?_⟩
              ((conv => whnf); repeat (refine stepK_in ?_; (repeat (first | refine seqQ_n ?_ | refine blockQ_n ?_ | refine awp_skip ?_ | refine awp_seq ?_ | refine awp_block ?_)); (conv => whnf)))
              refine br_dec (fun h9 => ?_) (fun h9 => ?_)
              · have h9 : f k * g i > f i * g k := h9
                ((conv => whnf); repeat (refine stepK_in ?_; (repeat (first | refine seqQ_n ?_ | refine blockQ_n ?_ | refine awp_skip ?_ | refine awp_seq ?_ | refine awp_block ?_)); (conv => whnf)))
                exact ⟨trivial, Qb (decide_eq_false (bad fun h6 => h6 ⟨h7, h8, h9⟩)).symm⟩
              · have hok : EffK f g l d i k := fun h6 => h9 h6.2.2
                ((conv => whnf); repeat (refine stepK_in ?_; (repeat (first | refine seqQ_n ?_ | refine blockQ_n ?_ | refine awp_skip ?_ | refine awp_seq ?_ | refine awp_block ?_)); (conv => whnf)))
                refine ⟨inr (by omega), ?_⟩
                ((conv => whnf); repeat (refine stepK_in ?_; (repeat (first | refine seqQ_n ?_ | refine blockQ_n ?_ | refine awp_skip ?_ | refine awp_seq ?_ | refine awp_block ?_)); (conv => whnf)))
                refine ⟨⟨k + 1, hk', step hok, rfl, rfl⟩, ?_⟩
                simp [V.toInt, sel, Env.get]; omega
            · have hok : EffK f g l d i k := fun h6 => h8 h6.2.1
              ((conv => whnf); repeat (refine stepK_in ?_; (repeat (first | refine seqQ_n ?_ | refine blockQ_n ?_ | refine awp_skip ?_ | refine awp_seq ?_ | refine awp_block ?_)); (conv => whnf)))
              refine ⟨inr (by omega), ?_⟩
              ((conv => whnf); repeat (refine stepK_in ?_; (repeat (first | refine seqQ_n ?_ | refine blockQ_n ?_ | refine awp_skip ?_ | refine awp_seq ?_ | refine awp_block ?_)); (conv => whnf)))
              refine ⟨⟨k + 1, hk', step hok, rfl, rfl⟩, ?_⟩
              simp [V.toInt, sel, Env.get]; omega
          · have hok : EffK f g l d i k := fun h6 => h7 h6.1
            ((conv => whnf); repeat (refine stepK_in ?_; (repeat (first | refine seqQ_n ?_ | refine blockQ_n ?_ | refine awp_skip ?_ | refine awp_seq ?_ | refine awp_block ?_)); (conv => whnf)))
            refine ⟨inr (by omega), ?_⟩
            ((conv => whnf); repeat (refine stepK_in ?_; (repeat (first | refine seqQ_n ?_ | refine blockQ_n ?_ | refine awp_skip ?_ | refine awp_seq ?_ | refine awp_block ?_)); (conv => whnf)))
            refine ⟨⟨k + 1, hk', step hok, rfl, rfl⟩, ?_⟩
            simp [V.toInt, sel, Env.get]; omega
        · obtain rfl : k = n := by omega
          ((conv => whnf); repeat (refine stepK_in ?_; (repeat (first | refine seqQ_n ?_ | refine blockQ_n ?_ | refine awp_skip ?_ | refine awp_seq ?_ | refine awp_block ?_)); (conv => whnf)))
          refine ⟨inr (by omega), ?_⟩
          ((conv => whnf); repeat (refine stepK_in ?_; (repeat (first | refine seqQ_n ?_ | refine blockQ_n ?_ | refine awp_skip ?_ | refine awp_seq ?_ | refine awp_block ?_)); (conv => whnf)))
          refine ⟨by repeat (first | exact trivial | exact rfl | exact namedD |  exact fun _ => trivial | exact fun _ _ => trivial | exact fun _ _ _ => trivial | exact fun _ _ _ _ => trivial | refine And.intro ?_ ?_), memA1 [some ⟨24, 2, 0, .one [.ints false l, .int d]⟩] ⟨ObSub.refl _, trivial⟩ ⟨⟨i + 1, hi', fun q hq => ?_, rfl, rfl⟩, ?_⟩⟩
          · rcases (by omega : q < i ∨ q = i) with h6 | rfl
            · exact hI q h6
            · exact ⟨hE, hK⟩
          · simp [V.toInt, sel, Env.get]; omega
  · obtain rfl : i = n := by omega
    ((conv => whnf); repeat (refine stepK_in ?_; (repeat (first | refine seqQ_n ?_ | refine blockQ_n ?_ | refine awp_skip ?_ | refine awp_seq ?_ | refine awp_block ?_)); (conv => whnf)))
    exact ⟨trivial, Qb (decide_eq_true (show Eff f g i l d from hI)).symm⟩
end Go.Tri
