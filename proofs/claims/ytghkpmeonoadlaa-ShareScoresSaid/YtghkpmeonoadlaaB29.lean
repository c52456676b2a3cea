/-
  CONTRACTS: Efficient, the reference's (made by a program: three ways meet at the inner loop).
-/
import Derived.Test.YtghkpmeonoadlaaB28
namespace Go.Tri
open Go.Proofs

theorem kind0 {a b : Int} (ha : 0 ≤ a) (_hb : 0 ≤ b) : kindI a b = 0 ↔ a > 0 ∧ b = 0 := by unfold kindI; split <;> (try split) <;> (try split) <;> omega
theorem kind2 {a b : Int} (ha : 0 ≤ a) (hb : 0 ≤ b) : kindI a b = 2 ↔ b > 0 ∧ a = 0 := by unfold kindI; split <;> (try split) <;> (try split) <;> omega
open Classical in
set_option maxHeartbeats 1000000 in
set_option maxRecDepth 100000 in
theorem refEfficient_pure (a b l : List Int) (d : Int) : APure Try.prog 19 [.ints false a, .ints false b, parV false l d] (fun R => R = efV a b l d) := by
  refine APure_of (X := cx 115) (cx_ok 115) rfl (rs := [(.tmp 6, 4), (.tmp 7, 29)]) Try.func19 (by decide) rfl rfl rfl (by simp [cx]) (nofr3 nofrI nofrI nofrPa) ?_
  intro hlen
  have e1 : cdE a b l d ≠ 0 → tup2 (.bool false) (.int (cdE a b l d)) = efV a b l d := fun h => by unfold efV; rw [if_neg h]
  have e2 : cdE a b l d = 0 → tup2 (.bool (decide (Eff (fA a) (fA b) a.length l d))) (.int 0) = efV a b l d := fun h => by unfold efV; rw [if_pos h]
  ((conv => whnf); repeat (refine stepK_in ?_; (repeat (first | refine seqQ_n ?_ | refine blockQ_n ?_ | refine awp_skip ?_ | refine awp_seq ?_ | refine awp_block ?_)); (conv => whnf)))
  refine APure.to (Points_pure a b) ?_
  ((conv => whnf); repeat (refine stepK_in ?_; (repeat (first | refine seqQ_n ?_ | refine blockQ_n ?_ | refine awp_skip ?_ | refine awp_seq ?_ | refine awp_block ?_)); (conv => whnf)))
  refine br_eq (fun h => ?_) (fun h => ?_)
  · obtain ⟨ha, hb, hl⟩ := boE_inv h
    have h8 := ha.2.1
    have c1 := refIsParts_pure l d a.length (by omega)
    have e3 : cdE a b l d = if IsP l d a.length then 0 else 2 := by unfold cdE; rw [if_pos h]
    ((conv => whnf); repeat (refine stepK_in ?_; (repeat (first | refine seqQ_n ?_ | refine blockQ_n ?_ | refine awp_skip ?_ | refine awp_seq ?_ | refine awp_block ?_)); (conv => whnf)))
    refine APure.to (APure.arg2 (sub2 rfl rfl) (Sub.refl _) c1) ?_
    ((conv => whnf); repeat (refine stepK_in ?_; (repeat (first | refine seqQ_n ?_ | refine blockQ_n ?_ | refine awp_skip ?_ | refine awp_seq ?_ | refine awp_block ?_)); (conv => whnf)))
    refine br_not ?_
    refine br_dec (fun hp => ?_) (fun h4 => ?_)
    · rw [if_pos hp] at e3
      have e2 := e2 e3
      have hf := pts_in ha
      have hg : in100 a.length (fA b) := by rw [hl]; exact pts_in hb
      have hln := hp.1
      have out : ¬ Eff (fA a) (fA b) a.length l d → tup2 (.bool false) (.int 0) = efV a b l d := fun h => by rw [← e2, decide_eq_false h]
      have out2 : Eff (fA a) (fA b) a.length l d → tup2 (.bool true) (.int 0) = efV a b l d := fun h => by rw [← e2, decide_eq_true h]
      clear e1 e2 e3
      generalize efV a b l d = E at *
      ((conv => whnf); repeat (refine stepK_in ?_; (repeat (first | refine seqQ_n ?_ | refine blockQ_n ?_ | refine awp_skip ?_ | refine awp_seq ?_ | refine awp_block ?_)); (conv => whnf)))
      refine br_ne (fun h2 => absurd h h2) (fun _ => ?_)
      ((conv => whnf); repeat (refine stepK_in ?_; (repeat (first | refine seqQ_n ?_ | refine blockQ_n ?_ | refine awp_skip ?_ | refine awp_seq ?_ | refine awp_block ?_)); (conv => whnf)))
      refine AW_loopA (X := cx 115) (cx_ok 115) [0, 1, 5, 9] (fun t => Nat.blt t 1) (fun vs M => ∃ i : Nat, i ≤ a.length ∧ (∀ q, q < i → EffI (fA a) (fA b) l d q ∧ ∀ k, k < a.length → EffK (fA a) (fA b) l d k q) ∧ vs = [.ints false a, .ints false b, .ptr 0 0 0 0, .int i] ∧ M = [some ⟨24, 2, 0, .one [.ints false l, .int d]⟩])
        (fun vs _ => a.length - (vs.getD 3 .any).toInt.toNat) (fun t ht => by have : t < 1 := ht; simp; omega) ?_ ?_
      · exact same0 ⟨0, Nat.zero_le _, fun q hq => absurd hq (by omega), rfl, rfl⟩
      rintro vs M ⟨i, hi, hI, rfl, rfl⟩
      ((conv => whnf); repeat (refine stepK_in ?_; (repeat (first | refine seqQ_n ?_ | refine blockQ_n ?_ | refine awp_skip ?_ | refine awp_seq ?_ | refine awp_block ?_)); (conv => whnf)))
      refine br_dec (fun hlt => ?_) (fun hge => ?_)
      · have hi' : i < a.length := by omega
        have hfi := hf i hi'
        have hgi := hg i hi'
        have cK := kind_pure (a.getD i 0) (b.getD i 0)
        have k0 := kind0 hfi.1 hgi.1
        have k2 := kind2 hfi.1 hgi.1
        ((conv => whnf); repeat (refine stepK_in ?_; (repeat (first | refine seqQ_n ?_ | refine blockQ_n ?_ | refine awp_skip ?_ | refine awp_seq ?_ | refine awp_block ?_)); (conv => whnf)))
        refine AW_draw (X := cx 115) (cx_ok 115) mixed (by kernel_rfl) ?_
        ((conv => whnf); repeat (refine stepK_in ?_; (repeat (first | refine seqQ_n ?_ | refine blockQ_n ?_ | refine awp_skip ?_ | refine awp_seq ?_ | refine awp_block ?_)); (conv => whnf)))
        repeat ((first | refine ⟨(show (0 : Int) ≤ (i : Int) by omega), ?_⟩ | refine ⟨(show (i : Int) < (a.length : Int) by omega), ?_⟩ | refine ⟨(show (i : Int) < (b.length : Int) by omega), ?_⟩ | refine ⟨(show (i : Int) < (l.length : Int) by omega), ?_⟩); ((conv => whnf); repeat (refine stepK_in ?_; (repeat (first | refine seqQ_n ?_ | refine blockQ_n ?_ | refine awp_skip ?_ | refine awp_seq ?_ | refine awp_block ?_)); (conv => whnf))))
        refine ⟨_, cK, ?_⟩
        ((conv => whnf); repeat (refine stepK_in ?_; (repeat (first | refine seqQ_n ?_ | refine blockQ_n ?_ | refine awp_skip ?_ | refine awp_seq ?_ | refine awp_block ?_)); (conv => whnf)))
        refine br_eq (fun h0 => ?_) (fun h0 => ?_)
        · have h0 : kindI (a.getD i 0) (b.getD i 0) = 0 := h0
          have n2 : ¬ kindI (a.getD i 0) (b.getD i 0) = 2 := by omega
          ((conv => whnf); repeat (refine stepK_in ?_; (repeat (first | refine seqQ_n ?_ | refine blockQ_n ?_ | refine awp_skip ?_ | refine awp_seq ?_ | refine awp_block ?_)); (conv => whnf)))
          repeat ((first | refine ⟨(show (0 : Int) ≤ (i : Int) by omega), ?_⟩ | refine ⟨(show (i : Int) < (a.length : Int) by omega), ?_⟩ | refine ⟨(show (i : Int) < (b.length : Int) by omega), ?_⟩ | refine ⟨(show (i : Int) < (l.length : Int) by omega), ?_⟩); ((conv => whnf); repeat (refine stepK_in ?_; (repeat (first | refine seqQ_n ?_ | refine blockQ_n ?_ | refine awp_skip ?_ | refine awp_seq ?_ | refine awp_block ?_)); (conv => whnf))))
          refine br_dec (fun hx => ?_) (fun hx => ?_)
          · have hx : l.getD i 0 < d := hx
            ((conv => whnf); repeat (refine stepK_in ?_; (repeat (first | refine seqQ_n ?_ | refine blockQ_n ?_ | refine awp_skip ?_ | refine awp_seq ?_ | refine awp_block ?_)); (conv => whnf)))
            exact ⟨trivial, trivial, out fun h6 => (h6 i hi').1.2 ⟨hx, k0.1 h0⟩⟩
          · have hx : ¬ l.getD i 0 < d := hx
            have hE : EffI (fA a) (fA b) l d i := ⟨fun h6 => n2 (k2.2 h6.2), fun h6 => hx h6.1⟩
            ((conv => whnf); repeat (refine stepK_in ?_; (repeat (first | refine seqQ_n ?_ | refine blockQ_n ?_ | refine awp_skip ?_ | refine awp_seq ?_ | refine awp_block ?_)); (conv => whnf)))
            repeat ((first | refine ⟨(show (0 : Int) ≤ (i : Int) by omega), ?_⟩ | refine ⟨(show (i : Int) < (a.length : Int) by omega), ?_⟩ | refine ⟨(show (i : Int) < (b.length : Int) by omega), ?_⟩ | refine ⟨(show (i : Int) < (l.length : Int) by omega), ?_⟩); ((conv => whnf); repeat (refine stepK_in ?_; (repeat (first | refine seqQ_n ?_ | refine blockQ_n ?_ | refine awp_skip ?_ | refine awp_seq ?_ | refine awp_block ?_)); (conv => whnf))))
            refine ⟨_, cK, ?_⟩
            ((conv => whnf); repeat (refine stepK_in ?_; (repeat (first | refine seqQ_n ?_ | refine blockQ_n ?_ | refine awp_skip ?_ | refine awp_seq ?_ | refine awp_block ?_)); (conv => whnf)))
            refine br_eq (fun h2 => absurd h2 n2) (fun h2 => ?_)
            ((conv => whnf); repeat (refine stepK_in ?_; (repeat (first | refine seqQ_n ?_ | refine blockQ_n ?_ | refine awp_skip ?_ | refine awp_seq ?_ | refine awp_block ?_)); (conv => whnf)))
            refine AW_loop (X := cx 115) (cx_ok 115) [0, 1, 5, 9, 10] (fun vs M => ∃ k : Nat, k ≤ a.length ∧ (∀ q, q < k → EffK (fA a) (fA b) l d q i) ∧ vs = [.ints false a, .ints false b, .ptr 0 0 0 0, .int i, .int k] ∧ M = [some ⟨24, 2, 0, .one [.ints false l, .int d]⟩])
              (fun vs _ => a.length - (vs.getD 4 .any).toInt.toNat) ?_ ?_
            · exact ⟨0, Nat.zero_le _, fun q hq => absurd hq (by omega), rfl, rfl⟩
            rintro vs M ⟨k, hk, hK, rfl, rfl⟩
            ((conv => whnf); repeat (refine stepK_in ?_; (repeat (first | refine seqQ_n ?_ | refine blockQ_n ?_ | refine awp_skip ?_ | refine awp_seq ?_ | refine awp_block ?_)); (conv => whnf)))
            refine br_dec (fun hlt2 => ?_) (fun hge2 => ?_)
            · have hk' : k < a.length := by omega
              have bad : ¬ EffK (fA a) (fA b) l d k i → ¬ Eff (fA a) (fA b) a.length l d := fun h5 h6 => h5 ((h6 k hk').2 i hi')
              have step : EffK (fA a) (fA b) l d k i → ∀ q, q < k + 1 → EffK (fA a) (fA b) l d q i := fun h5 q hq => by
                rcases (by omega : q < k ∨ q = k) with h6 | rfl
                · exact hK q h6
                · exact h5
              have m1 : 0 ≤ a.getD i 0 * b.getD k 0 ∧ a.getD i 0 * b.getD k 0 ≤ 10000 := mul100 hfi (hg k hk')
              have m2 : 0 ≤ a.getD k 0 * b.getD i 0 ∧ a.getD k 0 * b.getD i 0 ≤ 10000 := mul100 (hf k hk') hgi
              ((conv => whnf); repeat (refine stepK_in ?_; (repeat (first | refine seqQ_n ?_ | refine blockQ_n ?_ | refine awp_skip ?_ | refine awp_seq ?_ | refine awp_block ?_)); (conv => whnf)))
              refine AW_draw (X := cx 115) (cx_ok 115) mixed (by kernel_rfl) ?_
              ((conv => whnf); repeat (refine stepK_in ?_; (repeat (first | refine seqQ_n ?_ | refine blockQ_n ?_ | refine awp_skip ?_ | refine awp_seq ?_ | refine awp_block ?_)); (conv => whnf)))
              repeat ((first | refine ⟨(show (0 : Int) ≤ (i : Int) by omega), ?_⟩ | refine ⟨(show (i : Int) < (a.length : Int) by omega), ?_⟩ | refine ⟨(show (i : Int) < (b.length : Int) by omega), ?_⟩ | refine ⟨(show (i : Int) < (l.length : Int) by omega), ?_⟩ | refine ⟨(show (0 : Int) ≤ (k : Int) by omega), ?_⟩ | refine ⟨(show (k : Int) < (a.length : Int) by omega), ?_⟩ | refine ⟨(show (k : Int) < (b.length : Int) by omega), ?_⟩ | refine ⟨(show (k : Int) < (l.length : Int) by omega), ?_⟩ | refine ⟨(show InR (a.getD i 0 * b.getD k 0) from inr (by omega)), ?_⟩ | refine ⟨(show InR (a.getD k 0 * b.getD i 0) from inr (by omega)), ?_⟩); ((conv => whnf); repeat (refine stepK_in ?_; (repeat (first | refine seqQ_n ?_ | refine blockQ_n ?_ | refine awp_skip ?_ | refine awp_seq ?_ | refine awp_block ?_)); (conv => whnf))))
              refine br_dec (fun h7 => ?_) (fun h7 => ?_)
              · have h7 : l.getD i 0 < d := h7
                ((conv => whnf); repeat (refine stepK_in ?_; (repeat (first | refine seqQ_n ?_ | refine blockQ_n ?_ | refine awp_skip ?_ | refine awp_seq ?_ | refine awp_block ?_)); (conv => whnf)))
                repeat ((first | refine ⟨(show (0 : Int) ≤ (i : Int) by omega), ?_⟩ | refine ⟨(show (i : Int) < (a.length : Int) by omega), ?_⟩ | refine ⟨(show (i : Int) < (b.length : Int) by omega), ?_⟩ | refine ⟨(show (i : Int) < (l.length : Int) by omega), ?_⟩ | refine ⟨(show (0 : Int) ≤ (k : Int) by omega), ?_⟩ | refine ⟨(show (k : Int) < (a.length : Int) by omega), ?_⟩ | refine ⟨(show (k : Int) < (b.length : Int) by omega), ?_⟩ | refine ⟨(show (k : Int) < (l.length : Int) by omega), ?_⟩ | refine ⟨(show InR (a.getD i 0 * b.getD k 0) from inr (by omega)), ?_⟩ | refine ⟨(show InR (a.getD k 0 * b.getD i 0) from inr (by omega)), ?_⟩); ((conv => whnf); repeat (refine stepK_in ?_; (repeat (first | refine seqQ_n ?_ | refine blockQ_n ?_ | refine awp_skip ?_ | refine awp_seq ?_ | refine awp_block ?_)); (conv => whnf))))
                refine br_dec (fun h8 => ?_) (fun h8 => ?_)
                · have h8 : l.getD k 0 > 0 := h8
                  ((conv => whnf); repeat (refine stepK_in ?_; (repeat (first | refine seqQ_n ?_ | refine blockQ_n ?_ | refine awp_skip ?_ | refine awp_seq ?_ | refine awp_block ?_)); (conv => whnf)))
                  repeat ((first | refine ⟨(show (0 : Int) ≤ (i : Int) by omega), ?_⟩ | refine ⟨(show (i : Int) < (a.length : Int) by omega), ?_⟩ | refine ⟨(show (i : Int) < (b.length : Int) by omega), ?_⟩ | refine ⟨(show (i : Int) < (l.length : Int) by omega), ?_⟩ | refine ⟨(show (0 : Int) ≤ (k : Int) by omega), ?_⟩ | refine ⟨(show (k : Int) < (a.length : Int) by omega), ?_⟩ | refine ⟨(show (k : Int) < (b.length : Int) by omega), ?_⟩ | refine ⟨(show (k : Int) < (l.length : Int) by omega), ?_⟩ | refine ⟨(show InR (a.getD i 0 * b.getD k 0) from inr (by omega)), ?_⟩ | refine ⟨(show InR (a.getD k 0 * b.getD i 0) from inr (by omega)), ?_⟩); ((conv => whnf); repeat (refine stepK_in ?_; (repeat (first | refine seqQ_n ?_ | refine blockQ_n ?_ | refine awp_skip ?_ | refine awp_seq ?_ | refine awp_block ?_)); (conv => whnf))))
                  refine br_dec (fun h9 => ?_) (fun h9 => ?_)
                  · have h9 : a.getD i 0 * b.getD k 0 > a.getD k 0 * b.getD i 0 := h9
                    ((conv => whnf); repeat (refine stepK_in ?_; (repeat (first | refine seqQ_n ?_ | refine blockQ_n ?_ | refine awp_skip ?_ | refine awp_seq ?_ | refine awp_block ?_)); (conv => whnf)))
                    exact ⟨trivial, trivial, out (bad fun h6 => h6 ⟨h8, h7, h9⟩)⟩
                  · have hok : EffK (fA a) (fA b) l d k i := fun h6 => h9 h6.2.2
                    ((conv => whnf); repeat (refine stepK_in ?_; (repeat (first | refine seqQ_n ?_ | refine blockQ_n ?_ | refine awp_skip ?_ | refine awp_seq ?_ | refine awp_block ?_)); (conv => whnf)))
                    refine ⟨inr (by omega), ?_⟩
                    ((conv => whnf); repeat (refine stepK_in ?_; (repeat (first | refine seqQ_n ?_ | refine blockQ_n ?_ | refine awp_skip ?_ | refine awp_seq ?_ | refine awp_block ?_)); (conv => whnf)))
                    refine ⟨⟨k + 1, hk', step hok, rfl, rfl⟩, ?_⟩
                    simp [V.toInt, sel, Env.get]; omega
                · have hok : EffK (fA a) (fA b) l d k i := fun h6 => h8 h6.1
                  ((conv => whnf); repeat (refine stepK_in ?_; (repeat (first | refine seqQ_n ?_ | refine blockQ_n ?_ | refine awp_skip ?_ | refine awp_seq ?_ | refine awp_block ?_)); (conv => whnf)))
                  refine ⟨inr (by omega), ?_⟩
                  ((conv => whnf); repeat (refine stepK_in ?_; (repeat (first | refine seqQ_n ?_ | refine blockQ_n ?_ | refine awp_skip ?_ | refine awp_seq ?_ | refine awp_block ?_)); (conv => whnf)))
                  refine ⟨⟨k + 1, hk', step hok, rfl, rfl⟩, ?_⟩
                  simp [V.toInt, sel, Env.get]; omega
              · have hok : EffK (fA a) (fA b) l d k i := fun h6 => h7 h6.2.1
                ((conv => whnf); repeat (refine stepK_in ?_; (repeat (first | refine seqQ_n ?_ | refine blockQ_n ?_ | refine awp_skip ?_ | refine awp_seq ?_ | refine awp_block ?_)); (conv => whnf)))
                refine ⟨inr (by omega), ?_⟩
                ((conv => whnf); repeat (refine stepK_in ?_; (repeat (first | refine seqQ_n ?_ | refine blockQ_n ?_ | refine awp_skip ?_ | refine awp_seq ?_ | refine awp_block ?_)); (conv => whnf)))
                refine ⟨⟨k + 1, hk', step hok, rfl, rfl⟩, ?_⟩
                simp [V.toInt, sel, Env.get]; omega
            · obtain rfl : k = a.length := by omega
              ((conv => whnf); repeat (refine stepK_in ?_; (repeat (first | refine seqQ_n ?_ | refine blockQ_n ?_ | refine awp_skip ?_ | refine awp_seq ?_ | refine awp_block ?_)); (conv => whnf)))
              refine ⟨inr (by omega), ?_⟩
              ((conv => whnf); repeat (refine stepK_in ?_; (repeat (first | refine seqQ_n ?_ | refine blockQ_n ?_ | refine awp_skip ?_ | refine awp_seq ?_ | refine awp_block ?_)); (conv => whnf)))
              refine ⟨by repeat (first | exact trivial | exact rfl | exact fun _ => trivial | exact fun _ _ => trivial | exact fun _ _ _ => trivial | exact fun _ _ _ _ => trivial | refine And.intro ?_ ?_), memA1 [some ⟨24, 2, 0, .one [.ints false l, .int d]⟩] ⟨ObSub.refl _, trivial⟩ ⟨⟨i + 1, hi', fun q hq => ?_, rfl, rfl⟩, ?_⟩⟩
              · rcases (by omega : q < i ∨ q = i) with h6 | rfl
                · exact hI q h6
                · exact ⟨hE, hK⟩
              · simp [V.toInt, sel, Env.get]; omega
        · have h0 : ¬ kindI (a.getD i 0) (b.getD i 0) = 0 := h0
          ((conv => whnf); repeat (refine stepK_in ?_; (repeat (first | refine seqQ_n ?_ | refine blockQ_n ?_ | refine awp_skip ?_ | refine awp_seq ?_ | refine awp_block ?_)); (conv => whnf)))
          repeat ((first | refine ⟨(show (0 : Int) ≤ (i : Int) by omega), ?_⟩ | refine ⟨(show (i : Int) < (a.length : Int) by omega), ?_⟩ | refine ⟨(show (i : Int) < (b.length : Int) by omega), ?_⟩ | refine ⟨(show (i : Int) < (l.length : Int) by omega), ?_⟩); ((conv => whnf); repeat (refine stepK_in ?_; (repeat (first | refine seqQ_n ?_ | refine blockQ_n ?_ | refine awp_skip ?_ | refine awp_seq ?_ | refine awp_block ?_)); (conv => whnf))))
          refine ⟨_, cK, ?_⟩
          ((conv => whnf); repeat (refine stepK_in ?_; (repeat (first | refine seqQ_n ?_ | refine blockQ_n ?_ | refine awp_skip ?_ | refine awp_seq ?_ | refine awp_block ?_)); (conv => whnf)))
          refine br_eq (fun h2 => ?_) (fun h2 => ?_)
          · have h2 : kindI (a.getD i 0) (b.getD i 0) = 2 := h2
            ((conv => whnf); repeat (refine stepK_in ?_; (repeat (first | refine seqQ_n ?_ | refine blockQ_n ?_ | refine awp_skip ?_ | refine awp_seq ?_ | refine awp_block ?_)); (conv => whnf)))
            repeat ((first | refine ⟨(show (0 : Int) ≤ (i : Int) by omega), ?_⟩ | refine ⟨(show (i : Int) < (a.length : Int) by omega), ?_⟩ | refine ⟨(show (i : Int) < (b.length : Int) by omega), ?_⟩ | refine ⟨(show (i : Int) < (l.length : Int) by omega), ?_⟩); ((conv => whnf); repeat (refine stepK_in ?_; (repeat (first | refine seqQ_n ?_ | refine blockQ_n ?_ | refine awp_skip ?_ | refine awp_seq ?_ | refine awp_block ?_)); (conv => whnf))))
            refine br_dec (fun hx => ?_) (fun hx => ?_)
            · have hx : l.getD i 0 > 0 := hx
              ((conv => whnf); repeat (refine stepK_in ?_; (repeat (first | refine seqQ_n ?_ | refine blockQ_n ?_ | refine awp_skip ?_ | refine awp_seq ?_ | refine awp_block ?_)); (conv => whnf)))
              exact ⟨trivial, trivial, out fun h6 => (h6 i hi').1.1 ⟨hx, k2.1 h2⟩⟩
            · have hx : ¬ l.getD i 0 > 0 := hx
              have hE : EffI (fA a) (fA b) l d i := ⟨fun h6 => hx h6.1, fun h6 => h0 (k0.2 h6.2)⟩
              ((conv => whnf); repeat (refine stepK_in ?_; (repeat (first | refine seqQ_n ?_ | refine blockQ_n ?_ | refine awp_skip ?_ | refine awp_seq ?_ | refine awp_block ?_)); (conv => whnf)))
              refine AW_loop (X := cx 115) (cx_ok 115) [0, 1, 5, 9, 10] (fun vs M => ∃ k : Nat, k ≤ a.length ∧ (∀ q, q < k → EffK (fA a) (fA b) l d q i) ∧ vs = [.ints false a, .ints false b, .ptr 0 0 0 0, .int i, .int k] ∧ M = [some ⟨24, 2, 0, .one [.ints false l, .int d]⟩])
                (fun vs _ => a.length - (vs.getD 4 .any).toInt.toNat) ?_ ?_
              · exact ⟨0, Nat.zero_le _, fun q hq => absurd hq (by omega), rfl, rfl⟩
              rintro vs M ⟨k, hk, hK, rfl, rfl⟩
              ((conv => whnf); repeat (refine stepK_in ?_; (repeat (first | refine seqQ_n ?_ | refine blockQ_n ?_ | refine awp_skip ?_ | refine awp_seq ?_ | refine awp_block ?_)); (conv => whnf)))
              refine br_dec (fun hlt2 => ?_) (fun hge2 => ?_)
              · have hk' : k < a.length := by omega
                have bad : ¬ EffK (fA a) (fA b) l d k i → ¬ Eff (fA a) (fA b) a.length l d := fun h5 h6 => h5 ((h6 k hk').2 i hi')
                have step : EffK (fA a) (fA b) l d k i → ∀ q, q < k + 1 → EffK (fA a) (fA b) l d q i := fun h5 q hq => by
                  rcases (by omega : q < k ∨ q = k) with h6 | rfl
                  · exact hK q h6
                  · exact h5
                have m1 : 0 ≤ a.getD i 0 * b.getD k 0 ∧ a.getD i 0 * b.getD k 0 ≤ 10000 := mul100 hfi (hg k hk')
                have m2 : 0 ≤ a.getD k 0 * b.getD i 0 ∧ a.getD k 0 * b.getD i 0 ≤ 10000 := mul100 (hf k hk') hgi
                ((conv => whnf); repeat (refine stepK_in ?_; (repeat (first | refine seqQ_n ?_ | refine blockQ_n ?_ | refine awp_skip ?_ | refine awp_seq ?_ | refine awp_block ?_)); (conv => whnf)))
                refine AW_draw (X := cx 115) (cx_ok 115) mixed (by kernel_rfl) ?_
                ((conv => whnf); repeat (refine stepK_in ?_; (repeat (first | refine seqQ_n ?_ | refine blockQ_n ?_ | refine awp_skip ?_ | refine awp_seq ?_ | refine awp_block ?_)); (conv => whnf)))
                repeat ((first | refine ⟨(show (0 : Int) ≤ (i : Int) by omega), ?_⟩ | refine ⟨(show (i : Int) < (a.length : Int) by omega), ?_⟩ | refine ⟨(show (i : Int) < (b.length : Int) by omega), ?_⟩ | refine ⟨(show (i : Int) < (l.length : Int) by omega), ?_⟩ | refine ⟨(show (0 : Int) ≤ (k : Int) by omega), ?_⟩ | refine ⟨(show (k : Int) < (a.length : Int) by omega), ?_⟩ | refine ⟨(show (k : Int) < (b.length : Int) by omega), ?_⟩ | refine ⟨(show (k : Int) < (l.length : Int) by omega), ?_⟩ | refine ⟨(show InR (a.getD i 0 * b.getD k 0) from inr (by omega)), ?_⟩ | refine ⟨(show InR (a.getD k 0 * b.getD i 0) from inr (by omega)), ?_⟩); ((conv => whnf); repeat (refine stepK_in ?_; (repeat (first | refine seqQ_n ?_ | refine blockQ_n ?_ | refine awp_skip ?_ | refine awp_seq ?_ | refine awp_block ?_)); (conv => whnf))))
                refine br_dec (fun h7 => ?_) (fun h7 => ?_)
                · have h7 : l.getD i 0 < d := h7
                  ((conv => whnf); repeat (refine stepK_in ?_; (repeat (first | refine seqQ_n ?_ | refine blockQ_n ?_ | refine awp_skip ?_ | refine awp_seq ?_ | refine awp_block ?_)); (conv => whnf)))
                  repeat ((first | refine ⟨(show (0 : Int) ≤ (i : Int) by omega), ?_⟩ | refine ⟨(show (i : Int) < (a.length : Int) by omega), ?_⟩ | refine ⟨(show (i : Int) < (b.length : Int) by omega), ?_⟩ | refine ⟨(show (i : Int) < (l.length : Int) by omega), ?_⟩ | refine ⟨(show (0 : Int) ≤ (k : Int) by omega), ?_⟩ | refine ⟨(show (k : Int) < (a.length : Int) by omega), ?_⟩ | refine ⟨(show (k : Int) < (b.length : Int) by omega), ?_⟩ | refine ⟨(show (k : Int) < (l.length : Int) by omega), ?_⟩ | refine ⟨(show InR (a.getD i 0 * b.getD k 0) from inr (by omega)), ?_⟩ | refine ⟨(show InR (a.getD k 0 * b.getD i 0) from inr (by omega)), ?_⟩); ((conv => whnf); repeat (refine stepK_in ?_; (repeat (first | refine seqQ_n ?_ | refine blockQ_n ?_ | refine awp_skip ?_ | refine awp_seq ?_ | refine awp_block ?_)); (conv => whnf))))
                  refine br_dec (fun h8 => ?_) (fun h8 => ?_)
                  · have h8 : l.getD k 0 > 0 := h8
                    ((conv => whnf); repeat (refine stepK_in ?_; (repeat (first | refine seqQ_n ?_ | refine blockQ_n ?_ | refine awp_skip ?_ | refine awp_seq ?_ | refine awp_block ?_)); (conv => whnf)))
                    repeat ((first | refine ⟨(show (0 : Int) ≤ (i : Int) by omega), ?_⟩ | refine ⟨(show (i : Int) < (a.length : Int) by omega), ?_⟩ | refine ⟨(show (i : Int) < (b.length : Int) by omega), ?_⟩ | refine ⟨(show (i : Int) < (l.length : Int) by omega), ?_⟩ | refine ⟨(show (0 : Int) ≤ (k : Int) by omega), ?_⟩ | refine ⟨(show (k : Int) < (a.length : Int) by omega), ?_⟩ | refine ⟨(show (k : Int) < (b.length : Int) by omega), ?_⟩ | refine ⟨(show (k : Int) < (l.length : Int) by omega), ?_⟩ | refine ⟨(show InR (a.getD i 0 * b.getD k 0) from inr (by omega)), ?_⟩ | refine ⟨(show InR (a.getD k 0 * b.getD i 0) from inr (by omega)), ?_⟩); ((conv => whnf); repeat (refine stepK_in ?_; (repeat (first | refine seqQ_n ?_ | refine blockQ_n ?_ | refine awp_skip ?_ | refine awp_seq ?_ | refine awp_block ?_)); (conv => whnf))))
                    refine br_dec (fun h9 => ?_) (fun h9 => ?_)
                    · have h9 : a.getD i 0 * b.getD k 0 > a.getD k 0 * b.getD i 0 := h9
                      ((conv => whnf); repeat (refine stepK_in ?_; (repeat (first | refine seqQ_n ?_ | refine blockQ_n ?_ | refine awp_skip ?_ | refine awp_seq ?_ | refine awp_block ?_)); (conv => whnf)))
                      exact ⟨trivial, trivial, out (bad fun h6 => h6 ⟨h8, h7, h9⟩)⟩
                    · have hok : EffK (fA a) (fA b) l d k i := fun h6 => h9 h6.2.2
                      ((conv => whnf); repeat (refine stepK_in ?_; (repeat (first | refine seqQ_n ?_ | refine blockQ_n ?_ | refine awp_skip ?_ | refine awp_seq ?_ | refine awp_block ?_)); (conv => whnf)))
                      refine ⟨inr (by omega), ?_⟩
                      ((conv => whnf); repeat (refine stepK_in ?_; (repeat (first | refine seqQ_n ?_ | refine blockQ_n ?_ | refine awp_skip ?_ | refine awp_seq ?_ | refine awp_block ?_)); (conv => whnf)))
                      refine ⟨⟨k + 1, hk', step hok, rfl, rfl⟩, ?_⟩
                      simp [V.toInt, sel, Env.get]; omega
                  · have hok : EffK (fA a) (fA b) l d k i := fun h6 => h8 h6.1
                    ((conv => whnf); repeat (refine stepK_in ?_; (repeat (first | refine seqQ_n ?_ | refine blockQ_n ?_ | refine awp_skip ?_ | refine awp_seq ?_ | refine awp_block ?_)); (conv => whnf)))
                    refine ⟨inr (by omega), ?_⟩
                    ((conv => whnf); repeat (refine stepK_in ?_; (repeat (first | refine seqQ_n ?_ | refine blockQ_n ?_ | refine awp_skip ?_ | refine awp_seq ?_ | refine awp_block ?_)); (conv => whnf)))
                    refine ⟨⟨k + 1, hk', step hok, rfl, rfl⟩, ?_⟩
                    simp [V.toInt, sel, Env.get]; omega
                · have hok : EffK (fA a) (fA b) l d k i := fun h6 => h7 h6.2.1
                  ((conv => whnf); repeat (refine stepK_in ?_; (repeat (first | refine seqQ_n ?_ | refine blockQ_n ?_ | refine awp_skip ?_ | refine awp_seq ?_ | refine awp_block ?_)); (conv => whnf)))
                  refine ⟨inr (by omega), ?_⟩
                  ((conv => whnf); repeat (refine stepK_in ?_; (repeat (first | refine seqQ_n ?_ | refine blockQ_n ?_ | refine awp_skip ?_ | refine awp_seq ?_ | refine awp_block ?_)); (conv => whnf)))
                  refine ⟨⟨k + 1, hk', step hok, rfl, rfl⟩, ?_⟩
                  simp [V.toInt, sel, Env.get]; omega
              · obtain rfl : k = a.length := by omega
                ((conv => whnf); repeat (refine stepK_in ?_; (repeat (first | refine seqQ_n ?_ | refine blockQ_n ?_ | refine awp_skip ?_ | refine awp_seq ?_ | refine awp_block ?_)); (conv => whnf)))
                refine ⟨inr (by omega), ?_⟩
                ((conv => whnf); repeat (refine stepK_in ?_; (repeat (first | refine seqQ_n ?_ | refine blockQ_n ?_ | refine awp_skip ?_ | refine awp_seq ?_ | refine awp_block ?_)); (conv => whnf)))
                refine ⟨by repeat (first | exact trivial | exact rfl | exact fun _ => trivial | exact fun _ _ => trivial | exact fun _ _ _ => trivial | exact fun _ _ _ _ => trivial | refine And.intro ?_ ?_), memA1 [some ⟨24, 2, 0, .one [.ints false l, .int d]⟩] ⟨ObSub.refl _, trivial⟩ ⟨⟨i + 1, hi', fun q hq => ?_, rfl, rfl⟩, ?_⟩⟩
                · rcases (by omega : q < i ∨ q = i) with h6 | rfl
                  · exact hI q h6
                  · exact ⟨hE, hK⟩
                · simp [V.toInt, sel, Env.get]; omega
          · have h2 : ¬ kindI (a.getD i 0) (b.getD i 0) = 2 := h2
            have hE : EffI (fA a) (fA b) l d i := ⟨fun h6 => h2 (k2.2 h6.2), fun h6 => h0 (k0.2 h6.2)⟩
            ((conv => whnf); repeat (refine stepK_in ?_; (repeat (first | refine seqQ_n ?_ | refine blockQ_n ?_ | refine awp_skip ?_ | refine awp_seq ?_ | refine awp_block ?_)); (conv => whnf)))
            refine AW_loop (X := cx 115) (cx_ok 115) [0, 1, 5, 9, 10] (fun vs M => ∃ k : Nat, k ≤ a.length ∧ (∀ q, q < k → EffK (fA a) (fA b) l d q i) ∧ vs = [.ints false a, .ints false b, .ptr 0 0 0 0, .int i, .int k] ∧ M = [some ⟨24, 2, 0, .one [.ints false l, .int d]⟩])
              (fun vs _ => a.length - (vs.getD 4 .any).toInt.toNat) ?_ ?_
            · exact ⟨0, Nat.zero_le _, fun q hq => absurd hq (by omega), rfl, rfl⟩
            rintro vs M ⟨k, hk, hK, rfl, rfl⟩
            ((conv => whnf); repeat (refine stepK_in ?_; (repeat (first | refine seqQ_n ?_ | refine blockQ_n ?_ | refine awp_skip ?_ | refine awp_seq ?_ | refine awp_block ?_)); (conv => whnf)))
            refine br_dec (fun hlt2 => ?_) (fun hge2 => ?_)
            · have hk' : k < a.length := by omega
              have bad : ¬ EffK (fA a) (fA b) l d k i → ¬ Eff (fA a) (fA b) a.length l d := fun h5 h6 => h5 ((h6 k hk').2 i hi')
              have step : EffK (fA a) (fA b) l d k i → ∀ q, q < k + 1 → EffK (fA a) (fA b) l d q i := fun h5 q hq => by
                rcases (by omega : q < k ∨ q = k) with h6 | rfl
                · exact hK q h6
                · exact h5
              have m1 : 0 ≤ a.getD i 0 * b.getD k 0 ∧ a.getD i 0 * b.getD k 0 ≤ 10000 := mul100 hfi (hg k hk')
              have m2 : 0 ≤ a.getD k 0 * b.getD i 0 ∧ a.getD k 0 * b.getD i 0 ≤ 10000 := mul100 (hf k hk') hgi
              ((conv => whnf); repeat (refine stepK_in ?_; (repeat (first | refine seqQ_n ?_ | refine blockQ_n ?_ | refine awp_skip ?_ | refine awp_seq ?_ | refine awp_block ?_)); (conv => whnf)))
              refine AW_draw (X := cx 115) (cx_ok 115) mixed (by kernel_rfl) ?_
              ((conv => whnf); repeat (refine stepK_in ?_; (repeat (first | refine seqQ_n ?_ | refine blockQ_n ?_ | refine awp_skip ?_ | refine awp_seq ?_ | refine awp_block ?_)); (conv => whnf)))
              repeat ((first | refine ⟨(show (0 : Int) ≤ (i : Int) by omega), ?_⟩ | refine ⟨(show (i : Int) < (a.length : Int) by omega), ?_⟩ | refine ⟨(show (i : Int) < (b.length : Int) by omega), ?_⟩ | refine ⟨(show (i : Int) < (l.length : Int) by omega), ?_⟩ | refine ⟨(show (0 : Int) ≤ (k : Int) by omega), ?_⟩ | refine ⟨(show (k : Int) < (a.length : Int) by omega), ?_⟩ | refine ⟨(show (k : Int) < (b.length : Int) by omega), ?_⟩ | refine ⟨(show (k : Int) < (l.length : Int) by omega), ?_⟩ | refine ⟨(show InR (a.getD i 0 * b.getD k 0) from inr (by omega)), ?_⟩ | refine ⟨(show InR (a.getD k 0 * b.getD i 0) from inr (by omega)), ?_⟩); ((conv => whnf); repeat (refine stepK_in ?_; (repeat (first | refine seqQ_n ?_ | refine blockQ_n ?_ | refine awp_skip ?_ | refine awp_seq ?_ | refine awp_block ?_)); (conv => whnf))))
              refine br_dec (fun h7 => ?_) (fun h7 => ?_)
              · have h7 : l.getD i 0 < d := h7
                ((conv => whnf); repeat (refine stepK_in ?_; (repeat (first | refine seqQ_n ?_ | refine blockQ_n ?_ | refine awp_skip ?_ | refine awp_seq ?_ | refine awp_block ?_)); (conv => whnf)))
                repeat ((first | refine ⟨(show (0 : Int) ≤ (i : Int) by omega), ?_⟩ | refine ⟨(show (i : Int) < (a.length : Int) by omega), ?_⟩ | refine ⟨(show (i : Int) < (b.length : Int) by omega), ?_⟩ | refine ⟨(show (i : Int) < (l.length : Int) by omega), ?_⟩ | refine ⟨(show (0 : Int) ≤ (k : Int) by omega), ?_⟩ | refine ⟨(show (k : Int) < (a.length : Int) by omega), ?_⟩ | refine ⟨(show (k : Int) < (b.length : Int) by omega), ?_⟩ | refine ⟨(show (k : Int) < (l.length : Int) by omega), ?_⟩ | refine ⟨(show InR (a.getD i 0 * b.getD k 0) from inr (by omega)), ?_⟩ | refine ⟨(show InR (a.getD k 0 * b.getD i 0) from inr (by omega)), ?_⟩); ((conv => whnf); repeat (refine stepK_in ?_; (repeat (first | refine seqQ_n ?_ | refine blockQ_n ?_ | refine awp_skip ?_ | refine awp_seq ?_ | refine awp_block ?_)); (conv => whnf))))
                refine br_dec (fun h8 => ?_) (fun h8 => ?_)
                · have h8 : l.getD k 0 > 0 := h8
                  ((conv => whnf); repeat (refine stepK_in ?_; (repeat (first | refine seqQ_n ?_ | refine blockQ_n ?_ | refine awp_skip ?_ | refine awp_seq ?_ | refine awp_block ?_)); (conv => whnf)))
                  repeat ((first | refine ⟨(show (0 : Int) ≤ (i : Int) by omega), ?_⟩ | refine ⟨(show (i : Int) < (a.length : Int) by omega), ?_⟩ | refine ⟨(show (i : Int) < (b.length : Int) by omega), ?_⟩ | refine ⟨(show (i : Int) < (l.length : Int) by omega), ?_⟩ | refine ⟨(show (0 : Int) ≤ (k : Int) by omega), ?_⟩ | refine ⟨(show (k : Int) < (a.length : Int) by omega), ?_⟩ | refine ⟨(show (k : Int) < (b.length : Int) by omega), ?_⟩ | refine ⟨(show (k : Int) < (l.length : Int) by omega), ?_⟩ | refine ⟨(show InR (a.getD i 0 * b.getD k 0) from inr (by omega)), ?_⟩ | refine ⟨(show InR (a.getD k 0 * b.getD i 0) from inr (by omega)), ?_⟩); ((conv => whnf); repeat (refine stepK_in ?_; (repeat (first | refine seqQ_n ?_ | refine blockQ_n ?_ | refine awp_skip ?_ | refine awp_seq ?_ | refine awp_block ?_)); (conv => whnf))))
                  refine br_dec (fun h9 => ?_) (fun h9 => ?_)
                  · have h9 : a.getD i 0 * b.getD k 0 > a.getD k 0 * b.getD i 0 := h9
                    ((conv => whnf); repeat (refine stepK_in ?_; (repeat (first | refine seqQ_n ?_ | refine blockQ_n ?_ | refine awp_skip ?_ | refine awp_seq ?_ | refine awp_block ?_)); (conv => whnf)))
                    exact ⟨trivial, trivial, out (bad fun h6 => h6 ⟨h8, h7, h9⟩)⟩
                  · have hok : EffK (fA a) (fA b) l d k i := fun h6 => h9 h6.2.2
                    ((conv => whnf); repeat (refine stepK_in ?_; (repeat (first | refine seqQ_n ?_ | refine blockQ_n ?_ | refine awp_skip ?_ | refine awp_seq ?_ | refine awp_block ?_)); (conv => whnf)))
                    refine ⟨inr (by omega), ?_⟩
                    ((conv => whnf); repeat (refine stepK_in ?_; (repeat (first | refine seqQ_n ?_ | refine blockQ_n ?_ | refine awp_skip ?_ | refine awp_seq ?_ | refine awp_block ?_)); (conv => whnf)))
                    refine ⟨⟨k + 1, hk', step hok, rfl, rfl⟩, ?_⟩
                    simp [V.toInt, sel, Env.get]; omega
                · have hok : EffK (fA a) (fA b) l d k i := fun h6 => h8 h6.1
                  ((conv => whnf); repeat (refine stepK_in ?_; (repeat (first | refine seqQ_n ?_ | refine blockQ_n ?_ | refine awp_skip ?_ | refine awp_seq ?_ | refine awp_block ?_)); (conv => whnf)))
                  refine ⟨inr (by omega), ?_⟩
                  ((conv => whnf); repeat (refine stepK_in ?_; (repeat (first | refine seqQ_n ?_ | refine blockQ_n ?_ | refine awp_skip ?_ | refine awp_seq ?_ | refine awp_block ?_)); (conv => whnf)))
                  refine ⟨⟨k + 1, hk', step hok, rfl, rfl⟩, ?_⟩
                  simp [V.toInt, sel, Env.get]; omega
              · have hok : EffK (fA a) (fA b) l d k i := fun h6 => h7 h6.2.1
                ((conv => whnf); repeat (refine stepK_in ?_; (repeat (first | refine seqQ_n ?_ | refine blockQ_n ?_ | refine awp_skip ?_ | refine awp_seq ?_ | refine awp_block ?_)); (conv => whnf)))
                refine ⟨inr (by omega), ?_⟩
                ((conv => whnf); repeat (refine stepK_in ?_; (repeat (first | refine seqQ_n ?_ | refine blockQ_n ?_ | refine awp_skip ?_ | refine awp_seq ?_ | refine awp_block ?_)); (conv => whnf)))
                refine ⟨⟨k + 1, hk', step hok, rfl, rfl⟩, ?_⟩
                simp [V.toInt, sel, Env.get]; omega
            · obtain rfl : k = a.length := by omega
              ((conv => whnf); repeat (refine stepK_in ?_; (repeat (first | refine seqQ_n ?_ | refine blockQ_n ?_ | refine awp_skip ?_ | refine awp_seq ?_ | refine awp_block ?_)); (conv => whnf)))
              refine ⟨inr (by omega), ?_⟩
              ((conv => whnf); repeat (refine stepK_in ?_; (repeat (first | refine seqQ_n ?_ | refine blockQ_n ?_ | refine awp_skip ?_ | refine awp_seq ?_ | refine awp_block ?_)); (conv => whnf)))
              refine ⟨by repeat (first | exact trivial | exact rfl | exact fun _ => trivial | exact fun _ _ => trivial | exact fun _ _ _ => trivial | exact fun _ _ _ _ => trivial | refine And.intro ?_ ?_), memA1 [some ⟨24, 2, 0, .one [.ints false l, .int d]⟩] ⟨ObSub.refl _, trivial⟩ ⟨⟨i + 1, hi', fun q hq => ?_, rfl, rfl⟩, ?_⟩⟩
              · rcases (by omega : q < i ∨ q = i) with h6 | rfl
                · exact hI q h6
                · exact ⟨hE, hK⟩
              · simp [V.toInt, sel, Env.get]; omega
      · obtain rfl : i = a.length := by omega
        ((conv => whnf); repeat (refine stepK_in ?_; (repeat (first | refine seqQ_n ?_ | refine blockQ_n ?_ | refine awp_skip ?_ | refine awp_seq ?_ | refine awp_block ?_)); (conv => whnf)))
        exact ⟨trivial, trivial, out2 fun i hi => ⟨(hI i hi).1, fun k hk => (hI k hk).2 i hi⟩⟩
    · rw [if_neg h4] at e3
      have e1 := e1 (by omega)
      rw [e3] at e1
      ((conv => whnf); repeat (refine stepK_in ?_; (repeat (first | refine seqQ_n ?_ | refine blockQ_n ?_ | refine awp_skip ?_ | refine awp_seq ?_ | refine awp_block ?_)); (conv => whnf)))
      exact ⟨trivial, trivial, e1⟩
  · have e3 : cdE a b l d = boE a b := by unfold cdE; rw [if_neg h]
    have e1 := e1 (by omega)
    rw [e3] at e1
    ((conv => whnf); repeat (refine stepK_in ?_; (repeat (first | refine seqQ_n ?_ | refine blockQ_n ?_ | refine awp_skip ?_ | refine awp_seq ?_ | refine awp_block ?_)); (conv => whnf)))
    refine br_ne (fun h2 => ?_) (fun h2 => absurd h2 h)
    ((conv => whnf); repeat (refine stepK_in ?_; (repeat (first | refine seqQ_n ?_ | refine blockQ_n ?_ | refine awp_skip ?_ | refine awp_seq ?_ | refine awp_block ?_)); (conv => whnf)))
    exact ⟨trivial, trivial, e1⟩
end Go.Tri
