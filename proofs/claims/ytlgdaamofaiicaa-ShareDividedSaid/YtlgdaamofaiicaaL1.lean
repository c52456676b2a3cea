/-
  LAW: ShareDivided.
-/
import Derived.Test.YtlgdaamofaiicaaB9
import Derived.Test.YtlgdaamofaiicaaE1
namespace Go.Tri
open Go.Proofs

theorem bit_rem {s i : Nat} : ((s / 2 ^ i : Nat) : Int).tmod 2 = (bt s i : Int) := by
  rw [show (2 : Int) = ((2 : Nat) : Int) from rfl, ← Int.ofNat_tmod]
  rfl
set_option maxRecDepth 100000 in
theorem ShareDivided_pure (a b : List Int) (other : Int) (ho : 0 ≤ other ∧ other ≤ 255) : APure Try.prog 9 [.ints false a, .ints false b, .lit (.int .u8 other)] (fun R => R = .bool true) := by
  refine APure_of (X := cx 132) (cx_ok 132) rfl (rs := [(.tmp 6, 4)]) Try.func9 (by decide) rfl rfl rfl (by simp [cx]) (by simp [NoFr]) ?_
  intro hlen
  have fin := alive_pure
  have hfew := few_pure a b []
  ((conv => whnf); repeat (refine stepK_in ?_; (repeat (first | refine seqQ_n ?_ | refine blockQ_n ?_ | refine awp_skip ?_ | refine awp_seq ?_ | refine awp_block ?_)); (conv => whnf)))
  refine APure.to hfew ?_
  by_cases h40 : a.length ≤ 30 ∧ b.length ≤ 30 ∧ ([] : List Int).length ≤ 30
  · rw [decide_eq_true h40]
    ((conv => whnf); repeat (refine stepK_in ?_; (repeat (first | refine seqQ_n ?_ | refine blockQ_n ?_ | refine awp_skip ?_ | refine awp_seq ?_ | refine awp_block ?_)); (conv => whnf)))
    refine APure.to (Points_pure a b) ?_
    ((conv => whnf); repeat (refine stepK_in ?_; (repeat (first | refine seqQ_n ?_ | refine blockQ_n ?_ | refine awp_skip ?_ | refine awp_seq ?_ | refine awp_block ?_)); (conv => whnf)))
    refine br_ne (fun h => ?_) (fun h => ?_)
    · ((conv => whnf); repeat (refine stepK_in ?_; (repeat (first | refine seqQ_n ?_ | refine blockQ_n ?_ | refine awp_skip ?_ | refine awp_seq ?_ | refine awp_block ?_)); (conv => whnf)))
      refine APure.to fin ?_
      ((conv => whnf); repeat (refine stepK_in ?_; (repeat (first | refine seqQ_n ?_ | refine blockQ_n ?_ | refine awp_skip ?_ | refine awp_seq ?_ | refine awp_block ?_)); (conv => whnf)))
      exact ⟨trivial, rfl⟩
    obtain ⟨ha, hb, hl⟩ := boE_inv h
    have n8 := ha.2.1
    have hp := pow256 n8
    have c1 := Whole_pure a b
    rw [show whV a b = tup3 (.int (whoS (fun j => a.getD j 0) (fun j => b.getD j 0) a.length)) (.int (les (fun j => a.getD j 0) (fun j => b.getD j 0) a.length (whoS (fun j => a.getD j 0) (fun j => b.getD j 0) a.length))) (.int 0) from by unfold whV; rw [if_pos h]] at c1
    have hf := pts_in ha
    have hg := pts_in hb
    rw [← hl] at hg
    obtain ⟨w1, w2, w3⟩ := mxI_is (les (fun j => a.getD j 0) (fun j => b.getD j 0) a.length) (2 ^ a.length) hp.1
    have hw : mxI (les (fun j => a.getD j 0) (fun j => b.getD j 0) a.length) (2 ^ a.length) = whoS (fun j => a.getD j 0) (fun j => b.getD j 0) a.length := rfl
    rw [hw] at w1 w2 w3
    generalize whoS (fun j => a.getD j 0) (fun j => b.getD j 0) a.length = s at *
    obtain ⟨t, ht, htl⟩ : ∃ t : Nat, other.tmod ((2 ^ a.length : Nat) : Int) = t ∧ t < 2 ^ a.length := ⟨(other.tmod ((2 ^ a.length : Nat) : Int)).toNat, by
      rw [Int.tmod_eq_emod_of_nonneg ho.1]
      have h1 := Int.emod_nonneg other (show ((2 ^ a.length : Nat) : Int) ≠ 0 by omega)
      omega, by
      rw [Int.tmod_eq_emod_of_nonneg ho.1]
      have h1 := Int.emod_lt_of_pos other (show (0 : Int) < ((2 ^ a.length : Nat) : Int) by omega)
      omega⟩
    have hm : les (fun j => a.getD j 0) (fun j => b.getD j 0) a.length s = minI (sA (fun j => a.getD j 0) s a.length) (sB (fun j => b.getD j 0) s a.length) := rfl
    have hm2 : les (fun j => a.getD j 0) (fun j => b.getD j 0) a.length t = minI (sA (fun j => a.getD j 0) t a.length) (sB (fun j => b.getD j 0) t a.length) := rfl
    have w2 := w2 t htl
    have w3 := w3 t
    ((conv => whnf); repeat (refine stepK_in ?_; (repeat (first | refine seqQ_n ?_ | refine blockQ_n ?_ | refine awp_skip ?_ | refine awp_seq ?_ | refine awp_block ?_)); (conv => whnf)))
    refine APure.to c1 ?_
    ((conv => whnf); repeat (refine stepK_in ?_; (repeat (first | refine seqQ_n ?_ | refine blockQ_n ?_ | refine awp_skip ?_ | refine awp_seq ?_ | refine awp_block ?_)); (conv => whnf)))
    rw [decide_eq_false (show ¬ (s : Int) < 0 by omega)]
    ((conv => whnf); repeat (refine stepK_in ?_; (repeat (first | refine seqQ_n ?_ | refine blockQ_n ?_ | refine awp_skip ?_ | refine awp_seq ?_ | refine awp_block ?_)); (conv => whnf)))
    refine ⟨(show (0 : Int) ≤ (a.length : Int) by omega), ?_⟩
    rw [shlI n8]
    ((conv => whnf); repeat (refine stepK_in ?_; (repeat (first | refine seqQ_n ?_ | refine blockQ_n ?_ | refine awp_skip ?_ | refine awp_seq ?_ | refine awp_block ?_)); (conv => whnf)))
    rw [decide_eq_false (show ¬ (s : Int) ≥ ((2 ^ a.length : Nat) : Int) by omega)]
    ((conv => whnf); repeat (refine stepK_in ?_; (repeat (first | refine seqQ_n ?_ | refine blockQ_n ?_ | refine awp_skip ?_ | refine awp_seq ?_ | refine awp_block ?_)); (conv => whnf)))
    refine ⟨inr (by omega), ?_⟩
    ((conv => whnf); repeat (refine stepK_in ?_; (repeat (first | refine seqQ_n ?_ | refine blockQ_n ?_ | refine awp_skip ?_ | refine awp_seq ?_ | refine awp_block ?_)); (conv => whnf)))
    refine ⟨(show (0 : Int) ≤ (a.length : Int) by omega), ?_⟩
    rw [shlI n8]
    ((conv => whnf); repeat (refine stepK_in ?_; (repeat (first | refine seqQ_n ?_ | refine blockQ_n ?_ | refine awp_skip ?_ | refine awp_seq ?_ | refine awp_block ?_)); (conv => whnf)))
    refine ⟨(show ((2 ^ a.length : Nat) : Int) ≠ 0 by omega), ?_⟩
    rw [ht]
    ((conv => whnf); repeat (refine stepK_in ?_; (repeat (first | refine seqQ_n ?_ | refine blockQ_n ?_ | refine awp_skip ?_ | refine awp_seq ?_ | refine awp_block ?_)); (conv => whnf)))
    refine AW_loop (X := cx 132) (cx_ok 132) [0, 1, 7, 8, 10, 11, 12, 13, 14, 15] (fun vs M => ∃ k : Nat, k ≤ a.length ∧ vs = [.ints false a, .ints false b, .int s, .int (les (fun j => a.getD j 0) (fun j => b.getD j 0) a.length s), .int t, .int (sA (fun j => a.getD j 0) s k), .int (sB (fun j => b.getD j 0) s k), .int (sA (fun j => a.getD j 0) t k), .int (sB (fun j => b.getD j 0) t k), .int k] ∧ M = [])
      (fun vs _ => a.length - (vs.getD 9 .any).toInt.toNat) ?_ ?_
    · exact ⟨0, Nat.zero_le _, rfl, rfl⟩
    rintro vs M ⟨k, hk, rfl, rfl⟩
    ((conv => whnf); repeat (refine stepK_in ?_; (repeat (first | refine seqQ_n ?_ | refine blockQ_n ?_ | refine awp_skip ?_ | refine awp_seq ?_ | refine awp_block ?_)); (conv => whnf)))
    refine br_dec (fun hlt => ?_) (fun hge => ?_)
    · have hk' : k < a.length := by omega
      have eas : a.getD k 0 * (bt s k : Int) = (if bt s k = 1 then a.getD k 0 else 0) := by rcases bt_two s k with h | h <;> rw [h] <;> simp
      have ebs : b.getD k 0 * (1 - (bt s k : Int)) = (if bt s k = 1 then 0 else b.getD k 0) := by rcases bt_two s k with h | h <;> rw [h] <;> simp
      have bas := sA_bd hf s k hk
      have bbs := sB_bd hg s k hk
      have nas : sA (fun j => a.getD j 0) s (k + 1) = sA (fun j => a.getD j 0) s k + a.getD k 0 * (bt s k : Int) := by rw [eas]; rfl
      have nbs : sB (fun j => b.getD j 0) s (k + 1) = sB (fun j => b.getD j 0) s k + b.getD k 0 * (1 - (bt s k : Int)) := by rw [ebs]; rfl
      have eat : a.getD k 0 * (bt t k : Int) = (if bt t k = 1 then a.getD k 0 else 0) := by rcases bt_two t k with h | h <;> rw [h] <;> simp
      have ebt : b.getD k 0 * (1 - (bt t k : Int)) = (if bt t k = 1 then 0 else b.getD k 0) := by rcases bt_two t k with h | h <;> rw [h] <;> simp
      have bat := sA_bd hf t k hk
      have bbt := sB_bd hg t k hk
      have nat : sA (fun j => a.getD j 0) t (k + 1) = sA (fun j => a.getD j 0) t k + a.getD k 0 * (bt t k : Int) := by rw [eat]; rfl
      have nbt : sB (fun j => b.getD j 0) t (k + 1) = sB (fun j => b.getD j 0) t k + b.getD k 0 * (1 - (bt t k : Int)) := by rw [ebt]; rfl
      have hak := ha.2.2.1 k hk'
      have hbk := hb.2.2.1 k (by omega)
      ((conv => whnf); repeat (refine stepK_in ?_; (repeat (first | refine seqQ_n ?_ | refine blockQ_n ?_ | refine awp_skip ?_ | refine awp_seq ?_ | refine awp_block ?_)); (conv => whnf)))
      refine AW_draw (X := cx 132) (cx_ok 132) mixed (by kernel_rfl) ?_
      ((conv => whnf); repeat (refine stepK_in ?_; (repeat (first | refine seqQ_n ?_ | refine blockQ_n ?_ | refine awp_skip ?_ | refine awp_seq ?_ | refine awp_block ?_)); (conv => whnf)))
      refine ⟨(show (0 : Int) ≤ (k : Int) by omega), ?_⟩
      refine ⟨(show (k : Int) < (a.length : Int) by omega), ?_⟩
      ((conv => whnf); repeat (refine stepK_in ?_; (repeat (first | refine seqQ_n ?_ | refine blockQ_n ?_ | refine awp_skip ?_ | refine awp_seq ?_ | refine awp_block ?_)); (conv => whnf)))
      refine ⟨(show (0 : Int) ≤ (k : Int) by omega), ?_⟩
      rw [shrI (by omega)]
      ((conv => whnf); repeat (refine stepK_in ?_; (repeat (first | refine seqQ_n ?_ | refine blockQ_n ?_ | refine awp_skip ?_ | refine awp_seq ?_ | refine awp_block ?_)); (conv => whnf)))
      refine ⟨by decide, ?_⟩
      rw [bit_rem]
      ((conv => whnf); repeat (refine stepK_in ?_; (repeat (first | refine seqQ_n ?_ | refine blockQ_n ?_ | refine awp_skip ?_ | refine awp_seq ?_ | refine awp_block ?_)); (conv => whnf)))
      refine ⟨inr (show -9223372036854775808 ≤ a.getD k 0 * (bt s k : Int) ∧ a.getD k 0 * (bt s k : Int) ≤ 9223372036854775807 by rw [eas]; split <;> omega), ?_⟩
      ((conv => whnf); repeat (refine stepK_in ?_; (repeat (first | refine seqQ_n ?_ | refine blockQ_n ?_ | refine awp_skip ?_ | refine awp_seq ?_ | refine awp_block ?_)); (conv => whnf)))
      refine ⟨inr (show -9223372036854775808 ≤ sA (fun j => a.getD j 0) s k + a.getD k 0 * (bt s k : Int) ∧ sA (fun j => a.getD j 0) s k + a.getD k 0 * (bt s k : Int) ≤ 9223372036854775807 by rw [eas]; split <;> omega), ?_⟩
      ((conv => whnf); repeat (refine stepK_in ?_; (repeat (first | refine seqQ_n ?_ | refine blockQ_n ?_ | refine awp_skip ?_ | refine awp_seq ?_ | refine awp_block ?_)); (conv => whnf)))
      refine AW_draw (X := cx 132) (cx_ok 132) mixed (by kernel_rfl) ?_
      ((conv => whnf); repeat (refine stepK_in ?_; (repeat (first | refine seqQ_n ?_ | refine blockQ_n ?_ | refine awp_skip ?_ | refine awp_seq ?_ | refine awp_block ?_)); (conv => whnf)))
      refine ⟨(show (0 : Int) ≤ (k : Int) by omega), ?_⟩
      refine ⟨(show (k : Int) < (b.length : Int) by omega), ?_⟩
      ((conv => whnf); repeat (refine stepK_in ?_; (repeat (first | refine seqQ_n ?_ | refine blockQ_n ?_ | refine awp_skip ?_ | refine awp_seq ?_ | refine awp_block ?_)); (conv => whnf)))
      refine ⟨(show (0 : Int) ≤ (k : Int) by omega), ?_⟩
      rw [shrI (by omega)]
      ((conv => whnf); repeat (refine stepK_in ?_; (repeat (first | refine seqQ_n ?_ | refine blockQ_n ?_ | refine awp_skip ?_ | refine awp_seq ?_ | refine awp_block ?_)); (conv => whnf)))
      refine ⟨by decide, ?_⟩
      rw [bit_rem]
      ((conv => whnf); repeat (refine stepK_in ?_; (repeat (first | refine seqQ_n ?_ | refine blockQ_n ?_ | refine awp_skip ?_ | refine awp_seq ?_ | refine awp_block ?_)); (conv => whnf)))
      refine ⟨inr (by have := bt_two s k; omega), ?_⟩
      ((conv => whnf); repeat (refine stepK_in ?_; (repeat (first | refine seqQ_n ?_ | refine blockQ_n ?_ | refine awp_skip ?_ | refine awp_seq ?_ | refine awp_block ?_)); (conv => whnf)))
      refine ⟨inr (show -9223372036854775808 ≤ b.getD k 0 * (1 - (bt s k : Int)) ∧ b.getD k 0 * (1 - (bt s k : Int)) ≤ 9223372036854775807 by rw [ebs]; split <;> omega), ?_⟩
      ((conv => whnf); repeat (refine stepK_in ?_; (repeat (first | refine seqQ_n ?_ | refine blockQ_n ?_ | refine awp_skip ?_ | refine awp_seq ?_ | refine awp_block ?_)); (conv => whnf)))
      refine ⟨inr (show -9223372036854775808 ≤ sB (fun j => b.getD j 0) s k + b.getD k 0 * (1 - (bt s k : Int)) ∧ sB (fun j => b.getD j 0) s k + b.getD k 0 * (1 - (bt s k : Int)) ≤ 9223372036854775807 by rw [ebs]; split <;> omega), ?_⟩
      ((conv => whnf); repeat (refine stepK_in ?_; (repeat (first | refine seqQ_n ?_ | refine blockQ_n ?_ | refine awp_skip ?_ | refine awp_seq ?_ | refine awp_block ?_)); (conv => whnf)))
      refine AW_draw (X := cx 132) (cx_ok 132) mixed (by kernel_rfl) ?_
      ((conv => whnf); repeat (refine stepK_in ?_; (repeat (first | refine seqQ_n ?_ | refine blockQ_n ?_ | refine awp_skip ?_ | refine awp_seq ?_ | refine awp_block ?_)); (conv => whnf)))
      refine ⟨(show (0 : Int) ≤ (k : Int) by omega), ?_⟩
      refine ⟨(show (k : Int) < (a.length : Int) by omega), ?_⟩
      ((conv => whnf); repeat (refine stepK_in ?_; (repeat (first | refine seqQ_n ?_ | refine blockQ_n ?_ | refine awp_skip ?_ | refine awp_seq ?_ | refine awp_block ?_)); (conv => whnf)))
      refine ⟨(show (0 : Int) ≤ (k : Int) by omega), ?_⟩
      rw [shrI (by omega)]
      ((conv => whnf); repeat (refine stepK_in ?_; (repeat (first | refine seqQ_n ?_ | refine blockQ_n ?_ | refine awp_skip ?_ | refine awp_seq ?_ | refine awp_block ?_)); (conv => whnf)))
      refine ⟨by decide, ?_⟩
      rw [bit_rem]
      ((conv => whnf); repeat (refine stepK_in ?_; (repeat (first | refine seqQ_n ?_ | refine blockQ_n ?_ | refine awp_skip ?_ | refine awp_seq ?_ | refine awp_block ?_)); (conv => whnf)))
      refine ⟨inr (show -9223372036854775808 ≤ a.getD k 0 * (bt t k : Int) ∧ a.getD k 0 * (bt t k : Int) ≤ 9223372036854775807 by rw [eat]; split <;> omega), ?_⟩
      ((conv => whnf); repeat (refine stepK_in ?_; (repeat (first | refine seqQ_n ?_ | refine blockQ_n ?_ | refine awp_skip ?_ | refine awp_seq ?_ | refine awp_block ?_)); (conv => whnf)))
      refine ⟨inr (show -9223372036854775808 ≤ sA (fun j => a.getD j 0) t k + a.getD k 0 * (bt t k : Int) ∧ sA (fun j => a.getD j 0) t k + a.getD k 0 * (bt t k : Int) ≤ 9223372036854775807 by rw [eat]; split <;> omega), ?_⟩
      ((conv => whnf); repeat (refine stepK_in ?_; (repeat (first | refine seqQ_n ?_ | refine blockQ_n ?_ | refine awp_skip ?_ | refine awp_seq ?_ | refine awp_block ?_)); (conv => whnf)))
      refine AW_draw (X := cx 132) (cx_ok 132) mixed (by kernel_rfl) ?_
      ((conv => whnf); repeat (refine stepK_in ?_; (repeat (first | refine seqQ_n ?_ | refine blockQ_n ?_ | refine awp_skip ?_ | refine awp_seq ?_ | refine awp_block ?_)); (conv => whnf)))
      refine ⟨(show (0 : Int) ≤ (k : Int) by omega), ?_⟩
      refine ⟨(show (k : Int) < (b.length : Int) by omega), ?_⟩
      ((conv => whnf); repeat (refine stepK_in ?_; (repeat (first | refine seqQ_n ?_ | refine blockQ_n ?_ | refine awp_skip ?_ | refine awp_seq ?_ | refine awp_block ?_)); (conv => whnf)))
      refine ⟨(show (0 : Int) ≤ (k : Int) by omega), ?_⟩
      rw [shrI (by omega)]
      ((conv => whnf); repeat (refine stepK_in ?_; (repeat (first | refine seqQ_n ?_ | refine blockQ_n ?_ | refine awp_skip ?_ | refine awp_seq ?_ | refine awp_block ?_)); (conv => whnf)))
      refine ⟨by decide, ?_⟩
      rw [bit_rem]
      ((conv => whnf); repeat (refine stepK_in ?_; (repeat (first | refine seqQ_n ?_ | refine blockQ_n ?_ | refine awp_skip ?_ | refine awp_seq ?_ | refine awp_block ?_)); (conv => whnf)))
      refine ⟨inr (by have := bt_two t k; omega), ?_⟩
      ((conv => whnf); repeat (refine stepK_in ?_; (repeat (first | refine seqQ_n ?_ | refine blockQ_n ?_ | refine awp_skip ?_ | refine awp_seq ?_ | refine awp_block ?_)); (conv => whnf)))
      refine ⟨inr (show -9223372036854775808 ≤ b.getD k 0 * (1 - (bt t k : Int)) ∧ b.getD k 0 * (1 - (bt t k : Int)) ≤ 9223372036854775807 by rw [ebt]; split <;> omega), ?_⟩
      ((conv => whnf); repeat (refine stepK_in ?_; (repeat (first | refine seqQ_n ?_ | refine blockQ_n ?_ | refine awp_skip ?_ | refine awp_seq ?_ | refine awp_block ?_)); (conv => whnf)))
      refine ⟨inr (show -9223372036854775808 ≤ sB (fun j => b.getD j 0) t k + b.getD k 0 * (1 - (bt t k : Int)) ∧ sB (fun j => b.getD j 0) t k + b.getD k 0 * (1 - (bt t k : Int)) ≤ 9223372036854775807 by rw [ebt]; split <;> omega), ?_⟩
      ((conv => whnf); repeat (refine stepK_in ?_; (repeat (first | refine seqQ_n ?_ | refine blockQ_n ?_ | refine awp_skip ?_ | refine awp_seq ?_ | refine awp_block ?_)); (conv => whnf)))
      refine ⟨inr (by omega), ?_⟩
      ((conv => whnf); repeat (refine stepK_in ?_; (repeat (first | refine seqQ_n ?_ | refine blockQ_n ?_ | refine awp_skip ?_ | refine awp_seq ?_ | refine awp_block ?_)); (conv => whnf)))
      refine ⟨⟨k + 1, hk', ?_, rfl⟩, ?_⟩
      · rw [nas, nbs, nat, nbt]; rfl
      · simp [V.toInt, sel, Env.get]; omega
    · obtain rfl : k = a.length := by omega
      ((conv => whnf); repeat (refine stepK_in ?_; (repeat (first | refine seqQ_n ?_ | refine blockQ_n ?_ | refine awp_skip ?_ | refine awp_seq ?_ | refine awp_block ?_)); (conv => whnf)))
      rw [← hm]
      rw [show (les (fun j => a.getD j 0) (fun j => b.getD j 0) a.length s == les (fun j => a.getD j 0) (fun j => b.getD j 0) a.length s) = true by simp]
      ((conv => whnf); repeat (refine stepK_in ?_; (repeat (first | refine seqQ_n ?_ | refine blockQ_n ?_ | refine awp_skip ?_ | refine awp_seq ?_ | refine awp_block ?_)); (conv => whnf)))
      rw [decide_eq_true (show minI (sA (fun j => a.getD j 0) t a.length) (sB (fun j => b.getD j 0) t a.length) ≤ les (fun j => a.getD j 0) (fun j => b.getD j 0) a.length s from w2)]
      ((conv => whnf); repeat (refine stepK_in ?_; (repeat (first | refine seqQ_n ?_ | refine blockQ_n ?_ | refine awp_skip ?_ | refine awp_seq ?_ | refine awp_block ?_)); (conv => whnf)))
      refine br_dec (fun hlt2 => ?_) (fun hge2 => ?_)
      · ((conv => whnf); repeat (refine stepK_in ?_; (repeat (first | refine seqQ_n ?_ | refine blockQ_n ?_ | refine awp_skip ?_ | refine awp_seq ?_ | refine awp_block ?_)); (conv => whnf)))
        refine APure.to fin ?_
        ((conv => whnf); repeat (refine stepK_in ?_; (repeat (first | refine seqQ_n ?_ | refine blockQ_n ?_ | refine awp_skip ?_ | refine awp_seq ?_ | refine awp_block ?_)); (conv => whnf)))
        exact ⟨trivial, rfl⟩
      · have hge2 : ¬ les (fun j => a.getD j 0) (fun j => b.getD j 0) a.length t < les (fun j => a.getD j 0) (fun j => b.getD j 0) a.length s := hge2
        have hst : s ≤ t := Classical.byContradiction fun hn => hge2 (w3 (by omega))
        ((conv => whnf); repeat (refine stepK_in ?_; (repeat (first | refine seqQ_n ?_ | refine blockQ_n ?_ | refine awp_skip ?_ | refine awp_seq ?_ | refine awp_block ?_)); (conv => whnf)))
        rw [decide_eq_true (show (t : Int) ≥ (s : Int) by omega)]
        ((conv => whnf); repeat (refine stepK_in ?_; (repeat (first | refine seqQ_n ?_ | refine blockQ_n ?_ | refine awp_skip ?_ | refine awp_seq ?_ | refine awp_block ?_)); (conv => whnf)))
        refine APure.to fin ?_
        ((conv => whnf); repeat (refine stepK_in ?_; (repeat (first | refine seqQ_n ?_ | refine blockQ_n ?_ | refine awp_skip ?_ | refine awp_seq ?_ | refine awp_block ?_)); (conv => whnf)))
        exact ⟨trivial, rfl⟩
  · rw [decide_eq_false h40]
    ((conv => whnf); repeat (refine stepK_in ?_; (repeat (first | refine seqQ_n ?_ | refine blockQ_n ?_ | refine awp_skip ?_ | refine awp_seq ?_ | refine awp_block ?_)); (conv => whnf)))
    refine APure.to fin ?_
    ((conv => whnf); repeat (refine stepK_in ?_; (repeat (first | refine seqQ_n ?_ | refine blockQ_n ?_ | refine awp_skip ?_ | refine awp_seq ?_ | refine awp_block ?_)); (conv => whnf)))
    exact ⟨trivial, rfl⟩
end Go.Tri
