/-
  CONTRACTS: the reference's Whole; parts that are the same.
-/
import Derived.Test.YtghkpmeonoadlaaB20
namespace Go.Tri
open Go.Proofs

theorem bit_rem2 {s i : Nat} : ((s / 2 ^ i : Nat) : Int).tmod 2 = (bt s i : Int) := by
  rw [show (2 : Int) = ((2 : Nat) : Int) from rfl, ← Int.ofNat_tmod]
  rfl
def moI (h : Nat → Int) (k : Nat) : Int := if k = 0 then -1 else h (mxI h k)
theorem moI_succ {h : Nat → Int} {k : Nat} (h0 : ∀ s, 0 ≤ h s) : (h k > moI h k → mxI h (k + 1) = k ∧ moI h (k + 1) = h k) ∧ (¬ h k > moI h k → mxI h (k + 1) = mxI h k ∧ moI h (k + 1) = moI h k) := by
  unfold moI
  simp only [mxI]
  rw [if_neg (show ¬ k + 1 = 0 by omega)]
  by_cases hk : k = 0
  · subst hk
    have := h0 0
    refine ⟨fun _ => ⟨rfl, rfl⟩, fun hn => absurd ?_ hn⟩
    rw [if_pos rfl]
    omega
  · rw [if_neg hk, if_neg hk]
    refine ⟨fun hg => ?_, fun hn => ?_⟩
    · rw [if_pos hg]; exact ⟨rfl, rfl⟩
    · rw [if_neg hn]; exact ⟨rfl, rfl⟩
set_option maxRecDepth 100000 in
theorem refWhole_pure (a b : List Int) : APure Try.prog 25 [.ints false a, .ints false b] (fun R => R = whV a b) := by
  refine APure_of (X := cx 61) (cx_ok 61) rfl (rs := [(.tmp 4, 3), (.tmp 5, 3), (.tmp 6, 29)]) Try.func25 (by decide) rfl rfl rfl (by simp [cx]) (by simp [NoFr]) ?_
  intro hlen
  have c1 : boE a b ≠ 0 → tup3 (.int 0) (.int 0) (.int (boE a b)) = whV a b := fun h => by unfold whV; rw [if_neg h]
  have c2 : boE a b = 0 → tup3 (.int (whoS (fA a) (fA b) a.length)) (.int (les (fA a) (fA b) a.length (whoS (fA a) (fA b) a.length))) (.int 0) = whV a b := fun h => by unfold whV; rw [if_pos h]
  generalize whV a b = E at *
  ((conv => whnf); repeat (refine stepK_in ?_; (repeat (first | refine seqQ_n ?_ | refine blockQ_n ?_ | refine awp_skip ?_ | refine awp_seq ?_ | refine awp_block ?_)); (conv => whnf)))
  refine APure.to (Points_pure a b) ?_
  ((conv => whnf); repeat (refine stepK_in ?_; (repeat (first | refine seqQ_n ?_ | refine blockQ_n ?_ | refine awp_skip ?_ | refine awp_seq ?_ | refine awp_block ?_)); (conv => whnf)))
  refine br_ne (fun h => ?_) (fun h => ?_)
  · ((conv => whnf); repeat (refine stepK_in ?_; (repeat (first | refine seqQ_n ?_ | refine blockQ_n ?_ | refine awp_skip ?_ | refine awp_seq ?_ | refine awp_block ?_)); (conv => whnf)))
    exact ⟨trivial, trivial, trivial, c1 h⟩
  obtain ⟨ha, hb, hl⟩ := boE_inv h
  have n8 := ha.2.1
  have hp := pow256 n8
  have hf : in100 a.length (fA a) := pts_in ha
  have hg : in100 a.length (fA b) := by rw [hl]; exact pts_in hb
  have c2 := c2 h
  have hlb := les_bd n8 hf hg
  have hmo := fun k => moI_succ (h := les (fA a) (fA b) a.length) (k := k) fun s => (hlb s).1
  ((conv => whnf); repeat (refine stepK_in ?_; (repeat (first | refine seqQ_n ?_ | refine blockQ_n ?_ | refine awp_skip ?_ | refine awp_seq ?_ | refine awp_block ?_)); (conv => whnf)))
  refine AW_loop (X := cx 61) (cx_ok 61) [0, 1, 8, 9, 10] (fun vs M => ∃ k : Nat, k ≤ 2 ^ a.length ∧ vs = [.ints false a, .ints false b, .int (mxI (les (fA a) (fA b) a.length) k), .int (moI (les (fA a) (fA b) a.length) k), .int k] ∧ M = [])
    (fun vs _ => 2 ^ a.length - (vs.getD 4 .any).toInt.toNat) ?_ ?_
  · exact ⟨0, Nat.zero_le _, rfl, rfl⟩
  rintro vs M ⟨s, hs, rfl, rfl⟩
  ((conv => whnf); repeat (refine stepK_in ?_; (repeat (first | refine seqQ_n ?_ | refine blockQ_n ?_ | refine awp_skip ?_ | refine awp_seq ?_ | refine awp_block ?_)); (conv => whnf)))
  refine ⟨(show (0 : Int) ≤ (a.length : Int) by omega), ?_⟩
  rw [shlI n8]
  ((conv => whnf); repeat (refine stepK_in ?_; (repeat (first | refine seqQ_n ?_ | refine blockQ_n ?_ | refine awp_skip ?_ | refine awp_seq ?_ | refine awp_block ?_)); (conv => whnf)))
  refine br_dec (fun hlt => ?_) (fun hge => ?_)
  · have hs' : s < 2 ^ a.length := by omega
    ((conv => whnf); repeat (refine stepK_in ?_; (repeat (first | refine seqQ_n ?_ | refine blockQ_n ?_ | refine awp_skip ?_ | refine awp_seq ?_ | refine awp_block ?_)); (conv => whnf)))
    refine AW_loop (X := cx 61) (cx_ok 61) [0, 1, 8, 9, 10, 11, 12, 13] (fun vs M => ∃ j : Nat, j ≤ a.length ∧ vs = [.ints false a, .ints false b, .int (mxI (les (fA a) (fA b) a.length) s), .int (moI (les (fA a) (fA b) a.length) s), .int s, .int (sA (fA a) s j), .int (sB (fA b) s j), .int j] ∧ M = [])
      (fun vs _ => a.length - (vs.getD 7 .any).toInt.toNat) ?_ ?_
    · exact ⟨0, Nat.zero_le _, rfl, rfl⟩
    rintro vs M ⟨j, hj, rfl, rfl⟩
    ((conv => whnf); repeat (refine stepK_in ?_; (repeat (first | refine seqQ_n ?_ | refine blockQ_n ?_ | refine awp_skip ?_ | refine awp_seq ?_ | refine awp_block ?_)); (conv => whnf)))
    refine br_dec (fun hlt2 => ?_) (fun hge2 => ?_)
    · have hj' : j < a.length := by omega
      have ba : 0 ≤ sA (fA a) s j ∧ sA (fA a) s j ≤ 100 * j := sA_bd hf s j hj
      have bb : 0 ≤ sB (fA b) s j ∧ sB (fA b) s j ≤ 100 * j := sB_bd hg s j hj
      have na : sA (fA a) s (j + 1) = sA (fA a) s j + (if bt s j = 1 then a.getD j 0 else 0) := rfl
      have nb : sB (fA b) s (j + 1) = sB (fA b) s j + (if bt s j = 1 then 0 else b.getD j 0) := rfl
      have hak : 0 ≤ a.getD j 0 ∧ a.getD j 0 ≤ 100 := hf j hj'
      have hbk : 0 ≤ b.getD j 0 ∧ b.getD j 0 ≤ 100 := hg j hj'
      ((conv => whnf); repeat (refine stepK_in ?_; (repeat (first | refine seqQ_n ?_ | refine blockQ_n ?_ | refine awp_skip ?_ | refine awp_seq ?_ | refine awp_block ?_)); (conv => whnf)))
      refine ⟨(show (0 : Int) ≤ (j : Int) by omega), ?_⟩
      rw [shrI (by omega)]
      ((conv => whnf); repeat (refine stepK_in ?_; (repeat (first | refine seqQ_n ?_ | refine blockQ_n ?_ | refine awp_skip ?_ | refine awp_seq ?_ | refine awp_block ?_)); (conv => whnf)))
      refine ⟨by decide, ?_⟩
      rw [bit_rem2]
      ((conv => whnf); repeat (refine stepK_in ?_; (repeat (first | refine seqQ_n ?_ | refine blockQ_n ?_ | refine awp_skip ?_ | refine awp_seq ?_ | refine awp_block ?_)); (conv => whnf)))
      refine br_eq (fun h1 => ?_) (fun h1 => ?_)
      · have h1 : bt s j = 1 := by have h1 : (bt s j : Int) = 1 := h1; omega
        rw [if_pos h1] at na nb
        ((conv => whnf); repeat (refine stepK_in ?_; (repeat (first | refine seqQ_n ?_ | refine blockQ_n ?_ | refine awp_skip ?_ | refine awp_seq ?_ | refine awp_block ?_)); (conv => whnf)))
        repeat ((first | refine ⟨(show (0 : Int) ≤ (j : Int) by omega), ?_⟩ | refine ⟨(show (j : Int) < (a.length : Int) by omega), ?_⟩ | refine ⟨(show InR (sA (fA a) s j + a.getD j 0) from inr (by omega)), ?_⟩ | refine ⟨inr (by omega), ?_⟩); ((conv => whnf); repeat (refine stepK_in ?_; (repeat (first | refine seqQ_n ?_ | refine blockQ_n ?_ | refine awp_skip ?_ | refine awp_seq ?_ | refine awp_block ?_)); (conv => whnf))))
        refine ⟨⟨j + 1, hj', by rw [na, nb, Int.add_zero]; rfl, rfl⟩, ?_⟩
        simp [V.toInt, sel, Env.get]; omega
      · have h1 : ¬ bt s j = 1 := fun h2 => h1 (by show (bt s j : Int) = 1; omega)
        rw [if_neg h1] at na nb
        ((conv => whnf); repeat (refine stepK_in ?_; (repeat (first | refine seqQ_n ?_ | refine blockQ_n ?_ | refine awp_skip ?_ | refine awp_seq ?_ | refine awp_block ?_)); (conv => whnf)))
        repeat ((first | refine ⟨(show (0 : Int) ≤ (j : Int) by omega), ?_⟩ | refine ⟨(show (j : Int) < (b.length : Int) by omega), ?_⟩ | refine ⟨(show InR (sB (fA b) s j + b.getD j 0) from inr (by omega)), ?_⟩ | refine ⟨inr (by omega), ?_⟩); ((conv => whnf); repeat (refine stepK_in ?_; (repeat (first | refine seqQ_n ?_ | refine blockQ_n ?_ | refine awp_skip ?_ | refine awp_seq ?_ | refine awp_block ?_)); (conv => whnf))))
        refine ⟨⟨j + 1, hj', by rw [na, nb, Int.add_zero]; rfl, rfl⟩, ?_⟩
        simp [V.toInt, sel, Env.get]; omega
    · obtain rfl : j = a.length := by omega
      have hm : minI (sA (fA a) s a.length) (sB (fA b) s a.length) = les (fA a) (fA b) a.length s := rfl
      obtain ⟨m1, m2⟩ := hmo s
      ((conv => whnf); repeat (refine stepK_in ?_; (repeat (first | refine seqQ_n ?_ | refine blockQ_n ?_ | refine awp_skip ?_ | refine awp_seq ?_ | refine awp_block ?_)); (conv => whnf)))
      rw [hm]
      refine br_dec (fun hg2 => ?_) (fun hg2 => ?_)
      · obtain ⟨e1, e2⟩ := m1 hg2
        ((conv => whnf); repeat (refine stepK_in ?_; (repeat (first | refine seqQ_n ?_ | refine blockQ_n ?_ | refine awp_skip ?_ | refine awp_seq ?_ | refine awp_block ?_)); (conv => whnf)))
        refine ⟨inr (by omega), ?_⟩
        ((conv => whnf); repeat (refine stepK_in ?_; (repeat (first | refine seqQ_n ?_ | refine blockQ_n ?_ | refine awp_skip ?_ | refine awp_seq ?_ | refine awp_block ?_)); (conv => whnf)))
        refine ⟨⟨s + 1, hs', by rw [e1, e2]; rfl, rfl⟩, ?_⟩
        simp [V.toInt, sel, Env.get]; omega
      · obtain ⟨e1, e2⟩ := m2 hg2
        ((conv => whnf); repeat (refine stepK_in ?_; (repeat (first | refine seqQ_n ?_ | refine blockQ_n ?_ | refine awp_skip ?_ | refine awp_seq ?_ | refine awp_block ?_)); (conv => whnf)))
        refine ⟨inr (by omega), ?_⟩
        ((conv => whnf); repeat (refine stepK_in ?_; (repeat (first | refine seqQ_n ?_ | refine blockQ_n ?_ | refine awp_skip ?_ | refine awp_seq ?_ | refine awp_block ?_)); (conv => whnf)))
        refine ⟨⟨s + 1, hs', by rw [e1, e2]; rfl, rfl⟩, ?_⟩
        simp [V.toInt, sel, Env.get]; omega
  · obtain rfl : s = 2 ^ a.length := by omega
    have e0 : moI (les (fA a) (fA b) a.length) (2 ^ a.length) = les (fA a) (fA b) a.length (whoS (fA a) (fA b) a.length) := by
      unfold moI whoS
      rw [if_neg (by omega)]
    have e1 : mxI (les (fA a) (fA b) a.length) (2 ^ a.length) = whoS (fA a) (fA b) a.length := rfl
    rw [e0, e1]
    ((conv => whnf); repeat (refine stepK_in ?_; (repeat (first | refine seqQ_n ?_ | refine blockQ_n ?_ | refine awp_skip ?_ | refine awp_seq ?_ | refine awp_block ?_)); (conv => whnf)))
    exact ⟨trivial, trivial, trivial, c2⟩
end Go.Tri
