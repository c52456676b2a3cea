/-
  CONTRACTS: Scores and Efficient, the reference's.
-/
import Derived.Test.YtghkpmeonoadlaaB27
namespace Go.Tri
open Go.Proofs

set_option maxRecDepth 100000 in
theorem refscores_pure {a b l : List Int} {d : Int} (h8 : a.length ≤ 8) (hf : in100 a.length (fA a)) (hg : in100 a.length (fA b)) (hab : a.length = b.length) (hl : l.length = a.length) (hd : 1 ≤ d ∧ d ≤ 1000000000) (hx : ∀ j, j < a.length → 0 ≤ l.getD j 0 ∧ l.getD j 0 ≤ d) :
    APure Try.prog 46 [.ints false a, .ints false b, parV false l d] (fun R => R = tup2 (.int (mulA (fA a) l a.length)) (.int (mulB (fA b) l d a.length))) := by
  refine APure_of (X := cx 46) (cx_ok 46) rfl (rs := [(.tmp 6, 3), (.tmp 7, 3)]) Try.func46 (by decide) rfl rfl rfl (by simp [cx]) (nofr3 nofrI nofrI nofrPa) ?_
  intro hlen
  ((conv => whnf); repeat (refine stepK_in ?_; (repeat (first | refine seqQ_n ?_ | refine blockQ_n ?_ | refine awp_skip ?_ | refine awp_seq ?_ | refine awp_block ?_)); (conv => whnf)))
  refine AW_loopA (X := cx 46) (cx_ok 46) [0, 1, 5, 8, 9, 10] (fun t => Nat.blt t 1) (fun vs M => ∃ k : Nat, k ≤ a.length ∧ vs = [.ints false a, .ints false b, .ptr 0 0 0 0, .int (mulA (fA a) l k), .int (mulB (fA b) l d k), .int k] ∧ M = [some ⟨24, 2, 0, .one [.ints false l, .int d]⟩])
    (fun vs _ => a.length - (vs.getD 5 .any).toInt.toNat) (fun t ht => by have : t < 1 := ht; simp; omega) ?_ ?_
  · exact same0 ⟨0, Nat.zero_le _, rfl, rfl⟩
  rintro vs M ⟨k, hk, rfl, rfl⟩
  ((conv => whnf); repeat (refine stepK_in ?_; (repeat (first | refine seqQ_n ?_ | refine blockQ_n ?_ | refine awp_skip ?_ | refine awp_seq ?_ | refine awp_block ?_)); (conv => whnf)))
  refine br_dec (fun hlt => ?_) (fun hge => ?_)
  · have hk' : k < a.length := by omega
    have hfk := hf k hk'
    have hgk := hg k hk'
    have hxk := hx k hk'
    have ha := bd8 h8 hk hd (mulA_bd hf hx k hk)
    have ha' := bd8 h8 hk' hd (mulA_bd hf hx (k + 1) hk')
    have hb := bd8 h8 hk hd (mulB_bd hg hx k hk)
    have hb' := bd8 h8 hk' hd (mulB_bd hg hx (k + 1) hk')
    have hp1 := mul_bd hfk.1 hfk.2 hxk.1 hxk.2
    have hp2 := mul_bd (d := d) hgk.1 hgk.2 (show 0 ≤ d - l.getD k 0 by omega) (by omega)
    ((conv => whnf); repeat (refine stepK_in ?_; (repeat (first | refine seqQ_n ?_ | refine blockQ_n ?_ | refine awp_skip ?_ | refine awp_seq ?_ | refine awp_block ?_)); (conv => whnf)))
    refine AW_draw (X := cx 46) (cx_ok 46) mixed (by kernel_rfl) ?_
    ((conv => whnf); repeat (refine stepK_in ?_; (repeat (first | refine seqQ_n ?_ | refine blockQ_n ?_ | refine awp_skip ?_ | refine awp_seq ?_ | refine awp_block ?_)); (conv => whnf)))
    repeat ((first | refine ⟨(show (0 : Int) ≤ (k : Int) by omega), ?_⟩ | refine ⟨(show (k : Int) < (a.length : Int) by omega), ?_⟩ | refine ⟨(show (k : Int) < (l.length : Int) by omega), ?_⟩); ((conv => whnf); repeat (refine stepK_in ?_; (repeat (first | refine seqQ_n ?_ | refine blockQ_n ?_ | refine awp_skip ?_ | refine awp_seq ?_ | refine awp_block ?_)); (conv => whnf))))
    refine ⟨(show InR (fA a k * l.getD k 0) from inr (by omega)), ?_⟩
    ((conv => whnf); repeat (refine stepK_in ?_; (repeat (first | refine seqQ_n ?_ | refine blockQ_n ?_ | refine awp_skip ?_ | refine awp_seq ?_ | refine awp_block ?_)); (conv => whnf)))
    refine ⟨(show InR (mulA (fA a) l (k + 1)) from inr (by omega)), ?_⟩
    ((conv => whnf); repeat (refine stepK_in ?_; (repeat (first | refine seqQ_n ?_ | refine blockQ_n ?_ | refine awp_skip ?_ | refine awp_seq ?_ | refine awp_block ?_)); (conv => whnf)))
    refine AW_draw (X := cx 46) (cx_ok 46) mixed (by kernel_rfl) ?_
    ((conv => whnf); repeat (refine stepK_in ?_; (repeat (first | refine seqQ_n ?_ | refine blockQ_n ?_ | refine awp_skip ?_ | refine awp_seq ?_ | refine awp_block ?_)); (conv => whnf)))
    repeat ((first | refine ⟨(show (0 : Int) ≤ (k : Int) by omega), ?_⟩ | refine ⟨(show (k : Int) < (b.length : Int) by omega), ?_⟩ | refine ⟨(show (k : Int) < (l.length : Int) by omega), ?_⟩); ((conv => whnf); repeat (refine stepK_in ?_; (repeat (first | refine seqQ_n ?_ | refine blockQ_n ?_ | refine awp_skip ?_ | refine awp_seq ?_ | refine awp_block ?_)); (conv => whnf))))
    refine ⟨(show InR (d - l.getD k 0) from inr (by omega)), ?_⟩
    ((conv => whnf); repeat (refine stepK_in ?_; (repeat (first | refine seqQ_n ?_ | refine blockQ_n ?_ | refine awp_skip ?_ | refine awp_seq ?_ | refine awp_block ?_)); (conv => whnf)))
    refine ⟨(show InR (fA b k * (d - l.getD k 0)) from inr (by omega)), ?_⟩
    ((conv => whnf); repeat (refine stepK_in ?_; (repeat (first | refine seqQ_n ?_ | refine blockQ_n ?_ | refine awp_skip ?_ | refine awp_seq ?_ | refine awp_block ?_)); (conv => whnf)))
    refine ⟨(show InR (mulB (fA b) l d (k + 1)) from inr (by omega)), ?_⟩
    ((conv => whnf); repeat (refine stepK_in ?_; (repeat (first | refine seqQ_n ?_ | refine blockQ_n ?_ | refine awp_skip ?_ | refine awp_seq ?_ | refine awp_block ?_)); (conv => whnf)))
    refine ⟨inr (by omega), ?_⟩
    ((conv => whnf); repeat (refine stepK_in ?_; (repeat (first | refine seqQ_n ?_ | refine blockQ_n ?_ | refine awp_skip ?_ | refine awp_seq ?_ | refine awp_block ?_)); (conv => whnf)))
    refine ⟨by repeat (first | exact trivial | exact rfl | exact fun _ => trivial | exact fun _ _ => trivial | exact fun _ _ _ => trivial | exact fun _ _ _ _ => trivial | refine And.intro ?_ ?_), memA1 [some ⟨24, 2, 0, .one [.ints false l, .int d]⟩] ⟨ObSub.refl _, trivial⟩ ⟨⟨k + 1, hk', rfl, rfl⟩, ?_⟩⟩
    simp [V.toInt, sel, Env.get]; omega
  · obtain rfl : k = a.length := by omega
    ((conv => whnf); repeat (refine stepK_in ?_; (repeat (first | refine seqQ_n ?_ | refine blockQ_n ?_ | refine awp_skip ?_ | refine awp_seq ?_ | refine awp_block ?_)); (conv => whnf)))
    exact ⟨trivial, trivial, rfl⟩
open Classical in
set_option maxRecDepth 100000 in
theorem refScores_pure (a b l : List Int) (d : Int) : APure Try.prog 17 [.ints false a, .ints false b, parV false l d] (fun R => R = scV a b l d) := by
  refine APure_of (X := cx 44) (cx_ok 44) rfl (rs := [(.cell 6 28, 28), (.cell 7 28, 28), (.tmp 8, 29)]) Try.func17 (by decide) rfl rfl rfl (by simp [cx]) (nofr3 nofrI nofrI nofrPa) ?_
  intro hlen
  have e1 : cdE a b l d ≠ 0 → tup3 (pairV 0 0) (pairV 0 0) (.int (cdE a b l d)) = scV a b l d := fun h => by unfold scV; rw [if_neg h]
  have e2 : cdE a b l d = 0 → tup3 (ratP (mulA (fA a) l a.length) d) (ratP (mulB (fA b) l d a.length) d) (.int 0) = scV a b l d := fun h => by unfold scV; rw [if_pos h]
  ((conv => whnf); repeat (refine stepK_in ?_; (repeat (first | refine seqQ_n ?_ | refine blockQ_n ?_ | refine awp_skip ?_ | refine awp_seq ?_ | refine awp_block ?_)); (conv => whnf)))
  refine APure.to (Points_pure a b) ?_
  ((conv => whnf); repeat (refine stepK_in ?_; (repeat (first | refine seqQ_n ?_ | refine blockQ_n ?_ | refine awp_skip ?_ | refine awp_seq ?_ | refine awp_block ?_)); (conv => whnf)))
  refine br_eq (fun h => ?_) (fun h => ?_)
  · have e2 := e2
    obtain ⟨ha, hb, hl⟩ := boE_inv h
    have h8 := ha.2.1
    have c1 := refIsParts_pure l d a.length (by omega)
    have e3 : cdE a b l d = if IsP l d a.length then 0 else 2 := by unfold cdE; rw [if_pos h]
    ((conv => whnf); repeat (refine stepK_in ?_; (repeat (first | refine seqQ_n ?_ | refine blockQ_n ?_ | refine awp_skip ?_ | refine awp_seq ?_ | refine awp_block ?_)); (conv => whnf)))
    refine APure.to (APure.arg2 (sub2 rfl rfl) (Sub.refl _) c1) ?_
    ((conv => whnf); repeat (refine stepK_in ?_; (repeat (first | refine seqQ_n ?_ | refine blockQ_n ?_ | refine awp_skip ?_ | refine awp_seq ?_ | refine awp_block ?_)); (conv => whnf)))
    refine br_not ?_
    refine br_dec (fun h4 => ?_) (fun h4 => ?_)
    · rw [if_pos h4] at e3
      ((conv => whnf); repeat (refine stepK_in ?_; (repeat (first | refine seqQ_n ?_ | refine blockQ_n ?_ | refine awp_skip ?_ | refine awp_seq ?_ | refine awp_block ?_)); (conv => whnf)))
      have hp := h4
      have c2 := refscores_pure (a := a) (b := b) (l := l) (d := d) ha.2.1 (pts_in ha) (by rw [hl]; exact pts_in hb) hl hp.1 ⟨hp.2.1, by have := hp.2.2.1; omega⟩ hp.2.2.2.1
      have bA := bd8 ha.2.1 (Nat.le_refl _) (d := d) ⟨hp.2.1, by have := hp.2.2.1; omega⟩ (mulA_bd (f := fA a) (pts_in ha) hp.2.2.2.1 _ (Nat.le_refl _))
      have bB := bd8 ha.2.1 (Nat.le_refl _) (d := d) ⟨hp.2.1, by have := hp.2.2.1; omega⟩ (mulB_bd (g := fA b) (n := a.length) (by rw [hl]; exact pts_in hb) hp.2.2.2.1 _ (Nat.le_refl _))
      have hd : Sm d := by have := hp.2.1; have := hp.2.2.1; unfold Sm; omega
      have c3 := Ratio_pure (mulA (fA a) l a.length) d (by unfold Sm; omega) hd hp.2.1
      have c4 := Ratio_pure (mulB (fA b) l d a.length) d (by unfold Sm; omega) hd hp.2.1
      have e2 := e2 e3
      generalize mulA (fA a) l a.length = S1 at *
      generalize mulB (fA b) l d a.length = S2 at *
      refine br_ne (fun h2 => absurd h h2) (fun _ => ?_)
      ((conv => whnf); repeat (refine stepK_in ?_; (repeat (first | refine seqQ_n ?_ | refine blockQ_n ?_ | refine awp_skip ?_ | refine awp_seq ?_ | refine awp_block ?_)); (conv => whnf)))
      refine APure.to (APure.arg3 (Sub.refl _) (Sub.refl _) (sub2 rfl rfl) c2) ?_
      ((conv => whnf); repeat (refine stepK_in ?_; (repeat (first | refine seqQ_n ?_ | refine blockQ_n ?_ | refine awp_skip ?_ | refine awp_seq ?_ | refine awp_block ?_)); (conv => whnf)))
      refine AW_draw (X := cx 44) (cx_ok 44) mixed (by kernel_rfl) ?_
      ((conv => whnf); repeat (refine stepK_in ?_; (repeat (first | refine seqQ_n ?_ | refine blockQ_n ?_ | refine awp_skip ?_ | refine awp_seq ?_ | refine awp_block ?_)); (conv => whnf)))
      refine ⟨_, c3, ?_⟩
      ((conv => whnf); repeat (refine stepK_in ?_; (repeat (first | refine seqQ_n ?_ | refine blockQ_n ?_ | refine awp_skip ?_ | refine awp_seq ?_ | refine awp_block ?_)); (conv => whnf)))
      refine ⟨_, c4, ?_⟩
      ((conv => whnf); repeat (refine stepK_in ?_; (repeat (first | refine seqQ_n ?_ | refine blockQ_n ?_ | refine awp_skip ?_ | refine awp_seq ?_ | refine awp_block ?_)); (conv => whnf)))
      exact ⟨fr2 trivial trivial, fr2 trivial trivial, trivial, (Q3 (agg2_eq rfl rfl fun _ => rfl) (agg2_eq rfl rfl fun _ => rfl) rfl).trans e2⟩
    · rw [if_neg h4] at e3
      have e1 := e1 (by omega)
      rw [e3] at e1
      ((conv => whnf); repeat (refine stepK_in ?_; (repeat (first | refine seqQ_n ?_ | refine blockQ_n ?_ | refine awp_skip ?_ | refine awp_seq ?_ | refine awp_block ?_)); (conv => whnf)))
      exact ⟨fr2 trivial trivial, fr2 trivial trivial, trivial, (Q3 (agg2_eq rfl rfl fun _ => rfl) (agg2_eq rfl rfl fun _ => rfl) rfl).trans e1⟩
  · have e3 : cdE a b l d = boE a b := by unfold cdE; rw [if_neg h]
    have e1 := e1 (by omega)
    rw [e3] at e1
    ((conv => whnf); repeat (refine stepK_in ?_; (repeat (first | refine seqQ_n ?_ | refine blockQ_n ?_ | refine awp_skip ?_ | refine awp_seq ?_ | refine awp_block ?_)); (conv => whnf)))
    refine br_ne (fun h2 => ?_) (fun h2 => absurd h2 h)
    ((conv => whnf); repeat (refine stepK_in ?_; (repeat (first | refine seqQ_n ?_ | refine blockQ_n ?_ | refine awp_skip ?_ | refine awp_seq ?_ | refine awp_block ?_)); (conv => whnf)))
    exact ⟨fr2 trivial trivial, fr2 trivial trivial, trivial, (Q3 (agg2_eq rfl rfl fun _ => rfl) (agg2_eq rfl rfl fun _ => rfl) rfl).trans e1⟩
end Go.Tri
