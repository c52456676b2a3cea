/-
  LAW: ShiftPlanned.
-/
import Derived.Test.YtciefpkelgjboaaL2
namespace Go.Tri
open Go.Proofs

/-- Of plans with the same first hours the least one has the least next one. -/
theorem plnL_first {l : List Int} {long : Nat} {T : Int} {p : Nat → Int} (hn : Nds l) (hl1 : 1 ≤ long) (hl : long ≤ l.length) (hT : 0 ≤ T) (h : okT l long T = true) (hp : IsFea l long T p) {k : Nat} (hk : k < l.length) (he : ∀ i, i < k → (plnL l long T).getD i 0 = p i) : (plnL l long T).getD k 0 ≤ p k := by
  have n12 := hn.2.1
  have h0 := settled_zero hn.1 hn.2.1 hl1 hl hn.wide hT h
  have hb := rdT_below (T := T) (s := sig p) hl1 hl (fun q hq => sm_nn fun i hi => hp.nn i (by omega)) (sig_meets hn.1 hl hp)
  have hg : ∀ q, q < l.length → (plnL l long T).getD q 0 = plP l.length T (rdT l long T l.length) q := fun q hq => by
    rw [plnL_get hq]
    exact plP_congr (fun q hq => stT_val (by omega)) hq
  generalize hs : rdT l long T l.length = s at *
  have tel : ∀ k, k < l.length → sm k (plP l.length T s) = s k := by
    intro k
    induction k with
    | zero => intro _; exact h0.symm
    | succ k ih =>
      intro hk
      simp only [sm]
      rw [ih (by omega)]
      unfold plP
      rw [if_pos hk]
      omega
  have e1 : sm k p = s k := by
    rw [← tel k hk]
    exact sm_congr fun i hi => by rw [← he i hi, hg i (by omega)]
  rw [hg k hk]
  unfold plP
  split
  · next h1 =>
    have := hb l.length (k + 1) h1
    rw [hs] at this
    unfold sig at this
    simp only [sm] at this
    omega
  · have hkn : l.length = k + 1 := by omega
    have := hp.size
    rw [hkn] at this
    simp only [sm] at this
    omega

def lowB (S : List Int) : Nat → Bool
  | 0 => false
  | k + 1 => lowB S k || decide (S.getD k 0 < 0)
theorem lowB_iff (S : List Int) : ∀ k, lowB S k = true ↔ ∃ i, i < k ∧ S.getD i 0 < 0 := by
  intro k
  induction k with
  | zero => simp [lowB]
  | succ k ih =>
    simp only [lowB, Bool.or_eq_true, ih, decide_eq_true_eq]
    constructor
    · rintro (⟨i, h1, h2⟩ | h)
      · exact ⟨i, by omega, h2⟩
      · exact ⟨k, by omega, h⟩
    · rintro ⟨i, h1, h2⟩
      rcases (by omega : i < k ∨ i = k) with h3 | rfl
      · exact .inl ⟨i, h3, h2⟩
      · exact .inr h2
theorem lowB_min {S : List Int} {k : Nat} (hk : 1 ≤ k) : lowB S k = !decide (0 ≤ minL S k) := by
  have h1 := lowB_iff S k
  have h2 := minL_ge S 0 k hk
  by_cases h : 0 ≤ minL S k
  · rw [decide_eq_true h]
    cases hb : lowB S k with
    | false => rfl
    | true =>
      obtain ⟨i, h3, h4⟩ := h1.1 hb
      have := h2.1 h i h3
      omega
  · rw [decide_eq_false h]
    cases hb : lowB S k with
    | true => rfl
    | false =>
      refine absurd (h2.2 fun j hj => ?_) h
      apply Classical.byContradiction
      intro hlt
      rw [h1.2 ⟨j, hj, by omega⟩] at hb
      cases hb

set_option maxRecDepth 100000 in
open Classical in
theorem ShiftPlanned_pure (l : List Int) (long : Int) (p : List Int) : APure Try.prog 13 [.ints false l, .int long, .ints false p] (fun R => R = .bool true) := by
  refine APure_of (X := cx 174) (cx_ok 174) rfl (rs := [(.tmp 6, 4)]) Try.func13 (by decide) rfl rfl rfl (by simp [cx]) (by simp [NoFr]) ?_
  intro hlen
  have fin := alive_pure
  have hfew := few_pure l p
  ((conv => whnf); repeat (refine stepK_in ?_; (repeat (first | refine seqQ_n ?_ | refine blockQ_n ?_ | refine awp_skip ?_ | refine awp_seq ?_ | refine awp_block ?_)); (conv => whnf)))
  refine APure.to hfew ?_
  by_cases h40 : l.length ≤ 40 ∧ p.length ≤ 100
  · rw [decide_eq_true h40]
    ((conv => whnf); repeat (refine stepK_in ?_; (repeat (first | refine seqQ_n ?_ | refine blockQ_n ?_ | refine awp_skip ?_ | refine awp_seq ?_ | refine awp_block ?_)); (conv => whnf)))
    refine APure.to (refDay_pure l long) ?_
    ((conv => whnf); repeat (refine stepK_in ?_; (repeat (first | refine seqQ_n ?_ | refine blockQ_n ?_ | refine awp_skip ?_ | refine awp_seq ?_ | refine awp_block ?_)); (conv => whnf)))
    refine br_ne (fun h => ?_) (fun h => ?_)
    · ((conv => whnf); repeat (refine stepK_in ?_; (repeat (first | refine seqQ_n ?_ | refine blockQ_n ?_ | refine awp_skip ?_ | refine awp_seq ?_ | refine awp_block ?_)); (conv => whnf)))
      refine APure.to fin ?_
      ((conv => whnf); repeat (refine stepK_in ?_; (repeat (first | refine seqQ_n ?_ | refine blockQ_n ?_ | refine awp_skip ?_ | refine awp_seq ?_ | refine awp_block ?_)); (conv => whnf)))
      exact ⟨trivial, rfl⟩
    obtain ⟨hn, hl1, hl2⟩ := dayE_inv h
    obtain ⟨n, rfl⟩ : ∃ n : Nat, long = n := ⟨long.toNat, by omega⟩
    have n12 := hn.2.1
    have n11 := hn.1
    have hle := le600 h
    have hok := (fea_ok (T := (leL l n : Int)) hn (show 1 ≤ n by omega) (by omega) (by omega)).2 (Int.le_refl _)
    have hfst := fun (q : Nat → Int) (hq : IsFea l n (leL l n : Int) q) (k : Nat) (hk : k < l.length) => plnL_first hn (by omega) (by omega) (by omega) hok hq hk
    have c1 := Least_pure l n
    rw [leV_ok h] at c1
    have c2 := Plan_pure l n
    rw [show plV l n = tup2 (.ints true (plnL l n (leL l n))) (.int 0) from by unfold plV; rw [if_pos h]] at c2
    have c3 := Enough_pure l n (plnL l n (leL l n))
    rw [enV_plan h (by omega) hok] at c3
    have hpl := plnL_len l n (leL l n)
    have c4 := Enough_pure l n p
    have c5 := Spare_pure l n p
    have c6 := refIsPlan_pure l.length p
    have hei := fun hp : isPl l.length p => enough_iff (long := n) n11 (by omega) hp
    have hlo := spOut_len l p n l.length
    generalize plnL l n (leL l n) = P at *
    generalize leL l n = n1 at *
    ((conv => whnf); repeat (refine stepK_in ?_; (repeat (first | refine seqQ_n ?_ | refine blockQ_n ?_ | refine awp_skip ?_ | refine awp_seq ?_ | refine awp_block ?_)); (conv => whnf)))
    refine APure.to c1 ?_
    ((conv => whnf); repeat (refine stepK_in ?_; (repeat (first | refine seqQ_n ?_ | refine blockQ_n ?_ | refine awp_skip ?_ | refine awp_seq ?_ | refine awp_block ?_)); (conv => whnf)))
    refine APure.to c2 ?_
    ((conv => whnf); repeat (refine stepK_in ?_; (repeat (first | refine seqQ_n ?_ | refine blockQ_n ?_ | refine awp_skip ?_ | refine awp_seq ?_ | refine awp_block ?_)); (conv => whnf)))
    refine APure.to c3 ?_
    ((conv => whnf); repeat (refine stepK_in ?_; (repeat (first | refine seqQ_n ?_ | refine blockQ_n ?_ | refine awp_skip ?_ | refine awp_seq ?_ | refine awp_block ?_)); (conv => whnf)))
    refine br_ne (fun h => absurd rfl h) (fun _ => ?_)
    ((conv => whnf); repeat (refine stepK_in ?_; (repeat (first | refine seqQ_n ?_ | refine blockQ_n ?_ | refine awp_skip ?_ | refine awp_seq ?_ | refine awp_block ?_)); (conv => whnf)))
    refine br_ne (fun h => absurd (show (P.length : Int) = l.length by omega) h) (fun _ => ?_)
    by_cases hp : isPl l.length p
    · have e4 : enV l n p = tup3 (.int (sumL p p.length)) (.bool (decide (0 ≤ minL (spOut l p n l.length) l.length))) (.int 0) := by unfold enV; rw [if_pos h, if_pos hp, Int.toNat_natCast]
      have e5 : spV l n p = tup2 (.ints true (spOut l p n l.length)) (.int 0) := by unfold spV; rw [if_pos h, if_pos hp, Int.toNat_natCast]
      rw [e4] at c4
      rw [e5] at c5
      rw [decide_eq_true hp] at c6
      have hei := hei hp
      have hlm := lowB_min (S := spOut l p n l.length) n11
      have hp1 := hp.1
      generalize spOut l p n l.length = S at *
      generalize hmm : sumL p p.length = mm at *
      ((conv => whnf); repeat (refine stepK_in ?_; (repeat (first | refine seqQ_n ?_ | refine blockQ_n ?_ | refine awp_skip ?_ | refine awp_seq ?_ | refine awp_block ?_)); (conv => whnf)))
      refine APure.to c4 ?_
      ((conv => whnf); repeat (refine stepK_in ?_; (repeat (first | refine seqQ_n ?_ | refine blockQ_n ?_ | refine awp_skip ?_ | refine awp_seq ?_ | refine awp_block ?_)); (conv => whnf)))
      refine APure.to c5 ?_
      ((conv => whnf); repeat (refine stepK_in ?_; (repeat (first | refine seqQ_n ?_ | refine blockQ_n ?_ | refine awp_skip ?_ | refine awp_seq ?_ | refine awp_block ?_)); (conv => whnf)))
      refine APure.to c6 ?_
      ((conv => whnf); repeat (refine stepK_in ?_; (repeat (first | refine seqQ_n ?_ | refine blockQ_n ?_ | refine awp_skip ?_ | refine awp_seq ?_ | refine awp_block ?_)); (conv => whnf)))
      refine AW_loop (X := cx 174) (cx_ok 174) [0, 2, 7, 9, 14, 15, 16, 17, 18] (fun vs M => ∃ k : Nat, k ≤ l.length ∧ vs = [.ints false l, .ints false p, .int n1, .ints true P, .int mm, .bool (decide (0 ≤ minL S l.length)), .ints true S, .bool (lowB S k), .int k] ∧ M = [])
        (fun vs _ => l.length - (vs.getD 8 .any).toInt.toNat) ?_ ?_
      · exact ⟨0, Nat.zero_le _, rfl, rfl⟩
      rintro vs M ⟨k, hk, rfl, rfl⟩
      generalize hlb : lowB S k = lb
      ((conv => whnf); repeat (refine stepK_in ?_; (repeat (first | refine seqQ_n ?_ | refine blockQ_n ?_ | refine awp_skip ?_ | refine awp_seq ?_ | refine awp_block ?_)); (conv => whnf)))
      refine br_dec (fun hlt => ?_) (fun hge => ?_)
      · have hlt : (k : Int) < S.length := hlt
        have hk' : k < l.length := by omega
        have hnx : lowB S (k + 1) = (lb || decide (S.getD k 0 < 0)) := by rw [← hlb]; rfl
        ((conv => whnf); repeat (refine stepK_in ?_; (repeat (first | refine seqQ_n ?_ | refine blockQ_n ?_ | refine awp_skip ?_ | refine awp_seq ?_ | refine awp_block ?_)); (conv => whnf)))
        refine br_mk (fun hb => ?_) (fun hb => ?_)
        · rw [hb, Bool.true_or] at hnx
          ((conv => whnf); repeat (refine stepK_in ?_; (repeat (first | refine seqQ_n ?_ | refine blockQ_n ?_ | refine awp_skip ?_ | refine awp_seq ?_ | refine awp_block ?_)); (conv => whnf)))
          refine ⟨inr (by omega), ?_⟩
          ((conv => whnf); repeat (refine stepK_in ?_; (repeat (first | refine seqQ_n ?_ | refine blockQ_n ?_ | refine awp_skip ?_ | refine awp_seq ?_ | refine awp_block ?_)); (conv => whnf)))
          refine ⟨⟨k + 1, by omega, ?_, rfl⟩, ?_⟩
          · rw [hnx]; rfl
          · simp [V.toInt, sel, Env.get]; omega
        · rw [hb, Bool.false_or] at hnx
          ((conv => whnf); repeat (refine stepK_in ?_; (repeat (first | refine seqQ_n ?_ | refine blockQ_n ?_ | refine awp_skip ?_ | refine awp_seq ?_ | refine awp_block ?_)); (conv => whnf)))
          repeat ((first | refine ⟨by omega, ?_⟩ | refine ⟨inr (by omega), ?_⟩); ((conv => whnf); repeat (refine stepK_in ?_; (repeat (first | refine seqQ_n ?_ | refine blockQ_n ?_ | refine awp_skip ?_ | refine awp_seq ?_ | refine awp_block ?_)); (conv => whnf))))
          refine ⟨⟨k + 1, by omega, ?_, rfl⟩, ?_⟩
          · rw [hnx]; rfl
          · simp [V.toInt, sel, Env.get]; omega
      · have hge : ¬ (k : Int) < S.length := hge
        obtain rfl : k = l.length := by omega
        rw [← hlb, hlm]
        generalize hisv : decide (0 ≤ minL S l.length) = is
        ((conv => whnf); repeat (refine stepK_in ?_; (repeat (first | refine seqQ_n ?_ | refine blockQ_n ?_ | refine awp_skip ?_ | refine awp_seq ?_ | refine awp_block ?_)); (conv => whnf)))
        cases is with
        | false =>
          ((conv => whnf); repeat (refine stepK_in ?_; (repeat (first | refine seqQ_n ?_ | refine blockQ_n ?_ | refine awp_skip ?_ | refine awp_seq ?_ | refine awp_block ?_)); (conv => whnf)))
          refine br_ne (fun h => absurd (show (S.length : Int) = l.length by omega) h) (fun _ => ?_)
          ((conv => whnf); repeat (refine stepK_in ?_; (repeat (first | refine seqQ_n ?_ | refine blockQ_n ?_ | refine awp_skip ?_ | refine awp_seq ?_ | refine awp_block ?_)); (conv => whnf)))
          refine AW_loop (X := cx 174) (cx_ok 174) [2, 7, 9, 14, 15, 19] (fun vs M => ∃ k : Nat, k ≤ l.length ∧ (mm = n1 → ∀ i, i < k → P.getD i 0 = p.getD i 0) ∧ vs = [.ints false p, .int n1, .ints true P, .int mm, .bool false, .int k] ∧ M = [])
            (fun vs _ => l.length - (vs.getD 5 .any).toInt.toNat) ?_ ?_
          · exact ⟨0, Nat.zero_le _, fun _ i hi => absurd hi (by omega), rfl, rfl⟩
          rintro vs M ⟨k, hk, hpre, rfl, rfl⟩
          ((conv => whnf); repeat (refine stepK_in ?_; (repeat (first | refine seqQ_n ?_ | refine blockQ_n ?_ | refine awp_skip ?_ | refine awp_seq ?_ | refine awp_block ?_)); (conv => whnf)))
          refine br_dec (fun hlt => ?_) (fun hge => ?_)
          · ((conv => whnf); repeat (refine stepK_in ?_; (repeat (first | refine seqQ_n ?_ | refine blockQ_n ?_ | refine awp_skip ?_ | refine awp_seq ?_ | refine awp_block ?_)); (conv => whnf)))
            refine APure.to fin ?_
            ((conv => whnf); repeat (refine stepK_in ?_; (repeat (first | refine seqQ_n ?_ | refine blockQ_n ?_ | refine awp_skip ?_ | refine awp_seq ?_ | refine awp_block ?_)); (conv => whnf)))
            exact ⟨trivial, rfl⟩
          · ((conv => whnf); repeat (refine stepK_in ?_; (repeat (first | refine seqQ_n ?_ | refine blockQ_n ?_ | refine awp_skip ?_ | refine awp_seq ?_ | refine awp_block ?_)); (conv => whnf)))
            refine APure.to fin ?_
            ((conv => whnf); repeat (refine stepK_in ?_; (repeat (first | refine seqQ_n ?_ | refine blockQ_n ?_ | refine awp_skip ?_ | refine awp_seq ?_ | refine awp_block ?_)); (conv => whnf)))
            exact ⟨trivial, rfl⟩
        | true =>
          ((conv => whnf); repeat (refine stepK_in ?_; (repeat (first | refine seqQ_n ?_ | refine blockQ_n ?_ | refine awp_skip ?_ | refine awp_seq ?_ | refine awp_block ?_)); (conv => whnf)))
          refine br_ne (fun h => absurd (show (S.length : Int) = l.length by omega) h) (fun _ => ?_)
          ((conv => whnf); repeat (refine stepK_in ?_; (repeat (first | refine seqQ_n ?_ | refine blockQ_n ?_ | refine awp_skip ?_ | refine awp_seq ?_ | refine awp_block ?_)); (conv => whnf)))
          refine AW_loop (X := cx 174) (cx_ok 174) [2, 7, 9, 14, 15, 19] (fun vs M => ∃ k : Nat, k ≤ l.length ∧ (mm = n1 → ∀ i, i < k → P.getD i 0 = p.getD i 0) ∧ vs = [.ints false p, .int n1, .ints true P, .int mm, .bool true, .int k] ∧ M = [])
            (fun vs _ => l.length - (vs.getD 5 .any).toInt.toNat) ?_ ?_
          · exact ⟨0, Nat.zero_le _, fun _ i hi => absurd hi (by omega), rfl, rfl⟩
          rintro vs M ⟨k, hk, hpre, rfl, rfl⟩
          ((conv => whnf); repeat (refine stepK_in ?_; (repeat (first | refine seqQ_n ?_ | refine blockQ_n ?_ | refine awp_skip ?_ | refine awp_seq ?_ | refine awp_block ?_)); (conv => whnf)))
          refine br_dec (fun hlt => ?_) (fun hge => ?_)
          · have hlt : (k : Int) < P.length := hlt
            have hk' : k < l.length := by omega
            ((conv => whnf); repeat (refine stepK_in ?_; (repeat (first | refine seqQ_n ?_ | refine blockQ_n ?_ | refine awp_skip ?_ | refine awp_seq ?_ | refine awp_block ?_)); (conv => whnf)))
            refine br_eq (fun hmn => ?_) (fun hmn => ?_)
            · have hfk := hfst (fun i => p.getD i 0) (by rw [← hmn]; exact hei.1 (of_decide_eq_true hisv)) k hk' (hpre hmn)
              ((conv => whnf); repeat (refine stepK_in ?_; (repeat (first | refine seqQ_n ?_ | refine blockQ_n ?_ | refine awp_skip ?_ | refine awp_seq ?_ | refine awp_block ?_)); (conv => whnf)))
              refine AW_draw (X := cx 174) (cx_ok 174) mixed (by kernel_rfl) ?_
              ((conv => whnf); repeat (refine stepK_in ?_; (repeat (first | refine seqQ_n ?_ | refine blockQ_n ?_ | refine awp_skip ?_ | refine awp_seq ?_ | refine awp_block ?_)); (conv => whnf)))
              repeat ((first | refine ⟨by omega, ?_⟩ | refine ⟨inr (by omega), ?_⟩); ((conv => whnf); repeat (refine stepK_in ?_; (repeat (first | refine seqQ_n ?_ | refine blockQ_n ?_ | refine awp_skip ?_ | refine awp_seq ?_ | refine awp_block ?_)); (conv => whnf))))
              refine br_ne (fun hne => ?_) (fun heq => ?_)
              · simp only [Int.toNat_natCast] at hne
                ((conv => whnf); repeat (refine stepK_in ?_; (repeat (first | refine seqQ_n ?_ | refine blockQ_n ?_ | refine awp_skip ?_ | refine awp_seq ?_ | refine awp_block ?_)); (conv => whnf)))
                refine AW_draw (X := cx 174) (cx_ok 174) mixed (by kernel_rfl) ?_
                ((conv => whnf); repeat (refine stepK_in ?_; (repeat (first | refine seqQ_n ?_ | refine blockQ_n ?_ | refine awp_skip ?_ | refine awp_seq ?_ | refine awp_block ?_)); (conv => whnf)))
                repeat ((first | refine ⟨by omega, ?_⟩ | refine ⟨inr (by omega), ?_⟩); ((conv => whnf); repeat (refine stepK_in ?_; (repeat (first | refine seqQ_n ?_ | refine blockQ_n ?_ | refine awp_skip ?_ | refine awp_seq ?_ | refine awp_block ?_)); (conv => whnf))))
                refine br_dec (fun _ => ?_) (fun h => absurd (show P.getD k 0 < p.getD k 0 by omega) h)
                ((conv => whnf); repeat (refine stepK_in ?_; (repeat (first | refine seqQ_n ?_ | refine blockQ_n ?_ | refine awp_skip ?_ | refine awp_seq ?_ | refine awp_block ?_)); (conv => whnf)))
                refine ⟨_, fin, ?_⟩
                ((conv => whnf); repeat (refine stepK_in ?_; (repeat (first | refine seqQ_n ?_ | refine blockQ_n ?_ | refine awp_skip ?_ | refine awp_seq ?_ | refine awp_block ?_)); (conv => whnf)))
                exact ⟨trivial, rfl⟩
              · simp only [Int.toNat_natCast] at heq
                ((conv => whnf); repeat (refine stepK_in ?_; (repeat (first | refine seqQ_n ?_ | refine blockQ_n ?_ | refine awp_skip ?_ | refine awp_seq ?_ | refine awp_block ?_)); (conv => whnf)))
                repeat ((first | refine ⟨by omega, ?_⟩ | refine ⟨inr (by omega), ?_⟩); ((conv => whnf); repeat (refine stepK_in ?_; (repeat (first | refine seqQ_n ?_ | refine blockQ_n ?_ | refine awp_skip ?_ | refine awp_seq ?_ | refine awp_block ?_)); (conv => whnf))))
                refine ⟨⟨k + 1, by omega, fun _ i hi => ?_, rfl, rfl⟩, ?_⟩
                · rcases (by omega : i < k ∨ i = k) with h1 | rfl
                  · exact hpre hmn i h1
                  · exact heq
                · simp [V.toInt, sel, Env.get]; omega
            · ((conv => whnf); repeat (refine stepK_in ?_; (repeat (first | refine seqQ_n ?_ | refine blockQ_n ?_ | refine awp_skip ?_ | refine awp_seq ?_ | refine awp_block ?_)); (conv => whnf)))
              refine APure.to fin ?_
              ((conv => whnf); repeat (refine stepK_in ?_; (repeat (first | refine seqQ_n ?_ | refine blockQ_n ?_ | refine awp_skip ?_ | refine awp_seq ?_ | refine awp_block ?_)); (conv => whnf)))
              exact ⟨trivial, rfl⟩
          · ((conv => whnf); repeat (refine stepK_in ?_; (repeat (first | refine seqQ_n ?_ | refine blockQ_n ?_ | refine awp_skip ?_ | refine awp_seq ?_ | refine awp_block ?_)); (conv => whnf)))
            refine APure.to fin ?_
            ((conv => whnf); repeat (refine stepK_in ?_; (repeat (first | refine seqQ_n ?_ | refine blockQ_n ?_ | refine awp_skip ?_ | refine awp_seq ?_ | refine awp_block ?_)); (conv => whnf)))
            exact ⟨trivial, rfl⟩
    · have e4 : enV l n p = tup3 (.int 0) (.bool false) (.int 0) := by unfold enV; rw [if_pos h, if_neg hp]
      have e5 : spV l n p = tup2 (.ints true []) (.int 2) := by unfold spV; rw [if_pos h, if_neg hp]
      rw [e4] at c4
      rw [e5] at c5
      rw [decide_eq_false hp] at c6
      ((conv => whnf); repeat (refine stepK_in ?_; (repeat (first | refine seqQ_n ?_ | refine blockQ_n ?_ | refine awp_skip ?_ | refine awp_seq ?_ | refine awp_block ?_)); (conv => whnf)))
      refine APure.to c4 ?_
      ((conv => whnf); repeat (refine stepK_in ?_; (repeat (first | refine seqQ_n ?_ | refine blockQ_n ?_ | refine awp_skip ?_ | refine awp_seq ?_ | refine awp_block ?_)); (conv => whnf)))
      refine APure.to c5 ?_
      ((conv => whnf); repeat (refine stepK_in ?_; (repeat (first | refine seqQ_n ?_ | refine blockQ_n ?_ | refine awp_skip ?_ | refine awp_seq ?_ | refine awp_block ?_)); (conv => whnf)))
      refine APure.to c6 ?_
      ((conv => whnf); repeat (refine stepK_in ?_; (repeat (first | refine seqQ_n ?_ | refine blockQ_n ?_ | refine awp_skip ?_ | refine awp_seq ?_ | refine awp_block ?_)); (conv => whnf)))
      refine APure.to fin ?_
      ((conv => whnf); repeat (refine stepK_in ?_; (repeat (first | refine seqQ_n ?_ | refine blockQ_n ?_ | refine awp_skip ?_ | refine awp_seq ?_ | refine awp_block ?_)); (conv => whnf)))
      exact ⟨trivial, rfl⟩
  · rw [decide_eq_false h40]
    ((conv => whnf); repeat (refine stepK_in ?_; (repeat (first | refine seqQ_n ?_ | refine blockQ_n ?_ | refine awp_skip ?_ | refine awp_seq ?_ | refine awp_block ?_)); (conv => whnf)))
    refine APure.to fin ?_
    ((conv => whnf); repeat (refine stepK_in ?_; (repeat (first | refine seqQ_n ?_ | refine blockQ_n ?_ | refine awp_skip ?_ | refine awp_seq ?_ | refine awp_block ?_)); (conv => whnf)))
    exact ⟨trivial, rfl⟩
end Go.Tri
