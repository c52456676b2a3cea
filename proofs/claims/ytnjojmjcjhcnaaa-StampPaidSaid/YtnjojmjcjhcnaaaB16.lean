/-
  CONTRACTS: Greedy, the program's and the reference's.
-/
import Derived.Test.YtnjojmjcjhcnaaaM3
namespace Go.Tri
open Go.Proofs

set_option maxRecDepth 100000 in
theorem greatestFirst_pure (h : Int) (v : List Int) (hv : Vals v) (a : Int) (ha : 0 ≤ a ∧ a ≤ 1200) : APure Try.prog 58 [.int h, .ints false v, .int a] (fun R => R = .bool (gOk h v a)) := by
  have hv1 : ∀ i, i < v.length → 1 ≤ v.getD i 0 := fun i hi => (hv.at hi).1
  have h6l := hv.2.1
  refine APure_of (X := ⟨Try.prog, tab, wrL, 29, 0, false⟩) tab_ok rfl (rs := [(.tmp 6, 4)]) Try.func58 (by decide) rfl rfl rfl (by simp) (by simp [NoFr]) ?_
  intro hlen
  conv => whnf
  refine (back_cm v _).mono ?_
  rintro R M' ⟨rfl, rfl⟩
  conv => whnf
  refine AW_rangeL (X := ⟨Try.prog, tab, wrL, 29, 0, false⟩) tab_ok rfl [0, 5, 7] rfl rfl (fun lp hlp hround => ?_)
  refine ACM.mono (backs_cm v (by omega) 2 3
    (fun k M => ∃ u r : Int, k ≤ v.length ∧ 0 ≤ u ∧ 0 ≤ r ∧ u + r ≤ a ∧ greK v k u r = greK v v.length 0 a ∧ M = some ⟨3, 1, 0, .one [.int r]⟩ :: some ⟨3, 1, 0, .one [.int u]⟩ :: some (boxOb v) :: some (lp .ready none) :: [])
    (fun _ => False) ?hb ?hy (some ⟨3, 1, 0, .one [.int a]⟩ :: some ⟨3, 1, 0, .one [.int 0]⟩ :: some (boxOb v) :: some (lp .ready none) :: []) ?h0) ?post
  case hb => rintro k M ⟨u, r, _, _, _, _, _, rfl⟩; rfl
  case h0 => exact ⟨0, a, Nat.le_refl _, by omega, ha.1, by omega, rfl, rfl⟩
  case hy =>
    rintro k M hk ⟨u, r, hk1, hu, hr, hs, hg, rfl⟩
    obtain ⟨s1, s2, s3⟩ := gre_step (hv1 k hk) hr
    have hx1 := hv1 k hk
    refine hround _ _ _ rfl rfl (fun nb => AW_of_awp (X := ⟨Try.prog, tab, wrL, 29, nb, true⟩) tab_ok ?_)
    have hgk : greK v k (u + r.tdiv (v.getD k 0)) (r.tmod (v.getD k 0)) = greK v v.length 0 a := hg
    generalize v.getD k 0 = x at *
    conv => whnf
    refine ⟨rfl, ?_⟩
    conv => whnf
    refine AW_draw (X := ⟨Try.prog, tab, wrL, 29, nb, true⟩) tab_ok mixed (by kernel_rfl) ?_
    conv => whnf
    repeat ((first | refine ⟨(show x ≠ 0 by omega), ?_⟩ | refine ⟨inr (by omega), ?_⟩); conv => whnf)
    refine ⟨rfl, .inl ⟨rfl, _, _, by omega, ?_, s2, ?_, hgk, rfl⟩⟩
    · omega
    · omega
  case post =>
    rintro _ M' (⟨u, r, _, hu, hr, hs, hg, rfl⟩ | h)
    · refine ⟨.ready, none, by decide, rfl, ?_⟩
      have e1 : gOk h v a = decide (r = 0 ∧ u ≤ h) := by
        unfold gOk
        rw [← hg]
        rfl
      rw [e1]
      conv => whnf
      refine br_eq (fun h1 => ?_) (fun h1 => ?_)
      · conv => whnf
        refine ⟨trivial, Qb ?_⟩
        simp [h1]
      · conv => whnf
        refine ⟨trivial, Qb ?_⟩
        simp [h1]
    · exact h.elim

theorem refgreedy_pure (v : List Int) (hv : Vals v) (a : Int) (ha : 0 ≤ a ∧ a ≤ 1200) : APure Try.prog 59 [.ints false v, .int a] (fun R => R = .int (if (greK v v.length 0 a).2 > 0 then -1 else (greK v v.length 0 a).1)) := by
  have hv1 : ∀ i, i < v.length → 1 ≤ v.getD i 0 := fun i hi => (hv.at hi).1
  have h6l := hv.2.1
  refine APure_of (X := cx 31) (cx_ok 31) rfl (rs := [(.tmp 4, 3)]) Try.func59 (by decide) rfl rfl rfl (by simp [cx]) (by simp [NoFr]) ?_
  intro hlen
  conv => whnf
  refine ⟨inr (by omega), ?_⟩
  conv => whnf
  refine AW_loop (X := cx 31) (cx_ok 31) [0, 1, 5, 6] (fun vs M => ∃ (k : Nat) (u r : Int), k ≤ v.length ∧ 0 ≤ u ∧ 0 ≤ r ∧ u + r ≤ a ∧ greK v k u r = greK v v.length 0 a ∧ vs = [.ints false v, .int r, .int u, .int ((k : Int) - 1)] ∧ M = [])
    (fun vs _ => ((vs.getD 3 .any).toInt + 1).toNat) ?_ ?_
  · exact ⟨v.length, 0, a, Nat.le_refl _, by omega, ha.1, by omega, rfl, rfl, rfl⟩
  rintro vs M ⟨k, u, r, hk, hu, hr, hs, hg, rfl, rfl⟩
  conv => whnf
  refine br_dec (fun hlt => ?_) (fun hge => ?_)
  · obtain ⟨j, rfl⟩ : ∃ j, k = j + 1 := ⟨k - 1, by omega⟩
    have e1 : ((j + 1 : Nat) : Int) - 1 = j := by omega
    rw [e1]
    obtain ⟨s1, s2, s3⟩ := gre_step (hv1 j (by omega)) hr
    have hx1 := hv1 j (by omega)
    have hgk : greK v j (u + r.tdiv (v.getD j 0)) (r.tmod (v.getD j 0)) = greK v v.length 0 a := hg
    conv => whnf
    repeat ((first | refine ⟨by omega, ?_⟩ | refine ⟨(show v.getD j 0 ≠ 0 by omega), ?_⟩ | refine ⟨inr (show -9223372036854775808 ≤ r.tdiv (v.getD j 0) ∧ r.tdiv (v.getD j 0) ≤ 9223372036854775807 by omega), ?_⟩ | refine ⟨inr (show -9223372036854775808 ≤ u + r.tdiv (v.getD j 0) ∧ u + r.tdiv (v.getD j 0) ≤ 9223372036854775807 by omega), ?_⟩ | refine ⟨inr (by omega), ?_⟩); conv => whnf)
    refine ⟨⟨j, _, _, by omega, ?_, s2, ?_, hgk, rfl, rfl⟩, ?_⟩
    · omega
    · omega
    · simp [V.toInt, sel, Env.get]
  · have : k = 0 := by omega
    subst this
    rw [← hg]
    conv => whnf
    refine br_dec (fun h1 => ?_) (fun h1 => ?_)
    · conv => whnf
      exact ⟨trivial, Qi (show -1 = if r > 0 then -1 else u from (if_pos h1).symm)⟩
    · conv => whnf
      exact ⟨trivial, Qi (show u = if r > 0 then -1 else u from (if_neg h1).symm)⟩

/-- Payable, but not by the greatest first. -/
def badB (h : Int) (v : List Int) (p : Nat → Bool) (a : Nat) : Bool := p a && !gOk h v a
def badR (o : Option Nat) (e : Int) : V := tup2 (.int (if e = 0 then ((o.getD 0 : Nat) : Int) else 0)) (.int (if e = 0 then (if o.isSome then 0 else 10) else e))

theorem Greedy_pure (h : Int) (v : List Int) : APure Try.prog 32 [.int h, .ints false v] (fun R => R = badR (badO (badB h v (hasB (lettersL h.toNat v))) (lettersL h.toNat v).length) (tickE h v)) := by
  refine APure_of (X := cx 35) (cx_ok 35) rfl (rs := [(.tmp 4, 3), (.tmp 5, 24)]) Try.func32 (by decide) rfl rfl rfl (by simp [cx]) (by simp [NoFr]) ?_
  intro hlen
  conv => whnf
  refine APure.to (checkTicket_pure h v) ?_
  conv => whnf
  refine br_ne (fun h0 => ?_) (fun h0 => ?_)
  · conv => whnf
    exact ⟨trivial, trivial, Q2 (Qi (by rw [if_neg h0])) (Qi (by rw [if_neg h0]))⟩
  obtain ⟨hh, hv⟩ := tickE_inv h0
  obtain ⟨n, rfl⟩ : ∃ n : Nat, h = n := ⟨h.toNat, by omega⟩
  have hb := mul_bd hh hv.last
  have hll := lettersL_len n v
  have hnn := letters_pos0 (h := n) hv
  rw [Int.toNat_natCast]
  conv => whnf
  refine APure.to (letters_pure n (by omega) v hv) ?_
  generalize lettersL n v = w at *
  conv => whnf
  refine AW_loop (X := cx 35) (cx_ok 35) [0, 1, 17, 18, 19] (fun vs M => ∃ k : Nat, k ≤ w.length ∧ badO (badB n v (hasB w)) k = none ∧ vs = [.int n, .ints false v, .ints true w, .int w.length, .int k] ∧ M = [])
    (fun vs _ => w.length - (vs.getD 4 .any).toInt.toNat) ?_ ?_
  · exact ⟨0, Nat.zero_le _, rfl, rfl, rfl⟩
  rintro vs M ⟨k, hk, hbo, rfl, rfl⟩
  conv => whnf
  refine br_dec (fun hlt => ?_) (fun hge => ?_)
  · have hk' : k < w.length := by omega
    have hwk := hnn k
    conv => whnf
    refine ⟨by omega, ?_⟩
    conv => whnf
    refine ⟨by omega, ?_⟩
    conv => whnf
    refine br_dec (fun h1 => ?_) (fun h1 => ?_)
    · have h1 : w.getD k 0 > 0 := h1
      have hp : hasB w k = true := by unfold hasB; rw [decide_eq_true_iff]; omega
      conv => whnf
      refine APure.to (greatestFirst_pure n v hv k (by omega)) ?_
      conv => whnf
      cases hg : gOk n v k with
      | true =>
        conv => whnf
        refine ⟨inr (by omega), ?_⟩
        conv => whnf
        refine ⟨⟨k + 1, by omega, ?_, rfl, rfl⟩, ?_⟩
        · rw [badO_step hbo, if_neg (by unfold badB; rw [hg]; simp)]
        · simp [V.toInt, sel, Env.get]; omega
      | false =>
        have hs : badO (badB n v (hasB w)) w.length = some k := badO_stay' (k := k + 1) (by rw [badO_step hbo, if_pos (by unfold badB; rw [hg, hp]; rfl)]) (by omega)
        rw [hs, h0]
        conv => whnf
        exact ⟨trivial, trivial, rfl⟩
    · have h1 : ¬ w.getD k 0 > 0 := h1
      have hp : hasB w k = false := by unfold hasB; rw [decide_eq_false_iff_not]; omega
      conv => whnf
      refine ⟨inr (by omega), ?_⟩
      conv => whnf
      refine ⟨⟨k + 1, by omega, ?_, rfl, rfl⟩, ?_⟩
      · rw [badO_step hbo, if_neg (by unfold badB; rw [hp]; simp)]
      · simp [V.toInt, sel, Env.get]; omega
  · obtain rfl : k = w.length := by omega
    rw [hbo, h0]
    conv => whnf
    exact ⟨trivial, trivial, rfl⟩

theorem refGreedy_pure (h : Int) (v : List Int) : APure Try.prog 33 [.int h, .ints false v] (fun R => R = badR (badO (badB h v (posB (fewL h v))) (fewL h v).length) (tickE h v)) := by
  refine APure_of (X := cx 43) (cx_ok 43) rfl (rs := [(.tmp 4, 3), (.tmp 5, 24)]) Try.func33 (by decide) rfl rfl rfl (by simp [cx]) (by simp [NoFr]) ?_
  intro hlen
  conv => whnf
  refine APure.to (refTicket_pure h v) ?_
  conv => whnf
  refine br_ne (fun h0 => ?_) (fun h0 => ?_)
  · conv => whnf
    exact ⟨trivial, trivial, Q2 (Qi (by rw [if_neg h0])) (Qi (by rw [if_neg h0]))⟩
  obtain ⟨hh, hv⟩ := tickE_inv h0
  have hb := mul_bd hh hv.last
  have hfl : (fewL h v).length = (h * lastV v + 1).toNat := fewL_len
  conv => whnf
  refine APure.to (refFew_pure h hh v hv) ?_
  generalize fewL h v = w at *
  conv => whnf
  refine AW_loop (X := cx 43) (cx_ok 43) [0, 1, 7, 8] (fun vs M => ∃ k : Nat, 1 ≤ k ∧ k ≤ w.length ∧ badO (badB h v (posB w)) k = none ∧ vs = [.int h, .ints false v, .ints true w, .int k] ∧ M = [])
    (fun vs _ => w.length - (vs.getD 3 .any).toInt.toNat) ?_ ?_
  · refine ⟨1, Nat.le_refl _, by omega, ?_, rfl, rfl⟩
    simp only [badO]
    rw [if_neg (by unfold badB; rw [show ((0 : Nat)) = 0 from rfl]; rw [show gOk h v ((0 : Nat) : Int) = true from gOk_zero (by omega) v]; simp)]
  rintro vs M ⟨k, hk1, hk, hbo, rfl, rfl⟩
  conv => whnf
  refine br_dec (fun hlt => ?_) (fun hge => ?_)
  · have hk' : k < w.length := by omega
    obtain ⟨g1, g2, g3⟩ := gre_bd (fun i hi => (hv.at hi).1) v.length 0 k (Nat.le_refl _) (Int.le_refl _) (by omega : (0 : Int) ≤ k)
    have hgo : gOk h v k = decide ((greK v v.length 0 k).2 = 0 ∧ (greK v v.length 0 k).1 ≤ h) := rfl
    conv => whnf
    refine APure.to (refgreedy_pure v hv k (by omega)) ?_
    generalize greK v v.length 0 k = g at *
    obtain ⟨g', hg'⟩ : ∃ y, (if g.2 > 0 then -1 else g.1) = y := ⟨_, rfl⟩
    rw [hg']
    have hiff : gOk h v k = !(decide (g' < 0 ∨ g' > h)) := by
      rw [hgo, ← hg']
      by_cases h1 : g.2 > 0
      · rw [if_pos h1]
        rw [show decide (g.2 = 0 ∧ g.1 ≤ h) = false from decide_eq_false (by omega)]
        rfl
      · rw [if_neg h1]
        by_cases h2 : g.1 ≤ h
        · rw [show decide (g.2 = 0 ∧ g.1 ≤ h) = true from decide_eq_true (by omega), show decide (g.1 < 0 ∨ g.1 > h) = false from decide_eq_false (by omega)]; rfl
        · rw [show decide (g.2 = 0 ∧ g.1 ≤ h) = false from decide_eq_false (by omega), show decide (g.1 < 0 ∨ g.1 > h) = true from decide_eq_true (by omega)]; rfl
    have yes : posB w k = true → (g' < 0 ∨ g' > h) → badO (badB h v (posB w)) w.length = some k := fun p q => badO_stay' (k := k + 1) (by rw [badO_step hbo, if_pos (by unfold badB; rw [p, hiff, decide_eq_true q]; rfl)]) (by omega)
    have no : (posB w k = false ∨ ¬ (g' < 0 ∨ g' > h)) → badO (badB h v (posB w)) (k + 1) = none := by
      intro hq
      rw [badO_step hbo, if_neg]
      unfold badB
      rcases hq with hq | hq
      · rw [hq]; simp
      · rw [hiff, decide_eq_false hq]; simp
    conv => whnf
    refine ⟨by omega, ?_⟩
    conv => whnf
    refine ⟨by omega, ?_⟩
    conv => whnf
    refine br_dec (fun h1 => ?_) (fun h1 => ?_)
    · have hp : posB w k = true := by unfold posB; rw [decide_eq_true_iff]; exact h1
      conv => whnf
      refine br_dec (fun h2 => ?_) (fun h2 => ?_)
      · rw [yes hp (.inl h2), h0]
        conv => whnf
        exact ⟨trivial, trivial, rfl⟩
      · conv => whnf
        refine br_dec (fun h3 => ?_) (fun h3 => ?_)
        · rw [yes hp (.inr h3), h0]
          conv => whnf
          exact ⟨trivial, trivial, rfl⟩
        · have hn := no (.inr (by omega))
          conv => whnf
          refine ⟨inr (by omega), ?_⟩
          conv => whnf
          refine ⟨⟨k + 1, by omega, by omega, hn, rfl, rfl⟩, ?_⟩
          simp [V.toInt, sel, Env.get]; omega
    · have hn := no (.inl (by unfold posB; rw [decide_eq_false_iff_not]; exact h1))
      conv => whnf
      refine ⟨inr (by omega), ?_⟩
      conv => whnf
      refine ⟨⟨k + 1, by omega, by omega, hn, rfl, rfl⟩, ?_⟩
      simp [V.toInt, sel, Env.get]; omega
  · obtain rfl : k = w.length := by omega
    rw [hbo, h0]
    conv => whnf
    exact ⟨trivial, trivial, rfl⟩

theorem bad_eq {h : Nat} {v : List Int} (hv : Vals v) : badO (badB h v (hasB (lettersL h v))) (lettersL h v).length = badO (badB h v (posB (fewL h v))) (fewL h v).length := by
  have hl := hv.last
  have hn : 0 ≤ (h : Int) * lastV v := Int.mul_nonneg (by omega) (by omega)
  rw [lettersL_len, fewL_len]
  exact badO_congr _ (fun a ha => by unfold badB; rw [has_pos hv (by omega)])
end Go.Tri
