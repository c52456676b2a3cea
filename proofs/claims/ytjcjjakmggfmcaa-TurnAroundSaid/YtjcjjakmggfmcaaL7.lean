/-
  LAW: TurnAround.
-/
import Derived.Test.YtjcjjakmggfmcaaL6
namespace Go.Tri
open Go.Proofs

section
variable {s : List Int} (hs : Shs s) (h2 : 2 ≤ s.length) {m : Nat} {l : List Int} (hl : l = calledL s (pkF s) m)
include hs h2 hl

/-- After a round everyone has had their share. -/
theorem around_cnt (ht : (sumL s).toNat ≤ m) {i : Nat} (hi : i < s.length) : cnt l (sumL s).toNat i = s.getD i 0 := by
  have hsb := sumL_bd s hs.2.2
  have e1 := fair_hi hs h2 hl ht hi
  have e2 := fair_lo hs h2 hl i _ ht
  have ho : ow s l (sumL s).toNat (sumL s).toNat i = (s.getD i 0 - cnt l (sumL s).toNat i) * sumL s := by
    unfold ow
    rw [show (((sumL s).toNat : Nat) : Int) = sumL s by omega, Int.sub_mul, Int.mul_comm]
  rw [ho] at e1 e2
  generalize cnt l (sumL s).toNat i = c at *
  generalize s.getD i 0 = x at *
  have hS : 2 ≤ SL s := by unfold SL; omega
  generalize SL s = S at *
  have hT : 1 ≤ sumL s := by omega
  generalize sumL s = T at *
  rcases (by omega : x - c ≤ -1 ∨ x - c = 0 ∨ 1 ≤ x - c) with h | h | h
  · exfalso
    have := Int.mul_le_mul_of_nonneg_right (c := T * S) (show 1 ≤ -(x - c) by omega) (Int.mul_nonneg (by omega) (by omega))
    grind
  · omega
  · exfalso
    have := Int.mul_le_mul_of_nonneg_right (c := T * S) (show 1 ≤ x - c by omega) (Int.mul_nonneg (by omega) (by omega))
    grind

theorem around_get : ∀ t, (sumL s).toNat + t < m → l.getD ((sumL s).toNat + t) 0 = l.getD t 0 := by
  have hsb := sumL_bd s hs.2.2
  have hll : l.length = m := by rw [hl, calledL_len]
  intro t
  induction t using Nat.strongRecOn with
  | _ t ih =>
    intro ht
    have hc : ∀ u, u ≤ t → ∀ i, i < s.length → cnt l ((sumL s).toNat + u) i = s.getD i 0 + cnt l u i := by
      intro u
      induction u with
      | zero => intro _ i hi; rw [Nat.add_zero, around_cnt hs h2 hl (by omega) hi]; simp [cnt]
      | succ u ihu =>
        intro hu i hi
        rw [← Nat.add_assoc, cnt_succ l _ (by omega), ihu (by omega) i hi, cnt_succ l u (by omega), ih u (by omega) (by omega)]
        omega
    have ho : ∀ i, i < s.length → ow s l ((sumL s).toNat + t) ((sumL s).toNat + t + 1) i = ow s l t (t + 1) i := by
      intro i hi
      unfold ow
      rw [hc t (Nat.le_refl _) i hi, show (((sumL s).toNat + t + 1 : Nat) : Int) = sumL s + (t + 1 : Nat) by omega]
      generalize cnt l t i = c
      generalize s.getD i 0 = x
      generalize sumL s = T
      generalize ((t + 1 : Nat) : Int) = y
      grind
    rw [lget hl ht, lget hl (show t < m by omega)]
    have hf : ∀ i k, i < s.length → clm s (calledL s (pkF s) ((sumL s).toNat + t)) ((sumL s).toNat + t) ((sumL s).toNat + t + 1) i k = clm s (calledL s (pkF s) t) t (t + 1) i k := by
      intro i k hi
      unfold clm
      split
      · rfl
      · rw [ow_called s (pkF s) (show (sumL s).toNat + t ≤ m by omega), ow_called s (pkF s) (show t ≤ m by omega), ← hl]
        exact ho i hi
    generalize clm s (calledL s (pkF s) ((sumL s).toNat + t)) ((sumL s).toNat + t) ((sumL s).toNat + t + 1) = f at *
    generalize clm s (calledL s (pkF s) t) t (t + 1) = g at *
    unfold pkF
    have : ∀ k, k ≤ s.length → pick (opF (sumL s) (2 * (s.length : Int) - 2) f) (befF (sumL s) (2 * (s.length : Int) - 2) f) k = pick (opF (sumL s) (2 * (s.length : Int) - 2) g) (befF (sumL s) (2 * (s.length : Int) - 2) g) k := by
      intro k
      induction k with
      | zero => intro _; rfl
      | succ k ihk =>
        intro hk
        have ihk := ihk (by omega)
        have hb := pick_bd (opF (sumL s) (2 * (s.length : Int) - 2) g) (befF (sumL s) (2 * (s.length : Int) - 2) g) k
        simp only [pick]
        rw [ihk]
        generalize pick (opF (sumL s) (2 * (s.length : Int) - 2) g) (befF (sumL s) (2 * (s.length : Int) - 2) g) k = p at *
        have e1 : opF (sumL s) (2 * (s.length : Int) - 2) f k = opF (sumL s) (2 * (s.length : Int) - 2) g k := by unfold opF; rw [hf k 1 (by omega)]
        rw [e1]
        by_cases hp : p < 0
        · simp only [hp, true_or, and_true]
        · have e2 : befF (sumL s) (2 * (s.length : Int) - 2) f k p.toNat = befF (sumL s) (2 * (s.length : Int) - 2) g k p.toNat := by
            unfold befF; rw [hf k 1 (by omega), hf k 0 (by omega), hf p.toNat 1 (by omega), hf p.toNat 0 (by omega)]
          rw [e2]
    exact this _ (Nat.le_refl _)
end

/-- The same for all numbers of drivers. -/
theorem fair_cnt {s : List Int} (hs : Shs s) {m : Nat} (hm : (sumL s).toNat ≤ m) {i : Nat} (hi : i < s.length) : cnt (fairL s m) (sumL s).toNat i = s.getD i 0 := by
  have hsb := sumL_bd s hs.2.2
  by_cases h1 : s.length = 1
  · obtain rfl : i = 0 := by omega
    unfold fairL cnt
    rw [if_pos h1, List.take_replicate, List.filter_replicate, ← sumL_1 h1]
    simp
    omega
  · exact around_cnt hs (by omega) (by unfold fairL; rw [if_neg h1]) hm hi
theorem fair_get {s : List Int} (hs : Shs s) {m t : Nat} (ht : (sumL s).toNat + t < m) : (fairL s m).getD ((sumL s).toNat + t) 0 = (fairL s m).getD t 0 := by
  have h0 := hs.2.1
  by_cases h1 : s.length = 1
  · unfold fairL
    rw [if_pos h1]
    simp [List.getD, ht, show t < m by omega]
  · exact around_get hs (by omega) (by unfold fairL; rw [if_neg h1]) t ht
theorem fairL_take (s : List Int) {u m : Nat} (h : u ≤ m) : (fairL s m).take u = fairL s u := by
  unfold fairL
  split
  · rw [List.take_replicate, Nat.min_eq_left h]
  · exact calledL_take s _ m h

theorem around_facts {s : List Int} (hs : Shs s) (hv : sharesE s = 0) {u : Nat} (hu : u ≤ 400) : ∃ L G : List Int,
    APure Try.prog 25 [.ints false s, .int 400] (fun R => R = tup2 (.ints true L) (.int 0)) ∧ APure Try.prog 23 [.ints false s, .int 400] (fun R => R = tup2 (.ints true G) (.int 0)) ∧
    L.length = 400 ∧ G.length = 400 ∧ Dys L s.length ∧ L.take u = fairL s u ∧ G.take u = calledL s (pkG s) u ∧ (∀ t, (sumL s).toNat + t < 400 → L.getD ((sumL s).toNat + t) 0 = L.getD t 0) ∧
    ∀ i, i < s.length → cnt L (sumL s).toNat i = s.getD i 0 := by
  have hsb := sumL_bd s hs.2.2
  have h8 := hs.1
  obtain ⟨q, hq⟩ : ∃ q : Nat, q = 400 := ⟨_, rfl⟩
  have hmE4 := manyE_of (m := q) hv (by omega) (by omega)
  have e : ((q : Nat) : Int) = 400 := by omega
  have h1 := Fair_pure s q
  have h2 := Greedy_pure s q
  unfold fairR at h1
  unfold greedyR at h2
  rw [if_pos hmE4, hmE4, Int.toNat_natCast, e] at h1 h2
  refine ⟨fairL s q, calledL s (pkG s) q, h1, h2, ?_, ?_, fair_days hs (by omega), fairL_take s (by omega), calledL_take s (pkG s) q (by omega), fun t ht => fair_get hs (by omega), fun i hi => fair_cnt hs (by omega) hi⟩
  · rw [fairL_len, hq]
  · rw [calledL_len, hq]

theorem TurnAround_pure (s : List Int) (m : Int) (hm : 0 ≤ m ∧ m ≤ 65535) : APure Try.prog 9 [.ints false s, .lit (.int .u16 m)] (fun R => R = .bool true) := by
  refine APure_of (X := cx 151) (cx_ok 151) rfl (rs := [(.tmp 4, 4)]) Try.func9 (by decide) rfl rfl rfl (by simp [cx]) (by simp [NoFr]) ?_
  intro hlen
  conv => whnf
  refine APure.to (Shares_pure s) ?_
  conv => whnf
  refine br_dec (fun h30 => ?_) (fun h30 => ?_)
  · conv => whnf
    refine APure.to alive_pure ?_
    conv => whnf
    exact ⟨trivial, rfl⟩
  conv => whnf
  refine br_ne (fun hv => ?_) (fun hv => ?_)
  · conv => whnf
    refine APure.to alive_pure ?_
    conv => whnf
    exact ⟨trivial, rfl⟩
  have hs := sharesE_ok hv
  have hsb := sumL_bd s hs.2.2
  have h8 := hs.1
  have h0 := hs.2.1
  generalize hT : (if sharesE s = 0 then sumL s else 0) = T
  have hT : T = sumL s := by rw [← hT, if_pos hv]
  subst hT
  have hk : 0 ≤ m.tmod 401 ∧ m.tmod 401 ≤ 400 := by rw [Int.tmod_eq_emod_of_nonneg hm.1]; omega
  have hmE := manyE_of hv hk.1 hk.2
  have hmE4 := manyE_of (m := 400) hv (by omega) (by omega)
  have hF : APure Try.prog 25 [.ints false s, .int (m.tmod 401)] (fun R => R = tup2 (.ints true (fairL s (m.tmod 401).toNat)) (.int 0)) := by
    have := Fair_pure s (m.tmod 401); unfold fairR at this; rw [if_pos hmE, hmE] at this; exact this
  have hG : APure Try.prog 23 [.ints false s, .int (m.tmod 401)] (fun R => R = tup2 (.ints true (calledL s (pkG s) (m.tmod 401).toNat)) (.int 0)) := by
    have := Greedy_pure s (m.tmod 401); unfold greedyR at this; rw [if_pos hmE, hmE] at this; exact this
  obtain ⟨L, G, hF4, hG4, hll, hgl, hd, hft, hgt, hget, hcnt⟩ := around_facts hs hv (u := (m.tmod 401).toNat) (by omega)
  conv => whnf
  refine APure.to hF4 ?_
  conv => whnf
  refine APure.to hG4 ?_
  conv => whnf
  refine br_ne (fun hne => absurd (by rw [hll]; rfl) hne) (fun hne => ?_)
  conv => whnf
  refine br_ne (fun hne => absurd (by rw [hgl]; rfl) hne) (fun hne => ?_)
  conv => whnf
  repeat ((first | refine ⟨by omega, ?_⟩ | refine ⟨inr (by omega), ?_⟩ | refine eqn_self ?_ | refine ⟨ms (by omega), ?_⟩ | refine ⟨ms (by simp only [Src.n]; omega), ?_⟩ | refine ⟨msk (by omega), ?_⟩ | refine ⟨ms1, ?_⟩); conv => whnf)
  refine APure.to hF ?_
  conv => whnf
  refine APure.to hG ?_
  conv => whnf
  repeat ((first | refine ⟨by omega, ?_⟩ | refine ⟨inr (by omega), ?_⟩ | refine eqn_self ?_ | refine ⟨(by simp only [Option.getD_none, Option.getD_some]; omega), ?_⟩ | refine ⟨ms (by omega), ?_⟩ | refine ⟨ms (by simp only [Src.n]; omega), ?_⟩ | refine ⟨msk (by omega), ?_⟩ | refine ⟨ms1, ?_⟩); conv => whnf)
  refine APure.to (same_pure _ _) ?_
  conv => whnf
  refine br_not (br_dec (fun hh => ?_) (fun hh => absurd (by rw [← hft]; simp) hh))
  conv => whnf
  repeat ((first | refine ⟨by omega, ?_⟩ | refine ⟨inr (by omega), ?_⟩ | refine eqn_self ?_ | refine ⟨(by simp only [Option.getD_none, Option.getD_some]; omega), ?_⟩ | refine ⟨ms (by omega), ?_⟩ | refine ⟨ms (by simp only [Src.n]; omega), ?_⟩ | refine ⟨msk (by omega), ?_⟩ | refine ⟨ms1, ?_⟩); conv => whnf)
  refine APure.to (same_pure _ _) ?_
  conv => whnf
  refine br_not (br_dec (fun hh => ?_) (fun hh => absurd (by rw [← hgt]; simp) hh))
  conv => whnf
  repeat ((first | refine ⟨by omega, ?_⟩ | refine ⟨inr (by omega), ?_⟩ | refine eqn_self ?_ | refine ⟨ms (by omega), ?_⟩ | refine ⟨ms (by simp only [Src.n]; omega), ?_⟩ | refine ⟨msk (by omega), ?_⟩ | refine ⟨ms1, ?_⟩); conv => whnf)
  refine AW_loopA (X := cx 151) (cx_ok 151) [0, 5, 7, 14, 15] (fun _ => true) (fun vs M => ∃ t : Nat, t ≤ L.length ∧ vs = [.ints false s, .int (sumL s), .ints true L, .sl 0 0 0 s.length, .int t] ∧ M = [some ⟨3, 1, 0, .il (rw_ s.length (cnt L (min t (sumL s).toNat)))⟩])
    (fun vs _ => L.length - (vs.getD 4 .any).toInt.toNat) (fun _ _ => rfl) ?_ ?_
  · refine memA0 [some ⟨3, 1, 0, .il (rw_ s.length (cnt L (min 0 (sumL s).toNat)))⟩] (show MSub [some ⟨3, 1, 0, .il (List.replicate s.length 0)⟩] _ from ⟨ObSub.ii (rw_rep s.length (fun i _ => by simp [cnt])), trivial⟩) ⟨0, Nat.zero_le _, rfl, rfl⟩
  · rintro vs M ⟨t, ht, rfl, rfl⟩
    conv => whnf
    refine br_dec (fun hlt => ?_) (fun hge => ?_)
    · have ht' : t < L.length := by omega
      have hx : 0 ≤ L.getD (t : Int).toNat 0 ∧ L.getD (t : Int).toNat 0 < s.length := hd.2 _ (getD_mem' ht')
      conv => whnf
      refine AW_draw (X := cx 151) (cx_ok 151) mixed (by kernel_rfl) ?_
      conv => whnf
      repeat ((first | refine ⟨by omega, ?_⟩ | refine ⟨inr (by omega), ?_⟩ | refine eqn_self ?_ | refine ⟨ms (by omega), ?_⟩ | refine ⟨ms (by simp only [Src.n]; omega), ?_⟩ | refine ⟨msk (by omega), ?_⟩ | refine ⟨ms1, ?_⟩); conv => whnf)
      refine br_dec (fun hh => absurd hh (by omega)) (fun hh => ?_)
      conv => whnf
      repeat ((first | refine ⟨by omega, ?_⟩ | refine ⟨inr (by omega), ?_⟩ | refine eqn_self ?_ | refine ⟨ms (by omega), ?_⟩ | refine ⟨ms (by simp only [Src.n]; omega), ?_⟩ | refine ⟨msk (by omega), ?_⟩ | refine ⟨ms1, ?_⟩); conv => whnf)
      refine br_dec (fun hh => absurd hh (by omega)) (fun hh => ?_)
      conv => whnf
      refine br_dec (fun hgeT => ?_) (fun hgeT => ?_)
      · have hg := hget (t - (sumL s).toNat) (by omega)
        rw [show (sumL s).toNat + (t - (sumL s).toNat) = t by omega] at hg
        have hg : L.getD (t : Int).toNat 0 = L.getD ((t : Int) - sumL s).toNat 0 := by
          rw [show ((t : Int) - sumL s).toNat = t - (sumL s).toNat by omega]; exact hg
        conv => whnf
        repeat ((first | refine ⟨by omega, ?_⟩ | refine ⟨inr (by omega), ?_⟩ | refine eqn_self ?_ | refine ⟨ms (by omega), ?_⟩ | refine ⟨ms (by simp only [Src.n]; omega), ?_⟩ | refine ⟨msk (by omega), ?_⟩ | refine ⟨ms1, ?_⟩); conv => whnf)
        refine br_ne (fun hh => absurd hg hh) (fun hh => ?_)
        conv => whnf
        refine br_dec (fun hh => absurd hh (by omega)) (fun hh => ?_)
        conv => whnf
        repeat ((first | refine ⟨by omega, ?_⟩ | refine ⟨inr (by omega), ?_⟩ | refine eqn_self ?_ | refine ⟨ms (by omega), ?_⟩ | refine ⟨ms (by simp only [Src.n]; omega), ?_⟩ | refine ⟨msk (by omega), ?_⟩ | refine ⟨ms1, ?_⟩); conv => whnf)
        refine ⟨by repeat (first | exact trivial | exact rfl | exact fun _ => trivial | exact fun _ _ => trivial | exact fun _ _ _ => trivial | exact fun _ _ _ _ => trivial | refine And.intro ?_ ?_), memA1 [some ⟨3, 1, 0, .il (rw_ s.length (cnt L (min (t + 1) (sumL s).toNat)))⟩] ⟨ObSub.ii (by rw [show min (t + 1) (sumL s).toNat = min t (sumL s).toNat by omega]), trivial⟩ ⟨⟨t + 1, by omega, rfl, rfl⟩, ?_⟩⟩
        simp [V.toInt, sel, Env.get]; omega
      · conv => whnf
        refine br_dec (fun hh => ?_) (fun hh => absurd hh (by omega))
        rw [show min t (sumL s).toNat = t by omega]
        obtain ⟨d, hdd⟩ : ∃ d : Nat, L.getD (t : Int).toNat 0 = d := ⟨(L.getD (t : Int).toNat 0).toNat, by omega⟩
        have hdd2 : L.getD t 0 = d := hdd
        have hdn : d < s.length := by omega
        have hcb := cnt_bd L t d
        have hcd : (rw_ s.length (cnt L t)).getD (0 + (L.getD (t : Int).toNat 0).toNat) 0 = cnt L t d := by rw [hdd, Int.toNat_natCast, Nat.zero_add, rw_get hdn]
        have hst : ((rw_ s.length (cnt L t)).set (0 + (L.getD (t : Int).toNat 0).toNat) ((rw_ s.length (cnt L t)).getD (0 + (L.getD (t : Int).toNat 0).toNat) 0 + 1)) = rw_ s.length (cnt L (t + 1)) := by
          rw [hcd, hdd, Int.toNat_natCast, Nat.zero_add]
          refine rw_set ?_ fun i hi hne => ?_
          · rw [cnt_succ L t ht', if_pos hdd2]
          · rw [cnt_succ L t ht', if_neg (by rw [hdd2]; omega)]; omega
        conv => whnf
        repeat ((first | refine ⟨by omega, ?_⟩ | refine ⟨inr (by omega), ?_⟩ | refine eqn_self ?_ | refine ⟨inr (by rw [hcd]; omega), ?_⟩ | refine ⟨ms (by omega), ?_⟩ | refine ⟨ms (by simp only [Src.n]; omega), ?_⟩ | refine ⟨msk (by omega), ?_⟩ | refine ⟨ms1, ?_⟩); conv => whnf)
        refine ⟨by repeat (first | exact trivial | exact rfl | exact fun _ => trivial | exact fun _ _ => trivial | exact fun _ _ _ => trivial | exact fun _ _ _ _ => trivial | refine And.intro ?_ ?_), memA1 [some ⟨3, 1, 0, .il (rw_ s.length (cnt L (min (t + 1) (sumL s).toNat)))⟩] ⟨ObSub.ii (by rw [show min (t + 1) (sumL s).toNat = t + 1 by omega]; exact hst), trivial⟩ ⟨⟨t + 1, by omega, rfl, rfl⟩, ?_⟩⟩
        simp [V.toInt, sel, Env.get]; omega
    · obtain rfl : t = L.length := by omega
      have hcs : rw_ s.length (cnt L (min L.length (sumL s).toNat)) = s := by
        rw [show min L.length (sumL s).toNat = (sumL s).toNat by omega]
        apply List.ext_getElem
        · exact rw_len _ _
        · intro i h1 h2
          have := hcnt i h2
          simp [rw_, this, List.getD, h2]
      rw [hcs]
      conv => whnf
      repeat ((first | refine ⟨by omega, ?_⟩ | refine ⟨inr (by omega), ?_⟩ | refine eqn_self ?_ | refine ⟨ms (by omega), ?_⟩ | refine ⟨ms (by simp only [Src.n]; omega), ?_⟩ | refine ⟨msk (by omega), ?_⟩ | refine ⟨ms1, ?_⟩); conv => whnf)
      refine APure.to (same_pure _ _) ?_
      conv => whnf
      refine br_dec (fun h7 => ?_) (fun h7 => absurd (view_all s) h7)
      conv => whnf
      refine APure.to alive_pure ?_
      conv => whnf
      exact ⟨trivial, rfl⟩
end Go.Tri
