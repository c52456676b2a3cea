/-
  LAW: TurnLags.
-/
import Derived.Test.YtjcjjakmggfmcaaB12
namespace Go.Tri
open Go.Proofs

theorem calledL_take (s : List Int) (P : (Nat → Nat → Int) → Int) {u : Nat} : ∀ m, u ≤ m → (calledL s P m).take u = calledL s P u := by
  intro m
  induction m with
  | zero => intro h; obtain rfl : u = 0 := by omega
            rfl
  | succ m ih =>
    intro h
    by_cases hm : u = m + 1
    · subst hm; exact take_len (by rw [calledL_len]; omega)
    · show (calledL s P m ++ _).take u = _
      rw [List.take_append_of_le_length (by rw [calledL_len]; omega), ih (by omega)]
theorem calledL_get (s : List Int) (P : (Nat → Nat → Int) → Int) {u m : Nat} (h : u < m) : (calledL s P m).getD u 0 = P (clm s (calledL s P u) u (u + 1)) := by
  have h1 := calledL_take s P (u := u + 1) m h
  have h2 := take_succ_getD (calledL s P m) u (by rw [calledL_len]; exact h)
  rw [h1, calledL_take s P m (by omega), calledL] at h2
  have := List.append_cancel_left h2
  simpa using this.symm
theorem cnt_take (l : List Int) (u i : Nat) : cnt (l.take u) u i = cnt l u i := by unfold cnt; rw [List.take_take, Nat.min_self]
theorem ow_called (s : List Int) (P : (Nat → Nat → Int) → Int) {u m : Nat} (h : u ≤ m) (v i : Nat) : ow s (calledL s P u) u v i = ow s (calledL s P m) u v i := by
  unfold ow; rw [← calledL_take s P m h, cnt_take]

theorem TurnLags_pure (s : List Int) (m : Int) (hm : 0 ≤ m ∧ m ≤ 65535) : APure Try.prog 15 [.ints false s, .lit (.int .u16 m)] (fun R => R = .bool true) := by
  refine APure_of (X := cx 120) (cx_ok 120) rfl (rs := [(.tmp 4, 4)]) Try.func15 (by decide) rfl rfl rfl (by simp [cx]) (by simp [NoFr]) ?_
  intro hlen
  conv => whnf
  refine APure.to (Shares_pure s) ?_
  conv => whnf
  refine br_dec (fun h30 => ?_) (fun h30 => ?_)
  · conv => whnf
    refine APure.to alive_pure ?_
    conv => whnf
    exact ⟨trivial, rfl⟩
  conv => whnf
  refine br_ne (fun hv => ?_) (fun hv => ?_)
  · conv => whnf
    refine APure.to alive_pure ?_
    conv => whnf
    exact ⟨trivial, rfl⟩
  have hs := sharesE_ok hv
  have hsb := sumL_bd s hs.2.2
  have h8 := hs.1
  have h0 := hs.2.1
  generalize hT : (if sharesE s = 0 then sumL s else 0) = T
  have hT : T = sumL s := by rw [← hT, if_pos hv]
  subst hT
  have hk : 0 ≤ m.tmod 401 ∧ m.tmod 401 ≤ 400 := by rw [Int.tmod_eq_emod_of_nonneg hm.1]; omega
  have hG := Greedy_pure s (m.tmod 401)
  have hmE := manyE_of hv hk.1 hk.2
  rw [hmE] at hG
  have hgl : (greedyR s (m.tmod 401)).length = (m.tmod 401).toNat := by unfold greedyR; rw [if_pos hmE, calledL_len]
  have hgr : greedyR s (m.tmod 401) = calledL s (pkG s) (m.tmod 401).toNat := by unfold greedyR; rw [if_pos hmE]
  generalize hL : greedyR s (m.tmod 401) = L at *
  conv => whnf
  repeat ((first | refine ⟨by omega, ?_⟩ | refine ⟨inr (by omega), ?_⟩ | refine eqn_self ?_ | refine ⟨ms (by omega), ?_⟩ | refine ⟨ms (by simp only [Src.n]; omega), ?_⟩ | refine ⟨msk (by omega), ?_⟩ | refine ⟨ms1, ?_⟩); conv => whnf)
  refine APure.to hG ?_
  conv => whnf
  repeat ((first | refine ⟨by omega, ?_⟩ | refine ⟨inr (by omega), ?_⟩ | refine eqn_self ?_ | refine ⟨ms (by omega), ?_⟩ | refine ⟨ms (by simp only [Src.n]; omega), ?_⟩ | refine ⟨msk (by omega), ?_⟩ | refine ⟨ms1, ?_⟩); conv => whnf)
  refine br_ne (fun hne => ?_) (fun hne => ?_)
  · exact absurd (by rw [hgl]; omega) hne
  conv => whnf
  repeat ((first | refine ⟨by omega, ?_⟩ | refine ⟨inr (by omega), ?_⟩ | refine eqn_self ?_ | refine ⟨ms (by omega), ?_⟩ | refine ⟨ms (by simp only [Src.n]; omega), ?_⟩ | refine ⟨msk (by omega), ?_⟩ | refine ⟨ms1, ?_⟩); conv => whnf)
  generalize hmm : (m.tmod 401).toNat = mm at *
  have hLb : ∀ u, u < L.length → 0 ≤ L.getD u 0 ∧ L.getD u 0 < s.length := fun u hu => by
    rw [hgr, calledL_get s (pkG s) (by omega)]; exact pkG_bd hs _
  refine AW_loop (X := cx 120) (cx_ok 120) [0, 5, 7, 9, 10] (fun vs M => ∃ u : Nat, u ≤ L.length ∧ vs = [.ints false s, .int (sumL s), .ints true L, .sl 0 0 0 s.length, .int (u + 1)] ∧ M = [some ⟨3, 1, 0, .il (rw_ s.length (cnt L u))⟩])
    (fun vs _ => (L.length + 1) - (vs.getD 4 .any).toInt.toNat) ?_ ?_
  · refine ⟨0, Nat.zero_le _, rfl, ?_⟩
    exact congrArg (fun q => [some (⟨3, 1, 0, .il q⟩ : Ob)]) (rw_rep s.length (fun i _ => by simp [cnt]))
  · rintro vs M ⟨u, hu, rfl, rfl⟩
    conv => whnf
    refine br_dec (fun hlt => ?_) (fun hge => ?_)
    · have hu' : u < L.length := by omega
      have hx := hLb u hu'
      have huu : ((u : Int) + 1 - 1).toNat = u := by omega
      have hx' : 0 ≤ L.getD ((u : Int) + 1 - 1).toNat 0 ∧ L.getD ((u : Int) + 1 - 1).toNat 0 < s.length := by rw [huu]; exact hx
      have hmax := (pickG_max (clm s (calledL s (pkG s) u) u (u + 1)) s.length h0).2
      have hpk : pick allO (mostB (clm s (calledL s (pkG s) u) u (u + 1))) s.length = L.getD ((u : Int) + 1 - 1).toNat 0 := by
        rw [huu, hgr, calledL_get s (pkG s) (by omega)]; rfl
      rw [hpk] at hmax
      have hmax : ∀ i, i < s.length → ow s L u (u + 1) i ≤ ow s L u (u + 1) (L.getD ((u : Int) + 1 - 1).toNat 0).toNat ∧ (ow s L u (u + 1) i = ow s L u (u + 1) (L.getD ((u : Int) + 1 - 1).toNat 0).toNat → L.getD ((u : Int) + 1 - 1).toNat 0 ≤ i) := fun i hi => by
        have := hmax i hi
        simp only [clm, if_neg (show ¬ (1 = 0) by omega), ow_called s (pkG s) (show u ≤ mm by omega), ← hgr] at this
        exact this
      conv => whnf
      repeat ((first | refine ⟨by omega, ?_⟩ | refine ⟨inr (by omega), ?_⟩ | refine eqn_self ?_ | refine ⟨ms (by omega), ?_⟩ | refine ⟨ms (by simp only [Src.n]; omega), ?_⟩ | refine ⟨msk (by omega), ?_⟩ | refine ⟨ms1, ?_⟩); conv => whnf)
      generalize hxd : L.getD ((u : Int) + 1 - 1).toNat 0 = x at *
      obtain ⟨d, rfl⟩ : ∃ d : Nat, x = d := ⟨x.toNat, by omega⟩
      rw [Int.toNat_natCast] at hmax
      have hdn : d < s.length := by omega
      refine br_dec (fun hh => absurd hh (by omega)) (fun hh => ?_)
      conv => whnf
      refine AW_loop (X := cx 120) (cx_ok 120) [0, 5, 7, 9, 10, 11, 12] (fun vs M => ∃ k : Nat, k ≤ s.length ∧ vs = [.ints false s, .int (sumL s), .ints true L, .sl 0 0 0 s.length, .int (u + 1), .int d, .int k] ∧ M = [some ⟨3, 1, 0, .il (rw_ s.length (cnt L u))⟩])
        (fun vs _ => s.length - (vs.getD 6 .any).toInt.toNat) ?_ ?_
      · exact ⟨0, Nat.zero_le _, rfl, rfl⟩
      · rintro vs M ⟨k, hk, rfl, rfl⟩
        conv => whnf
        refine br_dec (fun hlt => ?_) (fun hge => ?_)
        · have hk' : k < s.length := by omega
          have hkm := hmax k hk'
          have b1 := ow_bd (l := L) hs (t := u) (u := u + 1) (by omega) (by omega) k
          have b2 := ow_bd (l := L) hs (t := u) (u := u + 1) (by omega) (by omega) d
          have hck : (rw_ s.length (cnt L u)).getD (0 + (k : Int).toNat) 0 = cnt L u k := by rw [Int.toNat_natCast, Nat.zero_add, rw_get hk']
          have hcd : (rw_ s.length (cnt L u)).getD (0 + (d : Int).toNat) 0 = cnt L u d := by rw [Int.toNat_natCast, Nat.zero_add, rw_get hdn]
          have sk : 1 ≤ s.getD (k : Int).toNat 0 ∧ s.getD (k : Int).toNat 0 ≤ 20 := hs.2.2 _ (getD_mem' hk')
          have sd : 1 ≤ s.getD (d : Int).toNat 0 ∧ s.getD (d : Int).toNat 0 ≤ 20 := hs.2.2 _ (getD_mem' hdn)
          have e1 := mul_bd (a := (u : Int) + 1) (b := s.getD (k : Int).toNat 0) (B := 401) (C := 20) (by omega) (by omega) (by omega) (by omega)
          have e2 := mul_bd (a := (u : Int) + 1) (b := s.getD (d : Int).toNat 0) (B := 401) (C := 20) (by omega) (by omega) (by omega) (by omega)
          have e3 := mul_bd (a := (rw_ s.length (cnt L u)).getD (0 + (k : Int).toNat) 0) (b := sumL s) (B := 400) (C := 160) (by rw [hck]; exact (cnt_bd L u k).1) (by rw [hck]; have := (cnt_bd L u k).2; omega) (by omega) (by omega)
          have e4 := mul_bd (a := (rw_ s.length (cnt L u)).getD (0 + (d : Int).toNat) 0) (b := sumL s) (B := 400) (C := 160) (by rw [hcd]; exact (cnt_bd L u d).1) (by rw [hcd]; have := (cnt_bd L u d).2; omega) (by omega) (by omega)
          have o1 : ((u : Int) + 1) * s.getD (k : Int).toNat 0 - (rw_ s.length (cnt L u)).getD (0 + (k : Int).toNat) 0 * sumL s = ow s L u (u + 1) k := by rw [hck]; rfl
          have o2 : ((u : Int) + 1) * s.getD (d : Int).toNat 0 - (rw_ s.length (cnt L u)).getD (0 + (d : Int).toNat) 0 * sumL s = ow s L u (u + 1) d := by rw [hcd]; rfl
          conv => whnf
          refine AW_draw (X := cx 120) (cx_ok 120) mixed (by kernel_rfl) ?_
          conv => whnf
          repeat ((first | refine ⟨by omega, ?_⟩ | refine ⟨inr (by omega), ?_⟩ | refine eqn_self ?_ | refine ⟨ms (by omega), ?_⟩ | refine ⟨ms (by simp only [Src.n]; omega), ?_⟩ | refine ⟨msk (by omega), ?_⟩ | refine ⟨ms1, ?_⟩); conv => whnf)
          refine br_dec (fun hgt => absurd hgt (by omega)) (fun hgt => ?_)
          conv => whnf
          refine br_eq (fun heq => ?_) (fun hne => ?_)
          · conv => whnf
            refine br_dec (fun hlt2 => absurd hlt2 (by have := hkm.2 (by omega); omega)) (fun hlt2 => ?_)
            conv => whnf
            repeat ((first | refine ⟨by omega, ?_⟩ | refine ⟨inr (by omega), ?_⟩ | refine eqn_self ?_ | refine ⟨ms (by omega), ?_⟩ | refine ⟨ms (by simp only [Src.n]; omega), ?_⟩ | refine ⟨msk (by omega), ?_⟩ | refine ⟨ms1, ?_⟩); conv => whnf)
            refine ⟨⟨k + 1, by omega, rfl, rfl⟩, ?_⟩
            simp [V.toInt, sel, Env.get]; omega
          · conv => whnf
            repeat ((first | refine ⟨by omega, ?_⟩ | refine ⟨inr (by omega), ?_⟩ | refine eqn_self ?_ | refine ⟨ms (by omega), ?_⟩ | refine ⟨ms (by simp only [Src.n]; omega), ?_⟩ | refine ⟨msk (by omega), ?_⟩ | refine ⟨ms1, ?_⟩); conv => whnf)
            refine ⟨⟨k + 1, by omega, rfl, rfl⟩, ?_⟩
            simp [V.toInt, sel, Env.get]; omega
        · have hst : ((rw_ s.length (cnt L u)).set (0 + (d : Int).toNat) ((rw_ s.length (cnt L u)).getD (0 + (d : Int).toNat) 0 + 1)) = rw_ s.length (cnt L (u + 1)) := by
            rw [Int.toNat_natCast, Nat.zero_add, rw_get hdn]
            rw [huu] at hxd
            refine rw_set ?_ fun i hi hne => ?_
            · rw [cnt_succ L u hu', if_pos hxd]
            · rw [cnt_succ L u hu', if_neg (by rw [hxd]; omega)]; omega
          have hcb := cnt_bd L u d
          have hcd : (rw_ s.length (cnt L u)).getD (0 + (d : Int).toNat) 0 = cnt L u d := by rw [Int.toNat_natCast, Nat.zero_add, rw_get hdn]
          conv => whnf
          repeat ((first | refine ⟨by omega, ?_⟩ | refine ⟨inr (by omega), ?_⟩ | refine eqn_self ?_ | refine ⟨inr (by rw [hcd]; omega), ?_⟩ | refine ⟨ms (by omega), ?_⟩ | refine ⟨ms (by simp only [Src.n]; omega), ?_⟩ | refine ⟨msk (by omega), ?_⟩ | refine ⟨ms1, ?_⟩); conv => whnf)
          refine ⟨⟨u + 1, by omega, rfl, ?_⟩, ?_⟩
          · exact congrArg (fun q => [some (⟨3, 1, 0, .il q⟩ : Ob)]) hst
          · simp [V.toInt, sel, Env.get]; omega
    · conv => whnf
      refine APure.to alive_pure ?_
      conv => whnf
      exact ⟨trivial, rfl⟩
end Go.Tri
