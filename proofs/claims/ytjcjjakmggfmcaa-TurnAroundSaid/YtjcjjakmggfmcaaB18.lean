/-
  CONTRACTS: the reference's Fair.
-/
import Derived.Test.YtjcjjakmggfmcaaB17
namespace Go.Tri
open Go.Proofs

def opR (n : Nat) (T S : Int) (f : Nat → Nat → Int) : Nat → Bool := fun i => !(decide (1 < n) && decide (f i 1 * S < T))
def pkR (s : List Int) : (Nat → Nat → Int) → Int := fun f => pick (opR s.length (sumL s) (2 * (s.length : Int) - 2) f) (befF (sumL s) (2 * (s.length : Int) - 2) f) s.length
theorem pkR_F {s : List Int} (h : 2 ≤ s.length) : pkR s = pkF s := by
  funext f
  unfold pkR pkF
  congr 1
  funext i
  unfold opR opF
  simp only [show 1 < s.length by omega, decide_true, Bool.true_and]
  rw [← decide_not]
  congr 1
  exact propext (by omega)
theorem pkR_1 {s : List Int} (h : s.length = 1) (f : Nat → Nat → Int) : pkR s f = 0 := by
  unfold pkR
  rw [h]
  exact (pick_yes (k := 0) (by simp [opR]) (.inl (by show (-1 : Int) < 0; decide))).symm
theorem fairL_R {s : List Int} (h0 : 0 < s.length) (m : Nat) : fairL s m = calledL s (pkR s) m := by
  unfold fairL
  by_cases h : s.length = 1
  · rw [if_pos h]
    induction m with
    | zero => rfl
    | succ m ih => rw [calledL, ← ih, pkR_1 h, List.replicate_succ']
  · rw [if_neg h, pkR_F (by omega)]
theorem pkR_in {s : List Int} (hs : Shs s) (t : Nat) : 0 ≤ pkR s (clm s (calledL s (pkR s) t) t (t + 1)) ∧ pkR s (clm s (calledL s (pkR s) t) t (t + 1)) < s.length := by
  have h0 := hs.2.1
  by_cases h : s.length = 1
  · rw [pkR_1 h]; omega
  · rw [pkR_F (by omega)]; exact (fair_in hs (by omega) t).2

theorem slk_bd0 {T S x : Int} (hT : 0 ≤ T ∧ T ≤ 160) (hS : 0 ≤ S ∧ S ≤ 14) (hx : -100000 ≤ x ∧ x ≤ 100000) : (-160 ≤ T * (S - 1) ∧ T * (S - 1) ≤ 160 * 14) ∧ (-1400000 ≤ x * S ∧ x * S ≤ 1400000) ∧ -2000000 ≤ slk T S x ∧ slk T S x ≤ 2000000 := by
  have h1 := mul_bd (a := T) (b := S) (B := 160) (C := 14) (by omega) (by omega) (by omega) (by omega)
  have h2 : x * S ≤ 100000 * 14 := Int.le_trans (Int.mul_le_mul_of_nonneg_right hx.2 (by omega)) (Int.mul_le_mul_of_nonneg_left hS.2 (by omega))
  have h3 : (-100000) * S ≤ x * S := Int.mul_le_mul_of_nonneg_right hx.1 (by omega)
  have h4 : T * (S - 1) = T * S - T := by rw [Int.mul_sub, Int.mul_one]
  unfold slk
  omega

theorem refFair_pure (s : List Int) (m : Int) : APure Try.prog 26 [.ints false s, .int m] (fun R => R = tup2 (.ints true (fairR s m)) (.int (manyE s m))) := by
  refine APure_of (X := cx 103) (cx_ok 103) rfl (rs := [(.tmp 4, 22), (.tmp 5, 27)]) Try.func26 (by decide) rfl rfl rfl (by simp [cx]) (by simp [NoFr]) ?_
  intro _
  conv => whnf
  refine APure.to (many_pure s m) ?_
  conv => whnf
  refine br_ne (fun h => ?_) (fun h => ?_)
  · conv => whnf
    exact ⟨rfl, trivial, Q2 (Ql (by unfold fairR; rw [if_neg h])) rfl⟩
  obtain ⟨hs, _, h1, h2⟩ := manyE_ok h
  have hsb := sumL_bd s hs.2.2
  have h8 := hs.1
  have h0 := hs.2.1
  generalize hT : (if manyE s m = 0 then sumL s else 0) = T
  have hT : T = sumL s := by rw [← hT, if_pos h]
  subst hT
  have hgr : fairR s m = calledL s (pkR s) m.toNat := by unfold fairR; rw [if_pos h, fairL_R h0]
  rw [hgr, h]
  obtain ⟨mm, rfl⟩ : ∃ mm : Nat, m = mm := ⟨m.toNat, by omega⟩
  rw [Int.toNat_natCast]
  have hpd : ∀ f, pkR s f = pick (opR s.length (sumL s) (2 * (s.length : Int) - 2) f) (befF (sumL s) (2 * (s.length : Int) - 2) f) s.length := fun _ => rfl
  conv => whnf
  repeat ((first | refine ⟨by omega, ?_⟩ | refine ⟨inr (by omega), ?_⟩ | refine eqn_self ?_ | refine ⟨ms (by omega), ?_⟩ | refine ⟨ms (by simp only [Src.n]; omega), ?_⟩ | refine ⟨msk (by omega), ?_⟩ | refine ⟨ms1, ?_⟩); conv => whnf)
  generalize hS : 2 * (s.length : Int) - 2 = S at *
  have hSb : 0 ≤ S ∧ S ≤ 14 := by omega
  have hTb : 0 ≤ sumL s ∧ sumL s ≤ 160 := by omega
  refine AW_loopA (X := cx 103) (cx_ok 103) [0, 1, 6, 8, 9, 10, 11] (fun t => Nat.beq t 0 || Nat.beq t 2) (fun vs M => ∃ (u : Nat) (o : V) (R : Mem), u ≤ mm ∧ OutR (calledL s (pkR s) u) o R ∧ vs = [.ints false s, .int mm, .int (sumL s), .int S, .sl 0 0 0 s.length, o, .int (u + 1)] ∧ M = some ⟨3, 1, 0, .il (rw_ s.length (cnt (calledL s (pkR s) u) u))⟩ :: R)
    (fun vs _ => (mm + 1) - (vs.getD 6 .any).toInt.toNat) (fun t ht => by have ht : t < 1 := ht; obtain rfl : t = 0 := (by omega); rfl) ?_ ?_
  · refine memA0 [some ⟨3, 1, 0, .il (rw_ s.length (cnt (calledL s (pkR s) 0) 0))⟩] (show MSub [some ⟨3, 1, 0, .il (List.replicate s.length 0)⟩] _ from ⟨ObSub.ii (rw_rep s.length (fun i _ => by simp [cnt])), trivial⟩) ?_
    exact ⟨0, .emp, [], Nat.zero_le _, .inl ⟨rfl, rfl, rfl⟩, rfl, rfl⟩
  · rintro vs M ⟨u, o, R, hu, hO, rfl, rfl⟩
    have hnext : calledL s (pkR s) (u + 1) = calledL s (pkR s) u ++ [pkR s (clm s (calledL s (pkR s) u) u (u + 1))] := rfl
    have hll := calledL_len s (pkR s) u
    have hpb := pkR_in hs u
    generalize hl : calledL s (pkR s) u = l at *
    conv => whnf
    refine br_dec (fun hlt => ?_) (fun hge => ?_)
    · have hu' : u < mm := by omega
      rw [hpd] at hpb hnext
      have hcb := fun i => clm_bd (l := l) hs (t := u) (u := u + 1) (by omega) (by omega) i
      generalize hf : clm s l u (u + 1) = f at *
      conv => whnf
      refine AW_loop (X := cx 103) (cx_ok 103) [0, 1, 6, 8, 9, 10, 11, 12, 13, 14] (fun vs M => ∃ k : Nat, k ≤ s.length ∧ vs = [.ints false s, .int mm, .int (sumL s), .int S, .sl 0 0 0 s.length, o, .int (u + 1), .int (pick (opR s.length (sumL s) S f) (befF (sumL s) S f) k),
            .int (if pick (opR s.length (sumL s) S f) (befF (sumL s) S f) k < 0 then 0 else slk (sumL s) S (f (pick (opR s.length (sumL s) S f) (befF (sumL s) S f) k).toNat 1)), .int k] ∧ M = some ⟨3, 1, 0, .il (rw_ s.length (cnt l u))⟩ :: R)
        (fun vs _ => s.length - (vs.getD 9 .any).toInt.toNat) ?_ ?_
      · exact ⟨0, by omega, rfl, rfl⟩
      · rintro vs M ⟨k, hk, rfl, rfl⟩
        have hp := pick_bd (opR s.length (sumL s) S f) (befF (sumL s) S f) k
        have hyes := pick_yes (opn := opR s.length (sumL s) S f) (bef := befF (sumL s) S f) (k := k)
        have hno := pick_no (opn := opR s.length (sumL s) S f) (bef := befF (sumL s) S f) (k := k)
        generalize hpp : pick (opR s.length (sumL s) S f) (befF (sumL s) S f) k = p at *
        generalize hls : (if p < 0 then 0 else slk (sumL s) S (f p.toNat 1)) = ls
        conv => whnf
        refine br_dec (fun hlt => ?_) (fun hge => ?_)
        · have hk' : k < s.length := by omega
          have hck : (rw_ s.length (cnt l u)).getD (0 + (k : Int).toNat) 0 = cnt l u k := by rw [Int.toNat_natCast, Nat.zero_add, rw_get hk']
          have sk : 1 ≤ s.getD (k : Int).toNat 0 ∧ s.getD (k : Int).toNat 0 ≤ 20 := hs.2.2 _ (getD_mem' hk')
          have e1 := mul_bd (a := (u : Int) + 1) (b := s.getD (k : Int).toNat 0) (B := 401) (C := 20) (by omega) (by omega) (by omega) (by omega)
          have e3 := mul_bd (a := (rw_ s.length (cnt l u)).getD (0 + (k : Int).toNat) 0) (b := sumL s) (B := 400) (C := 160) (by rw [hck]; exact (cnt_bd l u k).1) (by rw [hck]; have := (cnt_bd l u k).2; omega) (by omega) (by omega)
          have o1 : ((u : Int) + 1) * s.getD (k : Int).toNat 0 - (rw_ s.length (cnt l u)).getD (0 + (k : Int).toNat) 0 * sumL s = f k 1 := by rw [hck, ← hf]; rfl
          have o0 : s.getD (k : Int).toNat 0 = f k 0 := by rw [← hf]; rfl
          obtain ⟨q1, q2, q3⟩ := slk_bd0 hTb hSb (hcb k).2
          have hsl : (S - 1) * sumL s - f k 1 * S = slk (sumL s) S (f k 1) := by unfold slk; rw [Int.mul_comm]
          rw [Int.mul_comm] at q1
          conv => whnf
          refine AW_draw (X := cx 103) (cx_ok 103) mixed (by kernel_rfl) ?_
          conv => whnf
          repeat ((first | refine ⟨by omega, ?_⟩ | refine ⟨inr (by omega), ?_⟩ | refine eqn_self ?_ | refine ⟨inr (by rw [o1]; omega), ?_⟩ | refine ⟨ms (by omega), ?_⟩ | refine ⟨ms (by simp only [Src.n]; omega), ?_⟩ | refine ⟨msk (by omega), ?_⟩ | refine ⟨ms1, ?_⟩); conv => whnf)
          generalize hbeh : (((u : Int) + 1) * s.getD (k : Int).toNat 0 - (rw_ s.length (cnt l u)).getD (0 + (k : Int).toNat) 0 * sumL s) * S = beh
          have hbeh : beh = f k 1 * S := by rw [← hbeh, o1]
          subst hbeh
          refine br_dec (fun hn1 => ?_) (fun hn1 => ?_)
          · conv => whnf
            refine br_dec (fun hb1 => ?_) (fun hb1 => ?_)
            · have e := hno (by rintro ⟨h, _⟩; unfold opR at h; rw [decide_eq_true (show 1 < s.length by omega), decide_eq_true hb1] at h; cases h)
              conv => whnf
              repeat ((first | refine ⟨by omega, ?_⟩ | refine ⟨inr (by omega), ?_⟩ | refine eqn_self ?_ | refine ⟨ms (by omega), ?_⟩ | refine ⟨ms (by simp only [Src.n]; omega), ?_⟩ | refine ⟨msk (by omega), ?_⟩ | refine ⟨ms1, ?_⟩); conv => whnf)
              refine ⟨⟨k + 1, by omega, by rw [← e, hls]; rfl, rfl⟩, ?_⟩
              simp [V.toInt, sel, Env.get]; omega
            · have hop : opR s.length (sumL s) S f k = true := by unfold opR; rw [decide_eq_false hb1]; simp
              conv => whnf
              repeat ((first | refine ⟨by omega, ?_⟩ | refine ⟨inr (by omega), ?_⟩ | refine eqn_self ?_ | refine ⟨inr (by rw [hsl]; omega), ?_⟩ | refine ⟨ms (by omega), ?_⟩ | refine ⟨ms (by simp only [Src.n]; omega), ?_⟩ | refine ⟨msk (by omega), ?_⟩ | refine ⟨ms1, ?_⟩); conv => whnf)
              generalize hx : (S - 1) * sumL s - f k 1 * S = x
              have hx : x = slk (sumL s) S (f k 1) := by rw [← hx, hsl]
              refine AW_draw (X := cx 103) (cx_ok 103) mixed (by kernel_rfl) ?_
              conv => whnf
              refine br_dec (fun hp0 => ?_) (fun hp0 => ?_)
              · have e := hyes hop (.inl hp0)
                conv => whnf
                repeat ((first | refine ⟨by omega, ?_⟩ | refine ⟨inr (by omega), ?_⟩ | refine eqn_self ?_ | refine ⟨ms (by omega), ?_⟩ | refine ⟨ms (by simp only [Src.n]; omega), ?_⟩ | refine ⟨msk (by omega), ?_⟩ | refine ⟨ms1, ?_⟩); conv => whnf)
                refine ⟨⟨k + 1, by omega, ?_, rfl⟩, ?_⟩
                · rw [← e, if_neg (by omega), Int.toNat_natCast, ← hx]; rfl
                · simp [V.toInt, sel, Env.get]; omega
              · have sp : 1 ≤ s.getD p.toNat 0 ∧ s.getD p.toNat 0 ≤ 20 := hs.2.2 _ (getD_mem' (by omega))
                have o0p : s.getD p.toNat 0 = f p.toNat 0 := by rw [← hf]; rfl
                rw [if_neg hp0] at hls
                have q4 := (slk_bd0 hTb hSb (hcb p.toNat).2).2.2
                have m1 := mul_bd2 (x := x) (y := s.getD p.toNat 0) (by omega) (by omega)
                have m2 := mul_bd2 (x := ls) (y := s.getD (k : Int).toNat 0) (by omega) (by omega)
                conv => whnf
                repeat ((first | refine ⟨by omega, ?_⟩ | refine ⟨inr (by omega), ?_⟩ | refine eqn_self ?_ | refine ⟨ms (by omega), ?_⟩ | refine ⟨ms (by simp only [Src.n]; omega), ?_⟩ | refine ⟨msk (by omega), ?_⟩ | refine ⟨ms1, ?_⟩); conv => whnf)
                refine br_dec (fun hp1 => ?_) (fun hp1 => ?_)
                · have e := hyes hop (.inr (decide_eq_true (by rw [← hx, hls, ← o0p, ← o0]; exact hp1)))
                  conv => whnf
                  repeat ((first | refine ⟨by omega, ?_⟩ | refine ⟨inr (by omega), ?_⟩ | refine eqn_self ?_ | refine ⟨ms (by omega), ?_⟩ | refine ⟨ms (by simp only [Src.n]; omega), ?_⟩ | refine ⟨msk (by omega), ?_⟩ | refine ⟨ms1, ?_⟩); conv => whnf)
                  refine ⟨⟨k + 1, by omega, ?_, rfl⟩, ?_⟩
                  · rw [← e, if_neg (by omega), Int.toNat_natCast, ← hx]; rfl
                  · simp [V.toInt, sel, Env.get]; omega
                · have e := hno (by
                    rintro ⟨_, h | h⟩
                    · exact hp0 h
                    · have h := of_decide_eq_true h
                      rw [← hx, hls, ← o0p, ← o0] at h
                      exact hp1 h)
                  conv => whnf
                  repeat ((first | refine ⟨by omega, ?_⟩ | refine ⟨inr (by omega), ?_⟩ | refine eqn_self ?_ | refine ⟨ms (by omega), ?_⟩ | refine ⟨ms (by simp only [Src.n]; omega), ?_⟩ | refine ⟨msk (by omega), ?_⟩ | refine ⟨ms1, ?_⟩); conv => whnf)
                  refine ⟨⟨k + 1, by omega, ?_, rfl⟩, ?_⟩
                  · rw [← e, if_neg hp0, hls]; rfl
                  · simp [V.toInt, sel, Env.get]; omega
          · have hop : opR s.length (sumL s) S f k = true := by unfold opR; rw [decide_eq_false (show ¬ 1 < s.length by omega)]; simp
            conv => whnf
            repeat ((first | refine ⟨by omega, ?_⟩ | refine ⟨inr (by omega), ?_⟩ | refine eqn_self ?_ | refine ⟨inr (by rw [hsl]; omega), ?_⟩ | refine ⟨ms (by omega), ?_⟩ | refine ⟨ms (by simp only [Src.n]; omega), ?_⟩ | refine ⟨msk (by omega), ?_⟩ | refine ⟨ms1, ?_⟩); conv => whnf)
            generalize hx : (S - 1) * sumL s - f k 1 * S = x
            have hx : x = slk (sumL s) S (f k 1) := by rw [← hx, hsl]
            refine AW_draw (X := cx 103) (cx_ok 103) mixed (by kernel_rfl) ?_
            conv => whnf
            refine br_dec (fun hp0 => ?_) (fun hp0 => ?_)
            · have e := hyes hop (.inl hp0)
              conv => whnf
              repeat ((first | refine ⟨by omega, ?_⟩ | refine ⟨inr (by omega), ?_⟩ | refine eqn_self ?_ | refine ⟨ms (by omega), ?_⟩ | refine ⟨ms (by simp only [Src.n]; omega), ?_⟩ | refine ⟨msk (by omega), ?_⟩ | refine ⟨ms1, ?_⟩); conv => whnf)
              refine ⟨⟨k + 1, by omega, ?_, rfl⟩, ?_⟩
              · rw [← e, if_neg (by omega), Int.toNat_natCast, ← hx]; rfl
              · simp [V.toInt, sel, Env.get]; omega
            · exact absurd (show p < 0 by omega) hp0
        · obtain rfl : k = s.length := by omega
          rw [hpp] at hpb
          obtain ⟨d, rfl⟩ : ∃ d : Nat, p = d := ⟨p.toNat, by omega⟩
          have hnext : calledL s (pkR s) (u + 1) = l ++ [(d : Int)] := by rw [hnext, hpp]
          have hdn : d < s.length := by omega
          have hcb := cnt_bd l u d
          have hcd : (rw_ s.length (cnt l u)).getD (0 + (d : Int).toNat) 0 = cnt l u d := by rw [Int.toNat_natCast, Nat.zero_add, rw_get hdn]
          have hst : ((rw_ s.length (cnt l u)).set (0 + (d : Int).toNat) ((rw_ s.length (cnt l u)).getD (0 + (d : Int).toNat) 0 + 1)) = rw_ s.length (cnt (calledL s (pkR s) (u + 1)) (u + 1)) := by
            rw [hcd, Int.toNat_natCast, Nat.zero_add, hnext]
            refine rw_set ?_ fun i hi hne => ?_
            · rw [cnt_snoc hll, if_pos rfl]
            · rw [cnt_snoc hll, if_neg (by omega)]; omega
          rcases hO with ⟨hl0, rfl, rfl⟩ | ⟨ver, rfl, rfl⟩
          · conv => whnf
            repeat ((first | refine ⟨by omega, ?_⟩ | refine ⟨inr (by omega), ?_⟩ | refine eqn_self ?_ | refine ⟨inr (by rw [hcd]; omega), ?_⟩ | refine ⟨ms (by omega), ?_⟩ | refine ⟨ms (by simp only [Src.n]; omega), ?_⟩ | refine ⟨msk (by omega), ?_⟩ | refine ⟨ms1, ?_⟩); conv => whnf)
            refine ⟨by repeat (first | exact trivial | exact rfl | exact fun _ => trivial | exact fun _ _ => trivial | exact fun _ _ _ => trivial | exact fun _ _ _ _ => trivial | refine And.intro ?_ ?_), memA1 [some ⟨3, 1, 0, .il (rw_ s.length (cnt (calledL s (pkR s) (u + 1)) (u + 1)))⟩, none, some ⟨3, 1, 0, .il (calledL s (pkR s) (u + 1))⟩] ⟨ObSub.ii hst, ObSub.ii (by rw [hnext, hl0]; rfl), trivial⟩ ⟨⟨u + 1, _, _, by omega, .inr ⟨0, rfl, rfl⟩, ?_, rfl⟩, ?_⟩⟩
            · rw [hnext, hl0]; rfl
            · simp [V.toInt, sel, Env.get]; omega
          · conv => whnf
            repeat ((first | refine ⟨by omega, ?_⟩ | refine ⟨inr (by omega), ?_⟩ | refine eqn_self ?_ | refine ⟨inr (by rw [hcd]; omega), ?_⟩ | refine ⟨ms (by omega), ?_⟩ | refine ⟨ms (by simp only [Src.n]; omega), ?_⟩ | refine ⟨msk (by omega), ?_⟩ | refine ⟨ms1, ?_⟩); conv => whnf)
            refine ⟨by repeat (first | exact trivial | exact rfl | exact fun _ => trivial | exact fun _ _ => trivial | exact fun _ _ _ => trivial | exact fun _ _ _ _ => trivial | refine And.intro ?_ ?_), memA1 [some ⟨3, 1, 0, .il (rw_ s.length (cnt (calledL s (pkR s) (u + 1)) (u + 1)))⟩, none, some ⟨3, 1, ver + 1, .il (calledL s (pkR s) (u + 1))⟩] ⟨ObSub.ii hst, ObSub.ii (by rw [hnext, List.take_length]; rfl), trivial⟩ ⟨⟨u + 1, _, _, by omega, .inr ⟨ver + 1, rfl, rfl⟩, ?_, rfl⟩, ?_⟩⟩
            · rw [hnext, List.length_append]; rfl
            · simp [V.toInt, sel, Env.get]; omega
    · obtain rfl : u = mm := by omega
      rcases hO with ⟨hl0, rfl, rfl⟩ | ⟨ver, rfl, rfl⟩
      · conv => whnf
        exact ⟨rfl, trivial, Q2 (Ql (by rw [hl, hl0])) rfl⟩
      · conv => whnf
        repeat ((first | refine ⟨by omega, ?_⟩ | refine ⟨inr (by omega), ?_⟩ | refine eqn_self ?_ | refine ⟨ms (by omega), ?_⟩ | refine ⟨ms (by simp only [Src.n]; omega), ?_⟩ | refine ⟨msk (by omega), ?_⟩ | refine ⟨ms1, ?_⟩); conv => whnf)
        exact ⟨rfl, trivial, Q2 (Ql (by rw [hl]; simp)) rfl⟩
end Go.Tri
