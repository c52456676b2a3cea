/-
  CONTRACTS: the reference's Greedy.
-/
import Derived.Test.YtjcjjakmggfmcaaB12
namespace Go.Tri
open Go.Proofs

/-- A list that has been appended to, from nil on: nothing yet, or an object of the name 2. -/
def OutR (l : List Int) (o : V) (R : Mem) : Prop := (l = [] ∧ o = .emp ∧ R = []) ∨ ∃ ver, o = .sl 2 ver 0 l.length ∧ R = [none, some ⟨3, 1, ver, .il l⟩]
theorem refGreedy_pure (s : List Int) (m : Int) : APure Try.prog 24 [.ints false s, .int m] (fun R => R = tup2 (.ints true (greedyR s m)) (.int (manyE s m))) := by
  refine APure_of (X := cx 75) (cx_ok 75) rfl (rs := [(.tmp 4, 22), (.tmp 5, 27)]) Try.func24 (by decide) rfl rfl rfl (by simp [cx]) (by simp [NoFr]) ?_
  intro _
  conv => whnf
  refine APure.to (many_pure s m) ?_
  conv => whnf
  refine br_ne (fun h => ?_) (fun h => ?_)
  · conv => whnf
    exact ⟨rfl, trivial, Q2 (Ql (by unfold greedyR; rw [if_neg h])) rfl⟩
  obtain ⟨hs, _, h1, h2⟩ := manyE_ok h
  have hsb := sumL_bd s hs.2.2
  have h8 := hs.1
  have h0 := hs.2.1
  generalize hT : (if manyE s m = 0 then sumL s else 0) = T
  have hT : T = sumL s := by rw [← hT, if_pos h]
  subst hT
  have hgr : greedyR s m = calledL s (pkG s) m.toNat := by unfold greedyR; rw [if_pos h]
  rw [hgr, h]
  obtain ⟨mm, rfl⟩ : ∃ mm : Nat, m = mm := ⟨m.toNat, by omega⟩
  rw [Int.toNat_natCast]
  conv => whnf
  repeat ((first | refine ⟨by omega, ?_⟩ | refine ⟨inr (by omega), ?_⟩ | refine eqn_self ?_ | refine ⟨ms (by omega), ?_⟩ | refine ⟨ms (by simp only [Src.n]; omega), ?_⟩ | refine ⟨msk (by omega), ?_⟩ | refine ⟨ms1, ?_⟩); conv => whnf)
  refine AW_loopA (X := cx 75) (cx_ok 75) [0, 1, 6, 8, 9, 10] (fun t => Nat.beq t 0 || Nat.beq t 2) (fun vs M => ∃ (u : Nat) (o : V) (R : Mem), u ≤ mm ∧ OutR (calledL s (pkG s) u) o R ∧ vs = [.ints false s, .int mm, .int (sumL s), .sl 0 0 0 s.length, o, .int (u + 1)] ∧ M = some ⟨3, 1, 0, .il (rw_ s.length (cnt (calledL s (pkG s) u) u))⟩ :: R)
    (fun vs _ => (mm + 1) - (vs.getD 5 .any).toInt.toNat) (fun t ht => by have ht : t < 1 := ht; obtain rfl : t = 0 := (by omega); rfl) ?_ ?_
  · refine memA0 [some ⟨3, 1, 0, .il (rw_ s.length (cnt (calledL s (pkG s) 0) 0))⟩] (show MSub [some ⟨3, 1, 0, .il (List.replicate s.length 0)⟩] _ from ⟨ObSub.ii (rw_rep s.length (fun i _ => by simp [cnt])), trivial⟩) ?_
    exact ⟨0, .emp, [], Nat.zero_le _, .inl ⟨rfl, rfl, rfl⟩, rfl, rfl⟩
  · rintro vs M ⟨u, o, R, hu, hO, rfl, rfl⟩
    have hnext : calledL s (pkG s) (u + 1) = calledL s (pkG s) u ++ [pkG s (clm s (calledL s (pkG s) u) u (u + 1))] := rfl
    have hll := calledL_len s (pkG s) u
    generalize hl : calledL s (pkG s) u = l at *
    have hpb := pkG_bd hs (clm s l u (u + 1))
    conv => whnf
    refine br_dec (fun hlt => ?_) (fun hge => ?_)
    · have hu' : u < mm := by omega
      conv => whnf
      refine AW_loop (X := cx 75) (cx_ok 75) [0, 1, 6, 8, 9, 10, 11, 12] (fun vs M => ∃ k : Nat, 1 ≤ k ∧ k ≤ s.length ∧ vs = [.ints false s, .int mm, .int (sumL s), .sl 0 0 0 s.length, o, .int (u + 1), .int (pick allO (mostB (clm s l u (u + 1))) k), .int k] ∧ M = some ⟨3, 1, 0, .il (rw_ s.length (cnt l u))⟩ :: R)
        (fun vs _ => s.length - (vs.getD 7 .any).toInt.toNat) ?_ ?_
      · refine ⟨1, by omega, by omega, ?_, rfl⟩
        rw [← pick_yes (opn := allO) (bef := mostB (clm s l u (u + 1))) (k := 0) rfl (.inl (by show (-1 : Int) < 0; decide))]
        rfl
      · rintro vs M ⟨k, hk1, hk, rfl, rfl⟩
        obtain ⟨hp0, _⟩ := pickG_max (clm s l u (u + 1)) k hk1
        have hp1 := (pick_bd allO (mostB (clm s l u (u + 1))) k).2
        have hyes := pick_yes (opn := allO) (bef := mostB (clm s l u (u + 1))) (k := k) rfl
        have hno := pick_no (opn := allO) (bef := mostB (clm s l u (u + 1))) (k := k)
        generalize hpp : pick allO (mostB (clm s l u (u + 1))) k = p at *
        obtain ⟨d, rfl⟩ : ∃ d : Nat, p = d := ⟨p.toNat, by omega⟩
        conv => whnf
        refine br_dec (fun hlt => ?_) (fun hge => ?_)
        · have hk' : k < s.length := by omega
          have hdn : d < s.length := by omega
          have b1 := ow_bd (l := l) hs (t := u) (u := u + 1) (by omega) (by omega) k
          have b2 := ow_bd (l := l) hs (t := u) (u := u + 1) (by omega) (by omega) d
          have hck : (rw_ s.length (cnt l u)).getD (0 + (k : Int).toNat) 0 = cnt l u k := by rw [Int.toNat_natCast, Nat.zero_add, rw_get hk']
          have hcd : (rw_ s.length (cnt l u)).getD (0 + (d : Int).toNat) 0 = cnt l u d := by rw [Int.toNat_natCast, Nat.zero_add, rw_get hdn]
          have sk : 1 ≤ s.getD (k : Int).toNat 0 ∧ s.getD (k : Int).toNat 0 ≤ 20 := hs.2.2 _ (getD_mem' hk')
          have sd : 1 ≤ s.getD (d : Int).toNat 0 ∧ s.getD (d : Int).toNat 0 ≤ 20 := hs.2.2 _ (getD_mem' hdn)
          have e1 := mul_bd (a := (u : Int) + 1) (b := s.getD (k : Int).toNat 0) (B := 401) (C := 20) (by omega) (by omega) (by omega) (by omega)
          have e2 := mul_bd (a := (u : Int) + 1) (b := s.getD (d : Int).toNat 0) (B := 401) (C := 20) (by omega) (by omega) (by omega) (by omega)
          have e3 := mul_bd (a := (rw_ s.length (cnt l u)).getD (0 + (k : Int).toNat) 0) (b := sumL s) (B := 400) (C := 160) (by rw [hck]; exact (cnt_bd l u k).1) (by rw [hck]; have := (cnt_bd l u k).2; omega) (by omega) (by omega)
          have e4 := mul_bd (a := (rw_ s.length (cnt l u)).getD (0 + (d : Int).toNat) 0) (b := sumL s) (B := 400) (C := 160) (by rw [hcd]; exact (cnt_bd l u d).1) (by rw [hcd]; have := (cnt_bd l u d).2; omega) (by omega) (by omega)
          have o1 : ((u : Int) + 1) * s.getD (k : Int).toNat 0 - (rw_ s.length (cnt l u)).getD (0 + (k : Int).toNat) 0 * sumL s = clm s l u (u + 1) k 1 := by rw [hck]; rfl
          have o2 : ((u : Int) + 1) * s.getD (d : Int).toNat 0 - (rw_ s.length (cnt l u)).getD (0 + (d : Int).toNat) 0 * sumL s = clm s l u (u + 1) d 1 := by rw [hcd]; rfl
          conv => whnf
          refine AW_draw (X := cx 75) (cx_ok 75) mixed (by kernel_rfl) ?_
          conv => whnf
          repeat ((first | refine ⟨by omega, ?_⟩ | refine ⟨inr (by omega), ?_⟩ | refine eqn_self ?_ | refine ⟨ms (by omega), ?_⟩ | refine ⟨ms (by simp only [Src.n]; omega), ?_⟩ | refine ⟨msk (by omega), ?_⟩ | refine ⟨ms1, ?_⟩); conv => whnf)
          refine br_dec (fun hgt => ?_) (fun hgt => ?_)
          · rw [o1, o2] at hgt
            conv => whnf
            repeat ((first | refine ⟨by omega, ?_⟩ | refine ⟨inr (by omega), ?_⟩ | refine eqn_self ?_ | refine ⟨ms (by omega), ?_⟩ | refine ⟨ms (by simp only [Src.n]; omega), ?_⟩ | refine ⟨msk (by omega), ?_⟩ | refine ⟨ms1, ?_⟩); conv => whnf)
            refine ⟨⟨k + 1, by omega, by omega, ?_, rfl⟩, ?_⟩
            · rw [← hyes (.inr (decide_eq_true hgt))]
              rfl
            · simp [V.toInt, sel, Env.get]; omega
          · rw [o1, o2] at hgt
            conv => whnf
            repeat ((first | refine ⟨by omega, ?_⟩ | refine ⟨inr (by omega), ?_⟩ | refine eqn_self ?_ | refine ⟨ms (by omega), ?_⟩ | refine ⟨ms (by simp only [Src.n]; omega), ?_⟩ | refine ⟨msk (by omega), ?_⟩ | refine ⟨ms1, ?_⟩); conv => whnf)
            refine ⟨⟨k + 1, by omega, by omega, ?_, rfl⟩, ?_⟩
            · rw [← hno (by rintro ⟨_, h | h⟩; omega; exact hgt (of_decide_eq_true h))]
              rfl
            · simp [V.toInt, sel, Env.get]; omega
        · obtain rfl : k = s.length := by omega
          have hpp : pkG s (clm s l u (u + 1)) = (d : Int) := hpp
          have hnext : calledL s (pkG s) (u + 1) = l ++ [(d : Int)] := by rw [hnext, hpp]
          have hdn : d < s.length := by omega
          have hcb := cnt_bd l u d
          have hcd : (rw_ s.length (cnt l u)).getD (0 + (d : Int).toNat) 0 = cnt l u d := by rw [Int.toNat_natCast, Nat.zero_add, rw_get hdn]
          have hst : ((rw_ s.length (cnt l u)).set (0 + (d : Int).toNat) ((rw_ s.length (cnt l u)).getD (0 + (d : Int).toNat) 0 + 1)) = rw_ s.length (cnt (calledL s (pkG s) (u + 1)) (u + 1)) := by
            rw [hcd, Int.toNat_natCast, Nat.zero_add, hnext]
            refine rw_set ?_ fun i hi hne => ?_
            · rw [cnt_snoc hll, if_pos rfl]
            · rw [cnt_snoc hll, if_neg (by omega)]; omega
          rcases hO with ⟨hl0, rfl, rfl⟩ | ⟨ver, rfl, rfl⟩
          · conv => whnf
            repeat ((first | refine ⟨by omega, ?_⟩ | refine ⟨inr (by omega), ?_⟩ | refine eqn_self ?_ | refine ⟨inr (by rw [hcd]; omega), ?_⟩ | refine ⟨ms (by omega), ?_⟩ | refine ⟨ms (by simp only [Src.n]; omega), ?_⟩ | refine ⟨msk (by omega), ?_⟩ | refine ⟨ms1, ?_⟩); conv => whnf)
            refine ⟨by repeat (first | exact trivial | exact rfl | exact fun _ => trivial | exact fun _ _ => trivial | refine And.intro ?_ ?_), memA1 [some ⟨3, 1, 0, .il (rw_ s.length (cnt (calledL s (pkG s) (u + 1)) (u + 1)))⟩, none, some ⟨3, 1, 0, .il (calledL s (pkG s) (u + 1))⟩] ⟨ObSub.ii hst, ObSub.ii (by rw [hnext, hl0]; rfl), trivial⟩ ⟨⟨u + 1, _, _, by omega, .inr ⟨0, rfl, rfl⟩, ?_, rfl⟩, ?_⟩⟩
            · rw [hnext, hl0]; rfl
            · simp [V.toInt, sel, Env.get]; omega
          · conv => whnf
            repeat ((first | refine ⟨by omega, ?_⟩ | refine ⟨inr (by omega), ?_⟩ | refine eqn_self ?_ | refine ⟨inr (by rw [hcd]; omega), ?_⟩ | refine ⟨ms (by omega), ?_⟩ | refine ⟨ms (by simp only [Src.n]; omega), ?_⟩ | refine ⟨msk (by omega), ?_⟩ | refine ⟨ms1, ?_⟩); conv => whnf)
            refine ⟨by repeat (first | exact trivial | exact rfl | exact fun _ => trivial | exact fun _ _ => trivial | refine And.intro ?_ ?_), memA1 [some ⟨3, 1, 0, .il (rw_ s.length (cnt (calledL s (pkG s) (u + 1)) (u + 1)))⟩, none, some ⟨3, 1, ver + 1, .il (calledL s (pkG s) (u + 1))⟩] ⟨ObSub.ii hst, ObSub.ii (by rw [hnext, List.take_length]; rfl), trivial⟩ ⟨⟨u + 1, _, _, by omega, .inr ⟨ver + 1, rfl, rfl⟩, ?_, rfl⟩, ?_⟩⟩
            · rw [hnext, List.length_append]; rfl
            · simp [V.toInt, sel, Env.get]; omega
    · obtain rfl : u = mm := by omega
      rcases hO with ⟨hl0, rfl, rfl⟩ | ⟨ver, rfl, rfl⟩
      · conv => whnf
        exact ⟨rfl, trivial, Q2 (Ql (by rw [hl, hl0])) rfl⟩
      · conv => whnf
        repeat ((first | refine ⟨by omega, ?_⟩ | refine ⟨inr (by omega), ?_⟩ | refine eqn_self ?_ | refine ⟨ms (by omega), ?_⟩ | refine ⟨ms (by simp only [Src.n]; omega), ?_⟩ | refine ⟨msk (by omega), ?_⟩ | refine ⟨ms1, ?_⟩); conv => whnf)
        exact ⟨rfl, trivial, Q2 (Ql (by rw [hl]; simp)) rfl⟩
end Go.Tri
