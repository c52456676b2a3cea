/-
  LAW: TurnMerged.
-/
import Derived.Test.YtjcjjakmggfmcaaD1
namespace Go.Tri
open Go.Proofs

theorem TurnMerged_pure (s l : List Int) (f g : Int) (hf : 0 ≤ f ∧ f ≤ 255) (hg : 0 ≤ g ∧ g ≤ 255) : APure Try.prog 13 [.ints false s, .ints false l, .lit (.int .u8 f), .lit (.int .u8 g)] (fun R => R = .bool true) := by
  refine APure_of (X := cx 145) (cx_ok 145) rfl (rs := [(.tmp 8, 4)]) Try.func13 (by decide) rfl rfl rfl (by simp [cx]) (by simp [NoFr]) ?_
  intro hlen
  conv => whnf
  refine APure.to (Shares_pure s) ?_
  conv => whnf
  refine APure.to (few_pure s l) ?_
  conv => whnf
  refine br_not (br_mk (fun h => ?_) (fun h => ?_))
  · have hl : s.length ≤ 30 ∧ l.length ≤ 500 := by simpa using h
    conv => whnf
    refine br_ne (fun h => ?_) (fun h => ?_)
    · conv => whnf
      refine APure.to alive_pure ?_
      conv => whnf
      exact ⟨trivial, rfl⟩
    · have hs : Shs s := sharesE_ok h
      conv => whnf
      refine br_dec (fun h2 => ?_) (fun h2 => ?_)
      · conv => whnf
        refine APure.to alive_pure ?_
        conv => whnf
        exact ⟨trivial, rfl⟩
      · conv => whnf
        refine APure.to (Days_pure l s.length) ?_
        conv => whnf
        refine br_ne (fun h3 => ?_) (fun h3 => ?_)
        · conv => whnf
          refine APure.to alive_pure ?_
          conv => whnf
          exact ⟨trivial, rfl⟩
        · have hd : Dys l s.length := by
            obtain ⟨g1, g2⟩ := daysE_ok h3
            refine ⟨g1, fun x hx => ?_⟩
            have := List.all_eq_true.1 g2 x hx
            simpa using this
          have tb : 0 ≤ f.tmod ((s.length : Int) - 1) ∧ f.tmod ((s.length : Int) - 1) < (s.length : Int) - 1 := by
            rw [Int.tmod_eq_emod_of_nonneg hf.1]
            exact ⟨Int.emod_nonneg _ (by omega), Int.emod_lt_of_pos _ (by omega)⟩
          have hs8 := hs.1
          conv => whnf
          repeat ((first | refine ⟨by omega, ?_⟩ | refine ⟨inr (by omega), ?_⟩ | refine eqn_self ?_ | refine ⟨ms (by omega), ?_⟩ | refine ⟨ms (by simp only [Src.n]; omega), ?_⟩ | refine ⟨msk (by omega), ?_⟩ | refine ⟨ms1, ?_⟩); conv => whnf)
          generalize hB : (1 : Int) + f.tmod ((s.length : Int) - 1) = bb
          obtain ⟨b, rfl⟩ : ∃ b : Nat, bb = b := ⟨bb.toNat, by omega⟩
          have hb1 : 1 ≤ b ∧ b < s.length := by omega
          have ta : 0 ≤ g.tmod (b : Int) ∧ g.tmod (b : Int) < b := by
            rw [Int.tmod_eq_emod_of_nonneg hg.1]
            exact ⟨Int.emod_nonneg _ (by omega), Int.emod_lt_of_pos _ (by omega)⟩
          generalize hA : g.tmod (b : Int) = aa
          rw [hA] at ta
          obtain ⟨a, rfl⟩ : ∃ a : Nat, aa = a := ⟨aa.toNat, by omega⟩
          have hab : a < b := by omega
          have sb : ∀ i : Nat, i < s.length → 1 ≤ s.getD (i : Int).toNat 0 ∧ s.getD (i : Int).toNat 0 ≤ 20 := fun i hi => hs.2.2 _ (getD_mem' hi)
          have sa := sb a (by omega)
          have sbb := sb b (by omega)
          refine AW_draw (X := cx 145) (cx_ok 145) mixed (by kernel_rfl) ?_
          conv => whnf
          repeat ((first | refine ⟨by omega, ?_⟩ | refine ⟨inr (by omega), ?_⟩ | refine eqn_self ?_ | refine ⟨ms (by omega), ?_⟩ | refine ⟨ms (by simp only [Src.n]; omega), ?_⟩ | refine ⟨msk (by omega), ?_⟩ | refine ⟨ms1, ?_⟩); conv => whnf)
          refine br_dec (fun h20 => ?_) (fun h20 => ?_)
          · conv => whnf
            refine APure.to alive_pure ?_
            conv => whnf
            exact ⟨trivial, rfl⟩
          · conv => whnf
            refine AW_loopK (X := cx 145) (cx_ok 145) [0, 1, 11, 12, 13, 14] (fun t => Nat.beq t 1) (fun vs M => ∃ k : Nat, k ≤ s.length ∧
                (((s.take k).eraseIdx b = [] ∧ vs = [.ints false s, .ints false l, .int b, .int a, .emp, .int k] ∧ M = []) ∨
                ∃ ver, vs = [.ints false s, .ints false l, .int b, .int a, .sl 1 ver 0 ((s.take k).eraseIdx b).length, .int k] ∧ M = [none, some ⟨3, 1, ver, .il ((s.take k).eraseIdx b)⟩]))
              (fun vs _ => s.length - (vs.getD 5 .any).toInt.toNat) (fun t ht => absurd ht (by simp)) ?_ ?_
            · exact ⟨0, Nat.zero_le _, .inl ⟨by simp, rfl, rfl⟩⟩
            · rintro vs M ⟨k, hk, h⟩
              rcases h with ⟨hk0, rfl, rfl⟩ | ⟨ver, rfl, rfl⟩
              · conv => whnf
                refine br_dec (fun hlt => ?_) (fun hge => ?_)
                · have hk' : k < s.length := by omega
                  have he := erase_step s b k hk'
                  conv => whnf
                  refine br_ne (fun hne => ?_) (fun heq => ?_)
                  · rw [if_neg (by omega), hk0, List.nil_append] at he
                    conv => whnf
                    repeat ((first | refine ⟨by omega, ?_⟩ | refine ⟨inr (by omega), ?_⟩ | refine eqn_self ?_ | refine ⟨ms (by omega), ?_⟩ | refine ⟨ms (by simp only [Src.n]; omega), ?_⟩ | refine ⟨msk (by omega), ?_⟩ | refine ⟨ms1, ?_⟩); conv => whnf)
                    refine ⟨by repeat (first | exact trivial | exact rfl | refine And.intro ?_ ?_), ⟨k + 1, by omega, .inr ⟨0, ?_, ?_⟩⟩, ?_⟩
                    · rw [he]; rfl
                    · rw [he]; rfl
                    · simp [V.toInt, sel, Env.get]; omega
                  · rw [if_pos (by omega), hk0] at he
                    conv => whnf
                    repeat ((first | refine ⟨by omega, ?_⟩ | refine ⟨inr (by omega), ?_⟩ | refine eqn_self ?_ | refine ⟨ms (by omega), ?_⟩ | refine ⟨ms (by simp only [Src.n]; omega), ?_⟩ | refine ⟨msk (by omega), ?_⟩ | refine ⟨ms1, ?_⟩); conv => whnf)
                    refine ⟨by repeat (first | exact trivial | exact rfl | refine And.intro ?_ ?_), ⟨k + 1, by omega, .inl ⟨he, rfl, rfl⟩⟩, ?_⟩
                    simp [V.toInt, sel, Env.get]; omega
                · exfalso
                  have : k = s.length := by omega
                  rw [this, take_len (Nat.le_refl _)] at hk0
                  have := congrArg List.length hk0
                  rw [List.length_eraseIdx_of_lt (by omega)] at this
                  simp at this
                  omega
              · have hel : ((s.take k).eraseIdx b).length ≤ k := by
                  have := List.length_eraseIdx_le (s.take k) b
                  have : (s.take k).length = k := by rw [List.length_take]; omega
                  omega
                conv => whnf
                refine br_dec (fun hlt => ?_) (fun hge => ?_)
                · have hk' : k < s.length := by omega
                  have he := erase_step s b k hk'
                  conv => whnf
                  refine br_ne (fun hne => ?_) (fun heq => ?_)
                  · rw [if_neg (by omega)] at he
                    conv => whnf
                    repeat ((first | refine ⟨by omega, ?_⟩ | refine ⟨inr (by omega), ?_⟩ | refine eqn_self ?_ | refine ⟨ms (by omega), ?_⟩ | refine ⟨ms (by simp only [Src.n]; omega), ?_⟩ | refine ⟨msk (by omega), ?_⟩ | refine ⟨ms1, ?_⟩); conv => whnf)
                    refine ⟨by repeat (first | exact trivial | exact rfl | refine And.intro ?_ ?_), ⟨k + 1, by omega, .inr ⟨ver + 1, ?_, ?_⟩⟩, ?_⟩
                    · rw [he]; simp; rfl
                    · rw [he]; simp; rfl
                    · simp [V.toInt, sel, Env.get]; omega
                  · rw [if_pos (by omega)] at he
                    conv => whnf
                    repeat ((first | refine ⟨by omega, ?_⟩ | refine ⟨inr (by omega), ?_⟩ | refine eqn_self ?_ | refine ⟨ms (by omega), ?_⟩ | refine ⟨ms (by simp only [Src.n]; omega), ?_⟩ | refine ⟨msk (by omega), ?_⟩ | refine ⟨ms1, ?_⟩); conv => whnf)
                    refine ⟨by repeat (first | exact trivial | exact rfl | refine And.intro ?_ ?_), ⟨k + 1, by omega, .inr ⟨ver, by rw [he]; rfl, by rw [he]; rfl⟩⟩, ?_⟩
                    simp [V.toInt, sel, Env.get]; omega
                · have : k = s.length := by omega
                  subst this
                  rw [List.take_length] at hel ⊢
                  have hle : (s.eraseIdx b).length = s.length - 1 := List.length_eraseIdx_of_lt hb1.2
                  have hea : (s.eraseIdx b).getD (0 + (a : Int).toNat) 0 = s.getD a 0 := by rw [Int.toNat_natCast, Nat.zero_add, getD_erase, if_pos hab]
                  have hsa : s.getD (a : Int).toNat 0 = s.getD a 0 := rfl
                  have hsbb : s.getD (b : Int).toNat 0 = s.getD b 0 := rfl
                  rw [hsa] at sa h20
                  rw [hsbb] at sbb h20
                  have hmg : (s.eraseIdx b).set (0 + (a : Int).toNat) ((s.eraseIdx b).getD (0 + (a : Int).toNat) 0 + s.getD (b : Int).toNat 0) = mgS s a b := by
                    rw [Int.toNat_natCast, Nat.zero_add]; rfl
                  have hmE := mergedE_of hd hs.1 hb1.2 hab
                  have hmL : mergedL l a b = l.map (mergeD a b) := by unfold mergedL; rw [if_pos hmE]
                  have hS2 := mgS_shs hs hb1.2 hab (by omega)
                  have hl2 := merge_days hd hb1.2 hab
                  have hE1 := askedE_of hs hd
                  have hE2 := askedE_of hS2 hl2
                  have hD2 : ∀ t' l', t' = mgS s a b → l' = l.map (mergeD a b) → APure Try.prog 18 [.ints false t', .ints false l'] (fun R => R = tup2 (agg2 (rat1 (mgS s a b) (l.map (mergeD a b))) (rat2 (mgS s a b) (l.map (mergeD a b)))) (.int 0)) := fun t' l' e1 e2 => by
                    rw [e1, e2, ← hE2]; exact Deviation_pure _ _
                  have hD1 : APure Try.prog 18 [.ints false s, .ints false l] (fun R => R = tup2 (agg2 (rat1 s l) (rat2 s l)) (.int 0)) := by rw [← hE1]; exact Deviation_pure s l
                  have hM : APure Try.prog 35 [.ints false l, .int a, .int b] (fun R => R = tup2 (.ints true (l.map (mergeD a b))) (.int 0)) := by rw [← hmE, ← hmL]; exact Merged_pure l a b
                  conv => whnf
                  refine AW_draw (X := cx 145) (cx_ok 145) mixed (by kernel_rfl) ?_
                  conv => whnf
                  repeat ((first | refine ⟨by omega, ?_⟩ | refine ⟨inr (by omega), ?_⟩ | refine eqn_self ?_ | refine ⟨inr (by rw [hea, hsbb]; omega), ?_⟩ | refine ⟨ms (by omega), ?_⟩ | refine ⟨ms (by simp only [Src.n]; omega), ?_⟩ | refine ⟨msk (by omega), ?_⟩ | refine ⟨ms1, ?_⟩); conv => whnf)
                  refine APure.to hM ?_
                  conv => whnf
                  refine APure.to hD1 ?_
                  conv => whnf
                  repeat ((first | refine ⟨by omega, ?_⟩ | refine ⟨inr (by omega), ?_⟩ | refine eqn_self ?_ | refine ⟨ms (by omega), ?_⟩ | refine ⟨ms (by simp only [Src.n]; omega), ?_⟩ | refine ⟨msk (by omega), ?_⟩ | refine ⟨ms1, ?_⟩); conv => whnf)
                  refine APure.to (hD2 _ _ (by rw [← hmg, ← List.length_set (i := 0 + (a : Int).toNat) (a := (s.eraseIdx b).getD (0 + (a : Int).toNat) 0 + s.getD (b : Int).toNat 0)]; exact view_all _) rfl) ?_
                  have hsb1 := sumL_bd s hs.2.2
                  have hsb2 := sumL_bd _ hS2.2.2
                  have hdv1 := dv_bd (l := l) hs l.length hd.1
                  have hdv2 := dv_bd (l := l.map (mergeD a b)) hS2 (l.map (mergeD a b)).length hl2.1
                  have hs0 := hs.2.1
                  have hs02 := hS2.2.1
                  have hsum := mgS_sum hb1.2 hab
                  have hdm := dv_merge hb1.2 hab hdv1.1
                  rw [show l.length = (l.map (mergeD a b)).length from (List.length_map ..).symm, show dv s l (l.map (mergeD a b)).length = dv s l l.length from by rw [List.length_map]] at hdm
                  have r1 : smallB (rat1 s l) (rat2 s l) = true := by unfold rat1 rat2; rw [if_pos hE1, if_pos hE1]; exact low_small (by omega) (by omega) (by omega)
                  have r2 : smallB (rat1 (mgS s a b) (l.map (mergeD a b))) (rat2 (mgS s a b) (l.map (mergeD a b))) = true := by unfold rat1 rat2; rw [if_pos hE2, if_pos hE2]; exact low_small (by omega) (by omega) (by omega)
                  have r3 : rat1 (mgS s a b) (l.map (mergeD a b)) * rat2 s l ≤ 2 * rat1 s l * rat2 (mgS s a b) (l.map (mergeD a b)) := by
                    unfold rat1 rat2
                    rw [if_pos hE1, if_pos hE1, if_pos hE2, if_pos hE2, low_le (by omega), Int.mul_assoc, hsum, low_eq, ← Int.mul_assoc]
                    exact Int.mul_le_mul_of_nonneg_right (by omega) (Int.natCast_nonneg _)
                  generalize rat1 s l = x1 at *
                  generalize rat2 s l = x2 at *
                  generalize rat1 (mgS s a b) (l.map (mergeD a b)) = y1 at *
                  generalize rat2 (mgS s a b) (l.map (mergeD a b)) = y2 at *
                  conv => whnf
                  refine APure.to (APure.arg1 (agg2_alike rfl rfl) (small_pure x1 x2)) ?_
                  conv => whnf
                  refine br_not (br_mk (fun h5 => ?_) (fun h5 => ?_))
                  · conv => whnf
                    refine APure.to (APure.arg1 (agg2_alike rfl rfl) (small_pure y1 y2)) ?_
                    conv => whnf
                    refine br_not (br_mk (fun h6 => ?_) (fun h6 => ?_))
                    · have g1 : 0 ≤ x1 ∧ 1 ≤ x2 ∧ x1 < 1073741824 ∧ x2 < 1073741824 := by unfold smallB at r1; simp at r1; omega
                      have g2 : 0 ≤ y1 ∧ 1 ≤ y2 ∧ y1 < 1073741824 ∧ y2 < 1073741824 := by unfold smallB at r2; simp at r2; omega
                      conv => whnf
                      repeat ((first | refine ⟨by omega, ?_⟩ | refine ⟨inr (by omega), ?_⟩ | refine eqn_self ?_ | refine ⟨ms (by omega), ?_⟩ | refine ⟨ms (by simp only [Src.n]; omega), ?_⟩ | refine ⟨msk (by omega), ?_⟩ | refine ⟨ms1, ?_⟩); conv => whnf)
                      have hq : y1 * x2 ≤ 2 * x1 * y2 := r3
                      refine APure.to (APure.arg2 (agg2_alike rfl rfl) (agg2_alike rfl rfl) (atMost_pure y1 y2 (2 * x1) x2 (by omega) (by omega) (by omega) (by omega))) ?_
                      conv => whnf
                      refine br_dec (fun h7 => ?_) (fun h7 => absurd hq h7)
                      conv => whnf
                      refine APure.to alive_pure ?_
                      conv => whnf
                      exact ⟨trivial, rfl⟩
                    · rw [r2] at h6; cases h6
                  · rw [r1] at h5; cases h5
  · conv => whnf
    refine APure.to alive_pure ?_
    conv => whnf
    exact ⟨trivial, rfl⟩
end Go.Tri
