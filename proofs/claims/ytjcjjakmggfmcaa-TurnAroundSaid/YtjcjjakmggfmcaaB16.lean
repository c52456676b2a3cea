/-
  CONTRACTS: the days of Fair.
-/
import Derived.Test.YtjcjjakmggfmcaaB15
namespace Go.Tri
open Go.Proofs

theorem msCF {n : Nat} {x : Int} (h : 16 * x ≤ 140737488355328) : (((cx n).T.row 65).bs : Int) * x ≤ 140737488355328 := h
def pkF (s : List Int) : (Nat → Nat → Int) → Int := fun f => pick (opF (sumL s) (2 * (s.length : Int) - 2) f) (befF (sumL s) (2 * (s.length : Int) - 2) f) s.length
theorem calledF_pure (s : List Int) (hs : Shs s) (m : Nat) (hm : m ≤ 400) (h2 : 2 ≤ s.length)
    (hP : ∀ t, t < m → 0 ≤ pkF s (clm s (calledL s (pkF s) t) t (t + 1)) ∧ pkF s (clm s (calledL s (pkF s) t) t (t + 1)) < s.length)
    : APure Try.prog 52 [.ints false s, .int m, cloR (sumL s) (2 * (s.length : Int) - 2), cloB (sumL s) (2 * (s.length : Int) - 2)] (fun R => R = .ints true (calledL s (pkF s) m)) := by
  have hsb := sumL_bd s hs.2.2
  have h8 := hs.1
  refine APure_of (X := cx 69) (cx_ok 69) rfl (rs := [(.tmp 8, 22)]) Try.func52 (by decide) rfl rfl rfl (by simp [cx]) (by simp [NoFr]) ?_
  intro _
  conv => whnf
  repeat ((first | refine ⟨by omega, ?_⟩ | refine ⟨inr (by omega), ?_⟩ | refine eqn_self ?_ | refine ⟨msCF (by omega), ?_⟩ | refine ⟨ms (by omega), ?_⟩ | refine ⟨ms (by simp only [Src.n]; omega), ?_⟩ | refine ⟨msk (by omega), ?_⟩ | refine ⟨ms1, ?_⟩); conv => whnf)
  refine APure.to (sum_pure s hs) ?_
  conv => whnf
  repeat ((first | refine ⟨by omega, ?_⟩ | refine ⟨inr (by omega), ?_⟩ | refine eqn_self ?_ | refine ⟨ms (by omega), ?_⟩ | refine ⟨ms (by simp only [Src.n]; omega), ?_⟩ | refine ⟨msk (by omega), ?_⟩ | refine ⟨ms1, ?_⟩); conv => whnf)
  refine AW_loopA (X := cx 69) (cx_ok 69) [0, 1, 2, 3, 9, 10, 11, 23, 24, 25] (fun t => Nat.blt t 2) (fun vs M => ∃ t : Nat, t ≤ m ∧ vs = [.ints false s, .int m, cloR (sumL s) (2 * (s.length : Int) - 2), cloB (sumL s) (2 * (s.length : Int) - 2), .sl 0 0 0 s.length, .sl 1 0 0 m, .int (sumL s), .sl 1 0 0 m, .int m, .int t] ∧
      M = [some ⟨65, 2, 0, .ci s.length (clK s (calledL s (pkF s) t) t 0)⟩, some ⟨3, 1, 0, .il (calledL s (pkF s) t ++ List.replicate (m - t) 0)⟩])
    (fun vs _ => m - (vs.getD 9 .any).toInt.toNat) (fun t ht => by rw [Nat.blt_eq]; exact ht) ?_ ?_
  · refine memA0 [some ⟨65, 2, 0, .ci s.length (clK s (calledL s (pkF s) 0) 0 0)⟩, some ⟨3, 1, 0, .il (calledL s (pkF s) 0 ++ List.replicate (m - 0) 0)⟩]
      (show MSub [some ⟨65, 2, 0, .cv s.length fun _ k => constV (([.int .i64 0, .int .i64 0] : List Value).getD k undef)⟩, some ⟨3, 1, 0, .il (List.replicate m 0)⟩] _ from ⟨ObSub.ci fun j k hj hk => ?_, ObSub.refl _, trivial⟩) ⟨0, Nat.zero_le _, rfl, rfl⟩
    have h0 : ow s (calledL s (pkF s) 0) 0 0 j = 0 := by simp [ow, cnt, calledL]
    match k, hk with
    | 0, _ => simp [clK, constV]
    | 1, _ => simp [clK, constV, h0]
  · rintro vs M ⟨t, ht, rfl, rfl⟩
    conv => whnf
    refine br_dec (fun hlt => ?_) (fun hge => ?_)
    · have ht' : t < m := by omega
      conv => whnf
      generalize hl : calledL s (pkF s) t = l
      have hll : l.length = t := by rw [← hl, calledL_len]
      refine AW_loopA (X := cx 69) (cx_ok 69) [0, 1, 2, 3, 9, 10, 11, 12, 23, 24, 25, 28, 29, 30] (fun t => Nat.blt t 2) (fun vs M => ∃ k : Nat, k ≤ s.length ∧ vs = [.ints false s, .int m, cloR (sumL s) (2 * (s.length : Int) - 2), cloB (sumL s) (2 * (s.length : Int) - 2), .sl 0 0 0 s.length, .sl 1 0 0 m, .int (sumL s), .int t, .sl 1 0 0 m, .int m, .int t, .ints false s, .int s.length, .int k] ∧
          M = [some ⟨65, 2, 0, .ci s.length (clK s l t k)⟩, some ⟨3, 1, 0, .il (l ++ List.replicate (m - t) 0)⟩])
        (fun vs _ => s.length - (vs.getD 13 .any).toInt.toNat) (fun t ht => by rw [Nat.blt_eq]; exact ht) ?_ ?_
      · exact same0 ⟨0, Nat.zero_le _, rfl, rfl⟩
      · rintro vs M ⟨k, hk, rfl, rfl⟩
        conv => whnf
        refine br_dec (fun hlt => ?_) (fun hge => ?_)
        · have hk' : k < s.length := by omega
          have hsk : 1 ≤ s.getD (k : Int).toNat 0 ∧ s.getD (k : Int).toNat 0 ≤ 20 := hs.2.2 _ (getD_mem' hk')
          have hv : (if 0 + (k : Int).toNat = 0 + (k : Int).toNat ∧ 0 + 1 = 0 + 0 then s.getD (k : Int).toNat 0 else clK s l t k (0 + (k : Int).toNat) (0 + 1)) = ow s l t t k := by rw [if_neg (by omega)]; simp [clK]
          have hob := ow_bd (l := l) hs (t := t) (u := t) (by omega) (by omega) k
          have hos := ow_step s l t k
          have hvb : -9223372036854775808 ≤ (if 0 + (k : Int).toNat = 0 + (k : Int).toNat ∧ 0 + 1 = 0 + 0 then s.getD (k : Int).toNat 0 else clK s l t k (0 + (k : Int).toNat) (0 + 1)) + s.getD (k : Int).toNat 0 ∧
              (if 0 + (k : Int).toNat = 0 + (k : Int).toNat ∧ 0 + 1 = 0 + 0 then s.getD (k : Int).toNat 0 else clK s l t k (0 + (k : Int).toNat) (0 + 1)) + s.getD (k : Int).toNat 0 ≤ 9223372036854775807 := by rw [hv]; omega
          have hst : ∀ j q, j < s.length → q < 2 → (if j = 0 + (k : Int).toNat ∧ q = 0 + 1 then (if 0 + (k : Int).toNat = 0 + (k : Int).toNat ∧ 0 + 1 = 0 + 0 then s.getD (k : Int).toNat 0 else clK s l t k (0 + (k : Int).toNat) (0 + 1)) + s.getD (k : Int).toNat 0
              else if j = 0 + (k : Int).toNat ∧ q = 0 + 0 then s.getD (k : Int).toNat 0 else clK s l t k j q) = clK s l t (k + 1) j q := by
            intro j q hj hq
            rw [hv, Int.toNat_natCast, Nat.zero_add, hos]
            by_cases hjk : j = k
            · subst hjk
              rcases (by omega : q = 0 ∨ q = 1) with rfl | rfl <;> simp [clK]
            · rw [if_neg (by omega), if_neg (by omega)]
              unfold clK
              have : j < k + 1 ↔ j < k := by omega
              simp only [this]
          conv => whnf
          repeat ((first | refine ⟨by omega, ?_⟩ | refine ⟨inr (by omega), ?_⟩ | refine eqn_self ?_ | refine ⟨inr hvb, ?_⟩ | refine ⟨ms (by omega), ?_⟩ | refine ⟨ms (by simp only [Src.n]; omega), ?_⟩ | refine ⟨msk (by omega), ?_⟩ | refine ⟨ms1, ?_⟩); conv => whnf)
          refine ⟨by repeat (first | exact trivial | exact rfl | exact fun _ => trivial | exact fun _ _ => trivial | exact fun _ _ _ => trivial | exact fun _ _ _ _ => trivial | refine And.intro ?_ ?_), memA1 [some ⟨65, 2, 0, .ci s.length (clK s l t (k + 1))⟩, some ⟨3, 1, 0, .il (l ++ List.replicate (m - t) 0)⟩] ⟨ObSub.cc hst, ObSub.refl _, trivial⟩ ⟨⟨k + 1, by omega, rfl, rfl⟩, ?_⟩⟩
          simp [V.toInt, sel, Env.get]; omega
        · have hk' : k = s.length := by omega
          subst hk'
          have hcl : ∀ j q, j < s.length → q < 2 → clK s l t s.length j q = clm s l t (t + 1) j q := by
            intro j q hj hq
            rcases (by omega : q = 0 ∨ q = 1) with rfl | rfl <;> simp [clK, clm, hj]
          have hr := hP t ht'
          rw [hl] at hr
          have hC := claimF_pure s.length h8 (clm s l t (t + 1)) (T := sumL s) (S := 2 * (s.length : Int) - 2) (by omega) (by omega) (fun i _ => clm_bd hs (by omega) (by omega) i)
          have hC : APure Try.prog 70 [.seq false 2 s.length fun j k => .int (clm s l t (t + 1) j k), cloR (sumL s) (2 * (s.length : Int) - 2), cloB (sumL s) (2 * (s.length : Int) - 2)] (fun R => R = .int (pkF s (clm s l t (t + 1)))) := hC
          have hnext : calledL s (pkF s) (t + 1) = l ++ [pkF s (clm s l t (t + 1))] := by rw [calledL, hl]
          generalize hrr : pkF s (clm s l t (t + 1)) = r at *
          obtain ⟨d, rfl⟩ : ∃ d : Nat, r = d := ⟨r.toNat, by omega⟩
          have hdn : d < s.length := by omega
          have hob := ow_bd (l := l) hs (t := t) (u := t + 1) (by omega) (by omega) d
          have hcd : clK s l t s.length (0 + (d : Int).toNat) (0 + 1) = ow s l t (t + 1) d := by rw [Int.toNat_natCast, Nat.zero_add, hcl d (0 + 1) hdn (by omega)]; rfl
          have hvb : -9223372036854775808 ≤ clK s l t s.length (0 + (d : Int).toNat) (0 + 1) - sumL s ∧ clK s l t s.length (0 + (d : Int).toNat) (0 + 1) - sumL s ≤ 9223372036854775807 := by rw [hcd]; omega
          have hst : ∀ j q, j < s.length → q < 2 → (if j = 0 + (d : Int).toNat ∧ q = 0 + 1 then clK s l t s.length (0 + (d : Int).toNat) (0 + 1) - sumL s else clK s l t s.length j q) = clK s (l ++ [(d : Int)]) (t + 1) 0 j q := by
            intro j q hj hq
            have hc := cnt_snoc hll (d : Int) j
            have ho : ow s (l ++ [(d : Int)]) (t + 1) (t + 1) j = ow s l t (t + 1) j - if (d : Int) = j then sumL s else 0 := by
              unfold ow
              rw [hc, Int.add_mul]
              split <;> omega
            rw [hcd, hcl j q hj hq, Int.toNat_natCast, Nat.zero_add]
            rcases (by omega : q = 0 ∨ q = 1) with rfl | rfl
            · rw [if_neg (by omega)]; simp [clK, clm]
            · have hk0 : clK s (l ++ [(d : Int)]) (t + 1) 0 j 1 = ow s (l ++ [(d : Int)]) (t + 1) (t + 1) j := by simp [clK]
              have hm1 : clm s l t (t + 1) j 1 = ow s l t (t + 1) j := by simp [clm]
              rw [hk0, hm1, ho]
              by_cases hjd : j = d
              · subst hjd
                rw [if_pos ⟨rfl, rfl⟩, if_pos rfl]
              · rw [if_neg (by omega), if_neg (by omega), Int.sub_zero]
          have hset : (l ++ List.replicate (m - t) 0).set (0 + (t : Int).toNat) (d : Int) = (l ++ [(d : Int)]) ++ List.replicate (m - (t + 1)) 0 := by rw [Int.toNat_natCast, Nat.zero_add]; exact set_mid l hll ht' _
          conv => whnf
          refine APure.to (APure.arg3 (sub_seq fun j k hj hk => Sub.of (congrArg V.int (by rw [Nat.zero_add]; exact hcl j k hj hk))) (sub_clo fun _ _ => sub_at fun _ _ => Sub.of rfl) (sub_clo fun _ _ => sub_at fun _ _ => sub_clo fun _ _ => sub_at fun _ _ => Sub.of rfl) hC) ?_
          conv => whnf
          repeat ((first | refine ⟨by omega, ?_⟩ | refine ⟨inr (by omega), ?_⟩ | refine eqn_self ?_ | refine ⟨inr hvb, ?_⟩ | refine ⟨ms (by omega), ?_⟩ | refine ⟨ms (by simp only [Src.n]; omega), ?_⟩ | refine ⟨msk (by omega), ?_⟩ | refine ⟨ms1, ?_⟩); conv => whnf)
          refine ⟨by repeat (first | exact trivial | exact rfl | exact fun _ => trivial | exact fun _ _ => trivial | exact fun _ _ _ => trivial | exact fun _ _ _ _ => trivial | refine And.intro ?_ ?_), memA1 [some ⟨65, 2, 0, .ci s.length (clK s (calledL s (pkF s) (t + 1)) (t + 1) 0)⟩, some ⟨3, 1, 0, .il (calledL s (pkF s) (t + 1) ++ List.replicate (m - (t + 1)) 0)⟩]
            ⟨ObSub.cc fun j q hj hq => by rw [hnext]; exact hst j q hj hq, ObSub.ii (by rw [hnext]; exact hset), trivial⟩ ⟨⟨t + 1, by omega, rfl, rfl⟩, ?_⟩⟩
          simp [V.toInt, sel, Env.get]; omega
    · conv => whnf
      have : t = m := by omega
      subst this
      repeat ((first | refine ⟨by omega, ?_⟩ | refine ⟨inr (by omega), ?_⟩ | refine eqn_self ?_ | refine ⟨ms (by omega), ?_⟩ | refine ⟨ms (by simp only [Src.n]; omega), ?_⟩ | refine ⟨msk (by omega), ?_⟩ | refine ⟨ms1, ?_⟩); conv => whnf)
      refine ⟨rfl, Ql ?_⟩
      simp [take_len, calledL_len]
end Go.Tri
