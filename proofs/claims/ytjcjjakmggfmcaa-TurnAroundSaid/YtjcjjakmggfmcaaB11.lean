/-
  CONTRACTS: the days of Greedy.
-/
import Derived.Test.YtjcjjakmggfmcaaB10
namespace Go.Tri
open Go.Proofs

/-- The claimants after t days of calls and u days of shares. -/
def clm (s l : List Int) (t u : Nat) : Nat → Nat → Int := fun i k => if k = 0 then s.getD i 0 else ow s l t u i
/-- The days, each by the pick among the claimants. -/
def calledL (s : List Int) (P : (Nat → Nat → Int) → Int) : Nat → List Int
  | 0 => []
  | t + 1 => calledL s P t ++ [P (clm s (calledL s P t) t (t + 1))]
theorem calledL_len (s : List Int) (P : (Nat → Nat → Int) → Int) : ∀ t, (calledL s P t).length = t := by
  intro t
  induction t with
  | zero => rfl
  | succ t ih => simp [calledL, ih]

/-- The claimants within a day. -/
def clK (s l : List Int) (t k : Nat) : Nat → Nat → Int := fun i q =>
  if q = 0 then (if i < k ∨ 0 < t then s.getD i 0 else 0) else (if i < k then ow s l t (t + 1) i else ow s l t t i)
theorem clK_bd {s l : List Int} (hs : Shs s) {t : Nat} (ht : t ≤ 400) (k i q : Nat) : -100000 ≤ clK s l t k i q ∧ clK s l t k i q ≤ 100000 := by
  have h1 := ow_bd (l := l) hs (t := t) (u := t) (by omega) (by omega) i
  have h2 := ow_bd (l := l) hs (t := t) (u := t + 1) (by omega) (by omega) i
  have h3 : 0 ≤ s.getD i 0 ∧ s.getD i 0 ≤ 20 := by
    by_cases hi : i < s.length
    · have := hs.2.2 _ (getD_mem' hi); omega
    · simp [List.getD, List.getElem?_eq_none (Nat.le_of_not_lt hi)]
  unfold clK
  repeat' split
  all_goals omega
theorem ow_step (s l : List Int) (t i : Nat) : ow s l t t i + s.getD i 0 = ow s l t (t + 1) i := by
  unfold ow
  rw [show ((t + 1 : Nat) : Int) = (t : Int) + 1 from rfl, Int.add_mul]; omega
theorem cnt_snoc {l : List Int} {t : Nat} (h : l.length = t) (x : Int) (i : Nat) : cnt (l ++ [x]) (t + 1) i = cnt l t i + if x = (i : Int) then 1 else 0 := by
  have e1 : (l ++ [x]).getD t 0 = x := by subst h; simp [List.getD]
  have e2 : cnt (l ++ [x]) t i = cnt l t i := by unfold cnt; rw [List.take_append_of_le_length (by omega)]
  rw [cnt_succ _ _ (by simp; omega), e1, e2]

theorem msCG {n : Nat} {x : Int} (h : 16 * x ≤ 140737488355328) : (((cx n).T.row 65).bs : Int) * x ≤ 140737488355328 := h
def pkG (s : List Int) : (Nat → Nat → Int) → Int := fun f => pick allO (mostB f) s.length
theorem calledG_pure (s : List Int) (hs : Shs s) (m : Nat) (hm : m ≤ 400) 
    (hP : ∀ t, t < m → 0 ≤ pkG s (clm s (calledL s (pkG s) t) t (t + 1)) ∧ pkG s (clm s (calledL s (pkG s) t) t (t + 1)) < s.length)
    : APure Try.prog 52 [.ints false s, .int m, .clo 50 0 fun _ => .any, .clo 51 0 fun _ => .any] (fun R => R = .ints true (calledL s (pkG s) m)) := by
  have hsb := sumL_bd s hs.2.2
  have h8 := hs.1
  refine APure_of (X := cx 69) (cx_ok 69) rfl (rs := [(.tmp 8, 22)]) Try.func52 (by decide) rfl rfl rfl (by simp [cx]) (by simp [NoFr]) ?_
  intro _
  conv => whnf
  repeat ((first | refine ⟨by omega, ?_⟩ | refine ⟨inr (by omega), ?_⟩ | refine eqn_self ?_ | refine ⟨msCG (by omega), ?_⟩ | refine ⟨ms (by omega), ?_⟩ | refine ⟨ms (by simp only [Src.n]; omega), ?_⟩ | refine ⟨msk (by omega), ?_⟩ | refine ⟨ms1, ?_⟩); conv => whnf)
  refine APure.to (sum_pure s hs) ?_
  conv => whnf
  repeat ((first | refine ⟨by omega, ?_⟩ | refine ⟨inr (by omega), ?_⟩ | refine eqn_self ?_ | refine ⟨ms (by omega), ?_⟩ | refine ⟨ms (by simp only [Src.n]; omega), ?_⟩ | refine ⟨msk (by omega), ?_⟩ | refine ⟨ms1, ?_⟩); conv => whnf)
  refine AW_loopA (X := cx 69) (cx_ok 69) [0, 1, 2, 3, 9, 10, 11, 23, 24, 25] (fun t => Nat.blt t 2) (fun vs M => ∃ t : Nat, t ≤ m ∧ vs = [.ints false s, .int m, .clo 50 0 fun _ => .any, .clo 51 0 fun _ => .any, .sl 0 0 0 s.length, .sl 1 0 0 m, .int (sumL s), .sl 1 0 0 m, .int m, .int t] ∧
      M = [some ⟨65, 2, 0, .ci s.length (clK s (calledL s (pkG s) t) t 0)⟩, some ⟨3, 1, 0, .il (calledL s (pkG s) t ++ List.replicate (m - t) 0)⟩])
    (fun vs _ => m - (vs.getD 9 .any).toInt.toNat) (fun t ht => by rw [Nat.blt_eq]; exact ht) ?_ ?_
  · refine memA0 [some ⟨65, 2, 0, .ci s.length (clK s (calledL s (pkG s) 0) 0 0)⟩, some ⟨3, 1, 0, .il (calledL s (pkG s) 0 ++ List.replicate (m - 0) 0)⟩]
      (show MSub [some ⟨65, 2, 0, .cv s.length fun _ k => constV (([.int .i64 0, .int .i64 0] : List Value).getD k undef)⟩, some ⟨3, 1, 0, .il (List.replicate m 0)⟩] _ from ⟨ObSub.ci fun j k hj hk => ?_, ObSub.refl _, trivial⟩) ⟨0, Nat.zero_le _, rfl, rfl⟩
    have h0 : ow s (calledL s (pkG s) 0) 0 0 j = 0 := by simp [ow, cnt, calledL]
    match k, hk with
    | 0, _ => simp [clK, constV]
    | 1, _ => simp [clK, constV, h0]
  · rintro vs M ⟨t, ht, rfl, rfl⟩
    conv => whnf
    refine br_dec (fun hlt => ?_) (fun hge => ?_)
    · have ht' : t < m := by omega
      conv => whnf
      generalize hl : calledL s (pkG s) t = l
      have hll : l.length = t := by rw [← hl, calledL_len]
      refine AW_loopA (X := cx 69) (cx_ok 69) [0, 1, 2, 3, 9, 10, 11, 12, 23, 24, 25, 28, 29, 30] (fun t => Nat.blt t 2) (fun vs M => ∃ k : Nat, k ≤ s.length ∧ vs = [.ints false s, .int m, .clo 50 0 fun _ => .any, .clo 51 0 fun _ => .any, .sl 0 0 0 s.length, .sl 1 0 0 m, .int (sumL s), .int t, .sl 1 0 0 m, .int m, .int t, .ints false s, .int s.length, .int k] ∧
          M = [some ⟨65, 2, 0, .ci s.length (clK s l t k)⟩, some ⟨3, 1, 0, .il (l ++ List.replicate (m - t) 0)⟩])
        (fun vs _ => s.length - (vs.getD 13 .any).toInt.toNat) (fun t ht => by rw [Nat.blt_eq]; exact ht) ?_ ?_
      · exact same0 ⟨0, Nat.zero_le _, rfl, rfl⟩
      · rintro vs M ⟨k, hk, rfl, rfl⟩
        conv => whnf
        refine br_dec (fun hlt => ?_) (fun hge => ?_)
        · have hk' : k < s.length := by omega
          have hsk : 1 ≤ s.getD (k : Int).toNat 0 ∧ s.getD (k : Int).toNat 0 ≤ 20 := hs.2.2 _ (getD_mem' hk')
          have hv : (if 0 + (k : Int).toNat = 0 + (k : Int).toNat ∧ 0 + 1 = 0 + 0 then s.getD (k : Int).toNat 0 else clK s l t k (0 + (k : Int).toNat) (0 + 1)) = ow s l t t k := by rw [if_neg (by omega)]; simp [clK]
          have hob := ow_bd (l := l) hs (t := t) (u := t) (by omega) (by omega) k
          have hos := ow_step s l t k
          have hvb : -9223372036854775808 ≤ (if 0 + (k : Int).toNat = 0 + (k : Int).toNat ∧ 0 + 1 = 0 + 0 then s.getD (k : Int).toNat 0 else clK s l t k (0 + (k : Int).toNat) (0 + 1)) + s.getD (k : Int).toNat 0 ∧
              (if 0 + (k : Int).toNat = 0 + (k : Int).toNat ∧ 0 + 1 = 0 + 0 then s.getD (k : Int).toNat 0 else clK s l t k (0 + (k : Int).toNat) (0 + 1)) + s.getD (k : Int).toNat 0 ≤ 9223372036854775807 := by rw [hv]; omega
          have hst : ∀ j q, j < s.length → q < 2 → (if j = 0 + (k : Int).toNat ∧ q = 0 + 1 then (if 0 + (k : Int).toNat = 0 + (k : Int).toNat ∧ 0 + 1 = 0 + 0 then s.getD (k : Int).toNat 0 else clK s l t k (0 + (k : Int).toNat) (0 + 1)) + s.getD (k : Int).toNat 0
              else if j = 0 + (k : Int).toNat ∧ q = 0 + 0 then s.getD (k : Int).toNat 0 else clK s l t k j q) = clK s l t (k + 1) j q := by
            intro j q hj hq
            rw [hv, Int.toNat_natCast, Nat.zero_add, hos]
            by_cases hjk : j = k
            · subst hjk
              rcases (by omega : q = 0 ∨ q = 1) with rfl | rfl <;> simp [clK]
            · rw [if_neg (by omega), if_neg (by omega)]
              unfold clK
              have : j < k + 1 ↔ j < k := by omega
              simp only [this]
          conv => whnf
          repeat ((first | refine ⟨by omega, ?_⟩ | refine ⟨inr (by omega), ?_⟩ | refine eqn_self ?_ | refine ⟨inr hvb, ?_⟩ | refine ⟨ms (by omega), ?_⟩ | refine ⟨ms (by simp only [Src.n]; omega), ?_⟩ | refine ⟨msk (by omega), ?_⟩ | refine ⟨ms1, ?_⟩); conv => whnf)
          refine ⟨by repeat (first | exact trivial | exact rfl | exact fun _ => trivial | exact fun _ _ => trivial | exact fun _ _ _ => trivial | exact fun _ _ _ _ => trivial | refine And.intro ?_ ?_), memA1 [some ⟨65, 2, 0, .ci s.length (clK s l t (k + 1))⟩, some ⟨3, 1, 0, .il (l ++ List.replicate (m - t) 0)⟩] ⟨ObSub.cc hst, ObSub.refl _, trivial⟩ ⟨⟨k + 1, by omega, rfl, rfl⟩, ?_⟩⟩
          simp [V.toInt, sel, Env.get]; omega
        · have hk' : k = s.length := by omega
          subst hk'
          have hcl : ∀ j q, j < s.length → q < 2 → clK s l t s.length j q = clm s l t (t + 1) j q := by
            intro j q hj hq
            rcases (by omega : q = 0 ∨ q = 1) with rfl | rfl <;> simp [clK, clm, hj]
          have hr := hP t ht'
          rw [hl] at hr
          have hC := claimG_pure s.length h8 (clm s l t (t + 1)) 
          have hC : APure Try.prog 70 [.seq false 2 s.length fun j k => .int (clm s l t (t + 1) j k), .clo 50 0 fun _ => .any, .clo 51 0 fun _ => .any] (fun R => R = .int (pkG s (clm s l t (t + 1)))) := hC
          have hnext : calledL s (pkG s) (t + 1) = l ++ [pkG s (clm s l t (t + 1))] := by rw [calledL, hl]
          generalize hrr : pkG s (clm s l t (t + 1)) = r at *
          obtain ⟨d, rfl⟩ : ∃ d : Nat, r = d := ⟨r.toNat, by omega⟩
          have hdn : d < s.length := by omega
          have hob := ow_bd (l := l) hs (t := t) (u := t + 1) (by omega) (by omega) d
          have hcd : clK s l t s.length (0 + (d : Int).toNat) (0 + 1) = ow s l t (t + 1) d := by rw [Int.toNat_natCast, Nat.zero_add, hcl d (0 + 1) hdn (by omega)]; rfl
          have hvb : -9223372036854775808 ≤ clK s l t s.length (0 + (d : Int).toNat) (0 + 1) - sumL s ∧ clK s l t s.length (0 + (d : Int).toNat) (0 + 1) - sumL s ≤ 9223372036854775807 := by rw [hcd]; omega
          have hst : ∀ j q, j < s.length → q < 2 → (if j = 0 + (d : Int).toNat ∧ q = 0 + 1 then clK s l t s.length (0 + (d : Int).toNat) (0 + 1) - sumL s else clK s l t s.length j q) = clK s (l ++ [(d : Int)]) (t + 1) 0 j q := by
            intro j q hj hq
            have hc := cnt_snoc hll (d : Int) j
            have ho : ow s (l ++ [(d : Int)]) (t + 1) (t + 1) j = ow s l t (t + 1) j - if (d : Int) = j then sumL s else 0 := by
              unfold ow
              rw [hc, Int.add_mul]
              split <;> omega
            rw [hcd, hcl j q hj hq, Int.toNat_natCast, Nat.zero_add]
            rcases (by omega : q = 0 ∨ q = 1) with rfl | rfl
            · rw [if_neg (by omega)]; simp [clK, clm]
            · have hk0 : clK s (l ++ [(d : Int)]) (t + 1) 0 j 1 = ow s (l ++ [(d : Int)]) (t + 1) (t + 1) j := by simp [clK]
              have hm1 : clm s l t (t + 1) j 1 = ow s l t (t + 1) j := by simp [clm]
              rw [hk0, hm1, ho]
              by_cases hjd : j = d
              · subst hjd
                rw [if_pos ⟨rfl, rfl⟩, if_pos rfl]
              · rw [if_neg (by omega), if_neg (by omega), Int.sub_zero]
          have hset : (l ++ List.replicate (m - t) 0).set (0 + (t : Int).toNat) (d : Int) = (l ++ [(d : Int)]) ++ List.replicate (m - (t + 1)) 0 := by rw [Int.toNat_natCast, Nat.zero_add]; exact set_mid l hll ht' _
          conv => whnf
          refine APure.to (APure.arg3 (sub_seq fun j k hj hk => Sub.of (congrArg V.int (by rw [Nat.zero_add]; exact hcl j k hj hk))) (sub_clo fun i hi => absurd hi (by omega)) (sub_clo fun i hi => absurd hi (by omega)) hC) ?_
          conv => whnf
          repeat ((first | refine ⟨by omega, ?_⟩ | refine ⟨inr (by omega), ?_⟩ | refine eqn_self ?_ | refine ⟨inr hvb, ?_⟩ | refine ⟨ms (by omega), ?_⟩ | refine ⟨ms (by simp only [Src.n]; omega), ?_⟩ | refine ⟨msk (by omega), ?_⟩ | refine ⟨ms1, ?_⟩); conv => whnf)
          refine ⟨by repeat (first | exact trivial | exact rfl | exact fun _ => trivial | exact fun _ _ => trivial | exact fun _ _ _ => trivial | exact fun _ _ _ _ => trivial | refine And.intro ?_ ?_), memA1 [some ⟨65, 2, 0, .ci s.length (clK s (calledL s (pkG s) (t + 1)) (t + 1) 0)⟩, some ⟨3, 1, 0, .il (calledL s (pkG s) (t + 1) ++ List.replicate (m - (t + 1)) 0)⟩]
            ⟨ObSub.cc fun j q hj hq => by rw [hnext]; exact hst j q hj hq, ObSub.ii (by rw [hnext]; exact hset), trivial⟩ ⟨⟨t + 1, by omega, rfl, rfl⟩, ?_⟩⟩
          simp [V.toInt, sel, Env.get]; omega
    · conv => whnf
      have : t = m := by omega
      subst this
      repeat ((first | refine ⟨by omega, ?_⟩ | refine ⟨inr (by omega), ?_⟩ | refine eqn_self ?_ | refine ⟨ms (by omega), ?_⟩ | refine ⟨ms (by simp only [Src.n]; omega), ?_⟩ | refine ⟨msk (by omega), ?_⟩ | refine ⟨ms1, ?_⟩); conv => whnf)
      refine ⟨rfl, Ql ?_⟩
      simp [take_len, calledL_len]
end Go.Tri
