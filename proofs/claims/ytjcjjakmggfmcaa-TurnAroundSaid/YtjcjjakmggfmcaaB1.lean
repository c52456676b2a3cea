/-
  CONTRACTS: few, same, areDrivers, Days.
-/
import Derived.Test.YtjcjjakmggfmcaaS
namespace Go.Tri
open Go.Proofs

theorem ms {n : Nat} {x : Int} (h : 8 * x ≤ 140737488355328) : (((cx n).T.row 3).bs : Int) * x ≤ 140737488355328 := h
theorem ms1 {n : Nat} : (((cx n).T.row 3).bs : Int) * ((1 : Nat) : Int) ≤ 140737488355328 := show (8 : Int) * 1 ≤ _ by decide
theorem msk {n k : Nat} (h : 8 * ((k : Int) + 1) ≤ 140737488355328) : (((cx n).T.row 3).bs : Int) * ((k : Int) + ((1 : Nat) : Int)) ≤ 140737488355328 := h
theorem eqn_self {x : Nat} {K : Prop} (h : K) : (eqnO x x).req K := (Obl.req_iff _ _).2 ⟨eqnO_holds.2 rfl, h⟩
theorem Qb {b c : Bool} (h : b = c) : V.bool b = V.bool c := by rw [h]
theorem Qi {b c : Int} (h : b = c) : V.int b = V.int c := by rw [h]
theorem take_succ_getD (l : List Int) (k : Nat) (h : k < l.length) : l.take (k + 1) = l.take k ++ [l.getD k 0] := by
  rw [List.take_add_one]; simp [List.getD, h]
theorem take_len {l : List Int} {k : Nat} (h : l.length ≤ k) : l.take k = l := List.take_of_length_le h
theorem getD_mem' {l : List Int} {k : Nat} (h : k < l.length) : l.getD k 0 ∈ l := by simp [List.getD, h]

theorem few_pure (s l : List Int) : APure Try.prog 16 [.ints false s, .ints false l] (fun R => R = .bool (decide (s.length ≤ 30) && decide (l.length ≤ 500))) := by
  refine APure_of (X := cx 13) (cx_ok 13) rfl (rs := [(.tmp 4, 4)]) Try.func16 (by decide) rfl rfl rfl (by simp [cx]) (by simp [NoFr]) ?_
  intro _
  conv => whnf
  refine br_dec (fun h => ?_) (fun h => ?_)
  · conv => whnf
    refine ⟨trivial, Qb ?_⟩
    have h : s.length ≤ 30 := by omega
    have e : decide ((l.length : Int) ≤ 500) = decide (l.length ≤ 500) := by congr 1; exact propext (by omega)
    simp [h, e]
  · conv => whnf
    refine ⟨trivial, Qb ?_⟩
    have h : ¬ s.length ≤ 30 := by omega
    simp [h]

theorem same_pure (a b : List Int) : APure Try.prog 22 [.ints false a, .ints false b] (fun R => R = .bool (decide (a = b))) := by
  refine APure_of (X := cx 26) (cx_ok 26) rfl (rs := [(.tmp 4, 4)]) Try.func22 (by decide) rfl rfl rfl (by simp [cx]) (by simp [NoFr]) ?_
  intro hlen
  have hla : (a.length : Int) ≤ 9223372036854775807 := hlen (.ints false a) (by simp)
  conv => whnf
  refine br_ne (fun h => ?_) (fun h => ?_)
  · conv => whnf
    refine ⟨trivial, Qb ?_⟩
    have : ¬ a = b := fun e => h (by rw [e])
    simp [this]
  · conv => whnf
    have hab : a.length = b.length := by omega
    refine AW_loop (X := cx 26) (cx_ok 26) [0, 1, 5] (fun vs M => ∃ k : Nat, k ≤ a.length ∧ a.take k = b.take k ∧ vs = [.ints false a, .ints false b, .int k] ∧ M = []) (fun vs _ => a.length - (vs.getD 2 .any).toInt.toNat) ?_ ?_
    · exact ⟨0, Nat.zero_le _, rfl, rfl, rfl⟩
    · rintro vs M ⟨k, hk, hkab, rfl, rfl⟩
      conv => whnf
      refine br_dec (fun hlt => ?_) (fun hge => ?_)
      · have hk' : k < a.length := by omega
        conv => whnf
        refine AW_draw (X := cx 26) (cx_ok 26) mixed (by kernel_rfl) ?_
        conv => whnf
        repeat ((first | refine ⟨by omega, ?_⟩ | refine ⟨inr (by omega), ?_⟩ | refine eqn_self ?_ | refine ⟨ms (by omega), ?_⟩ | refine ⟨ms (by simp only [Src.n]; omega), ?_⟩ | refine ⟨msk (by omega), ?_⟩ | refine ⟨ms1, ?_⟩); conv => whnf)
        refine br_ne (fun h => ?_) (fun h => ?_)
        · conv => whnf
          refine ⟨trivial, Qb ?_⟩
          have : ¬ a = b := fun e => h (by rw [e])
          simp [this]
        · conv => whnf
          repeat ((first | refine ⟨by omega, ?_⟩ | refine ⟨inr (by omega), ?_⟩ | refine eqn_self ?_ | refine ⟨ms (by omega), ?_⟩ | refine ⟨ms (by simp only [Src.n]; omega), ?_⟩ | refine ⟨msk (by omega), ?_⟩ | refine ⟨ms1, ?_⟩); conv => whnf)
          refine ⟨⟨k + 1, by omega, ?_, rfl, rfl⟩, ?_⟩
          · rw [take_succ_getD _ _ hk', take_succ_getD _ _ (by omega), hkab]
            simp only [Int.toNat_natCast] at h
            rw [h]
          · simp [V.toInt, sel, Env.get]; omega
      · conv => whnf
        refine ⟨trivial, Qb ?_⟩
        rw [take_len (by omega), take_len (by omega)] at hkab
        simp [hkab]

theorem areDrivers_pure (l : List Int) (n : Int) : APure Try.prog 67 [.ints false l, .int n] (fun R => R = .bool (l.all fun x => decide (0 ≤ x) && decide (x < n))) := by
  refine APure_of (X := cx 21) (cx_ok 21) rfl (rs := [(.tmp 4, 4)]) Try.func67 (by decide) rfl rfl rfl (by simp [cx]) (by simp [NoFr]) ?_
  intro hlen
  have hla : (l.length : Int) ≤ 9223372036854775807 := hlen (.ints false l) (by simp)
  conv => whnf
  refine AW_loop (X := cx 21) (cx_ok 21) [1, 7, 8, 9] (fun vs M => ∃ k : Nat, k ≤ l.length ∧ (∀ x ∈ l.take k, 0 ≤ x ∧ x < n) ∧ vs = [.int n, .ints false l, .int l.length, .int k] ∧ M = []) (fun vs _ => l.length - (vs.getD 3 .any).toInt.toNat) ?_ ?_
  · exact ⟨0, Nat.zero_le _, by simp, rfl, rfl⟩
  · rintro vs M ⟨k, hk, hkab, rfl, rfl⟩
    conv => whnf
    refine br_dec (fun hlt => ?_) (fun hge => ?_)
    · have hk' : k < l.length := by omega
      have hkm := getD_mem' hk'
      conv => whnf
      repeat ((first | refine ⟨by omega, ?_⟩ | refine ⟨inr (by omega), ?_⟩ | refine eqn_self ?_ | refine ⟨ms (by omega), ?_⟩ | refine ⟨ms (by simp only [Src.n]; omega), ?_⟩ | refine ⟨msk (by omega), ?_⟩ | refine ⟨ms1, ?_⟩); conv => whnf)
      refine br_dec (fun h => ?_) (fun h => ?_)
      · conv => whnf
        refine ⟨trivial, Qb ?_⟩
        symm
        simp only [Int.toNat_natCast] at h
        rw [List.all_eq_false]
        exact ⟨_, hkm, by simp [-List.getD_eq_getElem?_getD]; omega⟩
      · conv => whnf
        refine br_dec (fun h2 => ?_) (fun h2 => ?_)
        · conv => whnf
          refine ⟨trivial, Qb ?_⟩
          symm
          simp only [Int.toNat_natCast] at h h2
          rw [List.all_eq_false]
          exact ⟨_, hkm, by simp [-List.getD_eq_getElem?_getD]; omega⟩
        · conv => whnf
          repeat ((first | refine ⟨by omega, ?_⟩ | refine ⟨inr (by omega), ?_⟩ | refine eqn_self ?_ | refine ⟨ms (by omega), ?_⟩ | refine ⟨ms (by simp only [Src.n]; omega), ?_⟩ | refine ⟨msk (by omega), ?_⟩ | refine ⟨ms1, ?_⟩); conv => whnf)
          refine ⟨⟨k + 1, by omega, ?_, rfl, rfl⟩, ?_⟩
          · simp only [Int.toNat_natCast] at h h2
            rw [take_succ_getD _ _ hk']
            intro x hx
            rcases List.mem_append.1 hx with hx | hx
            · exact hkab x hx
            · rw [List.mem_singleton.1 hx]; omega
          · simp [V.toInt, sel, Env.get]; omega
    · conv => whnf
      refine ⟨trivial, Qb ?_⟩
      symm
      rw [take_len (by omega)] at hkab
      rw [List.all_eq_true]
      intro x hx
      have := hkab x hx
      simp; omega

/-- Days, with a number of drivers. -/
def daysE (l : List Int) (n : Int) : Int := if l.length > 400 then 3 else if l.all fun x => decide (0 ≤ x) && decide (x < n) then 0 else 2

theorem Days_pure (l : List Int) (n : Int) : APure Try.prog 41 [.ints false l, .int n] (fun R => R = .int (daysE l n)) := by
  refine APure_of (X := cx 28) (cx_ok 28) rfl (rs := [(.tmp 4, 27)]) Try.func41 (by decide) rfl rfl rfl (by simp [cx]) (by simp [NoFr]) ?_
  intro hlen
  have hla : (l.length : Int) ≤ 9223372036854775807 := hlen (.ints false l) (by simp)
  conv => whnf
  refine br_dec (fun h => ?_) (fun h => ?_)
  · conv => whnf
    refine ⟨trivial, Qi ?_⟩
    unfold daysE
    rw [if_pos (by omega)]
  · conv => whnf
    have h4 : ¬ l.length > 400 := by omega
    refine AW_loop (X := cx 28) (cx_ok 28) [0, 1, 5] (fun vs M => ∃ k : Nat, k ≤ l.length ∧ (∀ x ∈ l.take k, 0 ≤ x ∧ x < n) ∧ vs = [.ints false l, .int n, .int k] ∧ M = []) (fun vs _ => l.length - (vs.getD 2 .any).toInt.toNat) ?_ ?_
    · exact ⟨0, Nat.zero_le _, by simp, rfl, rfl⟩
    · rintro vs M ⟨k, hk, hkab, rfl, rfl⟩
      conv => whnf
      refine br_dec (fun hlt => ?_) (fun hge => ?_)
      · have hk' : k < l.length := by omega
        have hkm := getD_mem' hk'
        conv => whnf
        repeat ((first | refine ⟨by omega, ?_⟩ | refine ⟨inr (by omega), ?_⟩ | refine eqn_self ?_ | refine ⟨ms (by omega), ?_⟩ | refine ⟨ms (by simp only [Src.n]; omega), ?_⟩ | refine ⟨msk (by omega), ?_⟩ | refine ⟨ms1, ?_⟩); conv => whnf)
        refine br_dec (fun h => ?_) (fun h => ?_)
        · conv => whnf
          refine ⟨trivial, Qi ?_⟩
          simp only [Int.toNat_natCast] at h
          unfold daysE
          rw [if_neg h4, if_neg]
          rw [Bool.not_eq_true, List.all_eq_false]
          exact ⟨_, hkm, by simp [-List.getD_eq_getElem?_getD]; omega⟩
        · conv => whnf
          repeat ((first | refine ⟨by omega, ?_⟩ | refine ⟨inr (by omega), ?_⟩ | refine eqn_self ?_ | refine ⟨ms (by omega), ?_⟩ | refine ⟨ms (by simp only [Src.n]; omega), ?_⟩ | refine ⟨msk (by omega), ?_⟩ | refine ⟨ms1, ?_⟩); conv => whnf)
          refine br_dec (fun h2 => ?_) (fun h2 => ?_)
          · conv => whnf
            refine ⟨trivial, Qi ?_⟩
            simp only [Int.toNat_natCast] at h h2
            unfold daysE
            rw [if_neg h4, if_neg]
            rw [Bool.not_eq_true, List.all_eq_false]
            exact ⟨_, hkm, by simp [-List.getD_eq_getElem?_getD]; omega⟩
          · conv => whnf
            repeat ((first | refine ⟨by omega, ?_⟩ | refine ⟨inr (by omega), ?_⟩ | refine eqn_self ?_ | refine ⟨ms (by omega), ?_⟩ | refine ⟨ms (by simp only [Src.n]; omega), ?_⟩ | refine ⟨msk (by omega), ?_⟩ | refine ⟨ms1, ?_⟩); conv => whnf)
            refine ⟨⟨k + 1, by omega, ?_, rfl, rfl⟩, ?_⟩
            · simp only [Int.toNat_natCast] at h h2
              rw [take_succ_getD _ _ hk']
              intro x hx
              rcases List.mem_append.1 hx with hx | hx
              · exact hkab x hx
              · rw [List.mem_singleton.1 hx]; omega
            · simp [V.toInt, sel, Env.get]; omega
      · conv => whnf
        refine ⟨trivial, Qi ?_⟩
        rw [take_len (by omega)] at hkab
        unfold daysE
        rw [if_neg h4, if_pos]
        rw [List.all_eq_true]
        intro x hx
        have := hkab x hx
        simp; omega

end Go.Tri
