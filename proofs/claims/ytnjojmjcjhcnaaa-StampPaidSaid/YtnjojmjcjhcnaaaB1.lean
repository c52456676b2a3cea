/-
  CONTRACTS: same, the checks of places and values, the greatest of a list; the reference's checks.
-/
import Derived.Test.YtnjojmjcjhcnaaaE1
import Derived.Test.YtnjojmjcjhcnaaaA29
namespace Go.Tri
open Go.Proofs

theorem ms {n : Nat} {x : Int} (h : 8 * x ≤ 140737488355328) : (((cx n).T.row 3).bs : Int) * x ≤ 140737488355328 := h
theorem ms1 {n : Nat} : (((cx n).T.row 3).bs : Int) * ((1 : Nat) : Int) ≤ 140737488355328 := show (8 : Int) * 1 ≤ _ by decide
theorem msk {n k : Nat} (h : 8 * ((k : Int) + 1) ≤ 140737488355328) : (((cx n).T.row 3).bs : Int) * ((k : Int) + ((1 : Nat) : Int)) ≤ 140737488355328 := h
theorem eqn_self {x : Nat} {K : Prop} (h : K) : (eqnO x x).req K := (Obl.req_iff _ _).2 ⟨eqnO_holds.2 rfl, h⟩
theorem Qb {b c : Bool} (h : b = c) : V.bool b = V.bool c := by rw [h]
theorem Qi {b c : Int} (h : b = c) : V.int b = V.int c := by rw [h]
theorem Ql {b : Bool} {c d : List Int} (h : c = d) : V.ints b c = V.ints b d := by rw [h]
@[reducible] def tup2 (a b : V) : V := .tup 2 fun k => match k with | 0 => a | _ => b
theorem Q2 {a b a' b' : V} (h : a = a') (h' : b = b') : tup2 a b = tup2 a' b' := by rw [h, h']
theorem take_succ_getD (l : List Int) (k : Nat) (h : k < l.length) : l.take (k + 1) = l.take k ++ [l.getD k 0] := by
  rw [List.take_add_one]; simp [List.getD, h]
theorem take_len {l : List Int} {k : Nat} (h : l.length ≤ k) : l.take k = l := List.take_of_length_le h
theorem getD_mem' {l : List Int} {k : Nat} (h : k < l.length) : l.getD k 0 ∈ l := by simp [List.getD, h]
theorem LenI {l : List Int} (h : ∀ x ∈ [V.ints false l], LenOk x) : (l.length : Int) ≤ 9223372036854775807 := h (.ints false l) (by simp)

theorem same_pure (a b : List Int) : APure Try.prog 19 [.ints false a, .ints false b] (fun R => R = .bool (decide (a = b))) := by
  refine APure_of (X := cx 26) (cx_ok 26) rfl (rs := [(.tmp 4, 4)]) Try.func19 (by decide) rfl rfl rfl (by simp [cx]) (by simp [NoFr]) ?_
  intro hlen
  have hla : (a.length : Int) ≤ 9223372036854775807 := hlen (.ints false a) (by simp)
  conv => whnf
  refine br_ne (fun h => ?_) (fun h => ?_)
  · conv => whnf
    refine ⟨trivial, Qb ?_⟩
    have : ¬ a = b := fun e => h (by rw [e])
    simp [this]
  · conv => whnf
    have hab : a.length = b.length := by omega
    refine AW_loop (X := cx 26) (cx_ok 26) [0, 1, 5] (fun vs M => ∃ k : Nat, k ≤ a.length ∧ a.take k = b.take k ∧ vs = [.ints false a, .ints false b, .int k] ∧ M = []) (fun vs _ => a.length - (vs.getD 2 .any).toInt.toNat) ?_ ?_
    · exact ⟨0, Nat.zero_le _, rfl, rfl, rfl⟩
    · rintro vs M ⟨k, hk, hkab, rfl, rfl⟩
      conv => whnf
      refine br_dec (fun hlt => ?_) (fun hge => ?_)
      · have hk' : k < a.length := by omega
        conv => whnf
        refine AW_draw (X := cx 26) (cx_ok 26) mixed (by kernel_rfl) ?_
        conv => whnf
        repeat ((first | refine ⟨by omega, ?_⟩ | refine ⟨inr (by omega), ?_⟩ | refine eqn_self ?_ | refine ⟨ms (by omega), ?_⟩ | refine ⟨ms (by simp only [Src.n]; omega), ?_⟩ | refine ⟨msk (by omega), ?_⟩ | refine ⟨ms1, ?_⟩); conv => whnf)
        refine br_ne (fun h => ?_) (fun h => ?_)
        · conv => whnf
          refine ⟨trivial, Qb ?_⟩
          have : ¬ a = b := fun e => h (by rw [e])
          simp [this]
        · conv => whnf
          repeat ((first | refine ⟨by omega, ?_⟩ | refine ⟨inr (by omega), ?_⟩ | refine eqn_self ?_ | refine ⟨ms (by omega), ?_⟩ | refine ⟨ms (by simp only [Src.n]; omega), ?_⟩ | refine ⟨msk (by omega), ?_⟩ | refine ⟨ms1, ?_⟩); conv => whnf)
          refine ⟨⟨k + 1, by omega, ?_, rfl, rfl⟩, ?_⟩
          · rw [take_succ_getD _ _ hk', take_succ_getD _ _ (by omega), hkab]
            simp only [Int.toNat_natCast] at h
            rw [h]
          · simp [V.toInt, sel, Env.get]; omega
      · conv => whnf
        refine ⟨trivial, Qb ?_⟩
        rw [take_len (by omega), take_len (by omega)] at hkab
        simp [hkab]

/-- The first k values are from 1 to 200, and strictly ascending. -/
def Asc (v : List Int) (k : Nat) : Prop := ∀ j, j < k → 1 ≤ v.getD j 0 ∧ v.getD j 0 ≤ 200 ∧ (0 < j → v.getD (j - 1) 0 < v.getD j 0)
/-- Values that are right. -/
def Vals (v : List Int) : Prop := 1 ≤ v.length ∧ v.length ≤ 6 ∧ Asc v v.length
open Classical in
noncomputable def valsE (v : List Int) : Int := if v.length > 6 then 3 else if Vals v then 0 else 2
theorem valsE_bad {v : List Int} (h : ¬ v.length > 6) (h2 : ¬ Vals v) : valsE v = 2 := by unfold valsE; rw [if_neg h, if_neg h2]
theorem valsE_ok {v : List Int} (h2 : Vals v) : valsE v = 0 := by unfold valsE; rw [if_neg (by have := h2.2.1; omega), if_pos h2]
theorem valsE_inv {v : List Int} (h : valsE v = 0) : Vals v := by
  unfold valsE at h
  split at h
  · omega
  · split at h
    · assumption
    · omega
theorem Asc.succ {v : List Int} {k : Nat} (h : Asc v k) (h1 : 1 ≤ v.getD k 0) (h2 : v.getD k 0 ≤ 200) (h3 : 0 < k → v.getD (k - 1) 0 < v.getD k 0) : Asc v (k + 1) := by
  intro j hj
  rcases (by omega : j < k ∨ j = k) with h4 | rfl
  · exact h j h4
  · exact ⟨h1, h2, h3⟩

theorem checkPlaces_pure (h : Int) : APure Try.prog 65 [.int h] (fun R => R = .int (if 1 ≤ h ∧ h ≤ 6 then 0 else 2)) := by
  refine APure_of (X := cx 9) (cx_ok 9) rfl (rs := [(.tmp 2, 24)]) Try.func65 (by decide) rfl rfl rfl (by simp [cx]) (by simp [NoFr]) ?_
  intro _
  conv => whnf
  refine br_dec (fun h1 => ?_) (fun h1 => ?_)
  · conv => whnf
    exact ⟨trivial, Qi (by rw [if_neg (by omega)])⟩
  · conv => whnf
    refine br_dec (fun h2 => ?_) (fun h2 => ?_)
    · conv => whnf
      exact ⟨trivial, Qi (by rw [if_neg (by omega)])⟩
    · conv => whnf
      exact ⟨trivial, Qi (by rw [if_pos (by omega)])⟩

theorem checkValues_pure (v : List Int) : APure Try.prog 60 [.ints false v] (fun R => R = .int (valsE v)) := by
  refine APure_of (X := cx 27) (cx_ok 27) rfl (rs := [(.tmp 2, 24)]) Try.func60 (by decide) rfl rfl rfl (by simp [cx]) (by simp [NoFr]) ?_
  intro hlen
  have hla := LenI hlen
  conv => whnf
  refine br_dec (fun h => ?_) (fun h => ?_)
  · conv => whnf
    exact ⟨trivial, Qi (by unfold valsE; rw [if_pos (by omega)])⟩
  have h6 : ¬ v.length > 6 := by omega
  conv => whnf
  refine br_eq (fun h0 => ?_) (fun h0 => ?_)
  · conv => whnf
    exact ⟨trivial, Qi (valsE_bad h6 fun hv => by have := hv.1; omega).symm⟩
  conv => whnf
  refine AW_loop (X := cx 27) (cx_ok 27) [3, 12, 13, 14] (fun vs M => ∃ k : Nat, k ≤ v.length ∧ Asc v k ∧ vs = [.int (if k = 0 then 0 else v.getD (k - 1) 0), .ints false v, .int v.length, .int k] ∧ M = []) (fun vs _ => v.length - (vs.getD 3 .any).toInt.toNat) ?_ ?_
  · exact ⟨0, Nat.zero_le _, fun j hj => absurd hj (by omega), rfl, rfl⟩
  rintro vs M ⟨k, hk, hasc, rfl, rfl⟩
  generalize hl : (if k = 0 then 0 else v.getD (k - 1) 0) = last
  conv => whnf
  refine br_dec (fun hlt => ?_) (fun hge => ?_)
  · have hk' : k < v.length := by omega
    conv => whnf
    repeat ((first | refine ⟨by omega, ?_⟩ | refine ⟨inr (by omega), ?_⟩ | refine eqn_self ?_ | refine ⟨ms (by omega), ?_⟩ | refine ⟨ms (by simp only [Src.n]; omega), ?_⟩ | refine ⟨msk (by omega), ?_⟩ | refine ⟨ms1, ?_⟩); conv => whnf)
    refine br_dec (fun h1 => ?_) (fun h1 => ?_)
    · conv => whnf
      refine ⟨trivial, Qi (valsE_bad h6 fun hv => ?_).symm⟩
      have := hv.2.2 k hk'
      simp only [Int.toNat_natCast] at h1
      rw [← hl] at h1
      split at h1
      · omega
      · have := this.2.2 (by omega); omega
    · conv => whnf
      refine br_dec (fun h2 => ?_) (fun h2 => ?_)
      · conv => whnf
        refine ⟨trivial, Qi (valsE_bad h6 fun hv => ?_).symm⟩
        have := hv.2.2 k hk'
        simp only [Int.toNat_natCast] at h2
        omega
      · conv => whnf
        repeat ((first | refine ⟨by omega, ?_⟩ | refine ⟨inr (by omega), ?_⟩ | refine eqn_self ?_ | refine ⟨ms (by omega), ?_⟩ | refine ⟨ms (by simp only [Src.n]; omega), ?_⟩ | refine ⟨msk (by omega), ?_⟩ | refine ⟨ms1, ?_⟩); conv => whnf)
        simp only [Int.toNat_natCast] at h1 h2
        refine ⟨⟨k + 1, by omega, hasc.succ ?_ (by omega) (fun hk0 => ?_), ?_, rfl⟩, ?_⟩
        · rw [← hl] at h1
          split at h1
          · omega
          · have := hasc (k - 1) (by omega); omega
        · rw [← hl, if_neg (by omega)] at h1; omega
        · rw [if_neg (by omega)]; rfl
        · simp [V.toInt, sel, Env.get]; omega
  · conv => whnf
    refine ⟨trivial, Qi (valsE_ok ⟨by omega, by omega, ?_⟩).symm⟩
    rw [show v.length = k from by omega]; exact hasc

/-- The error of a ticket. -/
noncomputable def tickE (h : Int) (v : List Int) : Int := if 1 ≤ h ∧ h ≤ 6 then valsE v else 2
theorem tickE_inv {h : Int} {v : List Int} (e : tickE h v = 0) : (1 ≤ h ∧ h ≤ 6) ∧ Vals v := by
  unfold tickE at e
  split at e
  · next hp => exact ⟨hp, valsE_inv e⟩
  · omega

theorem checkTicket_pure (h : Int) (v : List Int) : APure Try.prog 45 [.int h, .ints false v] (fun R => R = .int (tickE h v)) := by
  refine APure_of (X := cx 13) (cx_ok 13) rfl (rs := [(.tmp 4, 24)]) Try.func45 (by decide) rfl rfl rfl (by simp [cx]) (by simp [NoFr]) ?_
  intro _
  conv => whnf
  refine APure.to (checkPlaces_pure h) ?_
  conv => whnf
  by_cases hp : 1 ≤ h ∧ h ≤ 6
  · rw [if_pos hp]
    refine APure.to (checkValues_pure v) ?_
    conv => whnf
    exact ⟨trivial, Qi (by unfold tickE; rw [if_pos hp])⟩
  · rw [if_neg hp]
    conv => whnf
    exact ⟨trivial, Qi (by unfold tickE; rw [if_neg hp])⟩

/-- The greatest of a list from 1 on. -/
def greatest (v : List Int) : Int := v.foldl maxI 0
theorem Max_pure (v : List Int) (hv : 1 ≤ v.length) : APure Try.prog 47 [.ints false v] (fun R => R = .int ((v.drop 1).foldl maxI (v.getD 0 0))) := by
  refine APure_of (X := cx 25) (cx_ok 25) rfl (rs := [(.tmp 2, 3)]) Try.func47 (by decide) rfl rfl rfl (by simp [cx]) (by simp [NoFr]) ?_
  intro hlen
  have hla := LenI hlen
  conv => whnf
  refine br_dec (fun h => by omega) (fun h => ?_)
  conv => whnf
  repeat ((first | refine ⟨by omega, ?_⟩ | refine ⟨inr (by omega), ?_⟩ | refine eqn_self ?_ | refine ⟨ms (by omega), ?_⟩ | refine ⟨ms (by simp only [Src.n]; omega), ?_⟩ | refine ⟨msk (by omega), ?_⟩ | refine ⟨ms1, ?_⟩); conv => whnf)
  refine AW_loop (X := cx 25) (cx_ok 25) [0, 3, 4] (fun vs M => ∃ k : Nat, 1 ≤ k ∧ k ≤ v.length ∧ vs = [.ints false v, .int (((v.take k).drop 1).foldl maxI (v.getD 0 0)), .int k] ∧ M = []) (fun vs _ => v.length - (vs.getD 2 .any).toInt.toNat) ?_ ?_
  · refine ⟨1, Nat.le_refl _, hv, ?_, rfl⟩
    rw [show ((v.take 1).drop 1) = [] from by simp]
    rfl
  rintro vs M ⟨k, hk0, hk, rfl, rfl⟩
  conv => whnf
  refine br_dec (fun hlt => ?_) (fun hge => ?_)
  · have hk' : k < v.length := by omega
    conv => whnf
    repeat ((first | refine ⟨by omega, ?_⟩ | refine ⟨inr (by omega), ?_⟩ | refine eqn_self ?_ | refine ⟨ms (by omega), ?_⟩ | refine ⟨ms (by simp only [Src.n]; omega), ?_⟩ | refine ⟨msk (by omega), ?_⟩ | refine ⟨ms1, ?_⟩); conv => whnf)
    refine ⟨⟨k + 1, by omega, by omega, ?_, rfl⟩, ?_⟩
    · rw [take_succ_getD _ _ hk', List.drop_append_of_le_length (by rw [List.length_take]; omega), List.foldl_append]
      rfl
    · simp [V.toInt, sel, Env.get]; omega
  · conv => whnf
    refine ⟨trivial, Qi ?_⟩
    rw [take_len (by omega)]
end Go.Tri
