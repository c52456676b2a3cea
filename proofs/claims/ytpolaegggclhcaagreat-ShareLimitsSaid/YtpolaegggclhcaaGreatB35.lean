/-
 CONTRACTS: rents and limits, the program's.
-/
import Derived.Test.YtpolaegggclhcaaGreatB34
import Derived.Test.YtpolaegggclhcaaGreatM15
namespace Go.Tri
open Go.Proofs

theorem dearer2_pure {n : Nat} {W : Nat → List Int} (hW : Wis n W) : APure Tryz.prog 26 [tabV n W] (fun R => R = drW true n W) :=
 APure_sub (dearer_pure hW) (sub_seq fun j k hj hk => Sub.of (by
  show drF n (drr n W) j k = _
  unfold drF rwN
  rw [if_pos (by have := hW.2.1; omega), if_pos hj])) ⟨rfl, fun _ _ _ _ => rfl⟩
theorem sumL_bd2 {l : List Int} {c : Int} (hb : bet (-c) c l l.length) : ∀ k : Nat, k ≤ l.length → -(c * k) ≤ sumL l k ∧ sumL l k ≤ c * k
 | 0, _ => by simp [sumL]
 | k + 1, h => by
  have h1 := sumL_bd2 hb k (by omega)
  have h2 := hb k (by omega)
  have h3 : c * ((k + 1 : Nat) : Int) = c * k + c := by rw [Int.natCast_add, Int.mul_add]; simp
  simp only [sumL]
  omega
theorem sum2_pure (l : List Int) (c : Int) (hl : l.length ≤ 100) (hc : 0 ≤ c ∧ c ≤ 100000000000) (hb : bet (-c) c l l.length) : APure Tryz.prog 40 [.ints false l] (fun R => R = .int (sumL l l.length)) := by
 refine APure_of (X := cx 17) (cx_ok 17) rfl (rs := [(.tmp 2, 3)]) Tryz.func40 (by decide) rfl rfl rfl (by simp [cx]) (by simp [NoFr]) ?_
 intro hlen
 ((conv=>whnf);repeat (refine Wa ?_;(repeat (first|refine Wb ?_|refine Wc ?_|refine Wd ?_|refine We ?_|refine Wf ?_));(conv=>whnf)))
 refine AW_loop (X := cx 17) (cx_ok 17) [3, 6, 7, 8] (fun vs M => ∃ k : Nat, k ≤ l.length ∧ vs = [.int (sumL l k), .ints false l, .int l.length, .int k] ∧ M = []) (fun vs _ => l.length - (vs.getD 3 .any).toInt.toNat) ?_ ?_
 ·exact ⟨0, Nat.zero_le _, rfl, rfl⟩
 rintro vs M ⟨k, hk, rfl, rfl⟩
 have s1 := sumL_bd2 hb k hk
 ((conv=>whnf);repeat (refine Wa ?_;(repeat (first|refine Wb ?_|refine Wc ?_|refine Wd ?_|refine We ?_|refine Wf ?_));(conv=>whnf)))
 refine br_dec (fun hlt => ?_) (fun hge => ?_)
 ·have hk' : k < l.length := by omega
  have s2 := hb k hk'
  have s3 : c * (k : Int) ≤ 100000000000 * 100 := Int.le_trans (Int.mul_le_mul_of_nonneg_right hc.2 (by omega)) (by omega)
  ((conv=>whnf);repeat (refine Wa ?_;(repeat (first|refine Wb ?_|refine Wc ?_|refine Wd ?_|refine We ?_|refine Wf ?_));(conv=>whnf)))
  refine ⟨by omega, ?_⟩
  ((conv=>whnf);repeat (refine Wa ?_;(repeat (first|refine Wb ?_|refine Wc ?_|refine Wd ?_|refine We ?_|refine Wf ?_));(conv=>whnf)))
  refine ⟨by omega, ?_⟩
  ((conv=>whnf);repeat (refine Wa ?_;(repeat (first|refine Wb ?_|refine Wc ?_|refine Wd ?_|refine We ?_|refine Wf ?_));(conv=>whnf)))
  refine ⟨inr (show -9223372036854775808 ≤ sumL l k + l.getD k 0 ∧ sumL l k + l.getD k 0 ≤ 9223372036854775807 by omega), ?_⟩
  ((conv=>whnf);repeat (refine Wa ?_;(repeat (first|refine Wb ?_|refine Wc ?_|refine Wd ?_|refine We ?_|refine Wf ?_));(conv=>whnf)))
  refine ⟨inr (by omega), ?_⟩
  ((conv=>whnf);repeat (refine Wa ?_;(repeat (first|refine Wb ?_|refine Wc ?_|refine Wd ?_|refine We ?_|refine Wf ?_));(conv=>whnf)))
  refine ⟨⟨k + 1, by omega, rfl, rfl⟩, ?_⟩
  simp [V.toInt, sel, Env.get]; omega
 ·obtain rfl : k = l.length := by omega
  ((conv=>whnf);repeat (refine Wa ?_;(repeat (first|refine Wb ?_|refine Wc ?_|refine Wd ?_|refine We ?_|refine Wf ?_));(conv=>whnf)))
  exact ⟨trivial, rfl⟩
theorem rent_pure {n : Nat} {W : Nat → List Int} (hW : Wis n W) : APure Tryz.prog 41 [tabV n W] (fun R => R = .int (sumL (W 0) n)) := by
 refine APure_of (X := cx 7) (cx_ok 7) rfl (rs := [(.tmp 2, 3)]) Tryz.func41 (by decide) rfl rfl rfl (by simp [cx]) (nofr1 nofrT) ?_
 intro hlen
 have h1 := hW.1
 have h5 := hW.2.1
 have h0 := hW.2.2 0 h1
 have c3 := sum_pure (W 0) 1000 (by omega) (by omega) (by rw [h0.1]; exact h0.2.1)
 rw [h0.1] at c3
 ((conv=>whnf);repeat (refine Wa ?_;(repeat (first|refine Wb ?_|refine Wc ?_|refine Wd ?_|refine We ?_|refine Wf ?_));(conv=>whnf)))
 refine ⟨Int.le_refl _, ?_⟩
 refine ⟨(show (0 : Int) < (n : Int) by omega), ?_⟩
 ((conv=>whnf);repeat (refine Wa ?_;(repeat (first|refine Wb ?_|refine Wc ?_|refine Wd ?_|refine We ?_|refine Wf ?_));(conv=>whnf)))
 refine APure.to c3 ?_
 ((conv=>whnf);repeat (refine Wa ?_;(repeat (first|refine Wb ?_|refine Wc ?_|refine Wd ?_|refine We ?_|refine Wf ?_));(conv=>whnf)))
 exact ⟨trivial, rfl⟩
/-- The sum of a row of the table. -/
noncomputable def roS (n : Nat) (W : Nat → List Int) (k : Nat) : Int := sumL (lsN n (drr n W k)) n
noncomputable def rnN (n : Nat) (W : Nat → List Int) (k : Nat) : List Int := lsN n fun l => sumL (W 0) n - roS n W k + n * drr n W k l
set_option maxRecDepth 100000 in
theorem fr2' {F : Nat → V} (h0 : Fr (F 0)) (h1 : Fr (F 1)) : Fr (.agg 2 F) := fun q hq => by
 rcases (by omega : q = 0 ∨ q = 1) with rfl | rfl
 ·exact h0
 ·exact h1
theorem drr_bd {n : Nat} {W : Nat → List Int} (hW : Wis n W) {a b : Nat} (ha : a < n) (hb : b < n) : -1000 ≤ drr n W a b ∧ drr n W a b ≤ 1000 := (drr_base n W).bd hW ha hb
theorem row_bet {n : Nat} {W : Nat → List Int} (hW : Wis n W) {k : Nat} (hk : k < n) : bet (-1000) 1000 (lsN n (drr n W k)) (lsN n (drr n W k)).length := fun j hj => by
 rw [lsN_len] at hj
 rw [lsN_get hj]
 exact drr_bd hW hk hj
theorem roS_bd {n : Nat} {W : Nat → List Int} (hW : Wis n W) {k : Nat} (hk : k < n) : -5000 ≤ roS n W k ∧ roS n W k ≤ 5000 := by
 have := sumL_bd2 (row_bet hW hk) n (by rw [lsN_len]; exact Nat.le_refl _)
 have := hW.2.1
 unfold roS
 omega
theorem rent_bd {n : Nat} {W : Nat → List Int} (hW : Wis n W) : 0 ≤ sumL (W 0) n ∧ sumL (W 0) n ≤ 5000 := by
 have h0 := hW.2.2 0 hW.1
 have := sumL_bd (c := 1000) (by rw [h0.1]; exact h0.2.1) n (by rw [h0.1]; exact Nat.le_refl _)
 have := hW.2.1
 omega
theorem ndr_bd {n : Nat} {W : Nat → List Int} (hW : Wis n W) {a b : Nat} (ha : a < n) (hb : b < n) : -5000 ≤ (n : Int) * drr n W a b ∧ (n : Int) * drr n W a b ≤ 5000 := by
 have h := drr_bd hW ha hb
 have h5 := hW.2.1
 have a1 : (n : Int) * drr n W a b ≤ n * 1000 := Int.mul_le_mul_of_nonneg_left h.2 (by omega)
 have a2 : (n : Int) * -1000 ≤ n * drr n W a b := Int.mul_le_mul_of_nonneg_left h.1 (by omega)
 omega
theorem row_sum {n : Nat} {W : Nat → List Int} (hW : Wis n W) {k : Nat} (hk : k < n) : APure Tryz.prog 40 [.ints false (lsN n (drr n W k))] (fun R => R = .int (roS n W k)) := by
 have h := sum2_pure (lsN n (drr n W k)) 1000 (by rw [lsN_len]; have := hW.2.1; omega) (by omega) (row_bet hW hk)
 rw [lsN_len] at h
 exact h
theorem rnN_get {n : Nat} {W : Nat → List Int} {k j : Nat} (hj : j < n) : (rnN n W k).getD j 0 = sumL (W 0) n - roS n W k + n * drr n W k j := lsN_get hj
theorem rents_pure {n : Nat} {W : Nat → List Int} (hW : Wis n W) {k : Nat} (hk : k < n) : APure Tryz.prog 29 [tabV n W, .int k] (fun R => R = parV true (lowN (rnN n W k) n) ((n : Int).tdiv (gP (rnN n W k) n))) := by
 refine APure_of (X := cx 42) (cx_ok 42) rfl (rs := [(.cell 4 25, 25)]) Tryz.func29 (by decide) rfl rfl rfl (by simp [cx]) (nofr2 nofrT (show NoFr (.int k) from trivial)) ?_
 intro hlen
 have c1 := dearer2_pure hW
 have h1 := hW.1
 have h5 := hW.2.1
 ((conv=>whnf);repeat (refine Wa ?_;(repeat (first|refine Wb ?_|refine Wc ?_|refine Wd ?_|refine We ?_|refine Wf ?_));(conv=>whnf)))
 refine APure.to (APure.arg1 subT c1) ?_
 ((conv=>whnf);repeat (refine Wa ?_;(repeat (first|refine Wb ?_|refine Wc ?_|refine Wd ?_|refine We ?_|refine Wf ?_));(conv=>whnf)))
 refine ⟨(show (0 : Int) ≤ (k : Int) by omega), ?_⟩
 refine ⟨(show (k : Int) < (n : Int) by omega), ?_⟩
 ((conv=>whnf);repeat (refine Wa ?_;(repeat (first|refine Wb ?_|refine Wc ?_|refine Wd ?_|refine We ?_|refine Wf ?_));(conv=>whnf)))
 refine ⟨(show (0 : Int) ≤ (n : Int) by omega), ?_⟩
 refine ⟨Int.le_refl _, ?_⟩
 refine ⟨(show (8 : Int) * (n : Int) ≤ 140737488355328 by omega), ?_⟩
 rw [Int.toNat_natCast]
 have c2 := rent_pure hW
 have c3 := row_sum hW hk
 have b1 := rent_bd hW
 have b2 := roS_bd hW hk
 have hnl : (rnN n W k).length = n := lsN_len _ _
 have c4 := Parts_pure (rnN n W k) n (by omega) (fun j hj => by
  rw [hnl] at hj
  rw [rnN_get hj]
  have := ndr_bd hW hk hj
  unfold Sm
  omega) (by unfold Sm; omega) (by omega)
 ((conv=>whnf);repeat (refine Wa ?_;(repeat (first|refine Wb ?_|refine Wc ?_|refine Wd ?_|refine We ?_|refine Wf ?_));(conv=>whnf)))
 refine AW_loopA (X := cx 42) (cx_ok 42) [0, 4, 5, 6, 7, 18, 19, 20] (fun t => Nat.blt t 2) (fun vs M => ∃ (l : Nat) (Z : List Int), l ≤ n ∧ Z.length = n ∧ (∀ j, j < l → Z.getD j 0 = (rnN n W k).getD j 0) ∧ vs = [tabV n W, .ptr 0 0 0 0, .int n, .ints true (lsN n (drr n W k)), .sl 1 0 0 n, .sl 1 0 0 n, .int n, .int l] ∧ M = [some ⟨25, ((cx 42).T.row 25).sz, 0, newCon ((cx 42).T.row 25)⟩, some (rOw Z)])
  (fun vs _ => n - (vs.getD 7 .any).toInt.toNat) (fun t ht => by have : t < 2 := ht; simp; omega) ?_ ?_
 ·exact same0 ⟨0, _, Nat.zero_le _, List.length_replicate, fun j hj => absurd hj (by omega), rfl, rfl⟩
 rintro vs M ⟨l, Z, hl, hZ, hz, rfl, rfl⟩
 ((conv=>whnf);repeat (refine Wa ?_;(repeat (first|refine Wb ?_|refine Wc ?_|refine Wd ?_|refine We ?_|refine Wf ?_));(conv=>whnf)))
 refine br_dec (fun hlt => ?_) (fun hge => ?_)
 ·have hl' : l < n := by omega
  have b3 := ndr_bd hW hk hl'
  have e1 : (lsN n (drr n W k)).getD l 0 = drr n W k l := lsN_get hl'
  have hll : (lsN n (drr n W k)).length = n := lsN_len _ _
  have hg := rnN_get (W := W) (k := k) hl'
  have hnx : ∀ j, j < l + 1 → (Z.set l (sumL (W 0) n - roS n W k + n * drr n W k l)).getD j 0 = (rnN n W k).getD j 0 := fun j hj => by
   rw [getD_setL]
   rcases (by omega : j = l ∨ j < l) with rfl | hjl
   ·rw [if_pos ⟨rfl, by omega⟩, hg]
   ·rw [if_neg (fun h => by omega)]
    exact hz j hjl
  generalize lsN n (drr n W k) = mo at *
  ((conv=>whnf);repeat (refine Wa ?_;(repeat (first|refine Wb ?_|refine Wc ?_|refine Wd ?_|refine We ?_|refine Wf ?_));(conv=>whnf)))
  refine AW_draw (X := cx 42) (cx_ok 42) mixed (by kernel_rfl) ?_
  ((conv=>whnf);repeat (refine Wa ?_;(repeat (first|refine Wb ?_|refine Wc ?_|refine Wd ?_|refine We ?_|refine Wf ?_));(conv=>whnf)))
  refine ⟨_, APure.arg1 subT c2, ?_⟩
  ((conv=>whnf);repeat (refine Wa ?_;(repeat (first|refine Wb ?_|refine Wc ?_|refine Wd ?_|refine We ?_|refine Wf ?_));(conv=>whnf)))
  refine ⟨_, c3, ?_⟩
  ((conv=>whnf);repeat (refine Wa ?_;(repeat (first|refine Wb ?_|refine Wc ?_|refine Wd ?_|refine We ?_|refine Wf ?_));(conv=>whnf)))
  refine ⟨(show InR (sumL (W 0) n - roS n W k) from inr (by omega)), ?_⟩
  ((conv=>whnf);repeat (refine Wa ?_;(repeat (first|refine Wb ?_|refine Wc ?_|refine Wd ?_|refine We ?_|refine Wf ?_));(conv=>whnf)))
  refine ⟨(show (0 : Int) ≤ (l : Int) by omega), ?_⟩
  refine ⟨(show (l : Int) < (mo.length : Int) by omega), ?_⟩
  rw [show mo.getD (l : Int).toNat 0 = drr n W k l from e1]
  ((conv=>whnf);repeat (refine Wa ?_;(repeat (first|refine Wb ?_|refine Wc ?_|refine Wd ?_|refine We ?_|refine Wf ?_));(conv=>whnf)))
  refine ⟨(show InR ((n : Int) * drr n W k l) from inr (by omega)), ?_⟩
  ((conv=>whnf);repeat (refine Wa ?_;(repeat (first|refine Wb ?_|refine Wc ?_|refine Wd ?_|refine We ?_|refine Wf ?_));(conv=>whnf)))
  refine ⟨(show InR (sumL (W 0) n - roS n W k + n * drr n W k l) from inr (by omega)), ?_⟩
  ((conv=>whnf);repeat (refine Wa ?_;(repeat (first|refine Wb ?_|refine Wc ?_|refine Wd ?_|refine We ?_|refine Wf ?_));(conv=>whnf)))
  refine ⟨(show (0 : Int) ≤ (l : Int) by omega), ?_⟩
  refine ⟨(show (l : Int) < (n : Int) by omega), ?_⟩
  ((conv=>whnf);repeat (refine Wa ?_;(repeat (first|refine Wb ?_|refine Wc ?_|refine Wd ?_|refine We ?_|refine Wf ?_));(conv=>whnf)))
  refine ⟨inr (by omega), ?_⟩
  ((conv=>whnf);repeat (refine Wa ?_;(repeat (first|refine Wb ?_|refine Wc ?_|refine Wd ?_|refine We ?_|refine Wf ?_));(conv=>whnf)))
  refine ⟨by repeat (first|exact trivial|exact rfl|exact namedTb|exact fun _ _=>namedTb|exact fun _=>trivial|exact fun _ _=>trivial|exact fun _ _ _=>trivial|exact fun _ _ _ _=>trivial|refine And.intro ?_ ?_), memA1 [some ⟨25, ((cx 42).T.row 25).sz, 0, newCon ((cx 42).T.row 25)⟩, some (rOw (Z.set l (sumL (W 0) n - roS n W k + n * drr n W k l)))] ⟨ObSub.refl _, ObSub.ii (congrArg (fun z => Z.set z (sumL (W 0) n - roS n W k + n * drr n W k l)) (Nat.zero_add l)), trivial⟩ ⟨⟨l + 1, _, hl', by rw [List.length_set]; exact hZ, hnx, rfl, rfl⟩, ?_⟩⟩
  simp [V.toInt, sel, Env.get]; omega
 ·obtain rfl : n = l := by omega
  obtain rfl : Z = rnN n W k := ext_getD (by rw [hZ, hnl]) fun j hj => hz j (by omega)
  ((conv=>whnf);repeat (refine Wa ?_;(repeat (first|refine Wb ?_|refine Wc ?_|refine Wd ?_|refine We ?_|refine Wf ?_));(conv=>whnf)))
  refine APure.to (APure.arg2 (Sub.of (congrArg (V.ints false) (show (rnN n W k).take n = rnN n W k from List.take_of_length_le (by omega)))) (Sub.refl _) c4) ?_
  ((conv=>whnf);repeat (refine Wa ?_;(repeat (first|refine Wb ?_|refine Wc ?_|refine Wd ?_|refine We ?_|refine Wf ?_));(conv=>whnf)))
  exact ⟨fr2' rfl trivial, agg2_eq' rfl rfl fun _ => rfl⟩
/-- The sum of a column. -/
noncomputable def coS (n : Nat) (W : Nat → List Int) (k : Nat) : Nat → Int
 | 0 => 0
 | j + 1 => coS n W k j + drr n W j k
theorem coS_bd {n : Nat} {W : Nat → List Int} (hW : Wis n W) {k : Nat} (hk : k < n) : ∀ j, j ≤ n → -(1000 * (j : Int)) ≤ coS n W k j ∧ coS n W k j ≤ 1000 * j
 | 0, _ => by simp [coS]
 | j + 1, h => by
  have h1 := coS_bd hW hk j (by omega)
  have h2 := drr_bd hW (show j < n by omega) hk
  simp only [coS]
  omega
set_option maxRecDepth 100000 in
theorem limits_pure {n : Nat} {W : Nat → List Int} (hW : Wis n W) {k : Nat} (hk : k < n) : APure Tryz.prog 28 [tabV n W, .int k] (fun R => R = tup2 (ratP (sumL (W 0) n - roS n W k) n) (ratP (sumL (W 0) n + coS n W k n) n)) := by
 refine APure_of (X := cx 43) (cx_ok 43) rfl (rs := [(.cell 4 41, 41), (.cell 5 41, 41)]) Tryz.func28 (by decide) rfl rfl rfl (by simp [cx]) (nofr2 nofrT (show NoFr (.int k) from trivial)) ?_
 intro hlen
 have c1 := dearer2_pure hW
 have c2 := rent_pure hW
 have c3 := row_sum hW hk
 have h1 := hW.1
 have h5 := hW.2.1
 have b1 := rent_bd hW
 have b2 := roS_bd hW hk
 have b3 := coS_bd hW hk n (Nat.le_refl _)
 have c4 := Lowest_pure (sumL (W 0) n - roS n W k) n (by unfold Sm; omega) (by unfold Sm; omega) (by omega)
 have c5 := Lowest_pure (sumL (W 0) n + coS n W k n) n (by unfold Sm; omega) (by unfold Sm; omega) (by omega)
 ((conv=>whnf);repeat (refine Wa ?_;(repeat (first|refine Wb ?_|refine Wc ?_|refine Wd ?_|refine We ?_|refine Wf ?_));(conv=>whnf)))
 refine APure.to (APure.arg1 subT c1) ?_
 ((conv=>whnf);repeat (refine Wa ?_;(repeat (first|refine Wb ?_|refine Wc ?_|refine Wd ?_|refine We ?_|refine Wf ?_));(conv=>whnf)))
 refine AW_loopA (X := cx 43) (cx_ok 43) [0, 1, 4, 5, 6, 7, 12, 13, 14] (fun t => Nat.blt t 2) (fun vs M => ∃ j : Nat, j ≤ n ∧ vs = [tabV n W, .int k, .ptr 0 0 0 0, .ptr 1 0 0 0, drW true n W, .int (coS n W k j), drW true n W, .int n, .int j] ∧ M = [some ⟨41, 2, 0, .one [.int 0, .int 0]⟩, some ⟨41, 2, 0, .one [.int 0, .int 0]⟩])
  (fun vs _ => n - (vs.getD 8 .any).toInt.toNat) (fun t ht => by have : t < 2 := ht; simp; omega) ?_ ?_
 ·exact same0 ⟨0, Nat.zero_le _, rfl, rfl⟩
 rintro vs M ⟨j, hj, rfl, rfl⟩
 ((conv=>whnf);repeat (refine Wa ?_;(repeat (first|refine Wb ?_|refine Wc ?_|refine Wd ?_|refine We ?_|refine Wf ?_));(conv=>whnf)))
 refine br_dec (fun hlt => ?_) (fun hge => ?_)
 ·have hj' : j < n := by omega
  have e1 : (lsN n (drr n W j)).getD k 0 = drr n W j k := lsN_get hk
  have hll : (lsN n (drr n W j)).length = n := lsN_len _ _
  have b4 := coS_bd hW hk (j + 1) hj'
  ((conv=>whnf);repeat (refine Wa ?_;(repeat (first|refine Wb ?_|refine Wc ?_|refine Wd ?_|refine We ?_|refine Wf ?_));(conv=>whnf)))
  refine ⟨(show (0 : Int) ≤ (j : Int) by omega), ?_⟩
  refine ⟨(show (j : Int) < (n : Int) by omega), ?_⟩
  ((conv=>whnf);repeat (refine Wa ?_;(repeat (first|refine Wb ?_|refine Wc ?_|refine Wd ?_|refine We ?_|refine Wf ?_));(conv=>whnf)))
  refine ⟨(show (0 : Int) ≤ (k : Int) by omega), ?_⟩
  refine ⟨(show (k : Int) < ((lsN n (drr n W j)).length : Int) by omega), ?_⟩
  rw [show (lsN n (drr n W (j : Int).toNat)).getD (k : Int).toNat 0 = drr n W j k from e1]
  ((conv=>whnf);repeat (refine Wa ?_;(repeat (first|refine Wb ?_|refine Wc ?_|refine Wd ?_|refine We ?_|refine Wf ?_));(conv=>whnf)))
  refine ⟨(show InR (coS n W k (j + 1)) from inr (by omega)), ?_⟩
  ((conv=>whnf);repeat (refine Wa ?_;(repeat (first|refine Wb ?_|refine Wc ?_|refine Wd ?_|refine We ?_|refine Wf ?_));(conv=>whnf)))
  refine ⟨inr (by omega), ?_⟩
  ((conv=>whnf);repeat (refine Wa ?_;(repeat (first|refine Wb ?_|refine Wc ?_|refine Wd ?_|refine We ?_|refine Wf ?_));(conv=>whnf)))
  refine ⟨by repeat (first|exact trivial|exact rfl|exact namedTb|exact fun _ _=>namedTb|exact fun _ _ _ _=>trivial|exact fun _=>trivial|exact fun _ _=>trivial|exact fun _ _ _=>trivial|exact fun _ _ _ _=>trivial|refine And.intro ?_ ?_), memA1 [some ⟨41, 2, 0, .one [.int 0, .int 0]⟩, some ⟨41, 2, 0, .one [.int 0, .int 0]⟩] ⟨ObSub.refl _, ObSub.refl _, trivial⟩ ⟨⟨j + 1, hj', rfl, rfl⟩, ?_⟩⟩
  simp [V.toInt, sel, Env.get]; omega
 ·obtain rfl : n = j := by omega
  ((conv=>whnf);repeat (refine Wa ?_;(repeat (first|refine Wb ?_|refine Wc ?_|refine Wd ?_|refine We ?_|refine Wf ?_));(conv=>whnf)))
  refine AW_draw (X := cx 43) (cx_ok 43) mixed (by kernel_rfl) ?_
  ((conv=>whnf);repeat (refine Wa ?_;(repeat (first|refine Wb ?_|refine Wc ?_|refine Wd ?_|refine We ?_|refine Wf ?_));(conv=>whnf)))
  refine ⟨_, APure.arg1 subT c2, ?_⟩
  ((conv=>whnf);repeat (refine Wa ?_;(repeat (first|refine Wb ?_|refine Wc ?_|refine Wd ?_|refine We ?_|refine Wf ?_));(conv=>whnf)))
  refine ⟨(show (0 : Int) ≤ (k : Int) by omega), ?_⟩
  refine ⟨(show (k : Int) < (n : Int) by omega), ?_⟩
  ((conv=>whnf);repeat (refine Wa ?_;(repeat (first|refine Wb ?_|refine Wc ?_|refine Wd ?_|refine We ?_|refine Wf ?_));(conv=>whnf)))
  refine ⟨_, c3, ?_⟩
  ((conv=>whnf);repeat (refine Wa ?_;(repeat (first|refine Wb ?_|refine Wc ?_|refine Wd ?_|refine We ?_|refine Wf ?_));(conv=>whnf)))
  refine ⟨(show InR (sumL (W 0) n - roS n W k) from inr (by omega)), ?_⟩
  ((conv=>whnf);repeat (refine Wa ?_;(repeat (first|refine Wb ?_|refine Wc ?_|refine Wd ?_|refine We ?_|refine Wf ?_));(conv=>whnf)))
  refine ⟨_, c4, ?_⟩
  ((conv=>whnf);repeat (refine Wa ?_;(repeat (first|refine Wb ?_|refine Wc ?_|refine Wd ?_|refine We ?_|refine Wf ?_));(conv=>whnf)))
  refine ⟨_, APure.arg1 subT c2, ?_⟩
  ((conv=>whnf);repeat (refine Wa ?_;(repeat (first|refine Wb ?_|refine Wc ?_|refine Wd ?_|refine We ?_|refine Wf ?_));(conv=>whnf)))
  refine ⟨(show InR (sumL (W 0) n + coS n W k n) from inr (by omega)), ?_⟩
  ((conv=>whnf);repeat (refine Wa ?_;(repeat (first|refine Wb ?_|refine Wc ?_|refine Wd ?_|refine We ?_|refine Wf ?_));(conv=>whnf)))
  refine ⟨_, c5, ?_⟩
  ((conv=>whnf);repeat (refine Wa ?_;(repeat (first|refine Wb ?_|refine Wc ?_|refine Wd ?_|refine We ?_|refine Wf ?_));(conv=>whnf)))
  exact ⟨fr2' trivial trivial, fr2' trivial trivial, Q2 (agg2_eq' rfl rfl fun _ => rfl) (agg2_eq' rfl rfl fun _ => rfl)⟩
open Classical in
noncomputable def riE (n : Nat) (W : Nat → List Int) (k : Int) : Int := if Wis n W then (if 0 ≤ k ∧ k < n then 0 else 2) else 2
open Classical in
theorem checkRickshaw_pure (n : Nat) (W : Nat → List Int) (k : Int) : APure Tryz.prog 27 [tabV n W, .int k] (fun R => R = .int (riE n W k)) := by
 refine APure_of (X := cx 19) (cx_ok 19) rfl (rs := [(.tmp 4, 30)]) Tryz.func27 (by decide) rfl rfl rfl (by simp [cx]) (nofr2 nofrT (show NoFr (.int k) from trivial)) ?_
 intro hlen
 have c1 := checkWishes_pure n W
 by_cases hW : Wis n W
 ·rw [show wiE n W = 0 by unfold wiE; rw [if_pos hW]] at c1
  have e : riE n W k = if 0 ≤ k ∧ k < n then 0 else 2 := by unfold riE; rw [if_pos hW]
  rw [e]
  ((conv=>whnf);repeat (refine Wa ?_;(repeat (first|refine Wb ?_|refine Wc ?_|refine Wd ?_|refine We ?_|refine Wf ?_));(conv=>whnf)))
  refine APure.to (APure.arg1 subT c1) ?_
  ((conv=>whnf);repeat (refine Wa ?_;(repeat (first|refine Wb ?_|refine Wc ?_|refine Wd ?_|refine We ?_|refine Wf ?_));(conv=>whnf)))
  refine br_dec (fun h1 => ?_) (fun h1 => ?_)
  ·have h1 : k < 0 := h1
   ((conv=>whnf);repeat (refine Wa ?_;(repeat (first|refine Wb ?_|refine Wc ?_|refine Wd ?_|refine We ?_|refine Wf ?_));(conv=>whnf)))
   exact ⟨trivial, Qi (by rw [if_neg (by omega)])⟩
  ·have h1 : ¬ k < 0 := h1
   ((conv=>whnf);repeat (refine Wa ?_;(repeat (first|refine Wb ?_|refine Wc ?_|refine Wd ?_|refine We ?_|refine Wf ?_));(conv=>whnf)))
   refine br_dec (fun h2 => ?_) (fun h2 => ?_)
   ·have h2 : k ≥ n := h2
    ((conv=>whnf);repeat (refine Wa ?_;(repeat (first|refine Wb ?_|refine Wc ?_|refine Wd ?_|refine We ?_|refine Wf ?_));(conv=>whnf)))
    exact ⟨trivial, Qi (by rw [if_neg (by omega)])⟩
   ·have h2 : ¬ k ≥ n := h2
    ((conv=>whnf);repeat (refine Wa ?_;(repeat (first|refine Wb ?_|refine Wc ?_|refine Wd ?_|refine We ?_|refine Wf ?_));(conv=>whnf)))
    exact ⟨trivial, Qi (by rw [if_pos (by omega)])⟩
 ·rw [show wiE n W = 2 by unfold wiE; rw [if_neg hW]] at c1
  have e : riE n W k = 2 := by unfold riE; rw [if_neg hW]
  rw [e]
  ((conv=>whnf);repeat (refine Wa ?_;(repeat (first|refine Wb ?_|refine Wc ?_|refine Wd ?_|refine We ?_|refine Wf ?_));(conv=>whnf)))
  refine APure.to (APure.arg1 subT c1) ?_
  ((conv=>whnf);repeat (refine Wa ?_;(repeat (first|refine Wb ?_|refine Wc ?_|refine Wd ?_|refine We ?_|refine Wf ?_));(conv=>whnf)))
  exact ⟨trivial, rfl⟩
theorem riE_inv {n : Nat} {W : Nat → List Int} {k : Int} (h : riE n W k = 0) : Wis n W ∧ 0 ≤ k ∧ k < n := by
 unfold riE at h
 split at h
 ·next hW =>
  split at h
  ·next hk => exact ⟨hW, hk⟩
  ·omega
 ·omega
noncomputable def rtV (n : Nat) (W : Nat → List Int) (k : Int) : V := if riE n W k = 0 then tup2 (parV true (lowN (rnN n W k.toNat) n) ((n : Int).tdiv (gP (rnN n W k.toNat) n))) (.int 0) else tup2 (.agg 2 fun k => [V.emp true, V.int 0].getD k .any) (.int (riE n W k))
theorem Rents_pure (n : Nat) (W : Nat → List Int) (k : Int) : APure Tryz.prog 13 [tabV n W, .int k] (fun R => R = rtV n W k) := by
 refine APure_of (X := cx 17) (cx_ok 17) rfl (rs := [(.cell 4 25, 25), (.tmp 5, 30)]) Tryz.func13 (by decide) rfl rfl rfl (by simp [cx]) (nofr2 nofrT (show NoFr (.int k) from trivial)) ?_
 intro hlen
 have c1 := checkRickshaw_pure n W k
 have e1 : riE n W k ≠ 0 → tup2 (.agg 2 fun k => [V.emp true, V.int 0].getD k .any) (.int (riE n W k)) = rtV n W k := fun h => by unfold rtV; rw [if_neg h]
 have e2 : riE n W k = 0 → tup2 (parV true (lowN (rnN n W k.toNat) n) ((n : Int).tdiv (gP (rnN n W k.toNat) n))) (.int 0) = rtV n W k := fun h => by unfold rtV; rw [if_pos h]
 generalize rtV n W k = E at *
 ((conv=>whnf);repeat (refine Wa ?_;(repeat (first|refine Wb ?_|refine Wc ?_|refine Wd ?_|refine We ?_|refine Wf ?_));(conv=>whnf)))
 refine APure.to (APure.arg2 subT (Sub.refl _) c1) ?_
 ((conv=>whnf);repeat (refine Wa ?_;(repeat (first|refine Wb ?_|refine Wc ?_|refine Wd ?_|refine We ?_|refine Wf ?_));(conv=>whnf)))
 refine br_ne (fun h => ?_) (fun h => ?_)
 ·((conv=>whnf);repeat (refine Wa ?_;(repeat (first|refine Wb ?_|refine Wc ?_|refine Wd ?_|refine We ?_|refine Wf ?_));(conv=>whnf)))
  exact ⟨fr2' trivial trivial, trivial, (Q2 (agg2_eq' rfl rfl fun _ => rfl) rfl).trans (e1 h)⟩
 ·obtain ⟨hW, hk0, hkn⟩ := riE_inv h
  have e2 := e2 h
  obtain ⟨q, rfl⟩ : ∃ q : Nat, k = q := ⟨k.toNat, by omega⟩
  have c2 := rents_pure hW (show q < n by omega)
  rw [Int.toNat_natCast] at e2
  generalize lowN (rnN n W q) n = l at *
  generalize (n : Int).tdiv (gP (rnN n W q) n) = d at *
  ((conv=>whnf);repeat (refine Wa ?_;(repeat (first|refine Wb ?_|refine Wc ?_|refine Wd ?_|refine We ?_|refine Wf ?_));(conv=>whnf)))
  refine APure.to (APure.arg2 subT (Sub.refl _) c2) ?_
  ((conv=>whnf);repeat (refine Wa ?_;(repeat (first|refine Wb ?_|refine Wc ?_|refine Wd ?_|refine We ?_|refine Wf ?_));(conv=>whnf)))
  exact ⟨fr2' rfl trivial, trivial, (Q2 (agg2_eq' rfl rfl fun _ => rfl) rfl).trans e2⟩
noncomputable def liV (n : Nat) (W : Nat → List Int) (k : Int) : V := if riE n W k = 0 then tup3 (ratP (sumL (W 0) n - roS n W k.toNat) n) (ratP (sumL (W 0) n + coS n W k.toNat n) n) (.int 0) else tup3 (pairV 0 0) (pairV 0 0) (.int (riE n W k))
theorem Limits_pure (n : Nat) (W : Nat → List Int) (k : Int) : APure Tryz.prog 12 [tabV n W, .int k] (fun R => R = liV n W k) := by
 refine APure_of (X := cx 26) (cx_ok 26) rfl (rs := [(.cell 4 41, 41), (.cell 5 41, 41), (.tmp 6, 30)]) Tryz.func12 (by decide) rfl rfl rfl (by simp [cx]) (nofr2 nofrT (show NoFr (.int k) from trivial)) ?_
 intro hlen
 have c1 := checkRickshaw_pure n W k
 have e1 : riE n W k ≠ 0 → tup3 (pairV 0 0) (pairV 0 0) (.int (riE n W k)) = liV n W k := fun h => by unfold liV; rw [if_neg h]
 have e2 : riE n W k = 0 → tup3 (ratP (sumL (W 0) n - roS n W k.toNat) n) (ratP (sumL (W 0) n + coS n W k.toNat n) n) (.int 0) = liV n W k := fun h => by unfold liV; rw [if_pos h]
 generalize liV n W k = E at *
 ((conv=>whnf);repeat (refine Wa ?_;(repeat (first|refine Wb ?_|refine Wc ?_|refine Wd ?_|refine We ?_|refine Wf ?_));(conv=>whnf)))
 refine APure.to (APure.arg2 subT (Sub.refl _) c1) ?_
 ((conv=>whnf);repeat (refine Wa ?_;(repeat (first|refine Wb ?_|refine Wc ?_|refine Wd ?_|refine We ?_|refine Wf ?_));(conv=>whnf)))
 refine br_ne (fun h => ?_) (fun h => ?_)
 ·((conv=>whnf);repeat (refine Wa ?_;(repeat (first|refine Wb ?_|refine Wc ?_|refine Wd ?_|refine We ?_|refine Wf ?_));(conv=>whnf)))
  exact ⟨fr2' trivial trivial, fr2' trivial trivial, trivial, (Q3 (agg2_eq' rfl rfl fun _ => rfl) (agg2_eq' rfl rfl fun _ => rfl) rfl).trans (e1 h)⟩
 ·obtain ⟨hW, hk0, hkn⟩ := riE_inv h
  have e2 := e2 h
  obtain ⟨q, rfl⟩ : ∃ q : Nat, k = q := ⟨k.toNat, by omega⟩
  have c2 := limits_pure hW (show q < n by omega)
  rw [Int.toNat_natCast] at e2
  generalize sumL (W 0) n - roS n W q = s1 at *
  generalize sumL (W 0) n + coS n W q n = s2 at *
  ((conv=>whnf);repeat (refine Wa ?_;(repeat (first|refine Wb ?_|refine Wc ?_|refine Wd ?_|refine We ?_|refine Wf ?_));(conv=>whnf)))
  refine APure.to (APure.arg2 subT (Sub.refl _) c2) ?_
  ((conv=>whnf);repeat (refine Wa ?_;(repeat (first|refine Wb ?_|refine Wc ?_|refine Wd ?_|refine We ?_|refine Wf ?_));(conv=>whnf)))
  refine AW_draw (X := cx 26) (cx_ok 26) mixed (by kernel_rfl) ?_
  ((conv=>whnf);repeat (refine Wa ?_;(repeat (first|refine Wb ?_|refine Wc ?_|refine Wd ?_|refine We ?_|refine Wf ?_));(conv=>whnf)))
  exact ⟨fr2' trivial trivial, fr2' trivial trivial, trivial, (Q3 (agg2_eq' rfl rfl fun _ => rfl) (agg2_eq' rfl rfl fun _ => rfl) rfl).trans e2⟩
end Go.Tri
