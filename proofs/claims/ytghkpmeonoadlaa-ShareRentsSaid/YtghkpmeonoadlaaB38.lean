/-
 CONTRACTS: rents and limits, the reference's.
-/
import Derived.Test.YtghkpmeonoadlaaB30
import Derived.Test.YtghkpmeonoadlaaB35
import Derived.Test.YtghkpmeonoadlaaB39
namespace Go.Tri
open Go.Proofs

theorem reV_t {n : Nat} {W : Nat → List Int} (hW : Wis n W) : reV n W = tup2 (.int (sumL (W 0) n)) (.bool true) := by unfold reV; rw [if_pos hW]
theorem reV_f {n : Nat} {W : Nat → List Int} (hW : ¬ Wis n W) : reV n W = tup2 (.int 0) (.bool false) := by unfold reV; rw [if_neg hW]
open Classical in
theorem refasked_pure (n : Nat) (W : Nat → List Int) (k : Int) : APure Try.prog 62 [tabV n W, .int k] (fun R => R = .int (riE n W k)) := by
 refine APure_of (X := cx 24) (cx_ok 24) rfl (rs := [(.tmp 4, 29)]) Try.func62 (by decide) rfl rfl rfl (by simp [cx]) (nofr2 nofrT (show NoFr (.int k) from trivial)) ?_
 intro hlen
 have c1 := refRent_pure n W
 by_cases hW : Wis n W
 ·rw [reV_t hW] at c1
  have e : riE n W k = if 0 ≤ k ∧ k < n then 0 else 2 := by unfold riE; rw [if_pos hW]
  rw [e]
  ((conv=>whnf);repeat (refine Wa ?_;(repeat (first|refine Wb ?_|refine Wc ?_|refine Wd ?_|refine We ?_|refine Wf ?_));(conv=>whnf)))
  refine APure.to (APure.arg1 subT c1) ?_
  ((conv=>whnf);repeat (refine Wa ?_;(repeat (first|refine Wb ?_|refine Wc ?_|refine Wd ?_|refine We ?_|refine Wf ?_));(conv=>whnf)))
  refine br_dec (fun h1 => ?_) (fun h1 => ?_)
  ·have h1 : k < 0 := h1
   ((conv=>whnf);repeat (refine Wa ?_;(repeat (first|refine Wb ?_|refine Wc ?_|refine Wd ?_|refine We ?_|refine Wf ?_));(conv=>whnf)))
   exact ⟨trivial, Qi (by rw [if_neg (by omega)])⟩
  ·have h1 : ¬ k < 0 := h1
   ((conv=>whnf);repeat (refine Wa ?_;(repeat (first|refine Wb ?_|refine Wc ?_|refine Wd ?_|refine We ?_|refine Wf ?_));(conv=>whnf)))
   refine br_dec (fun h2 => ?_) (fun h2 => ?_)
   ·have h2 : k ≥ n := h2
    ((conv=>whnf);repeat (refine Wa ?_;(repeat (first|refine Wb ?_|refine Wc ?_|refine Wd ?_|refine We ?_|refine Wf ?_));(conv=>whnf)))
    exact ⟨trivial, Qi (by rw [if_neg (by omega)])⟩
   ·have h2 : ¬ k ≥ n := h2
    ((conv=>whnf);repeat (refine Wa ?_;(repeat (first|refine Wb ?_|refine Wc ?_|refine Wd ?_|refine We ?_|refine Wf ?_));(conv=>whnf)))
    exact ⟨trivial, Qi (by rw [if_pos (by omega)])⟩
 ·rw [reV_f hW] at c1
  have e : riE n W k = 2 := by unfold riE; rw [if_neg hW]
  rw [e]
  ((conv=>whnf);repeat (refine Wa ?_;(repeat (first|refine Wb ?_|refine Wc ?_|refine Wd ?_|refine We ?_|refine Wf ?_));(conv=>whnf)))
  refine APure.to (APure.arg1 subT c1) ?_
  ((conv=>whnf);repeat (refine Wa ?_;(repeat (first|refine Wb ?_|refine Wc ?_|refine Wd ?_|refine We ?_|refine Wf ?_));(conv=>whnf)))
  exact ⟨trivial, rfl⟩
theorem rnN_len {n : Nat} {W : Nat → List Int} {k : Nat} : (rnN n W k).length = n := lsN_len _ _
theorem drW_dr : True := trivial
@[reducible] noncomputable def OR : Ob := ⟨24, ((cx 67).T.row 24).sz, 0, newCon ((cx 67).T.row 24)⟩
def OutP (l : List Int) (o : V) (R : Mem) : Prop := (l = [] ∧ o = .emp true ∧ R = [some OR]) ∨ ∃ ver, o = .sl 2 ver 0 l.length ∧ R = [some OR, none, some ⟨3, 1, ver, .il l⟩]
set_option maxRecDepth 100000 in
theorem refRents_pure (n : Nat) (W : Nat → List Int) (k : Int) (hdr : Wis n W → APure Try.prog 58 [tabV n W] (fun R => R = drW true n W)) : APure Try.prog 32 [tabV n W, .int k] (fun R => R = rtV n W k) := by
 refine APure_of (X := cx 67) (cx_ok 67) rfl (rs := [(.cell 4 24, 24), (.tmp 5, 29)]) Try.func32 (by decide) rfl rfl rfl (by simp [cx]) (nofr2 nofrT (show NoFr (.int k) from trivial)) ?_
 intro hlen
 have c1 := refasked_pure n W k
 have e1 : riE n W k ≠ 0 → tup2 (.agg 2 fun k => [V.emp true, V.int 0].getD k .any) (.int (riE n W k)) = rtV n W k := fun h => by unfold rtV; rw [if_neg h]
 have e2 : riE n W k = 0 → tup2 (parV true (lowN (rnN n W k.toNat) n) ((n : Int).tdiv (gP (rnN n W k.toNat) n))) (.int 0) = rtV n W k := fun h => by unfold rtV; rw [if_pos h]
 generalize rtV n W k = E at *
 ((conv=>whnf);repeat (refine Wa ?_;(repeat (first|refine Wb ?_|refine Wc ?_|refine Wd ?_|refine We ?_|refine Wf ?_));(conv=>whnf)))
 refine APure.to (APure.arg2 subT (Sub.refl _) c1) ?_
 ((conv=>whnf);repeat (refine Wa ?_;(repeat (first|refine Wb ?_|refine Wc ?_|refine Wd ?_|refine We ?_|refine Wf ?_));(conv=>whnf)))
 refine br_ne (fun h => ?_) (fun h => ?_)
 ·((conv=>whnf);repeat (refine Wa ?_;(repeat (first|refine Wb ?_|refine Wc ?_|refine Wd ?_|refine We ?_|refine Wf ?_));(conv=>whnf)))
  exact ⟨fr2' trivial trivial, trivial, (Q2 (agg2_eq' rfl rfl fun _ => rfl) rfl).trans (e1 h)⟩
 ·obtain ⟨hW, hk0, hkn⟩ := riE_inv h
  have e2 := e2 h
  obtain ⟨q, rfl⟩ : ∃ q : Nat, k = q := ⟨k.toNat, by omega⟩
  rw [Int.toNat_natCast] at e2
  have hk : q < n := by omega
  have h1 := hW.1
  have h5 := hW.2.1
  have c2 := refRent_pure n W
  rw [reV_t hW] at c2
  have c3 := hdr hW
  have b1 := rent_bd hW
  have b2 := roS_bd hW hk
  have hll : (lsN n (drr n W q)).length = n := lsN_len _ _
  have bq := sumL_bd2 (row_bet hW hk)
  ((conv=>whnf);repeat (refine Wa ?_;(repeat (first|refine Wb ?_|refine Wc ?_|refine Wd ?_|refine We ?_|refine Wf ?_));(conv=>whnf)))
  refine APure.to (APure.arg1 subT c2) ?_
  ((conv=>whnf);repeat (refine Wa ?_;(repeat (first|refine Wb ?_|refine Wc ?_|refine Wd ?_|refine We ?_|refine Wf ?_));(conv=>whnf)))
  refine APure.to (APure.arg1 subT c3) ?_
  ((conv=>whnf);repeat (refine Wa ?_;(repeat (first|refine Wb ?_|refine Wc ?_|refine Wd ?_|refine We ?_|refine Wf ?_));(conv=>whnf)))
  refine AW_loop (X := cx 67) (cx_ok 67) [0, 1, 4, 5, 7, 9, 10] (fun vs M => ∃ j : Nat, j ≤ n ∧ vs = [tabV n W, .int (q : Int), .ptr 0 0 0 0, .int 0, .int (sumL (W 0) n - sumL (lsN n (drr n W q)) j), drW true n W, .int j] ∧ M = [some OR])
   (fun vs _ => n - (vs.getD 6 .any).toInt.toNat) ?_ ?_
  ·exact ⟨0, Nat.zero_le _, by rw [show sumL (W 0) n - sumL (lsN n (drr n W q)) 0 = sumL (W 0) n by simp [sumL]]; rfl, rfl⟩
  rintro vs M ⟨j, hj, rfl, rfl⟩
  have bj := bq j (by omega)
  ((conv=>whnf);repeat (refine Wa ?_;(repeat (first|refine Wb ?_|refine Wc ?_|refine Wd ?_|refine We ?_|refine Wf ?_));(conv=>whnf)))
  refine br_dec (fun hlt => ?_) (fun hge => ?_)
  ·have hj' : j < n := by omega
   have bj' := bq (j + 1) (by omega)
   have hs : sumL (lsN n (drr n W q)) (j + 1) = sumL (lsN n (drr n W q)) j + drr n W q j := by rw [← lsN_get (f := drr n W q) hj']; rfl
   have eg : (lsN n (drr n W q)).getD j 0 = drr n W q j := lsN_get hj'
   ((conv=>whnf);repeat (refine Wa ?_;(repeat (first|refine Wb ?_|refine Wc ?_|refine Wd ?_|refine We ?_|refine Wf ?_));(conv=>whnf)))
   refine ⟨(show (0 : Int) ≤ (q : Int) by omega), ?_⟩
   refine ⟨(show (q : Int) < (n : Int) by omega), ?_⟩
   ((conv=>whnf);repeat (refine Wa ?_;(repeat (first|refine Wb ?_|refine Wc ?_|refine Wd ?_|refine We ?_|refine Wf ?_));(conv=>whnf)))
   refine ⟨(show (0 : Int) ≤ (j : Int) by omega), ?_⟩
   refine ⟨(show (j : Int) < ((lsN n (drr n W q)).length : Int) by omega), ?_⟩
   rw [show (lsN n (drr n W (q : Int).toNat)).getD (j : Int).toNat 0 = drr n W q j from eg]
   ((conv=>whnf);repeat (refine Wa ?_;(repeat (first|refine Wb ?_|refine Wc ?_|refine Wd ?_|refine We ?_|refine Wf ?_));(conv=>whnf)))
   refine ⟨(show InR (sumL (W 0) n - sumL (lsN n (drr n W q)) j - drr n W q j) from inr (by omega)), ?_⟩
   ((conv=>whnf);repeat (refine Wa ?_;(repeat (first|refine Wb ?_|refine Wc ?_|refine Wd ?_|refine We ?_|refine Wf ?_));(conv=>whnf)))
   refine ⟨inr (by omega), ?_⟩
   ((conv=>whnf);repeat (refine Wa ?_;(repeat (first|refine Wb ?_|refine Wc ?_|refine Wd ?_|refine We ?_|refine Wf ?_));(conv=>whnf)))
   refine ⟨⟨j + 1, hj', by rw [hs, show sumL (W 0) n - (sumL (lsN n (drr n W q)) j + drr n W q j) = sumL (W 0) n - sumL (lsN n (drr n W q)) j - drr n W q j by omega]; rfl, rfl⟩, ?_⟩
   simp [V.toInt, sel, Env.get]; omega
  ·obtain rfl : n = j := by omega
   have hnl : (rnN n W q).length = n := lsN_len _ _
   have c4 := Q8.refLowest_pure (rnN n W q) n (by omega) (by omega) (fun j hj => by
    rw [hnl] at hj
    rw [rnN_get hj]
    have := ndr_bd hW hk hj
    unfold Sm
    omega) (by unfold Sm; omega) (by omega)
   rw [show sumL (W 0) n - sumL (lsN n (drr n W q)) n = sumL (W 0) n - roS n W q from rfl]
   ((conv=>whnf);repeat (refine Wa ?_;(repeat (first|refine Wb ?_|refine Wc ?_|refine Wd ?_|refine We ?_|refine Wf ?_));(conv=>whnf)))
   refine AW_loopA (X := cx 67) (cx_ok 67) [0, 1, 4, 5, 7, 9, 11, 12] (fun t => Nat.blt t 1 || Nat.beq t 2) (fun vs M => ∃ (l : Nat) (o : V), l ≤ n ∧ OutP ((rnN n W q).take l) o M ∧ vs = [tabV n W, .int (q : Int), .ptr 0 0 0 0, .int 0, .int (sumL (W 0) n - roS n W q), drW true n W, o, .int l])
    (fun vs _ => n - (vs.getD 7 .any).toInt.toNat) (fun t ht => by have : t < 1 := ht; simp; omega) ?_ ?_
   ·exact same0 ⟨0, .emp true, Nat.zero_le _, .inl ⟨rfl, rfl, rfl⟩, rfl⟩
   rintro vs M ⟨l, o, hl, hO, rfl⟩
   have htl : ((rnN n W q).take l).length = l := by rw [List.length_take]; omega
   ((conv=>whnf);repeat (refine Wa ?_;(repeat (first|refine Wb ?_|refine Wc ?_|refine Wd ?_|refine We ?_|refine Wf ?_));(conv=>whnf)))
   refine br_dec (fun hlt => ?_) (fun hge => ?_)
   ·have hl' : l < n := by omega
    have b3 := ndr_bd hW hk hl'
    have eg : (lsN n (drr n W q)).getD l 0 = drr n W q l := lsN_get hl'
    have hnx : (rnN n W q).take (l + 1) = (rnN n W q).take l ++ [sumL (W 0) n - roS n W q + n * drr n W q l] := by
     rw [take_succ_getD _ _ (by omega), rnN_get hl']
    generalize (rnN n W q).take l = z at *
    rcases hO with ⟨rfl, rfl, rfl⟩ | ⟨ver, rfl, rfl⟩
    ·((conv=>whnf);repeat (refine Wa ?_;(repeat (first|refine Wb ?_|refine Wc ?_|refine Wd ?_|refine We ?_|refine Wf ?_));(conv=>whnf)))
     refine ⟨(show (0 : Int) ≤ (q : Int) by omega), ?_⟩
     refine ⟨(show (q : Int) < (n : Int) by omega), ?_⟩
     ((conv=>whnf);repeat (refine Wa ?_;(repeat (first|refine Wb ?_|refine Wc ?_|refine Wd ?_|refine We ?_|refine Wf ?_));(conv=>whnf)))
     refine ⟨(show (0 : Int) ≤ (l : Int) by omega), ?_⟩
     refine ⟨(show (l : Int) < ((lsN n (drr n W q)).length : Int) by omega), ?_⟩
     rw [show (lsN n (drr n W (q : Int).toNat)).getD (l : Int).toNat 0 = drr n W q l from eg]
     ((conv=>whnf);repeat (refine Wa ?_;(repeat (first|refine Wb ?_|refine Wc ?_|refine Wd ?_|refine We ?_|refine Wf ?_));(conv=>whnf)))
     refine ⟨(show InR ((n : Int) * drr n W q l) from inr (by omega)), ?_⟩
     ((conv=>whnf);repeat (refine Wa ?_;(repeat (first|refine Wb ?_|refine Wc ?_|refine Wd ?_|refine We ?_|refine Wf ?_));(conv=>whnf)))
     refine ⟨(show InR (sumL (W 0) n - roS n W q + n * drr n W q l) from inr (by omega)), ?_⟩
     ((conv=>whnf);repeat (refine Wa ?_;(repeat (first|refine Wb ?_|refine Wc ?_|refine Wd ?_|refine We ?_|refine Wf ?_));(conv=>whnf)))
     refine ⟨ms1, ?_⟩
     ((conv=>whnf);repeat (refine Wa ?_;(repeat (first|refine Wb ?_|refine Wc ?_|refine Wd ?_|refine We ?_|refine Wf ?_));(conv=>whnf)))
     refine ⟨inr (by omega), ?_⟩
     ((conv=>whnf);repeat (refine Wa ?_;(repeat (first|refine Wb ?_|refine Wc ?_|refine Wd ?_|refine We ?_|refine Wf ?_));(conv=>whnf)))
     refine ⟨by repeat (first|exact trivial|exact rfl|exact namedTb|exact fun _ _=>namedTb|exact fun _=>trivial|exact fun _ _=>trivial|exact fun _ _ _=>trivial|exact fun _ _ _ _=>trivial|refine And.intro ?_ ?_), memA1 [some OR, none, some ⟨3, 1, 0, .il ((rnN n W q).take (l + 1))⟩] ⟨ObSub.refl _, ObSub.ii (by rw [hnx]; rfl), trivial⟩ ⟨⟨l + 1, _, hl', .inr ⟨0, rfl, rfl⟩, by rw [hnx]; rfl⟩, ?_⟩⟩
     simp [V.toInt, sel, Env.get]; omega
    ·((conv=>whnf);repeat (refine Wa ?_;(repeat (first|refine Wb ?_|refine Wc ?_|refine Wd ?_|refine We ?_|refine Wf ?_));(conv=>whnf)))
     refine ⟨(show (0 : Int) ≤ (q : Int) by omega), ?_⟩
     refine ⟨(show (q : Int) < (n : Int) by omega), ?_⟩
     ((conv=>whnf);repeat (refine Wa ?_;(repeat (first|refine Wb ?_|refine Wc ?_|refine Wd ?_|refine We ?_|refine Wf ?_));(conv=>whnf)))
     refine ⟨(show (0 : Int) ≤ (l : Int) by omega), ?_⟩
     refine ⟨(show (l : Int) < ((lsN n (drr n W q)).length : Int) by omega), ?_⟩
     rw [show (lsN n (drr n W (q : Int).toNat)).getD (l : Int).toNat 0 = drr n W q l from eg]
     ((conv=>whnf);repeat (refine Wa ?_;(repeat (first|refine Wb ?_|refine Wc ?_|refine Wd ?_|refine We ?_|refine Wf ?_));(conv=>whnf)))
     refine ⟨(show InR ((n : Int) * drr n W q l) from inr (by omega)), ?_⟩
     ((conv=>whnf);repeat (refine Wa ?_;(repeat (first|refine Wb ?_|refine Wc ?_|refine Wd ?_|refine We ?_|refine Wf ?_));(conv=>whnf)))
     refine ⟨(show InR (sumL (W 0) n - roS n W q + n * drr n W q l) from inr (by omega)), ?_⟩
     ((conv=>whnf);repeat (refine Wa ?_;(repeat (first|refine Wb ?_|refine Wc ?_|refine Wd ?_|refine We ?_|refine Wf ?_));(conv=>whnf)))
     refine eqn_self (x := ver) ?_
     ((conv=>whnf);repeat (refine Wa ?_;(repeat (first|refine Wb ?_|refine Wc ?_|refine Wd ?_|refine We ?_|refine Wf ?_));(conv=>whnf)))
     refine eqn_self (x := 0) ?_
     ((conv=>whnf);repeat (refine Wa ?_;(repeat (first|refine Wb ?_|refine Wc ?_|refine Wd ?_|refine We ?_|refine Wf ?_));(conv=>whnf)))
     refine ⟨msk (by omega), ?_⟩
     ((conv=>whnf);repeat (refine Wa ?_;(repeat (first|refine Wb ?_|refine Wc ?_|refine Wd ?_|refine We ?_|refine Wf ?_));(conv=>whnf)))
     refine ⟨inr (by omega), ?_⟩
     ((conv=>whnf);repeat (refine Wa ?_;(repeat (first|refine Wb ?_|refine Wc ?_|refine Wd ?_|refine We ?_|refine Wf ?_));(conv=>whnf)))
     refine ⟨by repeat (first|exact trivial|exact rfl|exact namedTb|exact fun _ _=>namedTb|exact fun _=>trivial|exact fun _ _=>trivial|exact fun _ _ _=>trivial|exact fun _ _ _ _=>trivial|refine And.intro ?_ ?_), memA1 [some OR, none, some ⟨3, 1, ver + 1, .il ((rnN n W q).take (l + 1))⟩] ⟨ObSub.refl _, ObSub.ii (by rw [hnx, List.take_length]; rfl), trivial⟩ ⟨⟨l + 1, _, hl', .inr ⟨ver + 1, rfl, rfl⟩, by rw [hnx, List.length_append]; rfl⟩, ?_⟩⟩
     simp [V.toInt, sel, Env.get]; omega
   ·obtain rfl : n = l := by omega
    have hfull : (rnN n W q).take n = rnN n W q := List.take_of_length_le (by omega)
    rw [hfull] at hO
    rcases hO with ⟨hl0, rfl, rfl⟩ | ⟨ver, rfl, rfl⟩
    ·rw [hl0] at hnl; simp at hnl; omega
    ·have hv : Nat.beq ver ver = true := Nat.beq_refl ver
     have e0 : ((rnN n W q).drop 0).take (rnN n W q).length = rnN n W q := by rw [List.drop_zero, List.take_length]
     ((conv=>whnf);repeat (refine Wa ?_;(repeat (first|refine Wb ?_|refine Wc ?_|refine Wd ?_|refine We ?_|refine Wf ?_));(conv=>whnf)))
     refine eqn_self (x := ver) ?_
     ((conv=>whnf);repeat (refine Wa ?_;(repeat (first|refine Wb ?_|refine Wc ?_|refine Wd ?_|refine We ?_|refine Wf ?_));(conv=>whnf)))
     refine APure.to (APure.arg2 (Sub.of (congrArg (V.ints false) (show (rnN n W q).take (rnN n W q).length = rnN n W q from List.take_length))) (Sub.refl _) c4) ?_
     ((conv=>whnf);repeat (refine Wa ?_;(repeat (first|refine Wb ?_|refine Wc ?_|refine Wd ?_|refine We ?_|refine Wf ?_));(conv=>whnf)))
     exact ⟨fr2' rfl trivial, trivial, (Q2 (agg2_eq' rfl rfl fun _ => rfl) rfl).trans e2⟩
set_option maxRecDepth 100000 in
theorem refLimits_pure (n : Nat) (W : Nat → List Int) (k : Int) (hdr : Wis n W → APure Try.prog 58 [tabV n W] (fun R => R = drW true n W)) : APure Try.prog 34 [tabV n W, .int k] (fun R => R = liV n W k) := by
 refine APure_of (X := cx 63) (cx_ok 63) rfl (rs := [(.cell 4 28, 28), (.cell 5 28, 28), (.tmp 6, 29)]) Try.func34 (by decide) rfl rfl rfl (by simp [cx]) (nofr2 nofrT (show NoFr (.int k) from trivial)) ?_
 intro hlen
 have c1 := refasked_pure n W k
 have e1 : riE n W k ≠ 0 → tup3 (pairV 0 0) (pairV 0 0) (.int (riE n W k)) = liV n W k := fun h => by unfold liV; rw [if_neg h]
 have e2 : riE n W k = 0 → tup3 (ratP (sumL (W 0) n - roS n W k.toNat) n) (ratP (sumL (W 0) n + coS n W k.toNat n) n) (.int 0) = liV n W k := fun h => by unfold liV; rw [if_pos h]
 generalize liV n W k = E at *
 ((conv=>whnf);repeat (refine Wa ?_;(repeat (first|refine Wb ?_|refine Wc ?_|refine Wd ?_|refine We ?_|refine Wf ?_));(conv=>whnf)))
 refine APure.to (APure.arg2 subT (Sub.refl _) c1) ?_
 ((conv=>whnf);repeat (refine Wa ?_;(repeat (first|refine Wb ?_|refine Wc ?_|refine Wd ?_|refine We ?_|refine Wf ?_));(conv=>whnf)))
 refine br_ne (fun h => ?_) (fun h => ?_)
 ·((conv=>whnf);repeat (refine Wa ?_;(repeat (first|refine Wb ?_|refine Wc ?_|refine Wd ?_|refine We ?_|refine Wf ?_));(conv=>whnf)))
  exact ⟨fr2' trivial trivial, fr2' trivial trivial, trivial, (Q3 (agg2_eq' rfl rfl fun _ => rfl) (agg2_eq' rfl rfl fun _ => rfl) rfl).trans (e1 h)⟩
 ·obtain ⟨hW, hk0, hkn⟩ := riE_inv h
  have e2 := e2 h
  obtain ⟨q, rfl⟩ : ∃ q : Nat, k = q := ⟨k.toNat, by omega⟩
  rw [Int.toNat_natCast] at e2
  have hk : q < n := by omega
  have h1 := hW.1
  have h5 := hW.2.1
  have c2 := refRent_pure n W
  rw [reV_t hW] at c2
  have c3 := hdr hW
  have b1 := rent_bd hW
  have b2 := roS_bd hW hk
  have b3 := coS_bd hW hk
  have hll : ∀ j, (lsN n (drr n W j)).length = n := fun j => lsN_len _ _
  have bq := sumL_bd2 (row_bet hW hk)
  ((conv=>whnf);repeat (refine Wa ?_;(repeat (first|refine Wb ?_|refine Wc ?_|refine Wd ?_|refine We ?_|refine Wf ?_));(conv=>whnf)))
  refine APure.to (APure.arg1 subT c2) ?_
  ((conv=>whnf);repeat (refine Wa ?_;(repeat (first|refine Wb ?_|refine Wc ?_|refine Wd ?_|refine We ?_|refine Wf ?_));(conv=>whnf)))
  refine APure.to (APure.arg1 subT c3) ?_
  ((conv=>whnf);repeat (refine Wa ?_;(repeat (first|refine Wb ?_|refine Wc ?_|refine Wd ?_|refine We ?_|refine Wf ?_));(conv=>whnf)))
  refine AW_loopA (X := cx 63) (cx_ok 63) [0, 1, 4, 5, 6, 10, 11, 12, 13] (fun t => Nat.blt t 2) (fun vs M => ∃ j : Nat, j ≤ n ∧ vs = [tabV n W, .int (q : Int), .ptr 0 0 0 0, .ptr 1 0 0 0, .int 0, drW true n W, .int (sumL (W 0) n - sumL (lsN n (drr n W q)) j), .int (sumL (W 0) n + coS n W q j), .int j] ∧ M = [some ⟨28, 2, 0, .one [.int 0, .int 0]⟩, some ⟨28, 2, 0, .one [.int 0, .int 0]⟩])
   (fun vs _ => n - (vs.getD 8 .any).toInt.toNat) (fun t ht => by have : t < 2 := ht; simp; omega) ?_ ?_
  ·exact same0 ⟨0, Nat.zero_le _, by rw [show sumL (W 0) n - sumL (lsN n (drr n W q)) 0 = sumL (W 0) n by simp [sumL], show sumL (W 0) n + coS n W q 0 = sumL (W 0) n by simp [coS]]; rfl, rfl⟩
  rintro vs M ⟨j, hj, rfl, rfl⟩
  have bj := bq j (by rw [hll]; omega)
  have cj := b3 j (by omega)
  ((conv=>whnf);repeat (refine Wa ?_;(repeat (first|refine Wb ?_|refine Wc ?_|refine Wd ?_|refine We ?_|refine Wf ?_));(conv=>whnf)))
  refine br_dec (fun hlt => ?_) (fun hge => ?_)
  ·have hj' : j < n := by omega
   have bj' := bq (j + 1) (by rw [hll]; omega)
   have cj' := b3 (j + 1) (by omega)
   have hs : sumL (lsN n (drr n W q)) (j + 1) = sumL (lsN n (drr n W q)) j + drr n W q j := by rw [← lsN_get (f := drr n W q) hj']; rfl
   have hc : coS n W q (j + 1) = coS n W q j + drr n W j q := rfl
   have eg : (lsN n (drr n W q)).getD j 0 = drr n W q j := lsN_get hj'
   have eg2 : (lsN n (drr n W j)).getD q 0 = drr n W j q := lsN_get hk
   have hq := hll q
   have hqj := hll j
   ((conv=>whnf);repeat (refine Wa ?_;(repeat (first|refine Wb ?_|refine Wc ?_|refine Wd ?_|refine We ?_|refine Wf ?_));(conv=>whnf)))
   refine ⟨(show (0 : Int) ≤ (q : Int) by omega), ?_⟩
   refine ⟨(show (q : Int) < (n : Int) by omega), ?_⟩
   ((conv=>whnf);repeat (refine Wa ?_;(repeat (first|refine Wb ?_|refine Wc ?_|refine Wd ?_|refine We ?_|refine Wf ?_));(conv=>whnf)))
   refine ⟨(show (0 : Int) ≤ (j : Int) by omega), ?_⟩
   refine ⟨(show (j : Int) < ((lsN n (drr n W q)).length : Int) by omega), ?_⟩
   rw [show (lsN n (drr n W (q : Int).toNat)).getD (j : Int).toNat 0 = drr n W q j from eg]
   ((conv=>whnf);repeat (refine Wa ?_;(repeat (first|refine Wb ?_|refine Wc ?_|refine Wd ?_|refine We ?_|refine Wf ?_));(conv=>whnf)))
   refine ⟨(show InR (sumL (W 0) n - sumL (lsN n (drr n W q)) j - drr n W q j) from inr (by omega)), ?_⟩
   ((conv=>whnf);repeat (refine Wa ?_;(repeat (first|refine Wb ?_|refine Wc ?_|refine Wd ?_|refine We ?_|refine Wf ?_));(conv=>whnf)))
   refine ⟨(show (0 : Int) ≤ (j : Int) by omega), ?_⟩
   refine ⟨(show (j : Int) < (n : Int) by omega), ?_⟩
   ((conv=>whnf);repeat (refine Wa ?_;(repeat (first|refine Wb ?_|refine Wc ?_|refine Wd ?_|refine We ?_|refine Wf ?_));(conv=>whnf)))
   refine ⟨(show (0 : Int) ≤ (q : Int) by omega), ?_⟩
   refine ⟨(show (q : Int) < ((lsN n (drr n W j)).length : Int) by omega), ?_⟩
   rw [show (lsN n (drr n W (j : Int).toNat)).getD (q : Int).toNat 0 = drr n W j q from eg2]
   ((conv=>whnf);repeat (refine Wa ?_;(repeat (first|refine Wb ?_|refine Wc ?_|refine Wd ?_|refine We ?_|refine Wf ?_));(conv=>whnf)))
   refine ⟨(show InR (sumL (W 0) n + coS n W q j + drr n W j q) from inr (by omega)), ?_⟩
   ((conv=>whnf);repeat (refine Wa ?_;(repeat (first|refine Wb ?_|refine Wc ?_|refine Wd ?_|refine We ?_|refine Wf ?_));(conv=>whnf)))
   refine ⟨inr (by omega), ?_⟩
   ((conv=>whnf);repeat (refine Wa ?_;(repeat (first|refine Wb ?_|refine Wc ?_|refine Wd ?_|refine We ?_|refine Wf ?_));(conv=>whnf)))
   refine ⟨by repeat (first|exact trivial|exact rfl|exact namedTb|exact fun _ _=>namedTb|exact fun _=>trivial|exact fun _ _=>trivial|exact fun _ _ _=>trivial|exact fun _ _ _ _=>trivial|refine And.intro ?_ ?_), memA1 [some ⟨28, 2, 0, .one [.int 0, .int 0]⟩, some ⟨28, 2, 0, .one [.int 0, .int 0]⟩] ⟨ObSub.refl _, ObSub.refl _, trivial⟩ ⟨⟨j + 1, hj', by rw [hs, hc, show sumL (W 0) n - (sumL (lsN n (drr n W q)) j + drr n W q j) = sumL (W 0) n - sumL (lsN n (drr n W q)) j - drr n W q j by omega, show sumL (W 0) n + (coS n W q j + drr n W j q) = sumL (W 0) n + coS n W q j + drr n W j q by omega]; rfl, rfl⟩, ?_⟩⟩
   simp [V.toInt, sel, Env.get]; omega
  ·obtain rfl : n = j := by omega
   have bn := coS_bd hW hk n (Nat.le_refl _)
   rw [show sumL (W 0) n - sumL (lsN n (drr n W q)) n = sumL (W 0) n - roS n W q from rfl]
   have c4 := Ratio_pure (sumL (W 0) n - roS n W q) n (by unfold Sm; omega) (by unfold Sm; omega) (by omega)
   have c5 := Ratio_pure (sumL (W 0) n + coS n W q n) n (by unfold Sm; omega) (by unfold Sm; omega) (by omega)
   generalize sumL (W 0) n - roS n W q = s1 at *
   generalize sumL (W 0) n + coS n W q n = s2 at *
   ((conv=>whnf);repeat (refine Wa ?_;(repeat (first|refine Wb ?_|refine Wc ?_|refine Wd ?_|refine We ?_|refine Wf ?_));(conv=>whnf)))
   refine APure.to c4 ?_
   ((conv=>whnf);repeat (refine Wa ?_;(repeat (first|refine Wb ?_|refine Wc ?_|refine Wd ?_|refine We ?_|refine Wf ?_));(conv=>whnf)))
   refine APure.to c5 ?_
   ((conv=>whnf);repeat (refine Wa ?_;(repeat (first|refine Wb ?_|refine Wc ?_|refine Wd ?_|refine We ?_|refine Wf ?_));(conv=>whnf)))
   exact ⟨fr2' trivial trivial, fr2' trivial trivial, trivial, (Q3 (agg2_eq' rfl rfl fun _ => rfl) (agg2_eq' rfl rfl fun _ => rfl) rfl).trans e2⟩
end Go.Tri
