/-
 LAW: ShareContent.
-/
import Derived.Test.YtpolaegggclhcaaM17
import Derived.Test.YtpolaegggclhcaaB43
import Derived.Test.YtpolaegggclhcaaB46
import Derived.Test.YtpolaegggclhcaaE1
namespace Go.Tri
open Go.Proofs

theorem nofr4T {n : Nat} {W : Nat → List Int} {b c d : V} (hb : NoFr b) (hc : NoFr c) (hd : NoFr d) : ∀ x ∈ [tabV n W, b, c, d], NoFr x := by intro x hx; simp at hx; rcases hx with rfl | rfl | rfl | rfl; exact nofrT; exact hb; exact hc; exact hd
open Classical in
set_option maxRecDepth 100000 in
set_option maxHeartbeats 1600000 in
theorem ShareContent_pure (n : Nat) (W : Nat → List Int) (a : Int) (ha : 0 ≤ a ∧ a ≤ 255) (r z : List Int) (d : Int) : APure Try.prog 11 [tabV n W, .lit (.int .u8 a), .ints false r, parV false z d] (fun R => R = .bool true) := by
 refine APure_of (X := cx 159) (cx_ok 159) rfl (rs := [(.tmp 8, 4)]) Try.func11 (by decide) rfl rfl rfl (by simp [cx]) (nofr4T (show NoFr (.lit (.int .u8 a)) from trivial) (show NoFr (.ints false r) from rfl) nofrPa) ?_
 intro hlen
 have fin := alive_pure
 have c0 := small_pure n W
 have c1 := refRent_pure n W
 have cf := few_pure r z []
 by_cases hW : ¬ Wis n W
 ·rw [show reV n W = tup2 (.int 0) (.bool false) from if_neg hW] at c1
  ((conv=>whnf);repeat (refine Wa ?_;(repeat (first|refine Wb ?_|refine Wc ?_|refine Wd ?_|refine We ?_|refine Wf ?_));(conv=>whnf)))
  refine APure.to (APure.arg1 subT c1) ?_
  ((conv=>whnf);repeat (refine Wa ?_;(repeat (first|refine Wb ?_|refine Wc ?_|refine Wd ?_|refine We ?_|refine Wf ?_));(conv=>whnf)))
  refine APure.to (APure.arg1 subT c0) ?_
  ((conv=>whnf);repeat (refine Wa ?_;(repeat (first|refine Wb ?_|refine Wc ?_|refine Wd ?_|refine We ?_|refine Wf ?_));(conv=>whnf)))
  refine br_not ?_
  refine br_mk (fun h => ?_) (fun h => ?_)
  ·((conv=>whnf);repeat (refine Wa ?_;(repeat (first|refine Wb ?_|refine Wc ?_|refine Wd ?_|refine We ?_|refine Wf ?_));(conv=>whnf)))
   refine APure.to fin ?_
   ((conv=>whnf);repeat (refine Wa ?_;(repeat (first|refine Wb ?_|refine Wc ?_|refine Wd ?_|refine We ?_|refine Wf ?_));(conv=>whnf)))
   exact ⟨trivial, rfl⟩
  ·((conv=>whnf);repeat (refine Wa ?_;(repeat (first|refine Wb ?_|refine Wc ?_|refine Wd ?_|refine We ?_|refine Wf ?_));(conv=>whnf)))
   refine APure.to fin ?_
   ((conv=>whnf);repeat (refine Wa ?_;(repeat (first|refine Wb ?_|refine Wc ?_|refine Wd ?_|refine We ?_|refine Wf ?_));(conv=>whnf)))
   exact ⟨trivial, rfl⟩
 have hW : Wis n W := Classical.not_not.1 hW
 have h1 := hW.1
 have h5 := hW.2.1
 have hS : Sml n W := ⟨by omega, fun i hi => by rw [(hW.2.2 i hi).1]; omega⟩
 rw [show reV n W = tup2 (.int (sumL (W 0) n)) (.bool true) from if_pos hW] at c1
 rw [decide_eq_true hS] at c0
 by_cases hfew : ¬ (r.length ≤ 30 ∧ z.length ≤ 30 ∧ ([] : List Int).length ≤ 30)
 ·rw [decide_eq_false hfew] at cf
  ((conv=>whnf);repeat (refine Wa ?_;(repeat (first|refine Wb ?_|refine Wc ?_|refine Wd ?_|refine We ?_|refine Wf ?_));(conv=>whnf)))
  refine APure.to (APure.arg1 subT c1) ?_
  ((conv=>whnf);repeat (refine Wa ?_;(repeat (first|refine Wb ?_|refine Wc ?_|refine Wd ?_|refine We ?_|refine Wf ?_));(conv=>whnf)))
  refine APure.to (APure.arg1 subT c0) ?_
  ((conv=>whnf);repeat (refine Wa ?_;(repeat (first|refine Wb ?_|refine Wc ?_|refine Wd ?_|refine We ?_|refine Wf ?_));(conv=>whnf)))
  refine APure.to (APure.arg3 (Sub.refl _) (Sub.refl _) (Sub.refl _) cf) ?_
  ((conv=>whnf);repeat (refine Wa ?_;(repeat (first|refine Wb ?_|refine Wc ?_|refine Wd ?_|refine We ?_|refine Wf ?_));(conv=>whnf)))
  refine APure.to fin ?_
  ((conv=>whnf);repeat (refine Wa ?_;(repeat (first|refine Wb ?_|refine Wc ?_|refine Wd ?_|refine We ?_|refine Wf ?_));(conv=>whnf)))
  exact ⟨trivial, rfl⟩
 have hfew := Classical.not_not.1 hfew
 rw [decide_eq_true hfew] at cf
 have hAm := (asB_is (n := n) W).1
 have hAb := (asB_is (n := n) W).2
 have c3 := Assign_pure n W
 rw [show assV n W = tup3 (.ints true (asB n W)) (.int (wrS W (asB n W) n)) (.int 0) from if_pos hW] at c3
 obtain ⟨k, hk, hkn⟩ : ∃ k : Nat, Int.tmod a n = k ∧ k < n := ⟨(a % n).toNat, by
  rw [Int.tmod_eq_emod_of_nonneg ha.1]
  have := Int.emod_nonneg a (show (n : Int) ≠ 0 by omega)
  omega, by
  have := Int.emod_lt_of_pos a (show 0 < (n : Int) by omega)
  have := Int.emod_nonneg a (show (n : Int) ≠ 0 by omega)
  omega⟩
 have c4 := Rents_pure n W (k : Nat)
 rw [show rtV n W (k : Nat) = tup2 (parV true (rN n W k) (rD n W k)) (.int 0) from if_pos (show riE n W (k : Nat) = 0 from (if_pos hW).trans (if_pos ⟨by omega, by omega⟩))] at c4
 have hRt := rts_rN hW hkn
 have c5 := Envy_pure n W (asB n W) (rN n W k) (rD n W k)
 rw [show enV n W (asB n W) (rN n W k) (rD n W k) = tup2 (prsV true (envT n W (asB n W) (rN n W k) (rD n W k) n)) (.int 0) from if_pos ⟨hW, hAm, hRt⟩, (envT_nil n).2 (rN_noE hW hkn)] at c5
 have c6 := Envy_pure n W r z d
 have c7 := Envy_pure n W (asB n W) z d
 generalize rN n W k = rn at *
 generalize rD n W k = rd at *
 generalize hAs : asB n W = A at *
 ((conv=>whnf);repeat (refine Wa ?_;(repeat (first|refine Wb ?_|refine Wc ?_|refine Wd ?_|refine We ?_|refine Wf ?_));(conv=>whnf)))
 refine APure.to (APure.arg1 subT c1) ?_
 ((conv=>whnf);repeat (refine Wa ?_;(repeat (first|refine Wb ?_|refine Wc ?_|refine Wd ?_|refine We ?_|refine Wf ?_));(conv=>whnf)))
 refine APure.to (APure.arg1 subT c0) ?_
 ((conv=>whnf);repeat (refine Wa ?_;(repeat (first|refine Wb ?_|refine Wc ?_|refine Wd ?_|refine We ?_|refine Wf ?_));(conv=>whnf)))
 refine APure.to (APure.arg3 (Sub.refl _) (Sub.refl _) (Sub.refl _) cf) ?_
 ((conv=>whnf);repeat (refine Wa ?_;(repeat (first|refine Wb ?_|refine Wc ?_|refine Wd ?_|refine We ?_|refine Wf ?_));(conv=>whnf)))
 refine APure.to (APure.arg1 subT c3) ?_
 ((conv=>whnf);repeat (refine Wa ?_;(repeat (first|refine Wb ?_|refine Wc ?_|refine Wd ?_|refine We ?_|refine Wf ?_));(conv=>whnf)))
 refine ⟨(show InR a from inr (by omega)), ?_⟩
 ((conv=>whnf);repeat (refine Wa ?_;(repeat (first|refine Wb ?_|refine Wc ?_|refine Wd ?_|refine We ?_|refine Wf ?_));(conv=>whnf)))
 refine ⟨(show (n : Int) ≠ 0 by omega), ?_⟩
 rw [hk]
 ((conv=>whnf);repeat (refine Wa ?_;(repeat (first|refine Wb ?_|refine Wc ?_|refine Wd ?_|refine We ?_|refine Wf ?_));(conv=>whnf)))
 refine APure.to (APure.arg2 subT (Sub.refl _) c4) ?_
 ((conv=>whnf);repeat (refine Wa ?_;(repeat (first|refine Wb ?_|refine Wc ?_|refine Wd ?_|refine We ?_|refine Wf ?_));(conv=>whnf)))
 refine APure.to (APure.arg3 subT (Sub.refl _) (sub2 rfl rfl) c5) ?_
 by_cases hE : ¬ evOk n W r z d
 ·obtain ⟨f, hf⟩ : ∃ f : Int, f = 2 := ⟨_, rfl⟩
  rw [show enV n W r z d = tup2 (.emp true) (.int 2) from if_neg hE, ← hf] at c6
  ((conv=>whnf);repeat (refine Wa ?_;(repeat (first|refine Wb ?_|refine Wc ?_|refine Wd ?_|refine We ?_|refine Wf ?_));(conv=>whnf)))
  refine APure.to (APure.arg3 subT (Sub.refl _) (sub2 rfl rfl) c6) ?_
  ((conv=>whnf);repeat (refine Wa ?_;(repeat (first|refine Wb ?_|refine Wc ?_|refine Wd ?_|refine We ?_|refine Wf ?_));(conv=>whnf)))
  refine br_ne (fun _ => ?_) (fun h => absurd (show f = 0 from h) (by omega))
  ((conv=>whnf);repeat (refine Wa ?_;(repeat (first|refine Wb ?_|refine Wc ?_|refine Wd ?_|refine We ?_|refine Wf ?_));(conv=>whnf)))
  refine br_eq (fun _ => ?_) (fun h => absurd hf h)
  ((conv=>whnf);repeat (refine Wa ?_;(repeat (first|refine Wb ?_|refine Wc ?_|refine Wd ?_|refine We ?_|refine Wf ?_));(conv=>whnf)))
  refine APure.to fin ?_
  ((conv=>whnf);repeat (refine Wa ?_;(repeat (first|refine Wb ?_|refine Wc ?_|refine Wd ?_|refine We ?_|refine Wf ?_));(conv=>whnf)))
  exact ⟨trivial, rfl⟩
 have hE : evOk n W r z d := Classical.not_not.1 hE
 have hr := hE.2.1
 have hd := hE.2.2.1.2.1
 have hrg := asg_get.1 hr
 have hAsg : Asg n r := ⟨hrg.1, hrg.2.1⟩
 have c8 := refIsAssignment_pure n r (by omega)
 rw [decide_eq_true hr] at c8
 rw [show enV n W r z d = tup2 (prsV true (envT n W r z d n)) (.int 0) from if_pos hE] at c6
 rw [show enV n W A z d = tup2 (prsV true (envT n W A z d n)) (.int 0) from if_pos ⟨hW, hAm, hE.2.2⟩] at c7
 have q1 : envT n W r z d n = [] ↔ NoE n W r z d := envT_nil n
 have q2 : envT n W A z d n = [] ↔ NoE n W A z d := envT_nil n
 have q3 : NoE n W r z d → wrS W r n = wrS W A n ∧ NoE n W A z d := fun h => by
  have := noE_best (W := W) hd hr h
  rwa [hAs] at this
 have q4 : NoE n W A z d → wrS W r n = wrS W A n → NoE n W r z d := fun h h' => by
  rw [← hAs] at h h'
  exact noE_other hr h h'
 rw [← q1, ← q2] at q3
 rw [← q1, ← q2] at q4
 have q5 : wrS W r n ≤ wrS W A n := hAb r hr
 clear q1 q2
 generalize envT n W r z d n = L1 at *
 generalize envT n W A z d n = L2 at *
 ((conv=>whnf);repeat (refine Wa ?_;(repeat (first|refine Wb ?_|refine Wc ?_|refine Wd ?_|refine We ?_|refine Wf ?_));(conv=>whnf)))
 refine APure.to (APure.arg3 subT (Sub.refl _) (sub2 rfl rfl) c6) ?_
 ((conv=>whnf);repeat (refine Wa ?_;(repeat (first|refine Wb ?_|refine Wc ?_|refine Wd ?_|refine We ?_|refine Wf ?_));(conv=>whnf)))
 refine APure.to c8 ?_
 ((conv=>whnf);repeat (refine Wa ?_;(repeat (first|refine Wb ?_|refine Wc ?_|refine Wd ?_|refine We ?_|refine Wf ?_));(conv=>whnf)))
 refine AW_loop (X := cx 159) (cx_ok 159) [0, 2, 7, 11, 12, 18, 19, 20] (fun vs M => ∃ (k : Nat) (o : Option Ob), k ≤ n ∧ vs = [tabV n W, .ints false r, .ptr 0 0 0 0, .ints true A, .int (wrS W A n), prsV true L1, .int (wrS W r k), .int k] ∧ M = [some (zOb z d), o]) (fun vs _ => (n - (vs.getD 7 .any).toInt).toNat) ?_ ?_
 ·exact ⟨0, _, Nat.zero_le _, rfl, rfl⟩
 rintro vs M ⟨k, o, hk, rfl, rfl⟩
 ((conv=>whnf);repeat (refine Wa ?_;(repeat (first|refine Wb ?_|refine Wc ?_|refine Wd ?_|refine We ?_|refine Wf ?_));(conv=>whnf)))
 refine br_dec (fun hlt => ?_) (fun hge => ?_)
 ·have hk' : k < n := by omega
  have b1 := wrS_bd hW hAsg k hk
  have b2 := wrS_bd hW hAsg (k + 1) hk'
  have b3 := hrg.2.1 k hk'
  have b4 := (hW.2.2 k hk').1
  ((conv=>whnf);repeat (refine Wa ?_;(repeat (first|refine Wb ?_|refine Wc ?_|refine Wd ?_|refine We ?_|refine Wf ?_));(conv=>whnf)))
  refine AW_draw (X := cx 159) (cx_ok 159) mixed (by kernel_rfl) ?_
  ((conv=>whnf);repeat (refine Wa ?_;(repeat (first|refine Wb ?_|refine Wc ?_|refine Wd ?_|refine We ?_|refine Wf ?_));(conv=>whnf)))
  refine ⟨(show (0 : Int) ≤ (k : Int) by omega), ?_⟩
  refine ⟨(show (k : Int) < (n : Int) by omega), ?_⟩
  ((conv=>whnf);repeat (refine Wa ?_;(repeat (first|refine Wb ?_|refine Wc ?_|refine Wd ?_|refine We ?_|refine Wf ?_));(conv=>whnf)))
  refine ⟨(show (0 : Int) ≤ (k : Int) by omega), ?_⟩
  refine ⟨(show (k : Int) < (r.length : Int) by rw [hrg.1]; omega), ?_⟩
  ((conv=>whnf);repeat (refine Wa ?_;(repeat (first|refine Wb ?_|refine Wc ?_|refine Wd ?_|refine We ?_|refine Wf ?_));(conv=>whnf)))
  refine ⟨(show (0 : Int) ≤ r.getD k 0 by omega), ?_⟩
  refine ⟨(show r.getD k 0 < ((W k).length : Int) by rw [b4]; omega), ?_⟩
  ((conv=>whnf);repeat (refine Wa ?_;(repeat (first|refine Wb ?_|refine Wc ?_|refine Wd ?_|refine We ?_|refine Wf ?_));(conv=>whnf)))
  refine ⟨(show InR (wrS W r (k + 1)) from inr (by omega)), ?_⟩
  ((conv=>whnf);repeat (refine Wa ?_;(repeat (first|refine Wb ?_|refine Wc ?_|refine Wd ?_|refine We ?_|refine Wf ?_));(conv=>whnf)))
  refine ⟨inr (by omega), ?_⟩
  ((conv=>whnf);repeat (refine Wa ?_;(repeat (first|refine Wb ?_|refine Wc ?_|refine Wd ?_|refine We ?_|refine Wf ?_));(conv=>whnf)))
  refine ⟨⟨k + 1, o, hk', rfl, rfl⟩, ?_⟩
  simp [V.toInt, sel, Env.get]; omega
 obtain rfl : n = k := by omega
 generalize wrS W r n = S1 at *
 generalize wrS W A n = S2 at *
 ((conv=>whnf);repeat (refine Wa ?_;(repeat (first|refine Wb ?_|refine Wc ?_|refine Wd ?_|refine We ?_|refine Wf ?_));(conv=>whnf)))
 refine br_dec (fun h => absurd (show S1 > S2 from h) (by omega)) (fun _ => ?_)
 ((conv=>whnf);repeat (refine Wa ?_;(repeat (first|refine Wb ?_|refine Wc ?_|refine Wd ?_|refine We ?_|refine Wf ?_));(conv=>whnf)))
 refine APure.to (APure.arg3 subT (Sub.refl _) (sub2 rfl rfl) c7) ?_
 ((conv=>whnf);repeat (refine Wa ?_;(repeat (first|refine Wb ?_|refine Wc ?_|refine Wd ?_|refine We ?_|refine Wf ?_));(conv=>whnf)))
 refine br_eq (fun h => ?_) (fun h => ?_)
 ·have h : (L1.length : Int) = 0 := h
  obtain ⟨g1, g2⟩ := q3 (List.length_eq_zero_iff.1 (by omega))
  subst g1 g2
  ((conv=>whnf);repeat (refine Wa ?_;(repeat (first|refine Wb ?_|refine Wc ?_|refine Wd ?_|refine We ?_|refine Wf ?_));(conv=>whnf)))
  refine br_eq (fun _ => ?_) (fun h => absurd rfl h)
  ((conv=>whnf);repeat (refine Wa ?_;(repeat (first|refine Wb ?_|refine Wc ?_|refine Wd ?_|refine We ?_|refine Wf ?_));(conv=>whnf)))
  refine APure.to fin ?_
  ((conv=>whnf);repeat (refine Wa ?_;(repeat (first|refine Wb ?_|refine Wc ?_|refine Wd ?_|refine We ?_|refine Wf ?_));(conv=>whnf)))
  exact ⟨trivial, rfl⟩
 ·have h : (L1.length : Int) ≠ 0 := h
  ((conv=>whnf);repeat (refine Wa ?_;(repeat (first|refine Wb ?_|refine Wc ?_|refine Wd ?_|refine We ?_|refine Wf ?_));(conv=>whnf)))
  refine br_dec (fun h2 => ?_) (fun h2 => ?_)
  ·((conv=>whnf);repeat (refine Wa ?_;(repeat (first|refine Wb ?_|refine Wc ?_|refine Wd ?_|refine We ?_|refine Wf ?_));(conv=>whnf)))
   refine APure.to fin ?_
   ((conv=>whnf);repeat (refine Wa ?_;(repeat (first|refine Wb ?_|refine Wc ?_|refine Wd ?_|refine We ?_|refine Wf ?_));(conv=>whnf)))
   exact ⟨trivial, rfl⟩
  ·have h2 : ¬ S1 < S2 := h2
   have h3 : ¬ L2 = [] := fun e => h (by rw [q4 e (by omega)]; rfl)
   have h4 : 0 < L2.length := by
    rcases Nat.eq_zero_or_pos L2.length with e | e
    ·exact absurd (List.length_eq_zero_iff.1 e) h3
    ·exact e
   ((conv=>whnf);repeat (refine Wa ?_;(repeat (first|refine Wb ?_|refine Wc ?_|refine Wd ?_|refine We ?_|refine Wf ?_));(conv=>whnf)))
   refine br_dec (fun _ => ?_) (fun h5 => absurd (show (L2.length : Int) > 0 by omega) h5)
   ((conv=>whnf);repeat (refine Wa ?_;(repeat (first|refine Wb ?_|refine Wc ?_|refine Wd ?_|refine We ?_|refine Wf ?_));(conv=>whnf)))
   refine APure.to fin ?_
   ((conv=>whnf);repeat (refine Wa ?_;(repeat (first|refine Wb ?_|refine Wc ?_|refine Wd ?_|refine We ?_|refine Wf ?_));(conv=>whnf)))
   exact ⟨trivial, rfl⟩
end Go.Tri
