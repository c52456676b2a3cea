/-
 CONTRACTS: checkRents, the pairs of envy, Envy.
-/
import Derived.Test.YtpolaegggclhcaaGreatB41
import Derived.Test.YtpolaegggclhcaaGreatB35
import Derived.Test.YtpolaegggclhcaaGreatB23
namespace Go.Tri
open Go.Proofs

/-- Rents that a table may have. -/
def Rts (n : Nat) (W : Nat → List Int) (z : List Int) (d : Int) : Prop := IsQ z d n (-5000) 5000 ∧ sumL z n = sumL (W 0) n * d
def evOk (n : Nat) (W : Nat → List Int) (r z : List Int) (d : Int) : Prop := Wis n W ∧ r ∈ asg n n [] ∧ Rts n W z d
theorem rts_bet {n : Nat} {z : List Int} {d : Int} (h : IsQ z d n (-5000) 5000) : bet (-50000000000) 50000000000 z z.length := fun j hj => by
 have h1 := h.2.2.2.1 j (by have := h.1; omega)
 have h2 := h.2.1
 have h3 := h.2.2.1
 omega
theorem rent_mul {s d : Int} (h : 0 ≤ s ∧ s ≤ 5000) (hd : 1 ≤ d ∧ d ≤ 10000000) : 0 ≤ s * d ∧ s * d ≤ 50000000000 := by
 have h1 : s * d ≤ 5000 * d := Int.mul_le_mul_of_nonneg_right h.2 (by omega)
 have h2 : 0 ≤ s * d := Int.mul_nonneg h.1 (by omega)
 omega
open Classical in
noncomputable def ceE (n : Nat) (W : Nat → List Int) (r z : List Int) (d : Int) : Int := if evOk n W r z d then 0 else 2
open Classical in
set_option maxRecDepth 100000 in
theorem checkRents_pure (n : Nat) (W : Nat → List Int) (r z : List Int) (d : Int) : APure Tryz.prog 22 [tabV n W, .ints false r, parV false z d] (fun R => R = .int (ceE n W r z d)) := by
 refine APure_of (X := cx 37) (cx_ok 37) rfl (rs := [(.tmp 6, 30)]) Tryz.func22 (by decide) rfl rfl rfl (by simp [cx]) (nofr3 nofrT (show NoFr (.ints false r) from rfl) nofrPa) ?_
 intro hlen
 have c1 := checkWishes_pure n W
 have good : evOk n W r z d → V.int 0 = V.int (ceE n W r z d) := fun h => by unfold ceE; rw [if_pos h]
 have bad : ¬ evOk n W r z d → V.int 2 = V.int (ceE n W r z d) := fun h => by unfold ceE; rw [if_neg h]
 generalize ceE n W r z d = E at *
 by_cases hW : Wis n W
 ·have h1 := hW.1
  have h5 := hW.2.1
  have e1 : wiE n W = 0 := by unfold wiE; rw [if_pos hW]
  rw [e1] at c1
  have c2 := isAssignment_pure r n h1 h5
  have c3 := AreParts2_pure z d n (by omega) (-5000) 5000 (by omega) (by omega)
  have c5 := rent_pure hW
  have hrb := rent_bd hW
  ((conv=>whnf);repeat (refine Wa ?_;(repeat (first|refine Wb ?_|refine Wc ?_|refine Wd ?_|refine We ?_|refine Wf ?_));(conv=>whnf)))
  refine APure.to (APure.arg1 subT c1) ?_
  ((conv=>whnf);repeat (refine Wa ?_;(repeat (first|refine Wb ?_|refine Wc ?_|refine Wd ?_|refine We ?_|refine Wf ?_));(conv=>whnf)))
  refine AW_draw (X := cx 37) (cx_ok 37) mixed (by kernel_rfl) ?_
  ((conv=>whnf);repeat (refine Wa ?_;(repeat (first|refine Wb ?_|refine Wc ?_|refine Wd ?_|refine We ?_|refine Wf ?_));(conv=>whnf)))
  refine ⟨_, c2, ?_⟩
  ((conv=>whnf);repeat (refine Wa ?_;(repeat (first|refine Wb ?_|refine Wc ?_|refine Wd ?_|refine We ?_|refine Wf ?_));(conv=>whnf)))
  refine br_not ?_
  refine br_dec (fun h2 => ?_) (fun h2 => ?_)
  ·have h2 : r ∈ asg n n [] := h2
   ((conv=>whnf);repeat (refine Wa ?_;(repeat (first|refine Wb ?_|refine Wc ?_|refine Wd ?_|refine We ?_|refine Wf ?_));(conv=>whnf)))
   refine ⟨_, APure.arg4 (sub2 rfl rfl) (Sub.refl _) (Sub.refl _) (Sub.refl _) c3, ?_⟩
   ((conv=>whnf);repeat (refine Wa ?_;(repeat (first|refine Wb ?_|refine Wc ?_|refine Wd ?_|refine We ?_|refine Wf ?_));(conv=>whnf)))
   refine br_not ?_
   refine br_dec (fun h3 => ?_) (fun h3 => ?_)
   ·have h3 : IsQ z d n (-5000) 5000 := h3
    have hz : z.length = n := h3.1
    have hd : 1 ≤ d ∧ d ≤ 10000000 := ⟨h3.2.1, h3.2.2.1⟩
    have hb : bet (-50000000000) 50000000000 z z.length := rts_bet h3
    have c4 := sum2_pure z 50000000000 (by omega) (by omega) hb
    rw [hz] at c4
    have hm : 0 ≤ sumL (W 0) n * d ∧ sumL (W 0) n * d ≤ 50000000000 := rent_mul hrb hd
    ((conv=>whnf);repeat (refine Wa ?_;(repeat (first|refine Wb ?_|refine Wc ?_|refine Wd ?_|refine We ?_|refine Wf ?_));(conv=>whnf)))
    refine ⟨_, c4, ?_⟩
    ((conv=>whnf);repeat (refine Wa ?_;(repeat (first|refine Wb ?_|refine Wc ?_|refine Wd ?_|refine We ?_|refine Wf ?_));(conv=>whnf)))
    refine ⟨_, APure.arg1 subT c5, ?_⟩
    ((conv=>whnf);repeat (refine Wa ?_;(repeat (first|refine Wb ?_|refine Wc ?_|refine Wd ?_|refine We ?_|refine Wf ?_));(conv=>whnf)))
    refine ⟨(show InR (sumL (W 0) n * d) from inr (by omega)), ?_⟩
    ((conv=>whnf);repeat (refine Wa ?_;(repeat (first|refine Wb ?_|refine Wc ?_|refine Wd ?_|refine We ?_|refine Wf ?_));(conv=>whnf)))
    refine br_ne (fun h4 => ?_) (fun h4 => ?_)
    ·have h4 : sumL z n ≠ sumL (W 0) n * d := h4
     ((conv=>whnf);repeat (refine Wa ?_;(repeat (first|refine Wb ?_|refine Wc ?_|refine Wd ?_|refine We ?_|refine Wf ?_));(conv=>whnf)))
     exact ⟨trivial, bad (fun h => h4 h.2.2.2)⟩
    ·have h4 : sumL z n = sumL (W 0) n * d := h4
     ((conv=>whnf);repeat (refine Wa ?_;(repeat (first|refine Wb ?_|refine Wc ?_|refine Wd ?_|refine We ?_|refine Wf ?_));(conv=>whnf)))
     exact ⟨trivial, good ⟨hW, h2, h3, h4⟩⟩
   ·have h3 : ¬ IsQ z d n (-5000) 5000 := h3
    ((conv=>whnf);repeat (refine Wa ?_;(repeat (first|refine Wb ?_|refine Wc ?_|refine Wd ?_|refine We ?_|refine Wf ?_));(conv=>whnf)))
    exact ⟨trivial, bad (fun h => h3 h.2.2.1)⟩
  ·((conv=>whnf);repeat (refine Wa ?_;(repeat (first|refine Wb ?_|refine Wc ?_|refine Wd ?_|refine We ?_|refine Wf ?_));(conv=>whnf)))
   exact ⟨trivial, bad (fun h => h2 h.2.1)⟩
 ·have e1 : wiE n W = 2 := by unfold wiE; rw [if_neg hW]
  rw [e1] at c1
  ((conv=>whnf);repeat (refine Wa ?_;(repeat (first|refine Wb ?_|refine Wc ?_|refine Wd ?_|refine We ?_|refine Wf ?_));(conv=>whnf)))
  refine APure.to (APure.arg1 subT c1) ?_
  ((conv=>whnf);repeat (refine Wa ?_;(repeat (first|refine Wb ?_|refine Wc ?_|refine Wd ?_|refine We ?_|refine Wf ?_));(conv=>whnf)))
  exact ⟨trivial, bad (fun h => hW h.1)⟩
end Go.Tri
