/-
 CONTRACTS: Assign.
-/
import Derived.Test.YtpolaegggclhcaaB31
namespace Go.Tri
open Go.Proofs

@[reducible] noncomputable def xG : Cx := ⟨Try.prog, tab, [108, 107], 9, 0, false⟩
set_option maxRecDepth 100000 in
theorem greatest2_cm {n : Nat} {W : Nat → List Int} {L : List (List Int)} {h : Nat → Int} (h1 : 1 ≤ L.length) (hm : L.length ≤ 100000) (ho : ∀ j, j < L.length → APure Try.prog 88 [tabV n W, .ints false (L.getD j [])] (fun R => R = .int (h j))) :
  ACM Try.prog 86 [rowsV L, worO n W] [] (fun R M' => R = rkV true (L.getD (mxI h L.length) []) (h (mxI h L.length)) ∧ ∃ o1 o2 o3 o4, M' = [some o1, some o2, some o3, some o4]) (some 0) := by
 have c1 := rank2_cm hm ho
 have c2 := maxFunc2_cm (L := L) (h := h) h1 hm
 refine ACM_ofW (T := tab) tab_ok Try.func86 (by decide) rfl (Nat.le_of_ble_eq_true rfl) ?_
 refine AW_of_awp (X := xG) tab_ok ?_
 ((conv=>whnf);repeat (refine Wa ?_;(repeat (first|refine Wb ?_|refine Wc ?_|refine Wd ?_|refine We ?_|refine Wf ?_));(conv=>whnf)))
 refine ACM_xs (ys := [rowsV L, worO n W]) rfl ?_
 refine ACM.mono c1 ?_
 rintro R M' ⟨rfl, rfl⟩
 ((conv=>whnf);repeat (refine Wa ?_;(repeat (first|refine Wb ?_|refine Wc ?_|refine Wd ?_|refine We ?_|refine Wf ?_));(conv=>whnf)))
 refine ACM_xs (ys := [.sl 1 0 0 L.length, cmpC2]) rfl ?_
 refine ACM.mono c2 ?_
 rintro R M' ⟨rfl, o2, o3, o4, rfl⟩
 ((conv=>whnf);repeat (refine Wa ?_;(repeat (first|refine Wb ?_|refine Wc ?_|refine Wd ?_|refine We ?_|refine Wf ?_));(conv=>whnf)))
 exact ⟨_, rfl, agg2_eq' rfl rfl (fun _ => rfl), _, _, _, _, rfl⟩
theorem ACM_arg2' {P : Program} {f : FuncId} {x y x' y' : V} {M : Mem} {Q : V → Mem → Prop} {nb0 : Option Nat} (h0 : Sub x x') (h1 : Sub y y') (hy : ACM P f [x', y'] M Q nb0) : ACM P f [x, y] M Q nb0 := by
 unfold ACM at hy ⊢
 refine ⟨hy.1, fun nb base φ w args hn hm hs ha => hy.2 nb base φ w args hn hm hs (fun i => ?_)⟩
 match i with
 | 0 => exact h0 _ _ _ _ (ha 0)
 | 1 => exact h1 _ _ _ _ (ha 1)
 | i + 2 => exact ha (i + 2)
/-- Of all assignments of n the first one that is worth most. -/
def asN (n : Nat) (W : Nat → List Int) : Nat := mxI (fun j => wrS W ((asg n n []).getD j []) n) (asg n n []).length
def asB (n : Nat) (W : Nat → List Int) : List Int := (asg n n []).getD (asN n W) []
theorem asg_iff {n : Nat} : ∀ (d : Nat) (b l : List Int), l ∈ asg n d b ↔ ∃ r, l = b ++ r ∧ r.length = d ∧ (∀ x ∈ r, 0 ≤ x ∧ x < n) ∧ r.Nodup ∧ ∀ x ∈ r, x ∉ b
 | 0, b, l => by
  simp only [asg, List.mem_singleton]
  constructor
  ·rintro rfl
   exact ⟨[], by simp, rfl, by simp, List.nodup_nil, by simp⟩
  ·rintro ⟨r, rfl, hr, _⟩
   rw [List.length_eq_zero_iff.1 hr]
   simp
 | d + 1, b, l => by
  simp only [asg, List.mem_flatMap, List.mem_range]
  constructor
  ·rintro ⟨k, hk, hl⟩
   split at hl
   ·simp at hl
   ·next hkb =>
    obtain ⟨r, rfl, h1, h2, h3, h4⟩ := (asg_iff d _ _).1 hl
    refine ⟨(k : Int) :: r, by simp, by simp [h1], ?_, ?_, ?_⟩
    ·intro x hx
     rcases List.mem_cons.1 hx with rfl | hx
     ·omega
     ·exact h2 x hx
    ·exact List.nodup_cons.2 ⟨fun hx => h4 _ hx (by simp), h3⟩
    ·intro x hx
     rcases List.mem_cons.1 hx with rfl | hx
     ·exact hkb
     ·exact fun hxb => h4 x hx (by simp [hxb])
  ·rintro ⟨r, rfl, h1, h2, h3, h4⟩
   cases r with
   | nil => simp at h1
   | cons x r =>
    obtain ⟨hx0, hxn⟩ := h2 x (by simp)
    obtain ⟨k, rfl⟩ : ∃ k : Nat, x = k := ⟨x.toNat, by omega⟩
    refine ⟨k, by omega, ?_⟩
    rw [if_neg (h4 _ (by simp))]
    refine (asg_iff d _ _).2 ⟨r, by simp, by simpa using h1, fun y hy => h2 y (by simp [hy]), (List.nodup_cons.1 h3).2, fun y hy hyb => ?_⟩
    rcases List.mem_append.1 hyb with h5 | h5
    ·exact h4 y (by simp [hy]) h5
    ·rw [List.mem_singleton.1 h5] at hy
     exact (List.nodup_cons.1 h3).1 hy
theorem asg_all {n : Nat} {l : List Int} : l ∈ asg n n [] ↔ l.length = n ∧ (∀ x ∈ l, 0 ≤ x ∧ x < n) ∧ l.Nodup := by
 rw [asg_iff]
 constructor
 ·rintro ⟨r, rfl, h1, h2, h3, _⟩
  simpa using ⟨h1, h2, h3⟩
 ·rintro ⟨h1, h2, h3⟩
  exact ⟨l, by simp, h1, h2, h3, by simp⟩
theorem getD_memL {L : List (List Int)} {j : Nat} (h : j < L.length) : L.getD j [] ∈ L := by
 rw [show L.getD j [] = L[j] by simp [List.getD, List.getElem?_eq_getElem h]]
 exact List.getElem_mem h
theorem asg_Asg {n : Nat} {l : List Int} (h : l ∈ asg n n []) : Asg n l := by
 obtain ⟨h1, h2, _⟩ := asg_all.1 h
 refine ⟨h1, fun j hj => h2 _ ?_⟩
 rw [show l.getD j 0 = l[j]'(by omega) by simp [List.getD, List.getElem?_eq_getElem (show j < l.length by omega)]]
 exact List.getElem_mem _
/-- The best assignment. -/
theorem asB_is {n : Nat} (W : Nat → List Int) : asB n W ∈ asg n n [] ∧ ∀ l ∈ asg n n [], wrS W l n ≤ wrS W (asB n W) n := by
 have hne : 1 ≤ (asg n n []).length := by
  have := asg_ne (n := n) n [] (by simp)
  rcases Nat.eq_zero_or_pos (asg n n []).length with h | h
  ·exact absurd (List.length_eq_zero_iff.1 h) this
  ·exact h
 obtain ⟨g1, g2, _⟩ := mxI_is (fun j => wrS W ((asg n n []).getD j []) n) (asg n n []).length hne
 refine ⟨getD_memL g1, fun l hl => ?_⟩
 obtain ⟨j, hj, rfl⟩ := List.getElem_of_mem hl
 have := g2 j hj
 rw [show (asg n n []).getD j [] = (asg n n [])[j] by simp [List.getD, List.getElem?_eq_getElem hj]] at this
 exact this
@[reducible] noncomputable def xAs : Cx := ⟨Try.prog, tab, [87, 86], 15, 0, false⟩
set_option maxRecDepth 100000 in
theorem assign_pure {n : Nat} {W : Nat → List Int} (hW : Wis n W) : APure Try.prog 56 [tabV n W] (fun R => R = tup2 (.ints true (asB n W)) (.int (wrS W (asB n W) n))) := by
 refine APure_of (X := xAs) tab_ok rfl (rs := [(.tmp 2, 22), (.tmp 3, 3)]) Try.func56 (by decide) rfl rfl rfl (by simp) (nofr1 nofrT) ?_
 intro hlen
 have h1 := hW.1
 have h5 := hW.2.1
 have c1 := all_imm n ⟨h1, h5⟩
 have hne : 1 ≤ (asg n n []).length := by
  have := asg_ne (n := n) n [] (by simp)
  rcases Nat.eq_zero_or_pos (asg n n []).length with h | h
  ·exact absurd (List.length_eq_zero_iff.1 h) this
  ·exact h
 have hbd : (asg n n []).length ≤ 100000 := Nat.le_trans (asg_bd h5 n []) (Nat.le_trans (Nat.pow_le_pow_right (by decide) h5) (by decide))
 have c2 := greatest2_cm (n := n) (W := W) (h := fun j => wrS W ((asg n n []).getD j []) n) hne hbd (fun j hj => worth_pure hW (asg_Asg (getD_memL hj)))
 have e1 : (asg n n []).getD (mxI (fun j => wrS W ((asg n n []).getD j []) n) (asg n n []).length) [] = asB n W := rfl
 rw [e1] at c2
 ((conv=>whnf);repeat (refine Wa ?_;(repeat (first|refine Wb ?_|refine Wc ?_|refine Wd ?_|refine We ?_|refine Wf ?_));(conv=>whnf)))
 refine AImm.to c1 ?_
 ((conv=>whnf);repeat (refine Wa ?_;(repeat (first|refine Wb ?_|refine Wc ?_|refine Wd ?_|refine We ?_|refine Wf ?_));(conv=>whnf)))
 refine ACM_xs (ys := [rowsV (asg n n []), _]) rfl ?_
 refine ACM_arg2' (y' := worO n W) (Sub.refl _) (sub_bnd fun i hi => by have hi : i < 1 := hi; rw [show i = 0 by omega]; exact Sub.refl _) ?_
 refine ACM.mono c2 ?_
 rintro R M' ⟨rfl, o1, o2, o3, o4, rfl⟩
 ((conv=>whnf);repeat (refine Wa ?_;(repeat (first|refine Wb ?_|refine Wc ?_|refine Wd ?_|refine We ?_|refine Wf ?_));(conv=>whnf)))
 refine AW_draw (X := xAs) tab_ok mixed (by kernel_rfl) ?_
 ((conv=>whnf);repeat (refine Wa ?_;(repeat (first|refine Wb ?_|refine Wc ?_|refine Wd ?_|refine We ?_|refine Wf ?_));(conv=>whnf)))
 exact ⟨rfl, trivial, rfl⟩
set_option maxRecDepth 100000 in
open Classical in
noncomputable def assV (n : Nat) (W : Nat → List Int) : V := if Wis n W then tup3 (.ints true (asB n W)) (.int (wrS W (asB n W) n)) (.int 0) else tup3 (.ints true []) (.int 0) (.int 2)
open Classical in
set_option maxRecDepth 100000 in
theorem Assign_pure (n : Nat) (W : Nat → List Int) : APure Try.prog 27 [tabV n W] (fun R => R = assV n W) := by
 refine APure_of (X := cx 20) (cx_ok 20) rfl (rs := [(.tmp 2, 22), (.tmp 3, 3), (.tmp 4, 29)]) Try.func27 (by decide) rfl rfl rfl (by simp [cx]) (nofr1 nofrT) ?_
 intro hlen
 by_cases h : Wis n W
 ·have c1 := checkWishes_pure n W
  rw [show wiE n W = 0 by unfold wiE; rw [if_pos h]] at c1
  have c2 := assign_pure h
  rw [show assV n W = tup3 (.ints true (asB n W)) (.int (wrS W (asB n W) n)) (.int 0) by unfold assV; rw [if_pos h]]
  ((conv=>whnf);repeat (refine Wa ?_;(repeat (first|refine Wb ?_|refine Wc ?_|refine Wd ?_|refine We ?_|refine Wf ?_));(conv=>whnf)))
  refine APure.to (APure.arg1 subT c1) ?_
  ((conv=>whnf);repeat (refine Wa ?_;(repeat (first|refine Wb ?_|refine Wc ?_|refine Wd ?_|refine We ?_|refine Wf ?_));(conv=>whnf)))
  refine APure.to (APure.arg1 subT c2) ?_
  ((conv=>whnf);repeat (refine Wa ?_;(repeat (first|refine Wb ?_|refine Wc ?_|refine Wd ?_|refine We ?_|refine Wf ?_));(conv=>whnf)))
  exact ⟨rfl, trivial, trivial, rfl⟩
 ·have c1 := checkWishes_pure n W
  rw [show wiE n W = 2 by unfold wiE; rw [if_neg h]] at c1
  rw [show assV n W = tup3 (.ints true []) (.int 0) (.int 2) by unfold assV; rw [if_neg h]]
  ((conv=>whnf);repeat (refine Wa ?_;(repeat (first|refine Wb ?_|refine Wc ?_|refine Wd ?_|refine We ?_|refine Wf ?_));(conv=>whnf)))
  refine APure.to (APure.arg1 subT c1) ?_
  ((conv=>whnf);repeat (refine Wa ?_;(repeat (first|refine Wb ?_|refine Wc ?_|refine Wd ?_|refine We ?_|refine Wf ?_));(conv=>whnf)))
  exact ⟨rfl, trivial, trivial, rfl⟩
end Go.Tri
