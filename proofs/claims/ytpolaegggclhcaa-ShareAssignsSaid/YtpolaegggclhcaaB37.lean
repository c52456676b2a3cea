/-
 CONTRACTS: the reference's table of least sums, its beginning (made by a program).
-/
import Derived.Test.YtpolaegggclhcaaM14
import Derived.Test.YtpolaegggclhcaaM15
import Derived.Test.YtpolaegggclhcaaB36
import Derived.Test.YtpolaegggclhcaaB33
namespace Go.Tri
open Go.Proofs

theorem AImm.arg3 {P : Program} {f : FuncId} {x y x' y' x2 y2 : V} {Q : V → Prop} (h : Sub x y) (h' : Sub x' y') (h2 : Sub x2 y2) (hy : AImm P f [y, y', y2] Q) : AImm P f [x, x', x2] Q :=
 AImm.args (xs := [x, x', x2]) (ys := [y, y', y2]) rfl (fun i => match i with
  | 0 => h
  | 1 => h'
  | 2 => h2
  | _ + 3 => Sub.refl _) hy
theorem refassign_top {n : Nat} {W : Nat → List Int} (hW : Wis n W) : AImm Try.prog 57 [tabV n W, .emp true, .int 0] (fun R => R = tup2 (.ints true (asB n W)) (.int (wrS W (asB n W) n))) := by
 obtain ⟨b, hb, h⟩ := refassign_imm hW n [] 0 (by simp) (by simp) List.nodup_nil use_nil
 obtain rfl := hb.uniq (asB_FG (n := n) W)
 exact AImm.arg3 (Sub.refl _) (sub_emp true true) (Sub.refl _) h
/-- The drivers of the rickshaws. -/
noncomputable def hoL (n : Nat) (W : Nat → List Int) : List Int := lsN n fun y => (hoB n W y : Int)
def HoP (n : Nat) (W : Nat → List Int) (k : Nat) (Z : List Int) : Prop := Z.length = n ∧ ∀ i, i < k → Z.getD (rkB n W i) 0 = (i : Int)
theorem ho_all {n : Nat} {W : Nat → List Int} {Z : List Int} (h : HoP n W n Z) : Z = hoL n W := by
 refine ext_getD (by rw [h.1]; exact (lsN_len _ _).symm) fun j hj => ?_
 have hj : j < n := by rw [h.1] at hj; exact hj
 rw [show (hoL n W).getD j 0 = (hoB n W j : Int) from lsN_get hj]
 obtain ⟨h1, h2⟩ := hoB_is W hj
 have := h.2 _ h1
 rw [h2] at this
 exact this
theorem ho_next {n : Nat} {W : Nat → List Int} {k : Nat} {Z : List Int} (h : HoP n W k Z) (hk : k < n) : HoP n W (k + 1) (Z.set (rkB n W k) (k : Int)) := by
 obtain ⟨_, r1, r2⟩ := rkB_is (n := n) W
 refine ⟨by rw [List.length_set]; exact h.1, fun i hi => ?_⟩
 rw [getD_setL]
 rcases (by omega : i = k ∨ i < k) with rfl | hik
 ·rw [if_pos ⟨rfl, by rw [h.1]; exact (r1 i hk).1⟩]
 ·rw [if_neg (fun h2 => r2 i k hik hk h2.1.symm)]
  exact h.2 i hik
/-- The rows' names: 1, 4, 6, 8 and 10. -/
def nmG (j : Nat) : Nat := if j = 0 then 1 else 2 * j + 2
def outG (n : Nat) : Nat → Nat → V := fun j _ => .sl (nmG j) 0 0 n
@[reducible] def oG (n x : Nat) : Ob := ⟨22, 1, x - 1, .cv x (outG n)⟩
def GoM (n : Nat) (W : Nat → List Int) (x : Nat) (o : V) (M : Mem) : Prop := (x = 0 ∧ o = .emp true ∧ M = [some (rOw (hoL n W))]) ∨ (x = 1 ∧ o = .sl 3 0 0 1 ∧ M = [some (rOw (hoL n W)), some (rOw (lsN n (stp n W 0))), none, some (oG n 1)]) ∨ (x = 2 ∧ o = .sl 3 1 0 2 ∧ M = [some (rOw (hoL n W)), some (rOw (lsN n (stp n W 0))), none, some (oG n 2), some (rOw (lsN n (stp n W 1))), none]) ∨ (x = 3 ∧ o = .sl 3 2 0 3 ∧ M = [some (rOw (hoL n W)), some (rOw (lsN n (stp n W 0))), none, some (oG n 3), some (rOw (lsN n (stp n W 1))), none, some (rOw (lsN n (stp n W 2))), none]) ∨ (x = 4 ∧ o = .sl 3 3 0 4 ∧ M = [some (rOw (hoL n W)), some (rOw (lsN n (stp n W 0))), none, some (oG n 4), some (rOw (lsN n (stp n W 1))), none, some (rOw (lsN n (stp n W 2))), none, some (rOw (lsN n (stp n W 3))), none]) ∨ (x = 5 ∧ o = .sl 3 4 0 5 ∧ M = [some (rOw (hoL n W)), some (rOw (lsN n (stp n W 0))), none, some (oG n 5), some (rOw (lsN n (stp n W 1))), none, some (rOw (lsN n (stp n W 2))), none, some (rOw (lsN n (stp n W 3))), none, some (rOw (lsN n (stp n W 4))), none])
def RoP (n : Nat) (W : Nat → List Int) (x k : Nat) (Z : List Int) : Prop := Z.length = n ∧ ∀ j, j < k → Z.getD j 0 = stp n W x j
theorem ro_all {n : Nat} {W : Nat → List Int} {x : Nat} {Z : List Int} (h : RoP n W x n Z) : Z = lsN n (stp n W x) := by
 refine ext_getD (by rw [h.1, lsN_len]) fun j hj => ?_
 have hj : j < n := by rw [h.1] at hj; exact hj
 rw [lsN_get hj]
 exact h.2 j hj
theorem ro_next {n : Nat} {W : Nat → List Int} {x k : Nat} {Z : List Int} (h : RoP n W x k Z) (hk : k < n) : RoP n W x (k + 1) (Z.set k (stp n W x k)) := by
 refine ⟨by rw [List.length_set]; exact h.1, fun i hi => ?_⟩
 rw [getD_setL]
 rcases (by omega : i = k ∨ i < k) with rfl | hik
 ·rw [if_pos ⟨rfl, by rw [h.1]; exact hk⟩]
 ·rw [if_neg (fun h2 => by omega)]
  exact h.2 i hik
@[reducible] noncomputable def xF : Cx := ⟨Try.prog, tab, wrF, 127, 0, false⟩
theorem namIf {kp : Nat → Bool} {c : Prop} [Decidable c] {a b : V} (ha : Named kp a) (hb : Named kp b) : Named kp (if c then a else b) := by
 split
 ·exact ha
 ·exact hb
theorem namG {n j q : Nat} (hj : j < 5) : Named (fun t => [0, 1, 3, 4, 6, 8, 10].contains t) (outG n j q) := by
 rcases (by omega : j = 0 ∨ j = 1 ∨ j = 2 ∨ j = 3 ∨ j = 4) with rfl | rfl | rfl | rfl | rfl <;> rfl
/-- A table's rows (of those that are not there, nothing). -/
def rwM (n : Nat) (D : Nat → Nat → Int) (a : Nat) : List Int := if a < n then lsN n (D a) else []
@[reducible] def oG5 (n : Nat) : Ob := ⟨22, 1, n - 1, .cv n (outG n)⟩
@[reducible] noncomputable def memG (n : Nat) (W : Nat → List Int) (D : Nat → Nat → Int) : Mem := [some (rOw (hoL n W)), some (rOw (rwM n (D) 0)), none, some (oG5 n), some (rOw (rwM n (D) 1)), none, some (rOw (rwM n (D) 2)), none, some (rOw (rwM n (D) 3)), none, some (rOw (rwM n (D) 4))]
@[reducible] noncomputable def padG (n : Nat) (W : Nat → List Int) : Mem := memG n W (stp n W)
theorem rw_put {n : Nat} {D : Nat → Nat → Int} {x y z p : Nat} (hx : x < n) (hz : z < n) (hy : y < n) (hp : p = y) : (rwM n D x).set p (minI ((rwM n D x).getD p 0) ((rwM n D x).getD z 0 + (rwM n D z).getD p 0)) = rwM n (upD D x y z) x := by
 subst hp
 unfold rwM
 rw [if_pos hx, if_pos hx, if_pos hz, lsN_get hy, lsN_get hz, lsN_get hy]
 refine ext_getD (by rw [List.length_set, lsN_len, lsN_len]) fun j hj => ?_
 rw [List.length_set, lsN_len] at hj
 rw [getD_setL, lsN_len, lsN_get hj, lsN_get hj]
 unfold upD
 by_cases h : p = j
 ·rw [if_pos ⟨h, hj⟩, if_pos ⟨rfl, h.symm⟩]
 ·rw [if_neg (fun h2 => h h2.1), if_neg (fun h2 => h h2.2.symm)]
theorem rw_other {n : Nat} {D : Nat → Nat → Int} {x y z a : Nat} (h : a ≠ x) : rwM n D a = rwM n (upD D x y z) a := by
 unfold rwM
 split
 ·exact ext_getD (by rw [lsN_len, lsN_len]) fun j hj => by
   rw [lsN_len] at hj
   rw [lsN_get hj, lsN_get hj]
   unfold upD
   rw [if_neg (fun h2 => h h2.1)]
 ·rfl
theorem rw_bd {n : Nat} {W : Nat → List Int} {D : Nat → Nat → Int} {x y z : Nat} (hW : Wis n W) (hB : Base n W D) (hx : x < n) (hz : z < n) (hy : y < n) : -9223372036854775808 ≤ (rwM n D x).getD z 0 + (rwM n D z).getD y 0 ∧ (rwM n D x).getD z 0 + (rwM n D z).getD y 0 ≤ 9223372036854775807 := by
 unfold rwM
 rw [if_pos hx, if_pos hz, lsN_get hz, lsN_get hy]
 have := hB.bd hW hx hz
 have := hB.bd hW hz hy
 omega
/-- What is read of the table. -/
noncomputable def goF (n : Nat) (W : Nat → List Int) : Nat → Nat → V := fun j q => ownvalN (memG n W (drr n W)) 4 (outG n (0 + j) q)
@[reducible] noncomputable def goV (n : Nat) (W : Nat → List Int) : V := .seq true 1 n (goF n W)
theorem goF_get {n : Nat} {W : Nat → List Int} (h5 : n ≤ 5) {j q : Nat} (hj : j < n) : goF n W j q = .ints true (lsN n (drr n W j)) := by
 have e : (rwM n (drr n W) j).take n = lsN n (drr n W j) := by
  unfold rwM
  rw [if_pos hj]
  exact List.take_of_length_le (by rw [lsN_len]; exact Nat.le_refl _)
 rw [← e]
 rcases (by omega : j = 0 ∨ j = 1 ∨ j = 2 ∨ j = 3 ∨ j = 4) with rfl | rfl | rfl | rfl | rfl <;> rfl
theorem frGo {n : Nat} {W : Nat → List Int} (h5 : n ≤ 5) : Fr (goV n W) := ⟨rfl, fun j k hj _ => by rw [goF_get h5 hj]; rfl⟩
theorem AW_keep {P : Program} {nt nb : Nat} {rd : Bool} {c : Code} {Q : Exit → Env → Mem → Prop} {e : Env} {M : Mem} (keys : List Nat) (vs : List V) (he : sel keys e = vs) (h : AW P nt nb rd c Q (keys.zip vs) M) : AW P nt nb rd c Q e M := by
 subst he
 rw [AW_def] at h ⊢
 intro ro lo base φ w a hro hst
 exact h ro lo base φ w a hro (hst.sel keys)
set_option maxHeartbeats 4000000 in
set_option maxRecDepth 100000 in
theorem refdearer0_pure {n : Nat} {W : Nat → List Int} (hW : Wis n W) : APure Try.prog 58 [tabV n W] (fun R => R = goV n W) := by
 refine APure_ofW (X := xF) tab_ok rfl (rs := [(.tmp 2, 41)]) Try.func58 (by decide) rfl rfl rfl (by simp) (nofr1 nofrT) ?_
 intro hlen
 have h1 := hW.1
 have h5 := hW.2.1
 have c1 := refassign_top hW
 obtain ⟨r0, r1, r2⟩ := rkB_is (n := n) W
 have hrow : ∀ i, i < n → (W i).length = n ∧ ∀ j, j < n → 0 ≤ (W i).getD j 0 ∧ (W i).getD j 0 ≤ 1000 := fun i hi => ⟨(hW.2.2 i hi).1, fun j hj => (hW.2.2 i hi).2.1 j hj⟩
 generalize asB n W = B at *
 refine AW_seqW (X := xF) tab_ok ?_
 conv=>whnf
 refine AW_seqW (X := xF) tab_ok ?_
 conv=>whnf
 refine AW_seqW (X := xF) tab_ok ?_
 conv=>whnf
 refine AImm.to c1 ?_
 conv=>whnf
 refine AW_seqW (X := xF) tab_ok ?_
 conv=>whnf
 refine ⟨zn n, ?_⟩
 refine ⟨Int.le_refl _, ?_⟩
 refine ⟨(show (8 : Int) * (n : Int) ≤ 140737488355328 by omega), ?_⟩
 rw [Int.toNat_natCast]
 conv=>whnf
 refine AW_seq ?_
 refine AW_of_awp (X := xF) tab_ok ?_
 ((conv=>whnf);repeat (refine Wa ?_;(repeat (first|refine Wb ?_|refine Wc ?_|refine Wd ?_|refine We ?_|refine Wf ?_));(conv=>whnf)))
 refine AW_loop (X := xF) tab_ok [0, 3, 4, 6, 7] (fun vs M => ∃ (k : Nat) (Z : List Int), k ≤ n ∧ HoP n W k Z ∧ vs = [tabV n W, .int n, .ints true B, .sl 0 0 0 n, .int k] ∧ M = [some (rOw Z)])
  (fun vs _ => n - (vs.getD 4 .any).toInt.toNat) ?_ ?_
 ·exact ⟨0, _, Nat.zero_le _, ⟨List.length_replicate, fun i hi => absurd hi (by omega)⟩, rfl, rfl⟩
 rintro vs M ⟨k, Z, hk, hZ, rfl, rfl⟩
 ((conv=>whnf);repeat (refine Wa ?_;(repeat (first|refine Wb ?_|refine Wc ?_|refine Wd ?_|refine We ?_|refine Wf ?_));(conv=>whnf)))
 refine br_dec (fun hlt => ?_) (fun hge => ?_)
 ·have hk' : k < n := by omega
  obtain ⟨q1, q2⟩ := r1 k hk'
  have hnx := ho_next hZ hk'
  ((conv=>whnf);repeat (refine Wa ?_;(repeat (first|refine Wb ?_|refine Wc ?_|refine Wd ?_|refine We ?_|refine Wf ?_));(conv=>whnf)))
  refine ⟨zn k, ?_⟩
  refine ⟨(show (k : Int) < (B.length : Int) by omega), ?_⟩
  rw [show B.getD (k : Int).toNat 0 = (rkB n W k : Int) from q2]
  generalize rkB n W k = y at *
  conv=>whnf
  refine ⟨zn y, ?_⟩
  refine ⟨(show (y : Int) < (n : Int) by omega), ?_⟩
  ((conv=>whnf);repeat (refine Wa ?_;(repeat (first|refine Wb ?_|refine Wc ?_|refine Wd ?_|refine We ?_|refine Wf ?_));(conv=>whnf)))
  refine ⟨inr (by omega), ?_⟩
  conv=>whnf
  refine ⟨⟨k + 1, Z.set y k, hk', hnx, rfl, congrArg (fun z => [some (rOw (Z.set z (k : Int)))]) (Nat.zero_add y)⟩, ?_⟩
  simp [V.toInt, sel, Env.get]; omega
 obtain rfl : n = k := by omega
 have hl := ho_all hZ
 subst hl
 clear hZ hk hge
 have hoG : (hoL n W).length = n ∧ ∀ y, y < n → (hoL n W).getD y 0 = (hoB n W y : Int) ∧ hoB n W y < n := ⟨lsN_len _ _, fun y hy => ⟨lsN_get hy, (hoB_is W hy).1⟩⟩
 conv=>whnf
 refine AW_seqW (X := xF) tab_ok ?_
 conv=>whnf
 refine AW_seq ?_
 refine AW_mono (Q := fun x e M => x = .normal ∧ sel [0, 3, 8] e = [tabV n W, .int n, .sl 3 (n - 1) 0 n] ∧ MSub M (padG n W)) ?_ ?_
 ·rintro x e M ⟨rfl, he, hM⟩
  refine (show AW _ _ _ _ _ _ _ _ from ?_)
  refine AW_keep [0, 3, 8] _ he ?_
  refine AW_seq ?_
  refine AW_of_awp (X := xF) tab_ok ?_
  ((conv=>whnf);repeat (refine Wa ?_;(repeat (first|refine Wb ?_|refine Wc ?_|refine Wd ?_|refine We ?_|refine Wf ?_));(conv=>whnf)))
  refine AW_loopA (X := xF) tab_ok [0, 3, 8, 12] (fun _ => true) (fun vs M => ∃ (r : Nat) (D : Nat → Nat → Int), r ≤ n ∧ Base n W D ∧ Sh n W D r ∧ vs = [tabV n W, .int n, .sl 3 (n - 1) 0 n, .int r] ∧ M = memG n W D)
   (fun vs _ => n - (vs.getD 3 .any).toInt.toNat) (fun _ _ => rfl) ?_ ?_
  ·have hB0 : Base n W (stp n W) := (dsM_is 0 (Nat.zero_le _)).1
   exact memA0 (padG n W) hM ⟨0, stp n W, Nat.zero_le _, hB0, sh_zero hB0, rfl, rfl⟩
  clear hM he
  clear e M
  rintro vs M ⟨r, D, hr, hB, hS, rfl, rfl⟩
  ((conv=>whnf);repeat (refine Wa ?_;(repeat (first|refine Wb ?_|refine Wc ?_|refine Wd ?_|refine We ?_|refine Wf ?_));(conv=>whnf)))
  refine br_dec (fun hlt => ?_) (fun hge => ?_)
  ·have hr' : r < n := by omega
   ((conv=>whnf);repeat (refine Wa ?_;(repeat (first|refine Wb ?_|refine Wc ?_|refine Wd ?_|refine We ?_|refine Wf ?_));(conv=>whnf)))
   refine AW_loopA (X := xF) tab_ok [0, 3, 8, 12, 13] (fun _ => true) (fun vs M => ∃ (x : Nat) (D : Nat → Nat → Int), x ≤ n ∧ Base n W D ∧ Sh n W D r ∧ (∀ a, a < x → ∀ b, b < n → Dn n W D r a b) ∧ vs = [tabV n W, .int n, .sl 3 (n - 1) 0 n, .int r, .int x] ∧ M = memG n W D)
    (fun vs _ => n - (vs.getD 4 .any).toInt.toNat) (fun _ _ => rfl) ?_ ?_
   ·exact same0 ⟨0, D, Nat.zero_le _, hB, hS, fun a ha => absurd ha (by omega), rfl, rfl⟩
   clear hB hS
   clear D
   rintro vs M ⟨x, D, hx, hB, hS, hDx, rfl, rfl⟩
   rcases (by omega : x = 0 ∨ x = 1 ∨ x = 2 ∨ x = 3 ∨ x = 4 ∨ x = 5) with rfl | rfl | rfl | rfl | rfl | rfl
   ·((conv=>whnf);repeat (refine Wa ?_;(repeat (first|refine Wb ?_|refine Wc ?_|refine Wd ?_|refine We ?_|refine Wf ?_));(conv=>whnf)))
    refine br_dec (fun hlt2 => ?_) (fun hge2 => ?_)
    ·have hx0 : 0 < n := by have h := hlt2; simp at h; omega
     ((conv=>whnf);repeat (refine Wa ?_;(repeat (first|refine Wb ?_|refine Wc ?_|refine Wd ?_|refine We ?_|refine Wf ?_));(conv=>whnf)))
     refine AW_loopA (X := xF) tab_ok [0, 3, 8, 12, 13, 14] (fun _ => true) (fun vs M => ∃ (y : Nat) (D : Nat → Nat → Int), y ≤ n ∧ Base n W D ∧ Sh n W D r ∧ (∀ a, a < 0 → ∀ b, b < n → Dn n W D r a b) ∧ (∀ b, b < y → Dn n W D r 0 b) ∧ vs = [tabV n W, .int n, .sl 3 (n - 1) 0 n, .int r, .int (0 : Nat), .int y] ∧ M = memG n W D)
      (fun vs _ => n - (vs.getD 5 .any).toInt.toNat) (fun _ _ => rfl) ?_ ?_
     ·exact same0 ⟨0, D, Nat.zero_le _, hB, hS, hDx, fun b hb => absurd hb (by omega), rfl, rfl⟩
     clear hB hS hDx
     clear D
     rintro vs M ⟨y, D, hy, hB, hS, hDx, hDy, rfl, rfl⟩
     ((conv=>whnf);repeat (refine Wa ?_;(repeat (first|refine Wb ?_|refine Wc ?_|refine Wd ?_|refine We ?_|refine Wf ?_));(conv=>whnf)))
     refine br_dec (fun hlt3 => ?_) (fun hge3 => ?_)
     ·have hy' : y < n := by omega
      ((conv=>whnf);repeat (refine Wa ?_;(repeat (first|refine Wb ?_|refine Wc ?_|refine Wd ?_|refine We ?_|refine Wf ?_));(conv=>whnf)))
      refine AW_loopA (X := xF) tab_ok [0, 3, 8, 12, 13, 14, 15] (fun _ => true) (fun vs M => ∃ (z : Nat) (D : Nat → Nat → Int), z ≤ n ∧ Base n W D ∧ Sh n W D r ∧ (∀ a, a < 0 → ∀ b, b < n → Dn n W D r a b) ∧ (∀ b, b < y → Dn n W D r 0 b) ∧ Dz n W D r 0 y z ∧ vs = [tabV n W, .int n, .sl 3 (n - 1) 0 n, .int r, .int (0 : Nat), .int y, .int z] ∧ M = memG n W D)
       (fun vs _ => n - (vs.getD 6 .any).toInt.toNat) (fun _ _ => rfl) ?_ ?_
      ·exact same0 ⟨0, D, Nat.zero_le _, hB, hS, hDx, hDy, fun v _ _ _ h => absurd h (by omega), rfl, rfl⟩
      clear hB hS hDx hDy
      clear D
      rintro vs M ⟨z, D, hz, hB, hS, hDx, hDy, hDz, rfl, rfl⟩
      rcases (by omega : z = 0 ∨ z = 1 ∨ z = 2 ∨ z = 3 ∨ z = 4 ∨ z = 5) with rfl | rfl | rfl | rfl | rfl | rfl
      ·((conv=>whnf);repeat (refine Wa ?_;(repeat (first|refine Wb ?_|refine Wc ?_|refine Wd ?_|refine We ?_|refine Wf ?_));(conv=>whnf)))
       refine br_dec (fun hlt4 => ?_) (fun hge4 => ?_)
       ·have hz0 : 0 < n := by have h := hlt4; simp at h; omega
        ((conv=>whnf);repeat (refine Wa ?_;(repeat (first|refine Wb ?_|refine Wc ?_|refine Wd ?_|refine We ?_|refine Wf ?_));(conv=>whnf)))
        refine AW_draw (X := xF) tab_ok mixed (by kernel_rfl) ?_
        conv=>whnf
        refine eqn_self (x := n - 1) ?_
        refine ⟨zn 0, ?_⟩
        refine ⟨(show ((0 : Nat) : Int) < (n : Int) by omega), ?_⟩
        conv=>whnf
        refine ldk (ver := n - 1) (o := 0) (sz := 1) (by decide) ?_
        conv=>whnf
        refine eqn_self (x := n - 1) ?_
        refine ⟨zn 0, ?_⟩
        refine ⟨(show ((0 : Nat) : Int) < (n : Int) by omega), ?_⟩
        conv=>whnf
        refine ldk (ver := n - 1) (o := 0) (sz := 1) (by decide) ?_
        conv=>whnf
        refine ⟨zn y, ?_⟩
        refine ⟨(show (y : Int) < (n : Int) by omega), ?_⟩
        conv=>whnf
        refine eqn_self (x := n - 1) ?_
        refine ⟨zn 0, ?_⟩
        refine ⟨(show ((0 : Nat) : Int) < (n : Int) by omega), ?_⟩
        conv=>whnf
        refine ldk (ver := n - 1) (o := 0) (sz := 1) (by decide) ?_
        conv=>whnf
        refine ⟨zn 0, ?_⟩
        refine ⟨(show ((0 : Nat) : Int) < (n : Int) by omega), ?_⟩
        conv=>whnf
        refine eqn_self (x := n - 1) ?_
        refine ⟨zn 0, ?_⟩
        refine ⟨(show ((0 : Nat) : Int) < (n : Int) by omega), ?_⟩
        conv=>whnf
        refine ldk (ver := n - 1) (o := 0) (sz := 1) (by decide) ?_
        conv=>whnf
        refine ⟨zn y, ?_⟩
        refine ⟨(show (y : Int) < (n : Int) by omega), ?_⟩
        conv=>whnf
        refine ⟨(show InR ((rwM n D 0).getD 0 0 + (rwM n D 0).getD (0 + y) 0) from inr (by rw [Nat.zero_add]; exact rw_bd hW hB hx0 hz0 hy')), ?_⟩
        conv=>whnf
        refine ⟨zn y, ?_⟩
        refine ⟨(show (y : Int) < (n : Int) by omega), ?_⟩
        ((conv=>whnf);repeat (refine Wa ?_;(repeat (first|refine Wb ?_|refine Wc ?_|refine Wd ?_|refine We ?_|refine Wf ?_));(conv=>whnf)))
        refine ⟨inr (by omega), ?_⟩
        conv=>whnf
        refine ⟨by repeat (first|exact trivial|exact rfl|exact namedTb|exact fun _ _=>namedTb|exact fun _ _ _ _=>rfl|exact fun _=>trivial|exact fun _ _=>trivial|exact fun _ _ _=>trivial|exact fun _ _ _ _=>trivial|refine And.intro ?_ ?_), memA1 (memG n W (upD D 0 y 0)) ⟨ObSub.refl _, ObSub.ii (rw_put hx0 hz0 hy' (Nat.zero_add y)), ObSub.refl _, ObSub.ii (rw_other (by decide)), ObSub.ii (rw_other (by decide)), ObSub.ii (rw_other (by decide)), ObSub.ii (rw_other (by decide)), trivial⟩ ⟨⟨0 + 1, upD D 0 y 0, hz0, up_base hx0 hy' hz0 hB, up_sh hS, fun a ha b hb => up_dn (hDx a ha b hb), fun b hb => up_dn (hDy b hb), up_dz hB hS hDz hz0 hy', rfl, rfl⟩, ?_⟩⟩
        simp [V.toInt, sel, Env.get]; omega
       ·((conv=>whnf);repeat (refine Wa ?_;(repeat (first|refine Wb ?_|refine Wc ?_|refine Wd ?_|refine We ?_|refine Wf ?_));(conv=>whnf)))
        have hzn : n = 0 := by have h := hge4; simp at h; omega
        refine ⟨inr (by omega), ?_⟩
        conv=>whnf
        refine ⟨by repeat (first|exact trivial|exact rfl|exact namedTb|exact fun _ _=>namedTb|exact fun _ _ _ _=>rfl|exact fun _=>trivial|exact fun _ _=>trivial|exact fun _ _ _=>trivial|exact fun _ _ _ _=>trivial|refine And.intro ?_ ?_), same1 ⟨⟨y + 1, D, hy', hB, hS, hDx, fun b hb => by
         rcases (by omega : b < y ∨ b = y) with h | rfl
         ·exact hDy b h
         ·exact dz_all' hzn.symm hDz, rfl, rfl⟩, ?_⟩⟩
        simp [V.toInt, sel, Env.get]; omega
      ·((conv=>whnf);repeat (refine Wa ?_;(repeat (first|refine Wb ?_|refine Wc ?_|refine Wd ?_|refine We ?_|refine Wf ?_));(conv=>whnf)))
       refine br_dec (fun hlt4 => ?_) (fun hge4 => ?_)
       ·have hz1 : 1 < n := by have h := hlt4; simp at h; omega
        ((conv=>whnf);repeat (refine Wa ?_;(repeat (first|refine Wb ?_|refine Wc ?_|refine Wd ?_|refine We ?_|refine Wf ?_));(conv=>whnf)))
        refine AW_draw (X := xF) tab_ok mixed (by kernel_rfl) ?_
        conv=>whnf
        refine eqn_self (x := n - 1) ?_
        refine ⟨zn 0, ?_⟩
        refine ⟨(show ((0 : Nat) : Int) < (n : Int) by omega), ?_⟩
        conv=>whnf
        refine ldk (ver := n - 1) (o := 0) (sz := 1) (by decide) ?_
        conv=>whnf
        refine eqn_self (x := n - 1) ?_
        refine ⟨zn 0, ?_⟩
        refine ⟨(show ((0 : Nat) : Int) < (n : Int) by omega), ?_⟩
        conv=>whnf
        refine ldk (ver := n - 1) (o := 0) (sz := 1) (by decide) ?_
        conv=>whnf
        refine ⟨zn y, ?_⟩
        refine ⟨(show (y : Int) < (n : Int) by omega), ?_⟩
        conv=>whnf
        refine eqn_self (x := n - 1) ?_
        refine ⟨zn 0, ?_⟩
        refine ⟨(show ((0 : Nat) : Int) < (n : Int) by omega), ?_⟩
        conv=>whnf
        refine ldk (ver := n - 1) (o := 0) (sz := 1) (by decide) ?_
        conv=>whnf
        refine ⟨zn 1, ?_⟩
        refine ⟨(show ((1 : Nat) : Int) < (n : Int) by omega), ?_⟩
        conv=>whnf
        refine eqn_self (x := n - 1) ?_
        refine ⟨zn 1, ?_⟩
        refine ⟨(show ((1 : Nat) : Int) < (n : Int) by omega), ?_⟩
        conv=>whnf
        refine ldk (ver := n - 1) (o := 0) (sz := 1) (by decide) ?_
        conv=>whnf
        refine ⟨zn y, ?_⟩
        refine ⟨(show (y : Int) < (n : Int) by omega), ?_⟩
        conv=>whnf
        refine ⟨(show InR ((rwM n D 0).getD 1 0 + (rwM n D 1).getD (0 + y) 0) from inr (by rw [Nat.zero_add]; exact rw_bd hW hB hx0 hz1 hy')), ?_⟩
        conv=>whnf
        refine ⟨zn y, ?_⟩
        refine ⟨(show (y : Int) < (n : Int) by omega), ?_⟩
        ((conv=>whnf);repeat (refine Wa ?_;(repeat (first|refine Wb ?_|refine Wc ?_|refine Wd ?_|refine We ?_|refine Wf ?_));(conv=>whnf)))
        refine ⟨inr (by omega), ?_⟩
        conv=>whnf
        refine ⟨by repeat (first|exact trivial|exact rfl|exact namedTb|exact fun _ _=>namedTb|exact fun _ _ _ _=>rfl|exact fun _=>trivial|exact fun _ _=>trivial|exact fun _ _ _=>trivial|exact fun _ _ _ _=>trivial|refine And.intro ?_ ?_), memA1 (memG n W (upD D 0 y 1)) ⟨ObSub.refl _, ObSub.ii (rw_put hx0 hz1 hy' (Nat.zero_add y)), ObSub.refl _, ObSub.ii (rw_other (by decide)), ObSub.ii (rw_other (by decide)), ObSub.ii (rw_other (by decide)), ObSub.ii (rw_other (by decide)), trivial⟩ ⟨⟨1 + 1, upD D 0 y 1, hz1, up_base hx0 hy' hz1 hB, up_sh hS, fun a ha b hb => up_dn (hDx a ha b hb), fun b hb => up_dn (hDy b hb), up_dz hB hS hDz hz1 hy', rfl, rfl⟩, ?_⟩⟩
        simp [V.toInt, sel, Env.get]; omega
       ·((conv=>whnf);repeat (refine Wa ?_;(repeat (first|refine Wb ?_|refine Wc ?_|refine Wd ?_|refine We ?_|refine Wf ?_));(conv=>whnf)))
        have hzn : n = 1 := by have h := hge4; simp at h; omega
        refine ⟨inr (by omega), ?_⟩
        conv=>whnf
        refine ⟨by repeat (first|exact trivial|exact rfl|exact namedTb|exact fun _ _=>namedTb|exact fun _ _ _ _=>rfl|exact fun _=>trivial|exact fun _ _=>trivial|exact fun _ _ _=>trivial|exact fun _ _ _ _=>trivial|refine And.intro ?_ ?_), same1 ⟨⟨y + 1, D, hy', hB, hS, hDx, fun b hb => by
         rcases (by omega : b < y ∨ b = y) with h | rfl
         ·exact hDy b h
         ·exact dz_all' hzn.symm hDz, rfl, rfl⟩, ?_⟩⟩
        simp [V.toInt, sel, Env.get]; omega
      ·((conv=>whnf);repeat (refine Wa ?_;(repeat (first|refine Wb ?_|refine Wc ?_|refine Wd ?_|refine We ?_|refine Wf ?_));(conv=>whnf)))
       refine br_dec (fun hlt4 => ?_) (fun hge4 => ?_)
       ·have hz2 : 2 < n := by have h := hlt4; simp at h; omega
        ((conv=>whnf);repeat (refine Wa ?_;(repeat (first|refine Wb ?_|refine Wc ?_|refine Wd ?_|refine We ?_|refine Wf ?_));(conv=>whnf)))
        refine AW_draw (X := xF) tab_ok mixed (by kernel_rfl) ?_
        conv=>whnf
        refine eqn_self (x := n - 1) ?_
        refine ⟨zn 0, ?_⟩
        refine ⟨(show ((0 : Nat) : Int) < (n : Int) by omega), ?_⟩
        conv=>whnf
        refine ldk (ver := n - 1) (o := 0) (sz := 1) (by decide) ?_
        conv=>whnf
        refine eqn_self (x := n - 1) ?_
        refine ⟨zn 0, ?_⟩
        refine ⟨(show ((0 : Nat) : Int) < (n : Int) by omega), ?_⟩
        conv=>whnf
        refine ldk (ver := n - 1) (o := 0) (sz := 1) (by decide) ?_
        conv=>whnf
        refine ⟨zn y, ?_⟩
        refine ⟨(show (y : Int) < (n : Int) by omega), ?_⟩
        conv=>whnf
        refine eqn_self (x := n - 1) ?_
        refine ⟨zn 0, ?_⟩
        refine ⟨(show ((0 : Nat) : Int) < (n : Int) by omega), ?_⟩
        conv=>whnf
        refine ldk (ver := n - 1) (o := 0) (sz := 1) (by decide) ?_
        conv=>whnf
        refine ⟨zn 2, ?_⟩
        refine ⟨(show ((2 : Nat) : Int) < (n : Int) by omega), ?_⟩
        conv=>whnf
        refine eqn_self (x := n - 1) ?_
        refine ⟨zn 2, ?_⟩
        refine ⟨(show ((2 : Nat) : Int) < (n : Int) by omega), ?_⟩
        conv=>whnf
        refine ldk (ver := n - 1) (o := 0) (sz := 1) (by decide) ?_
        conv=>whnf
        refine ⟨zn y, ?_⟩
        refine ⟨(show (y : Int) < (n : Int) by omega), ?_⟩
        conv=>whnf
        refine ⟨(show InR ((rwM n D 0).getD 2 0 + (rwM n D 2).getD (0 + y) 0) from inr (by rw [Nat.zero_add]; exact rw_bd hW hB hx0 hz2 hy')), ?_⟩
        conv=>whnf
        refine ⟨zn y, ?_⟩
        refine ⟨(show (y : Int) < (n : Int) by omega), ?_⟩
        ((conv=>whnf);repeat (refine Wa ?_;(repeat (first|refine Wb ?_|refine Wc ?_|refine Wd ?_|refine We ?_|refine Wf ?_));(conv=>whnf)))
        refine ⟨inr (by omega), ?_⟩
        conv=>whnf
        refine ⟨by repeat (first|exact trivial|exact rfl|exact namedTb|exact fun _ _=>namedTb|exact fun _ _ _ _=>rfl|exact fun _=>trivial|exact fun _ _=>trivial|exact fun _ _ _=>trivial|exact fun _ _ _ _=>trivial|refine And.intro ?_ ?_), memA1 (memG n W (upD D 0 y 2)) ⟨ObSub.refl _, ObSub.ii (rw_put hx0 hz2 hy' (Nat.zero_add y)), ObSub.refl _, ObSub.ii (rw_other (by decide)), ObSub.ii (rw_other (by decide)), ObSub.ii (rw_other (by decide)), ObSub.ii (rw_other (by decide)), trivial⟩ ⟨⟨2 + 1, upD D 0 y 2, hz2, up_base hx0 hy' hz2 hB, up_sh hS, fun a ha b hb => up_dn (hDx a ha b hb), fun b hb => up_dn (hDy b hb), up_dz hB hS hDz hz2 hy', rfl, rfl⟩, ?_⟩⟩
        simp [V.toInt, sel, Env.get]; omega
       ·((conv=>whnf);repeat (refine Wa ?_;(repeat (first|refine Wb ?_|refine Wc ?_|refine Wd ?_|refine We ?_|refine Wf ?_));(conv=>whnf)))
        have hzn : n = 2 := by have h := hge4; simp at h; omega
        refine ⟨inr (by omega), ?_⟩
        conv=>whnf
        refine ⟨by repeat (first|exact trivial|exact rfl|exact namedTb|exact fun _ _=>namedTb|exact fun _ _ _ _=>rfl|exact fun _=>trivial|exact fun _ _=>trivial|exact fun _ _ _=>trivial|exact fun _ _ _ _=>trivial|refine And.intro ?_ ?_), same1 ⟨⟨y + 1, D, hy', hB, hS, hDx, fun b hb => by
         rcases (by omega : b < y ∨ b = y) with h | rfl
         ·exact hDy b h
         ·exact dz_all' hzn.symm hDz, rfl, rfl⟩, ?_⟩⟩
        simp [V.toInt, sel, Env.get]; omega
      ·((conv=>whnf);repeat (refine Wa ?_;(repeat (first|refine Wb ?_|refine Wc ?_|refine Wd ?_|refine We ?_|refine Wf ?_));(conv=>whnf)))
       refine br_dec (fun hlt4 => ?_) (fun hge4 => ?_)
       ·have hz3 : 3 < n := by have h := hlt4; simp at h; omega
        ((conv=>whnf);repeat (refine Wa ?_;(repeat (first|refine Wb ?_|refine Wc ?_|refine Wd ?_|refine We ?_|refine Wf ?_));(conv=>whnf)))
        refine AW_draw (X := xF) tab_ok mixed (by kernel_rfl) ?_
        conv=>whnf
        refine eqn_self (x := n - 1) ?_
        refine ⟨zn 0, ?_⟩
        refine ⟨(show ((0 : Nat) : Int) < (n : Int) by omega), ?_⟩
        conv=>whnf
        refine ldk (ver := n - 1) (o := 0) (sz := 1) (by decide) ?_
        conv=>whnf
        refine eqn_self (x := n - 1) ?_
        refine ⟨zn 0, ?_⟩
        refine ⟨(show ((0 : Nat) : Int) < (n : Int) by omega), ?_⟩
        conv=>whnf
        refine ldk (ver := n - 1) (o := 0) (sz := 1) (by decide) ?_
        conv=>whnf
        refine ⟨zn y, ?_⟩
        refine ⟨(show (y : Int) < (n : Int) by omega), ?_⟩
        conv=>whnf
        refine eqn_self (x := n - 1) ?_
        refine ⟨zn 0, ?_⟩
        refine ⟨(show ((0 : Nat) : Int) < (n : Int) by omega), ?_⟩
        conv=>whnf
        refine ldk (ver := n - 1) (o := 0) (sz := 1) (by decide) ?_
        conv=>whnf
        refine ⟨zn 3, ?_⟩
        refine ⟨(show ((3 : Nat) : Int) < (n : Int) by omega), ?_⟩
        conv=>whnf
        refine eqn_self (x := n - 1) ?_
        refine ⟨zn 3, ?_⟩
        refine ⟨(show ((3 : Nat) : Int) < (n : Int) by omega), ?_⟩
        conv=>whnf
        refine ldk (ver := n - 1) (o := 0) (sz := 1) (by decide) ?_
        conv=>whnf
        refine ⟨zn y, ?_⟩
        refine ⟨(show (y : Int) < (n : Int) by omega), ?_⟩
        conv=>whnf
        refine ⟨(show InR ((rwM n D 0).getD 3 0 + (rwM n D 3).getD (0 + y) 0) from inr (by rw [Nat.zero_add]; exact rw_bd hW hB hx0 hz3 hy')), ?_⟩
        conv=>whnf
        refine ⟨zn y, ?_⟩
        refine ⟨(show (y : Int) < (n : Int) by omega), ?_⟩
        ((conv=>whnf);repeat (refine Wa ?_;(repeat (first|refine Wb ?_|refine Wc ?_|refine Wd ?_|refine We ?_|refine Wf ?_));(conv=>whnf)))
        refine ⟨inr (by omega), ?_⟩
        conv=>whnf
        refine ⟨by repeat (first|exact trivial|exact rfl|exact namedTb|exact fun _ _=>namedTb|exact fun _ _ _ _=>rfl|exact fun _=>trivial|exact fun _ _=>trivial|exact fun _ _ _=>trivial|exact fun _ _ _ _=>trivial|refine And.intro ?_ ?_), memA1 (memG n W (upD D 0 y 3)) ⟨ObSub.refl _, ObSub.ii (rw_put hx0 hz3 hy' (Nat.zero_add y)), ObSub.refl _, ObSub.ii (rw_other (by decide)), ObSub.ii (rw_other (by decide)), ObSub.ii (rw_other (by decide)), ObSub.ii (rw_other (by decide)), trivial⟩ ⟨⟨3 + 1, upD D 0 y 3, hz3, up_base hx0 hy' hz3 hB, up_sh hS, fun a ha b hb => up_dn (hDx a ha b hb), fun b hb => up_dn (hDy b hb), up_dz hB hS hDz hz3 hy', rfl, rfl⟩, ?_⟩⟩
        simp [V.toInt, sel, Env.get]; omega
       ·((conv=>whnf);repeat (refine Wa ?_;(repeat (first|refine Wb ?_|refine Wc ?_|refine Wd ?_|refine We ?_|refine Wf ?_));(conv=>whnf)))
        have hzn : n = 3 := by have h := hge4; simp at h; omega
        refine ⟨inr (by omega), ?_⟩
        conv=>whnf
        refine ⟨by repeat (first|exact trivial|exact rfl|exact namedTb|exact fun _ _=>namedTb|exact fun _ _ _ _=>rfl|exact fun _=>trivial|exact fun _ _=>trivial|exact fun _ _ _=>trivial|exact fun _ _ _ _=>trivial|refine And.intro ?_ ?_), same1 ⟨⟨y + 1, D, hy', hB, hS, hDx, fun b hb => by
         rcases (by omega : b < y ∨ b = y) with h | rfl
         ·exact hDy b h
         ·exact dz_all' hzn.symm hDz, rfl, rfl⟩, ?_⟩⟩
        simp [V.toInt, sel, Env.get]; omega
      ·((conv=>whnf);repeat (refine Wa ?_;(repeat (first|refine Wb ?_|refine Wc ?_|refine Wd ?_|refine We ?_|refine Wf ?_));(conv=>whnf)))
       refine br_dec (fun hlt4 => ?_) (fun hge4 => ?_)
       ·have hz4 : 4 < n := by have h := hlt4; simp at h; omega
        ((conv=>whnf);repeat (refine Wa ?_;(repeat (first|refine Wb ?_|refine Wc ?_|refine Wd ?_|refine We ?_|refine Wf ?_));(conv=>whnf)))
        refine AW_draw (X := xF) tab_ok mixed (by kernel_rfl) ?_
        conv=>whnf
        refine eqn_self (x := n - 1) ?_
        refine ⟨zn 0, ?_⟩
        refine ⟨(show ((0 : Nat) : Int) < (n : Int) by omega), ?_⟩
        conv=>whnf
        refine ldk (ver := n - 1) (o := 0) (sz := 1) (by decide) ?_
        conv=>whnf
        refine eqn_self (x := n - 1) ?_
        refine ⟨zn 0, ?_⟩
        refine ⟨(show ((0 : Nat) : Int) < (n : Int) by omega), ?_⟩
        conv=>whnf
        refine ldk (ver := n - 1) (o := 0) (sz := 1) (by decide) ?_
        conv=>whnf
        refine ⟨zn y, ?_⟩
        refine ⟨(show (y : Int) < (n : Int) by omega), ?_⟩
        conv=>whnf
        refine eqn_self (x := n - 1) ?_
        refine ⟨zn 0, ?_⟩
        refine ⟨(show ((0 : Nat) : Int) < (n : Int) by omega), ?_⟩
        conv=>whnf
        refine ldk (ver := n - 1) (o := 0) (sz := 1) (by decide) ?_
        conv=>whnf
        refine ⟨zn 4, ?_⟩
        refine ⟨(show ((4 : Nat) : Int) < (n : Int) by omega), ?_⟩
        conv=>whnf
        refine eqn_self (x := n - 1) ?_
        refine ⟨zn 4, ?_⟩
        refine ⟨(show ((4 : Nat) : Int) < (n : Int) by omega), ?_⟩
        conv=>whnf
        refine ldk (ver := n - 1) (o := 0) (sz := 1) (by decide) ?_
        conv=>whnf
        refine ⟨zn y, ?_⟩
        refine ⟨(show (y : Int) < (n : Int) by omega), ?_⟩
        conv=>whnf
        refine ⟨(show InR ((rwM n D 0).getD 4 0 + (rwM n D 4).getD (0 + y) 0) from inr (by rw [Nat.zero_add]; exact rw_bd hW hB hx0 hz4 hy')), ?_⟩
        conv=>whnf
        refine ⟨zn y, ?_⟩
        refine ⟨(show (y : Int) < (n : Int) by omega), ?_⟩
        ((conv=>whnf);repeat (refine Wa ?_;(repeat (first|refine Wb ?_|refine Wc ?_|refine Wd ?_|refine We ?_|refine Wf ?_));(conv=>whnf)))
        refine ⟨inr (by omega), ?_⟩
        conv=>whnf
        refine ⟨by repeat (first|exact trivial|exact rfl|exact namedTb|exact fun _ _=>namedTb|exact fun _ _ _ _=>rfl|exact fun _=>trivial|exact fun _ _=>trivial|exact fun _ _ _=>trivial|exact fun _ _ _ _=>trivial|refine And.intro ?_ ?_), memA1 (memG n W (upD D 0 y 4)) ⟨ObSub.refl _, ObSub.ii (rw_put hx0 hz4 hy' (Nat.zero_add y)), ObSub.refl _, ObSub.ii (rw_other (by decide)), ObSub.ii (rw_other (by decide)), ObSub.ii (rw_other (by decide)), ObSub.ii (rw_other (by decide)), trivial⟩ ⟨⟨4 + 1, upD D 0 y 4, hz4, up_base hx0 hy' hz4 hB, up_sh hS, fun a ha b hb => up_dn (hDx a ha b hb), fun b hb => up_dn (hDy b hb), up_dz hB hS hDz hz4 hy', rfl, rfl⟩, ?_⟩⟩
        simp [V.toInt, sel, Env.get]; omega
       ·((conv=>whnf);repeat (refine Wa ?_;(repeat (first|refine Wb ?_|refine Wc ?_|refine Wd ?_|refine We ?_|refine Wf ?_));(conv=>whnf)))
        have hzn : n = 4 := by have h := hge4; simp at h; omega
        refine ⟨inr (by omega), ?_⟩
        conv=>whnf
        refine ⟨by repeat (first|exact trivial|exact rfl|exact namedTb|exact fun _ _=>namedTb|exact fun _ _ _ _=>rfl|exact fun _=>trivial|exact fun _ _=>trivial|exact fun _ _ _=>trivial|exact fun _ _ _ _=>trivial|refine And.intro ?_ ?_), same1 ⟨⟨y + 1, D, hy', hB, hS, hDx, fun b hb => by
         rcases (by omega : b < y ∨ b = y) with h | rfl
         ·exact hDy b h
         ·exact dz_all' hzn.symm hDz, rfl, rfl⟩, ?_⟩⟩
        simp [V.toInt, sel, Env.get]; omega
      ·have hzn : n = 5 := by omega
       ((conv=>whnf);repeat (refine Wa ?_;(repeat (first|refine Wb ?_|refine Wc ?_|refine Wd ?_|refine We ?_|refine Wf ?_));(conv=>whnf)))
       refine br_dec (fun hlt4 => ?_) (fun hge4 => ?_)
       ·exact absurd hlt4 (by simp; omega)
       ·((conv=>whnf);repeat (refine Wa ?_;(repeat (first|refine Wb ?_|refine Wc ?_|refine Wd ?_|refine We ?_|refine Wf ?_));(conv=>whnf)))
        refine ⟨inr (by omega), ?_⟩
        conv=>whnf
        refine ⟨by repeat (first|exact trivial|exact rfl|exact namedTb|exact fun _ _=>namedTb|exact fun _ _ _ _=>rfl|exact fun _=>trivial|exact fun _ _=>trivial|exact fun _ _ _=>trivial|exact fun _ _ _ _=>trivial|refine And.intro ?_ ?_), same1 ⟨⟨y + 1, D, hy', hB, hS, hDx, fun b hb => by
         rcases (by omega : b < y ∨ b = y) with h | rfl
         ·exact hDy b h
         ·exact dz_all' hzn.symm hDz, rfl, rfl⟩, ?_⟩⟩
        simp [V.toInt, sel, Env.get]; omega
     ·obtain rfl : n = y := by omega
      ((conv=>whnf);repeat (refine Wa ?_;(repeat (first|refine Wb ?_|refine Wc ?_|refine Wd ?_|refine We ?_|refine Wf ?_));(conv=>whnf)))
      refine ⟨inr (by omega), ?_⟩
      conv=>whnf
      refine ⟨by repeat (first|exact trivial|exact rfl|exact namedTb|exact fun _ _=>namedTb|exact fun _ _ _ _=>rfl|exact fun _=>trivial|exact fun _ _=>trivial|exact fun _ _ _=>trivial|exact fun _ _ _ _=>trivial|refine And.intro ?_ ?_), same1 ⟨⟨0 + 1, D, hx0, hB, hS, fun a ha b hb => by
       rcases (by omega : a < 0 ∨ a = 0) with h | rfl
       ·exact hDx a h b hb
       ·exact hDy b hb, rfl, rfl⟩, ?_⟩⟩
      simp [V.toInt, sel, Env.get]; omega
    ·((conv=>whnf);repeat (refine Wa ?_;(repeat (first|refine Wb ?_|refine Wc ?_|refine Wd ?_|refine We ?_|refine Wf ?_));(conv=>whnf)))
     have hxn : n = 0 := by have h := hge2; simp at h; omega
     refine ⟨inr (by omega), ?_⟩
     conv=>whnf
     refine ⟨by repeat (first|exact trivial|exact rfl|exact namedTb|exact fun _ _=>namedTb|exact fun _ _ _ _=>rfl|exact fun _=>trivial|exact fun _ _=>trivial|exact fun _ _ _=>trivial|exact fun _ _ _ _=>trivial|refine And.intro ?_ ?_), same1 ⟨⟨r + 1, D, hr', hB, sh_next hS (fun a b ha hb => hDx a (by omega) b hb), rfl, rfl⟩, ?_⟩⟩
     simp [V.toInt, sel, Env.get]; omega
   ·((conv=>whnf);repeat (refine Wa ?_;(repeat (first|refine Wb ?_|refine Wc ?_|refine Wd ?_|refine We ?_|refine Wf ?_));(conv=>whnf)))
    refine br_dec (fun hlt2 => ?_) (fun hge2 => ?_)
    ·have hx1 : 1 < n := by have h := hlt2; simp at h; omega
     ((conv=>whnf);repeat (refine Wa ?_;(repeat (first|refine Wb ?_|refine Wc ?_|refine Wd ?_|refine We ?_|refine Wf ?_));(conv=>whnf)))
     refine AW_loopA (X := xF) tab_ok [0, 3, 8, 12, 13, 14] (fun _ => true) (fun vs M => ∃ (y : Nat) (D : Nat → Nat → Int), y ≤ n ∧ Base n W D ∧ Sh n W D r ∧ (∀ a, a < 1 → ∀ b, b < n → Dn n W D r a b) ∧ (∀ b, b < y → Dn n W D r 1 b) ∧ vs = [tabV n W, .int n, .sl 3 (n - 1) 0 n, .int r, .int (1 : Nat), .int y] ∧ M = memG n W D)
      (fun vs _ => n - (vs.getD 5 .any).toInt.toNat) (fun _ _ => rfl) ?_ ?_
     ·exact same0 ⟨0, D, Nat.zero_le _, hB, hS, hDx, fun b hb => absurd hb (by omega), rfl, rfl⟩
     clear hB hS hDx
     clear D
     rintro vs M ⟨y, D, hy, hB, hS, hDx, hDy, rfl, rfl⟩
     ((conv=>whnf);repeat (refine Wa ?_;(repeat (first|refine Wb ?_|refine Wc ?_|refine Wd ?_|refine We ?_|refine Wf ?_));(conv=>whnf)))
     refine br_dec (fun hlt3 => ?_) (fun hge3 => ?_)
     ·have hy' : y < n := by omega
      ((conv=>whnf);repeat (refine Wa ?_;(repeat (first|refine Wb ?_|refine Wc ?_|refine Wd ?_|refine We ?_|refine Wf ?_));(conv=>whnf)))
      refine AW_loopA (X := xF) tab_ok [0, 3, 8, 12, 13, 14, 15] (fun _ => true) (fun vs M => ∃ (z : Nat) (D : Nat → Nat → Int), z ≤ n ∧ Base n W D ∧ Sh n W D r ∧ (∀ a, a < 1 → ∀ b, b < n → Dn n W D r a b) ∧ (∀ b, b < y → Dn n W D r 1 b) ∧ Dz n W D r 1 y z ∧ vs = [tabV n W, .int n, .sl 3 (n - 1) 0 n, .int r, .int (1 : Nat), .int y, .int z] ∧ M = memG n W D)
       (fun vs _ => n - (vs.getD 6 .any).toInt.toNat) (fun _ _ => rfl) ?_ ?_
      ·exact same0 ⟨0, D, Nat.zero_le _, hB, hS, hDx, hDy, fun v _ _ _ h => absurd h (by omega), rfl, rfl⟩
      clear hB hS hDx hDy
      clear D
      rintro vs M ⟨z, D, hz, hB, hS, hDx, hDy, hDz, rfl, rfl⟩
      rcases (by omega : z = 0 ∨ z = 1 ∨ z = 2 ∨ z = 3 ∨ z = 4 ∨ z = 5) with rfl | rfl | rfl | rfl | rfl | rfl
      ·((conv=>whnf);repeat (refine Wa ?_;(repeat (first|refine Wb ?_|refine Wc ?_|refine Wd ?_|refine We ?_|refine Wf ?_));(conv=>whnf)))
       refine br_dec (fun hlt4 => ?_) (fun hge4 => ?_)
       ·have hz0 : 0 < n := by have h := hlt4; simp at h; omega
        ((conv=>whnf);repeat (refine Wa ?_;(repeat (first|refine Wb ?_|refine Wc ?_|refine Wd ?_|refine We ?_|refine Wf ?_));(conv=>whnf)))
        refine AW_draw (X := xF) tab_ok mixed (by kernel_rfl) ?_
        conv=>whnf
        refine eqn_self (x := n - 1) ?_
        refine ⟨zn 1, ?_⟩
        refine ⟨(show ((1 : Nat) : Int) < (n : Int) by omega), ?_⟩
        conv=>whnf
        refine ldk (ver := n - 1) (o := 0) (sz := 1) (by decide) ?_
        conv=>whnf
        refine eqn_self (x := n - 1) ?_
        refine ⟨zn 1, ?_⟩
        refine ⟨(show ((1 : Nat) : Int) < (n : Int) by omega), ?_⟩
        conv=>whnf
        refine ldk (ver := n - 1) (o := 0) (sz := 1) (by decide) ?_
        conv=>whnf
        refine ⟨zn y, ?_⟩
        refine ⟨(show (y : Int) < (n : Int) by omega), ?_⟩
        conv=>whnf
        refine eqn_self (x := n - 1) ?_
        refine ⟨zn 1, ?_⟩
        refine ⟨(show ((1 : Nat) : Int) < (n : Int) by omega), ?_⟩
        conv=>whnf
        refine ldk (ver := n - 1) (o := 0) (sz := 1) (by decide) ?_
        conv=>whnf
        refine ⟨zn 0, ?_⟩
        refine ⟨(show ((0 : Nat) : Int) < (n : Int) by omega), ?_⟩
        conv=>whnf
        refine eqn_self (x := n - 1) ?_
        refine ⟨zn 0, ?_⟩
        refine ⟨(show ((0 : Nat) : Int) < (n : Int) by omega), ?_⟩
        conv=>whnf
        refine ldk (ver := n - 1) (o := 0) (sz := 1) (by decide) ?_
        conv=>whnf
        refine ⟨zn y, ?_⟩
        refine ⟨(show (y : Int) < (n : Int) by omega), ?_⟩
        conv=>whnf
        refine ⟨(show InR ((rwM n D 1).getD 0 0 + (rwM n D 0).getD (0 + y) 0) from inr (by rw [Nat.zero_add]; exact rw_bd hW hB hx1 hz0 hy')), ?_⟩
        conv=>whnf
        refine ⟨zn y, ?_⟩
        refine ⟨(show (y : Int) < (n : Int) by omega), ?_⟩
        ((conv=>whnf);repeat (refine Wa ?_;(repeat (first|refine Wb ?_|refine Wc ?_|refine Wd ?_|refine We ?_|refine Wf ?_));(conv=>whnf)))
        refine ⟨inr (by omega), ?_⟩
        conv=>whnf
        refine ⟨by repeat (first|exact trivial|exact rfl|exact namedTb|exact fun _ _=>namedTb|exact fun _ _ _ _=>rfl|exact fun _=>trivial|exact fun _ _=>trivial|exact fun _ _ _=>trivial|exact fun _ _ _ _=>trivial|refine And.intro ?_ ?_), memA1 (memG n W (upD D 1 y 0)) ⟨ObSub.refl _, ObSub.ii (rw_other (by decide)), ObSub.refl _, ObSub.ii (rw_put hx1 hz0 hy' (Nat.zero_add y)), ObSub.ii (rw_other (by decide)), ObSub.ii (rw_other (by decide)), ObSub.ii (rw_other (by decide)), trivial⟩ ⟨⟨0 + 1, upD D 1 y 0, hz0, up_base hx1 hy' hz0 hB, up_sh hS, fun a ha b hb => up_dn (hDx a ha b hb), fun b hb => up_dn (hDy b hb), up_dz hB hS hDz hz0 hy', rfl, rfl⟩, ?_⟩⟩
        simp [V.toInt, sel, Env.get]; omega
       ·((conv=>whnf);repeat (refine Wa ?_;(repeat (first|refine Wb ?_|refine Wc ?_|refine Wd ?_|refine We ?_|refine Wf ?_));(conv=>whnf)))
        have hzn : n = 0 := by have h := hge4; simp at h; omega
        refine ⟨inr (by omega), ?_⟩
        conv=>whnf
        refine ⟨by repeat (first|exact trivial|exact rfl|exact namedTb|exact fun _ _=>namedTb|exact fun _ _ _ _=>rfl|exact fun _=>trivial|exact fun _ _=>trivial|exact fun _ _ _=>trivial|exact fun _ _ _ _=>trivial|refine And.intro ?_ ?_), same1 ⟨⟨y + 1, D, hy', hB, hS, hDx, fun b hb => by
         rcases (by omega : b < y ∨ b = y) with h | rfl
         ·exact hDy b h
         ·exact dz_all' hzn.symm hDz, rfl, rfl⟩, ?_⟩⟩
        simp [V.toInt, sel, Env.get]; omega
      ·((conv=>whnf);repeat (refine Wa ?_;(repeat (first|refine Wb ?_|refine Wc ?_|refine Wd ?_|refine We ?_|refine Wf ?_));(conv=>whnf)))
       refine br_dec (fun hlt4 => ?_) (fun hge4 => ?_)
       ·have hz1 : 1 < n := by have h := hlt4; simp at h; omega
        ((conv=>whnf);repeat (refine Wa ?_;(repeat (first|refine Wb ?_|refine Wc ?_|refine Wd ?_|refine We ?_|refine Wf ?_));(conv=>whnf)))
        refine AW_draw (X := xF) tab_ok mixed (by kernel_rfl) ?_
        conv=>whnf
        refine eqn_self (x := n - 1) ?_
        refine ⟨zn 1, ?_⟩
        refine ⟨(show ((1 : Nat) : Int) < (n : Int) by omega), ?_⟩
        conv=>whnf
        refine ldk (ver := n - 1) (o := 0) (sz := 1) (by decide) ?_
        conv=>whnf
        refine eqn_self (x := n - 1) ?_
        refine ⟨zn 1, ?_⟩
        refine ⟨(show ((1 : Nat) : Int) < (n : Int) by omega), ?_⟩
        conv=>whnf
        refine ldk (ver := n - 1) (o := 0) (sz := 1) (by decide) ?_
        conv=>whnf
        refine ⟨zn y, ?_⟩
        refine ⟨(show (y : Int) < (n : Int) by omega), ?_⟩
        conv=>whnf
        refine eqn_self (x := n - 1) ?_
        refine ⟨zn 1, ?_⟩
        refine ⟨(show ((1 : Nat) : Int) < (n : Int) by omega), ?_⟩
        conv=>whnf
        refine ldk (ver := n - 1) (o := 0) (sz := 1) (by decide) ?_
        conv=>whnf
        refine ⟨zn 1, ?_⟩
        refine ⟨(show ((1 : Nat) : Int) < (n : Int) by omega), ?_⟩
        conv=>whnf
        refine eqn_self (x := n - 1) ?_
        refine ⟨zn 1, ?_⟩
        refine ⟨(show ((1 : Nat) : Int) < (n : Int) by omega), ?_⟩
        conv=>whnf
        refine ldk (ver := n - 1) (o := 0) (sz := 1) (by decide) ?_
        conv=>whnf
        refine ⟨zn y, ?_⟩
        refine ⟨(show (y : Int) < (n : Int) by omega), ?_⟩
        conv=>whnf
        refine ⟨(show InR ((rwM n D 1).getD 1 0 + (rwM n D 1).getD (0 + y) 0) from inr (by rw [Nat.zero_add]; exact rw_bd hW hB hx1 hz1 hy')), ?_⟩
        conv=>whnf
        refine ⟨zn y, ?_⟩
        refine ⟨(show (y : Int) < (n : Int) by omega), ?_⟩
        ((conv=>whnf);repeat (refine Wa ?_;(repeat (first|refine Wb ?_|refine Wc ?_|refine Wd ?_|refine We ?_|refine Wf ?_));(conv=>whnf)))
        refine ⟨inr (by omega), ?_⟩
        conv=>whnf
        refine ⟨by repeat (first|exact trivial|exact rfl|exact namedTb|exact fun _ _=>namedTb|exact fun _ _ _ _=>rfl|exact fun _=>trivial|exact fun _ _=>trivial|exact fun _ _ _=>trivial|exact fun _ _ _ _=>trivial|refine And.intro ?_ ?_), memA1 (memG n W (upD D 1 y 1)) ⟨ObSub.refl _, ObSub.ii (rw_other (by decide)), ObSub.refl _, ObSub.ii (rw_put hx1 hz1 hy' (Nat.zero_add y)), ObSub.ii (rw_other (by decide)), ObSub.ii (rw_other (by decide)), ObSub.ii (rw_other (by decide)), trivial⟩ ⟨⟨1 + 1, upD D 1 y 1, hz1, up_base hx1 hy' hz1 hB, up_sh hS, fun a ha b hb => up_dn (hDx a ha b hb), fun b hb => up_dn (hDy b hb), up_dz hB hS hDz hz1 hy', rfl, rfl⟩, ?_⟩⟩
        simp [V.toInt, sel, Env.get]; omega
       ·((conv=>whnf);repeat (refine Wa ?_;(repeat (first|refine Wb ?_|refine Wc ?_|refine Wd ?_|refine We ?_|refine Wf ?_));(conv=>whnf)))
        have hzn : n = 1 := by have h := hge4; simp at h; omega
        refine ⟨inr (by omega), ?_⟩
        conv=>whnf
        refine ⟨by repeat (first|exact trivial|exact rfl|exact namedTb|exact fun _ _=>namedTb|exact fun _ _ _ _=>rfl|exact fun _=>trivial|exact fun _ _=>trivial|exact fun _ _ _=>trivial|exact fun _ _ _ _=>trivial|refine And.intro ?_ ?_), same1 ⟨⟨y + 1, D, hy', hB, hS, hDx, fun b hb => by
         rcases (by omega : b < y ∨ b = y) with h | rfl
         ·exact hDy b h
         ·exact dz_all' hzn.symm hDz, rfl, rfl⟩, ?_⟩⟩
        simp [V.toInt, sel, Env.get]; omega
      ·((conv=>whnf);repeat (refine Wa ?_;(repeat (first|refine Wb ?_|refine Wc ?_|refine Wd ?_|refine We ?_|refine Wf ?_));(conv=>whnf)))
       refine br_dec (fun hlt4 => ?_) (fun hge4 => ?_)
       ·have hz2 : 2 < n := by have h := hlt4; simp at h; omega
        ((conv=>whnf);repeat (refine Wa ?_;(repeat (first|refine Wb ?_|refine Wc ?_|refine Wd ?_|refine We ?_|refine Wf ?_));(conv=>whnf)))
        refine AW_draw (X := xF) tab_ok mixed (by kernel_rfl) ?_
        conv=>whnf
        refine eqn_self (x := n - 1) ?_
        refine ⟨zn 1, ?_⟩
        refine ⟨(show ((1 : Nat) : Int) < (n : Int) by omega), ?_⟩
        conv=>whnf
        refine ldk (ver := n - 1) (o := 0) (sz := 1) (by decide) ?_
        conv=>whnf
        refine eqn_self (x := n - 1) ?_
        refine ⟨zn 1, ?_⟩
        refine ⟨(show ((1 : Nat) : Int) < (n : Int) by omega), ?_⟩
        conv=>whnf
        refine ldk (ver := n - 1) (o := 0) (sz := 1) (by decide) ?_
        conv=>whnf
        refine ⟨zn y, ?_⟩
        refine ⟨(show (y : Int) < (n : Int) by omega), ?_⟩
        conv=>whnf
        refine eqn_self (x := n - 1) ?_
        refine ⟨zn 1, ?_⟩
        refine ⟨(show ((1 : Nat) : Int) < (n : Int) by omega), ?_⟩
        conv=>whnf
        refine ldk (ver := n - 1) (o := 0) (sz := 1) (by decide) ?_
        conv=>whnf
        refine ⟨zn 2, ?_⟩
        refine ⟨(show ((2 : Nat) : Int) < (n : Int) by omega), ?_⟩
        conv=>whnf
        refine eqn_self (x := n - 1) ?_
        refine ⟨zn 2, ?_⟩
        refine ⟨(show ((2 : Nat) : Int) < (n : Int) by omega), ?_⟩
        conv=>whnf
        refine ldk (ver := n - 1) (o := 0) (sz := 1) (by decide) ?_
        conv=>whnf
        refine ⟨zn y, ?_⟩
        refine ⟨(show (y : Int) < (n : Int) by omega), ?_⟩
        conv=>whnf
        refine ⟨(show InR ((rwM n D 1).getD 2 0 + (rwM n D 2).getD (0 + y) 0) from inr (by rw [Nat.zero_add]; exact rw_bd hW hB hx1 hz2 hy')), ?_⟩
        conv=>whnf
        refine ⟨zn y, ?_⟩
        refine ⟨(show (y : Int) < (n : Int) by omega), ?_⟩
        ((conv=>whnf);repeat (refine Wa ?_;(repeat (first|refine Wb ?_|refine Wc ?_|refine Wd ?_|refine We ?_|refine Wf ?_));(conv=>whnf)))
        refine ⟨inr (by omega), ?_⟩
        conv=>whnf
        refine ⟨by repeat (first|exact trivial|exact rfl|exact namedTb|exact fun _ _=>namedTb|exact fun _ _ _ _=>rfl|exact fun _=>trivial|exact fun _ _=>trivial|exact fun _ _ _=>trivial|exact fun _ _ _ _=>trivial|refine And.intro ?_ ?_), memA1 (memG n W (upD D 1 y 2)) ⟨ObSub.refl _, ObSub.ii (rw_other (by decide)), ObSub.refl _, ObSub.ii (rw_put hx1 hz2 hy' (Nat.zero_add y)), ObSub.ii (rw_other (by decide)), ObSub.ii (rw_other (by decide)), ObSub.ii (rw_other (by decide)), trivial⟩ ⟨⟨2 + 1, upD D 1 y 2, hz2, up_base hx1 hy' hz2 hB, up_sh hS, fun a ha b hb => up_dn (hDx a ha b hb), fun b hb => up_dn (hDy b hb), up_dz hB hS hDz hz2 hy', rfl, rfl⟩, ?_⟩⟩
        simp [V.toInt, sel, Env.get]; omega
       ·((conv=>whnf);repeat (refine Wa ?_;(repeat (first|refine Wb ?_|refine Wc ?_|refine Wd ?_|refine We ?_|refine Wf ?_));(conv=>whnf)))
        have hzn : n = 2 := by have h := hge4; simp at h; omega
        refine ⟨inr (by omega), ?_⟩
        conv=>whnf
        refine ⟨by repeat (first|exact trivial|exact rfl|exact namedTb|exact fun _ _=>namedTb|exact fun _ _ _ _=>rfl|exact fun _=>trivial|exact fun _ _=>trivial|exact fun _ _ _=>trivial|exact fun _ _ _ _=>trivial|refine And.intro ?_ ?_), same1 ⟨⟨y + 1, D, hy', hB, hS, hDx, fun b hb => by
         rcases (by omega : b < y ∨ b = y) with h | rfl
         ·exact hDy b h
         ·exact dz_all' hzn.symm hDz, rfl, rfl⟩, ?_⟩⟩
        simp [V.toInt, sel, Env.get]; omega
      ·((conv=>whnf);repeat (refine Wa ?_;(repeat (first|refine Wb ?_|refine Wc ?_|refine Wd ?_|refine We ?_|refine Wf ?_));(conv=>whnf)))
       refine br_dec (fun hlt4 => ?_) (fun hge4 => ?_)
       ·have hz3 : 3 < n := by have h := hlt4; simp at h; omega
        ((conv=>whnf);repeat (refine Wa ?_;(repeat (first|refine Wb ?_|refine Wc ?_|refine Wd ?_|refine We ?_|refine Wf ?_));(conv=>whnf)))
        refine AW_draw (X := xF) tab_ok mixed (by kernel_rfl) ?_
        conv=>whnf
        refine eqn_self (x := n - 1) ?_
        refine ⟨zn 1, ?_⟩
        refine ⟨(show ((1 : Nat) : Int) < (n : Int) by omega), ?_⟩
        conv=>whnf
        refine ldk (ver := n - 1) (o := 0) (sz := 1) (by decide) ?_
        conv=>whnf
        refine eqn_self (x := n - 1) ?_
        refine ⟨zn 1, ?_⟩
        refine ⟨(show ((1 : Nat) : Int) < (n : Int) by omega), ?_⟩
        conv=>whnf
        refine ldk (ver := n - 1) (o := 0) (sz := 1) (by decide) ?_
        conv=>whnf
        refine ⟨zn y, ?_⟩
        refine ⟨(show (y : Int) < (n : Int) by omega), ?_⟩
        conv=>whnf
        refine eqn_self (x := n - 1) ?_
        refine ⟨zn 1, ?_⟩
        refine ⟨(show ((1 : Nat) : Int) < (n : Int) by omega), ?_⟩
        conv=>whnf
        refine ldk (ver := n - 1) (o := 0) (sz := 1) (by decide) ?_
        conv=>whnf
        refine ⟨zn 3, ?_⟩
        refine ⟨(show ((3 : Nat) : Int) < (n : Int) by omega), ?_⟩
        conv=>whnf
        refine eqn_self (x := n - 1) ?_
        refine ⟨zn 3, ?_⟩
        refine ⟨(show ((3 : Nat) : Int) < (n : Int) by omega), ?_⟩
        conv=>whnf
        refine ldk (ver := n - 1) (o := 0) (sz := 1) (by decide) ?_
        conv=>whnf
        refine ⟨zn y, ?_⟩
        refine ⟨(show (y : Int) < (n : Int) by omega), ?_⟩
        conv=>whnf
        refine ⟨(show InR ((rwM n D 1).getD 3 0 + (rwM n D 3).getD (0 + y) 0) from inr (by rw [Nat.zero_add]; exact rw_bd hW hB hx1 hz3 hy')), ?_⟩
        conv=>whnf
        refine ⟨zn y, ?_⟩
        refine ⟨(show (y : Int) < (n : Int) by omega), ?_⟩
        ((conv=>whnf);repeat (refine Wa ?_;(repeat (first|refine Wb ?_|refine Wc ?_|refine Wd ?_|refine We ?_|refine Wf ?_));(conv=>whnf)))
        refine ⟨inr (by omega), ?_⟩
        conv=>whnf
        refine ⟨by repeat (first|exact trivial|exact rfl|exact namedTb|exact fun _ _=>namedTb|exact fun _ _ _ _=>rfl|exact fun _=>trivial|exact fun _ _=>trivial|exact fun _ _ _=>trivial|exact fun _ _ _ _=>trivial|refine And.intro ?_ ?_), memA1 (memG n W (upD D 1 y 3)) ⟨ObSub.refl _, ObSub.ii (rw_other (by decide)), ObSub.refl _, ObSub.ii (rw_put hx1 hz3 hy' (Nat.zero_add y)), ObSub.ii (rw_other (by decide)), ObSub.ii (rw_other (by decide)), ObSub.ii (rw_other (by decide)), trivial⟩ ⟨⟨3 + 1, upD D 1 y 3, hz3, up_base hx1 hy' hz3 hB, up_sh hS, fun a ha b hb => up_dn (hDx a ha b hb), fun b hb => up_dn (hDy b hb), up_dz hB hS hDz hz3 hy', rfl, rfl⟩, ?_⟩⟩
        simp [V.toInt, sel, Env.get]; omega
       ·((conv=>whnf);repeat (refine Wa ?_;(repeat (first|refine Wb ?_|refine Wc ?_|refine Wd ?_|refine We ?_|refine Wf ?_));(conv=>whnf)))
        have hzn : n = 3 := by have h := hge4; simp at h; omega
        refine ⟨inr (by omega), ?_⟩
        conv=>whnf
        refine ⟨by repeat (first|exact trivial|exact rfl|exact namedTb|exact fun _ _=>namedTb|exact fun _ _ _ _=>rfl|exact fun _=>trivial|exact fun _ _=>trivial|exact fun _ _ _=>trivial|exact fun _ _ _ _=>trivial|refine And.intro ?_ ?_), same1 ⟨⟨y + 1, D, hy', hB, hS, hDx, fun b hb => by
         rcases (by omega : b < y ∨ b = y) with h | rfl
         ·exact hDy b h
         ·exact dz_all' hzn.symm hDz, rfl, rfl⟩, ?_⟩⟩
        simp [V.toInt, sel, Env.get]; omega
      ·((conv=>whnf);repeat (refine Wa ?_;(repeat (first|refine Wb ?_|refine Wc ?_|refine Wd ?_|refine We ?_|refine Wf ?_));(conv=>whnf)))
       refine br_dec (fun hlt4 => ?_) (fun hge4 => ?_)
       ·have hz4 : 4 < n := by have h := hlt4; simp at h; omega
        ((conv=>whnf);repeat (refine Wa ?_;(repeat (first|refine Wb ?_|refine Wc ?_|refine Wd ?_|refine We ?_|refine Wf ?_));(conv=>whnf)))
        refine AW_draw (X := xF) tab_ok mixed (by kernel_rfl) ?_
        conv=>whnf
        refine eqn_self (x := n - 1) ?_
        refine ⟨zn 1, ?_⟩
        refine ⟨(show ((1 : Nat) : Int) < (n : Int) by omega), ?_⟩
        conv=>whnf
        refine ldk (ver := n - 1) (o := 0) (sz := 1) (by decide) ?_
        conv=>whnf
        refine eqn_self (x := n - 1) ?_
        refine ⟨zn 1, ?_⟩
        refine ⟨(show ((1 : Nat) : Int) < (n : Int) by omega), ?_⟩
        conv=>whnf
        refine ldk (ver := n - 1) (o := 0) (sz := 1) (by decide) ?_
        conv=>whnf
        refine ⟨zn y, ?_⟩
        refine ⟨(show (y : Int) < (n : Int) by omega), ?_⟩
        conv=>whnf
        refine eqn_self (x := n - 1) ?_
        refine ⟨zn 1, ?_⟩
        refine ⟨(show ((1 : Nat) : Int) < (n : Int) by omega), ?_⟩
        conv=>whnf
        refine ldk (ver := n - 1) (o := 0) (sz := 1) (by decide) ?_
        conv=>whnf
        refine ⟨zn 4, ?_⟩
        refine ⟨(show ((4 : Nat) : Int) < (n : Int) by omega), ?_⟩
        conv=>whnf
        refine eqn_self (x := n - 1) ?_
        refine ⟨zn 4, ?_⟩
        refine ⟨(show ((4 : Nat) : Int) < (n : Int) by omega), ?_⟩
        conv=>whnf
        refine ldk (ver := n - 1) (o := 0) (sz := 1) (by decide) ?_
        conv=>whnf
        refine ⟨zn y, ?_⟩
        refine ⟨(show (y : Int) < (n : Int) by omega), ?_⟩
        conv=>whnf
        refine ⟨(show InR ((rwM n D 1).getD 4 0 + (rwM n D 4).getD (0 + y) 0) from inr (by rw [Nat.zero_add]; exact rw_bd hW hB hx1 hz4 hy')), ?_⟩
        conv=>whnf
        refine ⟨zn y, ?_⟩
        refine ⟨(show (y : Int) < (n : Int) by omega), ?_⟩
        ((conv=>whnf);repeat (refine Wa ?_;(repeat (first|refine Wb ?_|refine Wc ?_|refine Wd ?_|refine We ?_|refine Wf ?_));(conv=>whnf)))
        refine ⟨inr (by omega), ?_⟩
        conv=>whnf
        refine ⟨by repeat (first|exact trivial|exact rfl|exact namedTb|exact fun _ _=>namedTb|exact fun _ _ _ _=>rfl|exact fun _=>trivial|exact fun _ _=>trivial|exact fun _ _ _=>trivial|exact fun _ _ _ _=>trivial|refine And.intro ?_ ?_), memA1 (memG n W (upD D 1 y 4)) ⟨ObSub.refl _, ObSub.ii (rw_other (by decide)), ObSub.refl _, ObSub.ii (rw_put hx1 hz4 hy' (Nat.zero_add y)), ObSub.ii (rw_other (by decide)), ObSub.ii (rw_other (by decide)), ObSub.ii (rw_other (by decide)), trivial⟩ ⟨⟨4 + 1, upD D 1 y 4, hz4, up_base hx1 hy' hz4 hB, up_sh hS, fun a ha b hb => up_dn (hDx a ha b hb), fun b hb => up_dn (hDy b hb), up_dz hB hS hDz hz4 hy', rfl, rfl⟩, ?_⟩⟩
        simp [V.toInt, sel, Env.get]; omega
       ·((conv=>whnf);repeat (refine Wa ?_;(repeat (first|refine Wb ?_|refine Wc ?_|refine Wd ?_|refine We ?_|refine Wf ?_));(conv=>whnf)))
        have hzn : n = 4 := by have h := hge4; simp at h; omega
        refine ⟨inr (by omega), ?_⟩
        conv=>whnf
        refine ⟨by repeat (first|exact trivial|exact rfl|exact namedTb|exact fun _ _=>namedTb|exact fun _ _ _ _=>rfl|exact fun _=>trivial|exact fun _ _=>trivial|exact fun _ _ _=>trivial|exact fun _ _ _ _=>trivial|refine And.intro ?_ ?_), same1 ⟨⟨y + 1, D, hy', hB, hS, hDx, fun b hb => by
         rcases (by omega : b < y ∨ b = y) with h | rfl
         ·exact hDy b h
         ·exact dz_all' hzn.symm hDz, rfl, rfl⟩, ?_⟩⟩
        simp [V.toInt, sel, Env.get]; omega
      ·have hzn : n = 5 := by omega
       ((conv=>whnf);repeat (refine Wa ?_;(repeat (first|refine Wb ?_|refine Wc ?_|refine Wd ?_|refine We ?_|refine Wf ?_));(conv=>whnf)))
       refine br_dec (fun hlt4 => ?_) (fun hge4 => ?_)
       ·exact absurd hlt4 (by simp; omega)
       ·((conv=>whnf);repeat (refine Wa ?_;(repeat (first|refine Wb ?_|refine Wc ?_|refine Wd ?_|refine We ?_|refine Wf ?_));(conv=>whnf)))
        refine ⟨inr (by omega), ?_⟩
        conv=>whnf
        refine ⟨by repeat (first|exact trivial|exact rfl|exact namedTb|exact fun _ _=>namedTb|exact fun _ _ _ _=>rfl|exact fun _=>trivial|exact fun _ _=>trivial|exact fun _ _ _=>trivial|exact fun _ _ _ _=>trivial|refine And.intro ?_ ?_), same1 ⟨⟨y + 1, D, hy', hB, hS, hDx, fun b hb => by
         rcases (by omega : b < y ∨ b = y) with h | rfl
         ·exact hDy b h
         ·exact dz_all' hzn.symm hDz, rfl, rfl⟩, ?_⟩⟩
        simp [V.toInt, sel, Env.get]; omega
     ·obtain rfl : n = y := by omega
      ((conv=>whnf);repeat (refine Wa ?_;(repeat (first|refine Wb ?_|refine Wc ?_|refine Wd ?_|refine We ?_|refine Wf ?_));(conv=>whnf)))
      refine ⟨inr (by omega), ?_⟩
      conv=>whnf
      refine ⟨by repeat (first|exact trivial|exact rfl|exact namedTb|exact fun _ _=>namedTb|exact fun _ _ _ _=>rfl|exact fun _=>trivial|exact fun _ _=>trivial|exact fun _ _ _=>trivial|exact fun _ _ _ _=>trivial|refine And.intro ?_ ?_), same1 ⟨⟨1 + 1, D, hx1, hB, hS, fun a ha b hb => by
       rcases (by omega : a < 1 ∨ a = 1) with h | rfl
       ·exact hDx a h b hb
       ·exact hDy b hb, rfl, rfl⟩, ?_⟩⟩
      simp [V.toInt, sel, Env.get]; omega
    ·((conv=>whnf);repeat (refine Wa ?_;(repeat (first|refine Wb ?_|refine Wc ?_|refine Wd ?_|refine We ?_|refine Wf ?_));(conv=>whnf)))
     have hxn : n = 1 := by have h := hge2; simp at h; omega
     refine ⟨inr (by omega), ?_⟩
     conv=>whnf
     refine ⟨by repeat (first|exact trivial|exact rfl|exact namedTb|exact fun _ _=>namedTb|exact fun _ _ _ _=>rfl|exact fun _=>trivial|exact fun _ _=>trivial|exact fun _ _ _=>trivial|exact fun _ _ _ _=>trivial|refine And.intro ?_ ?_), same1 ⟨⟨r + 1, D, hr', hB, sh_next hS (fun a b ha hb => hDx a (by omega) b hb), rfl, rfl⟩, ?_⟩⟩
     simp [V.toInt, sel, Env.get]; omega
   ·((conv=>whnf);repeat (refine Wa ?_;(repeat (first|refine Wb ?_|refine Wc ?_|refine Wd ?_|refine We ?_|refine Wf ?_));(conv=>whnf)))
    refine br_dec (fun hlt2 => ?_) (fun hge2 => ?_)
    ·have hx2 : 2 < n := by have h := hlt2; simp at h; omega
     ((conv=>whnf);repeat (refine Wa ?_;(repeat (first|refine Wb ?_|refine Wc ?_|refine Wd ?_|refine We ?_|refine Wf ?_));(conv=>whnf)))
     refine AW_loopA (X := xF) tab_ok [0, 3, 8, 12, 13, 14] (fun _ => true) (fun vs M => ∃ (y : Nat) (D : Nat → Nat → Int), y ≤ n ∧ Base n W D ∧ Sh n W D r ∧ (∀ a, a < 2 → ∀ b, b < n → Dn n W D r a b) ∧ (∀ b, b < y → Dn n W D r 2 b) ∧ vs = [tabV n W, .int n, .sl 3 (n - 1) 0 n, .int r, .int (2 : Nat), .int y] ∧ M = memG n W D)
      (fun vs _ => n - (vs.getD 5 .any).toInt.toNat) (fun _ _ => rfl) ?_ ?_
     ·exact same0 ⟨0, D, Nat.zero_le _, hB, hS, hDx, fun b hb => absurd hb (by omega), rfl, rfl⟩
     clear hB hS hDx
     clear D
     rintro vs M ⟨y, D, hy, hB, hS, hDx, hDy, rfl, rfl⟩
     ((conv=>whnf);repeat (refine Wa ?_;(repeat (first|refine Wb ?_|refine Wc ?_|refine Wd ?_|refine We ?_|refine Wf ?_));(conv=>whnf)))
     refine br_dec (fun hlt3 => ?_) (fun hge3 => ?_)
     ·have hy' : y < n := by omega
      ((conv=>whnf);repeat (refine Wa ?_;(repeat (first|refine Wb ?_|refine Wc ?_|refine Wd ?_|refine We ?_|refine Wf ?_));(conv=>whnf)))
      refine AW_loopA (X := xF) tab_ok [0, 3, 8, 12, 13, 14, 15] (fun _ => true) (fun vs M => ∃ (z : Nat) (D : Nat → Nat → Int), z ≤ n ∧ Base n W D ∧ Sh n W D r ∧ (∀ a, a < 2 → ∀ b, b < n → Dn n W D r a b) ∧ (∀ b, b < y → Dn n W D r 2 b) ∧ Dz n W D r 2 y z ∧ vs = [tabV n W, .int n, .sl 3 (n - 1) 0 n, .int r, .int (2 : Nat), .int y, .int z] ∧ M = memG n W D)
       (fun vs _ => n - (vs.getD 6 .any).toInt.toNat) (fun _ _ => rfl) ?_ ?_
      ·exact same0 ⟨0, D, Nat.zero_le _, hB, hS, hDx, hDy, fun v _ _ _ h => absurd h (by omega), rfl, rfl⟩
      clear hB hS hDx hDy
      clear D
      rintro vs M ⟨z, D, hz, hB, hS, hDx, hDy, hDz, rfl, rfl⟩
      rcases (by omega : z = 0 ∨ z = 1 ∨ z = 2 ∨ z = 3 ∨ z = 4 ∨ z = 5) with rfl | rfl | rfl | rfl | rfl | rfl
      ·((conv=>whnf);repeat (refine Wa ?_;(repeat (first|refine Wb ?_|refine Wc ?_|refine Wd ?_|refine We ?_|refine Wf ?_));(conv=>whnf)))
       refine br_dec (fun hlt4 => ?_) (fun hge4 => ?_)
       ·have hz0 : 0 < n := by have h := hlt4; simp at h; omega
        ((conv=>whnf);repeat (refine Wa ?_;(repeat (first|refine Wb ?_|refine Wc ?_|refine Wd ?_|refine We ?_|refine Wf ?_));(conv=>whnf)))
        refine AW_draw (X := xF) tab_ok mixed (by kernel_rfl) ?_
        conv=>whnf
        refine eqn_self (x := n - 1) ?_
        refine ⟨zn 2, ?_⟩
        refine ⟨(show ((2 : Nat) : Int) < (n : Int) by omega), ?_⟩
        conv=>whnf
        refine ldk (ver := n - 1) (o := 0) (sz := 1) (by decide) ?_
        conv=>whnf
        refine eqn_self (x := n - 1) ?_
        refine ⟨zn 2, ?_⟩
        refine ⟨(show ((2 : Nat) : Int) < (n : Int) by omega), ?_⟩
        conv=>whnf
        refine ldk (ver := n - 1) (o := 0) (sz := 1) (by decide) ?_
        conv=>whnf
        refine ⟨zn y, ?_⟩
        refine ⟨(show (y : Int) < (n : Int) by omega), ?_⟩
        conv=>whnf
        refine eqn_self (x := n - 1) ?_
        refine ⟨zn 2, ?_⟩
        refine ⟨(show ((2 : Nat) : Int) < (n : Int) by omega), ?_⟩
        conv=>whnf
        refine ldk (ver := n - 1) (o := 0) (sz := 1) (by decide) ?_
        conv=>whnf
        refine ⟨zn 0, ?_⟩
        refine ⟨(show ((0 : Nat) : Int) < (n : Int) by omega), ?_⟩
        conv=>whnf
        refine eqn_self (x := n - 1) ?_
        refine ⟨zn 0, ?_⟩
        refine ⟨(show ((0 : Nat) : Int) < (n : Int) by omega), ?_⟩
        conv=>whnf
        refine ldk (ver := n - 1) (o := 0) (sz := 1) (by decide) ?_
        conv=>whnf
        refine ⟨zn y, ?_⟩
        refine ⟨(show (y : Int) < (n : Int) by omega), ?_⟩
        conv=>whnf
        refine ⟨(show InR ((rwM n D 2).getD 0 0 + (rwM n D 0).getD (0 + y) 0) from inr (by rw [Nat.zero_add]; exact rw_bd hW hB hx2 hz0 hy')), ?_⟩
        conv=>whnf
        refine ⟨zn y, ?_⟩
        refine ⟨(show (y : Int) < (n : Int) by omega), ?_⟩
        ((conv=>whnf);repeat (refine Wa ?_;(repeat (first|refine Wb ?_|refine Wc ?_|refine Wd ?_|refine We ?_|refine Wf ?_));(conv=>whnf)))
        refine ⟨inr (by omega), ?_⟩
        conv=>whnf
        refine ⟨by repeat (first|exact trivial|exact rfl|exact namedTb|exact fun _ _=>namedTb|exact fun _ _ _ _=>rfl|exact fun _=>trivial|exact fun _ _=>trivial|exact fun _ _ _=>trivial|exact fun _ _ _ _=>trivial|refine And.intro ?_ ?_), memA1 (memG n W (upD D 2 y 0)) ⟨ObSub.refl _, ObSub.ii (rw_other (by decide)), ObSub.refl _, ObSub.ii (rw_other (by decide)), ObSub.ii (rw_put hx2 hz0 hy' (Nat.zero_add y)), ObSub.ii (rw_other (by decide)), ObSub.ii (rw_other (by decide)), trivial⟩ ⟨⟨0 + 1, upD D 2 y 0, hz0, up_base hx2 hy' hz0 hB, up_sh hS, fun a ha b hb => up_dn (hDx a ha b hb), fun b hb => up_dn (hDy b hb), up_dz hB hS hDz hz0 hy', rfl, rfl⟩, ?_⟩⟩
        simp [V.toInt, sel, Env.get]; omega
       ·((conv=>whnf);repeat (refine Wa ?_;(repeat (first|refine Wb ?_|refine Wc ?_|refine Wd ?_|refine We ?_|refine Wf ?_));(conv=>whnf)))
        have hzn : n = 0 := by have h := hge4; simp at h; omega
        refine ⟨inr (by omega), ?_⟩
        conv=>whnf
        refine ⟨by repeat (first|exact trivial|exact rfl|exact namedTb|exact fun _ _=>namedTb|exact fun _ _ _ _=>rfl|exact fun _=>trivial|exact fun _ _=>trivial|exact fun _ _ _=>trivial|exact fun _ _ _ _=>trivial|refine And.intro ?_ ?_), same1 ⟨⟨y + 1, D, hy', hB, hS, hDx, fun b hb => by
         rcases (by omega : b < y ∨ b = y) with h | rfl
         ·exact hDy b h
         ·exact dz_all' hzn.symm hDz, rfl, rfl⟩, ?_⟩⟩
        simp [V.toInt, sel, Env.get]; omega
      ·((conv=>whnf);repeat (refine Wa ?_;(repeat (first|refine Wb ?_|refine Wc ?_|refine Wd ?_|refine We ?_|refine Wf ?_));(conv=>whnf)))
       refine br_dec (fun hlt4 => ?_) (fun hge4 => ?_)
       ·have hz1 : 1 < n := by have h := hlt4; simp at h; omega
        ((conv=>whnf);repeat (refine Wa ?_;(repeat (first|refine Wb ?_|refine Wc ?_|refine Wd ?_|refine We ?_|refine Wf ?_));(conv=>whnf)))
        refine AW_draw (X := xF) tab_ok mixed (by kernel_rfl) ?_
        conv=>whnf
        refine eqn_self (x := n - 1) ?_
        refine ⟨zn 2, ?_⟩
        refine ⟨(show ((2 : Nat) : Int) < (n : Int) by omega), ?_⟩
        conv=>whnf
        refine ldk (ver := n - 1) (o := 0) (sz := 1) (by decide) ?_
        conv=>whnf
        refine eqn_self (x := n - 1) ?_
        refine ⟨zn 2, ?_⟩
        refine ⟨(show ((2 : Nat) : Int) < (n : Int) by omega), ?_⟩
        conv=>whnf
        refine ldk (ver := n - 1) (o := 0) (sz := 1) (by decide) ?_
        conv=>whnf
        refine ⟨zn y, ?_⟩
        refine ⟨(show (y : Int) < (n : Int) by omega), ?_⟩
        conv=>whnf
        refine eqn_self (x := n - 1) ?_
        refine ⟨zn 2, ?_⟩
        refine ⟨(show ((2 : Nat) : Int) < (n : Int) by omega), ?_⟩
        conv=>whnf
        refine ldk (ver := n - 1) (o := 0) (sz := 1) (by decide) ?_
        conv=>whnf
        refine ⟨zn 1, ?_⟩
        refine ⟨(show ((1 : Nat) : Int) < (n : Int) by omega), ?_⟩
        conv=>whnf
        refine eqn_self (x := n - 1) ?_
        refine ⟨zn 1, ?_⟩
        refine ⟨(show ((1 : Nat) : Int) < (n : Int) by omega), ?_⟩
        conv=>whnf
        refine ldk (ver := n - 1) (o := 0) (sz := 1) (by decide) ?_
        conv=>whnf
        refine ⟨zn y, ?_⟩
        refine ⟨(show (y : Int) < (n : Int) by omega), ?_⟩
        conv=>whnf
        refine ⟨(show InR ((rwM n D 2).getD 1 0 + (rwM n D 1).getD (0 + y) 0) from inr (by rw [Nat.zero_add]; exact rw_bd hW hB hx2 hz1 hy')), ?_⟩
        conv=>whnf
        refine ⟨zn y, ?_⟩
        refine ⟨(show (y : Int) < (n : Int) by omega), ?_⟩
        ((conv=>whnf);repeat (refine Wa ?_;(repeat (first|refine Wb ?_|refine Wc ?_|refine Wd ?_|refine We ?_|refine Wf ?_));(conv=>whnf)))
        refine ⟨inr (by omega), ?_⟩
        conv=>whnf
        refine ⟨by repeat (first|exact trivial|exact rfl|exact namedTb|exact fun _ _=>namedTb|exact fun _ _ _ _=>rfl|exact fun _=>trivial|exact fun _ _=>trivial|exact fun _ _ _=>trivial|exact fun _ _ _ _=>trivial|refine And.intro ?_ ?_), memA1 (memG n W (upD D 2 y 1)) ⟨ObSub.refl _, ObSub.ii (rw_other (by decide)), ObSub.refl _, ObSub.ii (rw_other (by decide)), ObSub.ii (rw_put hx2 hz1 hy' (Nat.zero_add y)), ObSub.ii (rw_other (by decide)), ObSub.ii (rw_other (by decide)), trivial⟩ ⟨⟨1 + 1, upD D 2 y 1, hz1, up_base hx2 hy' hz1 hB, up_sh hS, fun a ha b hb => up_dn (hDx a ha b hb), fun b hb => up_dn (hDy b hb), up_dz hB hS hDz hz1 hy', rfl, rfl⟩, ?_⟩⟩
        simp [V.toInt, sel, Env.get]; omega
       ·((conv=>whnf);repeat (refine Wa ?_;(repeat (first|refine Wb ?_|refine Wc ?_|refine Wd ?_|refine We ?_|refine Wf ?_));(conv=>whnf)))
        have hzn : n = 1 := by have h := hge4; simp at h; omega
        refine ⟨inr (by omega), ?_⟩
        conv=>whnf
        refine ⟨by repeat (first|exact trivial|exact rfl|exact namedTb|exact fun _ _=>namedTb|exact fun _ _ _ _=>rfl|exact fun _=>trivial|exact fun _ _=>trivial|exact fun _ _ _=>trivial|exact fun _ _ _ _=>trivial|refine And.intro ?_ ?_), same1 ⟨⟨y + 1, D, hy', hB, hS, hDx, fun b hb => by
         rcases (by omega : b < y ∨ b = y) with h | rfl
         ·exact hDy b h
         ·exact dz_all' hzn.symm hDz, rfl, rfl⟩, ?_⟩⟩
        simp [V.toInt, sel, Env.get]; omega
      ·((conv=>whnf);repeat (refine Wa ?_;(repeat (first|refine Wb ?_|refine Wc ?_|refine Wd ?_|refine We ?_|refine Wf ?_));(conv=>whnf)))
       refine br_dec (fun hlt4 => ?_) (fun hge4 => ?_)
       ·have hz2 : 2 < n := by have h := hlt4; simp at h; omega
        ((conv=>whnf);repeat (refine Wa ?_;(repeat (first|refine Wb ?_|refine Wc ?_|refine Wd ?_|refine We ?_|refine Wf ?_));(conv=>whnf)))
        refine AW_draw (X := xF) tab_ok mixed (by kernel_rfl) ?_
        conv=>whnf
        refine eqn_self (x := n - 1) ?_
        refine ⟨zn 2, ?_⟩
        refine ⟨(show ((2 : Nat) : Int) < (n : Int) by omega), ?_⟩
        conv=>whnf
        refine ldk (ver := n - 1) (o := 0) (sz := 1) (by decide) ?_
        conv=>whnf
        refine eqn_self (x := n - 1) ?_
        refine ⟨zn 2, ?_⟩
        refine ⟨(show ((2 : Nat) : Int) < (n : Int) by omega), ?_⟩
        conv=>whnf
        refine ldk (ver := n - 1) (o := 0) (sz := 1) (by decide) ?_
        conv=>whnf
        refine ⟨zn y, ?_⟩
        refine ⟨(show (y : Int) < (n : Int) by omega), ?_⟩
        conv=>whnf
        refine eqn_self (x := n - 1) ?_
        refine ⟨zn 2, ?_⟩
        refine ⟨(show ((2 : Nat) : Int) < (n : Int) by omega), ?_⟩
        conv=>whnf
        refine ldk (ver := n - 1) (o := 0) (sz := 1) (by decide) ?_
        conv=>whnf
        refine ⟨zn 2, ?_⟩
        refine ⟨(show ((2 : Nat) : Int) < (n : Int) by omega), ?_⟩
        conv=>whnf
        refine eqn_self (x := n - 1) ?_
        refine ⟨zn 2, ?_⟩
        refine ⟨(show ((2 : Nat) : Int) < (n : Int) by omega), ?_⟩
        conv=>whnf
        refine ldk (ver := n - 1) (o := 0) (sz := 1) (by decide) ?_
        conv=>whnf
        refine ⟨zn y, ?_⟩
        refine ⟨(show (y : Int) < (n : Int) by omega), ?_⟩
        conv=>whnf
        refine ⟨(show InR ((rwM n D 2).getD 2 0 + (rwM n D 2).getD (0 + y) 0) from inr (by rw [Nat.zero_add]; exact rw_bd hW hB hx2 hz2 hy')), ?_⟩
        conv=>whnf
        refine ⟨zn y, ?_⟩
        refine ⟨(show (y : Int) < (n : Int) by omega), ?_⟩
        ((conv=>whnf);repeat (refine Wa ?_;(repeat (first|refine Wb ?_|refine Wc ?_|refine Wd ?_|refine We ?_|refine Wf ?_));(conv=>whnf)))
        refine ⟨inr (by omega), ?_⟩
        conv=>whnf
        refine ⟨by repeat (first|exact trivial|exact rfl|exact namedTb|exact fun _ _=>namedTb|exact fun _ _ _ _=>rfl|exact fun _=>trivial|exact fun _ _=>trivial|exact fun _ _ _=>trivial|exact fun _ _ _ _=>trivial|refine And.intro ?_ ?_), memA1 (memG n W (upD D 2 y 2)) ⟨ObSub.refl _, ObSub.ii (rw_other (by decide)), ObSub.refl _, ObSub.ii (rw_other (by decide)), ObSub.ii (rw_put hx2 hz2 hy' (Nat.zero_add y)), ObSub.ii (rw_other (by decide)), ObSub.ii (rw_other (by decide)), trivial⟩ ⟨⟨2 + 1, upD D 2 y 2, hz2, up_base hx2 hy' hz2 hB, up_sh hS, fun a ha b hb => up_dn (hDx a ha b hb), fun b hb => up_dn (hDy b hb), up_dz hB hS hDz hz2 hy', rfl, rfl⟩, ?_⟩⟩
        simp [V.toInt, sel, Env.get]; omega
       ·((conv=>whnf);repeat (refine Wa ?_;(repeat (first|refine Wb ?_|refine Wc ?_|refine Wd ?_|refine We ?_|refine Wf ?_));(conv=>whnf)))
        have hzn : n = 2 := by have h := hge4; simp at h; omega
        refine ⟨inr (by omega), ?_⟩
        conv=>whnf
        refine ⟨by repeat (first|exact trivial|exact rfl|exact namedTb|exact fun _ _=>namedTb|exact fun _ _ _ _=>rfl|exact fun _=>trivial|exact fun _ _=>trivial|exact fun _ _ _=>trivial|exact fun _ _ _ _=>trivial|refine And.intro ?_ ?_), same1 ⟨⟨y + 1, D, hy', hB, hS, hDx, fun b hb => by
         rcases (by omega : b < y ∨ b = y) with h | rfl
         ·exact hDy b h
         ·exact dz_all' hzn.symm hDz, rfl, rfl⟩, ?_⟩⟩
        simp [V.toInt, sel, Env.get]; omega
      ·((conv=>whnf);repeat (refine Wa ?_;(repeat (first|refine Wb ?_|refine Wc ?_|refine Wd ?_|refine We ?_|refine Wf ?_));(conv=>whnf)))
       refine br_dec (fun hlt4 => ?_) (fun hge4 => ?_)
       ·have hz3 : 3 < n := by have h := hlt4; simp at h; omega
        ((conv=>whnf);repeat (refine Wa ?_;(repeat (first|refine Wb ?_|refine Wc ?_|refine Wd ?_|refine We ?_|refine Wf ?_));(conv=>whnf)))
        refine AW_draw (X := xF) tab_ok mixed (by kernel_rfl) ?_
        conv=>whnf
        refine eqn_self (x := n - 1) ?_
        refine ⟨zn 2, ?_⟩
        refine ⟨(show ((2 : Nat) : Int) < (n : Int) by omega), ?_⟩
        conv=>whnf
        refine ldk (ver := n - 1) (o := 0) (sz := 1) (by decide) ?_
        conv=>whnf
        refine eqn_self (x := n - 1) ?_
        refine ⟨zn 2, ?_⟩
        refine ⟨(show ((2 : Nat) : Int) < (n : Int) by omega), ?_⟩
        conv=>whnf
        refine ldk (ver := n - 1) (o := 0) (sz := 1) (by decide) ?_
        conv=>whnf
        refine ⟨zn y, ?_⟩
        refine ⟨(show (y : Int) < (n : Int) by omega), ?_⟩
        conv=>whnf
        refine eqn_self (x := n - 1) ?_
        refine ⟨zn 2, ?_⟩
        refine ⟨(show ((2 : Nat) : Int) < (n : Int) by omega), ?_⟩
        conv=>whnf
        refine ldk (ver := n - 1) (o := 0) (sz := 1) (by decide) ?_
        conv=>whnf
        refine ⟨zn 3, ?_⟩
        refine ⟨(show ((3 : Nat) : Int) < (n : Int) by omega), ?_⟩
        conv=>whnf
        refine eqn_self (x := n - 1) ?_
        refine ⟨zn 3, ?_⟩
        refine ⟨(show ((3 : Nat) : Int) < (n : Int) by omega), ?_⟩
        conv=>whnf
        refine ldk (ver := n - 1) (o := 0) (sz := 1) (by decide) ?_
        conv=>whnf
        refine ⟨zn y, ?_⟩
        refine ⟨(show (y : Int) < (n : Int) by omega), ?_⟩
        conv=>whnf
        refine ⟨(show InR ((rwM n D 2).getD 3 0 + (rwM n D 3).getD (0 + y) 0) from inr (by rw [Nat.zero_add]; exact rw_bd hW hB hx2 hz3 hy')), ?_⟩
        conv=>whnf
        refine ⟨zn y, ?_⟩
        refine ⟨(show (y : Int) < (n : Int) by omega), ?_⟩
        ((conv=>whnf);repeat (refine Wa ?_;(repeat (first|refine Wb ?_|refine Wc ?_|refine Wd ?_|refine We ?_|refine Wf ?_));(conv=>whnf)))
        refine ⟨inr (by omega), ?_⟩
        conv=>whnf
        refine ⟨by repeat (first|exact trivial|exact rfl|exact namedTb|exact fun _ _=>namedTb|exact fun _ _ _ _=>rfl|exact fun _=>trivial|exact fun _ _=>trivial|exact fun _ _ _=>trivial|exact fun _ _ _ _=>trivial|refine And.intro ?_ ?_), memA1 (memG n W (upD D 2 y 3)) ⟨ObSub.refl _, ObSub.ii (rw_other (by decide)), ObSub.refl _, ObSub.ii (rw_other (by decide)), ObSub.ii (rw_put hx2 hz3 hy' (Nat.zero_add y)), ObSub.ii (rw_other (by decide)), ObSub.ii (rw_other (by decide)), trivial⟩ ⟨⟨3 + 1, upD D 2 y 3, hz3, up_base hx2 hy' hz3 hB, up_sh hS, fun a ha b hb => up_dn (hDx a ha b hb), fun b hb => up_dn (hDy b hb), up_dz hB hS hDz hz3 hy', rfl, rfl⟩, ?_⟩⟩
        simp [V.toInt, sel, Env.get]; omega
       ·((conv=>whnf);repeat (refine Wa ?_;(repeat (first|refine Wb ?_|refine Wc ?_|refine Wd ?_|refine We ?_|refine Wf ?_));(conv=>whnf)))
        have hzn : n = 3 := by have h := hge4; simp at h; omega
        refine ⟨inr (by omega), ?_⟩
        conv=>whnf
        refine ⟨by repeat (first|exact trivial|exact rfl|exact namedTb|exact fun _ _=>namedTb|exact fun _ _ _ _=>rfl|exact fun _=>trivial|exact fun _ _=>trivial|exact fun _ _ _=>trivial|exact fun _ _ _ _=>trivial|refine And.intro ?_ ?_), same1 ⟨⟨y + 1, D, hy', hB, hS, hDx, fun b hb => by
         rcases (by omega : b < y ∨ b = y) with h | rfl
         ·exact hDy b h
         ·exact dz_all' hzn.symm hDz, rfl, rfl⟩, ?_⟩⟩
        simp [V.toInt, sel, Env.get]; omega
      ·((conv=>whnf);repeat (refine Wa ?_;(repeat (first|refine Wb ?_|refine Wc ?_|refine Wd ?_|refine We ?_|refine Wf ?_));(conv=>whnf)))
       refine br_dec (fun hlt4 => ?_) (fun hge4 => ?_)
       ·have hz4 : 4 < n := by have h := hlt4; simp at h; omega
        ((conv=>whnf);repeat (refine Wa ?_;(repeat (first|refine Wb ?_|refine Wc ?_|refine Wd ?_|refine We ?_|refine Wf ?_));(conv=>whnf)))
        refine AW_draw (X := xF) tab_ok mixed (by kernel_rfl) ?_
        conv=>whnf
        refine eqn_self (x := n - 1) ?_
        refine ⟨zn 2, ?_⟩
        refine ⟨(show ((2 : Nat) : Int) < (n : Int) by omega), ?_⟩
        conv=>whnf
        refine ldk (ver := n - 1) (o := 0) (sz := 1) (by decide) ?_
        conv=>whnf
        refine eqn_self (x := n - 1) ?_
        refine ⟨zn 2, ?_⟩
        refine ⟨(show ((2 : Nat) : Int) < (n : Int) by omega), ?_⟩
        conv=>whnf
        refine ldk (ver := n - 1) (o := 0) (sz := 1) (by decide) ?_
        conv=>whnf
        refine ⟨zn y, ?_⟩
        refine ⟨(show (y : Int) < (n : Int) by omega), ?_⟩
        conv=>whnf
        refine eqn_self (x := n - 1) ?_
        refine ⟨zn 2, ?_⟩
        refine ⟨(show ((2 : Nat) : Int) < (n : Int) by omega), ?_⟩
        conv=>whnf
        refine ldk (ver := n - 1) (o := 0) (sz := 1) (by decide) ?_
        conv=>whnf
        refine ⟨zn 4, ?_⟩
        refine ⟨(show ((4 : Nat) : Int) < (n : Int) by omega), ?_⟩
        conv=>whnf
        refine eqn_self (x := n - 1) ?_
        refine ⟨zn 4, ?_⟩
        refine ⟨(show ((4 : Nat) : Int) < (n : Int) by omega), ?_⟩
        conv=>whnf
        refine ldk (ver := n - 1) (o := 0) (sz := 1) (by decide) ?_
        conv=>whnf
        refine ⟨zn y, ?_⟩
        refine ⟨(show (y : Int) < (n : Int) by omega), ?_⟩
        conv=>whnf
        refine ⟨(show InR ((rwM n D 2).getD 4 0 + (rwM n D 4).getD (0 + y) 0) from inr (by rw [Nat.zero_add]; exact rw_bd hW hB hx2 hz4 hy')), ?_⟩
        conv=>whnf
        refine ⟨zn y, ?_⟩
        refine ⟨(show (y : Int) < (n : Int) by omega), ?_⟩
        ((conv=>whnf);repeat (refine Wa ?_;(repeat (first|refine Wb ?_|refine Wc ?_|refine Wd ?_|refine We ?_|refine Wf ?_));(conv=>whnf)))
        refine ⟨inr (by omega), ?_⟩
        conv=>whnf
        refine ⟨by repeat (first|exact trivial|exact rfl|exact namedTb|exact fun _ _=>namedTb|exact fun _ _ _ _=>rfl|exact fun _=>trivial|exact fun _ _=>trivial|exact fun _ _ _=>trivial|exact fun _ _ _ _=>trivial|refine And.intro ?_ ?_), memA1 (memG n W (upD D 2 y 4)) ⟨ObSub.refl _, ObSub.ii (rw_other (by decide)), ObSub.refl _, ObSub.ii (rw_other (by decide)), ObSub.ii (rw_put hx2 hz4 hy' (Nat.zero_add y)), ObSub.ii (rw_other (by decide)), ObSub.ii (rw_other (by decide)), trivial⟩ ⟨⟨4 + 1, upD D 2 y 4, hz4, up_base hx2 hy' hz4 hB, up_sh hS, fun a ha b hb => up_dn (hDx a ha b hb), fun b hb => up_dn (hDy b hb), up_dz hB hS hDz hz4 hy', rfl, rfl⟩, ?_⟩⟩
        simp [V.toInt, sel, Env.get]; omega
       ·((conv=>whnf);repeat (refine Wa ?_;(repeat (first|refine Wb ?_|refine Wc ?_|refine Wd ?_|refine We ?_|refine Wf ?_));(conv=>whnf)))
        have hzn : n = 4 := by have h := hge4; simp at h; omega
        refine ⟨inr (by omega), ?_⟩
        conv=>whnf
        refine ⟨by repeat (first|exact trivial|exact rfl|exact namedTb|exact fun _ _=>namedTb|exact fun _ _ _ _=>rfl|exact fun _=>trivial|exact fun _ _=>trivial|exact fun _ _ _=>trivial|exact fun _ _ _ _=>trivial|refine And.intro ?_ ?_), same1 ⟨⟨y + 1, D, hy', hB, hS, hDx, fun b hb => by
         rcases (by omega : b < y ∨ b = y) with h | rfl
         ·exact hDy b h
         ·exact dz_all' hzn.symm hDz, rfl, rfl⟩, ?_⟩⟩
        simp [V.toInt, sel, Env.get]; omega
      ·have hzn : n = 5 := by omega
       ((conv=>whnf);repeat (refine Wa ?_;(repeat (first|refine Wb ?_|refine Wc ?_|refine Wd ?_|refine We ?_|refine Wf ?_));(conv=>whnf)))
       refine br_dec (fun hlt4 => ?_) (fun hge4 => ?_)
       ·exact absurd hlt4 (by simp; omega)
       ·((conv=>whnf);repeat (refine Wa ?_;(repeat (first|refine Wb ?_|refine Wc ?_|refine Wd ?_|refine We ?_|refine Wf ?_));(conv=>whnf)))
        refine ⟨inr (by omega), ?_⟩
        conv=>whnf
        refine ⟨by repeat (first|exact trivial|exact rfl|exact namedTb|exact fun _ _=>namedTb|exact fun _ _ _ _=>rfl|exact fun _=>trivial|exact fun _ _=>trivial|exact fun _ _ _=>trivial|exact fun _ _ _ _=>trivial|refine And.intro ?_ ?_), same1 ⟨⟨y + 1, D, hy', hB, hS, hDx, fun b hb => by
         rcases (by omega : b < y ∨ b = y) with h | rfl
         ·exact hDy b h
         ·exact dz_all' hzn.symm hDz, rfl, rfl⟩, ?_⟩⟩
        simp [V.toInt, sel, Env.get]; omega
     ·obtain rfl : n = y := by omega
      ((conv=>whnf);repeat (refine Wa ?_;(repeat (first|refine Wb ?_|refine Wc ?_|refine Wd ?_|refine We ?_|refine Wf ?_));(conv=>whnf)))
      refine ⟨inr (by omega), ?_⟩
      conv=>whnf
      refine ⟨by repeat (first|exact trivial|exact rfl|exact namedTb|exact fun _ _=>namedTb|exact fun _ _ _ _=>rfl|exact fun _=>trivial|exact fun _ _=>trivial|exact fun _ _ _=>trivial|exact fun _ _ _ _=>trivial|refine And.intro ?_ ?_), same1 ⟨⟨2 + 1, D, hx2, hB, hS, fun a ha b hb => by
       rcases (by omega : a < 2 ∨ a = 2) with h | rfl
       ·exact hDx a h b hb
       ·exact hDy b hb, rfl, rfl⟩, ?_⟩⟩
      simp [V.toInt, sel, Env.get]; omega
    ·((conv=>whnf);repeat (refine Wa ?_;(repeat (first|refine Wb ?_|refine Wc ?_|refine Wd ?_|refine We ?_|refine Wf ?_));(conv=>whnf)))
     have hxn : n = 2 := by have h := hge2; simp at h; omega
     refine ⟨inr (by omega), ?_⟩
     conv=>whnf
     refine ⟨by repeat (first|exact trivial|exact rfl|exact namedTb|exact fun _ _=>namedTb|exact fun _ _ _ _=>rfl|exact fun _=>trivial|exact fun _ _=>trivial|exact fun _ _ _=>trivial|exact fun _ _ _ _=>trivial|refine And.intro ?_ ?_), same1 ⟨⟨r + 1, D, hr', hB, sh_next hS (fun a b ha hb => hDx a (by omega) b hb), rfl, rfl⟩, ?_⟩⟩
     simp [V.toInt, sel, Env.get]; omega
   ·((conv=>whnf);repeat (refine Wa ?_;(repeat (first|refine Wb ?_|refine Wc ?_|refine Wd ?_|refine We ?_|refine Wf ?_));(conv=>whnf)))
    refine br_dec (fun hlt2 => ?_) (fun hge2 => ?_)
    ·have hx3 : 3 < n := by have h := hlt2; simp at h; omega
     ((conv=>whnf);repeat (refine Wa ?_;(repeat (first|refine Wb ?_|refine Wc ?_|refine Wd ?_|refine We ?_|refine Wf ?_));(conv=>whnf)))
     refine AW_loopA (X := xF) tab_ok [0, 3, 8, 12, 13, 14] (fun _ => true) (fun vs M => ∃ (y : Nat) (D : Nat → Nat → Int), y ≤ n ∧ Base n W D ∧ Sh n W D r ∧ (∀ a, a < 3 → ∀ b, b < n → Dn n W D r a b) ∧ (∀ b, b < y → Dn n W D r 3 b) ∧ vs = [tabV n W, .int n, .sl 3 (n - 1) 0 n, .int r, .int (3 : Nat), .int y] ∧ M = memG n W D)
      (fun vs _ => n - (vs.getD 5 .any).toInt.toNat) (fun _ _ => rfl) ?_ ?_
     ·exact same0 ⟨0, D, Nat.zero_le _, hB, hS, hDx, fun b hb => absurd hb (by omega), rfl, rfl⟩
     clear hB hS hDx
     clear D
     rintro vs M ⟨y, D, hy, hB, hS, hDx, hDy, rfl, rfl⟩
     ((conv=>whnf);repeat (refine Wa ?_;(repeat (first|refine Wb ?_|refine Wc ?_|refine Wd ?_|refine We ?_|refine Wf ?_));(conv=>whnf)))
     refine br_dec (fun hlt3 => ?_) (fun hge3 => ?_)
     ·have hy' : y < n := by omega
      ((conv=>whnf);repeat (refine Wa ?_;(repeat (first|refine Wb ?_|refine Wc ?_|refine Wd ?_|refine We ?_|refine Wf ?_));(conv=>whnf)))
      refine AW_loopA (X := xF) tab_ok [0, 3, 8, 12, 13, 14, 15] (fun _ => true) (fun vs M => ∃ (z : Nat) (D : Nat → Nat → Int), z ≤ n ∧ Base n W D ∧ Sh n W D r ∧ (∀ a, a < 3 → ∀ b, b < n → Dn n W D r a b) ∧ (∀ b, b < y → Dn n W D r 3 b) ∧ Dz n W D r 3 y z ∧ vs = [tabV n W, .int n, .sl 3 (n - 1) 0 n, .int r, .int (3 : Nat), .int y, .int z] ∧ M = memG n W D)
       (fun vs _ => n - (vs.getD 6 .any).toInt.toNat) (fun _ _ => rfl) ?_ ?_
      ·exact same0 ⟨0, D, Nat.zero_le _, hB, hS, hDx, hDy, fun v _ _ _ h => absurd h (by omega), rfl, rfl⟩
      clear hB hS hDx hDy
      clear D
      rintro vs M ⟨z, D, hz, hB, hS, hDx, hDy, hDz, rfl, rfl⟩
      rcases (by omega : z = 0 ∨ z = 1 ∨ z = 2 ∨ z = 3 ∨ z = 4 ∨ z = 5) with rfl | rfl | rfl | rfl | rfl | rfl
      ·((conv=>whnf);repeat (refine Wa ?_;(repeat (first|refine Wb ?_|refine Wc ?_|refine Wd ?_|refine We ?_|refine Wf ?_));(conv=>whnf)))
       refine br_dec (fun hlt4 => ?_) (fun hge4 => ?_)
       ·have hz0 : 0 < n := by have h := hlt4; simp at h; omega
        ((conv=>whnf);repeat (refine Wa ?_;(repeat (first|refine Wb ?_|refine Wc ?_|refine Wd ?_|refine We ?_|refine Wf ?_));(conv=>whnf)))
        refine AW_draw (X := xF) tab_ok mixed (by kernel_rfl) ?_
        conv=>whnf
        refine eqn_self (x := n - 1) ?_
        refine ⟨zn 3, ?_⟩
        refine ⟨(show ((3 : Nat) : Int) < (n : Int) by omega), ?_⟩
        conv=>whnf
        refine ldk (ver := n - 1) (o := 0) (sz := 1) (by decide) ?_
        conv=>whnf
        refine eqn_self (x := n - 1) ?_
        refine ⟨zn 3, ?_⟩
        refine ⟨(show ((3 : Nat) : Int) < (n : Int) by omega), ?_⟩
        conv=>whnf
        refine ldk (ver := n - 1) (o := 0) (sz := 1) (by decide) ?_
        conv=>whnf
        refine ⟨zn y, ?_⟩
        refine ⟨(show (y : Int) < (n : Int) by omega), ?_⟩
        conv=>whnf
        refine eqn_self (x := n - 1) ?_
        refine ⟨zn 3, ?_⟩
        refine ⟨(show ((3 : Nat) : Int) < (n : Int) by omega), ?_⟩
        conv=>whnf
        refine ldk (ver := n - 1) (o := 0) (sz := 1) (by decide) ?_
        conv=>whnf
        refine ⟨zn 0, ?_⟩
        refine ⟨(show ((0 : Nat) : Int) < (n : Int) by omega), ?_⟩
        conv=>whnf
        refine eqn_self (x := n - 1) ?_
        refine ⟨zn 0, ?_⟩
        refine ⟨(show ((0 : Nat) : Int) < (n : Int) by omega), ?_⟩
        conv=>whnf
        refine ldk (ver := n - 1) (o := 0) (sz := 1) (by decide) ?_
        conv=>whnf
        refine ⟨zn y, ?_⟩
        refine ⟨(show (y : Int) < (n : Int) by omega), ?_⟩
        conv=>whnf
        refine ⟨(show InR ((rwM n D 3).getD 0 0 + (rwM n D 0).getD (0 + y) 0) from inr (by rw [Nat.zero_add]; exact rw_bd hW hB hx3 hz0 hy')), ?_⟩
        conv=>whnf
        refine ⟨zn y, ?_⟩
        refine ⟨(show (y : Int) < (n : Int) by omega), ?_⟩
        ((conv=>whnf);repeat (refine Wa ?_;(repeat (first|refine Wb ?_|refine Wc ?_|refine Wd ?_|refine We ?_|refine Wf ?_));(conv=>whnf)))
        refine ⟨inr (by omega), ?_⟩
        conv=>whnf
        refine ⟨by repeat (first|exact trivial|exact rfl|exact namedTb|exact fun _ _=>namedTb|exact fun _ _ _ _=>rfl|exact fun _=>trivial|exact fun _ _=>trivial|exact fun _ _ _=>trivial|exact fun _ _ _ _=>trivial|refine And.intro ?_ ?_), memA1 (memG n W (upD D 3 y 0)) ⟨ObSub.refl _, ObSub.ii (rw_other (by decide)), ObSub.refl _, ObSub.ii (rw_other (by decide)), ObSub.ii (rw_other (by decide)), ObSub.ii (rw_put hx3 hz0 hy' (Nat.zero_add y)), ObSub.ii (rw_other (by decide)), trivial⟩ ⟨⟨0 + 1, upD D 3 y 0, hz0, up_base hx3 hy' hz0 hB, up_sh hS, fun a ha b hb => up_dn (hDx a ha b hb), fun b hb => up_dn (hDy b hb), up_dz hB hS hDz hz0 hy', rfl, rfl⟩, ?_⟩⟩
        simp [V.toInt, sel, Env.get]; omega
       ·((conv=>whnf);repeat (refine Wa ?_;(repeat (first|refine Wb ?_|refine Wc ?_|refine Wd ?_|refine We ?_|refine Wf ?_));(conv=>whnf)))
        have hzn : n = 0 := by have h := hge4; simp at h; omega
        refine ⟨inr (by omega), ?_⟩
        conv=>whnf
        refine ⟨by repeat (first|exact trivial|exact rfl|exact namedTb|exact fun _ _=>namedTb|exact fun _ _ _ _=>rfl|exact fun _=>trivial|exact fun _ _=>trivial|exact fun _ _ _=>trivial|exact fun _ _ _ _=>trivial|refine And.intro ?_ ?_), same1 ⟨⟨y + 1, D, hy', hB, hS, hDx, fun b hb => by
         rcases (by omega : b < y ∨ b = y) with h | rfl
         ·exact hDy b h
         ·exact dz_all' hzn.symm hDz, rfl, rfl⟩, ?_⟩⟩
        simp [V.toInt, sel, Env.get]; omega
      ·((conv=>whnf);repeat (refine Wa ?_;(repeat (first|refine Wb ?_|refine Wc ?_|refine Wd ?_|refine We ?_|refine Wf ?_));(conv=>whnf)))
       refine br_dec (fun hlt4 => ?_) (fun hge4 => ?_)
       ·have hz1 : 1 < n := by have h := hlt4; simp at h; omega
        ((conv=>whnf);repeat (refine Wa ?_;(repeat (first|refine Wb ?_|refine Wc ?_|refine Wd ?_|refine We ?_|refine Wf ?_));(conv=>whnf)))
        refine AW_draw (X := xF) tab_ok mixed (by kernel_rfl) ?_
        conv=>whnf
        refine eqn_self (x := n - 1) ?_
        refine ⟨zn 3, ?_⟩
        refine ⟨(show ((3 : Nat) : Int) < (n : Int) by omega), ?_⟩
        conv=>whnf
        refine ldk (ver := n - 1) (o := 0) (sz := 1) (by decide) ?_
        conv=>whnf
        refine eqn_self (x := n - 1) ?_
        refine ⟨zn 3, ?_⟩
        refine ⟨(show ((3 : Nat) : Int) < (n : Int) by omega), ?_⟩
        conv=>whnf
        refine ldk (ver := n - 1) (o := 0) (sz := 1) (by decide) ?_
        conv=>whnf
        refine ⟨zn y, ?_⟩
        refine ⟨(show (y : Int) < (n : Int) by omega), ?_⟩
        conv=>whnf
        refine eqn_self (x := n - 1) ?_
        refine ⟨zn 3, ?_⟩
        refine ⟨(show ((3 : Nat) : Int) < (n : Int) by omega), ?_⟩
        conv=>whnf
        refine ldk (ver := n - 1) (o := 0) (sz := 1) (by decide) ?_
        conv=>whnf
        refine ⟨zn 1, ?_⟩
        refine ⟨(show ((1 : Nat) : Int) < (n : Int) by omega), ?_⟩
        conv=>whnf
        refine eqn_self (x := n - 1) ?_
        refine ⟨zn 1, ?_⟩
        refine ⟨(show ((1 : Nat) : Int) < (n : Int) by omega), ?_⟩
        conv=>whnf
        refine ldk (ver := n - 1) (o := 0) (sz := 1) (by decide) ?_
        conv=>whnf
        refine ⟨zn y, ?_⟩
        refine ⟨(show (y : Int) < (n : Int) by omega), ?_⟩
        conv=>whnf
        refine ⟨(show InR ((rwM n D 3).getD 1 0 + (rwM n D 1).getD (0 + y) 0) from inr (by rw [Nat.zero_add]; exact rw_bd hW hB hx3 hz1 hy')), ?_⟩
        conv=>whnf
        refine ⟨zn y, ?_⟩
        refine ⟨(show (y : Int) < (n : Int) by omega), ?_⟩
        ((conv=>whnf);repeat (refine Wa ?_;(repeat (first|refine Wb ?_|refine Wc ?_|refine Wd ?_|refine We ?_|refine Wf ?_));(conv=>whnf)))
        refine ⟨inr (by omega), ?_⟩
        conv=>whnf
        refine ⟨by repeat (first|exact trivial|exact rfl|exact namedTb|exact fun _ _=>namedTb|exact fun _ _ _ _=>rfl|exact fun _=>trivial|exact fun _ _=>trivial|exact fun _ _ _=>trivial|exact fun _ _ _ _=>trivial|refine And.intro ?_ ?_), memA1 (memG n W (upD D 3 y 1)) ⟨ObSub.refl _, ObSub.ii (rw_other (by decide)), ObSub.refl _, ObSub.ii (rw_other (by decide)), ObSub.ii (rw_other (by decide)), ObSub.ii (rw_put hx3 hz1 hy' (Nat.zero_add y)), ObSub.ii (rw_other (by decide)), trivial⟩ ⟨⟨1 + 1, upD D 3 y 1, hz1, up_base hx3 hy' hz1 hB, up_sh hS, fun a ha b hb => up_dn (hDx a ha b hb), fun b hb => up_dn (hDy b hb), up_dz hB hS hDz hz1 hy', rfl, rfl⟩, ?_⟩⟩
        simp [V.toInt, sel, Env.get]; omega
       ·((conv=>whnf);repeat (refine Wa ?_;(repeat (first|refine Wb ?_|refine Wc ?_|refine Wd ?_|refine We ?_|refine Wf ?_));(conv=>whnf)))
        have hzn : n = 1 := by have h := hge4; simp at h; omega
        refine ⟨inr (by omega), ?_⟩
        conv=>whnf
        refine ⟨by repeat (first|exact trivial|exact rfl|exact namedTb|exact fun _ _=>namedTb|exact fun _ _ _ _=>rfl|exact fun _=>trivial|exact fun _ _=>trivial|exact fun _ _ _=>trivial|exact fun _ _ _ _=>trivial|refine And.intro ?_ ?_), same1 ⟨⟨y + 1, D, hy', hB, hS, hDx, fun b hb => by
         rcases (by omega : b < y ∨ b = y) with h | rfl
         ·exact hDy b h
         ·exact dz_all' hzn.symm hDz, rfl, rfl⟩, ?_⟩⟩
        simp [V.toInt, sel, Env.get]; omega
      ·((conv=>whnf);repeat (refine Wa ?_;(repeat (first|refine Wb ?_|refine Wc ?_|refine Wd ?_|refine We ?_|refine Wf ?_));(conv=>whnf)))
       refine br_dec (fun hlt4 => ?_) (fun hge4 => ?_)
       ·have hz2 : 2 < n := by have h := hlt4; simp at h; omega
        ((conv=>whnf);repeat (refine Wa ?_;(repeat (first|refine Wb ?_|refine Wc ?_|refine Wd ?_|refine We ?_|refine Wf ?_));(conv=>whnf)))
        refine AW_draw (X := xF) tab_ok mixed (by kernel_rfl) ?_
        conv=>whnf
        refine eqn_self (x := n - 1) ?_
        refine ⟨zn 3, ?_⟩
        refine ⟨(show ((3 : Nat) : Int) < (n : Int) by omega), ?_⟩
        conv=>whnf
        refine ldk (ver := n - 1) (o := 0) (sz := 1) (by decide) ?_
        conv=>whnf
        refine eqn_self (x := n - 1) ?_
        refine ⟨zn 3, ?_⟩
        refine ⟨(show ((3 : Nat) : Int) < (n : Int) by omega), ?_⟩
        conv=>whnf
        refine ldk (ver := n - 1) (o := 0) (sz := 1) (by decide) ?_
        conv=>whnf
        refine ⟨zn y, ?_⟩
        refine ⟨(show (y : Int) < (n : Int) by omega), ?_⟩
        conv=>whnf
        refine eqn_self (x := n - 1) ?_
        refine ⟨zn 3, ?_⟩
        refine ⟨(show ((3 : Nat) : Int) < (n : Int) by omega), ?_⟩
        conv=>whnf
        refine ldk (ver := n - 1) (o := 0) (sz := 1) (by decide) ?_
        conv=>whnf
        refine ⟨zn 2, ?_⟩
        refine ⟨(show ((2 : Nat) : Int) < (n : Int) by omega), ?_⟩
        conv=>whnf
        refine eqn_self (x := n - 1) ?_
        refine ⟨zn 2, ?_⟩
        refine ⟨(show ((2 : Nat) : Int) < (n : Int) by omega), ?_⟩
        conv=>whnf
        refine ldk (ver := n - 1) (o := 0) (sz := 1) (by decide) ?_
        conv=>whnf
        refine ⟨zn y, ?_⟩
        refine ⟨(show (y : Int) < (n : Int) by omega), ?_⟩
        conv=>whnf
        refine ⟨(show InR ((rwM n D 3).getD 2 0 + (rwM n D 2).getD (0 + y) 0) from inr (by rw [Nat.zero_add]; exact rw_bd hW hB hx3 hz2 hy')), ?_⟩
        conv=>whnf
        refine ⟨zn y, ?_⟩
        refine ⟨(show (y : Int) < (n : Int) by omega), ?_⟩
        ((conv=>whnf);repeat (refine Wa ?_;(repeat (first|refine Wb ?_|refine Wc ?_|refine Wd ?_|refine We ?_|refine Wf ?_));(conv=>whnf)))
        refine ⟨inr (by omega), ?_⟩
        conv=>whnf
        refine ⟨by repeat (first|exact trivial|exact rfl|exact namedTb|exact fun _ _=>namedTb|exact fun _ _ _ _=>rfl|exact fun _=>trivial|exact fun _ _=>trivial|exact fun _ _ _=>trivial|exact fun _ _ _ _=>trivial|refine And.intro ?_ ?_), memA1 (memG n W (upD D 3 y 2)) ⟨ObSub.refl _, ObSub.ii (rw_other (by decide)), ObSub.refl _, ObSub.ii (rw_other (by decide)), ObSub.ii (rw_other (by decide)), ObSub.ii (rw_put hx3 hz2 hy' (Nat.zero_add y)), ObSub.ii (rw_other (by decide)), trivial⟩ ⟨⟨2 + 1, upD D 3 y 2, hz2, up_base hx3 hy' hz2 hB, up_sh hS, fun a ha b hb => up_dn (hDx a ha b hb), fun b hb => up_dn (hDy b hb), up_dz hB hS hDz hz2 hy', rfl, rfl⟩, ?_⟩⟩
        simp [V.toInt, sel, Env.get]; omega
       ·((conv=>whnf);repeat (refine Wa ?_;(repeat (first|refine Wb ?_|refine Wc ?_|refine Wd ?_|refine We ?_|refine Wf ?_));(conv=>whnf)))
        have hzn : n = 2 := by have h := hge4; simp at h; omega
        refine ⟨inr (by omega), ?_⟩
        conv=>whnf
        refine ⟨by repeat (first|exact trivial|exact rfl|exact namedTb|exact fun _ _=>namedTb|exact fun _ _ _ _=>rfl|exact fun _=>trivial|exact fun _ _=>trivial|exact fun _ _ _=>trivial|exact fun _ _ _ _=>trivial|refine And.intro ?_ ?_), same1 ⟨⟨y + 1, D, hy', hB, hS, hDx, fun b hb => by
         rcases (by omega : b < y ∨ b = y) with h | rfl
         ·exact hDy b h
         ·exact dz_all' hzn.symm hDz, rfl, rfl⟩, ?_⟩⟩
        simp [V.toInt, sel, Env.get]; omega
      ·((conv=>whnf);repeat (refine Wa ?_;(repeat (first|refine Wb ?_|refine Wc ?_|refine Wd ?_|refine We ?_|refine Wf ?_));(conv=>whnf)))
       refine br_dec (fun hlt4 => ?_) (fun hge4 => ?_)
       ·have hz3 : 3 < n := by have h := hlt4; simp at h; omega
        ((conv=>whnf);repeat (refine Wa ?_;(repeat (first|refine Wb ?_|refine Wc ?_|refine Wd ?_|refine We ?_|refine Wf ?_));(conv=>whnf)))
        refine AW_draw (X := xF) tab_ok mixed (by kernel_rfl) ?_
        conv=>whnf
        refine eqn_self (x := n - 1) ?_
        refine ⟨zn 3, ?_⟩
        refine ⟨(show ((3 : Nat) : Int) < (n : Int) by omega), ?_⟩
        conv=>whnf
        refine ldk (ver := n - 1) (o := 0) (sz := 1) (by decide) ?_
        conv=>whnf
        refine eqn_self (x := n - 1) ?_
        refine ⟨zn 3, ?_⟩
        refine ⟨(show ((3 : Nat) : Int) < (n : Int) by omega), ?_⟩
        conv=>whnf
        refine ldk (ver := n - 1) (o := 0) (sz := 1) (by decide) ?_
        conv=>whnf
        refine ⟨zn y, ?_⟩
        refine ⟨(show (y : Int) < (n : Int) by omega), ?_⟩
        conv=>whnf
        refine eqn_self (x := n - 1) ?_
        refine ⟨zn 3, ?_⟩
        refine ⟨(show ((3 : Nat) : Int) < (n : Int) by omega), ?_⟩
        conv=>whnf
        refine ldk (ver := n - 1) (o := 0) (sz := 1) (by decide) ?_
        conv=>whnf
        refine ⟨zn 3, ?_⟩
        refine ⟨(show ((3 : Nat) : Int) < (n : Int) by omega), ?_⟩
        conv=>whnf
        refine eqn_self (x := n - 1) ?_
        refine ⟨zn 3, ?_⟩
        refine ⟨(show ((3 : Nat) : Int) < (n : Int) by omega), ?_⟩
        conv=>whnf
        refine ldk (ver := n - 1) (o := 0) (sz := 1) (by decide) ?_
        conv=>whnf
        refine ⟨zn y, ?_⟩
        refine ⟨(show (y : Int) < (n : Int) by omega), ?_⟩
        conv=>whnf
        refine ⟨(show InR ((rwM n D 3).getD 3 0 + (rwM n D 3).getD (0 + y) 0) from inr (by rw [Nat.zero_add]; exact rw_bd hW hB hx3 hz3 hy')), ?_⟩
        conv=>whnf
        refine ⟨zn y, ?_⟩
        refine ⟨(show (y : Int) < (n : Int) by omega), ?_⟩
        ((conv=>whnf);repeat (refine Wa ?_;(repeat (first|refine Wb ?_|refine Wc ?_|refine Wd ?_|refine We ?_|refine Wf ?_));(conv=>whnf)))
        refine ⟨inr (by omega), ?_⟩
        conv=>whnf
        refine ⟨by repeat (first|exact trivial|exact rfl|exact namedTb|exact fun _ _=>namedTb|exact fun _ _ _ _=>rfl|exact fun _=>trivial|exact fun _ _=>trivial|exact fun _ _ _=>trivial|exact fun _ _ _ _=>trivial|refine And.intro ?_ ?_), memA1 (memG n W (upD D 3 y 3)) ⟨ObSub.refl _, ObSub.ii (rw_other (by decide)), ObSub.refl _, ObSub.ii (rw_other (by decide)), ObSub.ii (rw_other (by decide)), ObSub.ii (rw_put hx3 hz3 hy' (Nat.zero_add y)), ObSub.ii (rw_other (by decide)), trivial⟩ ⟨⟨3 + 1, upD D 3 y 3, hz3, up_base hx3 hy' hz3 hB, up_sh hS, fun a ha b hb => up_dn (hDx a ha b hb), fun b hb => up_dn (hDy b hb), up_dz hB hS hDz hz3 hy', rfl, rfl⟩, ?_⟩⟩
        simp [V.toInt, sel, Env.get]; omega
       ·((conv=>whnf);repeat (refine Wa ?_;(repeat (first|refine Wb ?_|refine Wc ?_|refine Wd ?_|refine We ?_|refine Wf ?_));(conv=>whnf)))
        have hzn : n = 3 := by have h := hge4; simp at h; omega
        refine ⟨inr (by omega), ?_⟩
        conv=>whnf
        refine ⟨by repeat (first|exact trivial|exact rfl|exact namedTb|exact fun _ _=>namedTb|exact fun _ _ _ _=>rfl|exact fun _=>trivial|exact fun _ _=>trivial|exact fun _ _ _=>trivial|exact fun _ _ _ _=>trivial|refine And.intro ?_ ?_), same1 ⟨⟨y + 1, D, hy', hB, hS, hDx, fun b hb => by
         rcases (by omega : b < y ∨ b = y) with h | rfl
         ·exact hDy b h
         ·exact dz_all' hzn.symm hDz, rfl, rfl⟩, ?_⟩⟩
        simp [V.toInt, sel, Env.get]; omega
      ·((conv=>whnf);repeat (refine Wa ?_;(repeat (first|refine Wb ?_|refine Wc ?_|refine Wd ?_|refine We ?_|refine Wf ?_));(conv=>whnf)))
       refine br_dec (fun hlt4 => ?_) (fun hge4 => ?_)
       ·have hz4 : 4 < n := by have h := hlt4; simp at h; omega
        ((conv=>whnf);repeat (refine Wa ?_;(repeat (first|refine Wb ?_|refine Wc ?_|refine Wd ?_|refine We ?_|refine Wf ?_));(conv=>whnf)))
        refine AW_draw (X := xF) tab_ok mixed (by kernel_rfl) ?_
        conv=>whnf
        refine eqn_self (x := n - 1) ?_
        refine ⟨zn 3, ?_⟩
        refine ⟨(show ((3 : Nat) : Int) < (n : Int) by omega), ?_⟩
        conv=>whnf
        refine ldk (ver := n - 1) (o := 0) (sz := 1) (by decide) ?_
        conv=>whnf
        refine eqn_self (x := n - 1) ?_
        refine ⟨zn 3, ?_⟩
        refine ⟨(show ((3 : Nat) : Int) < (n : Int) by omega), ?_⟩
        conv=>whnf
        refine ldk (ver := n - 1) (o := 0) (sz := 1) (by decide) ?_
        conv=>whnf
        refine ⟨zn y, ?_⟩
        refine ⟨(show (y : Int) < (n : Int) by omega), ?_⟩
        conv=>whnf
        refine eqn_self (x := n - 1) ?_
        refine ⟨zn 3, ?_⟩
        refine ⟨(show ((3 : Nat) : Int) < (n : Int) by omega), ?_⟩
        conv=>whnf
        refine ldk (ver := n - 1) (o := 0) (sz := 1) (by decide) ?_
        conv=>whnf
        refine ⟨zn 4, ?_⟩
        refine ⟨(show ((4 : Nat) : Int) < (n : Int) by omega), ?_⟩
        conv=>whnf
        refine eqn_self (x := n - 1) ?_
        refine ⟨zn 4, ?_⟩
        refine ⟨(show ((4 : Nat) : Int) < (n : Int) by omega), ?_⟩
        conv=>whnf
        refine ldk (ver := n - 1) (o := 0) (sz := 1) (by decide) ?_
        conv=>whnf
        refine ⟨zn y, ?_⟩
        refine ⟨(show (y : Int) < (n : Int) by omega), ?_⟩
        conv=>whnf
        refine ⟨(show InR ((rwM n D 3).getD 4 0 + (rwM n D 4).getD (0 + y) 0) from inr (by rw [Nat.zero_add]; exact rw_bd hW hB hx3 hz4 hy')), ?_⟩
        conv=>whnf
        refine ⟨zn y, ?_⟩
        refine ⟨(show (y : Int) < (n : Int) by omega), ?_⟩
        ((conv=>whnf);repeat (refine Wa ?_;(repeat (first|refine Wb ?_|refine Wc ?_|refine Wd ?_|refine We ?_|refine Wf ?_));(conv=>whnf)))
        refine ⟨inr (by omega), ?_⟩
        conv=>whnf
        refine ⟨by repeat (first|exact trivial|exact rfl|exact namedTb|exact fun _ _=>namedTb|exact fun _ _ _ _=>rfl|exact fun _=>trivial|exact fun _ _=>trivial|exact fun _ _ _=>trivial|exact fun _ _ _ _=>trivial|refine And.intro ?_ ?_), memA1 (memG n W (upD D 3 y 4)) ⟨ObSub.refl _, ObSub.ii (rw_other (by decide)), ObSub.refl _, ObSub.ii (rw_other (by decide)), ObSub.ii (rw_other (by decide)), ObSub.ii (rw_put hx3 hz4 hy' (Nat.zero_add y)), ObSub.ii (rw_other (by decide)), trivial⟩ ⟨⟨4 + 1, upD D 3 y 4, hz4, up_base hx3 hy' hz4 hB, up_sh hS, fun a ha b hb => up_dn (hDx a ha b hb), fun b hb => up_dn (hDy b hb), up_dz hB hS hDz hz4 hy', rfl, rfl⟩, ?_⟩⟩
        simp [V.toInt, sel, Env.get]; omega
       ·((conv=>whnf);repeat (refine Wa ?_;(repeat (first|refine Wb ?_|refine Wc ?_|refine Wd ?_|refine We ?_|refine Wf ?_));(conv=>whnf)))
        have hzn : n = 4 := by have h := hge4; simp at h; omega
        refine ⟨inr (by omega), ?_⟩
        conv=>whnf
        refine ⟨by repeat (first|exact trivial|exact rfl|exact namedTb|exact fun _ _=>namedTb|exact fun _ _ _ _=>rfl|exact fun _=>trivial|exact fun _ _=>trivial|exact fun _ _ _=>trivial|exact fun _ _ _ _=>trivial|refine And.intro ?_ ?_), same1 ⟨⟨y + 1, D, hy', hB, hS, hDx, fun b hb => by
         rcases (by omega : b < y ∨ b = y) with h | rfl
         ·exact hDy b h
         ·exact dz_all' hzn.symm hDz, rfl, rfl⟩, ?_⟩⟩
        simp [V.toInt, sel, Env.get]; omega
      ·have hzn : n = 5 := by omega
       ((conv=>whnf);repeat (refine Wa ?_;(repeat (first|refine Wb ?_|refine Wc ?_|refine Wd ?_|refine We ?_|refine Wf ?_));(conv=>whnf)))
       refine br_dec (fun hlt4 => ?_) (fun hge4 => ?_)
       ·exact absurd hlt4 (by simp; omega)
       ·((conv=>whnf);repeat (refine Wa ?_;(repeat (first|refine Wb ?_|refine Wc ?_|refine Wd ?_|refine We ?_|refine Wf ?_));(conv=>whnf)))
        refine ⟨inr (by omega), ?_⟩
        conv=>whnf
        refine ⟨by repeat (first|exact trivial|exact rfl|exact namedTb|exact fun _ _=>namedTb|exact fun _ _ _ _=>rfl|exact fun _=>trivial|exact fun _ _=>trivial|exact fun _ _ _=>trivial|exact fun _ _ _ _=>trivial|refine And.intro ?_ ?_), same1 ⟨⟨y + 1, D, hy', hB, hS, hDx, fun b hb => by
         rcases (by omega : b < y ∨ b = y) with h | rfl
         ·exact hDy b h
         ·exact dz_all' hzn.symm hDz, rfl, rfl⟩, ?_⟩⟩
        simp [V.toInt, sel, Env.get]; omega
     ·obtain rfl : n = y := by omega
      ((conv=>whnf);repeat (refine Wa ?_;(repeat (first|refine Wb ?_|refine Wc ?_|refine Wd ?_|refine We ?_|refine Wf ?_));(conv=>whnf)))
      refine ⟨inr (by omega), ?_⟩
      conv=>whnf
      refine ⟨by repeat (first|exact trivial|exact rfl|exact namedTb|exact fun _ _=>namedTb|exact fun _ _ _ _=>rfl|exact fun _=>trivial|exact fun _ _=>trivial|exact fun _ _ _=>trivial|exact fun _ _ _ _=>trivial|refine And.intro ?_ ?_), same1 ⟨⟨3 + 1, D, hx3, hB, hS, fun a ha b hb => by
       rcases (by omega : a < 3 ∨ a = 3) with h | rfl
       ·exact hDx a h b hb
       ·exact hDy b hb, rfl, rfl⟩, ?_⟩⟩
      simp [V.toInt, sel, Env.get]; omega
    ·((conv=>whnf);repeat (refine Wa ?_;(repeat (first|refine Wb ?_|refine Wc ?_|refine Wd ?_|refine We ?_|refine Wf ?_));(conv=>whnf)))
     have hxn : n = 3 := by have h := hge2; simp at h; omega
     refine ⟨inr (by omega), ?_⟩
     conv=>whnf
     refine ⟨by repeat (first|exact trivial|exact rfl|exact namedTb|exact fun _ _=>namedTb|exact fun _ _ _ _=>rfl|exact fun _=>trivial|exact fun _ _=>trivial|exact fun _ _ _=>trivial|exact fun _ _ _ _=>trivial|refine And.intro ?_ ?_), same1 ⟨⟨r + 1, D, hr', hB, sh_next hS (fun a b ha hb => hDx a (by omega) b hb), rfl, rfl⟩, ?_⟩⟩
     simp [V.toInt, sel, Env.get]; omega
   ·((conv=>whnf);repeat (refine Wa ?_;(repeat (first|refine Wb ?_|refine Wc ?_|refine Wd ?_|refine We ?_|refine Wf ?_));(conv=>whnf)))
    refine br_dec (fun hlt2 => ?_) (fun hge2 => ?_)
    ·have hx4 : 4 < n := by have h := hlt2; simp at h; omega
     ((conv=>whnf);repeat (refine Wa ?_;(repeat (first|refine Wb ?_|refine Wc ?_|refine Wd ?_|refine We ?_|refine Wf ?_));(conv=>whnf)))
     refine AW_loopA (X := xF) tab_ok [0, 3, 8, 12, 13, 14] (fun _ => true) (fun vs M => ∃ (y : Nat) (D : Nat → Nat → Int), y ≤ n ∧ Base n W D ∧ Sh n W D r ∧ (∀ a, a < 4 → ∀ b, b < n → Dn n W D r a b) ∧ (∀ b, b < y → Dn n W D r 4 b) ∧ vs = [tabV n W, .int n, .sl 3 (n - 1) 0 n, .int r, .int (4 : Nat), .int y] ∧ M = memG n W D)
      (fun vs _ => n - (vs.getD 5 .any).toInt.toNat) (fun _ _ => rfl) ?_ ?_
     ·exact same0 ⟨0, D, Nat.zero_le _, hB, hS, hDx, fun b hb => absurd hb (by omega), rfl, rfl⟩
     clear hB hS hDx
     clear D
     rintro vs M ⟨y, D, hy, hB, hS, hDx, hDy, rfl, rfl⟩
     ((conv=>whnf);repeat (refine Wa ?_;(repeat (first|refine Wb ?_|refine Wc ?_|refine Wd ?_|refine We ?_|refine Wf ?_));(conv=>whnf)))
     refine br_dec (fun hlt3 => ?_) (fun hge3 => ?_)
     ·have hy' : y < n := by omega
      ((conv=>whnf);repeat (refine Wa ?_;(repeat (first|refine Wb ?_|refine Wc ?_|refine Wd ?_|refine We ?_|refine Wf ?_));(conv=>whnf)))
      refine AW_loopA (X := xF) tab_ok [0, 3, 8, 12, 13, 14, 15] (fun _ => true) (fun vs M => ∃ (z : Nat) (D : Nat → Nat → Int), z ≤ n ∧ Base n W D ∧ Sh n W D r ∧ (∀ a, a < 4 → ∀ b, b < n → Dn n W D r a b) ∧ (∀ b, b < y → Dn n W D r 4 b) ∧ Dz n W D r 4 y z ∧ vs = [tabV n W, .int n, .sl 3 (n - 1) 0 n, .int r, .int (4 : Nat), .int y, .int z] ∧ M = memG n W D)
       (fun vs _ => n - (vs.getD 6 .any).toInt.toNat) (fun _ _ => rfl) ?_ ?_
      ·exact same0 ⟨0, D, Nat.zero_le _, hB, hS, hDx, hDy, fun v _ _ _ h => absurd h (by omega), rfl, rfl⟩
      clear hB hS hDx hDy
      clear D
      rintro vs M ⟨z, D, hz, hB, hS, hDx, hDy, hDz, rfl, rfl⟩
      rcases (by omega : z = 0 ∨ z = 1 ∨ z = 2 ∨ z = 3 ∨ z = 4 ∨ z = 5) with rfl | rfl | rfl | rfl | rfl | rfl
      ·((conv=>whnf);repeat (refine Wa ?_;(repeat (first|refine Wb ?_|refine Wc ?_|refine Wd ?_|refine We ?_|refine Wf ?_));(conv=>whnf)))
       refine br_dec (fun hlt4 => ?_) (fun hge4 => ?_)
       ·have hz0 : 0 < n := by have h := hlt4; simp at h; omega
        ((conv=>whnf);repeat (refine Wa ?_;(repeat (first|refine Wb ?_|refine Wc ?_|refine Wd ?_|refine We ?_|refine Wf ?_));(conv=>whnf)))
        refine AW_draw (X := xF) tab_ok mixed (by kernel_rfl) ?_
        conv=>whnf
        refine eqn_self (x := n - 1) ?_
        refine ⟨zn 4, ?_⟩
        refine ⟨(show ((4 : Nat) : Int) < (n : Int) by omega), ?_⟩
        conv=>whnf
        refine ldk (ver := n - 1) (o := 0) (sz := 1) (by decide) ?_
        conv=>whnf
        refine eqn_self (x := n - 1) ?_
        refine ⟨zn 4, ?_⟩
        refine ⟨(show ((4 : Nat) : Int) < (n : Int) by omega), ?_⟩
        conv=>whnf
        refine ldk (ver := n - 1) (o := 0) (sz := 1) (by decide) ?_
        conv=>whnf
        refine ⟨zn y, ?_⟩
        refine ⟨(show (y : Int) < (n : Int) by omega), ?_⟩
        conv=>whnf
        refine eqn_self (x := n - 1) ?_
        refine ⟨zn 4, ?_⟩
        refine ⟨(show ((4 : Nat) : Int) < (n : Int) by omega), ?_⟩
        conv=>whnf
        refine ldk (ver := n - 1) (o := 0) (sz := 1) (by decide) ?_
        conv=>whnf
        refine ⟨zn 0, ?_⟩
        refine ⟨(show ((0 : Nat) : Int) < (n : Int) by omega), ?_⟩
        conv=>whnf
        refine eqn_self (x := n - 1) ?_
        refine ⟨zn 0, ?_⟩
        refine ⟨(show ((0 : Nat) : Int) < (n : Int) by omega), ?_⟩
        conv=>whnf
        refine ldk (ver := n - 1) (o := 0) (sz := 1) (by decide) ?_
        conv=>whnf
        refine ⟨zn y, ?_⟩
        refine ⟨(show (y : Int) < (n : Int) by omega), ?_⟩
        conv=>whnf
        refine ⟨(show InR ((rwM n D 4).getD 0 0 + (rwM n D 0).getD (0 + y) 0) from inr (by rw [Nat.zero_add]; exact rw_bd hW hB hx4 hz0 hy')), ?_⟩
        conv=>whnf
        refine ⟨zn y, ?_⟩
        refine ⟨(show (y : Int) < (n : Int) by omega), ?_⟩
        ((conv=>whnf);repeat (refine Wa ?_;(repeat (first|refine Wb ?_|refine Wc ?_|refine Wd ?_|refine We ?_|refine Wf ?_));(conv=>whnf)))
        refine ⟨inr (by omega), ?_⟩
        conv=>whnf
        refine ⟨by repeat (first|exact trivial|exact rfl|exact namedTb|exact fun _ _=>namedTb|exact fun _ _ _ _=>rfl|exact fun _=>trivial|exact fun _ _=>trivial|exact fun _ _ _=>trivial|exact fun _ _ _ _=>trivial|refine And.intro ?_ ?_), memA1 (memG n W (upD D 4 y 0)) ⟨ObSub.refl _, ObSub.ii (rw_other (by decide)), ObSub.refl _, ObSub.ii (rw_other (by decide)), ObSub.ii (rw_other (by decide)), ObSub.ii (rw_other (by decide)), ObSub.ii (rw_put hx4 hz0 hy' (Nat.zero_add y)), trivial⟩ ⟨⟨0 + 1, upD D 4 y 0, hz0, up_base hx4 hy' hz0 hB, up_sh hS, fun a ha b hb => up_dn (hDx a ha b hb), fun b hb => up_dn (hDy b hb), up_dz hB hS hDz hz0 hy', rfl, rfl⟩, ?_⟩⟩
        simp [V.toInt, sel, Env.get]; omega
       ·((conv=>whnf);repeat (refine Wa ?_;(repeat (first|refine Wb ?_|refine Wc ?_|refine Wd ?_|refine We ?_|refine Wf ?_));(conv=>whnf)))
        have hzn : n = 0 := by have h := hge4; simp at h; omega
        refine ⟨inr (by omega), ?_⟩
        conv=>whnf
        refine ⟨by repeat (first|exact trivial|exact rfl|exact namedTb|exact fun _ _=>namedTb|exact fun _ _ _ _=>rfl|exact fun _=>trivial|exact fun _ _=>trivial|exact fun _ _ _=>trivial|exact fun _ _ _ _=>trivial|refine And.intro ?_ ?_), same1 ⟨⟨y + 1, D, hy', hB, hS, hDx, fun b hb => by
         rcases (by omega : b < y ∨ b = y) with h | rfl
         ·exact hDy b h
         ·exact dz_all' hzn.symm hDz, rfl, rfl⟩, ?_⟩⟩
        simp [V.toInt, sel, Env.get]; omega
      ·((conv=>whnf);repeat (refine Wa ?_;(repeat (first|refine Wb ?_|refine Wc ?_|refine Wd ?_|refine We ?_|refine Wf ?_));(conv=>whnf)))
       refine br_dec (fun hlt4 => ?_) (fun hge4 => ?_)
       ·have hz1 : 1 < n := by have h := hlt4; simp at h; omega
        ((conv=>whnf);repeat (refine Wa ?_;(repeat (first|refine Wb ?_|refine Wc ?_|refine Wd ?_|refine We ?_|refine Wf ?_));(conv=>whnf)))
        refine AW_draw (X := xF) tab_ok mixed (by kernel_rfl) ?_
        conv=>whnf
        refine eqn_self (x := n - 1) ?_
        refine ⟨zn 4, ?_⟩
        refine ⟨(show ((4 : Nat) : Int) < (n : Int) by omega), ?_⟩
        conv=>whnf
        refine ldk (ver := n - 1) (o := 0) (sz := 1) (by decide) ?_
        conv=>whnf
        refine eqn_self (x := n - 1) ?_
        refine ⟨zn 4, ?_⟩
        refine ⟨(show ((4 : Nat) : Int) < (n : Int) by omega), ?_⟩
        conv=>whnf
        refine ldk (ver := n - 1) (o := 0) (sz := 1) (by decide) ?_
        conv=>whnf
        refine ⟨zn y, ?_⟩
        refine ⟨(show (y : Int) < (n : Int) by omega), ?_⟩
        conv=>whnf
        refine eqn_self (x := n - 1) ?_
        refine ⟨zn 4, ?_⟩
        refine ⟨(show ((4 : Nat) : Int) < (n : Int) by omega), ?_⟩
        conv=>whnf
        refine ldk (ver := n - 1) (o := 0) (sz := 1) (by decide) ?_
        conv=>whnf
        refine ⟨zn 1, ?_⟩
        refine ⟨(show ((1 : Nat) : Int) < (n : Int) by omega), ?_⟩
        conv=>whnf
        refine eqn_self (x := n - 1) ?_
        refine ⟨zn 1, ?_⟩
        refine ⟨(show ((1 : Nat) : Int) < (n : Int) by omega), ?_⟩
        conv=>whnf
        refine ldk (ver := n - 1) (o := 0) (sz := 1) (by decide) ?_
        conv=>whnf
        refine ⟨zn y, ?_⟩
        refine ⟨(show (y : Int) < (n : Int) by omega), ?_⟩
        conv=>whnf
        refine ⟨(show InR ((rwM n D 4).getD 1 0 + (rwM n D 1).getD (0 + y) 0) from inr (by rw [Nat.zero_add]; exact rw_bd hW hB hx4 hz1 hy')), ?_⟩
        conv=>whnf
        refine ⟨zn y, ?_⟩
        refine ⟨(show (y : Int) < (n : Int) by omega), ?_⟩
        ((conv=>whnf);repeat (refine Wa ?_;(repeat (first|refine Wb ?_|refine Wc ?_|refine Wd ?_|refine We ?_|refine Wf ?_));(conv=>whnf)))
        refine ⟨inr (by omega), ?_⟩
        conv=>whnf
        refine ⟨by repeat (first|exact trivial|exact rfl|exact namedTb|exact fun _ _=>namedTb|exact fun _ _ _ _=>rfl|exact fun _=>trivial|exact fun _ _=>trivial|exact fun _ _ _=>trivial|exact fun _ _ _ _=>trivial|refine And.intro ?_ ?_), memA1 (memG n W (upD D 4 y 1)) ⟨ObSub.refl _, ObSub.ii (rw_other (by decide)), ObSub.refl _, ObSub.ii (rw_other (by decide)), ObSub.ii (rw_other (by decide)), ObSub.ii (rw_other (by decide)), ObSub.ii (rw_put hx4 hz1 hy' (Nat.zero_add y)), trivial⟩ ⟨⟨1 + 1, upD D 4 y 1, hz1, up_base hx4 hy' hz1 hB, up_sh hS, fun a ha b hb => up_dn (hDx a ha b hb), fun b hb => up_dn (hDy b hb), up_dz hB hS hDz hz1 hy', rfl, rfl⟩, ?_⟩⟩
        simp [V.toInt, sel, Env.get]; omega
       ·((conv=>whnf);repeat (refine Wa ?_;(repeat (first|refine Wb ?_|refine Wc ?_|refine Wd ?_|refine We ?_|refine Wf ?_));(conv=>whnf)))
        have hzn : n = 1 := by have h := hge4; simp at h; omega
        refine ⟨inr (by omega), ?_⟩
        conv=>whnf
        refine ⟨by repeat (first|exact trivial|exact rfl|exact namedTb|exact fun _ _=>namedTb|exact fun _ _ _ _=>rfl|exact fun _=>trivial|exact fun _ _=>trivial|exact fun _ _ _=>trivial|exact fun _ _ _ _=>trivial|refine And.intro ?_ ?_), same1 ⟨⟨y + 1, D, hy', hB, hS, hDx, fun b hb => by
         rcases (by omega : b < y ∨ b = y) with h | rfl
         ·exact hDy b h
         ·exact dz_all' hzn.symm hDz, rfl, rfl⟩, ?_⟩⟩
        simp [V.toInt, sel, Env.get]; omega
      ·((conv=>whnf);repeat (refine Wa ?_;(repeat (first|refine Wb ?_|refine Wc ?_|refine Wd ?_|refine We ?_|refine Wf ?_));(conv=>whnf)))
       refine br_dec (fun hlt4 => ?_) (fun hge4 => ?_)
       ·have hz2 : 2 < n := by have h := hlt4; simp at h; omega
        ((conv=>whnf);repeat (refine Wa ?_;(repeat (first|refine Wb ?_|refine Wc ?_|refine Wd ?_|refine We ?_|refine Wf ?_));(conv=>whnf)))
        refine AW_draw (X := xF) tab_ok mixed (by kernel_rfl) ?_
        conv=>whnf
        refine eqn_self (x := n - 1) ?_
        refine ⟨zn 4, ?_⟩
        refine ⟨(show ((4 : Nat) : Int) < (n : Int) by omega), ?_⟩
        conv=>whnf
        refine ldk (ver := n - 1) (o := 0) (sz := 1) (by decide) ?_
        conv=>whnf
        refine eqn_self (x := n - 1) ?_
        refine ⟨zn 4, ?_⟩
        refine ⟨(show ((4 : Nat) : Int) < (n : Int) by omega), ?_⟩
        conv=>whnf
        refine ldk (ver := n - 1) (o := 0) (sz := 1) (by decide) ?_
        conv=>whnf
        refine ⟨zn y, ?_⟩
        refine ⟨(show (y : Int) < (n : Int) by omega), ?_⟩
        conv=>whnf
        refine eqn_self (x := n - 1) ?_
        refine ⟨zn 4, ?_⟩
        refine ⟨(show ((4 : Nat) : Int) < (n : Int) by omega), ?_⟩
        conv=>whnf
        refine ldk (ver := n - 1) (o := 0) (sz := 1) (by decide) ?_
        conv=>whnf
        refine ⟨zn 2, ?_⟩
        refine ⟨(show ((2 : Nat) : Int) < (n : Int) by omega), ?_⟩
        conv=>whnf
        refine eqn_self (x := n - 1) ?_
        refine ⟨zn 2, ?_⟩
        refine ⟨(show ((2 : Nat) : Int) < (n : Int) by omega), ?_⟩
        conv=>whnf
        refine ldk (ver := n - 1) (o := 0) (sz := 1) (by decide) ?_
        conv=>whnf
        refine ⟨zn y, ?_⟩
        refine ⟨(show (y : Int) < (n : Int) by omega), ?_⟩
        conv=>whnf
        refine ⟨(show InR ((rwM n D 4).getD 2 0 + (rwM n D 2).getD (0 + y) 0) from inr (by rw [Nat.zero_add]; exact rw_bd hW hB hx4 hz2 hy')), ?_⟩
        conv=>whnf
        refine ⟨zn y, ?_⟩
        refine ⟨(show (y : Int) < (n : Int) by omega), ?_⟩
        ((conv=>whnf);repeat (refine Wa ?_;(repeat (first|refine Wb ?_|refine Wc ?_|refine Wd ?_|refine We ?_|refine Wf ?_));(conv=>whnf)))
        refine ⟨inr (by omega), ?_⟩
        conv=>whnf
        refine ⟨by repeat (first|exact trivial|exact rfl|exact namedTb|exact fun _ _=>namedTb|exact fun _ _ _ _=>rfl|exact fun _=>trivial|exact fun _ _=>trivial|exact fun _ _ _=>trivial|exact fun _ _ _ _=>trivial|refine And.intro ?_ ?_), memA1 (memG n W (upD D 4 y 2)) ⟨ObSub.refl _, ObSub.ii (rw_other (by decide)), ObSub.refl _, ObSub.ii (rw_other (by decide)), ObSub.ii (rw_other (by decide)), ObSub.ii (rw_other (by decide)), ObSub.ii (rw_put hx4 hz2 hy' (Nat.zero_add y)), trivial⟩ ⟨⟨2 + 1, upD D 4 y 2, hz2, up_base hx4 hy' hz2 hB, up_sh hS, fun a ha b hb => up_dn (hDx a ha b hb), fun b hb => up_dn (hDy b hb), up_dz hB hS hDz hz2 hy', rfl, rfl⟩, ?_⟩⟩
        simp [V.toInt, sel, Env.get]; omega
       ·((conv=>whnf);repeat (refine Wa ?_;(repeat (first|refine Wb ?_|refine Wc ?_|refine Wd ?_|refine We ?_|refine Wf ?_));(conv=>whnf)))
        have hzn : n = 2 := by have h := hge4; simp at h; omega
        refine ⟨inr (by omega), ?_⟩
        conv=>whnf
        refine ⟨by repeat (first|exact trivial|exact rfl|exact namedTb|exact fun _ _=>namedTb|exact fun _ _ _ _=>rfl|exact fun _=>trivial|exact fun _ _=>trivial|exact fun _ _ _=>trivial|exact fun _ _ _ _=>trivial|refine And.intro ?_ ?_), same1 ⟨⟨y + 1, D, hy', hB, hS, hDx, fun b hb => by
         rcases (by omega : b < y ∨ b = y) with h | rfl
         ·exact hDy b h
         ·exact dz_all' hzn.symm hDz, rfl, rfl⟩, ?_⟩⟩
        simp [V.toInt, sel, Env.get]; omega
      ·((conv=>whnf);repeat (refine Wa ?_;(repeat (first|refine Wb ?_|refine Wc ?_|refine Wd ?_|refine We ?_|refine Wf ?_));(conv=>whnf)))
       refine br_dec (fun hlt4 => ?_) (fun hge4 => ?_)
       ·have hz3 : 3 < n := by have h := hlt4; simp at h; omega
        ((conv=>whnf);repeat (refine Wa ?_;(repeat (first|refine Wb ?_|refine Wc ?_|refine Wd ?_|refine We ?_|refine Wf ?_));(conv=>whnf)))
        refine AW_draw (X := xF) tab_ok mixed (by kernel_rfl) ?_
        conv=>whnf
        refine eqn_self (x := n - 1) ?_
        refine ⟨zn 4, ?_⟩
        refine ⟨(show ((4 : Nat) : Int) < (n : Int) by omega), ?_⟩
        conv=>whnf
        refine ldk (ver := n - 1) (o := 0) (sz := 1) (by decide) ?_
        conv=>whnf
        refine eqn_self (x := n - 1) ?_
        refine ⟨zn 4, ?_⟩
        refine ⟨(show ((4 : Nat) : Int) < (n : Int) by omega), ?_⟩
        conv=>whnf
        refine ldk (ver := n - 1) (o := 0) (sz := 1) (by decide) ?_
        conv=>whnf
        refine ⟨zn y, ?_⟩
        refine ⟨(show (y : Int) < (n : Int) by omega), ?_⟩
        conv=>whnf
        refine eqn_self (x := n - 1) ?_
        refine ⟨zn 4, ?_⟩
        refine ⟨(show ((4 : Nat) : Int) < (n : Int) by omega), ?_⟩
        conv=>whnf
        refine ldk (ver := n - 1) (o := 0) (sz := 1) (by decide) ?_
        conv=>whnf
        refine ⟨zn 3, ?_⟩
        refine ⟨(show ((3 : Nat) : Int) < (n : Int) by omega), ?_⟩
        conv=>whnf
        refine eqn_self (x := n - 1) ?_
        refine ⟨zn 3, ?_⟩
        refine ⟨(show ((3 : Nat) : Int) < (n : Int) by omega), ?_⟩
        conv=>whnf
        refine ldk (ver := n - 1) (o := 0) (sz := 1) (by decide) ?_
        conv=>whnf
        refine ⟨zn y, ?_⟩
        refine ⟨(show (y : Int) < (n : Int) by omega), ?_⟩
        conv=>whnf
        refine ⟨(show InR ((rwM n D 4).getD 3 0 + (rwM n D 3).getD (0 + y) 0) from inr (by rw [Nat.zero_add]; exact rw_bd hW hB hx4 hz3 hy')), ?_⟩
        conv=>whnf
        refine ⟨zn y, ?_⟩
        refine ⟨(show (y : Int) < (n : Int) by omega), ?_⟩
        ((conv=>whnf);repeat (refine Wa ?_;(repeat (first|refine Wb ?_|refine Wc ?_|refine Wd ?_|refine We ?_|refine Wf ?_));(conv=>whnf)))
        refine ⟨inr (by omega), ?_⟩
        conv=>whnf
        refine ⟨by repeat (first|exact trivial|exact rfl|exact namedTb|exact fun _ _=>namedTb|exact fun _ _ _ _=>rfl|exact fun _=>trivial|exact fun _ _=>trivial|exact fun _ _ _=>trivial|exact fun _ _ _ _=>trivial|refine And.intro ?_ ?_), memA1 (memG n W (upD D 4 y 3)) ⟨ObSub.refl _, ObSub.ii (rw_other (by decide)), ObSub.refl _, ObSub.ii (rw_other (by decide)), ObSub.ii (rw_other (by decide)), ObSub.ii (rw_other (by decide)), ObSub.ii (rw_put hx4 hz3 hy' (Nat.zero_add y)), trivial⟩ ⟨⟨3 + 1, upD D 4 y 3, hz3, up_base hx4 hy' hz3 hB, up_sh hS, fun a ha b hb => up_dn (hDx a ha b hb), fun b hb => up_dn (hDy b hb), up_dz hB hS hDz hz3 hy', rfl, rfl⟩, ?_⟩⟩
        simp [V.toInt, sel, Env.get]; omega
       ·((conv=>whnf);repeat (refine Wa ?_;(repeat (first|refine Wb ?_|refine Wc ?_|refine Wd ?_|refine We ?_|refine Wf ?_));(conv=>whnf)))
        have hzn : n = 3 := by have h := hge4; simp at h; omega
        refine ⟨inr (by omega), ?_⟩
        conv=>whnf
        refine ⟨by repeat (first|exact trivial|exact rfl|exact namedTb|exact fun _ _=>namedTb|exact fun _ _ _ _=>rfl|exact fun _=>trivial|exact fun _ _=>trivial|exact fun _ _ _=>trivial|exact fun _ _ _ _=>trivial|refine And.intro ?_ ?_), same1 ⟨⟨y + 1, D, hy', hB, hS, hDx, fun b hb => by
         rcases (by omega : b < y ∨ b = y) with h | rfl
         ·exact hDy b h
         ·exact dz_all' hzn.symm hDz, rfl, rfl⟩, ?_⟩⟩
        simp [V.toInt, sel, Env.get]; omega
      ·((conv=>whnf);repeat (refine Wa ?_;(repeat (first|refine Wb ?_|refine Wc ?_|refine Wd ?_|refine We ?_|refine Wf ?_));(conv=>whnf)))
       refine br_dec (fun hlt4 => ?_) (fun hge4 => ?_)
       ·have hz4 : 4 < n := by have h := hlt4; simp at h; omega
        ((conv=>whnf);repeat (refine Wa ?_;(repeat (first|refine Wb ?_|refine Wc ?_|refine Wd ?_|refine We ?_|refine Wf ?_));(conv=>whnf)))
        refine AW_draw (X := xF) tab_ok mixed (by kernel_rfl) ?_
        conv=>whnf
        refine eqn_self (x := n - 1) ?_
        refine ⟨zn 4, ?_⟩
        refine ⟨(show ((4 : Nat) : Int) < (n : Int) by omega), ?_⟩
        conv=>whnf
        refine ldk (ver := n - 1) (o := 0) (sz := 1) (by decide) ?_
        conv=>whnf
        refine eqn_self (x := n - 1) ?_
        refine ⟨zn 4, ?_⟩
        refine ⟨(show ((4 : Nat) : Int) < (n : Int) by omega), ?_⟩
        conv=>whnf
        refine ldk (ver := n - 1) (o := 0) (sz := 1) (by decide) ?_
        conv=>whnf
        refine ⟨zn y, ?_⟩
        refine ⟨(show (y : Int) < (n : Int) by omega), ?_⟩
        conv=>whnf
        refine eqn_self (x := n - 1) ?_
        refine ⟨zn 4, ?_⟩
        refine ⟨(show ((4 : Nat) : Int) < (n : Int) by omega), ?_⟩
        conv=>whnf
        refine ldk (ver := n - 1) (o := 0) (sz := 1) (by decide) ?_
        conv=>whnf
        refine ⟨zn 4, ?_⟩
        refine ⟨(show ((4 : Nat) : Int) < (n : Int) by omega), ?_⟩
        conv=>whnf
        refine eqn_self (x := n - 1) ?_
        refine ⟨zn 4, ?_⟩
        refine ⟨(show ((4 : Nat) : Int) < (n : Int) by omega), ?_⟩
        conv=>whnf
        refine ldk (ver := n - 1) (o := 0) (sz := 1) (by decide) ?_
        conv=>whnf
        refine ⟨zn y, ?_⟩
        refine ⟨(show (y : Int) < (n : Int) by omega), ?_⟩
        conv=>whnf
        refine ⟨(show InR ((rwM n D 4).getD 4 0 + (rwM n D 4).getD (0 + y) 0) from inr (by rw [Nat.zero_add]; exact rw_bd hW hB hx4 hz4 hy')), ?_⟩
        conv=>whnf
        refine ⟨zn y, ?_⟩
        refine ⟨(show (y : Int) < (n : Int) by omega), ?_⟩
        ((conv=>whnf);repeat (refine Wa ?_;(repeat (first|refine Wb ?_|refine Wc ?_|refine Wd ?_|refine We ?_|refine Wf ?_));(conv=>whnf)))
        refine ⟨inr (by omega), ?_⟩
        conv=>whnf
        refine ⟨by repeat (first|exact trivial|exact rfl|exact namedTb|exact fun _ _=>namedTb|exact fun _ _ _ _=>rfl|exact fun _=>trivial|exact fun _ _=>trivial|exact fun _ _ _=>trivial|exact fun _ _ _ _=>trivial|refine And.intro ?_ ?_), memA1 (memG n W (upD D 4 y 4)) ⟨ObSub.refl _, ObSub.ii (rw_other (by decide)), ObSub.refl _, ObSub.ii (rw_other (by decide)), ObSub.ii (rw_other (by decide)), ObSub.ii (rw_other (by decide)), ObSub.ii (rw_put hx4 hz4 hy' (Nat.zero_add y)), trivial⟩ ⟨⟨4 + 1, upD D 4 y 4, hz4, up_base hx4 hy' hz4 hB, up_sh hS, fun a ha b hb => up_dn (hDx a ha b hb), fun b hb => up_dn (hDy b hb), up_dz hB hS hDz hz4 hy', rfl, rfl⟩, ?_⟩⟩
        simp [V.toInt, sel, Env.get]; omega
       ·((conv=>whnf);repeat (refine Wa ?_;(repeat (first|refine Wb ?_|refine Wc ?_|refine Wd ?_|refine We ?_|refine Wf ?_));(conv=>whnf)))
        have hzn : n = 4 := by have h := hge4; simp at h; omega
        refine ⟨inr (by omega), ?_⟩
        conv=>whnf
        refine ⟨by repeat (first|exact trivial|exact rfl|exact namedTb|exact fun _ _=>namedTb|exact fun _ _ _ _=>rfl|exact fun _=>trivial|exact fun _ _=>trivial|exact fun _ _ _=>trivial|exact fun _ _ _ _=>trivial|refine And.intro ?_ ?_), same1 ⟨⟨y + 1, D, hy', hB, hS, hDx, fun b hb => by
         rcases (by omega : b < y ∨ b = y) with h | rfl
         ·exact hDy b h
         ·exact dz_all' hzn.symm hDz, rfl, rfl⟩, ?_⟩⟩
        simp [V.toInt, sel, Env.get]; omega
      ·have hzn : n = 5 := by omega
       ((conv=>whnf);repeat (refine Wa ?_;(repeat (first|refine Wb ?_|refine Wc ?_|refine Wd ?_|refine We ?_|refine Wf ?_));(conv=>whnf)))
       refine br_dec (fun hlt4 => ?_) (fun hge4 => ?_)
       ·exact absurd hlt4 (by simp; omega)
       ·((conv=>whnf);repeat (refine Wa ?_;(repeat (first|refine Wb ?_|refine Wc ?_|refine Wd ?_|refine We ?_|refine Wf ?_));(conv=>whnf)))
        refine ⟨inr (by omega), ?_⟩
        conv=>whnf
        refine ⟨by repeat (first|exact trivial|exact rfl|exact namedTb|exact fun _ _=>namedTb|exact fun _ _ _ _=>rfl|exact fun _=>trivial|exact fun _ _=>trivial|exact fun _ _ _=>trivial|exact fun _ _ _ _=>trivial|refine And.intro ?_ ?_), same1 ⟨⟨y + 1, D, hy', hB, hS, hDx, fun b hb => by
         rcases (by omega : b < y ∨ b = y) with h | rfl
         ·exact hDy b h
         ·exact dz_all' hzn.symm hDz, rfl, rfl⟩, ?_⟩⟩
        simp [V.toInt, sel, Env.get]; omega
     ·obtain rfl : n = y := by omega
      ((conv=>whnf);repeat (refine Wa ?_;(repeat (first|refine Wb ?_|refine Wc ?_|refine Wd ?_|refine We ?_|refine Wf ?_));(conv=>whnf)))
      refine ⟨inr (by omega), ?_⟩
      conv=>whnf
      refine ⟨by repeat (first|exact trivial|exact rfl|exact namedTb|exact fun _ _=>namedTb|exact fun _ _ _ _=>rfl|exact fun _=>trivial|exact fun _ _=>trivial|exact fun _ _ _=>trivial|exact fun _ _ _ _=>trivial|refine And.intro ?_ ?_), same1 ⟨⟨4 + 1, D, hx4, hB, hS, fun a ha b hb => by
       rcases (by omega : a < 4 ∨ a = 4) with h | rfl
       ·exact hDx a h b hb
       ·exact hDy b hb, rfl, rfl⟩, ?_⟩⟩
      simp [V.toInt, sel, Env.get]; omega
    ·((conv=>whnf);repeat (refine Wa ?_;(repeat (first|refine Wb ?_|refine Wc ?_|refine Wd ?_|refine We ?_|refine Wf ?_));(conv=>whnf)))
     have hxn : n = 4 := by have h := hge2; simp at h; omega
     refine ⟨inr (by omega), ?_⟩
     conv=>whnf
     refine ⟨by repeat (first|exact trivial|exact rfl|exact namedTb|exact fun _ _=>namedTb|exact fun _ _ _ _=>rfl|exact fun _=>trivial|exact fun _ _=>trivial|exact fun _ _ _=>trivial|exact fun _ _ _ _=>trivial|refine And.intro ?_ ?_), same1 ⟨⟨r + 1, D, hr', hB, sh_next hS (fun a b ha hb => hDx a (by omega) b hb), rfl, rfl⟩, ?_⟩⟩
     simp [V.toInt, sel, Env.get]; omega
   ·have hxn : n = 5 := by omega
    ((conv=>whnf);repeat (refine Wa ?_;(repeat (first|refine Wb ?_|refine Wc ?_|refine Wd ?_|refine We ?_|refine Wf ?_));(conv=>whnf)))
    refine br_dec (fun hlt2 => ?_) (fun hge2 => ?_)
    ·exact absurd hlt2 (by simp; omega)
    ·((conv=>whnf);repeat (refine Wa ?_;(repeat (first|refine Wb ?_|refine Wc ?_|refine Wd ?_|refine We ?_|refine Wf ?_));(conv=>whnf)))
     refine ⟨inr (by omega), ?_⟩
     conv=>whnf
     refine ⟨by repeat (first|exact trivial|exact rfl|exact namedTb|exact fun _ _=>namedTb|exact fun _ _ _ _=>rfl|exact fun _=>trivial|exact fun _ _=>trivial|exact fun _ _ _=>trivial|exact fun _ _ _ _=>trivial|refine And.intro ?_ ?_), same1 ⟨⟨r + 1, D, hr', hB, sh_next hS (fun a b ha hb => hDx a (by omega) b hb), rfl, rfl⟩, ?_⟩⟩
     simp [V.toInt, sel, Env.get]; omega
  ·obtain rfl : n = r := by omega
   conv=>whnf
   have e1 : memG n W D = memG n W (drr n W) := by
    have e : ∀ a, rwM n D a = rwM n (drr n W) a := fun a => by
     unfold rwM
     split
     ·exact ext_getD (by rw [lsN_len, lsN_len]) fun j hj => by
       rw [lsN_len] at hj
       rw [lsN_get hj, lsN_get hj]
       exact sh_drr hB hS (by assumption) hj
     ·rfl
    unfold memG
    rw [e 0, e 1, e 2, e 3, e 4]
   rw [e1]
   refine AW_of_awp (X := xF) tab_ok ?_
   ((conv=>whnf);repeat (refine Wa ?_;(repeat (first|refine Wb ?_|refine Wc ?_|refine Wd ?_|refine We ?_|refine Wf ?_));(conv=>whnf)))
   refine eqn_self (x := n - 1) ?_
   exact ⟨frGo h5, rfl⟩
 refine AW_of_awp (X := xF) tab_ok ?_
 ((conv=>whnf);repeat (refine Wa ?_;(repeat (first|refine Wb ?_|refine Wc ?_|refine Wd ?_|refine We ?_|refine Wf ?_));(conv=>whnf)))
 refine AW_loopA (X := xF) tab_ok [0, 3, 6, 8, 9] (fun t => [0, 1, 3, 4, 6, 8, 10].contains t) (fun vs M => ∃ (x : Nat) (o : V), x ≤ n ∧ GoM n W x o M ∧ vs = [tabV n W, .int n, .sl 0 0 0 n, o, .int x])
  (fun vs _ => n - (vs.getD 4 .any).toInt.toNat) (fun t ht => by have : t < 1 := ht; rw [show t = 0 by omega]; rfl) ?_ ?_
 ·exact same0 ⟨0, .emp true, Nat.zero_le _, .inl ⟨rfl, rfl, rfl⟩, rfl⟩
 rintro vs M ⟨x, o, hx, hM, rfl⟩
 rcases hM with ⟨rfl, rfl, rfl⟩ | ⟨rfl, rfl, rfl⟩ | ⟨rfl, rfl, rfl⟩ | ⟨rfl, rfl, rfl⟩ | ⟨rfl, rfl, rfl⟩ | ⟨rfl, rfl, rfl⟩
 ·((conv=>whnf);repeat (refine Wa ?_;(repeat (first|refine Wb ?_|refine Wc ?_|refine Wd ?_|refine We ?_|refine Wf ?_));(conv=>whnf)))
  refine br_dec (fun hlt => ?_) (fun hge => ?_)
  ·have hx' : 0 < n := by have h := hlt; simp at h; omega
   ((conv=>whnf);repeat (refine Wa ?_;(repeat (first|refine Wb ?_|refine Wc ?_|refine Wd ?_|refine We ?_|refine Wf ?_));(conv=>whnf)))
   refine ⟨zn n, ?_⟩
   refine ⟨Int.le_refl _, ?_⟩
   refine ⟨(show (8 : Int) * (n : Int) ≤ 140737488355328 by omega), ?_⟩
   rw [Int.toNat_natCast]
   ((conv=>whnf);repeat (refine Wa ?_;(repeat (first|refine Wb ?_|refine Wc ?_|refine Wd ?_|refine We ?_|refine Wf ?_));(conv=>whnf)))
   refine AW_loop (X := xF) tab_ok [0, 3, 6, 8, 9, 10, 11] (fun vs M => ∃ (y : Nat) (Z : List Int), y ≤ n ∧ RoP n W 0 y Z ∧ vs = [tabV n W, .int n, .sl 0 0 0 n, .emp true, .int (0 : Nat), .sl 1 0 0 n, .int y] ∧ M = [some (rOw (hoL n W)), some (rOw Z)])
    (fun vs _ => n - (vs.getD 6 .any).toInt.toNat) ?_ ?_
   ·exact ⟨0, _, Nat.zero_le _, ⟨List.length_replicate, fun i hi => absurd hi (by omega)⟩, rfl, rfl⟩
   rintro vs M ⟨y, Z, hy, hZ, rfl, rfl⟩
   ((conv=>whnf);repeat (refine Wa ?_;(repeat (first|refine Wb ?_|refine Wc ?_|refine Wd ?_|refine We ?_|refine Wf ?_));(conv=>whnf)))
   refine br_dec (fun hlt2 => ?_) (fun hge2 => ?_)
   ·have hy' : y < n := by omega
    obtain ⟨q1, q2⟩ := hoG.2 y hy'
    have q0 := hoG.1
    obtain ⟨w1, w2⟩ := hrow _ q2
    have w3 := w2 y hy'
    have w4 := w2 0 hx'
    have hnx := ro_next hZ hy'
    have hst : stp n W 0 y = (W (hoB n W y)).getD y 0 - (W (hoB n W y)).getD 0 0 := rfl
    rw [hst] at hnx
    generalize hoB n W y = h at *
    have hq : (hoL n W).getD (0 + (y : Int).toNat) 0 = (h : Int) := by rw [Int.toNat_natCast, Nat.zero_add]; exact q1
    ((conv=>whnf);repeat (refine Wa ?_;(repeat (first|refine Wb ?_|refine Wc ?_|refine Wd ?_|refine We ?_|refine Wf ?_));(conv=>whnf)))
    refine AW_draw (X := xF) tab_ok mixed (by kernel_rfl) ?_
    conv=>whnf
    refine ⟨zn y, ?_⟩
    refine ⟨(show (y : Int) < (n : Int) by omega), ?_⟩
    conv=>whnf
    rw [hq]
    refine ⟨zn h, ?_⟩
    refine ⟨(show (h : Int) < (n : Int) by omega), ?_⟩
    conv=>whnf
    refine ⟨zn y, ?_⟩
    refine ⟨(show (y : Int) < ((W h).length : Int) by omega), ?_⟩
    conv=>whnf
    refine ⟨zn y, ?_⟩
    refine ⟨(show (y : Int) < (n : Int) by omega), ?_⟩
    conv=>whnf
    rw [hq]
    refine ⟨zn h, ?_⟩
    refine ⟨(show (h : Int) < (n : Int) by omega), ?_⟩
    conv=>whnf
    refine ⟨zn 0, ?_⟩
    refine ⟨(show ((0 : Nat) : Int) < ((W h).length : Int) by omega), ?_⟩
    conv=>whnf
    refine ⟨(show InR ((W h).getD y 0 - (W h).getD 0 0) from inr (by omega)), ?_⟩
    conv=>whnf
    refine ⟨zn y, ?_⟩
    refine ⟨(show (y : Int) < (n : Int) by omega), ?_⟩
    ((conv=>whnf);repeat (refine Wa ?_;(repeat (first|refine Wb ?_|refine Wc ?_|refine Wd ?_|refine We ?_|refine Wf ?_));(conv=>whnf)))
    refine ⟨inr (by omega), ?_⟩
    conv=>whnf
    refine ⟨⟨y + 1, Z.set y ((W h).getD y 0 - (W h).getD 0 0), hy', hnx, rfl, congrArg (fun z => [some (rOw (hoL n W)), some (rOw (Z.set z ((W h).getD y 0 - (W h).getD 0 0)))]) (Nat.zero_add y)⟩, ?_⟩
    simp [V.toInt, sel, Env.get]; omega
   ·obtain rfl : n = y := by omega
    have hl := ro_all hZ
    subst hl
    ((conv=>whnf);repeat (refine Wa ?_;(repeat (first|refine Wb ?_|refine Wc ?_|refine Wd ?_|refine We ?_|refine Wf ?_));(conv=>whnf)))
    refine ⟨(show (24 : Int) * ((1 : Nat) : Int) ≤ 140737488355328 by decide), ?_⟩
    ((conv=>whnf);repeat (refine Wa ?_;(repeat (first|refine Wb ?_|refine Wc ?_|refine Wd ?_|refine We ?_|refine Wf ?_));(conv=>whnf)))
    refine ⟨inr (by omega), ?_⟩
    conv=>whnf
    refine ⟨by repeat (first|exact trivial|exact rfl|exact namedTb|exact fun _ _=>namedTb|exact fun _ _ _ _=>rfl|exact fun _=>trivial|exact fun _ _=>trivial|exact fun _ _ _=>trivial|exact fun _ _ _ _=>trivial|refine And.intro ?_ ?_), memA1 [some (rOw (hoL n W)), some (rOw (lsN n (stp n W 0))), none, some (oG n 1)] ⟨ObSub.refl _, ObSub.refl _, ObSub_vv (fun j q hj hq => by have hj : j < 1 := hj; obtain rfl : j = 0 := (by omega); rfl), trivial⟩ ⟨⟨0 + 1, _, hx', .inr (.inl ⟨rfl, rfl, rfl⟩), rfl⟩, ?_⟩⟩
    simp [V.toInt, sel, Env.get]; omega
  ·exact absurd hge (by simp; omega)
 ·((conv=>whnf);repeat (refine Wa ?_;(repeat (first|refine Wb ?_|refine Wc ?_|refine Wd ?_|refine We ?_|refine Wf ?_));(conv=>whnf)))
  refine br_dec (fun hlt => ?_) (fun hge => ?_)
  ·have hx' : 1 < n := by have h := hlt; simp at h; omega
   ((conv=>whnf);repeat (refine Wa ?_;(repeat (first|refine Wb ?_|refine Wc ?_|refine Wd ?_|refine We ?_|refine Wf ?_));(conv=>whnf)))
   refine ⟨zn n, ?_⟩
   refine ⟨Int.le_refl _, ?_⟩
   refine ⟨(show (8 : Int) * (n : Int) ≤ 140737488355328 by omega), ?_⟩
   rw [Int.toNat_natCast]
   ((conv=>whnf);repeat (refine Wa ?_;(repeat (first|refine Wb ?_|refine Wc ?_|refine Wd ?_|refine We ?_|refine Wf ?_));(conv=>whnf)))
   refine AW_loop (X := xF) tab_ok [0, 3, 6, 8, 9, 10, 11] (fun vs M => ∃ (y : Nat) (Z : List Int), y ≤ n ∧ RoP n W 1 y Z ∧ vs = [tabV n W, .int n, .sl 0 0 0 n, .sl 3 0 0 1, .int (1 : Nat), .sl 4 0 0 n, .int y] ∧ M = [some (rOw (hoL n W)), some (rOw (lsN n (stp n W 0))), none, some (oG n 1), some (rOw Z)])
    (fun vs _ => n - (vs.getD 6 .any).toInt.toNat) ?_ ?_
   ·exact ⟨0, _, Nat.zero_le _, ⟨List.length_replicate, fun i hi => absurd hi (by omega)⟩, rfl, rfl⟩
   rintro vs M ⟨y, Z, hy, hZ, rfl, rfl⟩
   ((conv=>whnf);repeat (refine Wa ?_;(repeat (first|refine Wb ?_|refine Wc ?_|refine Wd ?_|refine We ?_|refine Wf ?_));(conv=>whnf)))
   refine br_dec (fun hlt2 => ?_) (fun hge2 => ?_)
   ·have hy' : y < n := by omega
    obtain ⟨q1, q2⟩ := hoG.2 y hy'
    have q0 := hoG.1
    obtain ⟨w1, w2⟩ := hrow _ q2
    have w3 := w2 y hy'
    have w4 := w2 1 hx'
    have hnx := ro_next hZ hy'
    have hst : stp n W 1 y = (W (hoB n W y)).getD y 0 - (W (hoB n W y)).getD 1 0 := rfl
    rw [hst] at hnx
    generalize hoB n W y = h at *
    have hq : (hoL n W).getD (0 + (y : Int).toNat) 0 = (h : Int) := by rw [Int.toNat_natCast, Nat.zero_add]; exact q1
    ((conv=>whnf);repeat (refine Wa ?_;(repeat (first|refine Wb ?_|refine Wc ?_|refine Wd ?_|refine We ?_|refine Wf ?_));(conv=>whnf)))
    refine AW_draw (X := xF) tab_ok mixed (by kernel_rfl) ?_
    conv=>whnf
    refine ⟨zn y, ?_⟩
    refine ⟨(show (y : Int) < (n : Int) by omega), ?_⟩
    conv=>whnf
    rw [hq]
    refine ⟨zn h, ?_⟩
    refine ⟨(show (h : Int) < (n : Int) by omega), ?_⟩
    conv=>whnf
    refine ⟨zn y, ?_⟩
    refine ⟨(show (y : Int) < ((W h).length : Int) by omega), ?_⟩
    conv=>whnf
    refine ⟨zn y, ?_⟩
    refine ⟨(show (y : Int) < (n : Int) by omega), ?_⟩
    conv=>whnf
    rw [hq]
    refine ⟨zn h, ?_⟩
    refine ⟨(show (h : Int) < (n : Int) by omega), ?_⟩
    conv=>whnf
    refine ⟨zn 1, ?_⟩
    refine ⟨(show ((1 : Nat) : Int) < ((W h).length : Int) by omega), ?_⟩
    conv=>whnf
    refine ⟨(show InR ((W h).getD y 0 - (W h).getD 1 0) from inr (by omega)), ?_⟩
    conv=>whnf
    refine ⟨zn y, ?_⟩
    refine ⟨(show (y : Int) < (n : Int) by omega), ?_⟩
    ((conv=>whnf);repeat (refine Wa ?_;(repeat (first|refine Wb ?_|refine Wc ?_|refine Wd ?_|refine We ?_|refine Wf ?_));(conv=>whnf)))
    refine ⟨inr (by omega), ?_⟩
    conv=>whnf
    refine ⟨⟨y + 1, Z.set y ((W h).getD y 0 - (W h).getD 1 0), hy', hnx, rfl, congrArg (fun z => [some (rOw (hoL n W)), some (rOw (lsN n (stp n W 0))), none, some (oG n 1), some (rOw (Z.set z ((W h).getD y 0 - (W h).getD 1 0)))]) (Nat.zero_add y)⟩, ?_⟩
    simp [V.toInt, sel, Env.get]; omega
   ·obtain rfl : n = y := by omega
    have hl := ro_all hZ
    subst hl
    ((conv=>whnf);repeat (refine Wa ?_;(repeat (first|refine Wb ?_|refine Wc ?_|refine Wd ?_|refine We ?_|refine Wf ?_));(conv=>whnf)))
    refine ⟨(show (24 : Int) * ((1 : Nat) + ((1 : Nat) : Int)) ≤ 140737488355328 by decide), ?_⟩
    ((conv=>whnf);repeat (refine Wa ?_;(repeat (first|refine Wb ?_|refine Wc ?_|refine Wd ?_|refine We ?_|refine Wf ?_));(conv=>whnf)))
    refine ⟨inr (by omega), ?_⟩
    conv=>whnf
    refine ⟨by repeat (first|exact trivial|exact rfl|exact namedTb|exact fun _ _=>namedTb|exact fun j q hj _=>namIf (namG (show j < 5 from Nat.lt_of_lt_of_le hj (by decide))) rfl|exact fun _=>trivial|exact fun _ _=>trivial|exact fun _ _ _=>trivial|exact fun _ _ _ _=>trivial|refine And.intro ?_ ?_), memA1 [some (rOw (hoL n W)), some (rOw (lsN n (stp n W 0))), none, some (oG n 2), some (rOw (lsN n (stp n W 1))), none] ⟨ObSub.refl _, ObSub.refl _, ObSub_vv (fun j q hj hq => by have hj : j < 2 := hj; by_cases hjx : j < 1; exact if_pos hjx; obtain rfl : j = 1 := (by omega); exact if_neg hjx), ObSub.refl _, trivial⟩ ⟨⟨1 + 1, _, hx', .inr (.inr (.inl ⟨rfl, rfl, rfl⟩)), rfl⟩, ?_⟩⟩
    simp [V.toInt, sel, Env.get]; omega
  ·conv=>whnf
   obtain rfl : n = 1 := by have h := hge; simp at h; omega
   exact ⟨rfl, rfl, ObSub.refl _, ObSub.ii (by unfold rwM; rw [if_pos (by decide)]), ObSub.refl _, trivial⟩
 ·((conv=>whnf);repeat (refine Wa ?_;(repeat (first|refine Wb ?_|refine Wc ?_|refine Wd ?_|refine We ?_|refine Wf ?_));(conv=>whnf)))
  refine br_dec (fun hlt => ?_) (fun hge => ?_)
  ·have hx' : 2 < n := by have h := hlt; simp at h; omega
   ((conv=>whnf);repeat (refine Wa ?_;(repeat (first|refine Wb ?_|refine Wc ?_|refine Wd ?_|refine We ?_|refine Wf ?_));(conv=>whnf)))
   refine ⟨zn n, ?_⟩
   refine ⟨Int.le_refl _, ?_⟩
   refine ⟨(show (8 : Int) * (n : Int) ≤ 140737488355328 by omega), ?_⟩
   rw [Int.toNat_natCast]
   ((conv=>whnf);repeat (refine Wa ?_;(repeat (first|refine Wb ?_|refine Wc ?_|refine Wd ?_|refine We ?_|refine Wf ?_));(conv=>whnf)))
   refine AW_loop (X := xF) tab_ok [0, 3, 6, 8, 9, 10, 11] (fun vs M => ∃ (y : Nat) (Z : List Int), y ≤ n ∧ RoP n W 2 y Z ∧ vs = [tabV n W, .int n, .sl 0 0 0 n, .sl 3 1 0 2, .int (2 : Nat), .sl 6 0 0 n, .int y] ∧ M = [some (rOw (hoL n W)), some (rOw (lsN n (stp n W 0))), none, some (oG n 2), some (rOw (lsN n (stp n W 1))), none, some (rOw Z)])
    (fun vs _ => n - (vs.getD 6 .any).toInt.toNat) ?_ ?_
   ·exact ⟨0, _, Nat.zero_le _, ⟨List.length_replicate, fun i hi => absurd hi (by omega)⟩, rfl, rfl⟩
   rintro vs M ⟨y, Z, hy, hZ, rfl, rfl⟩
   ((conv=>whnf);repeat (refine Wa ?_;(repeat (first|refine Wb ?_|refine Wc ?_|refine Wd ?_|refine We ?_|refine Wf ?_));(conv=>whnf)))
   refine br_dec (fun hlt2 => ?_) (fun hge2 => ?_)
   ·have hy' : y < n := by omega
    obtain ⟨q1, q2⟩ := hoG.2 y hy'
    have q0 := hoG.1
    obtain ⟨w1, w2⟩ := hrow _ q2
    have w3 := w2 y hy'
    have w4 := w2 2 hx'
    have hnx := ro_next hZ hy'
    have hst : stp n W 2 y = (W (hoB n W y)).getD y 0 - (W (hoB n W y)).getD 2 0 := rfl
    rw [hst] at hnx
    generalize hoB n W y = h at *
    have hq : (hoL n W).getD (0 + (y : Int).toNat) 0 = (h : Int) := by rw [Int.toNat_natCast, Nat.zero_add]; exact q1
    ((conv=>whnf);repeat (refine Wa ?_;(repeat (first|refine Wb ?_|refine Wc ?_|refine Wd ?_|refine We ?_|refine Wf ?_));(conv=>whnf)))
    refine AW_draw (X := xF) tab_ok mixed (by kernel_rfl) ?_
    conv=>whnf
    refine ⟨zn y, ?_⟩
    refine ⟨(show (y : Int) < (n : Int) by omega), ?_⟩
    conv=>whnf
    rw [hq]
    refine ⟨zn h, ?_⟩
    refine ⟨(show (h : Int) < (n : Int) by omega), ?_⟩
    conv=>whnf
    refine ⟨zn y, ?_⟩
    refine ⟨(show (y : Int) < ((W h).length : Int) by omega), ?_⟩
    conv=>whnf
    refine ⟨zn y, ?_⟩
    refine ⟨(show (y : Int) < (n : Int) by omega), ?_⟩
    conv=>whnf
    rw [hq]
    refine ⟨zn h, ?_⟩
    refine ⟨(show (h : Int) < (n : Int) by omega), ?_⟩
    conv=>whnf
    refine ⟨zn 2, ?_⟩
    refine ⟨(show ((2 : Nat) : Int) < ((W h).length : Int) by omega), ?_⟩
    conv=>whnf
    refine ⟨(show InR ((W h).getD y 0 - (W h).getD 2 0) from inr (by omega)), ?_⟩
    conv=>whnf
    refine ⟨zn y, ?_⟩
    refine ⟨(show (y : Int) < (n : Int) by omega), ?_⟩
    ((conv=>whnf);repeat (refine Wa ?_;(repeat (first|refine Wb ?_|refine Wc ?_|refine Wd ?_|refine We ?_|refine Wf ?_));(conv=>whnf)))
    refine ⟨inr (by omega), ?_⟩
    conv=>whnf
    refine ⟨⟨y + 1, Z.set y ((W h).getD y 0 - (W h).getD 2 0), hy', hnx, rfl, congrArg (fun z => [some (rOw (hoL n W)), some (rOw (lsN n (stp n W 0))), none, some (oG n 2), some (rOw (lsN n (stp n W 1))), none, some (rOw (Z.set z ((W h).getD y 0 - (W h).getD 2 0)))]) (Nat.zero_add y)⟩, ?_⟩
    simp [V.toInt, sel, Env.get]; omega
   ·obtain rfl : n = y := by omega
    have hl := ro_all hZ
    subst hl
    ((conv=>whnf);repeat (refine Wa ?_;(repeat (first|refine Wb ?_|refine Wc ?_|refine Wd ?_|refine We ?_|refine Wf ?_));(conv=>whnf)))
    refine ⟨(show (24 : Int) * ((2 : Nat) + ((1 : Nat) : Int)) ≤ 140737488355328 by decide), ?_⟩
    ((conv=>whnf);repeat (refine Wa ?_;(repeat (first|refine Wb ?_|refine Wc ?_|refine Wd ?_|refine We ?_|refine Wf ?_));(conv=>whnf)))
    refine ⟨inr (by omega), ?_⟩
    conv=>whnf
    refine ⟨by repeat (first|exact trivial|exact rfl|exact namedTb|exact fun _ _=>namedTb|exact fun j q hj _=>namIf (namG (show j < 5 from Nat.lt_of_lt_of_le hj (by decide))) rfl|exact fun _=>trivial|exact fun _ _=>trivial|exact fun _ _ _=>trivial|exact fun _ _ _ _=>trivial|refine And.intro ?_ ?_), memA1 [some (rOw (hoL n W)), some (rOw (lsN n (stp n W 0))), none, some (oG n 3), some (rOw (lsN n (stp n W 1))), none, some (rOw (lsN n (stp n W 2))), none] ⟨ObSub.refl _, ObSub.refl _, ObSub_vv (fun j q hj hq => by have hj : j < 3 := hj; by_cases hjx : j < 2; exact if_pos hjx; obtain rfl : j = 2 := (by omega); exact if_neg hjx), ObSub.refl _, ObSub.refl _, trivial⟩ ⟨⟨2 + 1, _, hx', .inr (.inr (.inr (.inl ⟨rfl, rfl, rfl⟩))), rfl⟩, ?_⟩⟩
    simp [V.toInt, sel, Env.get]; omega
  ·conv=>whnf
   obtain rfl : n = 2 := by have h := hge; simp at h; omega
   exact ⟨rfl, rfl, ObSub.refl _, ObSub.ii (by unfold rwM; rw [if_pos (by decide)]), ObSub.refl _, ObSub.ii (by unfold rwM; rw [if_pos (by decide)]), trivial⟩
 ·((conv=>whnf);repeat (refine Wa ?_;(repeat (first|refine Wb ?_|refine Wc ?_|refine Wd ?_|refine We ?_|refine Wf ?_));(conv=>whnf)))
  refine br_dec (fun hlt => ?_) (fun hge => ?_)
  ·have hx' : 3 < n := by have h := hlt; simp at h; omega
   ((conv=>whnf);repeat (refine Wa ?_;(repeat (first|refine Wb ?_|refine Wc ?_|refine Wd ?_|refine We ?_|refine Wf ?_));(conv=>whnf)))
   refine ⟨zn n, ?_⟩
   refine ⟨Int.le_refl _, ?_⟩
   refine ⟨(show (8 : Int) * (n : Int) ≤ 140737488355328 by omega), ?_⟩
   rw [Int.toNat_natCast]
   ((conv=>whnf);repeat (refine Wa ?_;(repeat (first|refine Wb ?_|refine Wc ?_|refine Wd ?_|refine We ?_|refine Wf ?_));(conv=>whnf)))
   refine AW_loop (X := xF) tab_ok [0, 3, 6, 8, 9, 10, 11] (fun vs M => ∃ (y : Nat) (Z : List Int), y ≤ n ∧ RoP n W 3 y Z ∧ vs = [tabV n W, .int n, .sl 0 0 0 n, .sl 3 2 0 3, .int (3 : Nat), .sl 8 0 0 n, .int y] ∧ M = [some (rOw (hoL n W)), some (rOw (lsN n (stp n W 0))), none, some (oG n 3), some (rOw (lsN n (stp n W 1))), none, some (rOw (lsN n (stp n W 2))), none, some (rOw Z)])
    (fun vs _ => n - (vs.getD 6 .any).toInt.toNat) ?_ ?_
   ·exact ⟨0, _, Nat.zero_le _, ⟨List.length_replicate, fun i hi => absurd hi (by omega)⟩, rfl, rfl⟩
   rintro vs M ⟨y, Z, hy, hZ, rfl, rfl⟩
   ((conv=>whnf);repeat (refine Wa ?_;(repeat (first|refine Wb ?_|refine Wc ?_|refine Wd ?_|refine We ?_|refine Wf ?_));(conv=>whnf)))
   refine br_dec (fun hlt2 => ?_) (fun hge2 => ?_)
   ·have hy' : y < n := by omega
    obtain ⟨q1, q2⟩ := hoG.2 y hy'
    have q0 := hoG.1
    obtain ⟨w1, w2⟩ := hrow _ q2
    have w3 := w2 y hy'
    have w4 := w2 3 hx'
    have hnx := ro_next hZ hy'
    have hst : stp n W 3 y = (W (hoB n W y)).getD y 0 - (W (hoB n W y)).getD 3 0 := rfl
    rw [hst] at hnx
    generalize hoB n W y = h at *
    have hq : (hoL n W).getD (0 + (y : Int).toNat) 0 = (h : Int) := by rw [Int.toNat_natCast, Nat.zero_add]; exact q1
    ((conv=>whnf);repeat (refine Wa ?_;(repeat (first|refine Wb ?_|refine Wc ?_|refine Wd ?_|refine We ?_|refine Wf ?_));(conv=>whnf)))
    refine AW_draw (X := xF) tab_ok mixed (by kernel_rfl) ?_
    conv=>whnf
    refine ⟨zn y, ?_⟩
    refine ⟨(show (y : Int) < (n : Int) by omega), ?_⟩
    conv=>whnf
    rw [hq]
    refine ⟨zn h, ?_⟩
    refine ⟨(show (h : Int) < (n : Int) by omega), ?_⟩
    conv=>whnf
    refine ⟨zn y, ?_⟩
    refine ⟨(show (y : Int) < ((W h).length : Int) by omega), ?_⟩
    conv=>whnf
    refine ⟨zn y, ?_⟩
    refine ⟨(show (y : Int) < (n : Int) by omega), ?_⟩
    conv=>whnf
    rw [hq]
    refine ⟨zn h, ?_⟩
    refine ⟨(show (h : Int) < (n : Int) by omega), ?_⟩
    conv=>whnf
    refine ⟨zn 3, ?_⟩
    refine ⟨(show ((3 : Nat) : Int) < ((W h).length : Int) by omega), ?_⟩
    conv=>whnf
    refine ⟨(show InR ((W h).getD y 0 - (W h).getD 3 0) from inr (by omega)), ?_⟩
    conv=>whnf
    refine ⟨zn y, ?_⟩
    refine ⟨(show (y : Int) < (n : Int) by omega), ?_⟩
    ((conv=>whnf);repeat (refine Wa ?_;(repeat (first|refine Wb ?_|refine Wc ?_|refine Wd ?_|refine We ?_|refine Wf ?_));(conv=>whnf)))
    refine ⟨inr (by omega), ?_⟩
    conv=>whnf
    refine ⟨⟨y + 1, Z.set y ((W h).getD y 0 - (W h).getD 3 0), hy', hnx, rfl, congrArg (fun z => [some (rOw (hoL n W)), some (rOw (lsN n (stp n W 0))), none, some (oG n 3), some (rOw (lsN n (stp n W 1))), none, some (rOw (lsN n (stp n W 2))), none, some (rOw (Z.set z ((W h).getD y 0 - (W h).getD 3 0)))]) (Nat.zero_add y)⟩, ?_⟩
    simp [V.toInt, sel, Env.get]; omega
   ·obtain rfl : n = y := by omega
    have hl := ro_all hZ
    subst hl
    ((conv=>whnf);repeat (refine Wa ?_;(repeat (first|refine Wb ?_|refine Wc ?_|refine Wd ?_|refine We ?_|refine Wf ?_));(conv=>whnf)))
    refine ⟨(show (24 : Int) * ((3 : Nat) + ((1 : Nat) : Int)) ≤ 140737488355328 by decide), ?_⟩
    ((conv=>whnf);repeat (refine Wa ?_;(repeat (first|refine Wb ?_|refine Wc ?_|refine Wd ?_|refine We ?_|refine Wf ?_));(conv=>whnf)))
    refine ⟨inr (by omega), ?_⟩
    conv=>whnf
    refine ⟨by repeat (first|exact trivial|exact rfl|exact namedTb|exact fun _ _=>namedTb|exact fun j q hj _=>namIf (namG (show j < 5 from Nat.lt_of_lt_of_le hj (by decide))) rfl|exact fun _=>trivial|exact fun _ _=>trivial|exact fun _ _ _=>trivial|exact fun _ _ _ _=>trivial|refine And.intro ?_ ?_), memA1 [some (rOw (hoL n W)), some (rOw (lsN n (stp n W 0))), none, some (oG n 4), some (rOw (lsN n (stp n W 1))), none, some (rOw (lsN n (stp n W 2))), none, some (rOw (lsN n (stp n W 3))), none] ⟨ObSub.refl _, ObSub.refl _, ObSub_vv (fun j q hj hq => by have hj : j < 4 := hj; by_cases hjx : j < 3; exact if_pos hjx; obtain rfl : j = 3 := (by omega); exact if_neg hjx), ObSub.refl _, ObSub.refl _, ObSub.refl _, trivial⟩ ⟨⟨3 + 1, _, hx', .inr (.inr (.inr (.inr (.inl ⟨rfl, rfl, rfl⟩)))), rfl⟩, ?_⟩⟩
    simp [V.toInt, sel, Env.get]; omega
  ·conv=>whnf
   obtain rfl : n = 3 := by have h := hge; simp at h; omega
   exact ⟨rfl, rfl, ObSub.refl _, ObSub.ii (by unfold rwM; rw [if_pos (by decide)]), ObSub.refl _, ObSub.ii (by unfold rwM; rw [if_pos (by decide)]), ObSub.ii (by unfold rwM; rw [if_pos (by decide)]), trivial⟩
 ·((conv=>whnf);repeat (refine Wa ?_;(repeat (first|refine Wb ?_|refine Wc ?_|refine Wd ?_|refine We ?_|refine Wf ?_));(conv=>whnf)))
  refine br_dec (fun hlt => ?_) (fun hge => ?_)
  ·have hx' : 4 < n := by have h := hlt; simp at h; omega
   ((conv=>whnf);repeat (refine Wa ?_;(repeat (first|refine Wb ?_|refine Wc ?_|refine Wd ?_|refine We ?_|refine Wf ?_));(conv=>whnf)))
   refine ⟨zn n, ?_⟩
   refine ⟨Int.le_refl _, ?_⟩
   refine ⟨(show (8 : Int) * (n : Int) ≤ 140737488355328 by omega), ?_⟩
   rw [Int.toNat_natCast]
   ((conv=>whnf);repeat (refine Wa ?_;(repeat (first|refine Wb ?_|refine Wc ?_|refine Wd ?_|refine We ?_|refine Wf ?_));(conv=>whnf)))
   refine AW_loop (X := xF) tab_ok [0, 3, 6, 8, 9, 10, 11] (fun vs M => ∃ (y : Nat) (Z : List Int), y ≤ n ∧ RoP n W 4 y Z ∧ vs = [tabV n W, .int n, .sl 0 0 0 n, .sl 3 3 0 4, .int (4 : Nat), .sl 10 0 0 n, .int y] ∧ M = [some (rOw (hoL n W)), some (rOw (lsN n (stp n W 0))), none, some (oG n 4), some (rOw (lsN n (stp n W 1))), none, some (rOw (lsN n (stp n W 2))), none, some (rOw (lsN n (stp n W 3))), none, some (rOw Z)])
    (fun vs _ => n - (vs.getD 6 .any).toInt.toNat) ?_ ?_
   ·exact ⟨0, _, Nat.zero_le _, ⟨List.length_replicate, fun i hi => absurd hi (by omega)⟩, rfl, rfl⟩
   rintro vs M ⟨y, Z, hy, hZ, rfl, rfl⟩
   ((conv=>whnf);repeat (refine Wa ?_;(repeat (first|refine Wb ?_|refine Wc ?_|refine Wd ?_|refine We ?_|refine Wf ?_));(conv=>whnf)))
   refine br_dec (fun hlt2 => ?_) (fun hge2 => ?_)
   ·have hy' : y < n := by omega
    obtain ⟨q1, q2⟩ := hoG.2 y hy'
    have q0 := hoG.1
    obtain ⟨w1, w2⟩ := hrow _ q2
    have w3 := w2 y hy'
    have w4 := w2 4 hx'
    have hnx := ro_next hZ hy'
    have hst : stp n W 4 y = (W (hoB n W y)).getD y 0 - (W (hoB n W y)).getD 4 0 := rfl
    rw [hst] at hnx
    generalize hoB n W y = h at *
    have hq : (hoL n W).getD (0 + (y : Int).toNat) 0 = (h : Int) := by rw [Int.toNat_natCast, Nat.zero_add]; exact q1
    ((conv=>whnf);repeat (refine Wa ?_;(repeat (first|refine Wb ?_|refine Wc ?_|refine Wd ?_|refine We ?_|refine Wf ?_));(conv=>whnf)))
    refine AW_draw (X := xF) tab_ok mixed (by kernel_rfl) ?_
    conv=>whnf
    refine ⟨zn y, ?_⟩
    refine ⟨(show (y : Int) < (n : Int) by omega), ?_⟩
    conv=>whnf
    rw [hq]
    refine ⟨zn h, ?_⟩
    refine ⟨(show (h : Int) < (n : Int) by omega), ?_⟩
    conv=>whnf
    refine ⟨zn y, ?_⟩
    refine ⟨(show (y : Int) < ((W h).length : Int) by omega), ?_⟩
    conv=>whnf
    refine ⟨zn y, ?_⟩
    refine ⟨(show (y : Int) < (n : Int) by omega), ?_⟩
    conv=>whnf
    rw [hq]
    refine ⟨zn h, ?_⟩
    refine ⟨(show (h : Int) < (n : Int) by omega), ?_⟩
    conv=>whnf
    refine ⟨zn 4, ?_⟩
    refine ⟨(show ((4 : Nat) : Int) < ((W h).length : Int) by omega), ?_⟩
    conv=>whnf
    refine ⟨(show InR ((W h).getD y 0 - (W h).getD 4 0) from inr (by omega)), ?_⟩
    conv=>whnf
    refine ⟨zn y, ?_⟩
    refine ⟨(show (y : Int) < (n : Int) by omega), ?_⟩
    ((conv=>whnf);repeat (refine Wa ?_;(repeat (first|refine Wb ?_|refine Wc ?_|refine Wd ?_|refine We ?_|refine Wf ?_));(conv=>whnf)))
    refine ⟨inr (by omega), ?_⟩
    conv=>whnf
    refine ⟨⟨y + 1, Z.set y ((W h).getD y 0 - (W h).getD 4 0), hy', hnx, rfl, congrArg (fun z => [some (rOw (hoL n W)), some (rOw (lsN n (stp n W 0))), none, some (oG n 4), some (rOw (lsN n (stp n W 1))), none, some (rOw (lsN n (stp n W 2))), none, some (rOw (lsN n (stp n W 3))), none, some (rOw (Z.set z ((W h).getD y 0 - (W h).getD 4 0)))]) (Nat.zero_add y)⟩, ?_⟩
    simp [V.toInt, sel, Env.get]; omega
   ·obtain rfl : n = y := by omega
    have hl := ro_all hZ
    subst hl
    ((conv=>whnf);repeat (refine Wa ?_;(repeat (first|refine Wb ?_|refine Wc ?_|refine Wd ?_|refine We ?_|refine Wf ?_));(conv=>whnf)))
    refine ⟨(show (24 : Int) * ((4 : Nat) + ((1 : Nat) : Int)) ≤ 140737488355328 by decide), ?_⟩
    ((conv=>whnf);repeat (refine Wa ?_;(repeat (first|refine Wb ?_|refine Wc ?_|refine Wd ?_|refine We ?_|refine Wf ?_));(conv=>whnf)))
    refine ⟨inr (by omega), ?_⟩
    conv=>whnf
    refine ⟨by repeat (first|exact trivial|exact rfl|exact namedTb|exact fun _ _=>namedTb|exact fun j q hj _=>namIf (namG (show j < 5 from Nat.lt_of_lt_of_le hj (by decide))) rfl|exact fun _=>trivial|exact fun _ _=>trivial|exact fun _ _ _=>trivial|exact fun _ _ _ _=>trivial|refine And.intro ?_ ?_), memA1 [some (rOw (hoL n W)), some (rOw (lsN n (stp n W 0))), none, some (oG n 5), some (rOw (lsN n (stp n W 1))), none, some (rOw (lsN n (stp n W 2))), none, some (rOw (lsN n (stp n W 3))), none, some (rOw (lsN n (stp n W 4))), none] ⟨ObSub.refl _, ObSub.refl _, ObSub_vv (fun j q hj hq => by have hj : j < 5 := hj; by_cases hjx : j < 4; exact if_pos hjx; obtain rfl : j = 4 := (by omega); exact if_neg hjx), ObSub.refl _, ObSub.refl _, ObSub.refl _, ObSub.refl _, trivial⟩ ⟨⟨4 + 1, _, hx', .inr (.inr (.inr (.inr (.inr (⟨rfl, rfl, rfl⟩))))), rfl⟩, ?_⟩⟩
    simp [V.toInt, sel, Env.get]; omega
  ·conv=>whnf
   obtain rfl : n = 4 := by have h := hge; simp at h; omega
   exact ⟨rfl, rfl, ObSub.refl _, ObSub.ii (by unfold rwM; rw [if_pos (by decide)]), ObSub.refl _, ObSub.ii (by unfold rwM; rw [if_pos (by decide)]), ObSub.ii (by unfold rwM; rw [if_pos (by decide)]), ObSub.ii (by unfold rwM; rw [if_pos (by decide)]), trivial⟩
 ·have hxn : n = 5 := by omega
  ((conv=>whnf);repeat (refine Wa ?_;(repeat (first|refine Wb ?_|refine Wc ?_|refine Wd ?_|refine We ?_|refine Wf ?_));(conv=>whnf)))
  refine br_dec (fun hlt => ?_) (fun hge => ?_)
  ·exact absurd hlt (by simp; omega)
  ·conv=>whnf
   subst hxn
   exact ⟨rfl, rfl, ObSub.refl _, ObSub.ii (by unfold rwM; rw [if_pos (by decide)]), ObSub.refl _, ObSub.ii (by unfold rwM; rw [if_pos (by decide)]), ObSub.ii (by unfold rwM; rw [if_pos (by decide)]), ObSub.ii (by unfold rwM; rw [if_pos (by decide)]), ObSub.ii (by unfold rwM; rw [if_pos (by decide)]), trivial⟩
theorem refdearer_pure {n : Nat} {W : Nat → List Int} (hW : Wis n W) : APure Try.prog 58 [tabV n W] (fun R => R = drW true n W) :=
 APure_sub (refdearer0_pure hW) (sub_seq fun _ _ hj _ => Sub.of (goF_get hW.2.1 hj)) ⟨rfl, fun _ _ _ _ => rfl⟩
end Go.Tri
