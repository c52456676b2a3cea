/-
 CONTRACTS: the program's table of least sums (made by a program: a round for each pair of rows).
-/
import Derived.Test.YtpolaegggclhcaaB33
import Derived.Test.YtpolaegggclhcaaA35
namespace Go.Tri
open Go.Proofs

/-- A contract's memory may be said to have more. -/
theorem ACM_pad {P : Program} {f : FuncId} {xs : List V} {M : Mem} {Q Q' : V → Mem → Prop} {nb0 : Option Nat} (h : ACM P f xs M Q nb0) (hq : ∀ R M', Q R M' → ∃ M2, MSub M' M2 ∧ Q' R M2) : ACM P f xs M Q' nb0 := by
 unfold ACM at h ⊢
 refine ⟨h.1, fun nb base φ w args hnb hm hs ha => (h.2 nb base φ w args hnb hm hs ha).mono ?_⟩
 rintro e w' ⟨v, R, M', φ', he, hQ, hm', hr, hev⟩
 obtain ⟨M2, h2, h3⟩ := hq R M' hQ
 exact ⟨v, R, M2, φ', he, h3, hm'.sub h2, hr, hev⟩
/-- A table's rows (of those that are not there, nothing). -/
def rwN (n : Nat) (D : Nat → Nat → Int) (a : Nat) : List Int := if a < n then lsN n (D a) else []
@[reducible] def padM (n : Nat) (D : Nat → Nat → Int) : Mem := [some (oOb n 5), some (rOw (rwN n D 0)), some (rOw (rwN n D 1)), some (rOw (rwN n D 2)), some (rOw (rwN n D 3)), some (rOw (rwN n D 4))]
/-- The rows where the row f has come to y, by way of x. -/
def mixR (n : Nat) (D : Nat → Nat → Int) (x f y a : Nat) : List Int := if a < n then lsN n (fun b => if a < f ∨ (a = f ∧ b < y) then fwS D x a b else D a b) else []
@[reducible] def mixM (n : Nat) (D : Nat → Nat → Int) (x f y : Nat) : Mem := [some (oOb n 5), some (rOw (mixR n D x f y 0)), some (rOw (mixR n D x f y 1)), some (rOw (mixR n D x f y 2)), some (rOw (mixR n D x f y 3)), some (rOw (mixR n D x f y 4))]
theorem lsN_congr {n : Nat} {f g : Nat → Int} (h : ∀ j, j < n → f j = g j) : lsN n f = lsN n g := ext_getD (by rw [lsN_len, lsN_len]) fun j hj => by
 rw [lsN_len] at hj
 rw [lsN_get hj, lsN_get hj, h j hj]
theorem mix_zero {n : Nat} {D : Nat → Nat → Int} {x a : Nat} : rwN n D a = mixR n D x 0 0 a := by
 unfold rwN mixR
 split
 ·exact lsN_congr fun j _ => (if_neg (by omega)).symm
 ·rfl
theorem mix_end {n : Nat} {D : Nat → Nat → Int} {x f a : Nat} : mixR n D x f n a = mixR n D x (f + 1) 0 a := by
 unfold mixR
 split
 ·exact lsN_congr fun j hj => by
   by_cases h : a < f + 1
   ·rw [if_pos (by omega), if_pos (by omega)]
   ·rw [if_neg (by omega), if_neg (by omega)]
 ·rfl
theorem mix_all {n : Nat} {D : Nat → Nat → Int} {x a : Nat} : mixR n D x n 0 a = rwN n (fwS D x) a := by
 unfold rwN mixR
 by_cases ha : a < n
 ·rw [if_pos ha, if_pos ha]
  exact lsN_congr fun j _ => if_pos (.inl ha)
 ·rw [if_neg ha, if_neg ha]
theorem mix_all' {n : Nat} {D : Nat → Nat → Int} {x f a : Nat} (h : f = n) : mixR n D x f 0 a = rwN n (fwS D x) a := by
 subst h
 exact mix_all
theorem mix_other {n : Nat} {D : Nat → Nat → Int} {x f y a : Nat} (h : a ≠ f) : mixR n D x f y a = mixR n D x f (y + 1) a := by
 unfold mixR
 split
 ·exact lsN_congr fun j _ => by
   by_cases h2 : a < f
   ·rw [if_pos (by omega), if_pos (by omega)]
   ·rw [if_neg (by omega), if_neg (by omega)]
 ·rfl
theorem mix_get {n : Nat} {D : Nat → Nat → Int} {x f y a b : Nat} (ha : a < n) (hb : b < n) : (mixR n D x f y a).getD b 0 = if a < f ∨ (a = f ∧ b < y) then fwS D x a b else D a b := by
 unfold mixR
 rw [if_pos ha, lsN_get hb]
theorem mix_len {n : Nat} {D : Nat → Nat → Int} {x f y a : Nat} (ha : a < n) : (mixR n D x f y a).length = n := by
 unfold mixR
 rw [if_pos ha, lsN_len]
theorem mix_put {n : Nat} {W : Nat → List Int} {D : Nat → Nat → Int} {x f y p : Nat} (hB : Base n W D) (hx : x < n) (hf : f < n) (hy : y < n) (hp : p = y) :
  (mixR n D x f y f).set p (minI ((mixR n D x f y f).getD p 0) ((mixR n D x f y f).getD x 0 + (mixR n D x f y x).getD p 0)) = mixR n D x f (y + 1) f := by
 subst hp
 have hxx := hB.self hx
 have e1 : (mixR n D x f p f).getD p 0 = D f p := by rw [mix_get hf hy, if_neg (by omega)]
 have e2 : (mixR n D x f p f).getD x 0 = D f x := by
  rw [mix_get hf hx]
  split
  ·unfold fwS
   have := minI_or (D f x) (D f x + D x x)
   omega
  ·rfl
 have e3 : (mixR n D x f p x).getD p 0 = D x p := by
  rw [mix_get hx hy]
  split
  ·unfold fwS
   have := minI_or (D x p) (D x x + D x p)
   omega
  ·rfl
 rw [e1, e2, e3]
 refine ext_getD (by rw [List.length_set, mix_len hf, mix_len hf]) fun j hj => ?_
 rw [List.length_set, mix_len hf] at hj
 rw [getD_setL, mix_len hf, mix_get hf hj, mix_get hf hj]
 by_cases h : p = j
 ·subst h
  rw [if_pos ⟨rfl, hj⟩, if_pos (by omega)]
  rfl
 ·rw [if_neg (fun h2 => h h2.1)]
  by_cases h2 : j < p
  ·rw [if_pos (by omega), if_pos (by omega)]
  ·rw [if_neg (by omega), if_neg (by omega)]
theorem mix_bd {n : Nat} {W : Nat → List Int} {D : Nat → Nat → Int} {x f y a b : Nat} (hW : Wis n W) (hB : Base n W D) (hx : x < n) (ha : a < n) (hb : b < n) : -1000 ≤ (mixR n D x f y a).getD b 0 ∧ (mixR n D x f y a).getD b 0 ≤ 1000 := by
 rw [mix_get ha hb]
 split
 ·exact (fw_base hx hB).bd hW ha hb
 ·exact hB.bd hW ha hb
theorem steps_pad {n : Nat} {W : Nat → List Int} (hW : Wis n W) : ACM Try.prog 90 [tabV n W, .ints true (asB n W)] [] (fun R M' => R = .sl 0 0 0 n ∧ M' = padM n (stp n W)) (some 0) := by
 refine ACM_pad (steps_cm hW) ?_
 have h1 := hW.1
 have h5 := hW.2.1
 rintro R M' ⟨rfl, hM⟩
 refine ⟨_, ?_, rfl, rfl⟩
 have e : ∀ a, a < n → lsN n (stp n W a) = rwN n (stp n W) a := fun a ha => by unfold rwN; rw [if_pos ha]
 rcases hM with ⟨h, rfl⟩ | ⟨h, rfl⟩ | ⟨h, rfl⟩ | ⟨h, rfl⟩ | ⟨h, rfl⟩ | ⟨h, rfl⟩
 ·omega
 ·exact ⟨ObSub_vv (fun j q hj hq => by unfold outF; first | (rw [if_pos (by omega), if_pos (by omega)]; done) | rw [if_pos (by omega)]), ObSub.ii (e 0 (by omega)), trivial⟩
 ·exact ⟨ObSub_vv (fun j q hj hq => by unfold outF; first | (rw [if_pos (by omega), if_pos (by omega)]; done) | rw [if_pos (by omega)]), ObSub.ii (e 0 (by omega)), ObSub.ii (e 1 (by omega)), trivial⟩
 ·exact ⟨ObSub_vv (fun j q hj hq => by unfold outF; first | (rw [if_pos (by omega), if_pos (by omega)]; done) | rw [if_pos (by omega)]), ObSub.ii (e 0 (by omega)), ObSub.ii (e 1 (by omega)), ObSub.ii (e 2 (by omega)), trivial⟩
 ·exact ⟨ObSub_vv (fun j q hj hq => by unfold outF; first | (rw [if_pos (by omega), if_pos (by omega)]; done) | rw [if_pos (by omega)]), ObSub.ii (e 0 (by omega)), ObSub.ii (e 1 (by omega)), ObSub.ii (e 2 (by omega)), ObSub.ii (e 3 (by omega)), trivial⟩
 ·exact ⟨ObSub_vv (fun j q hj hq => by unfold outF; first | (rw [if_pos (by omega), if_pos (by omega)]; done) | rw [if_pos (by omega)]), ObSub.ii (e 0 (by omega)), ObSub.ii (e 1 (by omega)), ObSub.ii (e 2 (by omega)), ObSub.ii (e 3 (by omega)), ObSub.ii (e 4 (by omega)), trivial⟩
/-- A table that is handed over. -/
def drF (n : Nat) (D : Nat → Nat → Int) : Nat → Nat → V := fun j _ => if j < 5 then .ints true (rwN n D j) else .emp true
@[reducible] def drV (n : Nat) (D : Nat → Nat → Int) : V := .seq true 1 n (drF n D)
theorem rwN_take {n : Nat} {D : Nat → Nat → Int} {a : Nat} : (rwN n D a).take n = rwN n D a := by
 unfold rwN
 split
 ·exact List.take_of_length_le (by rw [lsN_len]; exact Nat.le_refl _)
 ·exact List.take_nil
theorem out_row {n : Nat} {D : Nat → Nat → Int} : ∀ j q, ownvalN (padM n D) 4 (outF n 5 j q) = drF n D j q := fun j q => by
 unfold outF drF
 by_cases hj : j < 5
 ·rw [if_pos hj, if_pos hj]
  rcases (by omega : j = 0 ∨ j = 1 ∨ j = 2 ∨ j = 3 ∨ j = 4) with rfl | rfl | rfl | rfl | rfl
  all_goals exact congrArg (V.ints true) rwN_take
 ·rw [if_neg hj, if_neg hj]
  rfl
theorem out_read {n : Nat} {D : Nat → Nat → Int} : asInts tab 41 (ownval (padM n D) 4 (.sl 0 0 0 n)) = drV n D := congrArg (V.seq true 1 n) (funext fun j => funext fun q => by
 show ownvalN (padM n D) 4 (outF n 5 (0 + j) q) = _
 rw [Nat.zero_add]
 exact out_row j q)
theorem frDr {n : Nat} {D : Nat → Nat → Int} : Fr (asInts tab 41 (ownval (padM n D) 4 (.sl 0 0 0 n))) := by
 rw [out_read]
 refine ⟨rfl, fun j k _ _ => ?_⟩
 unfold drF
 split
 ·rfl
 ·trivial
/-- A table as a list of rows. -/
def lsN2 (n : Nat) (D : Nat → Nat → Int) : List (List Int) := (List.range n).map fun a => lsN n (D a)
theorem lsN2_len (n : Nat) (D : Nat → Nat → Int) : (lsN2 n D).length = n := by simp [lsN2]
theorem lsN2_get {n a : Nat} {D : Nat → Nat → Int} (h : a < n) : (lsN2 n D).getD a [] = lsN n (D a) := by simp [lsN2, List.getD, h]
@[reducible] noncomputable def xD : Cx := ⟨Try.prog, tab, [90], 58, 0, false⟩
set_option maxHeartbeats 8000000 in
set_option maxRecDepth 100000 in
theorem dearer_cm {n : Nat} {W : Nat → List Int} (hW : Wis n W) : ACM Try.prog 59 [tabV n W] [] (fun R M' => R = .sl 0 0 0 n ∧ M' = padM n (drr n W)) (some 0) := by
 refine ACM_ofW (T := tab) tab_ok Try.func59 (by decide) rfl (Nat.le_of_ble_eq_true rfl) ?_
 refine AW_of_awp (X := xD) tab_ok ?_
 have h1 := hW.1
 have h5 := hW.2.1
 have c1 := assign_pure hW
 have c2 := steps_pad hW
 generalize asB n W = B at *
 ((conv=>whnf);repeat (refine Wa ?_;(repeat (first|refine Wb ?_|refine Wc ?_|refine Wd ?_|refine We ?_|refine Wf ?_));(conv=>whnf)))
 refine APure.to (APure.arg1 subT c1) ?_
 ((conv=>whnf);repeat (refine Wa ?_;(repeat (first|refine Wb ?_|refine Wc ?_|refine Wd ?_|refine We ?_|refine Wf ?_));(conv=>whnf)))
 refine ACM_xs (ys := [tabV n W, .ints true B]) rfl ?_
 refine ACM.mono c2 ?_
 rintro R M' ⟨rfl, rfl⟩
 ((conv=>whnf);repeat (refine Wa ?_;(repeat (first|refine Wb ?_|refine Wc ?_|refine Wd ?_|refine We ?_|refine Wf ?_));(conv=>whnf)))
 refine AW_loopA (X := xD) tab_ok [5, 18, 19, 20] (fun t => Nat.ble t 5) (fun vs M => ∃ x : Nat, x ≤ n ∧ vs = [.sl 0 0 0 n, .sl 0 0 0 n, .int n, .int x] ∧ M = padM n (dsM n W x))
  (fun vs _ => n - (vs.getD 3 .any).toInt.toNat) (fun t ht => by have : t < 6 := ht; simp; omega) ?_ ?_
 ·exact same0 ⟨0, Nat.zero_le _, rfl, rfl⟩
 rintro vs M ⟨x, hx, rfl, rfl⟩
 rcases (by omega : x = 0 ∨ x = 1 ∨ x = 2 ∨ x = 3 ∨ x = 4 ∨ x = 5) with rfl | rfl | rfl | rfl | rfl | rfl
 ·have hdn : dsM n W (0 + 1) = fwS (dsM n W 0) 0 := rfl
  have hB := (dsM_is (n := n) (W := W) 0 hx).1
  ((conv=>whnf);repeat (refine Wa ?_;(repeat (first|refine Wb ?_|refine Wc ?_|refine Wd ?_|refine We ?_|refine Wf ?_));(conv=>whnf)))
  refine br_dec (fun hlt => ?_) (fun hge => ?_)
  ·have hx0 : 0 < n := by have h := hlt; simp at h; omega
   generalize dsM n W 0 = D at *
   ((conv=>whnf);repeat (refine Wa ?_;(repeat (first|refine Wb ?_|refine Wc ?_|refine Wd ?_|refine We ?_|refine Wf ?_));(conv=>whnf)))
   refine AW_loopA (X := xD) tab_ok [5, 6, 18, 19, 20, 23, 24, 25] (fun t => Nat.ble t 5) (fun vs M => ∃ f : Nat, f ≤ n ∧ vs = [.sl 0 0 0 n, .int (0 : Nat), .sl 0 0 0 n, .int n, .int (0 : Nat), .sl 0 0 0 n, .int n, .int f] ∧ M = mixM n D 0 f 0)
    (fun vs _ => n - (vs.getD 7 .any).toInt.toNat) (fun t ht => by have : t < 6 := ht; simp; omega) ?_ ?_
   ·exact memA0 (mixM n D 0 0 0) ⟨ObSub.refl _, ObSub.ii mix_zero, ObSub.ii mix_zero, ObSub.ii mix_zero, ObSub.ii mix_zero, ObSub.ii mix_zero, trivial⟩ ⟨0, Nat.zero_le _, rfl, rfl⟩
   rintro vs M ⟨f, hf, rfl, rfl⟩
   rcases (by omega : f = 0 ∨ f = 1 ∨ f = 2 ∨ f = 3 ∨ f = 4 ∨ f = 5) with rfl | rfl | rfl | rfl | rfl | rfl
   ·((conv=>whnf);repeat (refine Wa ?_;(repeat (first|refine Wb ?_|refine Wc ?_|refine Wd ?_|refine We ?_|refine Wf ?_));(conv=>whnf)))
    refine br_dec (fun hlt2 => ?_) (fun hge2 => ?_)
    ·have hf0 : 0 < n := by have h := hlt2; simp at h; omega
     ((conv=>whnf);repeat (refine Wa ?_;(repeat (first|refine Wb ?_|refine Wc ?_|refine Wd ?_|refine We ?_|refine Wf ?_));(conv=>whnf)))
     refine ⟨zn 0, ?_⟩
     refine ⟨(show ((0 : Nat) : Int) < (n : Int) by omega), ?_⟩
     ((conv=>whnf);repeat (refine Wa ?_;(repeat (first|refine Wb ?_|refine Wc ?_|refine Wd ?_|refine We ?_|refine Wf ?_));(conv=>whnf)))
     refine AW_loopA (X := xD) tab_ok [5, 6, 8, 18, 19, 20, 23, 24, 25, 29, 30, 31] (fun t => Nat.ble t 5) (fun vs M => ∃ y : Nat, y ≤ n ∧ vs = [.sl 0 0 0 n, .int (0 : Nat), .sl (1 + 0) 0 0 n, .sl 0 0 0 n, .int n, .int (0 : Nat), .sl 0 0 0 n, .int n, .int (0 : Nat), .sl (1 + 0) 0 0 n, .int n, .int y] ∧ M = mixM n D 0 0 y)
      (fun vs _ => n - (vs.getD 11 .any).toInt.toNat) (fun t ht => by have : t < 6 := ht; simp; omega) ?_ ?_
     ·exact same0 ⟨0, Nat.zero_le _, rfl, rfl⟩
     rintro vs M ⟨y, hy0, rfl, rfl⟩
     ((conv=>whnf);repeat (refine Wa ?_;(repeat (first|refine Wb ?_|refine Wc ?_|refine Wd ?_|refine We ?_|refine Wf ?_));(conv=>whnf)))
     refine br_dec (fun hlt3 => ?_) (fun hge3 => ?_)
     ·have hy : y < n := by omega
      have b1 := mix_bd (f := 0) (y := y) hW hB hx0 hf0 hy
      have b2 := mix_bd (f := 0) (y := y) hW hB hx0 hf0 hx0
      have b3 : -1000 ≤ (mixR n D 0 0 y 0).getD (0 + y) 0 ∧ (mixR n D 0 0 y 0).getD (0 + y) 0 ≤ 1000 := by rw [Nat.zero_add]; exact mix_bd (f := 0) (y := y) hW hB hx0 hx0 hy
      ((conv=>whnf);repeat (refine Wa ?_;(repeat (first|refine Wb ?_|refine Wc ?_|refine Wd ?_|refine We ?_|refine Wf ?_));(conv=>whnf)))
      refine AW_draw (X := xD) tab_ok mixed (by kernel_rfl) ?_
      conv=>whnf
      refine ⟨zn y, ?_⟩
      refine ⟨(show (y : Int) < (n : Int) by omega), ?_⟩
      conv=>whnf
      refine ⟨zn 0, ?_⟩
      refine ⟨(show ((0 : Nat) : Int) < (n : Int) by omega), ?_⟩
      conv=>whnf
      refine ⟨zn 0, ?_⟩
      refine ⟨(show ((0 : Nat) : Int) < (n : Int) by omega), ?_⟩
      conv=>whnf
      refine ⟨zn y, ?_⟩
      refine ⟨(show (y : Int) < (n : Int) by omega), ?_⟩
      conv=>whnf
      refine ⟨(show InR ((mixR n D 0 0 y 0).getD 0 0 + (mixR n D 0 0 y 0).getD (0 + y) 0) from inr (by omega)), ?_⟩
      conv=>whnf
      refine ⟨zn y, ?_⟩
      refine ⟨(show (y : Int) < (n : Int) by omega), ?_⟩
      ((conv=>whnf);repeat (refine Wa ?_;(repeat (first|refine Wb ?_|refine Wc ?_|refine Wd ?_|refine We ?_|refine Wf ?_));(conv=>whnf)))
      refine ⟨inr (by omega), ?_⟩
      conv=>whnf
      refine ⟨by exact ⟨by repeat (first|exact trivial|exact rfl|exact fun _=>trivial|exact fun _ _=>trivial|exact fun _ _ _=>trivial|exact fun _ _ _ _=>trivial|refine And.intro ?_ ?_), namedO (by omega), trivial, trivial, trivial, trivial, trivial, trivial⟩, memA1 (mixM n D 0 0 (y + 1)) ⟨ObSub.refl _, ObSub.ii (mix_put hB hx0 hf0 hy (Nat.zero_add y)), ObSub.ii (mix_other (by decide)), ObSub.ii (mix_other (by decide)), ObSub.ii (mix_other (by decide)), ObSub.ii (mix_other (by decide)), trivial⟩ ⟨⟨y + 1, hy, rfl, rfl⟩, ?_⟩⟩
      simp [V.toInt, sel, Env.get]; omega
     ·obtain rfl : n = y := by omega
      ((conv=>whnf);repeat (refine Wa ?_;(repeat (first|refine Wb ?_|refine Wc ?_|refine Wd ?_|refine We ?_|refine Wf ?_));(conv=>whnf)))
      refine ⟨inr (by omega), ?_⟩
      conv=>whnf
      refine ⟨by exact ⟨by repeat (first|exact trivial|exact rfl|exact fun _=>trivial|exact fun _ _=>trivial|exact fun _ _ _=>trivial|exact fun _ _ _ _=>trivial|refine And.intro ?_ ?_), namedO (by omega), trivial, trivial, trivial, trivial, trivial, trivial⟩, memA1 (mixM n D 0 (0 + 1) 0) ⟨ObSub.refl _, ObSub.ii mix_end, ObSub.ii mix_end, ObSub.ii mix_end, ObSub.ii mix_end, ObSub.ii mix_end, trivial⟩ ⟨⟨0 + 1, hf0, rfl, rfl⟩, ?_⟩⟩
      simp [V.toInt, sel, Env.get]; omega
    ·((conv=>whnf);repeat (refine Wa ?_;(repeat (first|refine Wb ?_|refine Wc ?_|refine Wd ?_|refine We ?_|refine Wf ?_));(conv=>whnf)))
     refine ⟨inr (by omega), ?_⟩
     conv=>whnf
     have hfn : n = 0 := by have h := hge2; simp at h; omega
     refine ⟨by exact ⟨by repeat (first|exact trivial|exact rfl|exact fun _=>trivial|exact fun _ _=>trivial|exact fun _ _ _=>trivial|exact fun _ _ _ _=>trivial|refine And.intro ?_ ?_), namedO (by omega), trivial, trivial, trivial, trivial, trivial, trivial⟩, memA1 (padM n (fwS D 0)) ⟨ObSub.refl _, ObSub.ii (mix_all' hfn.symm), ObSub.ii (mix_all' hfn.symm), ObSub.ii (mix_all' hfn.symm), ObSub.ii (mix_all' hfn.symm), ObSub.ii (mix_all' hfn.symm), trivial⟩ ⟨⟨0 + 1, hx0, rfl, by rw [hdn]⟩, ?_⟩⟩
     simp [V.toInt, sel, Env.get]; omega
   ·((conv=>whnf);repeat (refine Wa ?_;(repeat (first|refine Wb ?_|refine Wc ?_|refine Wd ?_|refine We ?_|refine Wf ?_));(conv=>whnf)))
    refine br_dec (fun hlt2 => ?_) (fun hge2 => ?_)
    ·have hf1 : 1 < n := by have h := hlt2; simp at h; omega
     ((conv=>whnf);repeat (refine Wa ?_;(repeat (first|refine Wb ?_|refine Wc ?_|refine Wd ?_|refine We ?_|refine Wf ?_));(conv=>whnf)))
     refine ⟨zn 1, ?_⟩
     refine ⟨(show ((1 : Nat) : Int) < (n : Int) by omega), ?_⟩
     ((conv=>whnf);repeat (refine Wa ?_;(repeat (first|refine Wb ?_|refine Wc ?_|refine Wd ?_|refine We ?_|refine Wf ?_));(conv=>whnf)))
     refine AW_loopA (X := xD) tab_ok [5, 6, 8, 18, 19, 20, 23, 24, 25, 29, 30, 31] (fun t => Nat.ble t 5) (fun vs M => ∃ y : Nat, y ≤ n ∧ vs = [.sl 0 0 0 n, .int (0 : Nat), .sl (1 + 1) 0 0 n, .sl 0 0 0 n, .int n, .int (0 : Nat), .sl 0 0 0 n, .int n, .int (1 : Nat), .sl (1 + 1) 0 0 n, .int n, .int y] ∧ M = mixM n D 0 1 y)
      (fun vs _ => n - (vs.getD 11 .any).toInt.toNat) (fun t ht => by have : t < 6 := ht; simp; omega) ?_ ?_
     ·exact same0 ⟨0, Nat.zero_le _, rfl, rfl⟩
     rintro vs M ⟨y, hy0, rfl, rfl⟩
     ((conv=>whnf);repeat (refine Wa ?_;(repeat (first|refine Wb ?_|refine Wc ?_|refine Wd ?_|refine We ?_|refine Wf ?_));(conv=>whnf)))
     refine br_dec (fun hlt3 => ?_) (fun hge3 => ?_)
     ·have hy : y < n := by omega
      have b1 := mix_bd (f := 1) (y := y) hW hB hx0 hf1 hy
      have b2 := mix_bd (f := 1) (y := y) hW hB hx0 hf1 hx0
      have b3 : -1000 ≤ (mixR n D 0 1 y 0).getD (0 + y) 0 ∧ (mixR n D 0 1 y 0).getD (0 + y) 0 ≤ 1000 := by rw [Nat.zero_add]; exact mix_bd (f := 1) (y := y) hW hB hx0 hx0 hy
      ((conv=>whnf);repeat (refine Wa ?_;(repeat (first|refine Wb ?_|refine Wc ?_|refine Wd ?_|refine We ?_|refine Wf ?_));(conv=>whnf)))
      refine AW_draw (X := xD) tab_ok mixed (by kernel_rfl) ?_
      conv=>whnf
      refine ⟨zn y, ?_⟩
      refine ⟨(show (y : Int) < (n : Int) by omega), ?_⟩
      conv=>whnf
      refine ⟨zn 0, ?_⟩
      refine ⟨(show ((0 : Nat) : Int) < (n : Int) by omega), ?_⟩
      conv=>whnf
      refine ⟨zn 0, ?_⟩
      refine ⟨(show ((0 : Nat) : Int) < (n : Int) by omega), ?_⟩
      conv=>whnf
      refine ⟨zn y, ?_⟩
      refine ⟨(show (y : Int) < (n : Int) by omega), ?_⟩
      conv=>whnf
      refine ⟨(show InR ((mixR n D 0 1 y 1).getD 0 0 + (mixR n D 0 1 y 0).getD (0 + y) 0) from inr (by omega)), ?_⟩
      conv=>whnf
      refine ⟨zn y, ?_⟩
      refine ⟨(show (y : Int) < (n : Int) by omega), ?_⟩
      ((conv=>whnf);repeat (refine Wa ?_;(repeat (first|refine Wb ?_|refine Wc ?_|refine Wd ?_|refine We ?_|refine Wf ?_));(conv=>whnf)))
      refine ⟨inr (by omega), ?_⟩
      conv=>whnf
      refine ⟨by exact ⟨by repeat (first|exact trivial|exact rfl|exact fun _=>trivial|exact fun _ _=>trivial|exact fun _ _ _=>trivial|exact fun _ _ _ _=>trivial|refine And.intro ?_ ?_), namedO (by omega), trivial, trivial, trivial, trivial, trivial, trivial⟩, memA1 (mixM n D 0 1 (y + 1)) ⟨ObSub.refl _, ObSub.ii (mix_other (by decide)), ObSub.ii (mix_put hB hx0 hf1 hy (Nat.zero_add y)), ObSub.ii (mix_other (by decide)), ObSub.ii (mix_other (by decide)), ObSub.ii (mix_other (by decide)), trivial⟩ ⟨⟨y + 1, hy, rfl, rfl⟩, ?_⟩⟩
      simp [V.toInt, sel, Env.get]; omega
     ·obtain rfl : n = y := by omega
      ((conv=>whnf);repeat (refine Wa ?_;(repeat (first|refine Wb ?_|refine Wc ?_|refine Wd ?_|refine We ?_|refine Wf ?_));(conv=>whnf)))
      refine ⟨inr (by omega), ?_⟩
      conv=>whnf
      refine ⟨by exact ⟨by repeat (first|exact trivial|exact rfl|exact fun _=>trivial|exact fun _ _=>trivial|exact fun _ _ _=>trivial|exact fun _ _ _ _=>trivial|refine And.intro ?_ ?_), namedO (by omega), trivial, trivial, trivial, trivial, trivial, trivial⟩, memA1 (mixM n D 0 (1 + 1) 0) ⟨ObSub.refl _, ObSub.ii mix_end, ObSub.ii mix_end, ObSub.ii mix_end, ObSub.ii mix_end, ObSub.ii mix_end, trivial⟩ ⟨⟨1 + 1, hf1, rfl, rfl⟩, ?_⟩⟩
      simp [V.toInt, sel, Env.get]; omega
    ·((conv=>whnf);repeat (refine Wa ?_;(repeat (first|refine Wb ?_|refine Wc ?_|refine Wd ?_|refine We ?_|refine Wf ?_));(conv=>whnf)))
     refine ⟨inr (by omega), ?_⟩
     conv=>whnf
     have hfn : n = 1 := by have h := hge2; simp at h; omega
     refine ⟨by exact ⟨by repeat (first|exact trivial|exact rfl|exact fun _=>trivial|exact fun _ _=>trivial|exact fun _ _ _=>trivial|exact fun _ _ _ _=>trivial|refine And.intro ?_ ?_), namedO (by omega), trivial, trivial, trivial, trivial, trivial, trivial⟩, memA1 (padM n (fwS D 0)) ⟨ObSub.refl _, ObSub.ii (mix_all' hfn.symm), ObSub.ii (mix_all' hfn.symm), ObSub.ii (mix_all' hfn.symm), ObSub.ii (mix_all' hfn.symm), ObSub.ii (mix_all' hfn.symm), trivial⟩ ⟨⟨0 + 1, hx0, rfl, by rw [hdn]⟩, ?_⟩⟩
     simp [V.toInt, sel, Env.get]; omega
   ·((conv=>whnf);repeat (refine Wa ?_;(repeat (first|refine Wb ?_|refine Wc ?_|refine Wd ?_|refine We ?_|refine Wf ?_));(conv=>whnf)))
    refine br_dec (fun hlt2 => ?_) (fun hge2 => ?_)
    ·have hf2 : 2 < n := by have h := hlt2; simp at h; omega
     ((conv=>whnf);repeat (refine Wa ?_;(repeat (first|refine Wb ?_|refine Wc ?_|refine Wd ?_|refine We ?_|refine Wf ?_));(conv=>whnf)))
     refine ⟨zn 2, ?_⟩
     refine ⟨(show ((2 : Nat) : Int) < (n : Int) by omega), ?_⟩
     ((conv=>whnf);repeat (refine Wa ?_;(repeat (first|refine Wb ?_|refine Wc ?_|refine Wd ?_|refine We ?_|refine Wf ?_));(conv=>whnf)))
     refine AW_loopA (X := xD) tab_ok [5, 6, 8, 18, 19, 20, 23, 24, 25, 29, 30, 31] (fun t => Nat.ble t 5) (fun vs M => ∃ y : Nat, y ≤ n ∧ vs = [.sl 0 0 0 n, .int (0 : Nat), .sl (1 + 2) 0 0 n, .sl 0 0 0 n, .int n, .int (0 : Nat), .sl 0 0 0 n, .int n, .int (2 : Nat), .sl (1 + 2) 0 0 n, .int n, .int y] ∧ M = mixM n D 0 2 y)
      (fun vs _ => n - (vs.getD 11 .any).toInt.toNat) (fun t ht => by have : t < 6 := ht; simp; omega) ?_ ?_
     ·exact same0 ⟨0, Nat.zero_le _, rfl, rfl⟩
     rintro vs M ⟨y, hy0, rfl, rfl⟩
     ((conv=>whnf);repeat (refine Wa ?_;(repeat (first|refine Wb ?_|refine Wc ?_|refine Wd ?_|refine We ?_|refine Wf ?_));(conv=>whnf)))
     refine br_dec (fun hlt3 => ?_) (fun hge3 => ?_)
     ·have hy : y < n := by omega
      have b1 := mix_bd (f := 2) (y := y) hW hB hx0 hf2 hy
      have b2 := mix_bd (f := 2) (y := y) hW hB hx0 hf2 hx0
      have b3 : -1000 ≤ (mixR n D 0 2 y 0).getD (0 + y) 0 ∧ (mixR n D 0 2 y 0).getD (0 + y) 0 ≤ 1000 := by rw [Nat.zero_add]; exact mix_bd (f := 2) (y := y) hW hB hx0 hx0 hy
      ((conv=>whnf);repeat (refine Wa ?_;(repeat (first|refine Wb ?_|refine Wc ?_|refine Wd ?_|refine We ?_|refine Wf ?_));(conv=>whnf)))
      refine AW_draw (X := xD) tab_ok mixed (by kernel_rfl) ?_
      conv=>whnf
      refine ⟨zn y, ?_⟩
      refine ⟨(show (y : Int) < (n : Int) by omega), ?_⟩
      conv=>whnf
      refine ⟨zn 0, ?_⟩
      refine ⟨(show ((0 : Nat) : Int) < (n : Int) by omega), ?_⟩
      conv=>whnf
      refine ⟨zn 0, ?_⟩
      refine ⟨(show ((0 : Nat) : Int) < (n : Int) by omega), ?_⟩
      conv=>whnf
      refine ⟨zn y, ?_⟩
      refine ⟨(show (y : Int) < (n : Int) by omega), ?_⟩
      conv=>whnf
      refine ⟨(show InR ((mixR n D 0 2 y 2).getD 0 0 + (mixR n D 0 2 y 0).getD (0 + y) 0) from inr (by omega)), ?_⟩
      conv=>whnf
      refine ⟨zn y, ?_⟩
      refine ⟨(show (y : Int) < (n : Int) by omega), ?_⟩
      ((conv=>whnf);repeat (refine Wa ?_;(repeat (first|refine Wb ?_|refine Wc ?_|refine Wd ?_|refine We ?_|refine Wf ?_));(conv=>whnf)))
      refine ⟨inr (by omega), ?_⟩
      conv=>whnf
      refine ⟨by exact ⟨by repeat (first|exact trivial|exact rfl|exact fun _=>trivial|exact fun _ _=>trivial|exact fun _ _ _=>trivial|exact fun _ _ _ _=>trivial|refine And.intro ?_ ?_), namedO (by omega), trivial, trivial, trivial, trivial, trivial, trivial⟩, memA1 (mixM n D 0 2 (y + 1)) ⟨ObSub.refl _, ObSub.ii (mix_other (by decide)), ObSub.ii (mix_other (by decide)), ObSub.ii (mix_put hB hx0 hf2 hy (Nat.zero_add y)), ObSub.ii (mix_other (by decide)), ObSub.ii (mix_other (by decide)), trivial⟩ ⟨⟨y + 1, hy, rfl, rfl⟩, ?_⟩⟩
      simp [V.toInt, sel, Env.get]; omega
     ·obtain rfl : n = y := by omega
      ((conv=>whnf);repeat (refine Wa ?_;(repeat (first|refine Wb ?_|refine Wc ?_|refine Wd ?_|refine We ?_|refine Wf ?_));(conv=>whnf)))
      refine ⟨inr (by omega), ?_⟩
      conv=>whnf
      refine ⟨by exact ⟨by repeat (first|exact trivial|exact rfl|exact fun _=>trivial|exact fun _ _=>trivial|exact fun _ _ _=>trivial|exact fun _ _ _ _=>trivial|refine And.intro ?_ ?_), namedO (by omega), trivial, trivial, trivial, trivial, trivial, trivial⟩, memA1 (mixM n D 0 (2 + 1) 0) ⟨ObSub.refl _, ObSub.ii mix_end, ObSub.ii mix_end, ObSub.ii mix_end, ObSub.ii mix_end, ObSub.ii mix_end, trivial⟩ ⟨⟨2 + 1, hf2, rfl, rfl⟩, ?_⟩⟩
      simp [V.toInt, sel, Env.get]; omega
    ·((conv=>whnf);repeat (refine Wa ?_;(repeat (first|refine Wb ?_|refine Wc ?_|refine Wd ?_|refine We ?_|refine Wf ?_));(conv=>whnf)))
     refine ⟨inr (by omega), ?_⟩
     conv=>whnf
     have hfn : n = 2 := by have h := hge2; simp at h; omega
     refine ⟨by exact ⟨by repeat (first|exact trivial|exact rfl|exact fun _=>trivial|exact fun _ _=>trivial|exact fun _ _ _=>trivial|exact fun _ _ _ _=>trivial|refine And.intro ?_ ?_), namedO (by omega), trivial, trivial, trivial, trivial, trivial, trivial⟩, memA1 (padM n (fwS D 0)) ⟨ObSub.refl _, ObSub.ii (mix_all' hfn.symm), ObSub.ii (mix_all' hfn.symm), ObSub.ii (mix_all' hfn.symm), ObSub.ii (mix_all' hfn.symm), ObSub.ii (mix_all' hfn.symm), trivial⟩ ⟨⟨0 + 1, hx0, rfl, by rw [hdn]⟩, ?_⟩⟩
     simp [V.toInt, sel, Env.get]; omega
   ·((conv=>whnf);repeat (refine Wa ?_;(repeat (first|refine Wb ?_|refine Wc ?_|refine Wd ?_|refine We ?_|refine Wf ?_));(conv=>whnf)))
    refine br_dec (fun hlt2 => ?_) (fun hge2 => ?_)
    ·have hf3 : 3 < n := by have h := hlt2; simp at h; omega
     ((conv=>whnf);repeat (refine Wa ?_;(repeat (first|refine Wb ?_|refine Wc ?_|refine Wd ?_|refine We ?_|refine Wf ?_));(conv=>whnf)))
     refine ⟨zn 3, ?_⟩
     refine ⟨(show ((3 : Nat) : Int) < (n : Int) by omega), ?_⟩
     ((conv=>whnf);repeat (refine Wa ?_;(repeat (first|refine Wb ?_|refine Wc ?_|refine Wd ?_|refine We ?_|refine Wf ?_));(conv=>whnf)))
     refine AW_loopA (X := xD) tab_ok [5, 6, 8, 18, 19, 20, 23, 24, 25, 29, 30, 31] (fun t => Nat.ble t 5) (fun vs M => ∃ y : Nat, y ≤ n ∧ vs = [.sl 0 0 0 n, .int (0 : Nat), .sl (1 + 3) 0 0 n, .sl 0 0 0 n, .int n, .int (0 : Nat), .sl 0 0 0 n, .int n, .int (3 : Nat), .sl (1 + 3) 0 0 n, .int n, .int y] ∧ M = mixM n D 0 3 y)
      (fun vs _ => n - (vs.getD 11 .any).toInt.toNat) (fun t ht => by have : t < 6 := ht; simp; omega) ?_ ?_
     ·exact same0 ⟨0, Nat.zero_le _, rfl, rfl⟩
     rintro vs M ⟨y, hy0, rfl, rfl⟩
     ((conv=>whnf);repeat (refine Wa ?_;(repeat (first|refine Wb ?_|refine Wc ?_|refine Wd ?_|refine We ?_|refine Wf ?_));(conv=>whnf)))
     refine br_dec (fun hlt3 => ?_) (fun hge3 => ?_)
     ·have hy : y < n := by omega
      have b1 := mix_bd (f := 3) (y := y) hW hB hx0 hf3 hy
      have b2 := mix_bd (f := 3) (y := y) hW hB hx0 hf3 hx0
      have b3 : -1000 ≤ (mixR n D 0 3 y 0).getD (0 + y) 0 ∧ (mixR n D 0 3 y 0).getD (0 + y) 0 ≤ 1000 := by rw [Nat.zero_add]; exact mix_bd (f := 3) (y := y) hW hB hx0 hx0 hy
      ((conv=>whnf);repeat (refine Wa ?_;(repeat (first|refine Wb ?_|refine Wc ?_|refine Wd ?_|refine We ?_|refine Wf ?_));(conv=>whnf)))
      refine AW_draw (X := xD) tab_ok mixed (by kernel_rfl) ?_
      conv=>whnf
      refine ⟨zn y, ?_⟩
      refine ⟨(show (y : Int) < (n : Int) by omega), ?_⟩
      conv=>whnf
      refine ⟨zn 0, ?_⟩
      refine ⟨(show ((0 : Nat) : Int) < (n : Int) by omega), ?_⟩
      conv=>whnf
      refine ⟨zn 0, ?_⟩
      refine ⟨(show ((0 : Nat) : Int) < (n : Int) by omega), ?_⟩
      conv=>whnf
      refine ⟨zn y, ?_⟩
      refine ⟨(show (y : Int) < (n : Int) by omega), ?_⟩
      conv=>whnf
      refine ⟨(show InR ((mixR n D 0 3 y 3).getD 0 0 + (mixR n D 0 3 y 0).getD (0 + y) 0) from inr (by omega)), ?_⟩
      conv=>whnf
      refine ⟨zn y, ?_⟩
      refine ⟨(show (y : Int) < (n : Int) by omega), ?_⟩
      ((conv=>whnf);repeat (refine Wa ?_;(repeat (first|refine Wb ?_|refine Wc ?_|refine Wd ?_|refine We ?_|refine Wf ?_));(conv=>whnf)))
      refine ⟨inr (by omega), ?_⟩
      conv=>whnf
      refine ⟨by exact ⟨by repeat (first|exact trivial|exact rfl|exact fun _=>trivial|exact fun _ _=>trivial|exact fun _ _ _=>trivial|exact fun _ _ _ _=>trivial|refine And.intro ?_ ?_), namedO (by omega), trivial, trivial, trivial, trivial, trivial, trivial⟩, memA1 (mixM n D 0 3 (y + 1)) ⟨ObSub.refl _, ObSub.ii (mix_other (by decide)), ObSub.ii (mix_other (by decide)), ObSub.ii (mix_other (by decide)), ObSub.ii (mix_put hB hx0 hf3 hy (Nat.zero_add y)), ObSub.ii (mix_other (by decide)), trivial⟩ ⟨⟨y + 1, hy, rfl, rfl⟩, ?_⟩⟩
      simp [V.toInt, sel, Env.get]; omega
     ·obtain rfl : n = y := by omega
      ((conv=>whnf);repeat (refine Wa ?_;(repeat (first|refine Wb ?_|refine Wc ?_|refine Wd ?_|refine We ?_|refine Wf ?_));(conv=>whnf)))
      refine ⟨inr (by omega), ?_⟩
      conv=>whnf
      refine ⟨by exact ⟨by repeat (first|exact trivial|exact rfl|exact fun _=>trivial|exact fun _ _=>trivial|exact fun _ _ _=>trivial|exact fun _ _ _ _=>trivial|refine And.intro ?_ ?_), namedO (by omega), trivial, trivial, trivial, trivial, trivial, trivial⟩, memA1 (mixM n D 0 (3 + 1) 0) ⟨ObSub.refl _, ObSub.ii mix_end, ObSub.ii mix_end, ObSub.ii mix_end, ObSub.ii mix_end, ObSub.ii mix_end, trivial⟩ ⟨⟨3 + 1, hf3, rfl, rfl⟩, ?_⟩⟩
      simp [V.toInt, sel, Env.get]; omega
    ·((conv=>whnf);repeat (refine Wa ?_;(repeat (first|refine Wb ?_|refine Wc ?_|refine Wd ?_|refine We ?_|refine Wf ?_));(conv=>whnf)))
     refine ⟨inr (by omega), ?_⟩
     conv=>whnf
     have hfn : n = 3 := by have h := hge2; simp at h; omega
     refine ⟨by exact ⟨by repeat (first|exact trivial|exact rfl|exact fun _=>trivial|exact fun _ _=>trivial|exact fun _ _ _=>trivial|exact fun _ _ _ _=>trivial|refine And.intro ?_ ?_), namedO (by omega), trivial, trivial, trivial, trivial, trivial, trivial⟩, memA1 (padM n (fwS D 0)) ⟨ObSub.refl _, ObSub.ii (mix_all' hfn.symm), ObSub.ii (mix_all' hfn.symm), ObSub.ii (mix_all' hfn.symm), ObSub.ii (mix_all' hfn.symm), ObSub.ii (mix_all' hfn.symm), trivial⟩ ⟨⟨0 + 1, hx0, rfl, by rw [hdn]⟩, ?_⟩⟩
     simp [V.toInt, sel, Env.get]; omega
   ·((conv=>whnf);repeat (refine Wa ?_;(repeat (first|refine Wb ?_|refine Wc ?_|refine Wd ?_|refine We ?_|refine Wf ?_));(conv=>whnf)))
    refine br_dec (fun hlt2 => ?_) (fun hge2 => ?_)
    ·have hf4 : 4 < n := by have h := hlt2; simp at h; omega
     ((conv=>whnf);repeat (refine Wa ?_;(repeat (first|refine Wb ?_|refine Wc ?_|refine Wd ?_|refine We ?_|refine Wf ?_));(conv=>whnf)))
     refine ⟨zn 4, ?_⟩
     refine ⟨(show ((4 : Nat) : Int) < (n : Int) by omega), ?_⟩
     ((conv=>whnf);repeat (refine Wa ?_;(repeat (first|refine Wb ?_|refine Wc ?_|refine Wd ?_|refine We ?_|refine Wf ?_));(conv=>whnf)))
     refine AW_loopA (X := xD) tab_ok [5, 6, 8, 18, 19, 20, 23, 24, 25, 29, 30, 31] (fun t => Nat.ble t 5) (fun vs M => ∃ y : Nat, y ≤ n ∧ vs = [.sl 0 0 0 n, .int (0 : Nat), .sl (1 + 4) 0 0 n, .sl 0 0 0 n, .int n, .int (0 : Nat), .sl 0 0 0 n, .int n, .int (4 : Nat), .sl (1 + 4) 0 0 n, .int n, .int y] ∧ M = mixM n D 0 4 y)
      (fun vs _ => n - (vs.getD 11 .any).toInt.toNat) (fun t ht => by have : t < 6 := ht; simp; omega) ?_ ?_
     ·exact same0 ⟨0, Nat.zero_le _, rfl, rfl⟩
     rintro vs M ⟨y, hy0, rfl, rfl⟩
     ((conv=>whnf);repeat (refine Wa ?_;(repeat (first|refine Wb ?_|refine Wc ?_|refine Wd ?_|refine We ?_|refine Wf ?_));(conv=>whnf)))
     refine br_dec (fun hlt3 => ?_) (fun hge3 => ?_)
     ·have hy : y < n := by omega
      have b1 := mix_bd (f := 4) (y := y) hW hB hx0 hf4 hy
      have b2 := mix_bd (f := 4) (y := y) hW hB hx0 hf4 hx0
      have b3 : -1000 ≤ (mixR n D 0 4 y 0).getD (0 + y) 0 ∧ (mixR n D 0 4 y 0).getD (0 + y) 0 ≤ 1000 := by rw [Nat.zero_add]; exact mix_bd (f := 4) (y := y) hW hB hx0 hx0 hy
      ((conv=>whnf);repeat (refine Wa ?_;(repeat (first|refine Wb ?_|refine Wc ?_|refine Wd ?_|refine We ?_|refine Wf ?_));(conv=>whnf)))
      refine AW_draw (X := xD) tab_ok mixed (by kernel_rfl) ?_
      conv=>whnf
      refine ⟨zn y, ?_⟩
      refine ⟨(show (y : Int) < (n : Int) by omega), ?_⟩
      conv=>whnf
      refine ⟨zn 0, ?_⟩
      refine ⟨(show ((0 : Nat) : Int) < (n : Int) by omega), ?_⟩
      conv=>whnf
      refine ⟨zn 0, ?_⟩
      refine ⟨(show ((0 : Nat) : Int) < (n : Int) by omega), ?_⟩
      conv=>whnf
      refine ⟨zn y, ?_⟩
      refine ⟨(show (y : Int) < (n : Int) by omega), ?_⟩
      conv=>whnf
      refine ⟨(show InR ((mixR n D 0 4 y 4).getD 0 0 + (mixR n D 0 4 y 0).getD (0 + y) 0) from inr (by omega)), ?_⟩
      conv=>whnf
      refine ⟨zn y, ?_⟩
      refine ⟨(show (y : Int) < (n : Int) by omega), ?_⟩
      ((conv=>whnf);repeat (refine Wa ?_;(repeat (first|refine Wb ?_|refine Wc ?_|refine Wd ?_|refine We ?_|refine Wf ?_));(conv=>whnf)))
      refine ⟨inr (by omega), ?_⟩
      conv=>whnf
      refine ⟨by exact ⟨by repeat (first|exact trivial|exact rfl|exact fun _=>trivial|exact fun _ _=>trivial|exact fun _ _ _=>trivial|exact fun _ _ _ _=>trivial|refine And.intro ?_ ?_), namedO (by omega), trivial, trivial, trivial, trivial, trivial, trivial⟩, memA1 (mixM n D 0 4 (y + 1)) ⟨ObSub.refl _, ObSub.ii (mix_other (by decide)), ObSub.ii (mix_other (by decide)), ObSub.ii (mix_other (by decide)), ObSub.ii (mix_other (by decide)), ObSub.ii (mix_put hB hx0 hf4 hy (Nat.zero_add y)), trivial⟩ ⟨⟨y + 1, hy, rfl, rfl⟩, ?_⟩⟩
      simp [V.toInt, sel, Env.get]; omega
     ·obtain rfl : n = y := by omega
      ((conv=>whnf);repeat (refine Wa ?_;(repeat (first|refine Wb ?_|refine Wc ?_|refine Wd ?_|refine We ?_|refine Wf ?_));(conv=>whnf)))
      refine ⟨inr (by omega), ?_⟩
      conv=>whnf
      refine ⟨by exact ⟨by repeat (first|exact trivial|exact rfl|exact fun _=>trivial|exact fun _ _=>trivial|exact fun _ _ _=>trivial|exact fun _ _ _ _=>trivial|refine And.intro ?_ ?_), namedO (by omega), trivial, trivial, trivial, trivial, trivial, trivial⟩, memA1 (mixM n D 0 (4 + 1) 0) ⟨ObSub.refl _, ObSub.ii mix_end, ObSub.ii mix_end, ObSub.ii mix_end, ObSub.ii mix_end, ObSub.ii mix_end, trivial⟩ ⟨⟨4 + 1, hf4, rfl, rfl⟩, ?_⟩⟩
      simp [V.toInt, sel, Env.get]; omega
    ·((conv=>whnf);repeat (refine Wa ?_;(repeat (first|refine Wb ?_|refine Wc ?_|refine Wd ?_|refine We ?_|refine Wf ?_));(conv=>whnf)))
     refine ⟨inr (by omega), ?_⟩
     conv=>whnf
     have hfn : n = 4 := by have h := hge2; simp at h; omega
     refine ⟨by exact ⟨by repeat (first|exact trivial|exact rfl|exact fun _=>trivial|exact fun _ _=>trivial|exact fun _ _ _=>trivial|exact fun _ _ _ _=>trivial|refine And.intro ?_ ?_), namedO (by omega), trivial, trivial, trivial, trivial, trivial, trivial⟩, memA1 (padM n (fwS D 0)) ⟨ObSub.refl _, ObSub.ii (mix_all' hfn.symm), ObSub.ii (mix_all' hfn.symm), ObSub.ii (mix_all' hfn.symm), ObSub.ii (mix_all' hfn.symm), ObSub.ii (mix_all' hfn.symm), trivial⟩ ⟨⟨0 + 1, hx0, rfl, by rw [hdn]⟩, ?_⟩⟩
     simp [V.toInt, sel, Env.get]; omega
   ·have hfn : n = 5 := by omega
    ((conv=>whnf);repeat (refine Wa ?_;(repeat (first|refine Wb ?_|refine Wc ?_|refine Wd ?_|refine We ?_|refine Wf ?_));(conv=>whnf)))
    refine br_dec (fun hlt2 => ?_) (fun hge2 => ?_)
    ·exact absurd hlt2 (by simp; omega)
    ·((conv=>whnf);repeat (refine Wa ?_;(repeat (first|refine Wb ?_|refine Wc ?_|refine Wd ?_|refine We ?_|refine Wf ?_));(conv=>whnf)))
     refine ⟨inr (by omega), ?_⟩
     conv=>whnf
     refine ⟨by exact ⟨by repeat (first|exact trivial|exact rfl|exact fun _=>trivial|exact fun _ _=>trivial|exact fun _ _ _=>trivial|exact fun _ _ _ _=>trivial|refine And.intro ?_ ?_), namedO (by omega), trivial, trivial, trivial, trivial, trivial, trivial⟩, memA1 (padM n (fwS D 0)) ⟨ObSub.refl _, ObSub.ii (mix_all' hfn.symm), ObSub.ii (mix_all' hfn.symm), ObSub.ii (mix_all' hfn.symm), ObSub.ii (mix_all' hfn.symm), ObSub.ii (mix_all' hfn.symm), trivial⟩ ⟨⟨0 + 1, hx0, rfl, by rw [hdn]⟩, ?_⟩⟩
     simp [V.toInt, sel, Env.get]; omega
  ·((conv=>whnf);repeat (refine Wa ?_;(repeat (first|refine Wb ?_|refine Wc ?_|refine Wd ?_|refine We ?_|refine Wf ?_));(conv=>whnf)))
   have hxn : n = 0 := by have h := hge; simp at h; omega
   exact ⟨_, rfl, rfl, congrArg (padM n) (show dsM n W 0 = drr n W by unfold drr; rw [hxn])⟩
 ·have hdn : dsM n W (1 + 1) = fwS (dsM n W 1) 1 := rfl
  have hB := (dsM_is (n := n) (W := W) 1 hx).1
  ((conv=>whnf);repeat (refine Wa ?_;(repeat (first|refine Wb ?_|refine Wc ?_|refine Wd ?_|refine We ?_|refine Wf ?_));(conv=>whnf)))
  refine br_dec (fun hlt => ?_) (fun hge => ?_)
  ·have hx1 : 1 < n := by have h := hlt; simp at h; omega
   generalize dsM n W 1 = D at *
   ((conv=>whnf);repeat (refine Wa ?_;(repeat (first|refine Wb ?_|refine Wc ?_|refine Wd ?_|refine We ?_|refine Wf ?_));(conv=>whnf)))
   refine AW_loopA (X := xD) tab_ok [5, 6, 18, 19, 20, 23, 24, 25] (fun t => Nat.ble t 5) (fun vs M => ∃ f : Nat, f ≤ n ∧ vs = [.sl 0 0 0 n, .int (1 : Nat), .sl 0 0 0 n, .int n, .int (1 : Nat), .sl 0 0 0 n, .int n, .int f] ∧ M = mixM n D 1 f 0)
    (fun vs _ => n - (vs.getD 7 .any).toInt.toNat) (fun t ht => by have : t < 6 := ht; simp; omega) ?_ ?_
   ·exact memA0 (mixM n D 1 0 0) ⟨ObSub.refl _, ObSub.ii mix_zero, ObSub.ii mix_zero, ObSub.ii mix_zero, ObSub.ii mix_zero, ObSub.ii mix_zero, trivial⟩ ⟨0, Nat.zero_le _, rfl, rfl⟩
   rintro vs M ⟨f, hf, rfl, rfl⟩
   rcases (by omega : f = 0 ∨ f = 1 ∨ f = 2 ∨ f = 3 ∨ f = 4 ∨ f = 5) with rfl | rfl | rfl | rfl | rfl | rfl
   ·((conv=>whnf);repeat (refine Wa ?_;(repeat (first|refine Wb ?_|refine Wc ?_|refine Wd ?_|refine We ?_|refine Wf ?_));(conv=>whnf)))
    refine br_dec (fun hlt2 => ?_) (fun hge2 => ?_)
    ·have hf0 : 0 < n := by have h := hlt2; simp at h; omega
     ((conv=>whnf);repeat (refine Wa ?_;(repeat (first|refine Wb ?_|refine Wc ?_|refine Wd ?_|refine We ?_|refine Wf ?_));(conv=>whnf)))
     refine ⟨zn 0, ?_⟩
     refine ⟨(show ((0 : Nat) : Int) < (n : Int) by omega), ?_⟩
     ((conv=>whnf);repeat (refine Wa ?_;(repeat (first|refine Wb ?_|refine Wc ?_|refine Wd ?_|refine We ?_|refine Wf ?_));(conv=>whnf)))
     refine AW_loopA (X := xD) tab_ok [5, 6, 8, 18, 19, 20, 23, 24, 25, 29, 30, 31] (fun t => Nat.ble t 5) (fun vs M => ∃ y : Nat, y ≤ n ∧ vs = [.sl 0 0 0 n, .int (1 : Nat), .sl (1 + 0) 0 0 n, .sl 0 0 0 n, .int n, .int (1 : Nat), .sl 0 0 0 n, .int n, .int (0 : Nat), .sl (1 + 0) 0 0 n, .int n, .int y] ∧ M = mixM n D 1 0 y)
      (fun vs _ => n - (vs.getD 11 .any).toInt.toNat) (fun t ht => by have : t < 6 := ht; simp; omega) ?_ ?_
     ·exact same0 ⟨0, Nat.zero_le _, rfl, rfl⟩
     rintro vs M ⟨y, hy0, rfl, rfl⟩
     ((conv=>whnf);repeat (refine Wa ?_;(repeat (first|refine Wb ?_|refine Wc ?_|refine Wd ?_|refine We ?_|refine Wf ?_));(conv=>whnf)))
     refine br_dec (fun hlt3 => ?_) (fun hge3 => ?_)
     ·have hy : y < n := by omega
      have b1 := mix_bd (f := 0) (y := y) hW hB hx1 hf0 hy
      have b2 := mix_bd (f := 0) (y := y) hW hB hx1 hf0 hx1
      have b3 : -1000 ≤ (mixR n D 1 0 y 1).getD (0 + y) 0 ∧ (mixR n D 1 0 y 1).getD (0 + y) 0 ≤ 1000 := by rw [Nat.zero_add]; exact mix_bd (f := 0) (y := y) hW hB hx1 hx1 hy
      ((conv=>whnf);repeat (refine Wa ?_;(repeat (first|refine Wb ?_|refine Wc ?_|refine Wd ?_|refine We ?_|refine Wf ?_));(conv=>whnf)))
      refine AW_draw (X := xD) tab_ok mixed (by kernel_rfl) ?_
      conv=>whnf
      refine ⟨zn y, ?_⟩
      refine ⟨(show (y : Int) < (n : Int) by omega), ?_⟩
      conv=>whnf
      refine ⟨zn 1, ?_⟩
      refine ⟨(show ((1 : Nat) : Int) < (n : Int) by omega), ?_⟩
      conv=>whnf
      refine ⟨zn 1, ?_⟩
      refine ⟨(show ((1 : Nat) : Int) < (n : Int) by omega), ?_⟩
      conv=>whnf
      refine ⟨zn y, ?_⟩
      refine ⟨(show (y : Int) < (n : Int) by omega), ?_⟩
      conv=>whnf
      refine ⟨(show InR ((mixR n D 1 0 y 0).getD 1 0 + (mixR n D 1 0 y 1).getD (0 + y) 0) from inr (by omega)), ?_⟩
      conv=>whnf
      refine ⟨zn y, ?_⟩
      refine ⟨(show (y : Int) < (n : Int) by omega), ?_⟩
      ((conv=>whnf);repeat (refine Wa ?_;(repeat (first|refine Wb ?_|refine Wc ?_|refine Wd ?_|refine We ?_|refine Wf ?_));(conv=>whnf)))
      refine ⟨inr (by omega), ?_⟩
      conv=>whnf
      refine ⟨by exact ⟨by repeat (first|exact trivial|exact rfl|exact fun _=>trivial|exact fun _ _=>trivial|exact fun _ _ _=>trivial|exact fun _ _ _ _=>trivial|refine And.intro ?_ ?_), namedO (by omega), trivial, trivial, trivial, trivial, trivial, trivial⟩, memA1 (mixM n D 1 0 (y + 1)) ⟨ObSub.refl _, ObSub.ii (mix_put hB hx1 hf0 hy (Nat.zero_add y)), ObSub.ii (mix_other (by decide)), ObSub.ii (mix_other (by decide)), ObSub.ii (mix_other (by decide)), ObSub.ii (mix_other (by decide)), trivial⟩ ⟨⟨y + 1, hy, rfl, rfl⟩, ?_⟩⟩
      simp [V.toInt, sel, Env.get]; omega
     ·obtain rfl : n = y := by omega
      ((conv=>whnf);repeat (refine Wa ?_;(repeat (first|refine Wb ?_|refine Wc ?_|refine Wd ?_|refine We ?_|refine Wf ?_));(conv=>whnf)))
      refine ⟨inr (by omega), ?_⟩
      conv=>whnf
      refine ⟨by exact ⟨by repeat (first|exact trivial|exact rfl|exact fun _=>trivial|exact fun _ _=>trivial|exact fun _ _ _=>trivial|exact fun _ _ _ _=>trivial|refine And.intro ?_ ?_), namedO (by omega), trivial, trivial, trivial, trivial, trivial, trivial⟩, memA1 (mixM n D 1 (0 + 1) 0) ⟨ObSub.refl _, ObSub.ii mix_end, ObSub.ii mix_end, ObSub.ii mix_end, ObSub.ii mix_end, ObSub.ii mix_end, trivial⟩ ⟨⟨0 + 1, hf0, rfl, rfl⟩, ?_⟩⟩
      simp [V.toInt, sel, Env.get]; omega
    ·((conv=>whnf);repeat (refine Wa ?_;(repeat (first|refine Wb ?_|refine Wc ?_|refine Wd ?_|refine We ?_|refine Wf ?_));(conv=>whnf)))
     refine ⟨inr (by omega), ?_⟩
     conv=>whnf
     have hfn : n = 0 := by have h := hge2; simp at h; omega
     refine ⟨by exact ⟨by repeat (first|exact trivial|exact rfl|exact fun _=>trivial|exact fun _ _=>trivial|exact fun _ _ _=>trivial|exact fun _ _ _ _=>trivial|refine And.intro ?_ ?_), namedO (by omega), trivial, trivial, trivial, trivial, trivial, trivial⟩, memA1 (padM n (fwS D 1)) ⟨ObSub.refl _, ObSub.ii (mix_all' hfn.symm), ObSub.ii (mix_all' hfn.symm), ObSub.ii (mix_all' hfn.symm), ObSub.ii (mix_all' hfn.symm), ObSub.ii (mix_all' hfn.symm), trivial⟩ ⟨⟨1 + 1, hx1, rfl, by rw [hdn]⟩, ?_⟩⟩
     simp [V.toInt, sel, Env.get]; omega
   ·((conv=>whnf);repeat (refine Wa ?_;(repeat (first|refine Wb ?_|refine Wc ?_|refine Wd ?_|refine We ?_|refine Wf ?_));(conv=>whnf)))
    refine br_dec (fun hlt2 => ?_) (fun hge2 => ?_)
    ·have hf1 : 1 < n := by have h := hlt2; simp at h; omega
     ((conv=>whnf);repeat (refine Wa ?_;(repeat (first|refine Wb ?_|refine Wc ?_|refine Wd ?_|refine We ?_|refine Wf ?_));(conv=>whnf)))
     refine ⟨zn 1, ?_⟩
     refine ⟨(show ((1 : Nat) : Int) < (n : Int) by omega), ?_⟩
     ((conv=>whnf);repeat (refine Wa ?_;(repeat (first|refine Wb ?_|refine Wc ?_|refine Wd ?_|refine We ?_|refine Wf ?_));(conv=>whnf)))
     refine AW_loopA (X := xD) tab_ok [5, 6, 8, 18, 19, 20, 23, 24, 25, 29, 30, 31] (fun t => Nat.ble t 5) (fun vs M => ∃ y : Nat, y ≤ n ∧ vs = [.sl 0 0 0 n, .int (1 : Nat), .sl (1 + 1) 0 0 n, .sl 0 0 0 n, .int n, .int (1 : Nat), .sl 0 0 0 n, .int n, .int (1 : Nat), .sl (1 + 1) 0 0 n, .int n, .int y] ∧ M = mixM n D 1 1 y)
      (fun vs _ => n - (vs.getD 11 .any).toInt.toNat) (fun t ht => by have : t < 6 := ht; simp; omega) ?_ ?_
     ·exact same0 ⟨0, Nat.zero_le _, rfl, rfl⟩
     rintro vs M ⟨y, hy0, rfl, rfl⟩
     ((conv=>whnf);repeat (refine Wa ?_;(repeat (first|refine Wb ?_|refine Wc ?_|refine Wd ?_|refine We ?_|refine Wf ?_));(conv=>whnf)))
     refine br_dec (fun hlt3 => ?_) (fun hge3 => ?_)
     ·have hy : y < n := by omega
      have b1 := mix_bd (f := 1) (y := y) hW hB hx1 hf1 hy
      have b2 := mix_bd (f := 1) (y := y) hW hB hx1 hf1 hx1
      have b3 : -1000 ≤ (mixR n D 1 1 y 1).getD (0 + y) 0 ∧ (mixR n D 1 1 y 1).getD (0 + y) 0 ≤ 1000 := by rw [Nat.zero_add]; exact mix_bd (f := 1) (y := y) hW hB hx1 hx1 hy
      ((conv=>whnf);repeat (refine Wa ?_;(repeat (first|refine Wb ?_|refine Wc ?_|refine Wd ?_|refine We ?_|refine Wf ?_));(conv=>whnf)))
      refine AW_draw (X := xD) tab_ok mixed (by kernel_rfl) ?_
      conv=>whnf
      refine ⟨zn y, ?_⟩
      refine ⟨(show (y : Int) < (n : Int) by omega), ?_⟩
      conv=>whnf
      refine ⟨zn 1, ?_⟩
      refine ⟨(show ((1 : Nat) : Int) < (n : Int) by omega), ?_⟩
      conv=>whnf
      refine ⟨zn 1, ?_⟩
      refine ⟨(show ((1 : Nat) : Int) < (n : Int) by omega), ?_⟩
      conv=>whnf
      refine ⟨zn y, ?_⟩
      refine ⟨(show (y : Int) < (n : Int) by omega), ?_⟩
      conv=>whnf
      refine ⟨(show InR ((mixR n D 1 1 y 1).getD 1 0 + (mixR n D 1 1 y 1).getD (0 + y) 0) from inr (by omega)), ?_⟩
      conv=>whnf
      refine ⟨zn y, ?_⟩
      refine ⟨(show (y : Int) < (n : Int) by omega), ?_⟩
      ((conv=>whnf);repeat (refine Wa ?_;(repeat (first|refine Wb ?_|refine Wc ?_|refine Wd ?_|refine We ?_|refine Wf ?_));(conv=>whnf)))
      refine ⟨inr (by omega), ?_⟩
      conv=>whnf
      refine ⟨by exact ⟨by repeat (first|exact trivial|exact rfl|exact fun _=>trivial|exact fun _ _=>trivial|exact fun _ _ _=>trivial|exact fun _ _ _ _=>trivial|refine And.intro ?_ ?_), namedO (by omega), trivial, trivial, trivial, trivial, trivial, trivial⟩, memA1 (mixM n D 1 1 (y + 1)) ⟨ObSub.refl _, ObSub.ii (mix_other (by decide)), ObSub.ii (mix_put hB hx1 hf1 hy (Nat.zero_add y)), ObSub.ii (mix_other (by decide)), ObSub.ii (mix_other (by decide)), ObSub.ii (mix_other (by decide)), trivial⟩ ⟨⟨y + 1, hy, rfl, rfl⟩, ?_⟩⟩
      simp [V.toInt, sel, Env.get]; omega
     ·obtain rfl : n = y := by omega
      ((conv=>whnf);repeat (refine Wa ?_;(repeat (first|refine Wb ?_|refine Wc ?_|refine Wd ?_|refine We ?_|refine Wf ?_));(conv=>whnf)))
      refine ⟨inr (by omega), ?_⟩
      conv=>whnf
      refine ⟨by exact ⟨by repeat (first|exact trivial|exact rfl|exact fun _=>trivial|exact fun _ _=>trivial|exact fun _ _ _=>trivial|exact fun _ _ _ _=>trivial|refine And.intro ?_ ?_), namedO (by omega), trivial, trivial, trivial, trivial, trivial, trivial⟩, memA1 (mixM n D 1 (1 + 1) 0) ⟨ObSub.refl _, ObSub.ii mix_end, ObSub.ii mix_end, ObSub.ii mix_end, ObSub.ii mix_end, ObSub.ii mix_end, trivial⟩ ⟨⟨1 + 1, hf1, rfl, rfl⟩, ?_⟩⟩
      simp [V.toInt, sel, Env.get]; omega
    ·((conv=>whnf);repeat (refine Wa ?_;(repeat (first|refine Wb ?_|refine Wc ?_|refine Wd ?_|refine We ?_|refine Wf ?_));(conv=>whnf)))
     refine ⟨inr (by omega), ?_⟩
     conv=>whnf
     have hfn : n = 1 := by have h := hge2; simp at h; omega
     refine ⟨by exact ⟨by repeat (first|exact trivial|exact rfl|exact fun _=>trivial|exact fun _ _=>trivial|exact fun _ _ _=>trivial|exact fun _ _ _ _=>trivial|refine And.intro ?_ ?_), namedO (by omega), trivial, trivial, trivial, trivial, trivial, trivial⟩, memA1 (padM n (fwS D 1)) ⟨ObSub.refl _, ObSub.ii (mix_all' hfn.symm), ObSub.ii (mix_all' hfn.symm), ObSub.ii (mix_all' hfn.symm), ObSub.ii (mix_all' hfn.symm), ObSub.ii (mix_all' hfn.symm), trivial⟩ ⟨⟨1 + 1, hx1, rfl, by rw [hdn]⟩, ?_⟩⟩
     simp [V.toInt, sel, Env.get]; omega
   ·((conv=>whnf);repeat (refine Wa ?_;(repeat (first|refine Wb ?_|refine Wc ?_|refine Wd ?_|refine We ?_|refine Wf ?_));(conv=>whnf)))
    refine br_dec (fun hlt2 => ?_) (fun hge2 => ?_)
    ·have hf2 : 2 < n := by have h := hlt2; simp at h; omega
     ((conv=>whnf);repeat (refine Wa ?_;(repeat (first|refine Wb ?_|refine Wc ?_|refine Wd ?_|refine We ?_|refine Wf ?_));(conv=>whnf)))
     refine ⟨zn 2, ?_⟩
     refine ⟨(show ((2 : Nat) : Int) < (n : Int) by omega), ?_⟩
     ((conv=>whnf);repeat (refine Wa ?_;(repeat (first|refine Wb ?_|refine Wc ?_|refine Wd ?_|refine We ?_|refine Wf ?_));(conv=>whnf)))
     refine AW_loopA (X := xD) tab_ok [5, 6, 8, 18, 19, 20, 23, 24, 25, 29, 30, 31] (fun t => Nat.ble t 5) (fun vs M => ∃ y : Nat, y ≤ n ∧ vs = [.sl 0 0 0 n, .int (1 : Nat), .sl (1 + 2) 0 0 n, .sl 0 0 0 n, .int n, .int (1 : Nat), .sl 0 0 0 n, .int n, .int (2 : Nat), .sl (1 + 2) 0 0 n, .int n, .int y] ∧ M = mixM n D 1 2 y)
      (fun vs _ => n - (vs.getD 11 .any).toInt.toNat) (fun t ht => by have : t < 6 := ht; simp; omega) ?_ ?_
     ·exact same0 ⟨0, Nat.zero_le _, rfl, rfl⟩
     rintro vs M ⟨y, hy0, rfl, rfl⟩
     ((conv=>whnf);repeat (refine Wa ?_;(repeat (first|refine Wb ?_|refine Wc ?_|refine Wd ?_|refine We ?_|refine Wf ?_));(conv=>whnf)))
     refine br_dec (fun hlt3 => ?_) (fun hge3 => ?_)
     ·have hy : y < n := by omega
      have b1 := mix_bd (f := 2) (y := y) hW hB hx1 hf2 hy
      have b2 := mix_bd (f := 2) (y := y) hW hB hx1 hf2 hx1
      have b3 : -1000 ≤ (mixR n D 1 2 y 1).getD (0 + y) 0 ∧ (mixR n D 1 2 y 1).getD (0 + y) 0 ≤ 1000 := by rw [Nat.zero_add]; exact mix_bd (f := 2) (y := y) hW hB hx1 hx1 hy
      ((conv=>whnf);repeat (refine Wa ?_;(repeat (first|refine Wb ?_|refine Wc ?_|refine Wd ?_|refine We ?_|refine Wf ?_));(conv=>whnf)))
      refine AW_draw (X := xD) tab_ok mixed (by kernel_rfl) ?_
      conv=>whnf
      refine ⟨zn y, ?_⟩
      refine ⟨(show (y : Int) < (n : Int) by omega), ?_⟩
      conv=>whnf
      refine ⟨zn 1, ?_⟩
      refine ⟨(show ((1 : Nat) : Int) < (n : Int) by omega), ?_⟩
      conv=>whnf
      refine ⟨zn 1, ?_⟩
      refine ⟨(show ((1 : Nat) : Int) < (n : Int) by omega), ?_⟩
      conv=>whnf
      refine ⟨zn y, ?_⟩
      refine ⟨(show (y : Int) < (n : Int) by omega), ?_⟩
      conv=>whnf
      refine ⟨(show InR ((mixR n D 1 2 y 2).getD 1 0 + (mixR n D 1 2 y 1).getD (0 + y) 0) from inr (by omega)), ?_⟩
      conv=>whnf
      refine ⟨zn y, ?_⟩
      refine ⟨(show (y : Int) < (n : Int) by omega), ?_⟩
      ((conv=>whnf);repeat (refine Wa ?_;(repeat (first|refine Wb ?_|refine Wc ?_|refine Wd ?_|refine We ?_|refine Wf ?_));(conv=>whnf)))
      refine ⟨inr (by omega), ?_⟩
      conv=>whnf
      refine ⟨by exact ⟨by repeat (first|exact trivial|exact rfl|exact fun _=>trivial|exact fun _ _=>trivial|exact fun _ _ _=>trivial|exact fun _ _ _ _=>trivial|refine And.intro ?_ ?_), namedO (by omega), trivial, trivial, trivial, trivial, trivial, trivial⟩, memA1 (mixM n D 1 2 (y + 1)) ⟨ObSub.refl _, ObSub.ii (mix_other (by decide)), ObSub.ii (mix_other (by decide)), ObSub.ii (mix_put hB hx1 hf2 hy (Nat.zero_add y)), ObSub.ii (mix_other (by decide)), ObSub.ii (mix_other (by decide)), trivial⟩ ⟨⟨y + 1, hy, rfl, rfl⟩, ?_⟩⟩
      simp [V.toInt, sel, Env.get]; omega
     ·obtain rfl : n = y := by omega
      ((conv=>whnf);repeat (refine Wa ?_;(repeat (first|refine Wb ?_|refine Wc ?_|refine Wd ?_|refine We ?_|refine Wf ?_));(conv=>whnf)))
      refine ⟨inr (by omega), ?_⟩
      conv=>whnf
      refine ⟨by exact ⟨by repeat (first|exact trivial|exact rfl|exact fun _=>trivial|exact fun _ _=>trivial|exact fun _ _ _=>trivial|exact fun _ _ _ _=>trivial|refine And.intro ?_ ?_), namedO (by omega), trivial, trivial, trivial, trivial, trivial, trivial⟩, memA1 (mixM n D 1 (2 + 1) 0) ⟨ObSub.refl _, ObSub.ii mix_end, ObSub.ii mix_end, ObSub.ii mix_end, ObSub.ii mix_end, ObSub.ii mix_end, trivial⟩ ⟨⟨2 + 1, hf2, rfl, rfl⟩, ?_⟩⟩
      simp [V.toInt, sel, Env.get]; omega
    ·((conv=>whnf);repeat (refine Wa ?_;(repeat (first|refine Wb ?_|refine Wc ?_|refine Wd ?_|refine We ?_|refine Wf ?_));(conv=>whnf)))
     refine ⟨inr (by omega), ?_⟩
     conv=>whnf
     have hfn : n = 2 := by have h := hge2; simp at h; omega
     refine ⟨by exact ⟨by repeat (first|exact trivial|exact rfl|exact fun _=>trivial|exact fun _ _=>trivial|exact fun _ _ _=>trivial|exact fun _ _ _ _=>trivial|refine And.intro ?_ ?_), namedO (by omega), trivial, trivial, trivial, trivial, trivial, trivial⟩, memA1 (padM n (fwS D 1)) ⟨ObSub.refl _, ObSub.ii (mix_all' hfn.symm), ObSub.ii (mix_all' hfn.symm), ObSub.ii (mix_all' hfn.symm), ObSub.ii (mix_all' hfn.symm), ObSub.ii (mix_all' hfn.symm), trivial⟩ ⟨⟨1 + 1, hx1, rfl, by rw [hdn]⟩, ?_⟩⟩
     simp [V.toInt, sel, Env.get]; omega
   ·((conv=>whnf);repeat (refine Wa ?_;(repeat (first|refine Wb ?_|refine Wc ?_|refine Wd ?_|refine We ?_|refine Wf ?_));(conv=>whnf)))
    refine br_dec (fun hlt2 => ?_) (fun hge2 => ?_)
    ·have hf3 : 3 < n := by have h := hlt2; simp at h; omega
     ((conv=>whnf);repeat (refine Wa ?_;(repeat (first|refine Wb ?_|refine Wc ?_|refine Wd ?_|refine We ?_|refine Wf ?_));(conv=>whnf)))
     refine ⟨zn 3, ?_⟩
     refine ⟨(show ((3 : Nat) : Int) < (n : Int) by omega), ?_⟩
     ((conv=>whnf);repeat (refine Wa ?_;(repeat (first|refine Wb ?_|refine Wc ?_|refine Wd ?_|refine We ?_|refine Wf ?_));(conv=>whnf)))
     refine AW_loopA (X := xD) tab_ok [5, 6, 8, 18, 19, 20, 23, 24, 25, 29, 30, 31] (fun t => Nat.ble t 5) (fun vs M => ∃ y : Nat, y ≤ n ∧ vs = [.sl 0 0 0 n, .int (1 : Nat), .sl (1 + 3) 0 0 n, .sl 0 0 0 n, .int n, .int (1 : Nat), .sl 0 0 0 n, .int n, .int (3 : Nat), .sl (1 + 3) 0 0 n, .int n, .int y] ∧ M = mixM n D 1 3 y)
      (fun vs _ => n - (vs.getD 11 .any).toInt.toNat) (fun t ht => by have : t < 6 := ht; simp; omega) ?_ ?_
     ·exact same0 ⟨0, Nat.zero_le _, rfl, rfl⟩
     rintro vs M ⟨y, hy0, rfl, rfl⟩
     ((conv=>whnf);repeat (refine Wa ?_;(repeat (first|refine Wb ?_|refine Wc ?_|refine Wd ?_|refine We ?_|refine Wf ?_));(conv=>whnf)))
     refine br_dec (fun hlt3 => ?_) (fun hge3 => ?_)
     ·have hy : y < n := by omega
      have b1 := mix_bd (f := 3) (y := y) hW hB hx1 hf3 hy
      have b2 := mix_bd (f := 3) (y := y) hW hB hx1 hf3 hx1
      have b3 : -1000 ≤ (mixR n D 1 3 y 1).getD (0 + y) 0 ∧ (mixR n D 1 3 y 1).getD (0 + y) 0 ≤ 1000 := by rw [Nat.zero_add]; exact mix_bd (f := 3) (y := y) hW hB hx1 hx1 hy
      ((conv=>whnf);repeat (refine Wa ?_;(repeat (first|refine Wb ?_|refine Wc ?_|refine Wd ?_|refine We ?_|refine Wf ?_));(conv=>whnf)))
      refine AW_draw (X := xD) tab_ok mixed (by kernel_rfl) ?_
      conv=>whnf
      refine ⟨zn y, ?_⟩
      refine ⟨(show (y : Int) < (n : Int) by omega), ?_⟩
      conv=>whnf
      refine ⟨zn 1, ?_⟩
      refine ⟨(show ((1 : Nat) : Int) < (n : Int) by omega), ?_⟩
      conv=>whnf
      refine ⟨zn 1, ?_⟩
      refine ⟨(show ((1 : Nat) : Int) < (n : Int) by omega), ?_⟩
      conv=>whnf
      refine ⟨zn y, ?_⟩
      refine ⟨(show (y : Int) < (n : Int) by omega), ?_⟩
      conv=>whnf
      refine ⟨(show InR ((mixR n D 1 3 y 3).getD 1 0 + (mixR n D 1 3 y 1).getD (0 + y) 0) from inr (by omega)), ?_⟩
      conv=>whnf
      refine ⟨zn y, ?_⟩
      refine ⟨(show (y : Int) < (n : Int) by omega), ?_⟩
      ((conv=>whnf);repeat (refine Wa ?_;(repeat (first|refine Wb ?_|refine Wc ?_|refine Wd ?_|refine We ?_|refine Wf ?_));(conv=>whnf)))
      refine ⟨inr (by omega), ?_⟩
      conv=>whnf
      refine ⟨by exact ⟨by repeat (first|exact trivial|exact rfl|exact fun _=>trivial|exact fun _ _=>trivial|exact fun _ _ _=>trivial|exact fun _ _ _ _=>trivial|refine And.intro ?_ ?_), namedO (by omega), trivial, trivial, trivial, trivial, trivial, trivial⟩, memA1 (mixM n D 1 3 (y + 1)) ⟨ObSub.refl _, ObSub.ii (mix_other (by decide)), ObSub.ii (mix_other (by decide)), ObSub.ii (mix_other (by decide)), ObSub.ii (mix_put hB hx1 hf3 hy (Nat.zero_add y)), ObSub.ii (mix_other (by decide)), trivial⟩ ⟨⟨y + 1, hy, rfl, rfl⟩, ?_⟩⟩
      simp [V.toInt, sel, Env.get]; omega
     ·obtain rfl : n = y := by omega
      ((conv=>whnf);repeat (refine Wa ?_;(repeat (first|refine Wb ?_|refine Wc ?_|refine Wd ?_|refine We ?_|refine Wf ?_));(conv=>whnf)))
      refine ⟨inr (by omega), ?_⟩
      conv=>whnf
      refine ⟨by exact ⟨by repeat (first|exact trivial|exact rfl|exact fun _=>trivial|exact fun _ _=>trivial|exact fun _ _ _=>trivial|exact fun _ _ _ _=>trivial|refine And.intro ?_ ?_), namedO (by omega), trivial, trivial, trivial, trivial, trivial, trivial⟩, memA1 (mixM n D 1 (3 + 1) 0) ⟨ObSub.refl _, ObSub.ii mix_end, ObSub.ii mix_end, ObSub.ii mix_end, ObSub.ii mix_end, ObSub.ii mix_end, trivial⟩ ⟨⟨3 + 1, hf3, rfl, rfl⟩, ?_⟩⟩
      simp [V.toInt, sel, Env.get]; omega
    ·((conv=>whnf);repeat (refine Wa ?_;(repeat (first|refine Wb ?_|refine Wc ?_|refine Wd ?_|refine We ?_|refine Wf ?_));(conv=>whnf)))
     refine ⟨inr (by omega), ?_⟩
     conv=>whnf
     have hfn : n = 3 := by have h := hge2; simp at h; omega
     refine ⟨by exact ⟨by repeat (first|exact trivial|exact rfl|exact fun _=>trivial|exact fun _ _=>trivial|exact fun _ _ _=>trivial|exact fun _ _ _ _=>trivial|refine And.intro ?_ ?_), namedO (by omega), trivial, trivial, trivial, trivial, trivial, trivial⟩, memA1 (padM n (fwS D 1)) ⟨ObSub.refl _, ObSub.ii (mix_all' hfn.symm), ObSub.ii (mix_all' hfn.symm), ObSub.ii (mix_all' hfn.symm), ObSub.ii (mix_all' hfn.symm), ObSub.ii (mix_all' hfn.symm), trivial⟩ ⟨⟨1 + 1, hx1, rfl, by rw [hdn]⟩, ?_⟩⟩
     simp [V.toInt, sel, Env.get]; omega
   ·((conv=>whnf);repeat (refine Wa ?_;(repeat (first|refine Wb ?_|refine Wc ?_|refine Wd ?_|refine We ?_|refine Wf ?_));(conv=>whnf)))
    refine br_dec (fun hlt2 => ?_) (fun hge2 => ?_)
    ·have hf4 : 4 < n := by have h := hlt2; simp at h; omega
     ((conv=>whnf);repeat (refine Wa ?_;(repeat (first|refine Wb ?_|refine Wc ?_|refine Wd ?_|refine We ?_|refine Wf ?_));(conv=>whnf)))
     refine ⟨zn 4, ?_⟩
     refine ⟨(show ((4 : Nat) : Int) < (n : Int) by omega), ?_⟩
     ((conv=>whnf);repeat (refine Wa ?_;(repeat (first|refine Wb ?_|refine Wc ?_|refine Wd ?_|refine We ?_|refine Wf ?_));(conv=>whnf)))
     refine AW_loopA (X := xD) tab_ok [5, 6, 8, 18, 19, 20, 23, 24, 25, 29, 30, 31] (fun t => Nat.ble t 5) (fun vs M => ∃ y : Nat, y ≤ n ∧ vs = [.sl 0 0 0 n, .int (1 : Nat), .sl (1 + 4) 0 0 n, .sl 0 0 0 n, .int n, .int (1 : Nat), .sl 0 0 0 n, .int n, .int (4 : Nat), .sl (1 + 4) 0 0 n, .int n, .int y] ∧ M = mixM n D 1 4 y)
      (fun vs _ => n - (vs.getD 11 .any).toInt.toNat) (fun t ht => by have : t < 6 := ht; simp; omega) ?_ ?_
     ·exact same0 ⟨0, Nat.zero_le _, rfl, rfl⟩
     rintro vs M ⟨y, hy0, rfl, rfl⟩
     ((conv=>whnf);repeat (refine Wa ?_;(repeat (first|refine Wb ?_|refine Wc ?_|refine Wd ?_|refine We ?_|refine Wf ?_));(conv=>whnf)))
     refine br_dec (fun hlt3 => ?_) (fun hge3 => ?_)
     ·have hy : y < n := by omega
      have b1 := mix_bd (f := 4) (y := y) hW hB hx1 hf4 hy
      have b2 := mix_bd (f := 4) (y := y) hW hB hx1 hf4 hx1
      have b3 : -1000 ≤ (mixR n D 1 4 y 1).getD (0 + y) 0 ∧ (mixR n D 1 4 y 1).getD (0 + y) 0 ≤ 1000 := by rw [Nat.zero_add]; exact mix_bd (f := 4) (y := y) hW hB hx1 hx1 hy
      ((conv=>whnf);repeat (refine Wa ?_;(repeat (first|refine Wb ?_|refine Wc ?_|refine Wd ?_|refine We ?_|refine Wf ?_));(conv=>whnf)))
      refine AW_draw (X := xD) tab_ok mixed (by kernel_rfl) ?_
      conv=>whnf
      refine ⟨zn y, ?_⟩
      refine ⟨(show (y : Int) < (n : Int) by omega), ?_⟩
      conv=>whnf
      refine ⟨zn 1, ?_⟩
      refine ⟨(show ((1 : Nat) : Int) < (n : Int) by omega), ?_⟩
      conv=>whnf
      refine ⟨zn 1, ?_⟩
      refine ⟨(show ((1 : Nat) : Int) < (n : Int) by omega), ?_⟩
      conv=>whnf
      refine ⟨zn y, ?_⟩
      refine ⟨(show (y : Int) < (n : Int) by omega), ?_⟩
      conv=>whnf
      refine ⟨(show InR ((mixR n D 1 4 y 4).getD 1 0 + (mixR n D 1 4 y 1).getD (0 + y) 0) from inr (by omega)), ?_⟩
      conv=>whnf
      refine ⟨zn y, ?_⟩
      refine ⟨(show (y : Int) < (n : Int) by omega), ?_⟩
      ((conv=>whnf);repeat (refine Wa ?_;(repeat (first|refine Wb ?_|refine Wc ?_|refine Wd ?_|refine We ?_|refine Wf ?_));(conv=>whnf)))
      refine ⟨inr (by omega), ?_⟩
      conv=>whnf
      refine ⟨by exact ⟨by repeat (first|exact trivial|exact rfl|exact fun _=>trivial|exact fun _ _=>trivial|exact fun _ _ _=>trivial|exact fun _ _ _ _=>trivial|refine And.intro ?_ ?_), namedO (by omega), trivial, trivial, trivial, trivial, trivial, trivial⟩, memA1 (mixM n D 1 4 (y + 1)) ⟨ObSub.refl _, ObSub.ii (mix_other (by decide)), ObSub.ii (mix_other (by decide)), ObSub.ii (mix_other (by decide)), ObSub.ii (mix_other (by decide)), ObSub.ii (mix_put hB hx1 hf4 hy (Nat.zero_add y)), trivial⟩ ⟨⟨y + 1, hy, rfl, rfl⟩, ?_⟩⟩
      simp [V.toInt, sel, Env.get]; omega
     ·obtain rfl : n = y := by omega
      ((conv=>whnf);repeat (refine Wa ?_;(repeat (first|refine Wb ?_|refine Wc ?_|refine Wd ?_|refine We ?_|refine Wf ?_));(conv=>whnf)))
      refine ⟨inr (by omega), ?_⟩
      conv=>whnf
      refine ⟨by exact ⟨by repeat (first|exact trivial|exact rfl|exact fun _=>trivial|exact fun _ _=>trivial|exact fun _ _ _=>trivial|exact fun _ _ _ _=>trivial|refine And.intro ?_ ?_), namedO (by omega), trivial, trivial, trivial, trivial, trivial, trivial⟩, memA1 (mixM n D 1 (4 + 1) 0) ⟨ObSub.refl _, ObSub.ii mix_end, ObSub.ii mix_end, ObSub.ii mix_end, ObSub.ii mix_end, ObSub.ii mix_end, trivial⟩ ⟨⟨4 + 1, hf4, rfl, rfl⟩, ?_⟩⟩
      simp [V.toInt, sel, Env.get]; omega
    ·((conv=>whnf);repeat (refine Wa ?_;(repeat (first|refine Wb ?_|refine Wc ?_|refine Wd ?_|refine We ?_|refine Wf ?_));(conv=>whnf)))
     refine ⟨inr (by omega), ?_⟩
     conv=>whnf
     have hfn : n = 4 := by have h := hge2; simp at h; omega
     refine ⟨by exact ⟨by repeat (first|exact trivial|exact rfl|exact fun _=>trivial|exact fun _ _=>trivial|exact fun _ _ _=>trivial|exact fun _ _ _ _=>trivial|refine And.intro ?_ ?_), namedO (by omega), trivial, trivial, trivial, trivial, trivial, trivial⟩, memA1 (padM n (fwS D 1)) ⟨ObSub.refl _, ObSub.ii (mix_all' hfn.symm), ObSub.ii (mix_all' hfn.symm), ObSub.ii (mix_all' hfn.symm), ObSub.ii (mix_all' hfn.symm), ObSub.ii (mix_all' hfn.symm), trivial⟩ ⟨⟨1 + 1, hx1, rfl, by rw [hdn]⟩, ?_⟩⟩
     simp [V.toInt, sel, Env.get]; omega
   ·have hfn : n = 5 := by omega
    ((conv=>whnf);repeat (refine Wa ?_;(repeat (first|refine Wb ?_|refine Wc ?_|refine Wd ?_|refine We ?_|refine Wf ?_));(conv=>whnf)))
    refine br_dec (fun hlt2 => ?_) (fun hge2 => ?_)
    ·exact absurd hlt2 (by simp; omega)
    ·((conv=>whnf);repeat (refine Wa ?_;(repeat (first|refine Wb ?_|refine Wc ?_|refine Wd ?_|refine We ?_|refine Wf ?_));(conv=>whnf)))
     refine ⟨inr (by omega), ?_⟩
     conv=>whnf
     refine ⟨by exact ⟨by repeat (first|exact trivial|exact rfl|exact fun _=>trivial|exact fun _ _=>trivial|exact fun _ _ _=>trivial|exact fun _ _ _ _=>trivial|refine And.intro ?_ ?_), namedO (by omega), trivial, trivial, trivial, trivial, trivial, trivial⟩, memA1 (padM n (fwS D 1)) ⟨ObSub.refl _, ObSub.ii (mix_all' hfn.symm), ObSub.ii (mix_all' hfn.symm), ObSub.ii (mix_all' hfn.symm), ObSub.ii (mix_all' hfn.symm), ObSub.ii (mix_all' hfn.symm), trivial⟩ ⟨⟨1 + 1, hx1, rfl, by rw [hdn]⟩, ?_⟩⟩
     simp [V.toInt, sel, Env.get]; omega
  ·((conv=>whnf);repeat (refine Wa ?_;(repeat (first|refine Wb ?_|refine Wc ?_|refine Wd ?_|refine We ?_|refine Wf ?_));(conv=>whnf)))
   have hxn : n = 1 := by have h := hge; simp at h; omega
   exact ⟨_, rfl, rfl, congrArg (padM n) (show dsM n W 1 = drr n W by unfold drr; rw [hxn])⟩
 ·have hdn : dsM n W (2 + 1) = fwS (dsM n W 2) 2 := rfl
  have hB := (dsM_is (n := n) (W := W) 2 hx).1
  ((conv=>whnf);repeat (refine Wa ?_;(repeat (first|refine Wb ?_|refine Wc ?_|refine Wd ?_|refine We ?_|refine Wf ?_));(conv=>whnf)))
  refine br_dec (fun hlt => ?_) (fun hge => ?_)
  ·have hx2 : 2 < n := by have h := hlt; simp at h; omega
   generalize dsM n W 2 = D at *
   ((conv=>whnf);repeat (refine Wa ?_;(repeat (first|refine Wb ?_|refine Wc ?_|refine Wd ?_|refine We ?_|refine Wf ?_));(conv=>whnf)))
   refine AW_loopA (X := xD) tab_ok [5, 6, 18, 19, 20, 23, 24, 25] (fun t => Nat.ble t 5) (fun vs M => ∃ f : Nat, f ≤ n ∧ vs = [.sl 0 0 0 n, .int (2 : Nat), .sl 0 0 0 n, .int n, .int (2 : Nat), .sl 0 0 0 n, .int n, .int f] ∧ M = mixM n D 2 f 0)
    (fun vs _ => n - (vs.getD 7 .any).toInt.toNat) (fun t ht => by have : t < 6 := ht; simp; omega) ?_ ?_
   ·exact memA0 (mixM n D 2 0 0) ⟨ObSub.refl _, ObSub.ii mix_zero, ObSub.ii mix_zero, ObSub.ii mix_zero, ObSub.ii mix_zero, ObSub.ii mix_zero, trivial⟩ ⟨0, Nat.zero_le _, rfl, rfl⟩
   rintro vs M ⟨f, hf, rfl, rfl⟩
   rcases (by omega : f = 0 ∨ f = 1 ∨ f = 2 ∨ f = 3 ∨ f = 4 ∨ f = 5) with rfl | rfl | rfl | rfl | rfl | rfl
   ·((conv=>whnf);repeat (refine Wa ?_;(repeat (first|refine Wb ?_|refine Wc ?_|refine Wd ?_|refine We ?_|refine Wf ?_));(conv=>whnf)))
    refine br_dec (fun hlt2 => ?_) (fun hge2 => ?_)
    ·have hf0 : 0 < n := by have h := hlt2; simp at h; omega
     ((conv=>whnf);repeat (refine Wa ?_;(repeat (first|refine Wb ?_|refine Wc ?_|refine Wd ?_|refine We ?_|refine Wf ?_));(conv=>whnf)))
     refine ⟨zn 0, ?_⟩
     refine ⟨(show ((0 : Nat) : Int) < (n : Int) by omega), ?_⟩
     ((conv=>whnf);repeat (refine Wa ?_;(repeat (first|refine Wb ?_|refine Wc ?_|refine Wd ?_|refine We ?_|refine Wf ?_));(conv=>whnf)))
     refine AW_loopA (X := xD) tab_ok [5, 6, 8, 18, 19, 20, 23, 24, 25, 29, 30, 31] (fun t => Nat.ble t 5) (fun vs M => ∃ y : Nat, y ≤ n ∧ vs = [.sl 0 0 0 n, .int (2 : Nat), .sl (1 + 0) 0 0 n, .sl 0 0 0 n, .int n, .int (2 : Nat), .sl 0 0 0 n, .int n, .int (0 : Nat), .sl (1 + 0) 0 0 n, .int n, .int y] ∧ M = mixM n D 2 0 y)
      (fun vs _ => n - (vs.getD 11 .any).toInt.toNat) (fun t ht => by have : t < 6 := ht; simp; omega) ?_ ?_
     ·exact same0 ⟨0, Nat.zero_le _, rfl, rfl⟩
     rintro vs M ⟨y, hy0, rfl, rfl⟩
     ((conv=>whnf);repeat (refine Wa ?_;(repeat (first|refine Wb ?_|refine Wc ?_|refine Wd ?_|refine We ?_|refine Wf ?_));(conv=>whnf)))
     refine br_dec (fun hlt3 => ?_) (fun hge3 => ?_)
     ·have hy : y < n := by omega
      have b1 := mix_bd (f := 0) (y := y) hW hB hx2 hf0 hy
      have b2 := mix_bd (f := 0) (y := y) hW hB hx2 hf0 hx2
      have b3 : -1000 ≤ (mixR n D 2 0 y 2).getD (0 + y) 0 ∧ (mixR n D 2 0 y 2).getD (0 + y) 0 ≤ 1000 := by rw [Nat.zero_add]; exact mix_bd (f := 0) (y := y) hW hB hx2 hx2 hy
      ((conv=>whnf);repeat (refine Wa ?_;(repeat (first|refine Wb ?_|refine Wc ?_|refine Wd ?_|refine We ?_|refine Wf ?_));(conv=>whnf)))
      refine AW_draw (X := xD) tab_ok mixed (by kernel_rfl) ?_
      conv=>whnf
      refine ⟨zn y, ?_⟩
      refine ⟨(show (y : Int) < (n : Int) by omega), ?_⟩
      conv=>whnf
      refine ⟨zn 2, ?_⟩
      refine ⟨(show ((2 : Nat) : Int) < (n : Int) by omega), ?_⟩
      conv=>whnf
      refine ⟨zn 2, ?_⟩
      refine ⟨(show ((2 : Nat) : Int) < (n : Int) by omega), ?_⟩
      conv=>whnf
      refine ⟨zn y, ?_⟩
      refine ⟨(show (y : Int) < (n : Int) by omega), ?_⟩
      conv=>whnf
      refine ⟨(show InR ((mixR n D 2 0 y 0).getD 2 0 + (mixR n D 2 0 y 2).getD (0 + y) 0) from inr (by omega)), ?_⟩
      conv=>whnf
      refine ⟨zn y, ?_⟩
      refine ⟨(show (y : Int) < (n : Int) by omega), ?_⟩
      ((conv=>whnf);repeat (refine Wa ?_;(repeat (first|refine Wb ?_|refine Wc ?_|refine Wd ?_|refine We ?_|refine Wf ?_));(conv=>whnf)))
      refine ⟨inr (by omega), ?_⟩
      conv=>whnf
      refine ⟨by exact ⟨by repeat (first|exact trivial|exact rfl|exact fun _=>trivial|exact fun _ _=>trivial|exact fun _ _ _=>trivial|exact fun _ _ _ _=>trivial|refine And.intro ?_ ?_), namedO (by omega), trivial, trivial, trivial, trivial, trivial, trivial⟩, memA1 (mixM n D 2 0 (y + 1)) ⟨ObSub.refl _, ObSub.ii (mix_put hB hx2 hf0 hy (Nat.zero_add y)), ObSub.ii (mix_other (by decide)), ObSub.ii (mix_other (by decide)), ObSub.ii (mix_other (by decide)), ObSub.ii (mix_other (by decide)), trivial⟩ ⟨⟨y + 1, hy, rfl, rfl⟩, ?_⟩⟩
      simp [V.toInt, sel, Env.get]; omega
     ·obtain rfl : n = y := by omega
      ((conv=>whnf);repeat (refine Wa ?_;(repeat (first|refine Wb ?_|refine Wc ?_|refine Wd ?_|refine We ?_|refine Wf ?_));(conv=>whnf)))
      refine ⟨inr (by omega), ?_⟩
      conv=>whnf
      refine ⟨by exact ⟨by repeat (first|exact trivial|exact rfl|exact fun _=>trivial|exact fun _ _=>trivial|exact fun _ _ _=>trivial|exact fun _ _ _ _=>trivial|refine And.intro ?_ ?_), namedO (by omega), trivial, trivial, trivial, trivial, trivial, trivial⟩, memA1 (mixM n D 2 (0 + 1) 0) ⟨ObSub.refl _, ObSub.ii mix_end, ObSub.ii mix_end, ObSub.ii mix_end, ObSub.ii mix_end, ObSub.ii mix_end, trivial⟩ ⟨⟨0 + 1, hf0, rfl, rfl⟩, ?_⟩⟩
      simp [V.toInt, sel, Env.get]; omega
    ·((conv=>whnf);repeat (refine Wa ?_;(repeat (first|refine Wb ?_|refine Wc ?_|refine Wd ?_|refine We ?_|refine Wf ?_));(conv=>whnf)))
     refine ⟨inr (by omega), ?_⟩
     conv=>whnf
     have hfn : n = 0 := by have h := hge2; simp at h; omega
     refine ⟨by exact ⟨by repeat (first|exact trivial|exact rfl|exact fun _=>trivial|exact fun _ _=>trivial|exact fun _ _ _=>trivial|exact fun _ _ _ _=>trivial|refine And.intro ?_ ?_), namedO (by omega), trivial, trivial, trivial, trivial, trivial, trivial⟩, memA1 (padM n (fwS D 2)) ⟨ObSub.refl _, ObSub.ii (mix_all' hfn.symm), ObSub.ii (mix_all' hfn.symm), ObSub.ii (mix_all' hfn.symm), ObSub.ii (mix_all' hfn.symm), ObSub.ii (mix_all' hfn.symm), trivial⟩ ⟨⟨2 + 1, hx2, rfl, by rw [hdn]⟩, ?_⟩⟩
     simp [V.toInt, sel, Env.get]; omega
   ·((conv=>whnf);repeat (refine Wa ?_;(repeat (first|refine Wb ?_|refine Wc ?_|refine Wd ?_|refine We ?_|refine Wf ?_));(conv=>whnf)))
    refine br_dec (fun hlt2 => ?_) (fun hge2 => ?_)
    ·have hf1 : 1 < n := by have h := hlt2; simp at h; omega
     ((conv=>whnf);repeat (refine Wa ?_;(repeat (first|refine Wb ?_|refine Wc ?_|refine Wd ?_|refine We ?_|refine Wf ?_));(conv=>whnf)))
     refine ⟨zn 1, ?_⟩
     refine ⟨(show ((1 : Nat) : Int) < (n : Int) by omega), ?_⟩
     ((conv=>whnf);repeat (refine Wa ?_;(repeat (first|refine Wb ?_|refine Wc ?_|refine Wd ?_|refine We ?_|refine Wf ?_));(conv=>whnf)))
     refine AW_loopA (X := xD) tab_ok [5, 6, 8, 18, 19, 20, 23, 24, 25, 29, 30, 31] (fun t => Nat.ble t 5) (fun vs M => ∃ y : Nat, y ≤ n ∧ vs = [.sl 0 0 0 n, .int (2 : Nat), .sl (1 + 1) 0 0 n, .sl 0 0 0 n, .int n, .int (2 : Nat), .sl 0 0 0 n, .int n, .int (1 : Nat), .sl (1 + 1) 0 0 n, .int n, .int y] ∧ M = mixM n D 2 1 y)
      (fun vs _ => n - (vs.getD 11 .any).toInt.toNat) (fun t ht => by have : t < 6 := ht; simp; omega) ?_ ?_
     ·exact same0 ⟨0, Nat.zero_le _, rfl, rfl⟩
     rintro vs M ⟨y, hy0, rfl, rfl⟩
     ((conv=>whnf);repeat (refine Wa ?_;(repeat (first|refine Wb ?_|refine Wc ?_|refine Wd ?_|refine We ?_|refine Wf ?_));(conv=>whnf)))
     refine br_dec (fun hlt3 => ?_) (fun hge3 => ?_)
     ·have hy : y < n := by omega
      have b1 := mix_bd (f := 1) (y := y) hW hB hx2 hf1 hy
      have b2 := mix_bd (f := 1) (y := y) hW hB hx2 hf1 hx2
      have b3 : -1000 ≤ (mixR n D 2 1 y 2).getD (0 + y) 0 ∧ (mixR n D 2 1 y 2).getD (0 + y) 0 ≤ 1000 := by rw [Nat.zero_add]; exact mix_bd (f := 1) (y := y) hW hB hx2 hx2 hy
      ((conv=>whnf);repeat (refine Wa ?_;(repeat (first|refine Wb ?_|refine Wc ?_|refine Wd ?_|refine We ?_|refine Wf ?_));(conv=>whnf)))
      refine AW_draw (X := xD) tab_ok mixed (by kernel_rfl) ?_
      conv=>whnf
      refine ⟨zn y, ?_⟩
      refine ⟨(show (y : Int) < (n : Int) by omega), ?_⟩
      conv=>whnf
      refine ⟨zn 2, ?_⟩
      refine ⟨(show ((2 : Nat) : Int) < (n : Int) by omega), ?_⟩
      conv=>whnf
      refine ⟨zn 2, ?_⟩
      refine ⟨(show ((2 : Nat) : Int) < (n : Int) by omega), ?_⟩
      conv=>whnf
      refine ⟨zn y, ?_⟩
      refine ⟨(show (y : Int) < (n : Int) by omega), ?_⟩
      conv=>whnf
      refine ⟨(show InR ((mixR n D 2 1 y 1).getD 2 0 + (mixR n D 2 1 y 2).getD (0 + y) 0) from inr (by omega)), ?_⟩
      conv=>whnf
      refine ⟨zn y, ?_⟩
      refine ⟨(show (y : Int) < (n : Int) by omega), ?_⟩
      ((conv=>whnf);repeat (refine Wa ?_;(repeat (first|refine Wb ?_|refine Wc ?_|refine Wd ?_|refine We ?_|refine Wf ?_));(conv=>whnf)))
      refine ⟨inr (by omega), ?_⟩
      conv=>whnf
      refine ⟨by exact ⟨by repeat (first|exact trivial|exact rfl|exact fun _=>trivial|exact fun _ _=>trivial|exact fun _ _ _=>trivial|exact fun _ _ _ _=>trivial|refine And.intro ?_ ?_), namedO (by omega), trivial, trivial, trivial, trivial, trivial, trivial⟩, memA1 (mixM n D 2 1 (y + 1)) ⟨ObSub.refl _, ObSub.ii (mix_other (by decide)), ObSub.ii (mix_put hB hx2 hf1 hy (Nat.zero_add y)), ObSub.ii (mix_other (by decide)), ObSub.ii (mix_other (by decide)), ObSub.ii (mix_other (by decide)), trivial⟩ ⟨⟨y + 1, hy, rfl, rfl⟩, ?_⟩⟩
      simp [V.toInt, sel, Env.get]; omega
     ·obtain rfl : n = y := by omega
      ((conv=>whnf);repeat (refine Wa ?_;(repeat (first|refine Wb ?_|refine Wc ?_|refine Wd ?_|refine We ?_|refine Wf ?_));(conv=>whnf)))
      refine ⟨inr (by omega), ?_⟩
      conv=>whnf
      refine ⟨by exact ⟨by repeat (first|exact trivial|exact rfl|exact fun _=>trivial|exact fun _ _=>trivial|exact fun _ _ _=>trivial|exact fun _ _ _ _=>trivial|refine And.intro ?_ ?_), namedO (by omega), trivial, trivial, trivial, trivial, trivial, trivial⟩, memA1 (mixM n D 2 (1 + 1) 0) ⟨ObSub.refl _, ObSub.ii mix_end, ObSub.ii mix_end, ObSub.ii mix_end, ObSub.ii mix_end, ObSub.ii mix_end, trivial⟩ ⟨⟨1 + 1, hf1, rfl, rfl⟩, ?_⟩⟩
      simp [V.toInt, sel, Env.get]; omega
    ·((conv=>whnf);repeat (refine Wa ?_;(repeat (first|refine Wb ?_|refine Wc ?_|refine Wd ?_|refine We ?_|refine Wf ?_));(conv=>whnf)))
     refine ⟨inr (by omega), ?_⟩
     conv=>whnf
     have hfn : n = 1 := by have h := hge2; simp at h; omega
     refine ⟨by exact ⟨by repeat (first|exact trivial|exact rfl|exact fun _=>trivial|exact fun _ _=>trivial|exact fun _ _ _=>trivial|exact fun _ _ _ _=>trivial|refine And.intro ?_ ?_), namedO (by omega), trivial, trivial, trivial, trivial, trivial, trivial⟩, memA1 (padM n (fwS D 2)) ⟨ObSub.refl _, ObSub.ii (mix_all' hfn.symm), ObSub.ii (mix_all' hfn.symm), ObSub.ii (mix_all' hfn.symm), ObSub.ii (mix_all' hfn.symm), ObSub.ii (mix_all' hfn.symm), trivial⟩ ⟨⟨2 + 1, hx2, rfl, by rw [hdn]⟩, ?_⟩⟩
     simp [V.toInt, sel, Env.get]; omega
   ·((conv=>whnf);repeat (refine Wa ?_;(repeat (first|refine Wb ?_|refine Wc ?_|refine Wd ?_|refine We ?_|refine Wf ?_));(conv=>whnf)))
    refine br_dec (fun hlt2 => ?_) (fun hge2 => ?_)
    ·have hf2 : 2 < n := by have h := hlt2; simp at h; omega
     ((conv=>whnf);repeat (refine Wa ?_;(repeat (first|refine Wb ?_|refine Wc ?_|refine Wd ?_|refine We ?_|refine Wf ?_));(conv=>whnf)))
     refine ⟨zn 2, ?_⟩
     refine ⟨(show ((2 : Nat) : Int) < (n : Int) by omega), ?_⟩
     ((conv=>whnf);repeat (refine Wa ?_;(repeat (first|refine Wb ?_|refine Wc ?_|refine Wd ?_|refine We ?_|refine Wf ?_));(conv=>whnf)))
     refine AW_loopA (X := xD) tab_ok [5, 6, 8, 18, 19, 20, 23, 24, 25, 29, 30, 31] (fun t => Nat.ble t 5) (fun vs M => ∃ y : Nat, y ≤ n ∧ vs = [.sl 0 0 0 n, .int (2 : Nat), .sl (1 + 2) 0 0 n, .sl 0 0 0 n, .int n, .int (2 : Nat), .sl 0 0 0 n, .int n, .int (2 : Nat), .sl (1 + 2) 0 0 n, .int n, .int y] ∧ M = mixM n D 2 2 y)
      (fun vs _ => n - (vs.getD 11 .any).toInt.toNat) (fun t ht => by have : t < 6 := ht; simp; omega) ?_ ?_
     ·exact same0 ⟨0, Nat.zero_le _, rfl, rfl⟩
     rintro vs M ⟨y, hy0, rfl, rfl⟩
     ((conv=>whnf);repeat (refine Wa ?_;(repeat (first|refine Wb ?_|refine Wc ?_|refine Wd ?_|refine We ?_|refine Wf ?_));(conv=>whnf)))
     refine br_dec (fun hlt3 => ?_) (fun hge3 => ?_)
     ·have hy : y < n := by omega
      have b1 := mix_bd (f := 2) (y := y) hW hB hx2 hf2 hy
      have b2 := mix_bd (f := 2) (y := y) hW hB hx2 hf2 hx2
      have b3 : -1000 ≤ (mixR n D 2 2 y 2).getD (0 + y) 0 ∧ (mixR n D 2 2 y 2).getD (0 + y) 0 ≤ 1000 := by rw [Nat.zero_add]; exact mix_bd (f := 2) (y := y) hW hB hx2 hx2 hy
      ((conv=>whnf);repeat (refine Wa ?_;(repeat (first|refine Wb ?_|refine Wc ?_|refine Wd ?_|refine We ?_|refine Wf ?_));(conv=>whnf)))
      refine AW_draw (X := xD) tab_ok mixed (by kernel_rfl) ?_
      conv=>whnf
      refine ⟨zn y, ?_⟩
      refine ⟨(show (y : Int) < (n : Int) by omega), ?_⟩
      conv=>whnf
      refine ⟨zn 2, ?_⟩
      refine ⟨(show ((2 : Nat) : Int) < (n : Int) by omega), ?_⟩
      conv=>whnf
      refine ⟨zn 2, ?_⟩
      refine ⟨(show ((2 : Nat) : Int) < (n : Int) by omega), ?_⟩
      conv=>whnf
      refine ⟨zn y, ?_⟩
      refine ⟨(show (y : Int) < (n : Int) by omega), ?_⟩
      conv=>whnf
      refine ⟨(show InR ((mixR n D 2 2 y 2).getD 2 0 + (mixR n D 2 2 y 2).getD (0 + y) 0) from inr (by omega)), ?_⟩
      conv=>whnf
      refine ⟨zn y, ?_⟩
      refine ⟨(show (y : Int) < (n : Int) by omega), ?_⟩
      ((conv=>whnf);repeat (refine Wa ?_;(repeat (first|refine Wb ?_|refine Wc ?_|refine Wd ?_|refine We ?_|refine Wf ?_));(conv=>whnf)))
      refine ⟨inr (by omega), ?_⟩
      conv=>whnf
      refine ⟨by exact ⟨by repeat (first|exact trivial|exact rfl|exact fun _=>trivial|exact fun _ _=>trivial|exact fun _ _ _=>trivial|exact fun _ _ _ _=>trivial|refine And.intro ?_ ?_), namedO (by omega), trivial, trivial, trivial, trivial, trivial, trivial⟩, memA1 (mixM n D 2 2 (y + 1)) ⟨ObSub.refl _, ObSub.ii (mix_other (by decide)), ObSub.ii (mix_other (by decide)), ObSub.ii (mix_put hB hx2 hf2 hy (Nat.zero_add y)), ObSub.ii (mix_other (by decide)), ObSub.ii (mix_other (by decide)), trivial⟩ ⟨⟨y + 1, hy, rfl, rfl⟩, ?_⟩⟩
      simp [V.toInt, sel, Env.get]; omega
     ·obtain rfl : n = y := by omega
      ((conv=>whnf);repeat (refine Wa ?_;(repeat (first|refine Wb ?_|refine Wc ?_|refine Wd ?_|refine We ?_|refine Wf ?_));(conv=>whnf)))
      refine ⟨inr (by omega), ?_⟩
      conv=>whnf
      refine ⟨by exact ⟨by repeat (first|exact trivial|exact rfl|exact fun _=>trivial|exact fun _ _=>trivial|exact fun _ _ _=>trivial|exact fun _ _ _ _=>trivial|refine And.intro ?_ ?_), namedO (by omega), trivial, trivial, trivial, trivial, trivial, trivial⟩, memA1 (mixM n D 2 (2 + 1) 0) ⟨ObSub.refl _, ObSub.ii mix_end, ObSub.ii mix_end, ObSub.ii mix_end, ObSub.ii mix_end, ObSub.ii mix_end, trivial⟩ ⟨⟨2 + 1, hf2, rfl, rfl⟩, ?_⟩⟩
      simp [V.toInt, sel, Env.get]; omega
    ·((conv=>whnf);repeat (refine Wa ?_;(repeat (first|refine Wb ?_|refine Wc ?_|refine Wd ?_|refine We ?_|refine Wf ?_));(conv=>whnf)))
     refine ⟨inr (by omega), ?_⟩
     conv=>whnf
     have hfn : n = 2 := by have h := hge2; simp at h; omega
     refine ⟨by exact ⟨by repeat (first|exact trivial|exact rfl|exact fun _=>trivial|exact fun _ _=>trivial|exact fun _ _ _=>trivial|exact fun _ _ _ _=>trivial|refine And.intro ?_ ?_), namedO (by omega), trivial, trivial, trivial, trivial, trivial, trivial⟩, memA1 (padM n (fwS D 2)) ⟨ObSub.refl _, ObSub.ii (mix_all' hfn.symm), ObSub.ii (mix_all' hfn.symm), ObSub.ii (mix_all' hfn.symm), ObSub.ii (mix_all' hfn.symm), ObSub.ii (mix_all' hfn.symm), trivial⟩ ⟨⟨2 + 1, hx2, rfl, by rw [hdn]⟩, ?_⟩⟩
     simp [V.toInt, sel, Env.get]; omega
   ·((conv=>whnf);repeat (refine Wa ?_;(repeat (first|refine Wb ?_|refine Wc ?_|refine Wd ?_|refine We ?_|refine Wf ?_));(conv=>whnf)))
    refine br_dec (fun hlt2 => ?_) (fun hge2 => ?_)
    ·have hf3 : 3 < n := by have h := hlt2; simp at h; omega
     ((conv=>whnf);repeat (refine Wa ?_;(repeat (first|refine Wb ?_|refine Wc ?_|refine Wd ?_|refine We ?_|refine Wf ?_));(conv=>whnf)))
     refine ⟨zn 3, ?_⟩
     refine ⟨(show ((3 : Nat) : Int) < (n : Int) by omega), ?_⟩
     ((conv=>whnf);repeat (refine Wa ?_;(repeat (first|refine Wb ?_|refine Wc ?_|refine Wd ?_|refine We ?_|refine Wf ?_));(conv=>whnf)))
     refine AW_loopA (X := xD) tab_ok [5, 6, 8, 18, 19, 20, 23, 24, 25, 29, 30, 31] (fun t => Nat.ble t 5) (fun vs M => ∃ y : Nat, y ≤ n ∧ vs = [.sl 0 0 0 n, .int (2 : Nat), .sl (1 + 3) 0 0 n, .sl 0 0 0 n, .int n, .int (2 : Nat), .sl 0 0 0 n, .int n, .int (3 : Nat), .sl (1 + 3) 0 0 n, .int n, .int y] ∧ M = mixM n D 2 3 y)
      (fun vs _ => n - (vs.getD 11 .any).toInt.toNat) (fun t ht => by have : t < 6 := ht; simp; omega) ?_ ?_
     ·exact same0 ⟨0, Nat.zero_le _, rfl, rfl⟩
     rintro vs M ⟨y, hy0, rfl, rfl⟩
     ((conv=>whnf);repeat (refine Wa ?_;(repeat (first|refine Wb ?_|refine Wc ?_|refine Wd ?_|refine We ?_|refine Wf ?_));(conv=>whnf)))
     refine br_dec (fun hlt3 => ?_) (fun hge3 => ?_)
     ·have hy : y < n := by omega
      have b1 := mix_bd (f := 3) (y := y) hW hB hx2 hf3 hy
      have b2 := mix_bd (f := 3) (y := y) hW hB hx2 hf3 hx2
      have b3 : -1000 ≤ (mixR n D 2 3 y 2).getD (0 + y) 0 ∧ (mixR n D 2 3 y 2).getD (0 + y) 0 ≤ 1000 := by rw [Nat.zero_add]; exact mix_bd (f := 3) (y := y) hW hB hx2 hx2 hy
      ((conv=>whnf);repeat (refine Wa ?_;(repeat (first|refine Wb ?_|refine Wc ?_|refine Wd ?_|refine We ?_|refine Wf ?_));(conv=>whnf)))
      refine AW_draw (X := xD) tab_ok mixed (by kernel_rfl) ?_
      conv=>whnf
      refine ⟨zn y, ?_⟩
      refine ⟨(show (y : Int) < (n : Int) by omega), ?_⟩
      conv=>whnf
      refine ⟨zn 2, ?_⟩
      refine ⟨(show ((2 : Nat) : Int) < (n : Int) by omega), ?_⟩
      conv=>whnf
      refine ⟨zn 2, ?_⟩
      refine ⟨(show ((2 : Nat) : Int) < (n : Int) by omega), ?_⟩
      conv=>whnf
      refine ⟨zn y, ?_⟩
      refine ⟨(show (y : Int) < (n : Int) by omega), ?_⟩
      conv=>whnf
      refine ⟨(show InR ((mixR n D 2 3 y 3).getD 2 0 + (mixR n D 2 3 y 2).getD (0 + y) 0) from inr (by omega)), ?_⟩
      conv=>whnf
      refine ⟨zn y, ?_⟩
      refine ⟨(show (y : Int) < (n : Int) by omega), ?_⟩
      ((conv=>whnf);repeat (refine Wa ?_;(repeat (first|refine Wb ?_|refine Wc ?_|refine Wd ?_|refine We ?_|refine Wf ?_));(conv=>whnf)))
      refine ⟨inr (by omega), ?_⟩
      conv=>whnf
      refine ⟨by exact ⟨by repeat (first|exact trivial|exact rfl|exact fun _=>trivial|exact fun _ _=>trivial|exact fun _ _ _=>trivial|exact fun _ _ _ _=>trivial|refine And.intro ?_ ?_), namedO (by omega), trivial, trivial, trivial, trivial, trivial, trivial⟩, memA1 (mixM n D 2 3 (y + 1)) ⟨ObSub.refl _, ObSub.ii (mix_other (by decide)), ObSub.ii (mix_other (by decide)), ObSub.ii (mix_other (by decide)), ObSub.ii (mix_put hB hx2 hf3 hy (Nat.zero_add y)), ObSub.ii (mix_other (by decide)), trivial⟩ ⟨⟨y + 1, hy, rfl, rfl⟩, ?_⟩⟩
      simp [V.toInt, sel, Env.get]; omega
     ·obtain rfl : n = y := by omega
      ((conv=>whnf);repeat (refine Wa ?_;(repeat (first|refine Wb ?_|refine Wc ?_|refine Wd ?_|refine We ?_|refine Wf ?_));(conv=>whnf)))
      refine ⟨inr (by omega), ?_⟩
      conv=>whnf
      refine ⟨by exact ⟨by repeat (first|exact trivial|exact rfl|exact fun _=>trivial|exact fun _ _=>trivial|exact fun _ _ _=>trivial|exact fun _ _ _ _=>trivial|refine And.intro ?_ ?_), namedO (by omega), trivial, trivial, trivial, trivial, trivial, trivial⟩, memA1 (mixM n D 2 (3 + 1) 0) ⟨ObSub.refl _, ObSub.ii mix_end, ObSub.ii mix_end, ObSub.ii mix_end, ObSub.ii mix_end, ObSub.ii mix_end, trivial⟩ ⟨⟨3 + 1, hf3, rfl, rfl⟩, ?_⟩⟩
      simp [V.toInt, sel, Env.get]; omega
    ·((conv=>whnf);repeat (refine Wa ?_;(repeat (first|refine Wb ?_|refine Wc ?_|refine Wd ?_|refine We ?_|refine Wf ?_));(conv=>whnf)))
     refine ⟨inr (by omega), ?_⟩
     conv=>whnf
     have hfn : n = 3 := by have h := hge2; simp at h; omega
     refine ⟨by exact ⟨by repeat (first|exact trivial|exact rfl|exact fun _=>trivial|exact fun _ _=>trivial|exact fun _ _ _=>trivial|exact fun _ _ _ _=>trivial|refine And.intro ?_ ?_), namedO (by omega), trivial, trivial, trivial, trivial, trivial, trivial⟩, memA1 (padM n (fwS D 2)) ⟨ObSub.refl _, ObSub.ii (mix_all' hfn.symm), ObSub.ii (mix_all' hfn.symm), ObSub.ii (mix_all' hfn.symm), ObSub.ii (mix_all' hfn.symm), ObSub.ii (mix_all' hfn.symm), trivial⟩ ⟨⟨2 + 1, hx2, rfl, by rw [hdn]⟩, ?_⟩⟩
     simp [V.toInt, sel, Env.get]; omega
   ·((conv=>whnf);repeat (refine Wa ?_;(repeat (first|refine Wb ?_|refine Wc ?_|refine Wd ?_|refine We ?_|refine Wf ?_));(conv=>whnf)))
    refine br_dec (fun hlt2 => ?_) (fun hge2 => ?_)
    ·have hf4 : 4 < n := by have h := hlt2; simp at h; omega
     ((conv=>whnf);repeat (refine Wa ?_;(repeat (first|refine Wb ?_|refine Wc ?_|refine Wd ?_|refine We ?_|refine Wf ?_));(conv=>whnf)))
     refine ⟨zn 4, ?_⟩
     refine ⟨(show ((4 : Nat) : Int) < (n : Int) by omega), ?_⟩
     ((conv=>whnf);repeat (refine Wa ?_;(repeat (first|refine Wb ?_|refine Wc ?_|refine Wd ?_|refine We ?_|refine Wf ?_));(conv=>whnf)))
     refine AW_loopA (X := xD) tab_ok [5, 6, 8, 18, 19, 20, 23, 24, 25, 29, 30, 31] (fun t => Nat.ble t 5) (fun vs M => ∃ y : Nat, y ≤ n ∧ vs = [.sl 0 0 0 n, .int (2 : Nat), .sl (1 + 4) 0 0 n, .sl 0 0 0 n, .int n, .int (2 : Nat), .sl 0 0 0 n, .int n, .int (4 : Nat), .sl (1 + 4) 0 0 n, .int n, .int y] ∧ M = mixM n D 2 4 y)
      (fun vs _ => n - (vs.getD 11 .any).toInt.toNat) (fun t ht => by have : t < 6 := ht; simp; omega) ?_ ?_
     ·exact same0 ⟨0, Nat.zero_le _, rfl, rfl⟩
     rintro vs M ⟨y, hy0, rfl, rfl⟩
     ((conv=>whnf);repeat (refine Wa ?_;(repeat (first|refine Wb ?_|refine Wc ?_|refine Wd ?_|refine We ?_|refine Wf ?_));(conv=>whnf)))
     refine br_dec (fun hlt3 => ?_) (fun hge3 => ?_)
     ·have hy : y < n := by omega
      have b1 := mix_bd (f := 4) (y := y) hW hB hx2 hf4 hy
      have b2 := mix_bd (f := 4) (y := y) hW hB hx2 hf4 hx2
      have b3 : -1000 ≤ (mixR n D 2 4 y 2).getD (0 + y) 0 ∧ (mixR n D 2 4 y 2).getD (0 + y) 0 ≤ 1000 := by rw [Nat.zero_add]; exact mix_bd (f := 4) (y := y) hW hB hx2 hx2 hy
      ((conv=>whnf);repeat (refine Wa ?_;(repeat (first|refine Wb ?_|refine Wc ?_|refine Wd ?_|refine We ?_|refine Wf ?_));(conv=>whnf)))
      refine AW_draw (X := xD) tab_ok mixed (by kernel_rfl) ?_
      conv=>whnf
      refine ⟨zn y, ?_⟩
      refine ⟨(show (y : Int) < (n : Int) by omega), ?_⟩
      conv=>whnf
      refine ⟨zn 2, ?_⟩
      refine ⟨(show ((2 : Nat) : Int) < (n : Int) by omega), ?_⟩
      conv=>whnf
      refine ⟨zn 2, ?_⟩
      refine ⟨(show ((2 : Nat) : Int) < (n : Int) by omega), ?_⟩
      conv=>whnf
      refine ⟨zn y, ?_⟩
      refine ⟨(show (y : Int) < (n : Int) by omega), ?_⟩
      conv=>whnf
      refine ⟨(show InR ((mixR n D 2 4 y 4).getD 2 0 + (mixR n D 2 4 y 2).getD (0 + y) 0) from inr (by omega)), ?_⟩
      conv=>whnf
      refine ⟨zn y, ?_⟩
      refine ⟨(show (y : Int) < (n : Int) by omega), ?_⟩
      ((conv=>whnf);repeat (refine Wa ?_;(repeat (first|refine Wb ?_|refine Wc ?_|refine Wd ?_|refine We ?_|refine Wf ?_));(conv=>whnf)))
      refine ⟨inr (by omega), ?_⟩
      conv=>whnf
      refine ⟨by exact ⟨by repeat (first|exact trivial|exact rfl|exact fun _=>trivial|exact fun _ _=>trivial|exact fun _ _ _=>trivial|exact fun _ _ _ _=>trivial|refine And.intro ?_ ?_), namedO (by omega), trivial, trivial, trivial, trivial, trivial, trivial⟩, memA1 (mixM n D 2 4 (y + 1)) ⟨ObSub.refl _, ObSub.ii (mix_other (by decide)), ObSub.ii (mix_other (by decide)), ObSub.ii (mix_other (by decide)), ObSub.ii (mix_other (by decide)), ObSub.ii (mix_put hB hx2 hf4 hy (Nat.zero_add y)), trivial⟩ ⟨⟨y + 1, hy, rfl, rfl⟩, ?_⟩⟩
      simp [V.toInt, sel, Env.get]; omega
     ·obtain rfl : n = y := by omega
      ((conv=>whnf);repeat (refine Wa ?_;(repeat (first|refine Wb ?_|refine Wc ?_|refine Wd ?_|refine We ?_|refine Wf ?_));(conv=>whnf)))
      refine ⟨inr (by omega), ?_⟩
      conv=>whnf
      refine ⟨by exact ⟨by repeat (first|exact trivial|exact rfl|exact fun _=>trivial|exact fun _ _=>trivial|exact fun _ _ _=>trivial|exact fun _ _ _ _=>trivial|refine And.intro ?_ ?_), namedO (by omega), trivial, trivial, trivial, trivial, trivial, trivial⟩, memA1 (mixM n D 2 (4 + 1) 0) ⟨ObSub.refl _, ObSub.ii mix_end, ObSub.ii mix_end, ObSub.ii mix_end, ObSub.ii mix_end, ObSub.ii mix_end, trivial⟩ ⟨⟨4 + 1, hf4, rfl, rfl⟩, ?_⟩⟩
      simp [V.toInt, sel, Env.get]; omega
    ·((conv=>whnf);repeat (refine Wa ?_;(repeat (first|refine Wb ?_|refine Wc ?_|refine Wd ?_|refine We ?_|refine Wf ?_));(conv=>whnf)))
     refine ⟨inr (by omega), ?_⟩
     conv=>whnf
     have hfn : n = 4 := by have h := hge2; simp at h; omega
     refine ⟨by exact ⟨by repeat (first|exact trivial|exact rfl|exact fun _=>trivial|exact fun _ _=>trivial|exact fun _ _ _=>trivial|exact fun _ _ _ _=>trivial|refine And.intro ?_ ?_), namedO (by omega), trivial, trivial, trivial, trivial, trivial, trivial⟩, memA1 (padM n (fwS D 2)) ⟨ObSub.refl _, ObSub.ii (mix_all' hfn.symm), ObSub.ii (mix_all' hfn.symm), ObSub.ii (mix_all' hfn.symm), ObSub.ii (mix_all' hfn.symm), ObSub.ii (mix_all' hfn.symm), trivial⟩ ⟨⟨2 + 1, hx2, rfl, by rw [hdn]⟩, ?_⟩⟩
     simp [V.toInt, sel, Env.get]; omega
   ·have hfn : n = 5 := by omega
    ((conv=>whnf);repeat (refine Wa ?_;(repeat (first|refine Wb ?_|refine Wc ?_|refine Wd ?_|refine We ?_|refine Wf ?_));(conv=>whnf)))
    refine br_dec (fun hlt2 => ?_) (fun hge2 => ?_)
    ·exact absurd hlt2 (by simp; omega)
    ·((conv=>whnf);repeat (refine Wa ?_;(repeat (first|refine Wb ?_|refine Wc ?_|refine Wd ?_|refine We ?_|refine Wf ?_));(conv=>whnf)))
     refine ⟨inr (by omega), ?_⟩
     conv=>whnf
     refine ⟨by exact ⟨by repeat (first|exact trivial|exact rfl|exact fun _=>trivial|exact fun _ _=>trivial|exact fun _ _ _=>trivial|exact fun _ _ _ _=>trivial|refine And.intro ?_ ?_), namedO (by omega), trivial, trivial, trivial, trivial, trivial, trivial⟩, memA1 (padM n (fwS D 2)) ⟨ObSub.refl _, ObSub.ii (mix_all' hfn.symm), ObSub.ii (mix_all' hfn.symm), ObSub.ii (mix_all' hfn.symm), ObSub.ii (mix_all' hfn.symm), ObSub.ii (mix_all' hfn.symm), trivial⟩ ⟨⟨2 + 1, hx2, rfl, by rw [hdn]⟩, ?_⟩⟩
     simp [V.toInt, sel, Env.get]; omega
  ·((conv=>whnf);repeat (refine Wa ?_;(repeat (first|refine Wb ?_|refine Wc ?_|refine Wd ?_|refine We ?_|refine Wf ?_));(conv=>whnf)))
   have hxn : n = 2 := by have h := hge; simp at h; omega
   exact ⟨_, rfl, rfl, congrArg (padM n) (show dsM n W 2 = drr n W by unfold drr; rw [hxn])⟩
 ·have hdn : dsM n W (3 + 1) = fwS (dsM n W 3) 3 := rfl
  have hB := (dsM_is (n := n) (W := W) 3 hx).1
  ((conv=>whnf);repeat (refine Wa ?_;(repeat (first|refine Wb ?_|refine Wc ?_|refine Wd ?_|refine We ?_|refine Wf ?_));(conv=>whnf)))
  refine br_dec (fun hlt => ?_) (fun hge => ?_)
  ·have hx3 : 3 < n := by have h := hlt; simp at h; omega
   generalize dsM n W 3 = D at *
   ((conv=>whnf);repeat (refine Wa ?_;(repeat (first|refine Wb ?_|refine Wc ?_|refine Wd ?_|refine We ?_|refine Wf ?_));(conv=>whnf)))
   refine AW_loopA (X := xD) tab_ok [5, 6, 18, 19, 20, 23, 24, 25] (fun t => Nat.ble t 5) (fun vs M => ∃ f : Nat, f ≤ n ∧ vs = [.sl 0 0 0 n, .int (3 : Nat), .sl 0 0 0 n, .int n, .int (3 : Nat), .sl 0 0 0 n, .int n, .int f] ∧ M = mixM n D 3 f 0)
    (fun vs _ => n - (vs.getD 7 .any).toInt.toNat) (fun t ht => by have : t < 6 := ht; simp; omega) ?_ ?_
   ·exact memA0 (mixM n D 3 0 0) ⟨ObSub.refl _, ObSub.ii mix_zero, ObSub.ii mix_zero, ObSub.ii mix_zero, ObSub.ii mix_zero, ObSub.ii mix_zero, trivial⟩ ⟨0, Nat.zero_le _, rfl, rfl⟩
   rintro vs M ⟨f, hf, rfl, rfl⟩
   rcases (by omega : f = 0 ∨ f = 1 ∨ f = 2 ∨ f = 3 ∨ f = 4 ∨ f = 5) with rfl | rfl | rfl | rfl | rfl | rfl
   ·((conv=>whnf);repeat (refine Wa ?_;(repeat (first|refine Wb ?_|refine Wc ?_|refine Wd ?_|refine We ?_|refine Wf ?_));(conv=>whnf)))
    refine br_dec (fun hlt2 => ?_) (fun hge2 => ?_)
    ·have hf0 : 0 < n := by have h := hlt2; simp at h; omega
     ((conv=>whnf);repeat (refine Wa ?_;(repeat (first|refine Wb ?_|refine Wc ?_|refine Wd ?_|refine We ?_|refine Wf ?_));(conv=>whnf)))
     refine ⟨zn 0, ?_⟩
     refine ⟨(show ((0 : Nat) : Int) < (n : Int) by omega), ?_⟩
     ((conv=>whnf);repeat (refine Wa ?_;(repeat (first|refine Wb ?_|refine Wc ?_|refine Wd ?_|refine We ?_|refine Wf ?_));(conv=>whnf)))
     refine AW_loopA (X := xD) tab_ok [5, 6, 8, 18, 19, 20, 23, 24, 25, 29, 30, 31] (fun t => Nat.ble t 5) (fun vs M => ∃ y : Nat, y ≤ n ∧ vs = [.sl 0 0 0 n, .int (3 : Nat), .sl (1 + 0) 0 0 n, .sl 0 0 0 n, .int n, .int (3 : Nat), .sl 0 0 0 n, .int n, .int (0 : Nat), .sl (1 + 0) 0 0 n, .int n, .int y] ∧ M = mixM n D 3 0 y)
      (fun vs _ => n - (vs.getD 11 .any).toInt.toNat) (fun t ht => by have : t < 6 := ht; simp; omega) ?_ ?_
     ·exact same0 ⟨0, Nat.zero_le _, rfl, rfl⟩
     rintro vs M ⟨y, hy0, rfl, rfl⟩
     ((conv=>whnf);repeat (refine Wa ?_;(repeat (first|refine Wb ?_|refine Wc ?_|refine Wd ?_|refine We ?_|refine Wf ?_));(conv=>whnf)))
     refine br_dec (fun hlt3 => ?_) (fun hge3 => ?_)
     ·have hy : y < n := by omega
      have b1 := mix_bd (f := 0) (y := y) hW hB hx3 hf0 hy
      have b2 := mix_bd (f := 0) (y := y) hW hB hx3 hf0 hx3
      have b3 : -1000 ≤ (mixR n D 3 0 y 3).getD (0 + y) 0 ∧ (mixR n D 3 0 y 3).getD (0 + y) 0 ≤ 1000 := by rw [Nat.zero_add]; exact mix_bd (f := 0) (y := y) hW hB hx3 hx3 hy
      ((conv=>whnf);repeat (refine Wa ?_;(repeat (first|refine Wb ?_|refine Wc ?_|refine Wd ?_|refine We ?_|refine Wf ?_));(conv=>whnf)))
      refine AW_draw (X := xD) tab_ok mixed (by kernel_rfl) ?_
      conv=>whnf
      refine ⟨zn y, ?_⟩
      refine ⟨(show (y : Int) < (n : Int) by omega), ?_⟩
      conv=>whnf
      refine ⟨zn 3, ?_⟩
      refine ⟨(show ((3 : Nat) : Int) < (n : Int) by omega), ?_⟩
      conv=>whnf
      refine ⟨zn 3, ?_⟩
      refine ⟨(show ((3 : Nat) : Int) < (n : Int) by omega), ?_⟩
      conv=>whnf
      refine ⟨zn y, ?_⟩
      refine ⟨(show (y : Int) < (n : Int) by omega), ?_⟩
      conv=>whnf
      refine ⟨(show InR ((mixR n D 3 0 y 0).getD 3 0 + (mixR n D 3 0 y 3).getD (0 + y) 0) from inr (by omega)), ?_⟩
      conv=>whnf
      refine ⟨zn y, ?_⟩
      refine ⟨(show (y : Int) < (n : Int) by omega), ?_⟩
      ((conv=>whnf);repeat (refine Wa ?_;(repeat (first|refine Wb ?_|refine Wc ?_|refine Wd ?_|refine We ?_|refine Wf ?_));(conv=>whnf)))
      refine ⟨inr (by omega), ?_⟩
      conv=>whnf
      refine ⟨by exact ⟨by repeat (first|exact trivial|exact rfl|exact fun _=>trivial|exact fun _ _=>trivial|exact fun _ _ _=>trivial|exact fun _ _ _ _=>trivial|refine And.intro ?_ ?_), namedO (by omega), trivial, trivial, trivial, trivial, trivial, trivial⟩, memA1 (mixM n D 3 0 (y + 1)) ⟨ObSub.refl _, ObSub.ii (mix_put hB hx3 hf0 hy (Nat.zero_add y)), ObSub.ii (mix_other (by decide)), ObSub.ii (mix_other (by decide)), ObSub.ii (mix_other (by decide)), ObSub.ii (mix_other (by decide)), trivial⟩ ⟨⟨y + 1, hy, rfl, rfl⟩, ?_⟩⟩
      simp [V.toInt, sel, Env.get]; omega
     ·obtain rfl : n = y := by omega
      ((conv=>whnf);repeat (refine Wa ?_;(repeat (first|refine Wb ?_|refine Wc ?_|refine Wd ?_|refine We ?_|refine Wf ?_));(conv=>whnf)))
      refine ⟨inr (by omega), ?_⟩
      conv=>whnf
      refine ⟨by exact ⟨by repeat (first|exact trivial|exact rfl|exact fun _=>trivial|exact fun _ _=>trivial|exact fun _ _ _=>trivial|exact fun _ _ _ _=>trivial|refine And.intro ?_ ?_), namedO (by omega), trivial, trivial, trivial, trivial, trivial, trivial⟩, memA1 (mixM n D 3 (0 + 1) 0) ⟨ObSub.refl _, ObSub.ii mix_end, ObSub.ii mix_end, ObSub.ii mix_end, ObSub.ii mix_end, ObSub.ii mix_end, trivial⟩ ⟨⟨0 + 1, hf0, rfl, rfl⟩, ?_⟩⟩
      simp [V.toInt, sel, Env.get]; omega
    ·((conv=>whnf);repeat (refine Wa ?_;(repeat (first|refine Wb ?_|refine Wc ?_|refine Wd ?_|refine We ?_|refine Wf ?_));(conv=>whnf)))
     refine ⟨inr (by omega), ?_⟩
     conv=>whnf
     have hfn : n = 0 := by have h := hge2; simp at h; omega
     refine ⟨by exact ⟨by repeat (first|exact trivial|exact rfl|exact fun _=>trivial|exact fun _ _=>trivial|exact fun _ _ _=>trivial|exact fun _ _ _ _=>trivial|refine And.intro ?_ ?_), namedO (by omega), trivial, trivial, trivial, trivial, trivial, trivial⟩, memA1 (padM n (fwS D 3)) ⟨ObSub.refl _, ObSub.ii (mix_all' hfn.symm), ObSub.ii (mix_all' hfn.symm), ObSub.ii (mix_all' hfn.symm), ObSub.ii (mix_all' hfn.symm), ObSub.ii (mix_all' hfn.symm), trivial⟩ ⟨⟨3 + 1, hx3, rfl, by rw [hdn]⟩, ?_⟩⟩
     simp [V.toInt, sel, Env.get]; omega
   ·((conv=>whnf);repeat (refine Wa ?_;(repeat (first|refine Wb ?_|refine Wc ?_|refine Wd ?_|refine We ?_|refine Wf ?_));(conv=>whnf)))
    refine br_dec (fun hlt2 => ?_) (fun hge2 => ?_)
    ·have hf1 : 1 < n := by have h := hlt2; simp at h; omega
     ((conv=>whnf);repeat (refine Wa ?_;(repeat (first|refine Wb ?_|refine Wc ?_|refine Wd ?_|refine We ?_|refine Wf ?_));(conv=>whnf)))
     refine ⟨zn 1, ?_⟩
     refine ⟨(show ((1 : Nat) : Int) < (n : Int) by omega), ?_⟩
     ((conv=>whnf);repeat (refine Wa ?_;(repeat (first|refine Wb ?_|refine Wc ?_|refine Wd ?_|refine We ?_|refine Wf ?_));(conv=>whnf)))
     refine AW_loopA (X := xD) tab_ok [5, 6, 8, 18, 19, 20, 23, 24, 25, 29, 30, 31] (fun t => Nat.ble t 5) (fun vs M => ∃ y : Nat, y ≤ n ∧ vs = [.sl 0 0 0 n, .int (3 : Nat), .sl (1 + 1) 0 0 n, .sl 0 0 0 n, .int n, .int (3 : Nat), .sl 0 0 0 n, .int n, .int (1 : Nat), .sl (1 + 1) 0 0 n, .int n, .int y] ∧ M = mixM n D 3 1 y)
      (fun vs _ => n - (vs.getD 11 .any).toInt.toNat) (fun t ht => by have : t < 6 := ht; simp; omega) ?_ ?_
     ·exact same0 ⟨0, Nat.zero_le _, rfl, rfl⟩
     rintro vs M ⟨y, hy0, rfl, rfl⟩
     ((conv=>whnf);repeat (refine Wa ?_;(repeat (first|refine Wb ?_|refine Wc ?_|refine Wd ?_|refine We ?_|refine Wf ?_));(conv=>whnf)))
     refine br_dec (fun hlt3 => ?_) (fun hge3 => ?_)
     ·have hy : y < n := by omega
      have b1 := mix_bd (f := 1) (y := y) hW hB hx3 hf1 hy
      have b2 := mix_bd (f := 1) (y := y) hW hB hx3 hf1 hx3
      have b3 : -1000 ≤ (mixR n D 3 1 y 3).getD (0 + y) 0 ∧ (mixR n D 3 1 y 3).getD (0 + y) 0 ≤ 1000 := by rw [Nat.zero_add]; exact mix_bd (f := 1) (y := y) hW hB hx3 hx3 hy
      ((conv=>whnf);repeat (refine Wa ?_;(repeat (first|refine Wb ?_|refine Wc ?_|refine Wd ?_|refine We ?_|refine Wf ?_));(conv=>whnf)))
      refine AW_draw (X := xD) tab_ok mixed (by kernel_rfl) ?_
      conv=>whnf
      refine ⟨zn y, ?_⟩
      refine ⟨(show (y : Int) < (n : Int) by omega), ?_⟩
      conv=>whnf
      refine ⟨zn 3, ?_⟩
      refine ⟨(show ((3 : Nat) : Int) < (n : Int) by omega), ?_⟩
      conv=>whnf
      refine ⟨zn 3, ?_⟩
      refine ⟨(show ((3 : Nat) : Int) < (n : Int) by omega), ?_⟩
      conv=>whnf
      refine ⟨zn y, ?_⟩
      refine ⟨(show (y : Int) < (n : Int) by omega), ?_⟩
      conv=>whnf
      refine ⟨(show InR ((mixR n D 3 1 y 1).getD 3 0 + (mixR n D 3 1 y 3).getD (0 + y) 0) from inr (by omega)), ?_⟩
      conv=>whnf
      refine ⟨zn y, ?_⟩
      refine ⟨(show (y : Int) < (n : Int) by omega), ?_⟩
      ((conv=>whnf);repeat (refine Wa ?_;(repeat (first|refine Wb ?_|refine Wc ?_|refine Wd ?_|refine We ?_|refine Wf ?_));(conv=>whnf)))
      refine ⟨inr (by omega), ?_⟩
      conv=>whnf
      refine ⟨by exact ⟨by repeat (first|exact trivial|exact rfl|exact fun _=>trivial|exact fun _ _=>trivial|exact fun _ _ _=>trivial|exact fun _ _ _ _=>trivial|refine And.intro ?_ ?_), namedO (by omega), trivial, trivial, trivial, trivial, trivial, trivial⟩, memA1 (mixM n D 3 1 (y + 1)) ⟨ObSub.refl _, ObSub.ii (mix_other (by decide)), ObSub.ii (mix_put hB hx3 hf1 hy (Nat.zero_add y)), ObSub.ii (mix_other (by decide)), ObSub.ii (mix_other (by decide)), ObSub.ii (mix_other (by decide)), trivial⟩ ⟨⟨y + 1, hy, rfl, rfl⟩, ?_⟩⟩
      simp [V.toInt, sel, Env.get]; omega
     ·obtain rfl : n = y := by omega
      ((conv=>whnf);repeat (refine Wa ?_;(repeat (first|refine Wb ?_|refine Wc ?_|refine Wd ?_|refine We ?_|refine Wf ?_));(conv=>whnf)))
      refine ⟨inr (by omega), ?_⟩
      conv=>whnf
      refine ⟨by exact ⟨by repeat (first|exact trivial|exact rfl|exact fun _=>trivial|exact fun _ _=>trivial|exact fun _ _ _=>trivial|exact fun _ _ _ _=>trivial|refine And.intro ?_ ?_), namedO (by omega), trivial, trivial, trivial, trivial, trivial, trivial⟩, memA1 (mixM n D 3 (1 + 1) 0) ⟨ObSub.refl _, ObSub.ii mix_end, ObSub.ii mix_end, ObSub.ii mix_end, ObSub.ii mix_end, ObSub.ii mix_end, trivial⟩ ⟨⟨1 + 1, hf1, rfl, rfl⟩, ?_⟩⟩
      simp [V.toInt, sel, Env.get]; omega
    ·((conv=>whnf);repeat (refine Wa ?_;(repeat (first|refine Wb ?_|refine Wc ?_|refine Wd ?_|refine We ?_|refine Wf ?_));(conv=>whnf)))
     refine ⟨inr (by omega), ?_⟩
     conv=>whnf
     have hfn : n = 1 := by have h := hge2; simp at h; omega
     refine ⟨by exact ⟨by repeat (first|exact trivial|exact rfl|exact fun _=>trivial|exact fun _ _=>trivial|exact fun _ _ _=>trivial|exact fun _ _ _ _=>trivial|refine And.intro ?_ ?_), namedO (by omega), trivial, trivial, trivial, trivial, trivial, trivial⟩, memA1 (padM n (fwS D 3)) ⟨ObSub.refl _, ObSub.ii (mix_all' hfn.symm), ObSub.ii (mix_all' hfn.symm), ObSub.ii (mix_all' hfn.symm), ObSub.ii (mix_all' hfn.symm), ObSub.ii (mix_all' hfn.symm), trivial⟩ ⟨⟨3 + 1, hx3, rfl, by rw [hdn]⟩, ?_⟩⟩
     simp [V.toInt, sel, Env.get]; omega
   ·((conv=>whnf);repeat (refine Wa ?_;(repeat (first|refine Wb ?_|refine Wc ?_|refine Wd ?_|refine We ?_|refine Wf ?_));(conv=>whnf)))
    refine br_dec (fun hlt2 => ?_) (fun hge2 => ?_)
    ·have hf2 : 2 < n := by have h := hlt2; simp at h; omega
     ((conv=>whnf);repeat (refine Wa ?_;(repeat (first|refine Wb ?_|refine Wc ?_|refine Wd ?_|refine We ?_|refine Wf ?_));(conv=>whnf)))
     refine ⟨zn 2, ?_⟩
     refine ⟨(show ((2 : Nat) : Int) < (n : Int) by omega), ?_⟩
     ((conv=>whnf);repeat (refine Wa ?_;(repeat (first|refine Wb ?_|refine Wc ?_|refine Wd ?_|refine We ?_|refine Wf ?_));(conv=>whnf)))
     refine AW_loopA (X := xD) tab_ok [5, 6, 8, 18, 19, 20, 23, 24, 25, 29, 30, 31] (fun t => Nat.ble t 5) (fun vs M => ∃ y : Nat, y ≤ n ∧ vs = [.sl 0 0 0 n, .int (3 : Nat), .sl (1 + 2) 0 0 n, .sl 0 0 0 n, .int n, .int (3 : Nat), .sl 0 0 0 n, .int n, .int (2 : Nat), .sl (1 + 2) 0 0 n, .int n, .int y] ∧ M = mixM n D 3 2 y)
      (fun vs _ => n - (vs.getD 11 .any).toInt.toNat) (fun t ht => by have : t < 6 := ht; simp; omega) ?_ ?_
     ·exact same0 ⟨0, Nat.zero_le _, rfl, rfl⟩
     rintro vs M ⟨y, hy0, rfl, rfl⟩
     ((conv=>whnf);repeat (refine Wa ?_;(repeat (first|refine Wb ?_|refine Wc ?_|refine Wd ?_|refine We ?_|refine Wf ?_));(conv=>whnf)))
     refine br_dec (fun hlt3 => ?_) (fun hge3 => ?_)
     ·have hy : y < n := by omega
      have b1 := mix_bd (f := 2) (y := y) hW hB hx3 hf2 hy
      have b2 := mix_bd (f := 2) (y := y) hW hB hx3 hf2 hx3
      have b3 : -1000 ≤ (mixR n D 3 2 y 3).getD (0 + y) 0 ∧ (mixR n D 3 2 y 3).getD (0 + y) 0 ≤ 1000 := by rw [Nat.zero_add]; exact mix_bd (f := 2) (y := y) hW hB hx3 hx3 hy
      ((conv=>whnf);repeat (refine Wa ?_;(repeat (first|refine Wb ?_|refine Wc ?_|refine Wd ?_|refine We ?_|refine Wf ?_));(conv=>whnf)))
      refine AW_draw (X := xD) tab_ok mixed (by kernel_rfl) ?_
      conv=>whnf
      refine ⟨zn y, ?_⟩
      refine ⟨(show (y : Int) < (n : Int) by omega), ?_⟩
      conv=>whnf
      refine ⟨zn 3, ?_⟩
      refine ⟨(show ((3 : Nat) : Int) < (n : Int) by omega), ?_⟩
      conv=>whnf
      refine ⟨zn 3, ?_⟩
      refine ⟨(show ((3 : Nat) : Int) < (n : Int) by omega), ?_⟩
      conv=>whnf
      refine ⟨zn y, ?_⟩
      refine ⟨(show (y : Int) < (n : Int) by omega), ?_⟩
      conv=>whnf
      refine ⟨(show InR ((mixR n D 3 2 y 2).getD 3 0 + (mixR n D 3 2 y 3).getD (0 + y) 0) from inr (by omega)), ?_⟩
      conv=>whnf
      refine ⟨zn y, ?_⟩
      refine ⟨(show (y : Int) < (n : Int) by omega), ?_⟩
      ((conv=>whnf);repeat (refine Wa ?_;(repeat (first|refine Wb ?_|refine Wc ?_|refine Wd ?_|refine We ?_|refine Wf ?_));(conv=>whnf)))
      refine ⟨inr (by omega), ?_⟩
      conv=>whnf
      refine ⟨by exact ⟨by repeat (first|exact trivial|exact rfl|exact fun _=>trivial|exact fun _ _=>trivial|exact fun _ _ _=>trivial|exact fun _ _ _ _=>trivial|refine And.intro ?_ ?_), namedO (by omega), trivial, trivial, trivial, trivial, trivial, trivial⟩, memA1 (mixM n D 3 2 (y + 1)) ⟨ObSub.refl _, ObSub.ii (mix_other (by decide)), ObSub.ii (mix_other (by decide)), ObSub.ii (mix_put hB hx3 hf2 hy (Nat.zero_add y)), ObSub.ii (mix_other (by decide)), ObSub.ii (mix_other (by decide)), trivial⟩ ⟨⟨y + 1, hy, rfl, rfl⟩, ?_⟩⟩
      simp [V.toInt, sel, Env.get]; omega
     ·obtain rfl : n = y := by omega
      ((conv=>whnf);repeat (refine Wa ?_;(repeat (first|refine Wb ?_|refine Wc ?_|refine Wd ?_|refine We ?_|refine Wf ?_));(conv=>whnf)))
      refine ⟨inr (by omega), ?_⟩
      conv=>whnf
      refine ⟨by exact ⟨by repeat (first|exact trivial|exact rfl|exact fun _=>trivial|exact fun _ _=>trivial|exact fun _ _ _=>trivial|exact fun _ _ _ _=>trivial|refine And.intro ?_ ?_), namedO (by omega), trivial, trivial, trivial, trivial, trivial, trivial⟩, memA1 (mixM n D 3 (2 + 1) 0) ⟨ObSub.refl _, ObSub.ii mix_end, ObSub.ii mix_end, ObSub.ii mix_end, ObSub.ii mix_end, ObSub.ii mix_end, trivial⟩ ⟨⟨2 + 1, hf2, rfl, rfl⟩, ?_⟩⟩
      simp [V.toInt, sel, Env.get]; omega
    ·((conv=>whnf);repeat (refine Wa ?_;(repeat (first|refine Wb ?_|refine Wc ?_|refine Wd ?_|refine We ?_|refine Wf ?_));(conv=>whnf)))
     refine ⟨inr (by omega), ?_⟩
     conv=>whnf
     have hfn : n = 2 := by have h := hge2; simp at h; omega
     refine ⟨by exact ⟨by repeat (first|exact trivial|exact rfl|exact fun _=>trivial|exact fun _ _=>trivial|exact fun _ _ _=>trivial|exact fun _ _ _ _=>trivial|refine And.intro ?_ ?_), namedO (by omega), trivial, trivial, trivial, trivial, trivial, trivial⟩, memA1 (padM n (fwS D 3)) ⟨ObSub.refl _, ObSub.ii (mix_all' hfn.symm), ObSub.ii (mix_all' hfn.symm), ObSub.ii (mix_all' hfn.symm), ObSub.ii (mix_all' hfn.symm), ObSub.ii (mix_all' hfn.symm), trivial⟩ ⟨⟨3 + 1, hx3, rfl, by rw [hdn]⟩, ?_⟩⟩
     simp [V.toInt, sel, Env.get]; omega
   ·((conv=>whnf);repeat (refine Wa ?_;(repeat (first|refine Wb ?_|refine Wc ?_|refine Wd ?_|refine We ?_|refine Wf ?_));(conv=>whnf)))
    refine br_dec (fun hlt2 => ?_) (fun hge2 => ?_)
    ·have hf3 : 3 < n := by have h := hlt2; simp at h; omega
     ((conv=>whnf);repeat (refine Wa ?_;(repeat (first|refine Wb ?_|refine Wc ?_|refine Wd ?_|refine We ?_|refine Wf ?_));(conv=>whnf)))
     refine ⟨zn 3, ?_⟩
     refine ⟨(show ((3 : Nat) : Int) < (n : Int) by omega), ?_⟩
     ((conv=>whnf);repeat (refine Wa ?_;(repeat (first|refine Wb ?_|refine Wc ?_|refine Wd ?_|refine We ?_|refine Wf ?_));(conv=>whnf)))
     refine AW_loopA (X := xD) tab_ok [5, 6, 8, 18, 19, 20, 23, 24, 25, 29, 30, 31] (fun t => Nat.ble t 5) (fun vs M => ∃ y : Nat, y ≤ n ∧ vs = [.sl 0 0 0 n, .int (3 : Nat), .sl (1 + 3) 0 0 n, .sl 0 0 0 n, .int n, .int (3 : Nat), .sl 0 0 0 n, .int n, .int (3 : Nat), .sl (1 + 3) 0 0 n, .int n, .int y] ∧ M = mixM n D 3 3 y)
      (fun vs _ => n - (vs.getD 11 .any).toInt.toNat) (fun t ht => by have : t < 6 := ht; simp; omega) ?_ ?_
     ·exact same0 ⟨0, Nat.zero_le _, rfl, rfl⟩
     rintro vs M ⟨y, hy0, rfl, rfl⟩
     ((conv=>whnf);repeat (refine Wa ?_;(repeat (first|refine Wb ?_|refine Wc ?_|refine Wd ?_|refine We ?_|refine Wf ?_));(conv=>whnf)))
     refine br_dec (fun hlt3 => ?_) (fun hge3 => ?_)
     ·have hy : y < n := by omega
      have b1 := mix_bd (f := 3) (y := y) hW hB hx3 hf3 hy
      have b2 := mix_bd (f := 3) (y := y) hW hB hx3 hf3 hx3
      have b3 : -1000 ≤ (mixR n D 3 3 y 3).getD (0 + y) 0 ∧ (mixR n D 3 3 y 3).getD (0 + y) 0 ≤ 1000 := by rw [Nat.zero_add]; exact mix_bd (f := 3) (y := y) hW hB hx3 hx3 hy
      ((conv=>whnf);repeat (refine Wa ?_;(repeat (first|refine Wb ?_|refine Wc ?_|refine Wd ?_|refine We ?_|refine Wf ?_));(conv=>whnf)))
      refine AW_draw (X := xD) tab_ok mixed (by kernel_rfl) ?_
      conv=>whnf
      refine ⟨zn y, ?_⟩
      refine ⟨(show (y : Int) < (n : Int) by omega), ?_⟩
      conv=>whnf
      refine ⟨zn 3, ?_⟩
      refine ⟨(show ((3 : Nat) : Int) < (n : Int) by omega), ?_⟩
      conv=>whnf
      refine ⟨zn 3, ?_⟩
      refine ⟨(show ((3 : Nat) : Int) < (n : Int) by omega), ?_⟩
      conv=>whnf
      refine ⟨zn y, ?_⟩
      refine ⟨(show (y : Int) < (n : Int) by omega), ?_⟩
      conv=>whnf
      refine ⟨(show InR ((mixR n D 3 3 y 3).getD 3 0 + (mixR n D 3 3 y 3).getD (0 + y) 0) from inr (by omega)), ?_⟩
      conv=>whnf
      refine ⟨zn y, ?_⟩
      refine ⟨(show (y : Int) < (n : Int) by omega), ?_⟩
      ((conv=>whnf);repeat (refine Wa ?_;(repeat (first|refine Wb ?_|refine Wc ?_|refine Wd ?_|refine We ?_|refine Wf ?_));(conv=>whnf)))
      refine ⟨inr (by omega), ?_⟩
      conv=>whnf
      refine ⟨by exact ⟨by repeat (first|exact trivial|exact rfl|exact fun _=>trivial|exact fun _ _=>trivial|exact fun _ _ _=>trivial|exact fun _ _ _ _=>trivial|refine And.intro ?_ ?_), namedO (by omega), trivial, trivial, trivial, trivial, trivial, trivial⟩, memA1 (mixM n D 3 3 (y + 1)) ⟨ObSub.refl _, ObSub.ii (mix_other (by decide)), ObSub.ii (mix_other (by decide)), ObSub.ii (mix_other (by decide)), ObSub.ii (mix_put hB hx3 hf3 hy (Nat.zero_add y)), ObSub.ii (mix_other (by decide)), trivial⟩ ⟨⟨y + 1, hy, rfl, rfl⟩, ?_⟩⟩
      simp [V.toInt, sel, Env.get]; omega
     ·obtain rfl : n = y := by omega
      ((conv=>whnf);repeat (refine Wa ?_;(repeat (first|refine Wb ?_|refine Wc ?_|refine Wd ?_|refine We ?_|refine Wf ?_));(conv=>whnf)))
      refine ⟨inr (by omega), ?_⟩
      conv=>whnf
      refine ⟨by exact ⟨by repeat (first|exact trivial|exact rfl|exact fun _=>trivial|exact fun _ _=>trivial|exact fun _ _ _=>trivial|exact fun _ _ _ _=>trivial|refine And.intro ?_ ?_), namedO (by omega), trivial, trivial, trivial, trivial, trivial, trivial⟩, memA1 (mixM n D 3 (3 + 1) 0) ⟨ObSub.refl _, ObSub.ii mix_end, ObSub.ii mix_end, ObSub.ii mix_end, ObSub.ii mix_end, ObSub.ii mix_end, trivial⟩ ⟨⟨3 + 1, hf3, rfl, rfl⟩, ?_⟩⟩
      simp [V.toInt, sel, Env.get]; omega
    ·((conv=>whnf);repeat (refine Wa ?_;(repeat (first|refine Wb ?_|refine Wc ?_|refine Wd ?_|refine We ?_|refine Wf ?_));(conv=>whnf)))
     refine ⟨inr (by omega), ?_⟩
     conv=>whnf
     have hfn : n = 3 := by have h := hge2; simp at h; omega
     refine ⟨by exact ⟨by repeat (first|exact trivial|exact rfl|exact fun _=>trivial|exact fun _ _=>trivial|exact fun _ _ _=>trivial|exact fun _ _ _ _=>trivial|refine And.intro ?_ ?_), namedO (by omega), trivial, trivial, trivial, trivial, trivial, trivial⟩, memA1 (padM n (fwS D 3)) ⟨ObSub.refl _, ObSub.ii (mix_all' hfn.symm), ObSub.ii (mix_all' hfn.symm), ObSub.ii (mix_all' hfn.symm), ObSub.ii (mix_all' hfn.symm), ObSub.ii (mix_all' hfn.symm), trivial⟩ ⟨⟨3 + 1, hx3, rfl, by rw [hdn]⟩, ?_⟩⟩
     simp [V.toInt, sel, Env.get]; omega
   ·((conv=>whnf);repeat (refine Wa ?_;(repeat (first|refine Wb ?_|refine Wc ?_|refine Wd ?_|refine We ?_|refine Wf ?_));(conv=>whnf)))
    refine br_dec (fun hlt2 => ?_) (fun hge2 => ?_)
    ·have hf4 : 4 < n := by have h := hlt2; simp at h; omega
     ((conv=>whnf);repeat (refine Wa ?_;(repeat (first|refine Wb ?_|refine Wc ?_|refine Wd ?_|refine We ?_|refine Wf ?_));(conv=>whnf)))
     refine ⟨zn 4, ?_⟩
     refine ⟨(show ((4 : Nat) : Int) < (n : Int) by omega), ?_⟩
     ((conv=>whnf);repeat (refine Wa ?_;(repeat (first|refine Wb ?_|refine Wc ?_|refine Wd ?_|refine We ?_|refine Wf ?_));(conv=>whnf)))
     refine AW_loopA (X := xD) tab_ok [5, 6, 8, 18, 19, 20, 23, 24, 25, 29, 30, 31] (fun t => Nat.ble t 5) (fun vs M => ∃ y : Nat, y ≤ n ∧ vs = [.sl 0 0 0 n, .int (3 : Nat), .sl (1 + 4) 0 0 n, .sl 0 0 0 n, .int n, .int (3 : Nat), .sl 0 0 0 n, .int n, .int (4 : Nat), .sl (1 + 4) 0 0 n, .int n, .int y] ∧ M = mixM n D 3 4 y)
      (fun vs _ => n - (vs.getD 11 .any).toInt.toNat) (fun t ht => by have : t < 6 := ht; simp; omega) ?_ ?_
     ·exact same0 ⟨0, Nat.zero_le _, rfl, rfl⟩
     rintro vs M ⟨y, hy0, rfl, rfl⟩
     ((conv=>whnf);repeat (refine Wa ?_;(repeat (first|refine Wb ?_|refine Wc ?_|refine Wd ?_|refine We ?_|refine Wf ?_));(conv=>whnf)))
     refine br_dec (fun hlt3 => ?_) (fun hge3 => ?_)
     ·have hy : y < n := by omega
      have b1 := mix_bd (f := 4) (y := y) hW hB hx3 hf4 hy
      have b2 := mix_bd (f := 4) (y := y) hW hB hx3 hf4 hx3
      have b3 : -1000 ≤ (mixR n D 3 4 y 3).getD (0 + y) 0 ∧ (mixR n D 3 4 y 3).getD (0 + y) 0 ≤ 1000 := by rw [Nat.zero_add]; exact mix_bd (f := 4) (y := y) hW hB hx3 hx3 hy
      ((conv=>whnf);repeat (refine Wa ?_;(repeat (first|refine Wb ?_|refine Wc ?_|refine Wd ?_|refine We ?_|refine Wf ?_));(conv=>whnf)))
      refine AW_draw (X := xD) tab_ok mixed (by kernel_rfl) ?_
      conv=>whnf
      refine ⟨zn y, ?_⟩
      refine ⟨(show (y : Int) < (n : Int) by omega), ?_⟩
      conv=>whnf
      refine ⟨zn 3, ?_⟩
      refine ⟨(show ((3 : Nat) : Int) < (n : Int) by omega), ?_⟩
      conv=>whnf
      refine ⟨zn 3, ?_⟩
      refine ⟨(show ((3 : Nat) : Int) < (n : Int) by omega), ?_⟩
      conv=>whnf
      refine ⟨zn y, ?_⟩
      refine ⟨(show (y : Int) < (n : Int) by omega), ?_⟩
      conv=>whnf
      refine ⟨(show InR ((mixR n D 3 4 y 4).getD 3 0 + (mixR n D 3 4 y 3).getD (0 + y) 0) from inr (by omega)), ?_⟩
      conv=>whnf
      refine ⟨zn y, ?_⟩
      refine ⟨(show (y : Int) < (n : Int) by omega), ?_⟩
      ((conv=>whnf);repeat (refine Wa ?_;(repeat (first|refine Wb ?_|refine Wc ?_|refine Wd ?_|refine We ?_|refine Wf ?_));(conv=>whnf)))
      refine ⟨inr (by omega), ?_⟩
      conv=>whnf
      refine ⟨by exact ⟨by repeat (first|exact trivial|exact rfl|exact fun _=>trivial|exact fun _ _=>trivial|exact fun _ _ _=>trivial|exact fun _ _ _ _=>trivial|refine And.intro ?_ ?_), namedO (by omega), trivial, trivial, trivial, trivial, trivial, trivial⟩, memA1 (mixM n D 3 4 (y + 1)) ⟨ObSub.refl _, ObSub.ii (mix_other (by decide)), ObSub.ii (mix_other (by decide)), ObSub.ii (mix_other (by decide)), ObSub.ii (mix_other (by decide)), ObSub.ii (mix_put hB hx3 hf4 hy (Nat.zero_add y)), trivial⟩ ⟨⟨y + 1, hy, rfl, rfl⟩, ?_⟩⟩
      simp [V.toInt, sel, Env.get]; omega
     ·obtain rfl : n = y := by omega
      ((conv=>whnf);repeat (refine Wa ?_;(repeat (first|refine Wb ?_|refine Wc ?_|refine Wd ?_|refine We ?_|refine Wf ?_));(conv=>whnf)))
      refine ⟨inr (by omega), ?_⟩
      conv=>whnf
      refine ⟨by exact ⟨by repeat (first|exact trivial|exact rfl|exact fun _=>trivial|exact fun _ _=>trivial|exact fun _ _ _=>trivial|exact fun _ _ _ _=>trivial|refine And.intro ?_ ?_), namedO (by omega), trivial, trivial, trivial, trivial, trivial, trivial⟩, memA1 (mixM n D 3 (4 + 1) 0) ⟨ObSub.refl _, ObSub.ii mix_end, ObSub.ii mix_end, ObSub.ii mix_end, ObSub.ii mix_end, ObSub.ii mix_end, trivial⟩ ⟨⟨4 + 1, hf4, rfl, rfl⟩, ?_⟩⟩
      simp [V.toInt, sel, Env.get]; omega
    ·((conv=>whnf);repeat (refine Wa ?_;(repeat (first|refine Wb ?_|refine Wc ?_|refine Wd ?_|refine We ?_|refine Wf ?_));(conv=>whnf)))
     refine ⟨inr (by omega), ?_⟩
     conv=>whnf
     have hfn : n = 4 := by have h := hge2; simp at h; omega
     refine ⟨by exact ⟨by repeat (first|exact trivial|exact rfl|exact fun _=>trivial|exact fun _ _=>trivial|exact fun _ _ _=>trivial|exact fun _ _ _ _=>trivial|refine And.intro ?_ ?_), namedO (by omega), trivial, trivial, trivial, trivial, trivial, trivial⟩, memA1 (padM n (fwS D 3)) ⟨ObSub.refl _, ObSub.ii (mix_all' hfn.symm), ObSub.ii (mix_all' hfn.symm), ObSub.ii (mix_all' hfn.symm), ObSub.ii (mix_all' hfn.symm), ObSub.ii (mix_all' hfn.symm), trivial⟩ ⟨⟨3 + 1, hx3, rfl, by rw [hdn]⟩, ?_⟩⟩
     simp [V.toInt, sel, Env.get]; omega
   ·have hfn : n = 5 := by omega
    ((conv=>whnf);repeat (refine Wa ?_;(repeat (first|refine Wb ?_|refine Wc ?_|refine Wd ?_|refine We ?_|refine Wf ?_));(conv=>whnf)))
    refine br_dec (fun hlt2 => ?_) (fun hge2 => ?_)
    ·exact absurd hlt2 (by simp; omega)
    ·((conv=>whnf);repeat (refine Wa ?_;(repeat (first|refine Wb ?_|refine Wc ?_|refine Wd ?_|refine We ?_|refine Wf ?_));(conv=>whnf)))
     refine ⟨inr (by omega), ?_⟩
     conv=>whnf
     refine ⟨by exact ⟨by repeat (first|exact trivial|exact rfl|exact fun _=>trivial|exact fun _ _=>trivial|exact fun _ _ _=>trivial|exact fun _ _ _ _=>trivial|refine And.intro ?_ ?_), namedO (by omega), trivial, trivial, trivial, trivial, trivial, trivial⟩, memA1 (padM n (fwS D 3)) ⟨ObSub.refl _, ObSub.ii (mix_all' hfn.symm), ObSub.ii (mix_all' hfn.symm), ObSub.ii (mix_all' hfn.symm), ObSub.ii (mix_all' hfn.symm), ObSub.ii (mix_all' hfn.symm), trivial⟩ ⟨⟨3 + 1, hx3, rfl, by rw [hdn]⟩, ?_⟩⟩
     simp [V.toInt, sel, Env.get]; omega
  ·((conv=>whnf);repeat (refine Wa ?_;(repeat (first|refine Wb ?_|refine Wc ?_|refine Wd ?_|refine We ?_|refine Wf ?_));(conv=>whnf)))
   have hxn : n = 3 := by have h := hge; simp at h; omega
   exact ⟨_, rfl, rfl, congrArg (padM n) (show dsM n W 3 = drr n W by unfold drr; rw [hxn])⟩
 ·have hdn : dsM n W (4 + 1) = fwS (dsM n W 4) 4 := rfl
  have hB := (dsM_is (n := n) (W := W) 4 hx).1
  ((conv=>whnf);repeat (refine Wa ?_;(repeat (first|refine Wb ?_|refine Wc ?_|refine Wd ?_|refine We ?_|refine Wf ?_));(conv=>whnf)))
  refine br_dec (fun hlt => ?_) (fun hge => ?_)
  ·have hx4 : 4 < n := by have h := hlt; simp at h; omega
   generalize dsM n W 4 = D at *
   ((conv=>whnf);repeat (refine Wa ?_;(repeat (first|refine Wb ?_|refine Wc ?_|refine Wd ?_|refine We ?_|refine Wf ?_));(conv=>whnf)))
   refine AW_loopA (X := xD) tab_ok [5, 6, 18, 19, 20, 23, 24, 25] (fun t => Nat.ble t 5) (fun vs M => ∃ f : Nat, f ≤ n ∧ vs = [.sl 0 0 0 n, .int (4 : Nat), .sl 0 0 0 n, .int n, .int (4 : Nat), .sl 0 0 0 n, .int n, .int f] ∧ M = mixM n D 4 f 0)
    (fun vs _ => n - (vs.getD 7 .any).toInt.toNat) (fun t ht => by have : t < 6 := ht; simp; omega) ?_ ?_
   ·exact memA0 (mixM n D 4 0 0) ⟨ObSub.refl _, ObSub.ii mix_zero, ObSub.ii mix_zero, ObSub.ii mix_zero, ObSub.ii mix_zero, ObSub.ii mix_zero, trivial⟩ ⟨0, Nat.zero_le _, rfl, rfl⟩
   rintro vs M ⟨f, hf, rfl, rfl⟩
   rcases (by omega : f = 0 ∨ f = 1 ∨ f = 2 ∨ f = 3 ∨ f = 4 ∨ f = 5) with rfl | rfl | rfl | rfl | rfl | rfl
   ·((conv=>whnf);repeat (refine Wa ?_;(repeat (first|refine Wb ?_|refine Wc ?_|refine Wd ?_|refine We ?_|refine Wf ?_));(conv=>whnf)))
    refine br_dec (fun hlt2 => ?_) (fun hge2 => ?_)
    ·have hf0 : 0 < n := by have h := hlt2; simp at h; omega
     ((conv=>whnf);repeat (refine Wa ?_;(repeat (first|refine Wb ?_|refine Wc ?_|refine Wd ?_|refine We ?_|refine Wf ?_));(conv=>whnf)))
     refine ⟨zn 0, ?_⟩
     refine ⟨(show ((0 : Nat) : Int) < (n : Int) by omega), ?_⟩
     ((conv=>whnf);repeat (refine Wa ?_;(repeat (first|refine Wb ?_|refine Wc ?_|refine Wd ?_|refine We ?_|refine Wf ?_));(conv=>whnf)))
     refine AW_loopA (X := xD) tab_ok [5, 6, 8, 18, 19, 20, 23, 24, 25, 29, 30, 31] (fun t => Nat.ble t 5) (fun vs M => ∃ y : Nat, y ≤ n ∧ vs = [.sl 0 0 0 n, .int (4 : Nat), .sl (1 + 0) 0 0 n, .sl 0 0 0 n, .int n, .int (4 : Nat), .sl 0 0 0 n, .int n, .int (0 : Nat), .sl (1 + 0) 0 0 n, .int n, .int y] ∧ M = mixM n D 4 0 y)
      (fun vs _ => n - (vs.getD 11 .any).toInt.toNat) (fun t ht => by have : t < 6 := ht; simp; omega) ?_ ?_
     ·exact same0 ⟨0, Nat.zero_le _, rfl, rfl⟩
     rintro vs M ⟨y, hy0, rfl, rfl⟩
     ((conv=>whnf);repeat (refine Wa ?_;(repeat (first|refine Wb ?_|refine Wc ?_|refine Wd ?_|refine We ?_|refine Wf ?_));(conv=>whnf)))
     refine br_dec (fun hlt3 => ?_) (fun hge3 => ?_)
     ·have hy : y < n := by omega
      have b1 := mix_bd (f := 0) (y := y) hW hB hx4 hf0 hy
      have b2 := mix_bd (f := 0) (y := y) hW hB hx4 hf0 hx4
      have b3 : -1000 ≤ (mixR n D 4 0 y 4).getD (0 + y) 0 ∧ (mixR n D 4 0 y 4).getD (0 + y) 0 ≤ 1000 := by rw [Nat.zero_add]; exact mix_bd (f := 0) (y := y) hW hB hx4 hx4 hy
      ((conv=>whnf);repeat (refine Wa ?_;(repeat (first|refine Wb ?_|refine Wc ?_|refine Wd ?_|refine We ?_|refine Wf ?_));(conv=>whnf)))
      refine AW_draw (X := xD) tab_ok mixed (by kernel_rfl) ?_
      conv=>whnf
      refine ⟨zn y, ?_⟩
      refine ⟨(show (y : Int) < (n : Int) by omega), ?_⟩
      conv=>whnf
      refine ⟨zn 4, ?_⟩
      refine ⟨(show ((4 : Nat) : Int) < (n : Int) by omega), ?_⟩
      conv=>whnf
      refine ⟨zn 4, ?_⟩
      refine ⟨(show ((4 : Nat) : Int) < (n : Int) by omega), ?_⟩
      conv=>whnf
      refine ⟨zn y, ?_⟩
      refine ⟨(show (y : Int) < (n : Int) by omega), ?_⟩
      conv=>whnf
      refine ⟨(show InR ((mixR n D 4 0 y 0).getD 4 0 + (mixR n D 4 0 y 4).getD (0 + y) 0) from inr (by omega)), ?_⟩
      conv=>whnf
      refine ⟨zn y, ?_⟩
      refine ⟨(show (y : Int) < (n : Int) by omega), ?_⟩
      ((conv=>whnf);repeat (refine Wa ?_;(repeat (first|refine Wb ?_|refine Wc ?_|refine Wd ?_|refine We ?_|refine Wf ?_));(conv=>whnf)))
      refine ⟨inr (by omega), ?_⟩
      conv=>whnf
      refine ⟨by exact ⟨by repeat (first|exact trivial|exact rfl|exact fun _=>trivial|exact fun _ _=>trivial|exact fun _ _ _=>trivial|exact fun _ _ _ _=>trivial|refine And.intro ?_ ?_), namedO (by omega), trivial, trivial, trivial, trivial, trivial, trivial⟩, memA1 (mixM n D 4 0 (y + 1)) ⟨ObSub.refl _, ObSub.ii (mix_put hB hx4 hf0 hy (Nat.zero_add y)), ObSub.ii (mix_other (by decide)), ObSub.ii (mix_other (by decide)), ObSub.ii (mix_other (by decide)), ObSub.ii (mix_other (by decide)), trivial⟩ ⟨⟨y + 1, hy, rfl, rfl⟩, ?_⟩⟩
      simp [V.toInt, sel, Env.get]; omega
     ·obtain rfl : n = y := by omega
      ((conv=>whnf);repeat (refine Wa ?_;(repeat (first|refine Wb ?_|refine Wc ?_|refine Wd ?_|refine We ?_|refine Wf ?_));(conv=>whnf)))
      refine ⟨inr (by omega), ?_⟩
      conv=>whnf
      refine ⟨by exact ⟨by repeat (first|exact trivial|exact rfl|exact fun _=>trivial|exact fun _ _=>trivial|exact fun _ _ _=>trivial|exact fun _ _ _ _=>trivial|refine And.intro ?_ ?_), namedO (by omega), trivial, trivial, trivial, trivial, trivial, trivial⟩, memA1 (mixM n D 4 (0 + 1) 0) ⟨ObSub.refl _, ObSub.ii mix_end, ObSub.ii mix_end, ObSub.ii mix_end, ObSub.ii mix_end, ObSub.ii mix_end, trivial⟩ ⟨⟨0 + 1, hf0, rfl, rfl⟩, ?_⟩⟩
      simp [V.toInt, sel, Env.get]; omega
    ·((conv=>whnf);repeat (refine Wa ?_;(repeat (first|refine Wb ?_|refine Wc ?_|refine Wd ?_|refine We ?_|refine Wf ?_));(conv=>whnf)))
     refine ⟨inr (by omega), ?_⟩
     conv=>whnf
     have hfn : n = 0 := by have h := hge2; simp at h; omega
     refine ⟨by exact ⟨by repeat (first|exact trivial|exact rfl|exact fun _=>trivial|exact fun _ _=>trivial|exact fun _ _ _=>trivial|exact fun _ _ _ _=>trivial|refine And.intro ?_ ?_), namedO (by omega), trivial, trivial, trivial, trivial, trivial, trivial⟩, memA1 (padM n (fwS D 4)) ⟨ObSub.refl _, ObSub.ii (mix_all' hfn.symm), ObSub.ii (mix_all' hfn.symm), ObSub.ii (mix_all' hfn.symm), ObSub.ii (mix_all' hfn.symm), ObSub.ii (mix_all' hfn.symm), trivial⟩ ⟨⟨4 + 1, hx4, rfl, by rw [hdn]⟩, ?_⟩⟩
     simp [V.toInt, sel, Env.get]; omega
   ·((conv=>whnf);repeat (refine Wa ?_;(repeat (first|refine Wb ?_|refine Wc ?_|refine Wd ?_|refine We ?_|refine Wf ?_));(conv=>whnf)))
    refine br_dec (fun hlt2 => ?_) (fun hge2 => ?_)
    ·have hf1 : 1 < n := by have h := hlt2; simp at h; omega
     ((conv=>whnf);repeat (refine Wa ?_;(repeat (first|refine Wb ?_|refine Wc ?_|refine Wd ?_|refine We ?_|refine Wf ?_));(conv=>whnf)))
     refine ⟨zn 1, ?_⟩
     refine ⟨(show ((1 : Nat) : Int) < (n : Int) by omega), ?_⟩
     ((conv=>whnf);repeat (refine Wa ?_;(repeat (first|refine Wb ?_|refine Wc ?_|refine Wd ?_|refine We ?_|refine Wf ?_));(conv=>whnf)))
     refine AW_loopA (X := xD) tab_ok [5, 6, 8, 18, 19, 20, 23, 24, 25, 29, 30, 31] (fun t => Nat.ble t 5) (fun vs M => ∃ y : Nat, y ≤ n ∧ vs = [.sl 0 0 0 n, .int (4 : Nat), .sl (1 + 1) 0 0 n, .sl 0 0 0 n, .int n, .int (4 : Nat), .sl 0 0 0 n, .int n, .int (1 : Nat), .sl (1 + 1) 0 0 n, .int n, .int y] ∧ M = mixM n D 4 1 y)
      (fun vs _ => n - (vs.getD 11 .any).toInt.toNat) (fun t ht => by have : t < 6 := ht; simp; omega) ?_ ?_
     ·exact same0 ⟨0, Nat.zero_le _, rfl, rfl⟩
     rintro vs M ⟨y, hy0, rfl, rfl⟩
     ((conv=>whnf);repeat (refine Wa ?_;(repeat (first|refine Wb ?_|refine Wc ?_|refine Wd ?_|refine We ?_|refine Wf ?_));(conv=>whnf)))
     refine br_dec (fun hlt3 => ?_) (fun hge3 => ?_)
     ·have hy : y < n := by omega
      have b1 := mix_bd (f := 1) (y := y) hW hB hx4 hf1 hy
      have b2 := mix_bd (f := 1) (y := y) hW hB hx4 hf1 hx4
      have b3 : -1000 ≤ (mixR n D 4 1 y 4).getD (0 + y) 0 ∧ (mixR n D 4 1 y 4).getD (0 + y) 0 ≤ 1000 := by rw [Nat.zero_add]; exact mix_bd (f := 1) (y := y) hW hB hx4 hx4 hy
      ((conv=>whnf);repeat (refine Wa ?_;(repeat (first|refine Wb ?_|refine Wc ?_|refine Wd ?_|refine We ?_|refine Wf ?_));(conv=>whnf)))
      refine AW_draw (X := xD) tab_ok mixed (by kernel_rfl) ?_
      conv=>whnf
      refine ⟨zn y, ?_⟩
      refine ⟨(show (y : Int) < (n : Int) by omega), ?_⟩
      conv=>whnf
      refine ⟨zn 4, ?_⟩
      refine ⟨(show ((4 : Nat) : Int) < (n : Int) by omega), ?_⟩
      conv=>whnf
      refine ⟨zn 4, ?_⟩
      refine ⟨(show ((4 : Nat) : Int) < (n : Int) by omega), ?_⟩
      conv=>whnf
      refine ⟨zn y, ?_⟩
      refine ⟨(show (y : Int) < (n : Int) by omega), ?_⟩
      conv=>whnf
      refine ⟨(show InR ((mixR n D 4 1 y 1).getD 4 0 + (mixR n D 4 1 y 4).getD (0 + y) 0) from inr (by omega)), ?_⟩
      conv=>whnf
      refine ⟨zn y, ?_⟩
      refine ⟨(show (y : Int) < (n : Int) by omega), ?_⟩
      ((conv=>whnf);repeat (refine Wa ?_;(repeat (first|refine Wb ?_|refine Wc ?_|refine Wd ?_|refine We ?_|refine Wf ?_));(conv=>whnf)))
      refine ⟨inr (by omega), ?_⟩
      conv=>whnf
      refine ⟨by exact ⟨by repeat (first|exact trivial|exact rfl|exact fun _=>trivial|exact fun _ _=>trivial|exact fun _ _ _=>trivial|exact fun _ _ _ _=>trivial|refine And.intro ?_ ?_), namedO (by omega), trivial, trivial, trivial, trivial, trivial, trivial⟩, memA1 (mixM n D 4 1 (y + 1)) ⟨ObSub.refl _, ObSub.ii (mix_other (by decide)), ObSub.ii (mix_put hB hx4 hf1 hy (Nat.zero_add y)), ObSub.ii (mix_other (by decide)), ObSub.ii (mix_other (by decide)), ObSub.ii (mix_other (by decide)), trivial⟩ ⟨⟨y + 1, hy, rfl, rfl⟩, ?_⟩⟩
      simp [V.toInt, sel, Env.get]; omega
     ·obtain rfl : n = y := by omega
      ((conv=>whnf);repeat (refine Wa ?_;(repeat (first|refine Wb ?_|refine Wc ?_|refine Wd ?_|refine We ?_|refine Wf ?_));(conv=>whnf)))
      refine ⟨inr (by omega), ?_⟩
      conv=>whnf
      refine ⟨by exact ⟨by repeat (first|exact trivial|exact rfl|exact fun _=>trivial|exact fun _ _=>trivial|exact fun _ _ _=>trivial|exact fun _ _ _ _=>trivial|refine And.intro ?_ ?_), namedO (by omega), trivial, trivial, trivial, trivial, trivial, trivial⟩, memA1 (mixM n D 4 (1 + 1) 0) ⟨ObSub.refl _, ObSub.ii mix_end, ObSub.ii mix_end, ObSub.ii mix_end, ObSub.ii mix_end, ObSub.ii mix_end, trivial⟩ ⟨⟨1 + 1, hf1, rfl, rfl⟩, ?_⟩⟩
      simp [V.toInt, sel, Env.get]; omega
    ·((conv=>whnf);repeat (refine Wa ?_;(repeat (first|refine Wb ?_|refine Wc ?_|refine Wd ?_|refine We ?_|refine Wf ?_));(conv=>whnf)))
     refine ⟨inr (by omega), ?_⟩
     conv=>whnf
     have hfn : n = 1 := by have h := hge2; simp at h; omega
     refine ⟨by exact ⟨by repeat (first|exact trivial|exact rfl|exact fun _=>trivial|exact fun _ _=>trivial|exact fun _ _ _=>trivial|exact fun _ _ _ _=>trivial|refine And.intro ?_ ?_), namedO (by omega), trivial, trivial, trivial, trivial, trivial, trivial⟩, memA1 (padM n (fwS D 4)) ⟨ObSub.refl _, ObSub.ii (mix_all' hfn.symm), ObSub.ii (mix_all' hfn.symm), ObSub.ii (mix_all' hfn.symm), ObSub.ii (mix_all' hfn.symm), ObSub.ii (mix_all' hfn.symm), trivial⟩ ⟨⟨4 + 1, hx4, rfl, by rw [hdn]⟩, ?_⟩⟩
     simp [V.toInt, sel, Env.get]; omega
   ·((conv=>whnf);repeat (refine Wa ?_;(repeat (first|refine Wb ?_|refine Wc ?_|refine Wd ?_|refine We ?_|refine Wf ?_));(conv=>whnf)))
    refine br_dec (fun hlt2 => ?_) (fun hge2 => ?_)
    ·have hf2 : 2 < n := by have h := hlt2; simp at h; omega
     ((conv=>whnf);repeat (refine Wa ?_;(repeat (first|refine Wb ?_|refine Wc ?_|refine Wd ?_|refine We ?_|refine Wf ?_));(conv=>whnf)))
     refine ⟨zn 2, ?_⟩
     refine ⟨(show ((2 : Nat) : Int) < (n : Int) by omega), ?_⟩
     ((conv=>whnf);repeat (refine Wa ?_;(repeat (first|refine Wb ?_|refine Wc ?_|refine Wd ?_|refine We ?_|refine Wf ?_));(conv=>whnf)))
     refine AW_loopA (X := xD) tab_ok [5, 6, 8, 18, 19, 20, 23, 24, 25, 29, 30, 31] (fun t => Nat.ble t 5) (fun vs M => ∃ y : Nat, y ≤ n ∧ vs = [.sl 0 0 0 n, .int (4 : Nat), .sl (1 + 2) 0 0 n, .sl 0 0 0 n, .int n, .int (4 : Nat), .sl 0 0 0 n, .int n, .int (2 : Nat), .sl (1 + 2) 0 0 n, .int n, .int y] ∧ M = mixM n D 4 2 y)
      (fun vs _ => n - (vs.getD 11 .any).toInt.toNat) (fun t ht => by have : t < 6 := ht; simp; omega) ?_ ?_
     ·exact same0 ⟨0, Nat.zero_le _, rfl, rfl⟩
     rintro vs M ⟨y, hy0, rfl, rfl⟩
     ((conv=>whnf);repeat (refine Wa ?_;(repeat (first|refine Wb ?_|refine Wc ?_|refine Wd ?_|refine We ?_|refine Wf ?_));(conv=>whnf)))
     refine br_dec (fun hlt3 => ?_) (fun hge3 => ?_)
     ·have hy : y < n := by omega
      have b1 := mix_bd (f := 2) (y := y) hW hB hx4 hf2 hy
      have b2 := mix_bd (f := 2) (y := y) hW hB hx4 hf2 hx4
      have b3 : -1000 ≤ (mixR n D 4 2 y 4).getD (0 + y) 0 ∧ (mixR n D 4 2 y 4).getD (0 + y) 0 ≤ 1000 := by rw [Nat.zero_add]; exact mix_bd (f := 2) (y := y) hW hB hx4 hx4 hy
      ((conv=>whnf);repeat (refine Wa ?_;(repeat (first|refine Wb ?_|refine Wc ?_|refine Wd ?_|refine We ?_|refine Wf ?_));(conv=>whnf)))
      refine AW_draw (X := xD) tab_ok mixed (by kernel_rfl) ?_
      conv=>whnf
      refine ⟨zn y, ?_⟩
      refine ⟨(show (y : Int) < (n : Int) by omega), ?_⟩
      conv=>whnf
      refine ⟨zn 4, ?_⟩
      refine ⟨(show ((4 : Nat) : Int) < (n : Int) by omega), ?_⟩
      conv=>whnf
      refine ⟨zn 4, ?_⟩
      refine ⟨(show ((4 : Nat) : Int) < (n : Int) by omega), ?_⟩
      conv=>whnf
      refine ⟨zn y, ?_⟩
      refine ⟨(show (y : Int) < (n : Int) by omega), ?_⟩
      conv=>whnf
      refine ⟨(show InR ((mixR n D 4 2 y 2).getD 4 0 + (mixR n D 4 2 y 4).getD (0 + y) 0) from inr (by omega)), ?_⟩
      conv=>whnf
      refine ⟨zn y, ?_⟩
      refine ⟨(show (y : Int) < (n : Int) by omega), ?_⟩
      ((conv=>whnf);repeat (refine Wa ?_;(repeat (first|refine Wb ?_|refine Wc ?_|refine Wd ?_|refine We ?_|refine Wf ?_));(conv=>whnf)))
      refine ⟨inr (by omega), ?_⟩
      conv=>whnf
      refine ⟨by exact ⟨by repeat (first|exact trivial|exact rfl|exact fun _=>trivial|exact fun _ _=>trivial|exact fun _ _ _=>trivial|exact fun _ _ _ _=>trivial|refine And.intro ?_ ?_), namedO (by omega), trivial, trivial, trivial, trivial, trivial, trivial⟩, memA1 (mixM n D 4 2 (y + 1)) ⟨ObSub.refl _, ObSub.ii (mix_other (by decide)), ObSub.ii (mix_other (by decide)), ObSub.ii (mix_put hB hx4 hf2 hy (Nat.zero_add y)), ObSub.ii (mix_other (by decide)), ObSub.ii (mix_other (by decide)), trivial⟩ ⟨⟨y + 1, hy, rfl, rfl⟩, ?_⟩⟩
      simp [V.toInt, sel, Env.get]; omega
     ·obtain rfl : n = y := by omega
      ((conv=>whnf);repeat (refine Wa ?_;(repeat (first|refine Wb ?_|refine Wc ?_|refine Wd ?_|refine We ?_|refine Wf ?_));(conv=>whnf)))
      refine ⟨inr (by omega), ?_⟩
      conv=>whnf
      refine ⟨by exact ⟨by repeat (first|exact trivial|exact rfl|exact fun _=>trivial|exact fun _ _=>trivial|exact fun _ _ _=>trivial|exact fun _ _ _ _=>trivial|refine And.intro ?_ ?_), namedO (by omega), trivial, trivial, trivial, trivial, trivial, trivial⟩, memA1 (mixM n D 4 (2 + 1) 0) ⟨ObSub.refl _, ObSub.ii mix_end, ObSub.ii mix_end, ObSub.ii mix_end, ObSub.ii mix_end, ObSub.ii mix_end, trivial⟩ ⟨⟨2 + 1, hf2, rfl, rfl⟩, ?_⟩⟩
      simp [V.toInt, sel, Env.get]; omega
    ·((conv=>whnf);repeat (refine Wa ?_;(repeat (first|refine Wb ?_|refine Wc ?_|refine Wd ?_|refine We ?_|refine Wf ?_));(conv=>whnf)))
     refine ⟨inr (by omega), ?_⟩
     conv=>whnf
     have hfn : n = 2 := by have h := hge2; simp at h; omega
     refine ⟨by exact ⟨by repeat (first|exact trivial|exact rfl|exact fun _=>trivial|exact fun _ _=>trivial|exact fun _ _ _=>trivial|exact fun _ _ _ _=>trivial|refine And.intro ?_ ?_), namedO (by omega), trivial, trivial, trivial, trivial, trivial, trivial⟩, memA1 (padM n (fwS D 4)) ⟨ObSub.refl _, ObSub.ii (mix_all' hfn.symm), ObSub.ii (mix_all' hfn.symm), ObSub.ii (mix_all' hfn.symm), ObSub.ii (mix_all' hfn.symm), ObSub.ii (mix_all' hfn.symm), trivial⟩ ⟨⟨4 + 1, hx4, rfl, by rw [hdn]⟩, ?_⟩⟩
     simp [V.toInt, sel, Env.get]; omega
   ·((conv=>whnf);repeat (refine Wa ?_;(repeat (first|refine Wb ?_|refine Wc ?_|refine Wd ?_|refine We ?_|refine Wf ?_));(conv=>whnf)))
    refine br_dec (fun hlt2 => ?_) (fun hge2 => ?_)
    ·have hf3 : 3 < n := by have h := hlt2; simp at h; omega
     ((conv=>whnf);repeat (refine Wa ?_;(repeat (first|refine Wb ?_|refine Wc ?_|refine Wd ?_|refine We ?_|refine Wf ?_));(conv=>whnf)))
     refine ⟨zn 3, ?_⟩
     refine ⟨(show ((3 : Nat) : Int) < (n : Int) by omega), ?_⟩
     ((conv=>whnf);repeat (refine Wa ?_;(repeat (first|refine Wb ?_|refine Wc ?_|refine Wd ?_|refine We ?_|refine Wf ?_));(conv=>whnf)))
     refine AW_loopA (X := xD) tab_ok [5, 6, 8, 18, 19, 20, 23, 24, 25, 29, 30, 31] (fun t => Nat.ble t 5) (fun vs M => ∃ y : Nat, y ≤ n ∧ vs = [.sl 0 0 0 n, .int (4 : Nat), .sl (1 + 3) 0 0 n, .sl 0 0 0 n, .int n, .int (4 : Nat), .sl 0 0 0 n, .int n, .int (3 : Nat), .sl (1 + 3) 0 0 n, .int n, .int y] ∧ M = mixM n D 4 3 y)
      (fun vs _ => n - (vs.getD 11 .any).toInt.toNat) (fun t ht => by have : t < 6 := ht; simp; omega) ?_ ?_
     ·exact same0 ⟨0, Nat.zero_le _, rfl, rfl⟩
     rintro vs M ⟨y, hy0, rfl, rfl⟩
     ((conv=>whnf);repeat (refine Wa ?_;(repeat (first|refine Wb ?_|refine Wc ?_|refine Wd ?_|refine We ?_|refine Wf ?_));(conv=>whnf)))
     refine br_dec (fun hlt3 => ?_) (fun hge3 => ?_)
     ·have hy : y < n := by omega
      have b1 := mix_bd (f := 3) (y := y) hW hB hx4 hf3 hy
      have b2 := mix_bd (f := 3) (y := y) hW hB hx4 hf3 hx4
      have b3 : -1000 ≤ (mixR n D 4 3 y 4).getD (0 + y) 0 ∧ (mixR n D 4 3 y 4).getD (0 + y) 0 ≤ 1000 := by rw [Nat.zero_add]; exact mix_bd (f := 3) (y := y) hW hB hx4 hx4 hy
      ((conv=>whnf);repeat (refine Wa ?_;(repeat (first|refine Wb ?_|refine Wc ?_|refine Wd ?_|refine We ?_|refine Wf ?_));(conv=>whnf)))
      refine AW_draw (X := xD) tab_ok mixed (by kernel_rfl) ?_
      conv=>whnf
      refine ⟨zn y, ?_⟩
      refine ⟨(show (y : Int) < (n : Int) by omega), ?_⟩
      conv=>whnf
      refine ⟨zn 4, ?_⟩
      refine ⟨(show ((4 : Nat) : Int) < (n : Int) by omega), ?_⟩
      conv=>whnf
      refine ⟨zn 4, ?_⟩
      refine ⟨(show ((4 : Nat) : Int) < (n : Int) by omega), ?_⟩
      conv=>whnf
      refine ⟨zn y, ?_⟩
      refine ⟨(show (y : Int) < (n : Int) by omega), ?_⟩
      conv=>whnf
      refine ⟨(show InR ((mixR n D 4 3 y 3).getD 4 0 + (mixR n D 4 3 y 4).getD (0 + y) 0) from inr (by omega)), ?_⟩
      conv=>whnf
      refine ⟨zn y, ?_⟩
      refine ⟨(show (y : Int) < (n : Int) by omega), ?_⟩
      ((conv=>whnf);repeat (refine Wa ?_;(repeat (first|refine Wb ?_|refine Wc ?_|refine Wd ?_|refine We ?_|refine Wf ?_));(conv=>whnf)))
      refine ⟨inr (by omega), ?_⟩
      conv=>whnf
      refine ⟨by exact ⟨by repeat (first|exact trivial|exact rfl|exact fun _=>trivial|exact fun _ _=>trivial|exact fun _ _ _=>trivial|exact fun _ _ _ _=>trivial|refine And.intro ?_ ?_), namedO (by omega), trivial, trivial, trivial, trivial, trivial, trivial⟩, memA1 (mixM n D 4 3 (y + 1)) ⟨ObSub.refl _, ObSub.ii (mix_other (by decide)), ObSub.ii (mix_other (by decide)), ObSub.ii (mix_other (by decide)), ObSub.ii (mix_put hB hx4 hf3 hy (Nat.zero_add y)), ObSub.ii (mix_other (by decide)), trivial⟩ ⟨⟨y + 1, hy, rfl, rfl⟩, ?_⟩⟩
      simp [V.toInt, sel, Env.get]; omega
     ·obtain rfl : n = y := by omega
      ((conv=>whnf);repeat (refine Wa ?_;(repeat (first|refine Wb ?_|refine Wc ?_|refine Wd ?_|refine We ?_|refine Wf ?_));(conv=>whnf)))
      refine ⟨inr (by omega), ?_⟩
      conv=>whnf
      refine ⟨by exact ⟨by repeat (first|exact trivial|exact rfl|exact fun _=>trivial|exact fun _ _=>trivial|exact fun _ _ _=>trivial|exact fun _ _ _ _=>trivial|refine And.intro ?_ ?_), namedO (by omega), trivial, trivial, trivial, trivial, trivial, trivial⟩, memA1 (mixM n D 4 (3 + 1) 0) ⟨ObSub.refl _, ObSub.ii mix_end, ObSub.ii mix_end, ObSub.ii mix_end, ObSub.ii mix_end, ObSub.ii mix_end, trivial⟩ ⟨⟨3 + 1, hf3, rfl, rfl⟩, ?_⟩⟩
      simp [V.toInt, sel, Env.get]; omega
    ·((conv=>whnf);repeat (refine Wa ?_;(repeat (first|refine Wb ?_|refine Wc ?_|refine Wd ?_|refine We ?_|refine Wf ?_));(conv=>whnf)))
     refine ⟨inr (by omega), ?_⟩
     conv=>whnf
     have hfn : n = 3 := by have h := hge2; simp at h; omega
     refine ⟨by exact ⟨by repeat (first|exact trivial|exact rfl|exact fun _=>trivial|exact fun _ _=>trivial|exact fun _ _ _=>trivial|exact fun _ _ _ _=>trivial|refine And.intro ?_ ?_), namedO (by omega), trivial, trivial, trivial, trivial, trivial, trivial⟩, memA1 (padM n (fwS D 4)) ⟨ObSub.refl _, ObSub.ii (mix_all' hfn.symm), ObSub.ii (mix_all' hfn.symm), ObSub.ii (mix_all' hfn.symm), ObSub.ii (mix_all' hfn.symm), ObSub.ii (mix_all' hfn.symm), trivial⟩ ⟨⟨4 + 1, hx4, rfl, by rw [hdn]⟩, ?_⟩⟩
     simp [V.toInt, sel, Env.get]; omega
   ·((conv=>whnf);repeat (refine Wa ?_;(repeat (first|refine Wb ?_|refine Wc ?_|refine Wd ?_|refine We ?_|refine Wf ?_));(conv=>whnf)))
    refine br_dec (fun hlt2 => ?_) (fun hge2 => ?_)
    ·have hf4 : 4 < n := by have h := hlt2; simp at h; omega
     ((conv=>whnf);repeat (refine Wa ?_;(repeat (first|refine Wb ?_|refine Wc ?_|refine Wd ?_|refine We ?_|refine Wf ?_));(conv=>whnf)))
     refine ⟨zn 4, ?_⟩
     refine ⟨(show ((4 : Nat) : Int) < (n : Int) by omega), ?_⟩
     ((conv=>whnf);repeat (refine Wa ?_;(repeat (first|refine Wb ?_|refine Wc ?_|refine Wd ?_|refine We ?_|refine Wf ?_));(conv=>whnf)))
     refine AW_loopA (X := xD) tab_ok [5, 6, 8, 18, 19, 20, 23, 24, 25, 29, 30, 31] (fun t => Nat.ble t 5) (fun vs M => ∃ y : Nat, y ≤ n ∧ vs = [.sl 0 0 0 n, .int (4 : Nat), .sl (1 + 4) 0 0 n, .sl 0 0 0 n, .int n, .int (4 : Nat), .sl 0 0 0 n, .int n, .int (4 : Nat), .sl (1 + 4) 0 0 n, .int n, .int y] ∧ M = mixM n D 4 4 y)
      (fun vs _ => n - (vs.getD 11 .any).toInt.toNat) (fun t ht => by have : t < 6 := ht; simp; omega) ?_ ?_
     ·exact same0 ⟨0, Nat.zero_le _, rfl, rfl⟩
     rintro vs M ⟨y, hy0, rfl, rfl⟩
     ((conv=>whnf);repeat (refine Wa ?_;(repeat (first|refine Wb ?_|refine Wc ?_|refine Wd ?_|refine We ?_|refine Wf ?_));(conv=>whnf)))
     refine br_dec (fun hlt3 => ?_) (fun hge3 => ?_)
     ·have hy : y < n := by omega
      have b1 := mix_bd (f := 4) (y := y) hW hB hx4 hf4 hy
      have b2 := mix_bd (f := 4) (y := y) hW hB hx4 hf4 hx4
      have b3 : -1000 ≤ (mixR n D 4 4 y 4).getD (0 + y) 0 ∧ (mixR n D 4 4 y 4).getD (0 + y) 0 ≤ 1000 := by rw [Nat.zero_add]; exact mix_bd (f := 4) (y := y) hW hB hx4 hx4 hy
      ((conv=>whnf);repeat (refine Wa ?_;(repeat (first|refine Wb ?_|refine Wc ?_|refine Wd ?_|refine We ?_|refine Wf ?_));(conv=>whnf)))
      refine AW_draw (X := xD) tab_ok mixed (by kernel_rfl) ?_
      conv=>whnf
      refine ⟨zn y, ?_⟩
      refine ⟨(show (y : Int) < (n : Int) by omega), ?_⟩
      conv=>whnf
      refine ⟨zn 4, ?_⟩
      refine ⟨(show ((4 : Nat) : Int) < (n : Int) by omega), ?_⟩
      conv=>whnf
      refine ⟨zn 4, ?_⟩
      refine ⟨(show ((4 : Nat) : Int) < (n : Int) by omega), ?_⟩
      conv=>whnf
      refine ⟨zn y, ?_⟩
      refine ⟨(show (y : Int) < (n : Int) by omega), ?_⟩
      conv=>whnf
      refine ⟨(show InR ((mixR n D 4 4 y 4).getD 4 0 + (mixR n D 4 4 y 4).getD (0 + y) 0) from inr (by omega)), ?_⟩
      conv=>whnf
      refine ⟨zn y, ?_⟩
      refine ⟨(show (y : Int) < (n : Int) by omega), ?_⟩
      ((conv=>whnf);repeat (refine Wa ?_;(repeat (first|refine Wb ?_|refine Wc ?_|refine Wd ?_|refine We ?_|refine Wf ?_));(conv=>whnf)))
      refine ⟨inr (by omega), ?_⟩
      conv=>whnf
      refine ⟨by exact ⟨by repeat (first|exact trivial|exact rfl|exact fun _=>trivial|exact fun _ _=>trivial|exact fun _ _ _=>trivial|exact fun _ _ _ _=>trivial|refine And.intro ?_ ?_), namedO (by omega), trivial, trivial, trivial, trivial, trivial, trivial⟩, memA1 (mixM n D 4 4 (y + 1)) ⟨ObSub.refl _, ObSub.ii (mix_other (by decide)), ObSub.ii (mix_other (by decide)), ObSub.ii (mix_other (by decide)), ObSub.ii (mix_other (by decide)), ObSub.ii (mix_put hB hx4 hf4 hy (Nat.zero_add y)), trivial⟩ ⟨⟨y + 1, hy, rfl, rfl⟩, ?_⟩⟩
      simp [V.toInt, sel, Env.get]; omega
     ·obtain rfl : n = y := by omega
      ((conv=>whnf);repeat (refine Wa ?_;(repeat (first|refine Wb ?_|refine Wc ?_|refine Wd ?_|refine We ?_|refine Wf ?_));(conv=>whnf)))
      refine ⟨inr (by omega), ?_⟩
      conv=>whnf
      refine ⟨by exact ⟨by repeat (first|exact trivial|exact rfl|exact fun _=>trivial|exact fun _ _=>trivial|exact fun _ _ _=>trivial|exact fun _ _ _ _=>trivial|refine And.intro ?_ ?_), namedO (by omega), trivial, trivial, trivial, trivial, trivial, trivial⟩, memA1 (mixM n D 4 (4 + 1) 0) ⟨ObSub.refl _, ObSub.ii mix_end, ObSub.ii mix_end, ObSub.ii mix_end, ObSub.ii mix_end, ObSub.ii mix_end, trivial⟩ ⟨⟨4 + 1, hf4, rfl, rfl⟩, ?_⟩⟩
      simp [V.toInt, sel, Env.get]; omega
    ·((conv=>whnf);repeat (refine Wa ?_;(repeat (first|refine Wb ?_|refine Wc ?_|refine Wd ?_|refine We ?_|refine Wf ?_));(conv=>whnf)))
     refine ⟨inr (by omega), ?_⟩
     conv=>whnf
     have hfn : n = 4 := by have h := hge2; simp at h; omega
     refine ⟨by exact ⟨by repeat (first|exact trivial|exact rfl|exact fun _=>trivial|exact fun _ _=>trivial|exact fun _ _ _=>trivial|exact fun _ _ _ _=>trivial|refine And.intro ?_ ?_), namedO (by omega), trivial, trivial, trivial, trivial, trivial, trivial⟩, memA1 (padM n (fwS D 4)) ⟨ObSub.refl _, ObSub.ii (mix_all' hfn.symm), ObSub.ii (mix_all' hfn.symm), ObSub.ii (mix_all' hfn.symm), ObSub.ii (mix_all' hfn.symm), ObSub.ii (mix_all' hfn.symm), trivial⟩ ⟨⟨4 + 1, hx4, rfl, by rw [hdn]⟩, ?_⟩⟩
     simp [V.toInt, sel, Env.get]; omega
   ·have hfn : n = 5 := by omega
    ((conv=>whnf);repeat (refine Wa ?_;(repeat (first|refine Wb ?_|refine Wc ?_|refine Wd ?_|refine We ?_|refine Wf ?_));(conv=>whnf)))
    refine br_dec (fun hlt2 => ?_) (fun hge2 => ?_)
    ·exact absurd hlt2 (by simp; omega)
    ·((conv=>whnf);repeat (refine Wa ?_;(repeat (first|refine Wb ?_|refine Wc ?_|refine Wd ?_|refine We ?_|refine Wf ?_));(conv=>whnf)))
     refine ⟨inr (by omega), ?_⟩
     conv=>whnf
     refine ⟨by exact ⟨by repeat (first|exact trivial|exact rfl|exact fun _=>trivial|exact fun _ _=>trivial|exact fun _ _ _=>trivial|exact fun _ _ _ _=>trivial|refine And.intro ?_ ?_), namedO (by omega), trivial, trivial, trivial, trivial, trivial, trivial⟩, memA1 (padM n (fwS D 4)) ⟨ObSub.refl _, ObSub.ii (mix_all' hfn.symm), ObSub.ii (mix_all' hfn.symm), ObSub.ii (mix_all' hfn.symm), ObSub.ii (mix_all' hfn.symm), ObSub.ii (mix_all' hfn.symm), trivial⟩ ⟨⟨4 + 1, hx4, rfl, by rw [hdn]⟩, ?_⟩⟩
     simp [V.toInt, sel, Env.get]; omega
  ·((conv=>whnf);repeat (refine Wa ?_;(repeat (first|refine Wb ?_|refine Wc ?_|refine Wd ?_|refine We ?_|refine Wf ?_));(conv=>whnf)))
   have hxn : n = 4 := by have h := hge; simp at h; omega
   exact ⟨_, rfl, rfl, congrArg (padM n) (show dsM n W 4 = drr n W by unfold drr; rw [hxn])⟩
 ·((conv=>whnf);repeat (refine Wa ?_;(repeat (first|refine Wb ?_|refine Wc ?_|refine Wd ?_|refine We ?_|refine Wf ?_));(conv=>whnf)))
  refine br_dec (fun hlt => ?_) (fun hge => ?_)
  ·exact absurd hlt (by simp; omega)
  ·((conv=>whnf);repeat (refine Wa ?_;(repeat (first|refine Wb ?_|refine Wc ?_|refine Wd ?_|refine We ?_|refine Wf ?_));(conv=>whnf)))
   have hxn : n = 5 := by omega
   exact ⟨_, rfl, rfl, congrArg (padM n) (show dsM n W 5 = drr n W by unfold drr; rw [hxn])⟩
theorem dearer_pure {n : Nat} {W : Nat → List Int} (hW : Wis n W) : APure Try.prog 59 [tabV n W] (fun R => R = drV n (drr n W)) :=
 APure_of_ACM (nofr1 nofrT) (dearer_cm hW) (by
  rintro R M' ⟨rfl, rfl⟩
  exact ⟨eqnO_holds.2 rfl, frDr, out_read⟩)
end Go.Tri
