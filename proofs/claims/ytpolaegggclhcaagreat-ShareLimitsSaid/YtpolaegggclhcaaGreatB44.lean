/-
 CONTRACTS: the pairs of envy.
-/
import Derived.Test.YtpolaegggclhcaaGreatB42
import Derived.Test.YtpolaegggclhcaaGreatA35
namespace Go.Tri
open Go.Proofs

/-- What is left to a driver with wishes w. -/
def lfN (w z : List Int) (d : Int) (k : Nat) : Int := w.getD k 0 * d - z.getD k 0
def envB (W : Nat → List Int) (r z : List Int) (d : Int) (i k : Nat) : Bool := decide (lfN (W i) z d k > lfN (W i) z d (r.getD i 0).toNat)
def envR (W : Nat → List Int) (r z : List Int) (d : Int) (i : Nat) : Nat → List (Nat × Nat)
 | 0 => []
 | k + 1 => envR W r z d i k ++ if envB W r z d i k = true then [(i, k)] else []
def envT (n : Nat) (W : Nat → List Int) (r z : List Int) (d : Int) : Nat → List (Nat × Nat)
 | 0 => []
 | i + 1 => envT n W r z d i ++ envR W r z d i n
def prF (L : List (Nat × Nat)) : Nat → Nat → V := fun j o => match o with
 | 0 => .int (L.getD j (0, 0)).1
 | _ => .int (L.getD j (0, 0)).2
@[reducible] def prsV (fr : Bool) (L : List (Nat × Nat)) : V := .seq fr 2 L.length (prF L)
theorem prF_old {L : List (Nat × Nat)} {p : Nat × Nat} {j o : Nat} (h : j < L.length) : prF L j o = prF (L ++ [p]) j o := by
 unfold prF
 rw [show (L ++ [p]).getD j (0, 0) = L.getD j (0, 0) by simp [List.getD, List.getElem?_append_left h]]
theorem prF_new {L : List (Nat × Nat)} {a b j : Nat} (h : j = L.length) : prF (L ++ [(a, b)]) j 0 = .int a ∧ prF (L ++ [(a, b)]) j 1 = .int b := by
 subst h
 simp [prF, List.getD]
theorem envR_len {W : Nat → List Int} {r z : List Int} {d : Int} {i : Nat} : ∀ k, (envR W r z d i k).length ≤ k := by
 intro k
 induction k with
 | zero => exact Nat.le_refl _
 | succ k ih => simp only [envR, List.length_append]; split <;> simp <;> omega
theorem envT_len {n : Nat} {W : Nat → List Int} {r z : List Int} {d : Int} : ∀ i, (envT n W r z d i).length ≤ i * n := by
 intro i
 induction i with
 | zero => simp [envT]
 | succ i ih =>
  have := envR_len (W := W) (r := r) (z := z) (d := d) (i := i) n
  simp only [envT, List.length_append]
  rw [Nat.add_mul]
  omega

@[reducible] def capW (w : List Int) : V := .at_ 1 (fun _ => .ints false w) 0
@[reducible] def capZ (z : List Int) (d : Int) : V := .at_ 2 (fun i => [V.ints false z, V.int d].getD i .any) 0
theorem nofrCapW {w : List Int} : NoFr (capW w) := fun _ => rfl
theorem nofrCapZ {z : List Int} {d : Int} : NoFr (capZ z d) := fun i => by
 match i with
 | 0 => rfl
 | 1 => trivial
 | _ + 2 => trivial
theorem left_pure (w z : List Int) (d : Int) (k : Nat) (hw : k < w.length) (hz : k < z.length) (h1 : -50000000000 ≤ w.getD k 0 * d ∧ w.getD k 0 * d ≤ 50000000000) (h2 : -50000000000 ≤ z.getD k 0 ∧ z.getD k 0 ≤ 50000000000) :
  APure Tryz.prog 42 [.int k, capW w, capZ z d] (fun R => R = .int (lfN w z d k)) := by
 refine APure_of (X := cx 18) (cx_ok 18) rfl (rs := [(.tmp 4, 3)]) Tryz.func42 (by decide) rfl rfl rfl (by simp [cx]) (nofr3 (show NoFr (.int k) from trivial) nofrCapW nofrCapZ) ?_
 intro hlen
 ((conv=>whnf);repeat (refine Wa ?_;(repeat (first|refine Wb ?_|refine Wc ?_|refine Wd ?_|refine We ?_|refine Wf ?_));(conv=>whnf)))
 refine AW_draw (X := cx 18) (cx_ok 18) mixed (by kernel_rfl) ?_
 ((conv=>whnf);repeat (refine Wa ?_;(repeat (first|refine Wb ?_|refine Wc ?_|refine Wd ?_|refine We ?_|refine Wf ?_));(conv=>whnf)))
 repeat ((first | refine ⟨by omega, ?_⟩ | refine ⟨inr (by omega), ?_⟩ | refine eqn_self ?_ | refine ⟨ms (by omega), ?_⟩ | refine ⟨ms (by simp only [Src.n]; omega), ?_⟩ | refine ⟨msk (by omega), ?_⟩ | refine ⟨ms1, ?_⟩); ((conv=>whnf);repeat (refine Wa ?_;(repeat (first|refine Wb ?_|refine Wc ?_|refine Wd ?_|refine We ?_|refine Wf ?_));(conv=>whnf))))
 refine ⟨(show InR (w.getD k 0 * d) from inr (by omega)), ?_⟩
 ((conv=>whnf);repeat (refine Wa ?_;(repeat (first|refine Wb ?_|refine Wc ?_|refine Wd ?_|refine We ?_|refine Wf ?_));(conv=>whnf)))
 repeat ((first | refine ⟨by omega, ?_⟩ | refine ⟨inr (by omega), ?_⟩ | refine eqn_self ?_ | refine ⟨ms (by omega), ?_⟩ | refine ⟨ms (by simp only [Src.n]; omega), ?_⟩ | refine ⟨msk (by omega), ?_⟩ | refine ⟨ms1, ?_⟩); ((conv=>whnf);repeat (refine Wa ?_;(repeat (first|refine Wb ?_|refine Wc ?_|refine Wd ?_|refine We ?_|refine Wf ?_));(conv=>whnf))))
 refine ⟨(show InR (w.getD k 0 * d - z.getD k 0) from inr (by omega)), ?_⟩
 ((conv=>whnf);repeat (refine Wa ?_;(repeat (first|refine Wb ?_|refine Wc ?_|refine Wd ?_|refine We ?_|refine Wf ?_));(conv=>whnf)))
 exact ⟨trivial, rfl⟩

@[reducible] def zOb (z : List Int) (d : Int) : Ob := ⟨25, 2, 0, .one [.ints false z, .int d]⟩
@[reducible] def pOb (ver : Nat) (L : List (Nat × Nat)) : Ob := ⟨34, 2, ver, .cv L.length (prF L)⟩
theorem lf_fits {n : Nat} {W : Nat → List Int} {z : List Int} {d : Int} (hW : Wis n W) (hR : Rts n W z d) {i k : Nat} (hi : i < n) (hk : k < n) : (-50000000000 ≤ (W i).getD k 0 * d ∧ (W i).getD k 0 * d ≤ 50000000000) ∧ (-50000000000 ≤ z.getD k 0 ∧ z.getD k 0 ≤ 50000000000) := by
 have h1 := (hW.2.2 i hi).2.1 k hk
 have h2 := hR.1.2.1
 have h3 := hR.1.2.2.1
 have h4 := rent_mul (s := (W i).getD k 0) (d := d) (by omega) ⟨h2, h3⟩
 have h5 := rts_bet hR.1 k (by rw [hR.1.1]; exact hk)
 omega
theorem namedPr {kp : Nat → Bool} {L : List (Nat × Nat)} {j o : Nat} : Named kp (prF L j o) := by
 unfold prF
 split <;> trivial
theorem len_snocP {L : List (Nat × Nat)} {p : Nat × Nat} : (L ++ [p]).length = L.length + 1 := by simp
theorem ownPr {M : Mem} {k : Nat} {L : List (Nat × Nat)} {j o : Nat} : ownvalN M (k + 1) (prF L (0 + j) o) = prF L j o := by
 rw [Nat.zero_add]
 unfold prF
 split <;> rfl
theorem frPr {M : Mem} {k : Nat} {L : List (Nat × Nat)} {j o : Nat} : Fr (ownvalN M (k + 1) (prF L (0 + j) o)) := by
 rw [ownPr]
 unfold prF
 split <;> trivial
theorem namedEC : Named (cutN 3) (.clo 42 2 (fun q => ([V.ptr 2 0 0 0, V.ptr 0 0 0 0]).getD q .any)) := fun q hq => by
 rcases (by omega : q = 0 ∨ q = 1) with rfl | rfl <;> rfl
theorem named_app {kp : Nat → Bool} {c : Prop} [Decidable c] {x y : V} (h : Named kp x) (h' : Named kp y) : Named kp (if c then x else y) := by
 split
 ·exact h
 ·exact h'
set_option maxRecDepth 100000 in
theorem envy_pure {n : Nat} {W : Nat → List Int} {r z : List Int} {d : Int} (hE : evOk n W r z d) : APure Tryz.prog 23 [tabV n W, .ints false r, parV false z d] (fun R => R = prsV true (envT n W r z d n)) := by
 refine APure_of (X := cx 44) (cx_ok 44) rfl (rs := [(.tmp 6, 29)]) Tryz.func23 (by decide) rfl rfl rfl (by simp [cx]) (nofr3 nofrT (show NoFr (.ints false r) from rfl) nofrPa) ?_
 intro hlen
 obtain ⟨hW, hr, hR⟩ := hE
 have h1 := hW.1
 have h5 := hW.2.1
 have hr1 := asg_get.1 hr
 have hz : z.length = n := hR.1.1
 ((conv=>whnf);repeat (refine Wa ?_;(repeat (first|refine Wb ?_|refine Wc ?_|refine Wd ?_|refine We ?_|refine Wf ?_));(conv=>whnf)))
 refine AW_nil 1 [1, 5, 7, 12, 13, 14] [.ints false r, .ptr 0 0 0 0, .sl 1 0 0 0, tabV n W, .int n, .int 0] [some (zOb z d), some (pOb 0 [])] rfl ⟨ObNl.refl _, trivial⟩ rfl ⟨NlV.refl _, NlV.refl _, NlV.nil _, NlV.refl _, NlV.refl _, NlV.refl _, trivial⟩ ?_
 refine AW_loopA (X := cx 44) (cx_ok 44) [1, 5, 7, 12, 13, 14] (cutN 2) (fun vs M => ∃ i ver : Nat, i ≤ n ∧ vs = [.ints false r, .ptr 0 0 0 0, .sl 1 ver 0 (envT n W r z d i).length, tabV n W, .int n, .int i] ∧ M = [some (zOb z d), some (pOb ver (envT n W r z d i))]) (fun vs _ => (n - (vs.getD 5 .any).toInt).toNat) (fun t ht => cutN_iff.2 ht) ?_ ?_
 ·exact same0 ⟨0, 0, Nat.zero_le _, rfl, rfl⟩
 rintro vs M ⟨i, ver, hi, rfl, rfl⟩
 ((conv=>whnf);repeat (refine Wa ?_;(repeat (first|refine Wb ?_|refine Wc ?_|refine Wd ?_|refine We ?_|refine Wf ?_));(conv=>whnf)))
 refine br_dec (fun hlt => ?_) (fun hge => ?_)
 ·have hi' : i < n := by omega
  ((conv=>whnf);repeat (refine Wa ?_;(repeat (first|refine Wb ?_|refine Wc ?_|refine Wd ?_|refine We ?_|refine Wf ?_));(conv=>whnf)))
  repeat ((first | refine ⟨by omega, ?_⟩ | refine ⟨inr (by omega), ?_⟩ | refine eqn_self ?_ | refine ⟨ms (by omega), ?_⟩ | refine ⟨ms (by simp only [Src.n]; omega), ?_⟩ | refine ⟨msk (by omega), ?_⟩ | refine ⟨ms1, ?_⟩); ((conv=>whnf);repeat (refine Wa ?_;(repeat (first|refine Wb ?_|refine Wc ?_|refine Wd ?_|refine We ?_|refine Wf ?_));(conv=>whnf))))
  have hwl : (W i).length = n := (hW.2.2 i hi').1
  rw [show envT n W r z d i = envT n W r z d i ++ envR W r z d i 0 from (List.append_nil _).symm]
  refine AW_loopA (X := cx 44) (cx_ok 44) [1, 5, 7, 8, 10, 12, 13, 14, 21, 22] (cutN 3) (fun vs M => ∃ k ver : Nat, k ≤ n ∧ vs = [.ints false r, .ptr 0 0 0 0, .sl 1 ver 0 (envT n W r z d i ++ envR W r z d i k).length, .int i, .clo 42 2 (fun q => ([V.ptr 2 0 0 0, V.ptr 0 0 0 0]).getD q .any), tabV n W, .int n, .int i, .int n, .int k] ∧ M = [some (zOb z d), some (pOb ver (envT n W r z d i ++ envR W r z d i k)), some (bxO (.ints false (W i)))]) (fun vs _ => (n - (vs.getD 9 .any).toInt).toNat) (fun t ht => cutN_iff.2 ht) ?_ ?_
  ·exact ⟨[.ints false r, .ptr 0 0 0 0, .sl 1 ver 0 (envT n W r z d i ++ envR W r z d i 0).length, .int i, .clo 42 2 (fun q => ([V.ptr 2 0 0 0, V.ptr 0 0 0 0]).getD q .any), tabV n W, .int n, .int i, .int n, .int (0 : Nat)], _, ⟨Sub.refl _, Sub.refl _, Sub.refl _, Sub.refl _, Sub.of rfl, Sub.refl _, Sub.refl _, Sub.refl _, Sub.of (show V.int (W i).length = V.int n by rw [hwl]), Sub.refl _, trivial⟩, MSub.refl _, 0, ver, Nat.zero_le _, rfl, rfl⟩
  rintro vs M ⟨k, ver, hk, rfl, rfl⟩
  have hll : (envT n W r z d i ++ envR W r z d i k).length ≤ 30 := by
   have l1 := envT_len (n := n) (W := W) (r := r) (z := z) (d := d) i
   have l2 := envR_len (W := W) (r := r) (z := z) (d := d) (i := i) k
   have l3 := Nat.mul_le_mul (show i ≤ 5 by omega) h5
   rw [List.length_append]
   omega
  ((conv=>whnf);repeat (refine Wa ?_;(repeat (first|refine Wb ?_|refine Wc ?_|refine Wd ?_|refine We ?_|refine Wf ?_));(conv=>whnf)))
  refine br_dec (fun hlt => ?_) (fun hge => ?_)
  ·have hk' : k < n := by omega
   ((conv=>whnf);repeat (refine Wa ?_;(repeat (first|refine Wb ?_|refine Wc ?_|refine Wd ?_|refine We ?_|refine Wf ?_));(conv=>whnf)))
   refine AW_draw (X := cx 44) (cx_ok 44) mixed (by kernel_rfl) ?_
   ((conv=>whnf);repeat (refine Wa ?_;(repeat (first|refine Wb ?_|refine Wc ?_|refine Wd ?_|refine We ?_|refine Wf ?_));(conv=>whnf)))
   have call : ∀ (x : Int) (q : Nat), x = q → q < n → ∀ M : Mem, APure Tryz.prog 42 [.int x, .at_ 1 (fun k => byvalN M 4 ([V.ints false (W i)].getD k .any)) 0, .at_ 2 (fun k => byvalN M 4 ([V.ints false z, V.int d].getD k .any)) 0] (fun R => R = .int (lfN (W i) z d q)) := fun x q hx hq M => by
    subst hx
    have hf := lf_fits hW hR hi' hq
    refine APure.arg3 (Sub.refl _) (sub_at fun j hj => by rw [show j = 0 by omega]; exact Sub.refl _) (sub_at fun j hj => by rcases (by omega : j = 0 ∨ j = 1) with rfl | rfl <;> exact Sub.refl _) (left_pure (W i) z d q (by omega) (by omega) hf.1 hf.2)
   refine ⟨.int (lfN (W i) z d k), ?_, ?_⟩
   ·((conv=>whnf);repeat (refine Wa ?_;(repeat (first|refine Wb ?_|refine Wc ?_|refine Wd ?_|refine We ?_|refine Wf ?_));(conv=>whnf)))
    exact call _ k rfl hk' _
   ((conv=>whnf);repeat (refine Wa ?_;(repeat (first|refine Wb ?_|refine Wc ?_|refine Wd ?_|refine We ?_|refine Wf ?_));(conv=>whnf)))
   refine ⟨by omega, ?_⟩
   refine ⟨(show (i : Int) < r.length by rw [hr1.1]; omega), ?_⟩
   ((conv=>whnf);repeat (refine Wa ?_;(repeat (first|refine Wb ?_|refine Wc ?_|refine Wd ?_|refine We ?_|refine Wf ?_));(conv=>whnf)))
   have hri := hr1.2.1 i hi'
   refine ⟨.int (lfN (W i) z d (r.getD i 0).toNat), ?_, ?_⟩
   ·((conv=>whnf);repeat (refine Wa ?_;(repeat (first|refine Wb ?_|refine Wc ?_|refine Wd ?_|refine We ?_|refine Wf ?_));(conv=>whnf)))
    exact call _ (r.getD i 0).toNat (show r.getD i 0 = _ by omega) (by omega) _
   ((conv=>whnf);repeat (refine Wa ?_;(repeat (first|refine Wb ?_|refine Wc ?_|refine Wd ?_|refine We ?_|refine Wf ?_));(conv=>whnf)))
   refine br_dec (fun h => ?_) (fun h => ?_)
   ·have h : lfN (W i) z d k > lfN (W i) z d (r.getD i 0).toNat := h
    have e1 : envR W r z d i (k + 1) = envR W r z d i k ++ [(i, k)] := by
     show envR W r z d i k ++ _ = _
     rw [if_pos (show envB W r z d i k = true from decide_eq_true h)]
    have e2 : envT n W r z d i ++ envR W r z d i (k + 1) = (envT n W r z d i ++ envR W r z d i k) ++ [(i, k)] := by rw [e1, List.append_assoc]
    ((conv=>whnf);repeat (refine Wa ?_;(repeat (first|refine Wb ?_|refine Wc ?_|refine Wd ?_|refine We ?_|refine Wf ?_));(conv=>whnf)))
    refine eqn_self ?_
    ((conv=>whnf);repeat (refine Wa ?_;(repeat (first|refine Wb ?_|refine Wc ?_|refine Wd ?_|refine We ?_|refine Wf ?_));(conv=>whnf)))
    refine ⟨(show (16 : Int) * (((envT n W r z d i ++ envR W r z d i k).length : Int) + (1 : Nat)) ≤ 140737488355328 by omega), ?_⟩
    ((conv=>whnf);repeat (refine Wa ?_;(repeat (first|refine Wb ?_|refine Wc ?_|refine Wd ?_|refine We ?_|refine Wf ?_));(conv=>whnf)))
    refine ⟨inr (by omega), ?_⟩
    ((conv=>whnf);repeat (refine Wa ?_;(repeat (first|refine Wb ?_|refine Wc ?_|refine Wd ?_|refine We ?_|refine Wf ?_));(conv=>whnf)))
    refine ⟨⟨?_, ?_⟩, ?_⟩
    ·exact ⟨trivial, rfl, rfl, trivial, namedEC, fun _ _ _ _ => trivial, trivial, trivial, trivial, trivial, trivial⟩
    ·exact ⟨⟨trivial, trivial, trivial⟩, fun j o _ ho => named_app namedPr (by rcases (show o = 0 ∨ o = 1 by have h : o < 2 := ho; omega) with rfl | rfl <;> trivial), ⟨trivial, trivial⟩, trivial⟩
    ·refine ⟨[.ints false r, .ptr 0 0 0 0, .sl 1 (ver + 1) 0 (envT n W r z d i ++ envR W r z d i (k + 1)).length, .int i, .clo 42 2 (fun q => ([V.ptr 2 0 0 0, V.ptr 0 0 0 0]).getD q .any), tabV n W, .int n, .int i, .int n, .int (k + 1 : Nat)], [some (zOb z d), some (pOb (ver + 1) (envT n W r z d i ++ envR W r z d i (k + 1))), some (bxO (.ints false (W i)))], ?_, ?_, ⟨k + 1, ver + 1, hk', rfl, rfl⟩, ?_⟩
     ·exact ⟨Sub.refl _, Sub.refl _, Sub.of (congrArg (V.sl 1 (ver + 1) 0) (show (envT n W r z d i ++ envR W r z d i k).length + 1 = (envT n W r z d i ++ envR W r z d i (k + 1)).length by rw [e2, len_snocP])), Sub.refl _, Sub.refl _, Sub.refl _, Sub.refl _, Sub.refl _, Sub.refl _, Sub.refl _, trivial⟩
     ·rw [e2]
      refine ⟨ObSub.refl _, ⟨rfl, rfl, rfl, ?_, ⟨rfl, rfl⟩, fun j o hj ho => Sub.of ?_⟩, ObSub.refl _, trivial⟩
      ·exact len_snocP
      ·by_cases hj2 : j < (envT n W r z d i ++ envR W r z d i k).length
       ·exact (if_pos hj2).trans (prF_old hj2)
       ·have hj : j < (envT n W r z d i ++ envR W r z d i k).length + 1 := hj
        have hn := prF_new (L := envT n W r z d i ++ envR W r z d i k) (a := i) (b := k) (show j = (envT n W r z d i ++ envR W r z d i k).length by omega)
        refine (if_neg hj2).trans ?_
        rcases (show o = 0 ∨ o = 1 by have h : o < 2 := ho; omega) with rfl | rfl
        ·exact hn.1.symm
        ·exact hn.2.symm
     ·simp [V.toInt]; omega
   ·have h : ¬ lfN (W i) z d k > lfN (W i) z d (r.getD i 0).toNat := h
    have e1 : envR W r z d i (k + 1) = envR W r z d i k := by
     show envR W r z d i k ++ _ = _
     rw [if_neg (show ¬ envB W r z d i k = true from fun e => h (of_decide_eq_true e)), List.append_nil]
    ((conv=>whnf);repeat (refine Wa ?_;(repeat (first|refine Wb ?_|refine Wc ?_|refine Wd ?_|refine We ?_|refine Wf ?_));(conv=>whnf)))
    refine ⟨inr (by omega), ?_⟩
    ((conv=>whnf);repeat (refine Wa ?_;(repeat (first|refine Wb ?_|refine Wc ?_|refine Wd ?_|refine We ?_|refine Wf ?_));(conv=>whnf)))
    refine ⟨⟨?_, ?_⟩, ?_⟩
    ·exact ⟨trivial, rfl, rfl, trivial, namedEC, fun _ _ _ _ => trivial, trivial, trivial, trivial, trivial, trivial⟩
    ·exact ⟨⟨trivial, trivial, trivial⟩, fun j o _ _ => namedPr, ⟨trivial, trivial⟩, trivial⟩
    ·rw [← e1]
     exact same1 ⟨⟨k + 1, ver, hk', rfl, rfl⟩, by simp [V.toInt, sel, Env.get]; omega⟩
  ·obtain rfl : k = n := by omega
   ((conv=>whnf);repeat (refine Wa ?_;(repeat (first|refine Wb ?_|refine Wc ?_|refine Wd ?_|refine We ?_|refine Wf ?_));(conv=>whnf)))
   refine ⟨inr (by omega), ?_⟩
   ((conv=>whnf);repeat (refine Wa ?_;(repeat (first|refine Wb ?_|refine Wc ?_|refine Wd ?_|refine We ?_|refine Wf ?_));(conv=>whnf)))
   refine ⟨⟨⟨trivial, rfl, rfl, fun _ _ _ _ => trivial, trivial, trivial, trivial⟩, ⟨⟨trivial, trivial, trivial⟩, fun j o _ _ => namedPr, trivial⟩⟩, ?_⟩
   exact same1 ⟨⟨i + 1, ver, hi', rfl, rfl⟩, by simp [V.toInt, sel, Env.get]; omega⟩
 ·obtain rfl : i = n := by omega
  ((conv=>whnf);repeat (refine Wa ?_;(repeat (first|refine Wb ?_|refine Wc ?_|refine Wd ?_|refine We ?_|refine Wf ?_));(conv=>whnf)))
  refine eqn_self ?_
  ((conv=>whnf);repeat (refine Wa ?_;(repeat (first|refine Wb ?_|refine Wc ?_|refine Wd ?_|refine We ?_|refine Wf ?_));(conv=>whnf)))
  refine ⟨⟨rfl, fun j o _ _ => frPr⟩, ?_⟩
  refine congrArg (V.seq true 2 _) (funext fun j => funext fun o => ?_)
  exact ownPr
end Go.Tri
