/-
 CONTRACTS: Strong, Parts, Both.
-/
import Derived.Test.YtafibngpgllcfaaB23
import Derived.Test.YtafibngpgllcfaaB25
import Derived.Test.YtafibngpgllcfaaM6
namespace Go.Tri
open Go.Proofs

theorem isStrong_pure {n m : Nat} {A B : Nat → Nat} (h : Qok n m A B) : APure Try.prog 61 [qu n m A B] (fun R => R = .bool (decide (((prS n m A B n).2.length : Int) = 1))) := by
 refine APure_of (X := cx 7) (cx_ok 7) rfl (rs := [(.tmp 2, 4)]) Try.func61 (by decide) rfl rfl rfl (by simp [cx]) (nofr1 nofrQ') ?_
 intro hlen
 ((conv=>whnf);repeat (refine Wa ?_;(repeat (first|refine Wb ?_|refine Wc ?_|refine Wd ?_|refine We ?_|refine Wf ?_));(conv=>whnf)))
 refine APure.to (APure.arg1 (subQ rfl rfl) (parts_pure h)) ?_
 ((conv=>whnf);repeat (refine Wa ?_;(repeat (first|refine Wb ?_|refine Wc ?_|refine Wd ?_|refine We ?_|refine Wf ?_));(conv=>whnf)))
 exact ⟨trivial, rfl⟩
set_option maxRecDepth 100000 in
theorem Strong_pure {n m : Nat} {A B : Nat → Nat} (h : Qok n m A B) : APure Try.prog 34 [.int n, stV false m (fun j => A j) (fun j => B j)] (fun R => R = tup2 (.bool (decide (((prS n m A B n).2.length : Int) = 1))) (.int 0)) := by
 refine APure_of (X := cx 18) (cx_ok 18) rfl (rs := [(.tmp 4, 4), (.tmp 5, 26)]) Try.func34 (by decide) rfl rfl rfl (by simp [cx]) (nofrN2) ?_
 intro hlen
 have c1 := check_all n m (fun j => A j) (fun j => B j)
 rw [ckE_ok h] at c1
 ((conv=>whnf);repeat (refine Wa ?_;(repeat (first|refine Wb ?_|refine Wc ?_|refine Wd ?_|refine We ?_|refine Wf ?_));(conv=>whnf)))
 refine APure.to (APure.arg1 (subQ2 rfl rfl) c1) ?_
 ((conv=>whnf);repeat (refine Wa ?_;(repeat (first|refine Wb ?_|refine Wc ?_|refine Wd ?_|refine We ?_|refine Wf ?_));(conv=>whnf)))
 refine APure.to (APure.arg1 (subQ rfl rfl) (isStrong_pure h)) ?_
 ((conv=>whnf);repeat (refine Wa ?_;(repeat (first|refine Wb ?_|refine Wc ?_|refine Wd ?_|refine We ?_|refine Wf ?_));(conv=>whnf)))
 exact ⟨trivial, trivial, rfl⟩
set_option maxRecDepth 100000 in
theorem Parts_pure {n m : Nat} {A B : Nat → Nat} (h : Qok n m A B) : APure Try.prog 39 [.int n, stV false m (fun j => A j) (fun j => B j)] (fun R => R = tup2 (rowsV (prS n m A B n).2) (.int 0)) := by
 refine APure_of (X := cx 18) (cx_ok 18) rfl (rs := [(.tmp 4, 45), (.tmp 5, 26)]) Try.func39 (by decide) rfl rfl rfl (by simp [cx]) (nofrN2) ?_
 intro hlen
 have c1 := check_all n m (fun j => A j) (fun j => B j)
 rw [ckE_ok h] at c1
 ((conv=>whnf);repeat (refine Wa ?_;(repeat (first|refine Wb ?_|refine Wc ?_|refine Wd ?_|refine We ?_|refine Wf ?_));(conv=>whnf)))
 refine APure.to (APure.arg1 (subQ2 rfl rfl) c1) ?_
 ((conv=>whnf);repeat (refine Wa ?_;(repeat (first|refine Wb ?_|refine Wc ?_|refine Wd ?_|refine We ?_|refine Wf ?_));(conv=>whnf)))
 refine APure.to (APure.arg1 (subQ rfl rfl) (parts_pure h)) ?_
 ((conv=>whnf);repeat (refine Wa ?_;(repeat (first|refine Wb ?_|refine Wc ?_|refine Wd ?_|refine We ?_|refine Wf ?_));(conv=>whnf)))
 exact ⟨⟨rfl, fun j o _ _ => rfl⟩, trivial, rfl⟩
/-- The streets, and behind them those of a list the other way. -/
def boF (m : Nat) (A B : Nat → Nat) (l : List Int) (j : Nat) : Nat := if j < m then A j else if j < m + l.length then B (l.getD (j - m) 0).toNat else 0
theorem boF_cl (m : Nat) (A B : Nat → Nat) (l : List Int) : Cl (m + l.length) (fun j => boF m A B l j) := fun j hj => by
 show ((boF m A B l j : Nat) : Int) = 0
 unfold boF
 rw [if_neg (by omega), if_neg (by omega)]
 rfl
set_option maxRecDepth 100000 in
theorem Clone_cm (m : Nat) (A B : Nat → Int) (h0 : 0 < m) (hm : m ≤ 100) (M : Mem) : ACM Try.prog 80 [stV false m A B] M (fun R M' => R = .sl M.length 0 0 m ∧ M' = M.put M.length ⟨34, 2, 0, .cv m (raS A B)⟩) := by
 refine ACM_of (T := tab) (wr := []) tab_ok Try.func80 (by decide) rfl (Nat.le_of_ble_eq_true rfl) (fun nb => ?_)
 ((conv=>whnf);repeat (refine Wa ?_;(repeat (first|refine Wb ?_|refine Wc ?_|refine Wd ?_|refine We ?_|refine Wf ?_));(conv=>whnf)))
 refine ⟨(show (0 : Int) < (m : Int) by omega), ?_⟩
 ((conv=>whnf);repeat (refine Wa ?_;(repeat (first|refine Wb ?_|refine Wc ?_|refine Wd ?_|refine We ?_|refine Wf ?_));(conv=>whnf)))
 rw [forceNP_eq]
 ((conv=>whnf);repeat (refine Wa ?_;(repeat (first|refine Wb ?_|refine Wc ?_|refine Wd ?_|refine We ?_|refine Wf ?_));(conv=>whnf)))
 refine gen_mem rfl ?_
 ((conv=>whnf);repeat (refine Wa ?_;(repeat (first|refine Wb ?_|refine Wc ?_|refine Wd ?_|refine We ?_|refine Wf ?_));(conv=>whnf)))
 rw [forceNP_eq]
 ((conv=>whnf);repeat (refine Wa ?_;(repeat (first|refine Wb ?_|refine Wc ?_|refine Wd ?_|refine We ?_|refine Wf ?_));(conv=>whnf)))
 refine ⟨(show (16 : Int) * (m : Int) ≤ 140737488355328 by omega), ?_⟩
 ((conv=>whnf);repeat (refine Wa ?_;(repeat (first|refine Wb ?_|refine Wc ?_|refine Wd ?_|refine We ?_|refine Wf ?_));(conv=>whnf)))
 obtain ⟨M1, hMe1⟩ : ∃ M1, M.put M.length ⟨34, 2, 0, .cv m (raS A B)⟩ = M1 := ⟨_, rfl⟩
 refine gen_mem hMe1 ?_
 ((conv=>whnf);repeat (refine Wa ?_;(repeat (first|refine Wb ?_|refine Wc ?_|refine Wd ?_|refine We ?_|refine Wf ?_));(conv=>whnf)))
 exact ⟨_, rfl, rfl, hMe1.symm⟩
def wrB : List FuncId := [80]
theorem boF_lo {m : Nat} {A B : Nat → Nat} {l : List Int} {j : Nat} (h : j < m) : boF m A B l j = A j := if_pos h
theorem boF_hi {m : Nat} {A B : Nat → Nat} {l : List Int} {k : Nat} (h : k < l.length) : boF m A B l (m + k) = B (l.getD k 0).toNat := by
 unfold boF
 rw [if_neg (by omega), if_pos (by omega), Nat.add_sub_cancel_left]
@[reducible] def stOb (ver n : Nat) (A B : Nat → Nat) : Ob := ⟨34, 2, ver, .cv n (raS (fun j => A j) (fun j => B j))⟩
theorem ownRa {M : Mem} {k : Nat} {A B : Nat → Int} {j o : Nat} : ownvalN M (k + 1) (raS A B (0 + j) o) = raS A B j o := by
 rw [Nat.zero_add]
 unfold raS
 split <;> rfl
theorem frRa {M : Mem} {k : Nat} {A B : Nat → Int} {j o : Nat} : Fr (ownvalN M (k + 1) (raS A B (0 + j) o)) := by
 rw [ownRa]
 unfold raS
 split <;> trivial
theorem ownRb {M : Mem} {k : Nat} {A B : Nat → Int} {j o : Nat} : ownvalN M (k + 1) (raS A B j o) = raS A B j o := by
 unfold raS
 split <;> rfl
theorem frRb {M : Mem} {k : Nat} {A B : Nat → Int} {j o : Nat} : Fr (ownvalN M (k + 1) (raS A B j o)) := by
 rw [ownRb]
 unfold raS
 split <;> trivial
theorem namedRa {kp : Nat → Bool} {A B : Nat → Int} {j o : Nat} : Named kp (raS A B j o) := by
 unfold raS
 split <;> trivial
set_option maxRecDepth 100000 in
theorem both_pure {n m : Nat} {A B : Nat → Nat} (h0 : 0 < m) (l : List Int) (hl : asB m l l.length = true) (hml : m + l.length ≤ 14) : APure Try.prog 64 [qu n m A B, .ints false l] (fun R => R = stV true (m + l.length) (fun j => boF m A B l j) (fun j => boF m B A l j)) := by
 refine APure_of (X := ⟨Try.prog, tab, wrB, 28, 0, false⟩) tab_ok rfl (rs := [(.tmp 4, 22)]) Try.func64 (by decide) rfl rfl rfl (by simp) nofrQL ?_
 intro hlen
 ((conv=>whnf);repeat (refine Wa ?_;(repeat (first|refine Wb ?_|refine Wc ?_|refine Wd ?_|refine We ?_|refine Wf ?_));(conv=>whnf)))
 refine (Clone_cm m (fun j => A j) (fun j => B j) h0 (by omega) _).mono ?_
 rintro R M ⟨rfl, rfl⟩
 ((conv=>whnf);repeat (refine Wa ?_;(repeat (first|refine Wb ?_|refine Wc ?_|refine Wd ?_|refine We ?_|refine Wf ?_));(conv=>whnf)))
 refine AW_loopA (X := ⟨Try.prog, tab, wrB, 28, 0, false⟩) tab_ok [2, 5, 11, 12, 13] (cutN 2) (fun vs M => ∃ k ver : Nat, k ≤ l.length ∧ vs = [.ptr 0 0 0 0, .sl 1 ver 0 (m + k), .ints false l, .int l.length, .int k] ∧ M = [some (quO n m (fun j => A j) (fun j => B j)), some (stOb ver (m + k) (boF m A B l) (boF m B A l))]) (fun vs _ => l.length - (vs.getD 4 .any).toInt.toNat) (fun t ht => cutN_iff.2 ht) ?_ ?_
 ·refine memA0 [some (quO n m (fun j => A j) (fun j => B j)), some (stOb 0 (m + 0) (boF m A B l) (boF m B A l))] ⟨ObSub.refl _, ObSub_vv (fun j q hj _ => ?_), trivial⟩ ⟨0, 0, Nat.zero_le _, rfl, rfl⟩
  unfold raS
  split
  ·show V.int (A j : Nat) = V.int (boF m A B l j : Nat)
   rw [boF_lo hj]
  ·show V.int (B j : Nat) = V.int (boF m B A l j : Nat)
   rw [boF_lo hj]
 rintro vs M ⟨k, ver, hk, rfl, rfl⟩
 ((conv=>whnf);repeat (refine Wa ?_;(repeat (first|refine Wb ?_|refine Wc ?_|refine Wd ?_|refine We ?_|refine Wf ?_));(conv=>whnf)))
 refine br_dec (fun hlt => ?_) (fun hge => ?_)
 ·have hk' : k < l.length := by omega
  have h1 := asP_iff.1 (allB_iff.1 hl k hk')
  obtain ⟨t, ht⟩ : ∃ t : Nat, l.getD k 0 = t := ⟨(l.getD k 0).toNat, by omega⟩
  have c1 := Turned_pure (A t) (B t)
  ((conv=>whnf);repeat (refine Wa ?_;(repeat (first|refine Wb ?_|refine Wc ?_|refine Wd ?_|refine We ?_|refine Wf ?_));(conv=>whnf)))
  repeat ((first | refine ⟨by omega, ?_⟩ | refine ⟨inr (by omega), ?_⟩ | refine eqn_self ?_ | refine ⟨ms (by omega), ?_⟩ | refine ⟨ms (by simp only [Src.n]; omega), ?_⟩ | refine ⟨msk (by omega), ?_⟩ | refine ⟨ms1, ?_⟩); ((conv=>whnf);repeat (refine Wa ?_;(repeat (first|refine Wb ?_|refine Wc ?_|refine Wd ?_|refine We ?_|refine Wf ?_));(conv=>whnf))))
  rw [Int.toNat_natCast, ht]
  refine ⟨by omega, ?_⟩
  refine ⟨(show (t : Int) < m by omega), ?_⟩
  rw [Int.toNat_natCast]
  ((conv=>whnf);repeat (refine Wa ?_;(repeat (first|refine Wb ?_|refine Wc ?_|refine Wd ?_|refine We ?_|refine Wf ?_));(conv=>whnf)))
  refine APure.to (APure.arg1 (sub_agg fun i hi => by
   have hi : i < 2 := hi
   rcases (by omega : i = 0 ∨ i = 1) with rfl | rfl <;> exact Sub.refl _) c1) ?_
  ((conv=>whnf);repeat (refine Wa ?_;(repeat (first|refine Wb ?_|refine Wc ?_|refine Wd ?_|refine We ?_|refine Wf ?_));(conv=>whnf)))
  refine eqn_self ?_
  ((conv=>whnf);repeat (refine Wa ?_;(repeat (first|refine Wb ?_|refine Wc ?_|refine Wd ?_|refine We ?_|refine Wf ?_));(conv=>whnf)))
  refine ⟨(show (16 : Int) * (((m + k : Nat) : Int) + (1 : Nat)) ≤ 140737488355328 by omega), ?_⟩
  ((conv=>whnf);repeat (refine Wa ?_;(repeat (first|refine Wb ?_|refine Wc ?_|refine Wd ?_|refine We ?_|refine Wf ?_));(conv=>whnf)))
  refine ⟨inr (by omega), ?_⟩
  ((conv=>whnf);repeat (refine Wa ?_;(repeat (first|refine Wb ?_|refine Wc ?_|refine Wd ?_|refine We ?_|refine Wf ?_));(conv=>whnf)))
  have e1 : boF m A B l (m + k) = B t := by rw [boF_hi hk', ht, Int.toNat_natCast]
  have e2 : boF m B A l (m + k) = A t := by rw [boF_hi hk', ht, Int.toNat_natCast]
  refine ⟨⟨⟨rfl, rfl, trivial, trivial, trivial, trivial⟩, ⟨trivial, namedS, trivial⟩, fun j o _ ho => named_app namedRa (by rcases (show o = 0 ∨ o = 1 by have h : o < 2 := ho; omega) with rfl | rfl <;> trivial), trivial⟩, ?_⟩
  refine ⟨[.ptr 0 0 0 0, .sl 1 (ver + 1) 0 (m + (k + 1)), .ints false l, .int l.length, .int (k + 1 : Nat)], [some (quO n m (fun j => A j) (fun j => B j)), some (stOb (ver + 1) (m + (k + 1)) (boF m A B l) (boF m B A l))], ?_, ?_, ⟨k + 1, ver + 1, hk', rfl, rfl⟩, by simp [V.toInt]; omega⟩
  ·exact ⟨Sub.refl _, Sub.refl _, Sub.refl _, Sub.refl _, Sub.refl _, trivial⟩
  ·refine ⟨ObSub.refl _, ⟨rfl, rfl, rfl, rfl, ⟨rfl, rfl⟩, fun j o hj ho => Sub.of ?_⟩, trivial⟩
   by_cases hj2 : j < m + k
   ·exact (if_pos hj2)
   ·have hj : j < m + k + 1 := hj
    obtain rfl : j = m + k := by omega
    refine (if_neg hj2).trans ?_
    rcases (show o = 0 ∨ o = 1 by have h : o < 2 := ho; omega) with rfl | rfl
    ·show V.int (B t : Nat) = V.int (boF m A B l (m + k) : Nat)
     rw [e1]
    ·show V.int (A t : Nat) = V.int (boF m B A l (m + k) : Nat)
     rw [e2]
 ·obtain rfl : k = l.length := by omega
  ((conv=>whnf);repeat (refine Wa ?_;(repeat (first|refine Wb ?_|refine Wc ?_|refine Wd ?_|refine We ?_|refine Wf ?_));(conv=>whnf)))
  refine eqn_self ?_
  ((conv=>whnf);repeat (refine Wa ?_;(repeat (first|refine Wb ?_|refine Wc ?_|refine Wd ?_|refine We ?_|refine Wf ?_));(conv=>whnf)))
  exact ⟨⟨rfl, fun j o _ _ => frRa (k := 3) (A := fun j => (boF m A B l j : Nat)) (B := fun j => (boF m B A l j : Nat)) (j := j) (o := o)⟩, congrArg (V.seq true 2 _) (funext fun j => funext fun o => ownRa (k := 3) (A := fun j => (boF m A B l j : Nat)) (B := fun j => (boF m B A l j : Nat)) (j := j) (o := o))⟩
theorem pos_m {n m : Nat} {A B : Nat → Nat} (h : Qok n m A B) : 0 < m := by
 have h2 := h.q.lo
 have : 2 ^ 2 ≤ 2 ^ n := Nat.pow_le_pow_right (by decide) h2
 obtain ⟨j, hj, _⟩ := set_street h (s := 1) (by omega) (by unfold fullN; omega)
 omega
/-- The error of Both, in a quarter that is right. -/
def cbE (m : Nat) (l : List Int) : Int := if 14 < m + l.length then 3 else if asB m l l.length = true then 0 else 2
set_option maxRecDepth 100000 in
theorem checkBoth_pure {n m : Nat} {A B : Nat → Nat} (h : Qok n m A B) (l : List Int) (hl : l.length ≤ 60) : APure Try.prog 63 [quI n m (fun j => A j) (fun j => B j), .ints false l] (fun R => R = .int (cbE m l)) := by
 refine APure_of (X := cx 22) (cx_ok 22) rfl (rs := [(.tmp 4, 26)]) Try.func63 (by decide) rfl rfl rfl (by simp [cx]) (nofr2 nofrQI (show NoFr (.ints false l) from rfl)) ?_
 intro hlen
 have hm := h.q.sm
 have c1 := check_all n m (fun j => A j) (fun j => B j)
 rw [ckE_ok h] at c1
 have c2 := areStreets_pure h.q l
 ((conv=>whnf);repeat (refine Wa ?_;(repeat (first|refine Wb ?_|refine Wc ?_|refine Wd ?_|refine We ?_|refine Wf ?_));(conv=>whnf)))
 refine APure.to (APure.arg1 (subQ2 rfl rfl) c1) ?_
 ((conv=>whnf);repeat (refine Wa ?_;(repeat (first|refine Wb ?_|refine Wc ?_|refine Wd ?_|refine We ?_|refine Wf ?_));(conv=>whnf)))
 refine ⟨(show InR ((m : Int) + l.length) from inr (by omega)), ?_⟩
 ((conv=>whnf);repeat (refine Wa ?_;(repeat (first|refine Wb ?_|refine Wc ?_|refine Wd ?_|refine We ?_|refine Wf ?_));(conv=>whnf)))
 unfold cbE
 refine br_dec (fun h1 => ?_) (fun h1 => ?_)
 ·have h1 : (m : Int) + l.length > 14 := h1
  ((conv=>whnf);repeat (refine Wa ?_;(repeat (first|refine Wb ?_|refine Wc ?_|refine Wd ?_|refine We ?_|refine Wf ?_));(conv=>whnf)))
  refine ⟨trivial, Qi ?_⟩
  rw [if_pos (by omega)]
 have h1 : ¬ (m : Int) + l.length > 14 := h1
 rw [if_neg (show ¬ 14 < m + l.length by omega)]
 ((conv=>whnf);repeat (refine Wa ?_;(repeat (first|refine Wb ?_|refine Wc ?_|refine Wd ?_|refine We ?_|refine Wf ?_));(conv=>whnf)))
 refine APure.to (APure.arg2 (subQ rfl rfl) (Sub.refl _) c2) ?_
 ((conv=>whnf);repeat (refine Wa ?_;(repeat (first|refine Wb ?_|refine Wc ?_|refine Wd ?_|refine We ?_|refine Wf ?_));(conv=>whnf)))
 refine br_not ?_
 refine br_mk (fun hb => ?_) (fun hb => ?_)
 ·((conv=>whnf);repeat (refine Wa ?_;(repeat (first|refine Wb ?_|refine Wc ?_|refine Wd ?_|refine We ?_|refine Wf ?_));(conv=>whnf)))
  exact ⟨trivial, Qi (by rw [if_pos hb])⟩
 ·((conv=>whnf);repeat (refine Wa ?_;(repeat (first|refine Wb ?_|refine Wc ?_|refine Wd ?_|refine We ?_|refine Wf ?_));(conv=>whnf)))
  exact ⟨trivial, Qi (by rw [if_neg (by rw [hb]; simp)])⟩
set_option maxRecDepth 100000 in
theorem Both_pure {n m : Nat} {A B : Nat → Nat} (h : Qok n m A B) (l : List Int) (hl : l.length ≤ 60) : APure Try.prog 36 [.int n, stV false m (fun j => A j) (fun j => B j), .ints false l] (fun R => R = if cbE m l = 0 then tup2 (stV true (m + l.length) (fun j => boF m A B l j) (fun j => boF m B A l j)) (.int 0) else tup2 (.emp true) (.int (cbE m l))) := by
 refine APure_of (X := cx 22) (cx_ok 22) rfl (rs := [(.tmp 6, 22), (.tmp 7, 26)]) Try.func36 (by decide) rfl rfl rfl (by simp [cx]) (nofrNL) ?_
 intro hlen
 have c1 := checkBoth_pure h l hl
 by_cases h0 : cbE m l = 0
 ·rw [if_pos h0]
  rw [h0] at c1
  have h1 : ¬ 14 < m + l.length := fun h1 => by unfold cbE at h0; rw [if_pos h1] at h0; cases h0
  have h2 : asB m l l.length = true := by
   unfold cbE at h0
   rw [if_neg h1] at h0
   cases hb : asB m l l.length with
   | true => rfl
   | false => rw [hb] at h0; cases h0
  have c2 := both_pure (n := n) (A := A) (B := B) (pos_m h) l h2 (by omega)
  ((conv=>whnf);repeat (refine Wa ?_;(repeat (first|refine Wb ?_|refine Wc ?_|refine Wd ?_|refine We ?_|refine Wf ?_));(conv=>whnf)))
  refine APure.to (APure.arg2 (subQ2 rfl rfl) (Sub.refl _) c1) ?_
  ((conv=>whnf);repeat (refine Wa ?_;(repeat (first|refine Wb ?_|refine Wc ?_|refine Wd ?_|refine We ?_|refine Wf ?_));(conv=>whnf)))
  refine APure.to (APure.arg2 (subQ rfl rfl) (Sub.refl _) c2) ?_
  ((conv=>whnf);repeat (refine Wa ?_;(repeat (first|refine Wb ?_|refine Wc ?_|refine Wd ?_|refine We ?_|refine Wf ?_));(conv=>whnf)))
  refine ⟨⟨rfl, fun j o _ _ => frRb (k := 3) (A := fun j => (boF m A B l j : Nat)) (B := fun j => (boF m B A l j : Nat)) (j := j) (o := o)⟩, trivial, ?_⟩
  refine congrArg (fun f => tup2 (.seq true 2 _ f) (.int 0)) (funext fun j => funext fun o => ownRb (k := 3) (A := fun j => (boF m A B l j : Nat)) (B := fun j => (boF m B A l j : Nat)) (j := j) (o := o))
 ·rw [if_neg h0]
  ((conv=>whnf);repeat (refine Wa ?_;(repeat (first|refine Wb ?_|refine Wc ?_|refine Wd ?_|refine We ?_|refine Wf ?_));(conv=>whnf)))
  refine APure.to (APure.arg2 (subQ2 rfl rfl) (Sub.refl _) c1) ?_
  ((conv=>whnf);repeat (refine Wa ?_;(repeat (first|refine Wb ?_|refine Wc ?_|refine Wd ?_|refine We ?_|refine Wf ?_));(conv=>whnf)))
  refine br_ne (fun _ => ?_) (fun h' => absurd h' h0)
  ((conv=>whnf);repeat (refine Wa ?_;(repeat (first|refine Wb ?_|refine Wc ?_|refine Wd ?_|refine We ?_|refine Wf ?_));(conv=>whnf)))
  exact ⟨trivial, trivial, rfl⟩
end Go.Tri
