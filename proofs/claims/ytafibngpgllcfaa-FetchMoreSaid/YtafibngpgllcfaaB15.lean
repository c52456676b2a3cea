/-
 CONTRACTS: the error of a quarter, whole; Cuts, Crossing, Smallest.
-/
import Derived.Test.YtafibngpgllcfaaB14
import Derived.Test.YtafibngpgllcfaaB10
namespace Go.Tri
open Go.Proofs

/-- The corners as natural numbers. -/
def clN (m : Nat) (A : Nat → Int) (j : Nat) : Nat := if j < m then (A j).toNat else 0
/-- The error of a quarter. -/
def ckE (n : Int) (m : Nat) (A B : Nat → Int) : Int := chE n m A B (conB n.toNat m (clN m A) (clN m B))
theorem clN_cl {m : Nat} {A : Nat → Int} : Cl m (fun j => (clN m A j : Nat)) := fun j hj => by
 show ((clN m A j : Nat) : Int) = 0
 unfold clN
 rw [if_neg (by omega)]
 rfl
theorem clN_eq {m : Nat} {A : Nat → Int} {j : Nat} (hj : j < m) (h : 0 ≤ A j) : ((clN m A j : Nat) : Int) = A j := by
 unfold clN
 rw [if_pos hj]
 omega
theorem subQI {n : Int} {m : Nat} {A B A' B' : Nat → Int} {n' : Nat} (hn : n = n') (hA : ∀ j, j < m → A j = A' j) (hB : ∀ j, j < m → B j = B' j) : Sub (quI n m A B) (quV n' m A' B') := sub_agg fun i hi => by
 rcases (by omega : i = 0 ∨ i = 1) with rfl | rfl
 ·exact Sub.of (congrArg V.int hn)
 ·refine sub_seq fun j k hj hk => Sub.of ?_
  unfold raS
  split
  ·exact congrArg V.int (hA j hj)
  ·exact congrArg V.int (hB j hj)
theorem check_all (n : Int) (m : Nat) (A B : Nat → Int) : APure Try.prog 43 [quI n m A B] (fun R => R = .int (ckE n m A B)) := by
 refine check_pure n m A B _ (fun h0 h1 h2 => ?_)
 have h0 := of_decide_eq_true h0
 have h1 := of_decide_eq_true h1
 have h2 := joinB_iff.1 h2
 exact APure.arg1 (subQI (n' := n.toNat) (by omega) (fun j hj => (clN_eq hj (h2 j hj).1.1).symm) (fun j hj => (clN_eq hj (h2 j hj).2.1.1).symm)) (isConnected_pure n.toNat m (clN m A) (clN m B) (by omega) (by omega)
  (fun j hj => by have := clN_eq hj (h2 j hj).1.1; have := (h2 j hj).1.2; omega) (fun j hj => by have := clN_eq hj (h2 j hj).2.1.1; have := (h2 j hj).2.1.2; omega) clN_cl clN_cl)
/-- A quarter that is right. -/
structure Qok (n m : Nat) (A B : Nat → Nat) : Prop where
 q : Qn n m A B
 ne : ∀ j, j < m → A j ≠ B j
 con : conB n m A B = true
 cA : Cl m (fun j => A j)
 cB : Cl m (fun j => B j)
theorem chE_zero {n : Int} {m : Nat} {A B : Nat → Int} {b : Bool} : chE n m A B b = 0 ↔ (2 ≤ n ∧ n ≤ 7) ∧ (m : Int) ≤ 14 ∧ joinB n m A B = true ∧ b = true := by
 unfold chE
 simp only [chF, kpB, brk]
 by_cases h0 : 2 ≤ n ∧ n ≤ 7
 ·by_cases h1 : (m : Int) ≤ 14
  ·by_cases h2 : joinB n m A B = true
   ·cases b <;> simp [h0, h1, h2]
   ·simp [h0, h1, h2]
  ·simp [h0, h1]
 ·simp [h0]
theorem ckE_zero {n : Int} {m : Nat} {A B : Nat → Int} (h : ckE n m A B = 0) : n = n.toNat ∧ Qok n.toNat m (clN m A) (clN m B) ∧ (∀ j, j < m → A j = (clN m A j : Nat)) ∧ (∀ j, j < m → B j = (clN m B j : Nat)) := by
 obtain ⟨h0, h1, h2, h3⟩ := chE_zero.1 h
 have h2 := joinB_iff.1 h2
 have eA : ∀ j, j < m → A j = (clN m A j : Nat) := fun j hj => (clN_eq hj (h2 j hj).1.1).symm
 have eB : ∀ j, j < m → B j = (clN m B j : Nat) := fun j hj => (clN_eq hj (h2 j hj).2.1.1).symm
 refine ⟨by omega, ⟨⟨by omega, by omega, by omega, fun j hj => ?_, fun j hj => ?_⟩, fun j hj => ?_, h3, clN_cl, clN_cl⟩, eA, eB⟩
 ·have := (h2 j hj).1.2
  have := eA j hj
  omega
 ·have := (h2 j hj).2.1.2
  have := eB j hj
  omega
 ·have := (h2 j hj).2.2
  have := eA j hj
  have := eB j hj
  omega
theorem clN_self {m : Nat} {A : Nat → Nat} (h : Cl m (fun j => A j)) : clN m (fun j => A j) = A := by
 funext j
 unfold clN
 split
 ·exact Int.toNat_natCast _
 ·have h1 : (A j : Int) = 0 := h j (by omega)
  omega
theorem ckE_ok {n m : Nat} {A B : Nat → Nat} (h : Qok n m A B) : ckE n m (fun j => A j) (fun j => B j) = 0 := by
 unfold ckE
 rw [clN_self h.cA, clN_self h.cB, Int.toNat_natCast]
 have h1 := h.q.lo
 have h2 := h.q.hi
 have h3 := h.q.sm
 refine chE_zero.2 ⟨by omega, by omega, joinB_iff.2 fun j hj => ?_, h.con⟩
 have := h.q.hA j hj
 have := h.q.hB j hj
 have := h.ne j hj
 omega
theorem subQ2 {g : Nat → V} {M : Mem} {d m : Nat} {n : Int} {A B : Nat → Int} (h0 : g 0 = .int n) (h1 : g 1 = .seq false 2 m fun j k => byvalN M (d + 1) (raS A B j k)) : Sub (.agg 2 g) (quI n m A B) := sub_agg fun i hi => by
 rcases (by omega : i = 0 ∨ i = 1) with rfl | rfl
 ·rw [h0]
  exact Sub.refl _
 ·rw [h1]
  exact subS
theorem nofrN2 {n : Int} {m : Nat} {A B : Nat → Int} : ∀ x ∈ [V.int n, stV false m A B], NoFr x := nofr2 nofrInt nofrS
set_option maxRecDepth 100000 in
theorem Cuts_bad {n : Int} {m : Nat} {A B : Nat → Int} (h : ckE n m A B ≠ 0) : APure Try.prog 17 [.int n, stV false m A B] (fun R => R = tup2 (.ints true []) (.int (ckE n m A B))) := by
 refine APure_of (X := cx 33) (cx_ok 33) rfl (rs := [(.tmp 4, 25), (.tmp 5, 26)]) Try.func17 (by decide) rfl rfl rfl (by simp [cx]) (nofrN2) ?_
 intro hlen
 have c1 := check_all n m A B
 ((conv=>whnf);repeat (refine Wa ?_;(repeat (first|refine Wb ?_|refine Wc ?_|refine Wd ?_|refine We ?_|refine Wf ?_));(conv=>whnf)))
 refine APure.to (APure.arg1 (subQ2 rfl rfl) c1) ?_
 ((conv=>whnf);repeat (refine Wa ?_;(repeat (first|refine Wb ?_|refine Wc ?_|refine Wd ?_|refine We ?_|refine Wf ?_));(conv=>whnf)))
 refine br_ne (fun _ => ?_) (fun h' => absurd h' h)
 ((conv=>whnf);repeat (refine Wa ?_;(repeat (first|refine Wb ?_|refine Wc ?_|refine Wd ?_|refine We ?_|refine Wf ?_));(conv=>whnf)))
 exact ⟨rfl, trivial, rfl⟩
theorem subCuT {m : Nat} {A B : Nat → Nat} {L : List Int} {g : Nat → Nat → V} (h : g = cuF m A B L) : Sub (.seq true 2 L.length g) (cusV m A B true L) := by subst h; exact Sub.refl _
set_option maxRecDepth 100000 in
theorem Cuts_pure {n m : Nat} {A B : Nat → Nat} (h : Qok n m A B) : APure Try.prog 17 [.int n, stV false m (fun j => A j) (fun j => B j)] (fun R => R = tup2 (.ints true (cutL n m A B (fullN n))) (.int 0)) := by
 refine APure_of (X := cx 33) (cx_ok 33) rfl (rs := [(.tmp 4, 25), (.tmp 5, 26)]) Try.func17 (by decide) rfl rfl rfl (by simp [cx]) (nofrN2) ?_
 intro hlen
 have c1 := check_all n m (fun j => A j) (fun j => B j)
 have c2 := cuts_pure h.q
 rw [ckE_ok h] at c1
 have hf := full_le h.q.hi
 have hL := cutL_len (n := n) (m := m) (A := A) (B := B) (fullN n)
 obtain ⟨L, hLe⟩ : ∃ L, cutL n m A B (fullN n) = L := ⟨_, rfl⟩
 rw [hLe] at c2 hL ⊢
 ((conv=>whnf);repeat (refine Wa ?_;(repeat (first|refine Wb ?_|refine Wc ?_|refine Wd ?_|refine We ?_|refine Wf ?_));(conv=>whnf)))
 refine APure.to (APure.arg1 (subQ2 rfl rfl) c1) ?_
 ((conv=>whnf);repeat (refine Wa ?_;(repeat (first|refine Wb ?_|refine Wc ?_|refine Wd ?_|refine We ?_|refine Wf ?_));(conv=>whnf)))
 refine APure.to (APure.arg1 (subQ rfl rfl) c2) ?_
 ((conv=>whnf);repeat (refine Wa ?_;(repeat (first|refine Wb ?_|refine Wc ?_|refine Wd ?_|refine We ?_|refine Wf ?_));(conv=>whnf)))
 refine AW_nil 1 [8, 20, 21, 22] [.sl 1 0 0 0, cusV m A B true L, .int L.length, .int 0] [some (quO n m (fun j => A j) (fun j => B j)), some (ilO 3 0 [])] rfl ⟨ObNl.refl _, trivial⟩ rfl ⟨NlV.nil _, NlV.refl _, NlV.refl _, NlV.refl _, trivial⟩ ?_
 refine AW_loopA (X := cx 33) (cx_ok 33) [8, 20, 21, 22] (cutN 2) (fun vs M => ∃ k ver : Nat, k ≤ L.length ∧ vs = [.sl 1 ver 0 (L.take k).length, cusV m A B true L, .int L.length, .int k] ∧ M = [some (quO n m (fun j => A j) (fun j => B j)), some (ilO 3 ver (L.take k))]) (fun vs _ => L.length - (vs.getD 3 .any).toInt.toNat) (fun t ht => cutN_iff.2 ht) ?_ ?_
 ·exact same0 ⟨0, 0, Nat.zero_le _, rfl, rfl⟩
 rintro vs M ⟨k, ver, hk, rfl, rfl⟩
 have hll : (L.take k).length = k := by rw [List.length_take]; omega
 ((conv=>whnf);repeat (refine Wa ?_;(repeat (first|refine Wb ?_|refine Wc ?_|refine Wd ?_|refine We ?_|refine Wf ?_));(conv=>whnf)))
 refine br_dec (fun hlt => ?_) (fun hge => ?_)
 ·have hk' : k < L.length := by omega
  ((conv=>whnf);repeat (refine Wa ?_;(repeat (first|refine Wb ?_|refine Wc ?_|refine Wd ?_|refine We ?_|refine Wf ?_));(conv=>whnf)))
  repeat ((first | refine ⟨by omega, ?_⟩ | refine ⟨inr (by omega), ?_⟩ | refine eqn_self ?_ | refine ⟨ms (by omega), ?_⟩ | refine ⟨ms (by simp only [Src.n]; omega), ?_⟩ | refine ⟨msk (by omega), ?_⟩ | refine ⟨ms1, ?_⟩); ((conv=>whnf);repeat (refine Wa ?_;(repeat (first|refine Wb ?_|refine Wc ?_|refine Wd ?_|refine We ?_|refine Wf ?_));(conv=>whnf))))
  refine ⟨(show (8 : Int) * (((L.take k).length : Int) + (1 : Nat)) ≤ 140737488355328 by omega), ?_⟩
  ((conv=>whnf);repeat (refine Wa ?_;(repeat (first|refine Wb ?_|refine Wc ?_|refine Wd ?_|refine We ?_|refine Wf ?_));(conv=>whnf)))
  refine ⟨inr (by omega), ?_⟩
  ((conv=>whnf);repeat (refine Wa ?_;(repeat (first|refine Wb ?_|refine Wc ?_|refine Wd ?_|refine We ?_|refine Wf ?_));(conv=>whnf)))
  refine ⟨⟨⟨rfl, fun j q _ _ => namedCu, trivial, trivial, trivial⟩, ⟨trivial, namedS, trivial⟩, trivial, trivial⟩, ?_⟩
  refine ⟨[.sl 1 (ver + 1) 0 (L.take (k + 1)).length, cusV m A B true L, .int L.length, .int (k + 1 : Nat)], [some (quO n m (fun j => A j) (fun j => B j)), some (ilO 3 (ver + 1) (L.take (k + 1)))], ?_, ?_, ⟨k + 1, ver + 1, hk', rfl, rfl⟩, ?_⟩
  ·exact ⟨Sub.of (congrArg (V.sl 1 (ver + 1) 0) (show (L.take k).length + 1 = (L.take (k + 1)).length by rw [hll, List.length_take]; omega)), Sub.refl _, Sub.refl _, Sub.refl _, trivial⟩
  ·exact ⟨ObSub.refl _, ObSub.ii (show List.take (L.take k).length (L.take k) ++ [L.getD (k : Int).toNat 0] = _ by rw [List.take_length, Int.toNat_natCast, take_succ_getD _ _ hk']), trivial⟩
  ·simp [V.toInt]; omega
 ·obtain rfl : k = L.length := by omega
  ((conv=>whnf);repeat (refine Wa ?_;(repeat (first|refine Wb ?_|refine Wc ?_|refine Wd ?_|refine We ?_|refine Wf ?_));(conv=>whnf)))
  refine eqn_self ?_
  ((conv=>whnf);repeat (refine Wa ?_;(repeat (first|refine Wb ?_|refine Wc ?_|refine Wd ?_|refine We ?_|refine Wf ?_));(conv=>whnf)))
  refine ⟨rfl, trivial, ?_⟩
  show tup2 (V.ints true (List.take (L.take L.length).length (List.drop 0 (L.take L.length)))) (.int 0) = _
  rw [List.drop_zero, List.take_length, List.take_length]

/-- The error of a cut's own. -/
def ccE (n : Int) (m : Nat) (A B : Nat → Int) (z : Int) : Int := if ckE n m A B ≠ 0 then ckE n m A B else if cutZ n.toNat m (clN m A) (clN m B) z = true then 0 else 2
set_option maxRecDepth 100000 in
theorem checkCut_bad {n : Int} {m : Nat} {A B : Nat → Int} (z : Int) (h : ckE n m A B ≠ 0) : APure Try.prog 46 [quI n m A B, .int z] (fun R => R = .int (ckE n m A B)) := by
 refine APure_of (X := cx 15) (cx_ok 15) rfl (rs := [(.tmp 4, 26)]) Try.func46 (by decide) rfl rfl rfl (by simp [cx]) (nofr2 nofrQI nofrInt) ?_
 intro hlen
 have c1 := check_all n m A B
 ((conv=>whnf);repeat (refine Wa ?_;(repeat (first|refine Wb ?_|refine Wc ?_|refine Wd ?_|refine We ?_|refine Wf ?_));(conv=>whnf)))
 refine APure.to (APure.arg1 (subQ2 rfl rfl) c1) ?_
 ((conv=>whnf);repeat (refine Wa ?_;(repeat (first|refine Wb ?_|refine Wc ?_|refine Wd ?_|refine We ?_|refine Wf ?_));(conv=>whnf)))
 refine br_ne (fun _ => ?_) (fun h' => absurd h' h)
 ((conv=>whnf);repeat (refine Wa ?_;(repeat (first|refine Wb ?_|refine Wc ?_|refine Wd ?_|refine We ?_|refine Wf ?_));(conv=>whnf)))
 exact ⟨trivial, rfl⟩
set_option maxRecDepth 100000 in
theorem checkCut_pure {n m : Nat} {A B : Nat → Nat} (h : Qok n m A B) (z : Int) : APure Try.prog 46 [quI n m (fun j => A j) (fun j => B j), .int z] (fun R => R = .int (if cutZ n m A B z = true then 0 else 2)) := by
 refine APure_of (X := cx 15) (cx_ok 15) rfl (rs := [(.tmp 4, 26)]) Try.func46 (by decide) rfl rfl rfl (by simp [cx]) (nofr2 nofrQI nofrInt) ?_
 intro hlen
 have c1 := check_all n m (fun j => A j) (fun j => B j)
 rw [ckE_ok h] at c1
 have c2 := isCut_pure h.q z
 obtain ⟨f, hf⟩ : ∃ f : Int, f = 2 := ⟨_, rfl⟩
 ((conv=>whnf);repeat (refine Wa ?_;(repeat (first|refine Wb ?_|refine Wc ?_|refine Wd ?_|refine We ?_|refine Wf ?_));(conv=>whnf)))
 refine APure.to (APure.arg1 (subQ2 rfl rfl) c1) ?_
 ((conv=>whnf);repeat (refine Wa ?_;(repeat (first|refine Wb ?_|refine Wc ?_|refine Wd ?_|refine We ?_|refine Wf ?_));(conv=>whnf)))
 refine APure.to (APure.arg2 (subQ rfl rfl) (Sub.refl _) c2) ?_
 ((conv=>whnf);repeat (refine Wa ?_;(repeat (first|refine Wb ?_|refine Wc ?_|refine Wd ?_|refine We ?_|refine Wf ?_));(conv=>whnf)))
 refine br_not ?_
 refine br_mk (fun hb => ?_) (fun hb => ?_)
 ·((conv=>whnf);repeat (refine Wa ?_;(repeat (first|refine Wb ?_|refine Wc ?_|refine Wd ?_|refine We ?_|refine Wf ?_));(conv=>whnf)))
  exact ⟨trivial, by rw [if_pos hb]; rfl⟩
 ·((conv=>whnf);repeat (refine Wa ?_;(repeat (first|refine Wb ?_|refine Wc ?_|refine Wd ?_|refine We ?_|refine Wf ?_));(conv=>whnf)))
  exact ⟨trivial, by rw [if_neg (by rw [hb]; simp)]; rfl⟩
theorem nofrN3 {n z : Int} {m : Nat} {A B : Nat → Int} : ∀ x ∈ [V.int n, stV false m A B, V.int z], NoFr x := by intro x hx; simp at hx; rcases hx with rfl | rfl | rfl; exact nofrInt; exact nofrS; exact nofrInt
set_option maxRecDepth 100000 in
theorem Crossing_bad {n : Int} {m : Nat} {A B : Nat → Int} (z : Int) (h : ckE n m A B ≠ 0) : APure Try.prog 20 [.int n, stV false m A B, .int z] (fun R => R = tup2 (.ints true []) (.int (ckE n m A B))) := by
 refine APure_of (X := cx 23) (cx_ok 23) rfl (rs := [(.tmp 6, 25), (.tmp 7, 26)]) Try.func20 (by decide) rfl rfl rfl (by simp [cx]) (nofrN3) ?_
 intro hlen
 have c1 := checkCut_bad z h
 ((conv=>whnf);repeat (refine Wa ?_;(repeat (first|refine Wb ?_|refine Wc ?_|refine Wd ?_|refine We ?_|refine Wf ?_));(conv=>whnf)))
 refine APure.to (APure.arg2 (subQ2 rfl rfl) (Sub.refl _) c1) ?_
 ((conv=>whnf);repeat (refine Wa ?_;(repeat (first|refine Wb ?_|refine Wc ?_|refine Wd ?_|refine We ?_|refine Wf ?_));(conv=>whnf)))
 refine br_ne (fun _ => ?_) (fun h' => absurd h' h)
 ((conv=>whnf);repeat (refine Wa ?_;(repeat (first|refine Wb ?_|refine Wc ?_|refine Wd ?_|refine We ?_|refine Wf ?_));(conv=>whnf)))
 exact ⟨rfl, trivial, rfl⟩
set_option maxRecDepth 100000 in
theorem Crossing_pure {n m : Nat} {A B : Nat → Nat} (h : Qok n m A B) (z : Int) : APure Try.prog 20 [.int n, stV false m (fun j => A j) (fun j => B j), .int z] (fun R => R = if cutZ n m A B z = true then tup2 (.ints true (mbL (lvS A B z.toNat m) 14)) (.int 0) else tup2 (.ints true []) (.int 2)) := by
 refine APure_of (X := cx 23) (cx_ok 23) rfl (rs := [(.tmp 6, 25), (.tmp 7, 26)]) Try.func20 (by decide) rfl rfl rfl (by simp [cx]) (nofrN3) ?_
 intro hlen
 have c1 := checkCut_pure h z
 by_cases hb : cutZ n m A B z = true
 ·rw [if_pos hb] at c1 ⊢
  have hz : 0 < z ∧ z.toNat < fullN n := by
   unfold cutZ cutB at hb
   simp only [Bool.and_eq_true, decide_eq_true_iff] at hb
   exact ⟨hb.1, hb.2.2.1⟩
  have hf := full_le h.q.hi
  have c2 := leaving_pure h.q z.toNat (by omega)
  rw [show ((z.toNat : Nat) : Int) = z by omega] at c2
  have c3 := members_pure 14 (lvS A B z.toNat m) (by omega) (lv_small h.q _)
  ((conv=>whnf);repeat (refine Wa ?_;(repeat (first|refine Wb ?_|refine Wc ?_|refine Wd ?_|refine We ?_|refine Wf ?_));(conv=>whnf)))
  refine APure.to (APure.arg2 (subQ2 rfl rfl) (Sub.refl _) c1) ?_
  ((conv=>whnf);repeat (refine Wa ?_;(repeat (first|refine Wb ?_|refine Wc ?_|refine Wd ?_|refine We ?_|refine Wf ?_));(conv=>whnf)))
  refine APure.to (APure.arg2 (subQ rfl rfl) (Sub.refl _) c2) ?_
  ((conv=>whnf);repeat (refine Wa ?_;(repeat (first|refine Wb ?_|refine Wc ?_|refine Wd ?_|refine We ?_|refine Wf ?_));(conv=>whnf)))
  refine APure.to c3 ?_
  ((conv=>whnf);repeat (refine Wa ?_;(repeat (first|refine Wb ?_|refine Wc ?_|refine Wd ?_|refine We ?_|refine Wf ?_));(conv=>whnf)))
  exact ⟨rfl, trivial, rfl⟩
 ·rw [if_neg hb] at c1 ⊢
  obtain ⟨f, hf⟩ : ∃ f : Int, f = 2 := ⟨_, rfl⟩
  rw [← hf] at c1 ⊢
  ((conv=>whnf);repeat (refine Wa ?_;(repeat (first|refine Wb ?_|refine Wc ?_|refine Wd ?_|refine We ?_|refine Wf ?_));(conv=>whnf)))
  refine APure.to (APure.arg2 (subQ2 rfl rfl) (Sub.refl _) c1) ?_
  ((conv=>whnf);repeat (refine Wa ?_;(repeat (first|refine Wb ?_|refine Wc ?_|refine Wd ?_|refine We ?_|refine Wf ?_));(conv=>whnf)))
  refine br_ne (fun _ => ?_) (fun h' => by rw [hf] at h'; exact absurd h' (by decide))
  ((conv=>whnf);repeat (refine Wa ?_;(repeat (first|refine Wb ?_|refine Wc ?_|refine Wd ?_|refine We ?_|refine Wf ?_));(conv=>whnf)))
  exact ⟨rfl, trivial, rfl⟩
set_option maxRecDepth 100000 in
theorem Smallest_bad {n : Int} {m : Nat} {A B : Nat → Int} (h : ckE n m A B ≠ 0) : APure Try.prog 22 [.int n, stV false m A B] (fun R => R = tup3 (.int 0) (.int 0) (.int (ckE n m A B))) := by
 refine APure_of (X := cx 29) (cx_ok 29) rfl (rs := [(.tmp 4, 3), (.tmp 5, 3), (.tmp 6, 26)]) Try.func22 (by decide) rfl rfl rfl (by simp [cx]) (nofrN2) ?_
 intro hlen
 have c1 := check_all n m A B
 ((conv=>whnf);repeat (refine Wa ?_;(repeat (first|refine Wb ?_|refine Wc ?_|refine Wd ?_|refine We ?_|refine Wf ?_));(conv=>whnf)))
 refine APure.to (APure.arg1 (subQ2 rfl rfl) c1) ?_
 ((conv=>whnf);repeat (refine Wa ?_;(repeat (first|refine Wb ?_|refine Wc ?_|refine Wd ?_|refine We ?_|refine Wf ?_));(conv=>whnf)))
 refine br_ne (fun _ => ?_) (fun h' => absurd h' h)
 ((conv=>whnf);repeat (refine Wa ?_;(repeat (first|refine Wb ?_|refine Wc ?_|refine Wd ?_|refine We ?_|refine Wf ?_));(conv=>whnf)))
 exact ⟨trivial, trivial, trivial, rfl⟩
/-- The smallest cut of all: how many streets, which, the error. -/
def smV (m : Nat) (A B : Nat → Nat) (L : List Int) : V := if (smF m A B L L.length).2 = 0 then tup3 (.int 0) (.int 0) (.int 10) else tup3 (.int (smF m A B L L.length).1) (.int (smF m A B L L.length).2) (.int 0)
set_option maxRecDepth 100000 in
theorem Smallest_pure {n m : Nat} {A B : Nat → Nat} (h : Qok n m A B) : APure Try.prog 22 [.int n, stV false m (fun j => A j) (fun j => B j)] (fun R => R = smV m A B (cutL n m A B (fullN n))) := by
 refine APure_of (X := cx 29) (cx_ok 29) rfl (rs := [(.tmp 4, 3), (.tmp 5, 3), (.tmp 6, 26)]) Try.func22 (by decide) rfl rfl rfl (by simp [cx]) (nofrN2) ?_
 intro hlen
 have c1 := check_all n m (fun j => A j) (fun j => B j)
 have c2 := cuts_pure h.q
 rw [ckE_ok h] at c1
 obtain ⟨L, hLe⟩ : ∃ L, cutL n m A B (fullN n) = L := ⟨_, rfl⟩
 rw [hLe] at c2 ⊢
 have c3 := smallest_pure h.q L
 ((conv=>whnf);repeat (refine Wa ?_;(repeat (first|refine Wb ?_|refine Wc ?_|refine Wd ?_|refine We ?_|refine Wf ?_));(conv=>whnf)))
 refine APure.to (APure.arg1 (subQ2 rfl rfl) c1) ?_
 ((conv=>whnf);repeat (refine Wa ?_;(repeat (first|refine Wb ?_|refine Wc ?_|refine Wd ?_|refine We ?_|refine Wf ?_));(conv=>whnf)))
 refine APure.to (APure.arg1 (subQ rfl rfl) c2) ?_
 ((conv=>whnf);repeat (refine Wa ?_;(repeat (first|refine Wb ?_|refine Wc ?_|refine Wd ?_|refine We ?_|refine Wf ?_));(conv=>whnf)))
 refine APure.to (APure.arg1 subCu c3) ?_
 ((conv=>whnf);repeat (refine Wa ?_;(repeat (first|refine Wb ?_|refine Wc ?_|refine Wd ?_|refine We ?_|refine Wf ?_));(conv=>whnf)))
 refine br_eq (fun hz => ?_) (fun hz => ?_)
 ·((conv=>whnf);repeat (refine Wa ?_;(repeat (first|refine Wb ?_|refine Wc ?_|refine Wd ?_|refine We ?_|refine Wf ?_));(conv=>whnf)))
  refine ⟨trivial, trivial, trivial, ?_⟩
  unfold smV
  rw [if_pos hz]
  rfl
 ·((conv=>whnf);repeat (refine Wa ?_;(repeat (first|refine Wb ?_|refine Wc ?_|refine Wd ?_|refine We ?_|refine Wf ?_));(conv=>whnf)))
  refine ⟨trivial, trivial, trivial, ?_⟩
  unfold smV
  rw [if_neg hz]
  rfl
end Go.Tri
