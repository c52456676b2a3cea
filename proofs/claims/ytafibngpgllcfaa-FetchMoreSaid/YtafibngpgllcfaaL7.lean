/-
 LAW: FetchMore.
-/
import Derived.Test.YtafibngpgllcfaaB29
import Derived.Test.YtafibngpgllcfaaB21
import Derived.Test.YtafibngpgllcfaaB17
import Derived.Test.YtafibngpgllcfaaE1
namespace Go.Tri
open Go.Proofs

theorem more_cut {n m : Nat} {A B A' B' : Nat → Nat} (hQ : Qn n m A B) (hQ' : Qn n (m + 1) A' B') (hA : ∀ j, j < m → A' j = A j) (hB : ∀ j, j < m → B' j = B j) {s : Nat} (h : cutB n (m + 1) A' B' s = true) : cutB n m A B s = true := by
 have h := (cutB_iff hQ'.hA hQ'.hB).1 h
 exact (cutB_iff hQ.hA hQ.hB).2 ⟨h.1, h.2.1, fun j hj hb => by
  have := h.2.2 j (by omega)
  rw [hA j hj, hB j hj] at this
  exact this hb⟩
theorem mdR_of {n m : Nat} {A B : Nat → Nat} (h : Qok n m A B) : ∃ s, s ∈ mdL n m A B ∧ mdR n m A B = mbL s 14 := by
 have hl := mdL_pos h
 obtain ⟨h1, _⟩ := lsR_spec ((mdL n m A B).map fun s => mbL s 14) (by intro h0; have := congrArg List.length h0; simp at this; rw [this] at hl; cases hl)
 obtain ⟨s, hs, he⟩ := List.mem_map.1 h1
 exact ⟨s, hs, he.symm⟩
theorem mdR_ct {n m : Nat} {A B : Nat → Nat} (h : Qok n m A B) : (mdR n m A B).length = mdK n m A B := by
 obtain ⟨s, hs, he⟩ := mdR_of h
 rw [he, mbL_ct]
 exact ((mdL_mem h.q.sm).1 hs).2.2
theorem more_mend {n m : Nat} {A B A' B' : Nat → Nat} (h : Qok n m A B) (h' : Qok n (m + 1) A' B') (hA : ∀ j, j < m → A' j = A j) (hB : ∀ j, j < m → B' j = B j) : mdK n (m + 1) A' B' ≤ mdK n m A B := by
 obtain ⟨s, hs, _⟩ := mdR_of h
 obtain ⟨h1, h2, h3⟩ := (mdL_mem h.q.sm).1 hs
 have hp : 2 ^ m ≤ 2 ^ (m + 1) := Nat.pow_le_pow_right (by decide) (Nat.le_succ m)
 have := mdK_min (n := n) (A := A') (B := B') h'.q.sm (s := s) (by omega) (allB_iff.2 fun j hj => by
  obtain ⟨d, _, hd, he⟩ := cutL_nat hj
  rw [he, Int.toNat_natCast, Bool.not_eq_true', beq_eq_false_iff_ne]
  intro h0
  obtain ⟨q, hq, heq⟩ := cutL_has (more_cut h.q h'.q hA hB hd)
  have h4 := allB_iff.1 h2 q hq
  rw [heq, Int.toNat_natCast, Bool.not_eq_true', beq_eq_false_iff_ne] at h4
  refine h4 (eq0_iff.2 fun i => ?_)
  have h5 := eq0_iff.1 h0 i
  rw [Nat.testBit_and, lvS_tb] at h5 ⊢
  by_cases hi : i < m
  ·rw [hA i hi, hB i hi, decide_eq_true (show i < m + 1 by omega)] at h5
   rw [decide_eq_true hi]
   exact h5
  ·rw [decide_eq_false hi, Bool.false_and, Bool.and_false])
 omega
theorem nofrMo {n x y : Int} {m : Nat} {A B : Nat → Int} : ∀ v ∈ [V.int n, stV false m A B, prV x y], NoFr v := by intro v hv; simp at hv; rcases hv with rfl | rfl | rfl; exact nofrInt; exact nofrS; exact nofrPrV
/-- One street more. -/
def moF (m : Nat) (A : Nat → Int) (x : Int) (j : Nat) : Int := if j < m then A j else x
theorem subMo {g : Nat → Nat → V} {m : Nat} {A B : Nat → Int} {x y : Int} (h0 : ∀ j, g j 0 = .int (moF m A x j)) (h1 : ∀ j, g j 1 = .int (moF m B y j)) : Sub (.seq false 2 (m + 1) g) (stV false (m + 1) (moF m A x) (moF m B y)) := sub_seq fun j k hj hk => Sub.of (by
 match k, hk with
 | 0, _ => exact h0 j
 | 1, _ => exact h1 j)
theorem moIte {m i j d : Nat} {M : Mem} {A : Nat → Int} {x : Int} {a b v : V} (hv : v = if i < m then a else b) (hi : i = j) (ha : a = .int (A i)) (hb : b = .int x) : byvalN M (d + 1) v = .int (moF m A x j) := by
 subst hi
 rw [hv]
 unfold moF
 by_cases h : i < m
 ·rw [if_pos h, if_pos h, ha]
  rfl
 ·rw [if_neg h, if_neg h, hb]
  rfl
set_option maxRecDepth 100000 in
set_option maxHeartbeats 1600000 in
theorem FetchMore_bad {n : Int} {m : Nat} {A B : Nat → Int} {x y : Int} (hb : (16 : Int) * ((m : Int) + 1) ≤ 140737488355328) (h : ¬ (m ≤ 40 ∧ ckE n m A B = 0 ∧ ckE n (m + 1) (moF m A x) (moF m B y) = 0)) : APure Try.prog 14 [.int n, stV false m A B, prV x y] (fun R => R = .bool true) := by
 refine APure_of (X := cx 113) (cx_ok 113) rfl (rs := [(.tmp 6, 4)]) Try.func14 (by decide) rfl rfl rfl (by simp [cx]) (nofrMo) ?_
 intro hlen
 have fin := alive_pure
 have c0 := few_pure m A B []
 have c1 := Quarter_pure n m A B
 have c2 := Quarter_pure n (m + 1) (moF m A x) (moF m B y)
 ((conv=>whnf);repeat (refine Wa ?_;(repeat (first|refine Wb ?_|refine Wc ?_|refine Wd ?_|refine We ?_|refine Wf ?_));(conv=>whnf)))
 refine AW_draw (X := cx 113) (cx_ok 113) mixed (by kernel_rfl) ?_
 ((conv=>whnf);repeat (refine Wa ?_;(repeat (first|refine Wb ?_|refine Wc ?_|refine Wd ?_|refine We ?_|refine Wf ?_));(conv=>whnf)))
 refine ⟨(by show (16 : Int) * (m : Int) ≤ _; omega), ?_⟩
 ((conv=>whnf);repeat (refine Wa ?_;(repeat (first|refine Wb ?_|refine Wc ?_|refine Wd ?_|refine We ?_|refine Wf ?_));(conv=>whnf)))
 refine ⟨(by show (16 : Int) * ((m : Int) + ((1 : Nat) : Int)) ≤ _; omega), ?_⟩
 ((conv=>whnf);repeat (refine Wa ?_;(repeat (first|refine Wb ?_|refine Wc ?_|refine Wd ?_|refine We ?_|refine Wf ?_));(conv=>whnf)))
 refine APure.to (APure.arg2 subS (Sub.refl _) c0) ?_
 by_cases hm : m ≤ 40
 ·rw [decide_eq_true (show m ≤ 40 ∧ ([] : List Int).length ≤ 60 by simp; omega)]
  ((conv=>whnf);repeat (refine Wa ?_;(repeat (first|refine Wb ?_|refine Wc ?_|refine Wd ?_|refine We ?_|refine Wf ?_));(conv=>whnf)))
  refine APure.to (APure.arg2 (Sub.refl _) subS c1) ?_
  ((conv=>whnf);repeat (refine Wa ?_;(repeat (first|refine Wb ?_|refine Wc ?_|refine Wd ?_|refine We ?_|refine Wf ?_));(conv=>whnf)))
  refine br_mk (fun _ => ?_) (fun h1 => ?_)
  ·((conv=>whnf);repeat (refine Wa ?_;(repeat (first|refine Wb ?_|refine Wc ?_|refine Wd ?_|refine We ?_|refine Wf ?_));(conv=>whnf)))
   refine APure.to fin ?_
   ((conv=>whnf);repeat (refine Wa ?_;(repeat (first|refine Wb ?_|refine Wc ?_|refine Wd ?_|refine We ?_|refine Wf ?_));(conv=>whnf)))
   exact ⟨trivial, rfl⟩
  ·((conv=>whnf);repeat (refine Wa ?_;(repeat (first|refine Wb ?_|refine Wc ?_|refine Wd ?_|refine We ?_|refine Wf ?_));(conv=>whnf)))
   refine APure.to (APure.arg2 (Sub.refl _) (subMo (fun j => moIte rfl (Nat.zero_add j) rfl rfl) (fun j => moIte rfl (Nat.zero_add j) rfl rfl)) c2) ?_
   ((conv=>whnf);repeat (refine Wa ?_;(repeat (first|refine Wb ?_|refine Wc ?_|refine Wd ?_|refine We ?_|refine Wf ?_));(conv=>whnf)))
   refine br_ne (fun _ => ?_) (fun h' => absurd ⟨hm, by simpa using h1, h'⟩ h)
   ((conv=>whnf);repeat (refine Wa ?_;(repeat (first|refine Wb ?_|refine Wc ?_|refine Wd ?_|refine We ?_|refine Wf ?_));(conv=>whnf)))
   refine APure.to fin ?_
   ((conv=>whnf);repeat (refine Wa ?_;(repeat (first|refine Wb ?_|refine Wc ?_|refine Wd ?_|refine We ?_|refine Wf ?_));(conv=>whnf)))
   exact ⟨trivial, rfl⟩
 ·rw [decide_eq_false (fun h => hm h.1)]
  ((conv=>whnf);repeat (refine Wa ?_;(repeat (first|refine Wb ?_|refine Wc ?_|refine Wd ?_|refine We ?_|refine Wf ?_));(conv=>whnf)))
  refine APure.to fin ?_
  ((conv=>whnf);repeat (refine Wa ?_;(repeat (first|refine Wb ?_|refine Wc ?_|refine Wd ?_|refine We ?_|refine Wf ?_));(conv=>whnf)))
  exact ⟨trivial, rfl⟩
set_option maxRecDepth 100000 in
set_option maxHeartbeats 1600000 in
theorem FetchMore_good {n : Int} {m : Nat} {A B : Nat → Int} {x y : Int} {C C' D D' : List Int} (hb : (16 : Int) * ((m : Int) + 1) ≤ 140737488355328) (hm : m ≤ 40) (hE : ckE n m A B = 0) (hE' : ckE n (m + 1) (moF m A x) (moF m B y) = 0)
  (k1 : APure Try.prog 17 [.int n, stV false m A B] (fun R => R = tup2 (.ints true C) (.int 0))) (k2 : APure Try.prog 17 [.int n, stV false (m + 1) (moF m A x) (moF m B y)] (fun R => R = tup2 (.ints true C') (.int 0)))
  (k3 : APure Try.prog 24 [.int n, stV false m A B] (fun R => R = tup2 (.ints true D) (.int 0))) (k4 : APure Try.prog 24 [.int n, stV false (m + 1) (moF m A x) (moF m B y)] (fun R => R = tup2 (.ints true D') (.int 0)))
  (hl : C.length ≤ 1000 ∧ C'.length ≤ 1000) (hC : ∀ i, i < C'.length → ∃ j, j < C.length ∧ C.getD j 0 = C'.getD i 0) (hD : D'.length ≤ D.length) : APure Try.prog 14 [.int n, stV false m A B, prV x y] (fun R => R = .bool true) := by
 refine APure_of (X := cx 113) (cx_ok 113) rfl (rs := [(.tmp 6, 4)]) Try.func14 (by decide) rfl rfl rfl (by simp [cx]) (nofrMo) ?_
 intro hlen
 have fin := alive_pure
 have c0 := few_pure m A B []
 have c1 := Quarter_pure n m A B
 have c2 := Quarter_pure n (m + 1) (moF m A x) (moF m B y)
 rw [hE] at c1
 rw [hE'] at c2
 rw [decide_eq_true (show m ≤ 40 ∧ ([] : List Int).length ≤ 60 by simp; omega)] at c0
 ((conv=>whnf);repeat (refine Wa ?_;(repeat (first|refine Wb ?_|refine Wc ?_|refine Wd ?_|refine We ?_|refine Wf ?_));(conv=>whnf)))
 refine AW_draw (X := cx 113) (cx_ok 113) mixed (by kernel_rfl) ?_
 ((conv=>whnf);repeat (refine Wa ?_;(repeat (first|refine Wb ?_|refine Wc ?_|refine Wd ?_|refine We ?_|refine Wf ?_));(conv=>whnf)))
 refine ⟨(by show (16 : Int) * (m : Int) ≤ _; omega), ?_⟩
 ((conv=>whnf);repeat (refine Wa ?_;(repeat (first|refine Wb ?_|refine Wc ?_|refine Wd ?_|refine We ?_|refine Wf ?_));(conv=>whnf)))
 refine ⟨(by show (16 : Int) * ((m : Int) + ((1 : Nat) : Int)) ≤ _; omega), ?_⟩
 ((conv=>whnf);repeat (refine Wa ?_;(repeat (first|refine Wb ?_|refine Wc ?_|refine Wd ?_|refine We ?_|refine Wf ?_));(conv=>whnf)))
 refine APure.to (APure.arg2 subS (Sub.refl _) c0) ?_
 ((conv=>whnf);repeat (refine Wa ?_;(repeat (first|refine Wb ?_|refine Wc ?_|refine Wd ?_|refine We ?_|refine Wf ?_));(conv=>whnf)))
 refine APure.to (APure.arg2 (Sub.refl _) subS c1) ?_
 ((conv=>whnf);repeat (refine Wa ?_;(repeat (first|refine Wb ?_|refine Wc ?_|refine Wd ?_|refine We ?_|refine Wf ?_));(conv=>whnf)))
 refine APure.to (APure.arg2 (Sub.refl _) (subMo (fun j => moIte rfl (Nat.zero_add j) rfl rfl) (fun j => moIte rfl (Nat.zero_add j) rfl rfl)) c2) ?_
 ((conv=>whnf);repeat (refine Wa ?_;(repeat (first|refine Wb ?_|refine Wc ?_|refine Wd ?_|refine We ?_|refine Wf ?_));(conv=>whnf)))
 refine APure.to (APure.arg2 (Sub.refl _) subS k1) ?_
 ((conv=>whnf);repeat (refine Wa ?_;(repeat (first|refine Wb ?_|refine Wc ?_|refine Wd ?_|refine We ?_|refine Wf ?_));(conv=>whnf)))
 refine APure.to (APure.arg2 (Sub.refl _) (subMo (fun j => moIte rfl (Nat.zero_add j) rfl rfl) (fun j => moIte rfl (Nat.zero_add j) rfl rfl)) k2) ?_
 ((conv=>whnf);repeat (refine Wa ?_;(repeat (first|refine Wb ?_|refine Wc ?_|refine Wd ?_|refine We ?_|refine Wf ?_));(conv=>whnf)))
 refine APure.to (APure.arg2 (Sub.refl _) subS k3) ?_
 ((conv=>whnf);repeat (refine Wa ?_;(repeat (first|refine Wb ?_|refine Wc ?_|refine Wd ?_|refine We ?_|refine Wf ?_));(conv=>whnf)))
 refine APure.to (APure.arg2 (Sub.refl _) (subMo (fun j => moIte rfl (Nat.zero_add j) rfl rfl) (fun j => moIte rfl (Nat.zero_add j) rfl rfl)) k4) ?_
 ((conv=>whnf);repeat (refine Wa ?_;(repeat (first|refine Wb ?_|refine Wc ?_|refine Wd ?_|refine We ?_|refine Wf ?_));(conv=>whnf)))
 refine br_dec (fun h => absurd h (by omega)) (fun _ => ?_)
 ((conv=>whnf);repeat (refine Wa ?_;(repeat (first|refine Wb ?_|refine Wc ?_|refine Wd ?_|refine We ?_|refine Wf ?_));(conv=>whnf)))
 refine AW_loop (X := cx 113) (cx_ok 113) [8, 10, 16] (fun vs M => ∃ k : Nat, k ≤ C'.length ∧ vs = [.ints true C, .ints true C', .int k]) (fun vs _ => C'.length - (vs.getD 2 .any).toInt.toNat) ?_ ?_
 ·exact ⟨0, Nat.zero_le _, rfl⟩
 rintro vs M ⟨k, hk, rfl⟩
 ((conv=>whnf);repeat (refine Wa ?_;(repeat (first|refine Wb ?_|refine Wc ?_|refine Wd ?_|refine We ?_|refine Wf ?_));(conv=>whnf)))
 refine br_dec (fun hlt => ?_) (fun hge => ?_)
 ·have hk' : k < C'.length := by omega
  obtain ⟨q0, hq0, hq0'⟩ := hC k hk'
  ((conv=>whnf);repeat (refine Wa ?_;(repeat (first|refine Wb ?_|refine Wc ?_|refine Wd ?_|refine We ?_|refine Wf ?_));(conv=>whnf)))
  refine AW_loop (X := cx 113) (cx_ok 113) [8, 10, 16, 17, 18] (fun vs M => ∃ q : Nat, q ≤ C.length ∧ vs = [.ints true C, .ints true C', .int k, .bool (seen C (C'.getD k 0) false q), .int q]) (fun vs _ => C.length - (vs.getD 4 .any).toInt.toNat) ?_ ?_
  ·exact ⟨0, Nat.zero_le _, rfl⟩
  rintro vs M ⟨q, hq, rfl⟩
  ((conv=>whnf);repeat (refine Wa ?_;(repeat (first|refine Wb ?_|refine Wc ?_|refine Wd ?_|refine We ?_|refine Wf ?_));(conv=>whnf)))
  refine br_dec (fun hlt => ?_) (fun hge => ?_)
  ·have hq' : q < C.length := by omega
   have nxt : ∀ p : Bool, seen C (C'.getD k 0) false (q + 1) = p → ∃ q' : Nat, q' ≤ C.length ∧ [V.ints true C, .ints true C', .int k, .bool p, .int ((q : Int) + 1)] = [.ints true C, .ints true C', .int k, .bool (seen C (C'.getD k 0) false q'), .int q'] := fun p hp => ⟨q + 1, hq', by rw [hp]; rfl⟩
   have e1 : seen C (C'.getD k 0) false (q + 1) = (seen C (C'.getD k 0) false q || (C.getD q 0 == C'.getD k 0)) := rfl
   ((conv=>whnf);repeat (refine Wa ?_;(repeat (first|refine Wb ?_|refine Wc ?_|refine Wd ?_|refine We ?_|refine Wf ?_));(conv=>whnf)))
   refine AW_draw (X := cx 113) (cx_ok 113) mixed (by kernel_rfl) ?_
   ((conv=>whnf);repeat (refine Wa ?_;(repeat (first|refine Wb ?_|refine Wc ?_|refine Wd ?_|refine We ?_|refine Wf ?_));(conv=>whnf)))
   cases S1 : seen C (C'.getD k 0) false q
   ·rw [S1, Bool.false_or] at e1
    ((conv=>whnf);repeat (refine Wa ?_;(repeat (first|refine Wb ?_|refine Wc ?_|refine Wd ?_|refine We ?_|refine Wf ?_));(conv=>whnf)))
    repeat ((first | refine ⟨by omega, ?_⟩ | refine ⟨inr (by omega), ?_⟩ | refine eqn_self ?_ | refine ⟨ms (by omega), ?_⟩ | refine ⟨ms (by simp only [Src.n]; omega), ?_⟩ | refine ⟨msk (by omega), ?_⟩ | refine ⟨ms1, ?_⟩); ((conv=>whnf);repeat (refine Wa ?_;(repeat (first|refine Wb ?_|refine Wc ?_|refine Wd ?_|refine We ?_|refine Wf ?_));(conv=>whnf))))
    rw [Int.toNat_natCast, Int.toNat_natCast]
    ((conv=>whnf);repeat (refine Wa ?_;(repeat (first|refine Wb ?_|refine Wc ?_|refine Wd ?_|refine We ?_|refine Wf ?_));(conv=>whnf)))
    exact ⟨nxt _ e1, by simp [V.toInt, sel, Env.get]; omega⟩
   ·rw [S1, Bool.true_or] at e1
    ((conv=>whnf);repeat (refine Wa ?_;(repeat (first|refine Wb ?_|refine Wc ?_|refine Wd ?_|refine We ?_|refine Wf ?_));(conv=>whnf)))
    refine ⟨inr (by omega), ?_⟩
    ((conv=>whnf);repeat (refine Wa ?_;(repeat (first|refine Wb ?_|refine Wc ?_|refine Wd ?_|refine We ?_|refine Wf ?_));(conv=>whnf)))
    exact ⟨nxt _ e1, by simp [V.toInt, sel, Env.get]; omega⟩
  ·obtain rfl : q = C.length := by omega
   rw [(seen_iff C.length).2 (.inr ⟨q0, hq0, hq0'⟩)]
   ((conv=>whnf);repeat (refine Wa ?_;(repeat (first|refine Wb ?_|refine Wc ?_|refine Wd ?_|refine We ?_|refine Wf ?_));(conv=>whnf)))
   refine ⟨inr (by omega), ?_⟩
   ((conv=>whnf);repeat (refine Wa ?_;(repeat (first|refine Wb ?_|refine Wc ?_|refine Wd ?_|refine We ?_|refine Wf ?_));(conv=>whnf)))
   exact ⟨⟨k + 1, hk', rfl⟩, by simp [V.toInt, sel, Env.get]; omega⟩
 ·((conv=>whnf);repeat (refine Wa ?_;(repeat (first|refine Wb ?_|refine Wc ?_|refine Wd ?_|refine We ?_|refine Wf ?_));(conv=>whnf)))
  refine APure.to fin ?_
  ((conv=>whnf);repeat (refine Wa ?_;(repeat (first|refine Wb ?_|refine Wc ?_|refine Wd ?_|refine We ?_|refine Wf ?_));(conv=>whnf)))
  exact ⟨trivial, rfl⟩
theorem FetchMore_pure (n : Int) (m : Nat) (A B : Nat → Int) (x y : Int) (hb : (16 : Int) * ((m : Int) + 1) ≤ 140737488355328) : APure Try.prog 14 [.int n, stV false m A B, prV x y] (fun R => R = .bool true) := by
 by_cases h : m ≤ 40 ∧ ckE n m A B = 0 ∧ ckE n (m + 1) (moF m A x) (moF m B y) = 0
 ·obtain ⟨hm, hE, hE'⟩ := h
  obtain ⟨hn, hQ, hA, hB⟩ := ckE_zero hE
  obtain ⟨_, hQ', hA', hB'⟩ := ckE_zero hE'
  have hf : fullN n.toNat ≤ 1000 := by
   have h7 := hQ.q.hi
   have : 2 ^ n.toNat ≤ 2 ^ 7 := Nat.pow_le_pow_right (by decide) h7
   unfold fullN
   omega
  have sA : ∀ j, j < m → clN (m + 1) (moF m A x) j = clN m A j := fun j hj => by
   have h1 := hA j hj
   have h2 := hA' j (by omega)
   unfold moF at h2
   rw [if_pos hj] at h2
   unfold moF
   omega
  have sB : ∀ j, j < m → clN (m + 1) (moF m B y) j = clN m B j := fun j hj => by
   have h1 := hB j hj
   have h2 := hB' j (by omega)
   unfold moF at h2
   rw [if_pos hj] at h2
   unfold moF
   omega
  refine FetchMore_good hb hm hE hE' (C := cutL n.toNat m (clN m A) (clN m B) (fullN n.toNat)) (C' := cutL n.toNat (m + 1) (clN (m + 1) (moF m A x)) (clN (m + 1) (moF m B y)) (fullN n.toNat)) (D := mdR n.toNat m (clN m A) (clN m B)) (D' := mdR n.toNat (m + 1) (clN (m + 1) (moF m A x)) (clN (m + 1) (moF m B y))) ?_ ?_ ?_ ?_ ⟨Nat.le_trans (cutL_len _) hf, Nat.le_trans (cutL_len _) hf⟩ ?_ ?_
  ·have k := APure.arg2 (Sub.refl _) (subClean hE) (Cuts_pure hQ)
   rw [← hn] at k
   exact k
  ·have k := APure.arg2 (Sub.refl _) (subClean hE') (Cuts_pure hQ')
   rw [← hn] at k
   exact k
  ·have k := APure.arg2 (Sub.refl _) (subClean hE) (Mend_pure hQ)
   rw [← hn] at k
   exact k
  ·have k := APure.arg2 (Sub.refl _) (subClean hE') (Mend_pure hQ')
   rw [← hn] at k
   exact k
  ·intro i hi
   obtain ⟨s, _, hs, he⟩ := cutL_nat hi
   obtain ⟨j, hj, hje⟩ := cutL_has (more_cut hQ.q hQ'.q sA sB hs)
   exact ⟨j, hj, by rw [hje, he]⟩
  ·rw [mdR_ct hQ, mdR_ct hQ']
   exact more_mend hQ hQ' sA sB
 ·exact FetchMore_bad hb h
end Go.Tri
