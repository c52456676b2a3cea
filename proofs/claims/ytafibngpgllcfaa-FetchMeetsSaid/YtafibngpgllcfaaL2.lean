/-
 LAW: FetchMeets.
-/
import Derived.Test.YtafibngpgllcfaaB20
import Derived.Test.YtafibngpgllcfaaB21
import Derived.Test.YtafibngpgllcfaaE1
namespace Go.Tri
open Go.Proofs

theorem cut_and {n m : Nat} {A B : Nat → Nat} (hQ : Qn n m A B) {a b : Nat} (ha : cutB n m A B a = true) (hb : cutB n m A B b = true) (h : a &&& b ≠ 0) : cutB n m A B (a &&& b) = true := by
 have ha := (cutB_iff hQ.hA hQ.hB).1 ha
 have hb := (cutB_iff hQ.hA hQ.hB).1 hb
 refine (cutB_iff hQ.hA hQ.hB).2 ⟨by omega, Nat.lt_of_le_of_lt Nat.and_le_left ha.2.1, fun j hj h1 => ?_⟩
 rw [Nat.testBit_and, Bool.and_eq_true] at h1 ⊢
 exact ⟨ha.2.2 j hj h1.1, hb.2.2 j hj h1.2⟩
theorem cut_or {n m : Nat} {A B : Nat → Nat} (hQ : Qn n m A B) {a b : Nat} (ha : cutB n m A B a = true) (hb : cutB n m A B b = true) (h : a ||| b ≠ fullN n) : cutB n m A B (a ||| b) = true := by
 have ha := (cutB_iff hQ.hA hQ.hB).1 ha
 have hb := (cutB_iff hQ.hA hQ.hB).1 hb
 have hp := Nat.two_pow_pos n
 have h1 : a ||| b < 2 ^ n := Nat.or_lt_two_pow (by have := ha.2.1; unfold fullN at this; omega) (by have := hb.2.1; unfold fullN at this; omega)
 have h2 : a ≤ a ||| b := Nat.left_le_or
 refine (cutB_iff hQ.hA hQ.hB).2 ⟨by omega, by unfold fullN at h ⊢; omega, fun j hj h1 => ?_⟩
 rw [Nat.testBit_or, Bool.or_eq_true] at h1 ⊢
 exact h1.elim (fun h => .inl (ha.2.2 j hj h)) (fun h => .inr (hb.2.2 j hj h))
theorem nofrM {n x y : Int} {m : Nat} {A B : Nat → Int} : ∀ v ∈ [V.int n, stV false m A B, V.lit (.int .u8 x), V.lit (.int .u8 y)], NoFr v := by intro v hv; simp at hv; rcases hv with rfl | rfl | rfl | rfl; exact nofrInt; exact nofrS; trivial; trivial
set_option maxRecDepth 100000 in
theorem FetchMeets_bad {n : Int} {m : Nat} {A B : Nat → Int} (x y : Int) (h : ¬ (m ≤ 40 ∧ ckE n m A B = 0)) : APure Try.prog 10 [.int n, stV false m A B, .lit (.int .u8 x), .lit (.int .u8 y)] (fun R => R = .bool true) := by
 refine APure_of (X := cx 137) (cx_ok 137) rfl (rs := [(.tmp 8, 4)]) Try.func10 (by decide) rfl rfl rfl (by simp [cx]) (nofrM) ?_
 intro hlen
 have fin := alive_pure
 have c0 := few_pure m A B []
 have c1 := Quarter_pure n m A B
 ((conv=>whnf);repeat (refine Wa ?_;(repeat (first|refine Wb ?_|refine Wc ?_|refine Wd ?_|refine We ?_|refine Wf ?_));(conv=>whnf)))
 refine APure.to (APure.arg2 subS (Sub.refl _) c0) ?_
 ((conv=>whnf);repeat (refine Wa ?_;(repeat (first|refine Wb ?_|refine Wc ?_|refine Wd ?_|refine We ?_|refine Wf ?_));(conv=>whnf)))
 by_cases hm : m ≤ 40
 ·rw [decide_eq_true (show m ≤ 40 ∧ ([] : List Int).length ≤ 60 by simp; omega)]
  ((conv=>whnf);repeat (refine Wa ?_;(repeat (first|refine Wb ?_|refine Wc ?_|refine Wd ?_|refine We ?_|refine Wf ?_));(conv=>whnf)))
  refine APure.to (APure.arg2 (Sub.refl _) subS c1) ?_
  ((conv=>whnf);repeat (refine Wa ?_;(repeat (first|refine Wb ?_|refine Wc ?_|refine Wd ?_|refine We ?_|refine Wf ?_));(conv=>whnf)))
  refine br_ne (fun _ => ?_) (fun h' => absurd ⟨hm, h'⟩ h)
  ((conv=>whnf);repeat (refine Wa ?_;(repeat (first|refine Wb ?_|refine Wc ?_|refine Wd ?_|refine We ?_|refine Wf ?_));(conv=>whnf)))
  refine APure.to fin ?_
  ((conv=>whnf);repeat (refine Wa ?_;(repeat (first|refine Wb ?_|refine Wc ?_|refine Wd ?_|refine We ?_|refine Wf ?_));(conv=>whnf)))
  exact ⟨trivial, rfl⟩
 ·rw [decide_eq_false (fun h => hm h.1)]
  ((conv=>whnf);repeat (refine Wa ?_;(repeat (first|refine Wb ?_|refine Wc ?_|refine Wd ?_|refine We ?_|refine Wf ?_));(conv=>whnf)))
  refine APure.to fin ?_
  ((conv=>whnf);repeat (refine Wa ?_;(repeat (first|refine Wb ?_|refine Wc ?_|refine Wd ?_|refine We ?_|refine Wf ?_));(conv=>whnf)))
  exact ⟨trivial, rfl⟩
set_option maxRecDepth 100000 in
set_option maxHeartbeats 1600000 in
theorem FetchMeets_good {n m : Nat} {A B : Nat → Nat} (h : Qok n m A B) (x y : Int) (hx : 0 ≤ x ∧ x ≤ 255) (hy : 0 ≤ y ∧ y ≤ 255) : APure Try.prog 10 [.int n, stV false m (fun j => A j) (fun j => B j), .lit (.int .u8 x), .lit (.int .u8 y)] (fun R => R = .bool true) := by
 refine APure_of (X := cx 137) (cx_ok 137) rfl (rs := [(.tmp 8, 4)]) Try.func10 (by decide) rfl rfl rfl (by simp [cx]) (nofrM) ?_
 intro hlen
 have fin := alive_pure
 have hm := h.q.sm
 have c0 := few_pure m (fun j => A j) (fun j => B j) []
 rw [decide_eq_true (show m ≤ 40 ∧ ([] : List Int).length ≤ 60 by simp; omega)] at c0
 have c1 := Quarter_pure n m (fun j => A j) (fun j => B j)
 rw [ckE_ok h] at c1
 have c2 := Cuts_pure h
 have hLn : ∀ j, j < (cutL n m A B (fullN n)).length → ∃ s : Nat, s < fullN n ∧ cutB n m A B s = true ∧ (cutL n m A B (fullN n)).getD j 0 = s := fun j hj => cutL_nat hj
 have hLc : ∀ s, cutB n m A B s = true → ∃ j, j < (cutL n m A B (fullN n)).length ∧ (cutL n m A B (fullN n)).getD j 0 = s := fun s hs => cutL_has hs
 have hLa := cutL_asc (n := n) (m := m) (A := A) (B := B) (fullN n)
 have hll := cutL_len (n := n) (m := m) (A := A) (B := B) (fullN n)
 obtain ⟨L, hLe⟩ : ∃ L, cutL n m A B (fullN n) = L := ⟨_, rfl⟩
 rw [hLe] at c2 hLn hLc hLa hll
 have hf := full_le h.q.hi
 have h2 := h.q.lo
 have h7 := h.q.hi
 have hp := pow_le62 (show n ≤ 62 by omega)
 have hp0 : 0 < 2 ^ n := Nat.two_pow_pos n
 ((conv=>whnf);repeat (refine Wa ?_;(repeat (first|refine Wb ?_|refine Wc ?_|refine Wd ?_|refine We ?_|refine Wf ?_));(conv=>whnf)))
 refine APure.to (APure.arg2 subS (Sub.refl _) c0) ?_
 ((conv=>whnf);repeat (refine Wa ?_;(repeat (first|refine Wb ?_|refine Wc ?_|refine Wd ?_|refine We ?_|refine Wf ?_));(conv=>whnf)))
 refine APure.to (APure.arg2 (Sub.refl _) subS c1) ?_
 ((conv=>whnf);repeat (refine Wa ?_;(repeat (first|refine Wb ?_|refine Wc ?_|refine Wd ?_|refine We ?_|refine Wf ?_));(conv=>whnf)))
 refine APure.to (APure.arg2 (Sub.refl _) subS c2) ?_
 ((conv=>whnf);repeat (refine Wa ?_;(repeat (first|refine Wb ?_|refine Wc ?_|refine Wd ?_|refine We ?_|refine Wf ?_));(conv=>whnf)))
 refine br_eq (fun h0 => ?_) (fun h0 => ?_)
 ·((conv=>whnf);repeat (refine Wa ?_;(repeat (first|refine Wb ?_|refine Wc ?_|refine Wd ?_|refine We ?_|refine Wf ?_));(conv=>whnf)))
  refine APure.to fin ?_
  ((conv=>whnf);repeat (refine Wa ?_;(repeat (first|refine Wb ?_|refine Wc ?_|refine Wd ?_|refine We ?_|refine Wf ?_));(conv=>whnf)))
  exact ⟨trivial, rfl⟩
 have h0 : (L.length : Int) ≠ 0 := h0
 have ix : ∀ z : Int, 0 ≤ z → ∃ i : Nat, i < L.length ∧ z.tmod L.length = i := fun z hz => by
  obtain ⟨u, rfl⟩ : ∃ u : Nat, z = u := ⟨z.toNat, by omega⟩
  exact ⟨u % L.length, Nat.mod_lt _ (by omega), rfl⟩
 obtain ⟨i, hi, hie⟩ := ix x hx.1
 obtain ⟨k, hk, hke⟩ := ix y hy.1
 obtain ⟨a, ha1, ha2, ha3⟩ := hLn i hi
 obtain ⟨b, hb1, hb2, hb3⟩ := hLn k hk
 ((conv=>whnf);repeat (refine Wa ?_;(repeat (first|refine Wb ?_|refine Wc ?_|refine Wd ?_|refine We ?_|refine Wf ?_));(conv=>whnf)))
 refine AW_draw (X := cx 137) (cx_ok 137) mixed (by kernel_rfl) ?_
 ((conv=>whnf);repeat (refine Wa ?_;(repeat (first|refine Wb ?_|refine Wc ?_|refine Wd ?_|refine We ?_|refine Wf ?_));(conv=>whnf)))
 refine ⟨inr (by omega), ?_⟩
 ((conv=>whnf);repeat (refine Wa ?_;(repeat (first|refine Wb ?_|refine Wc ?_|refine Wd ?_|refine We ?_|refine Wf ?_));(conv=>whnf)))
 refine ⟨(show (L.length : Int) ≠ 0 by omega), ?_⟩
 rw [hie]
 ((conv=>whnf);repeat (refine Wa ?_;(repeat (first|refine Wb ?_|refine Wc ?_|refine Wd ?_|refine We ?_|refine Wf ?_));(conv=>whnf)))
 repeat ((first | refine ⟨by omega, ?_⟩ | refine ⟨inr (by omega), ?_⟩ | refine eqn_self ?_ | refine ⟨ms (by omega), ?_⟩ | refine ⟨ms (by simp only [Src.n]; omega), ?_⟩ | refine ⟨msk (by omega), ?_⟩ | refine ⟨ms1, ?_⟩); ((conv=>whnf);repeat (refine Wa ?_;(repeat (first|refine Wb ?_|refine Wc ?_|refine Wd ?_|refine We ?_|refine Wf ?_));(conv=>whnf))))
 rw [Int.toNat_natCast, ha3, hke, Int.toNat_natCast, hb3]
 refine AW_draw (X := cx 137) (cx_ok 137) mixed (by kernel_rfl) ?_
 ((conv=>whnf);repeat (refine Wa ?_;(repeat (first|refine Wb ?_|refine Wc ?_|refine Wd ?_|refine We ?_|refine Wf ?_));(conv=>whnf)))
 rw [andI (by omega) (by omega), orI (by omega) (by omega)]
 refine ⟨by omega, ?_⟩
 rw [shlI (by omega)]
 ((conv=>whnf);repeat (refine Wa ?_;(repeat (first|refine Wb ?_|refine Wc ?_|refine Wd ?_|refine We ?_|refine Wf ?_));(conv=>whnf)))
 refine ⟨inr (by omega), ?_⟩
 ((conv=>whnf);repeat (refine Wa ?_;(repeat (first|refine Wb ?_|refine Wc ?_|refine Wd ?_|refine We ?_|refine Wf ?_));(conv=>whnf)))
 obtain ⟨b0, hb0⟩ : ∃ b0 : Bool, (((a &&& b : Nat) : Int) == 0) = b0 := ⟨_, rfl⟩
 obtain ⟨b1, hb1'⟩ : ∃ b1 : Bool, (((a ||| b : Nat) : Int) == ((2 ^ n : Nat) : Int) - 1) = b1 := ⟨_, rfl⟩
 rw [hb0, hb1']
 refine AW_loop (X := cx 137) (cx_ok 137) [0, 9, 11, 12, 13, 14, 15] (fun vs M => ∃ k : Nat, k ≤ L.length ∧ vs = [.int n, .ints true L, .int a, .int b, .bool (seen L (a &&& b : Nat) b0 k), .bool (seen L (a ||| b : Nat) b1 k), .int k] ∧ M = []) (fun vs _ => L.length - (vs.getD 6 .any).toInt.toNat) ?_ ?_
 ·exact ⟨0, Nat.zero_le _, rfl, rfl⟩
 clear i hi hie k hk hke ha3 hb3
 rintro vs M ⟨k, hk, rfl, rfl⟩
 ((conv=>whnf);repeat (refine Wa ?_;(repeat (first|refine Wb ?_|refine Wc ?_|refine Wd ?_|refine We ?_|refine Wf ?_));(conv=>whnf)))
 refine br_dec (fun hlt => ?_) (fun hge => ?_)
 ·have hk' : k < L.length := by omega
  obtain ⟨c, hc1, hc2, hc3⟩ := hLn k hk'
  have hc0 : 0 < c := by unfold cutB at hc2; simp only [Bool.and_eq_true, decide_eq_true_iff] at hc2; exact hc2.1
  have hc1' : (c : Int) < ((2 ^ n : Nat) : Int) - 1 := by unfold fullN at hc1; omega
  have nxt : ∀ p q : Bool, seen L (a &&& b : Nat) b0 (k + 1) = p → seen L (a ||| b : Nat) b1 (k + 1) = q → ∃ k' : Nat, k' ≤ L.length ∧ [V.int n, .ints true L, .int a, .int b, .bool p, .bool q, .int ((k : Int) + 1)] = [.int n, .ints true L, .int a, .int b, .bool (seen L (a &&& b : Nat) b0 k'), .bool (seen L (a ||| b : Nat) b1 k'), .int k'] ∧ ([] : Mem) = [] := fun p q hp hq => ⟨k + 1, hk', by rw [hp, hq]; rfl, rfl⟩
  have e1 : seen L (a &&& b : Nat) b0 (k + 1) = (seen L (a &&& b : Nat) b0 k || ((c : Int) == ((a &&& b : Nat) : Int))) := by rw [← hc3]; rfl
  have e2 : seen L (a ||| b : Nat) b1 (k + 1) = (seen L (a ||| b : Nat) b1 k || ((c : Int) == ((a ||| b : Nat) : Int))) := by rw [← hc3]; rfl
  ((conv=>whnf);repeat (refine Wa ?_;(repeat (first|refine Wb ?_|refine Wc ?_|refine Wd ?_|refine We ?_|refine Wf ?_));(conv=>whnf)))
  refine AW_draw (X := cx 137) (cx_ok 137) mixed (by kernel_rfl) ?_
  ((conv=>whnf);repeat (refine Wa ?_;(repeat (first|refine Wb ?_|refine Wc ?_|refine Wd ?_|refine We ?_|refine Wf ?_));(conv=>whnf)))
  repeat ((first | refine ⟨by omega, ?_⟩ | refine ⟨inr (by omega), ?_⟩ | refine eqn_self ?_ | refine ⟨ms (by omega), ?_⟩ | refine ⟨ms (by simp only [Src.n]; omega), ?_⟩ | refine ⟨msk (by omega), ?_⟩ | refine ⟨ms1, ?_⟩); ((conv=>whnf);repeat (refine Wa ?_;(repeat (first|refine Wb ?_|refine Wc ?_|refine Wd ?_|refine We ?_|refine Wf ?_));(conv=>whnf))))
  rw [Int.toNat_natCast, hc3]
  refine br_dec (fun d1 => ?_) (fun _ => ?_)
  ·exact absurd (show (c : Int) < 1 from d1) (by omega)
  ((conv=>whnf);repeat (refine Wa ?_;(repeat (first|refine Wb ?_|refine Wc ?_|refine Wd ?_|refine We ?_|refine Wf ?_));(conv=>whnf)))
  repeat ((first | refine ⟨by omega, ?_⟩ | refine ⟨inr (by omega), ?_⟩ | refine eqn_self ?_ | refine ⟨ms (by omega), ?_⟩ | refine ⟨ms (by simp only [Src.n]; omega), ?_⟩ | refine ⟨msk (by omega), ?_⟩ | refine ⟨ms1, ?_⟩); ((conv=>whnf);repeat (refine Wa ?_;(repeat (first|refine Wb ?_|refine Wc ?_|refine Wd ?_|refine We ?_|refine Wf ?_));(conv=>whnf))))
  rw [shlI (by omega)]
  rw [Int.toNat_natCast, hc3]
  refine ⟨inr (by omega), ?_⟩
  ((conv=>whnf);repeat (refine Wa ?_;(repeat (first|refine Wb ?_|refine Wc ?_|refine Wd ?_|refine We ?_|refine Wf ?_));(conv=>whnf)))
  refine br_dec (fun d1 => ?_) (fun _ => ?_)
  ·exact absurd (show (c : Int) ≥ ((2 ^ n : Nat) : Int) - 1 from d1) (by omega)
  ((conv=>whnf);repeat (refine Wa ?_;(repeat (first|refine Wb ?_|refine Wc ?_|refine Wd ?_|refine We ?_|refine Wf ?_));(conv=>whnf)))
  refine br_dec (fun d3 => ?_) (fun d3 => ?_)
  ·have d3 : (k : Int) > 0 := d3
   obtain ⟨c', _, _, hc3'⟩ := hLn (k - 1) (by omega)
   have hasc := hLa (k - 1) k (by omega) hk'
   ((conv=>whnf);repeat (refine Wa ?_;(repeat (first|refine Wb ?_|refine Wc ?_|refine Wd ?_|refine We ?_|refine Wf ?_));(conv=>whnf)))
   repeat ((first | refine ⟨by omega, ?_⟩ | refine ⟨inr (by omega), ?_⟩ | refine eqn_self ?_ | refine ⟨ms (by omega), ?_⟩ | refine ⟨ms (by simp only [Src.n]; omega), ?_⟩ | refine ⟨msk (by omega), ?_⟩ | refine ⟨ms1, ?_⟩); ((conv=>whnf);repeat (refine Wa ?_;(repeat (first|refine Wb ?_|refine Wc ?_|refine Wd ?_|refine We ?_|refine Wf ?_));(conv=>whnf))))
   rw [show ((k : Int) - 1).toNat = k - 1 by omega, Int.toNat_natCast]
   refine br_dec (fun d4 => ?_) (fun _ => ?_)
   ·exact absurd (show L.getD k 0 ≤ L.getD (k - 1) 0 from d4) (by omega)
   ((conv=>whnf);repeat (refine Wa ?_;(repeat (first|refine Wb ?_|refine Wc ?_|refine Wd ?_|refine We ?_|refine Wf ?_));(conv=>whnf)))
   cases S1 : seen L (a &&& b : Nat) b0 k
   ·rw [S1, Bool.false_or] at e1
    ((conv=>whnf);repeat (refine Wa ?_;(repeat (first|refine Wb ?_|refine Wc ?_|refine Wd ?_|refine We ?_|refine Wf ?_));(conv=>whnf)))
    repeat ((first | refine ⟨by omega, ?_⟩ | refine ⟨inr (by omega), ?_⟩ | refine eqn_self ?_ | refine ⟨ms (by omega), ?_⟩ | refine ⟨ms (by simp only [Src.n]; omega), ?_⟩ | refine ⟨msk (by omega), ?_⟩ | refine ⟨ms1, ?_⟩); ((conv=>whnf);repeat (refine Wa ?_;(repeat (first|refine Wb ?_|refine Wc ?_|refine Wd ?_|refine We ?_|refine Wf ?_));(conv=>whnf))))
    rw [andI (by omega) (by omega), Int.toNat_natCast, hc3]
    ((conv=>whnf);repeat (refine Wa ?_;(repeat (first|refine Wb ?_|refine Wc ?_|refine Wd ?_|refine We ?_|refine Wf ?_));(conv=>whnf)))
    cases S2 : seen L (a ||| b : Nat) b1 k
    ·rw [S2, Bool.false_or] at e2
     ((conv=>whnf);repeat (refine Wa ?_;(repeat (first|refine Wb ?_|refine Wc ?_|refine Wd ?_|refine We ?_|refine Wf ?_));(conv=>whnf)))
     repeat ((first | refine ⟨by omega, ?_⟩ | refine ⟨inr (by omega), ?_⟩ | refine eqn_self ?_ | refine ⟨ms (by omega), ?_⟩ | refine ⟨ms (by simp only [Src.n]; omega), ?_⟩ | refine ⟨msk (by omega), ?_⟩ | refine ⟨ms1, ?_⟩); ((conv=>whnf);repeat (refine Wa ?_;(repeat (first|refine Wb ?_|refine Wc ?_|refine Wd ?_|refine We ?_|refine Wf ?_));(conv=>whnf))))
     rw [orI (by omega) (by omega), Int.toNat_natCast, hc3]
     ((conv=>whnf);repeat (refine Wa ?_;(repeat (first|refine Wb ?_|refine Wc ?_|refine Wd ?_|refine We ?_|refine Wf ?_));(conv=>whnf)))
     exact ⟨nxt _ _ e1 e2, by simp [V.toInt, sel, Env.get]; omega⟩
    ·rw [S2, Bool.true_or] at e2
     ((conv=>whnf);repeat (refine Wa ?_;(repeat (first|refine Wb ?_|refine Wc ?_|refine Wd ?_|refine We ?_|refine Wf ?_));(conv=>whnf)))
     refine ⟨inr (by omega), ?_⟩
     ((conv=>whnf);repeat (refine Wa ?_;(repeat (first|refine Wb ?_|refine Wc ?_|refine Wd ?_|refine We ?_|refine Wf ?_));(conv=>whnf)))
     exact ⟨nxt _ _ e1 e2, by simp [V.toInt, sel, Env.get]; omega⟩
   ·rw [S1, Bool.true_or] at e1
    ((conv=>whnf);repeat (refine Wa ?_;(repeat (first|refine Wb ?_|refine Wc ?_|refine Wd ?_|refine We ?_|refine Wf ?_));(conv=>whnf)))
    cases S2 : seen L (a ||| b : Nat) b1 k
    ·rw [S2, Bool.false_or] at e2
     ((conv=>whnf);repeat (refine Wa ?_;(repeat (first|refine Wb ?_|refine Wc ?_|refine Wd ?_|refine We ?_|refine Wf ?_));(conv=>whnf)))
     repeat ((first | refine ⟨by omega, ?_⟩ | refine ⟨inr (by omega), ?_⟩ | refine eqn_self ?_ | refine ⟨ms (by omega), ?_⟩ | refine ⟨ms (by simp only [Src.n]; omega), ?_⟩ | refine ⟨msk (by omega), ?_⟩ | refine ⟨ms1, ?_⟩); ((conv=>whnf);repeat (refine Wa ?_;(repeat (first|refine Wb ?_|refine Wc ?_|refine Wd ?_|refine We ?_|refine Wf ?_));(conv=>whnf))))
     rw [orI (by omega) (by omega), Int.toNat_natCast, hc3]
     ((conv=>whnf);repeat (refine Wa ?_;(repeat (first|refine Wb ?_|refine Wc ?_|refine Wd ?_|refine We ?_|refine Wf ?_));(conv=>whnf)))
     exact ⟨nxt _ _ e1 e2, by simp [V.toInt, sel, Env.get]; omega⟩
    ·rw [S2, Bool.true_or] at e2
     ((conv=>whnf);repeat (refine Wa ?_;(repeat (first|refine Wb ?_|refine Wc ?_|refine Wd ?_|refine We ?_|refine Wf ?_));(conv=>whnf)))
     refine ⟨inr (by omega), ?_⟩
     ((conv=>whnf);repeat (refine Wa ?_;(repeat (first|refine Wb ?_|refine Wc ?_|refine Wd ?_|refine We ?_|refine Wf ?_));(conv=>whnf)))
     exact ⟨nxt _ _ e1 e2, by simp [V.toInt, sel, Env.get]; omega⟩
  ·((conv=>whnf);repeat (refine Wa ?_;(repeat (first|refine Wb ?_|refine Wc ?_|refine Wd ?_|refine We ?_|refine Wf ?_));(conv=>whnf)))
   cases S1 : seen L (a &&& b : Nat) b0 k
   ·rw [S1, Bool.false_or] at e1
    ((conv=>whnf);repeat (refine Wa ?_;(repeat (first|refine Wb ?_|refine Wc ?_|refine Wd ?_|refine We ?_|refine Wf ?_));(conv=>whnf)))
    repeat ((first | refine ⟨by omega, ?_⟩ | refine ⟨inr (by omega), ?_⟩ | refine eqn_self ?_ | refine ⟨ms (by omega), ?_⟩ | refine ⟨ms (by simp only [Src.n]; omega), ?_⟩ | refine ⟨msk (by omega), ?_⟩ | refine ⟨ms1, ?_⟩); ((conv=>whnf);repeat (refine Wa ?_;(repeat (first|refine Wb ?_|refine Wc ?_|refine Wd ?_|refine We ?_|refine Wf ?_));(conv=>whnf))))
    rw [andI (by omega) (by omega), Int.toNat_natCast, hc3]
    ((conv=>whnf);repeat (refine Wa ?_;(repeat (first|refine Wb ?_|refine Wc ?_|refine Wd ?_|refine We ?_|refine Wf ?_));(conv=>whnf)))
    cases S2 : seen L (a ||| b : Nat) b1 k
    ·rw [S2, Bool.false_or] at e2
     ((conv=>whnf);repeat (refine Wa ?_;(repeat (first|refine Wb ?_|refine Wc ?_|refine Wd ?_|refine We ?_|refine Wf ?_));(conv=>whnf)))
     repeat ((first | refine ⟨by omega, ?_⟩ | refine ⟨inr (by omega), ?_⟩ | refine eqn_self ?_ | refine ⟨ms (by omega), ?_⟩ | refine ⟨ms (by simp only [Src.n]; omega), ?_⟩ | refine ⟨msk (by omega), ?_⟩ | refine ⟨ms1, ?_⟩); ((conv=>whnf);repeat (refine Wa ?_;(repeat (first|refine Wb ?_|refine Wc ?_|refine Wd ?_|refine We ?_|refine Wf ?_));(conv=>whnf))))
     rw [orI (by omega) (by omega), Int.toNat_natCast, hc3]
     ((conv=>whnf);repeat (refine Wa ?_;(repeat (first|refine Wb ?_|refine Wc ?_|refine Wd ?_|refine We ?_|refine Wf ?_));(conv=>whnf)))
     exact ⟨nxt _ _ e1 e2, by simp [V.toInt, sel, Env.get]; omega⟩
    ·rw [S2, Bool.true_or] at e2
     ((conv=>whnf);repeat (refine Wa ?_;(repeat (first|refine Wb ?_|refine Wc ?_|refine Wd ?_|refine We ?_|refine Wf ?_));(conv=>whnf)))
     refine ⟨inr (by omega), ?_⟩
     ((conv=>whnf);repeat (refine Wa ?_;(repeat (first|refine Wb ?_|refine Wc ?_|refine Wd ?_|refine We ?_|refine Wf ?_));(conv=>whnf)))
     exact ⟨nxt _ _ e1 e2, by simp [V.toInt, sel, Env.get]; omega⟩
   ·rw [S1, Bool.true_or] at e1
    ((conv=>whnf);repeat (refine Wa ?_;(repeat (first|refine Wb ?_|refine Wc ?_|refine Wd ?_|refine We ?_|refine Wf ?_));(conv=>whnf)))
    cases S2 : seen L (a ||| b : Nat) b1 k
    ·rw [S2, Bool.false_or] at e2
     ((conv=>whnf);repeat (refine Wa ?_;(repeat (first|refine Wb ?_|refine Wc ?_|refine Wd ?_|refine We ?_|refine Wf ?_));(conv=>whnf)))
     repeat ((first | refine ⟨by omega, ?_⟩ | refine ⟨inr (by omega), ?_⟩ | refine eqn_self ?_ | refine ⟨ms (by omega), ?_⟩ | refine ⟨ms (by simp only [Src.n]; omega), ?_⟩ | refine ⟨msk (by omega), ?_⟩ | refine ⟨ms1, ?_⟩); ((conv=>whnf);repeat (refine Wa ?_;(repeat (first|refine Wb ?_|refine Wc ?_|refine Wd ?_|refine We ?_|refine Wf ?_));(conv=>whnf))))
     rw [orI (by omega) (by omega), Int.toNat_natCast, hc3]
     ((conv=>whnf);repeat (refine Wa ?_;(repeat (first|refine Wb ?_|refine Wc ?_|refine Wd ?_|refine We ?_|refine Wf ?_));(conv=>whnf)))
     exact ⟨nxt _ _ e1 e2, by simp [V.toInt, sel, Env.get]; omega⟩
    ·rw [S2, Bool.true_or] at e2
     ((conv=>whnf);repeat (refine Wa ?_;(repeat (first|refine Wb ?_|refine Wc ?_|refine Wd ?_|refine We ?_|refine Wf ?_));(conv=>whnf)))
     refine ⟨inr (by omega), ?_⟩
     ((conv=>whnf);repeat (refine Wa ?_;(repeat (first|refine Wb ?_|refine Wc ?_|refine Wd ?_|refine We ?_|refine Wf ?_));(conv=>whnf)))
     exact ⟨nxt _ _ e1 e2, by simp [V.toInt, sel, Env.get]; omega⟩
 ·obtain rfl : k = L.length := by omega
  have f1 : seen L (a &&& b : Nat) b0 L.length = true := seen_iff _ |>.2 (by
   by_cases h0 : a &&& b = 0
   ·exact .inl (by rw [← hb0, h0]; rfl)
   ·exact .inr (hLc _ (cut_and h.q ha2 hb2 h0)))
  have f2 : seen L (a ||| b : Nat) b1 L.length = true := seen_iff _ |>.2 (by
   by_cases h0 : a ||| b = fullN n
   ·exact .inl (by rw [← hb1', h0, beq_iff_eq]; unfold fullN; omega)
   ·exact .inr (hLc _ (cut_or h.q ha2 hb2 h0)))
  rw [f1, f2]
  ((conv=>whnf);repeat (refine Wa ?_;(repeat (first|refine Wb ?_|refine Wc ?_|refine Wd ?_|refine We ?_|refine Wf ?_));(conv=>whnf)))
  refine APure.to fin ?_
  ((conv=>whnf);repeat (refine Wa ?_;(repeat (first|refine Wb ?_|refine Wc ?_|refine Wd ?_|refine We ?_|refine Wf ?_));(conv=>whnf)))
  exact ⟨trivial, rfl⟩
theorem FetchMeets_pure (n : Int) (m : Nat) (A B : Nat → Int) (x y : Int) (hx : (Lit.int .u8 x).wf = true) (hy : (Lit.int .u8 y).wf = true) : APure Try.prog 10 [.int n, stV false m A B, .lit (.int .u8 x), .lit (.int .u8 y)] (fun R => R = .bool true) := by
 by_cases h : m ≤ 40 ∧ ckE n m A B = 0
 ·obtain ⟨hn, hQ, _, _⟩ := ckE_zero h.2
  rw [hn]
  exact APure.arg4 (Sub.refl _) (subClean h.2) (Sub.refl _) (Sub.refl _) (FetchMeets_good hQ x y (wf_u8 hx) (wf_u8 hy))
 ·exact FetchMeets_bad x y h
end Go.Tri
