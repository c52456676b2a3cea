/-
 CONTRACTS: are they parts?
-/
import Derived.Test.YtpolaegggclhcaaGreatB15
namespace Go.Tri
open Go.Proofs

@[reducible] def box3 (l : List Int) (d lo hi : Int) : Nat → V := fun i => match i with | 0 => .at_ 1 (fun _ => .int lo) 0 | 1 => .at_ 2 (fun k => [V.ints false l, V.int d].getD k .any) 0 | _ => .at_ 1 (fun _ => .int hi) 0
@[reducible] def outC (l : List Int) (d lo hi : Int) : V := .clo 62 3 (box3 l d lo hi)
theorem mul5k {lo d : Int} (h1 : -5000 ≤ lo) (h2 : lo ≤ 5000) (h3 : 1 ≤ d) (h4 : d ≤ 10000000) : -50000000000 ≤ lo * d ∧ lo * d ≤ 50000000000 := by
 have h5 : lo * d ≤ 5000 * d := Int.mul_le_mul_of_nonneg_right h2 (by omega)
 have h6 : -5000 * d ≤ lo * d := Int.mul_le_mul_of_nonneg_right h1 (by omega)
 omega
theorem nofrB3 {l : List Int} {d lo hi : Int} : ∀ i, NoFr (box3 l d lo hi i)
 | 0 => fun _ => trivial
 | 1 => fun k => by
  match k with
  | 0 => rfl
  | 1 => trivial
  | _ + 2 => trivial
 | _ + 2 => fun _ => trivial
theorem nofrOut {l : List Int} {d lo hi : Int} : NoFr (outC l d lo hi) := fun i => nofrB3 i
theorem nofr4 {a b c d : V} (h : NoFr a) (h' : NoFr b) (h2 : NoFr c) (h3 : NoFr d) : ∀ x ∈ [a, b, c, d], NoFr x := by intro x hx; simp at hx; rcases hx with rfl | rfl | rfl | rfl <;> assumption
theorem out_pure (x : Int) (l : List Int) (d lo hi : Int) (hd : 1 ≤ d ∧ d ≤ 10000000) (hlo : -5000 ≤ lo ∧ lo ≤ 5000) (hhi : -5000 ≤ hi ∧ hi ≤ 5000) : APure Tryz.prog 62 [.int x, box3 l d lo hi 0, box3 l d lo hi 1, box3 l d lo hi 2] (fun R => R = .bool (decide (x < lo * d ∨ x > hi * d))) := by
 refine APure_of (X := cx 20) (cx_ok 20) rfl (rs := [(.tmp 5, 4)]) Tryz.func62 (by decide) rfl rfl rfl (by simp [cx]) (nofr4 (show NoFr (.int x) from trivial) (nofrB3 0) (nofrB3 1) (nofrB3 2)) ?_
 intro hlen
 have m1 := mul5k hlo.1 hlo.2 hd.1 hd.2
 have m2 := mul5k hhi.1 hhi.2 hd.1 hd.2
 ((conv=>whnf);repeat (refine Wa ?_;(repeat (first|refine Wb ?_|refine Wc ?_|refine Wd ?_|refine We ?_|refine Wf ?_));(conv=>whnf)))
 refine ⟨(show InR (lo * d) from inr (by omega)), ?_⟩
 ((conv=>whnf);repeat (refine Wa ?_;(repeat (first|refine Wb ?_|refine Wc ?_|refine Wd ?_|refine We ?_|refine Wf ?_));(conv=>whnf)))
 refine br_dec (fun h1 => ?_) (fun h1 => ?_)
 ·have h1 : x < lo * d := h1
  ((conv=>whnf);repeat (refine Wa ?_;(repeat (first|refine Wb ?_|refine Wc ?_|refine Wd ?_|refine We ?_|refine Wf ?_));(conv=>whnf)))
  exact ⟨trivial, Qb (decide_eq_true (by omega)).symm⟩
 ·have h1 : ¬ x < lo * d := h1
  ((conv=>whnf);repeat (refine Wa ?_;(repeat (first|refine Wb ?_|refine Wc ?_|refine Wd ?_|refine We ?_|refine Wf ?_));(conv=>whnf)))
  refine ⟨(show InR (hi * d) from inr (by omega)), ?_⟩
  ((conv=>whnf);repeat (refine Wa ?_;(repeat (first|refine Wb ?_|refine Wc ?_|refine Wd ?_|refine We ?_|refine Wf ?_));(conv=>whnf)))
  exact ⟨trivial, Qb (decide_eq_decide.2 (by omega))⟩
theorem subBx {M : Mem} {k : Nat} (r : List Int) (d lo hi : Int) : Sub (.at_ 2 (fun i => byvalN M (k + 1) ([V.ints false r, V.int d].getD i .any)) 0) (box3 r d lo hi 1) := sub_at fun i hi => by
 rcases (by omega : i = 0 ∨ i = 1) with rfl | rfl <;> exact Sub.refl _
theorem IndexFunc3 (p : Int → Bool) (l r : List Int) (d lo hi : Int) (hp : ∀ x : Int, APure Tryz.prog 62 [.int x, box3 r d lo hi 0, box3 r d lo hi 1, box3 r d lo hi 2] (fun R => R = .bool (p x))) :
  APure Tryz.prog 83 [.ints false l, outC r d lo hi] (fun R => R = .int (idxP p l 0 l.length)) := by
 refine APure_of (X := cx 19) (cx_ok 19) rfl (rs := [(.tmp 4, 3)]) Tryz.func83 (by decide) rfl rfl rfl (by simp [cx]) (nofr2 (show NoFr (.ints false l) from rfl) nofrOut) ?_
 intro hlen
 have hla := LenI hlen
 ((conv=>whnf);repeat (refine Wa ?_;(repeat (first|refine Wb ?_|refine Wc ?_|refine Wd ?_|refine We ?_|refine Wf ?_));(conv=>whnf)))
 refine AW_loop (X := cx 19) (cx_ok 19) [0, 1, 7, 8] (fun vs M => ∃ k : Nat, k ≤ l.length ∧ idxP p l 0 l.length = idxP p l k (l.length - k) ∧ vs = [.ints false l, outC r d lo hi, .int l.length, .int k] ∧ M = []) (fun vs _ => l.length - (vs.getD 3 .any).toInt.toNat) ?_ ?_
 ·exact ⟨0, Nat.zero_le _, rfl, rfl, rfl⟩
 rintro vs M ⟨k, hk, hi, rfl, rfl⟩
 ((conv=>whnf);repeat (refine Wa ?_;(repeat (first|refine Wb ?_|refine Wc ?_|refine Wd ?_|refine We ?_|refine Wf ?_));(conv=>whnf)))
 refine br_dec (fun hlt => ?_) (fun hge => ?_)
 ·have hk' : k < l.length := by omega
  obtain ⟨q, hq⟩ : ∃ q, l.length - k = q + 1 := ⟨l.length - k - 1, by omega⟩
  rw [hq] at hi
  simp only [idxP] at hi
  ((conv=>whnf);repeat (refine Wa ?_;(repeat (first|refine Wb ?_|refine Wc ?_|refine Wd ?_|refine We ?_|refine Wf ?_));(conv=>whnf)))
  repeat ((first | refine ⟨by omega, ?_⟩ | refine ⟨inr (by omega), ?_⟩ | refine eqn_self ?_ | refine ⟨ms (by omega), ?_⟩ | refine ⟨ms (by simp only [Src.n]; omega), ?_⟩ | refine ⟨msk (by omega), ?_⟩ | refine ⟨ms1, ?_⟩); ((conv=>whnf);repeat (refine Wa ?_;(repeat (first|refine Wb ?_|refine Wc ?_|refine Wd ?_|refine We ?_|refine Wf ?_));(conv=>whnf))))
  refine APure.to (APure.arg4 (Sub.refl _) (sub_at fun i hi => Sub.refl _) (subBx r d lo _) (sub_at fun i hi => Sub.refl _) (hp _)) ?_
  ((conv=>whnf);repeat (refine Wa ?_;(repeat (first|refine Wb ?_|refine Wc ?_|refine Wd ?_|refine We ?_|refine Wf ?_));(conv=>whnf)))
  refine br_mk (fun hb => ?_) (fun hb => ?_)
  ·rw [if_pos (by simpa using hb)] at hi
   ((conv=>whnf);repeat (refine Wa ?_;(repeat (first|refine Wb ?_|refine Wc ?_|refine Wd ?_|refine We ?_|refine Wf ?_));(conv=>whnf)))
   exact ⟨trivial, Qi hi.symm⟩
  ·rw [if_neg (by simpa using hb)] at hi
   ((conv=>whnf);repeat (refine Wa ?_;(repeat (first|refine Wb ?_|refine Wc ?_|refine Wd ?_|refine We ?_|refine Wf ?_));(conv=>whnf)))
   refine ⟨inr (by omega), ?_⟩
   ((conv=>whnf);repeat (refine Wa ?_;(repeat (first|refine Wb ?_|refine Wc ?_|refine Wd ?_|refine We ?_|refine Wf ?_));(conv=>whnf)))
   refine ⟨⟨k + 1, by omega, ?_, rfl, rfl⟩, ?_⟩
   ·rw [hi, show l.length - (k + 1) = q by omega]
   ·simp [V.toInt, sel, Env.get]; omega
 ·obtain rfl : k = l.length := by omega
  ((conv=>whnf);repeat (refine Wa ?_;(repeat (first|refine Wb ?_|refine Wc ?_|refine Wd ?_|refine We ?_|refine Wf ?_));(conv=>whnf)))
  refine ⟨trivial, Qi ?_⟩
  rw [hi, Nat.sub_self]
  rfl

theorem ContainsFunc3 (p : Int → Bool) (l r : List Int) (d lo hi : Int) (hp : ∀ x : Int, APure Tryz.prog 62 [.int x, box3 r d lo hi 0, box3 r d lo hi 1, box3 r d lo hi 2] (fun R => R = .bool (p x))) :
  APure Tryz.prog 63 [.ints false l, outC r d lo hi] (fun R => R = .bool (decide (0 ≤ idxP p l 0 l.length))) := by
 refine APure_of (X := cx 9) (cx_ok 9) rfl (rs := [(.tmp 4, 4)]) Tryz.func63 (by decide) rfl rfl rfl (by simp [cx]) (nofr2 (show NoFr (.ints false l) from rfl) nofrOut) ?_
 intro hlen
 ((conv=>whnf);repeat (refine Wa ?_;(repeat (first|refine Wb ?_|refine Wc ?_|refine Wd ?_|refine We ?_|refine Wf ?_));(conv=>whnf)))
 refine APure.to (APure.arg2 (Sub.refl _) (sub_clo fun i hi => by
  have hi : i < 3 := hi
  rcases (by omega : i = 0 ∨ i = 1 ∨ i = 2) with rfl | rfl | rfl
  ·exact sub_at fun i hi => Sub.refl _
  ·exact subBx r d lo _
  ·exact sub_at fun i hi => Sub.refl _) (IndexFunc3 p l r d lo hi hp)) ?_
 ((conv=>whnf);repeat (refine Wa ?_;(repeat (first|refine Wb ?_|refine Wc ?_|refine Wd ?_|refine We ?_|refine Wf ?_));(conv=>whnf)))
 exact ⟨trivial, rfl⟩
/-- Parts of so many things, each from lo to hi; from 0 to 1. -/
def IsQ (l : List Int) (d : Int) (n : Nat) (lo hi : Int) : Prop := l.length = n ∧ 1 ≤ d ∧ d ≤ 10000000 ∧ (∀ j, j < n → lo * d ≤ l.getD j 0 ∧ l.getD j 0 ≤ hi * d) ∧ gP l d = 1
def IsP (l : List Int) (d : Int) (n : Nat) : Prop := l.length = n ∧ 1 ≤ d ∧ d ≤ 10000000 ∧ (∀ j, j < n → 0 ≤ l.getD j 0 ∧ l.getD j 0 ≤ d) ∧ gP l d = 1
theorem isQ_P {l : List Int} {d : Int} {n : Nat} : IsQ l d n 0 1 ↔ IsP l d n := by
 unfold IsQ IsP
 simp only [Int.zero_mul, Int.one_mul]
open Classical in
set_option maxRecDepth 100000 in
theorem AreParts2_pure (l : List Int) (d : Int) (n : Nat) (hn : n ≤ 100) (lo hi : Int) (hlo : -5000 ≤ lo ∧ lo ≤ 5000) (hhi : -5000 ≤ hi ∧ hi ≤ 5000) : APure Tryz.prog 39 [parV false l d, .int n, .int lo, .int hi] (fun R => R = .bool (decide (IsQ l d n lo hi))) := by
 refine APure_of (X := cx 41) (cx_ok 41) rfl (rs := [(.tmp 8, 4)]) Tryz.func39 (by decide) rfl rfl rfl (by simp [cx]) (nofr4 nofrPa (show NoFr (.int n) from trivial) (show NoFr (.int lo) from trivial) (show NoFr (.int hi) from trivial)) ?_
 intro hlen
 ((conv=>whnf);repeat (refine Wa ?_;(repeat (first|refine Wb ?_|refine Wc ?_|refine Wd ?_|refine We ?_|refine Wf ?_));(conv=>whnf)))
 refine br_ne (fun h1 => ?_) (fun h1 => ?_)
 ·have h1 : (l.length : Int) ≠ n := h1
  ((conv=>whnf);repeat (refine Wa ?_;(repeat (first|refine Wb ?_|refine Wc ?_|refine Wd ?_|refine We ?_|refine Wf ?_));(conv=>whnf)))
  exact ⟨trivial, Qb (decide_eq_false (fun h => h1 (by rw [h.1]))).symm⟩
 have h1 : l.length = n := by have h1 : (l.length : Int) = n := h1; omega
 ((conv=>whnf);repeat (refine Wa ?_;(repeat (first|refine Wb ?_|refine Wc ?_|refine Wd ?_|refine We ?_|refine Wf ?_));(conv=>whnf)))
 refine br_dec (fun h2 => ?_) (fun h2 => ?_)
 ·have h2 : d < 1 := h2
  ((conv=>whnf);repeat (refine Wa ?_;(repeat (first|refine Wb ?_|refine Wc ?_|refine Wd ?_|refine We ?_|refine Wf ?_));(conv=>whnf)))
  exact ⟨trivial, Qb (decide_eq_false (fun h => by have := h.2.1; omega)).symm⟩
 have h2 : ¬ d < 1 := h2
 ((conv=>whnf);repeat (refine Wa ?_;(repeat (first|refine Wb ?_|refine Wc ?_|refine Wd ?_|refine We ?_|refine Wf ?_));(conv=>whnf)))
 refine br_dec (fun h3 => ?_) (fun h3 => ?_)
 ·have h3 : d > 10000000 := h3
  ((conv=>whnf);repeat (refine Wa ?_;(repeat (first|refine Wb ?_|refine Wc ?_|refine Wd ?_|refine We ?_|refine Wf ?_));(conv=>whnf)))
  exact ⟨trivial, Qb (decide_eq_false (fun h => by have := h.2.2.1; omega)).symm⟩
 have h3 : ¬ d > 10000000 := h3
 have m1 := mul5k hlo.1 hlo.2 (show 1 ≤ d by omega) (by omega)
 have m2 := mul5k hhi.1 hhi.2 (show 1 ≤ d by omega) (by omega)
 have c1 := ContainsFunc3 _ l l d lo hi (fun x => out_pure x l d lo hi (by omega) hlo hhi)
 have hge := idxP_ge (fun x => decide (x < lo * d ∨ x > hi * d)) l l.length 0
 ((conv=>whnf);repeat (refine Wa ?_;(repeat (first|refine Wb ?_|refine Wc ?_|refine Wd ?_|refine We ?_|refine Wf ?_));(conv=>whnf)))
 refine AW_draw (X := cx 41) (cx_ok 41) mixed (by kernel_rfl) ?_
 ((conv=>whnf);repeat (refine Wa ?_;(repeat (first|refine Wb ?_|refine Wc ?_|refine Wd ?_|refine We ?_|refine Wf ?_));(conv=>whnf)))
 refine ⟨_, APure.arg2 (Sub.refl _) (sub_clo fun i hi => by
  have hi : i < 3 := hi
  rcases (by omega : i = 0 ∨ i = 1 ∨ i = 2) with rfl | rfl | rfl
  ·exact sub_at fun i hi => by have hi : i < 1 := hi; rw [show i = 0 by omega]; exact Sub.refl _
  ·exact sub_at fun i hi => by
    have hi : i < 2 := hi
    rcases (by omega : i = 0 ∨ i = 1) with rfl | rfl <;> exact Sub.refl _
  ·exact sub_at fun i hi => by have hi : i < 1 := hi; rw [show i = 0 by omega]; exact Sub.refl _) c1, ?_⟩
 ((conv=>whnf);repeat (refine Wa ?_;(repeat (first|refine Wb ?_|refine Wc ?_|refine Wd ?_|refine We ?_|refine Wf ?_));(conv=>whnf)))
 refine br_not ?_
 refine br_dec (fun h4 => ?_) (fun h4 => ?_)
 ·((conv=>whnf);repeat (refine Wa ?_;(repeat (first|refine Wb ?_|refine Wc ?_|refine Wd ?_|refine We ?_|refine Wf ?_));(conv=>whnf)))
  exact ⟨trivial, Qb (decide_eq_false (fun h5 => by
   obtain ⟨j, _, h6, h7⟩ := hge.1 h4
   have h7 := of_decide_eq_true h7
   have := h5.2.2.2.1 j (by omega)
   omega)).symm⟩
 ·have hbet : ∀ j, j < l.length → lo * d ≤ l.getD j 0 ∧ l.getD j 0 ≤ hi * d := fun j hj => by
   have : ¬ (l.getD j 0 < lo * d ∨ l.getD j 0 > hi * d) := fun h5 => h4 (hge.2 ⟨j, by omega, by omega, decide_eq_true h5⟩)
   omega
  have c2 := Divisor_pure l (by omega) (fun j hj => by have := hbet j hj; unfold Sm; omega)
  have hgl := gL_sm (xs := l) (fun j hj => by have := hbet j hj; unfold Sm; omega) l.length (Nat.le_refl _)
  have c3 := Divisor_pure [d, (gL l l.length : Int)] (by simp) (fun j hj => by
   have hj : j < 2 := hj
   rcases (by omega : j = 0 ∨ j = 1) with rfl | rfl
   ·show Sm d
    unfold Sm
    omega
   ·show Sm (gL l l.length : Int)
    unfold Sm
    omega)
  rw [show ((gL [d, (gL l l.length : Int)] ([d, (gL l l.length : Int)] : List Int).length : Nat) : Int) = gP l d from by simp [gL, gP]] at c3
  ((conv=>whnf);repeat (refine Wa ?_;(repeat (first|refine Wb ?_|refine Wc ?_|refine Wd ?_|refine We ?_|refine Wf ?_));(conv=>whnf)))
  refine ⟨_, c2, ?_⟩
  ((conv=>whnf);repeat (refine Wa ?_;(repeat (first|refine Wb ?_|refine Wc ?_|refine Wd ?_|refine We ?_|refine Wf ?_));(conv=>whnf)))
  refine ⟨_, c3, ?_⟩
  ((conv=>whnf);repeat (refine Wa ?_;(repeat (first|refine Wb ?_|refine Wc ?_|refine Wd ?_|refine We ?_|refine Wf ?_));(conv=>whnf)))
  refine ⟨trivial, Qb ?_⟩
  rw [Bool.eq_iff_iff, beq_iff_eq, decide_eq_true_iff]
  exact ⟨fun h5 => ⟨h1, by omega, by omega, fun j hj => hbet j (by omega), h5⟩, fun h5 => h5.2.2.2.2⟩
open Classical in
theorem AreParts_pure (l : List Int) (d : Int) (n : Nat) (hn : n ≤ 100) : APure Tryz.prog 39 [parV false l d, .int n, .int 0, .int 1] (fun R => R = .bool (decide (IsP l d n))) := by
 have h := AreParts2_pure l d n hn 0 1 (by omega) (by omega)
 rw [decide_eq_decide.2 (isQ_P (l := l) (d := d) (n := n))] at h
 exact h
end Go.Tri
