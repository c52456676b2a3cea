/-
 CONTRACTS: divisors and lowest terms, the program's and the reference's.
-/
import Derived.Test.YtpolaegggclhcaaB9
namespace Go.Tri
open Go.Proofs

/-- The greatest common divisor of the first k. -/
def gL (xs : List Int) : Nat → Nat
 | 0 => 0
 | k + 1 => Nat.gcd (gL xs k) (xs.getD k 0).natAbs
def Sm (x : Int) : Prop := x.natAbs ≤ 1000000000000000
theorem Sm.bd {x : Int} (h : Sm x) : -1000000000000000 ≤ x ∧ x ≤ 1000000000000000 := by unfold Sm at h; omega
theorem gcd_step (p q : Nat) : Nat.gcd q (p % q) = Nat.gcd p q := by
 rw [Nat.gcd_comm q, ← Nat.gcd_rec, Nat.gcd_comm]
theorem maxI_abs (c : Int) : maxI c (-c) = (c.natAbs : Int) := by unfold maxI; split <;> omega
theorem Sm_tmod {c y : Int} (hy : Sm y) (h0 : y ≠ 0) : Sm (c.tmod y) ∧ (c.tmod y).natAbs < y.natAbs ∧ (c.tmod y).natAbs = c.natAbs % y.natAbs := by
 have h1 : (c.tmod y).natAbs = c.natAbs % y.natAbs := Int.natAbs_tmod c y
 have h2 := Nat.mod_lt c.natAbs (show 0 < y.natAbs by omega)
 unfold Sm at *
 omega

set_option maxRecDepth 100000 in
theorem Divisor_pure (xs : List Int) (hl : xs.length ≤ 100) (hb : ∀ j, j < xs.length → Sm (xs.getD j 0)) : APure Try.prog 96 [.ints false xs] (fun R => R = .int (gL xs xs.length)) := by
 refine APure_of (X := cx 23) (cx_ok 23) rfl (rs := [(.tmp 2, 3)]) Try.func96 (by decide) rfl rfl rfl (by simp [cx]) (by simp [NoFr]) ?_
 intro hlen
 ((conv=>whnf);repeat (refine Wa ?_;(repeat (first|refine Wb ?_|refine Wc ?_|refine Wd ?_|refine We ?_|refine Wf ?_));(conv=>whnf)))
 refine AW_loopA (X := cx 23) (cx_ok 23) [3, 6, 7, 8] (fun _ => false) (fun vs M => ∃ (k : Nat) (c : Int), k ≤ xs.length ∧ c.natAbs = gL xs k ∧ Sm c ∧ vs = [.int c, .ints false xs, .int xs.length, .int k] ∧ M = [])
  (fun vs _ => xs.length - (vs.getD 3 .any).toInt.toNat) (fun t ht => absurd ht (by simp)) ?_ ?_
 ·exact same0 ⟨0, 0, Nat.zero_le _, rfl, (by unfold Sm; decide), rfl, rfl⟩
 rintro vs M ⟨k, c, hk, hc, hs, rfl, rfl⟩
 have hcb := hs.bd
 ((conv=>whnf);repeat (refine Wa ?_;(repeat (first|refine Wb ?_|refine Wc ?_|refine Wd ?_|refine We ?_|refine Wf ?_));(conv=>whnf)))
 refine br_dec (fun hlt => ?_) (fun hge => ?_)
 ·have hk' : k < xs.length := by omega
  have hx := hb k hk'
  have hg : gL xs (k + 1) = Nat.gcd (gL xs k) (xs.getD k 0).natAbs := rfl
  ((conv=>whnf);repeat (refine Wa ?_;(repeat (first|refine Wb ?_|refine Wc ?_|refine Wd ?_|refine We ?_|refine Wf ?_));(conv=>whnf)))
  refine ⟨(show (0 : Int) ≤ (k : Int) by omega), ?_⟩
  refine ⟨(show (k : Int) < (xs.length : Int) by omega), ?_⟩
  ((conv=>whnf);repeat (refine Wa ?_;(repeat (first|refine Wb ?_|refine Wc ?_|refine Wd ?_|refine We ?_|refine Wf ?_));(conv=>whnf)))
  refine AW_loop (X := cx 23) (cx_ok 23) [3, 5, 6, 7, 8] (fun vs M => ∃ c y : Int, Nat.gcd c.natAbs y.natAbs = gL xs (k + 1) ∧ Sm c ∧ Sm y ∧ vs = [.int c, .int y, .ints false xs, .int xs.length, .int k] ∧ M = [])
   (fun vs _ => (vs.getD 1 .any).toInt.natAbs) ?_ ?_
  ·exact ⟨c, xs.getD k 0, by rw [hg, hc], hs, hx, rfl, rfl⟩
  rintro vs M ⟨c1, y, hgc, h1, h2, rfl, rfl⟩
  ((conv=>whnf);repeat (refine Wa ?_;(repeat (first|refine Wb ?_|refine Wc ?_|refine Wd ?_|refine We ?_|refine Wf ?_));(conv=>whnf)))
  refine br_ne (fun h => ?_) (fun h => ?_)
  ·obtain ⟨q1, q2, q3⟩ := Sm_tmod (c := c1) h2 h
   ((conv=>whnf);repeat (refine Wa ?_;(repeat (first|refine Wb ?_|refine Wc ?_|refine Wd ?_|refine We ?_|refine Wf ?_));(conv=>whnf)))
   refine AW_draw (X := cx 23) (cx_ok 23) mixed (by kernel_rfl) ?_
   ((conv=>whnf);repeat (refine Wa ?_;(repeat (first|refine Wb ?_|refine Wc ?_|refine Wd ?_|refine We ?_|refine Wf ?_));(conv=>whnf)))
   refine ⟨h, ?_⟩
   ((conv=>whnf);repeat (refine Wa ?_;(repeat (first|refine Wb ?_|refine Wc ?_|refine Wd ?_|refine We ?_|refine Wf ?_));(conv=>whnf)))
   refine ⟨⟨y, c1.tmod y, by rw [q3, gcd_step]; exact hgc, h2, q1, rfl, rfl⟩, ?_⟩
   exact q2
  ·have h : y = 0 := h
   subst h
   ((conv=>whnf);repeat (refine Wa ?_;(repeat (first|refine Wb ?_|refine Wc ?_|refine Wd ?_|refine We ?_|refine Wf ?_));(conv=>whnf)))
   refine ⟨inr (by omega), ?_⟩
   ((conv=>whnf);repeat (refine Wa ?_;(repeat (first|refine Wb ?_|refine Wc ?_|refine Wd ?_|refine We ?_|refine Wf ?_));(conv=>whnf)))
   refine ⟨by repeat (first|exact trivial|exact rfl|exact fun _=>trivial|exact fun _ _=>trivial|exact fun _ _ _=>trivial|exact fun _ _ _ _=>trivial|refine And.intro ?_ ?_), memA1 [] trivial ⟨⟨k + 1, c1, hk', by rw [← hgc]; simp, h1, rfl, rfl⟩, ?_⟩⟩
   simp [V.toInt, sel, Env.get]; omega
 ·obtain rfl : k = xs.length := by omega
  ((conv=>whnf);repeat (refine Wa ?_;(repeat (first|refine Wb ?_|refine Wc ?_|refine Wd ?_|refine We ?_|refine Wf ?_));(conv=>whnf)))
  refine ⟨inr (by omega), ?_⟩
  ((conv=>whnf);repeat (refine Wa ?_;(repeat (first|refine Wb ?_|refine Wc ?_|refine Wd ?_|refine We ?_|refine Wf ?_));(conv=>whnf)))
  exact ⟨trivial, Qi (by rw [maxI_abs, hc])⟩

/-- A ratio in lowest terms. -/
def gR (a b : Int) : Int := ((Nat.gcd a.natAbs b.natAbs : Nat) : Int)
@[reducible] def ratP (a b : Int) : V := pairV (a.tdiv (gR a b)) (b.tdiv (gR a b))
theorem gR_pos {a b : Int} (hb : 1 ≤ b) : 1 ≤ gR a b := by
 have := Nat.gcd_pos_of_pos_right a.natAbs (show 0 < b.natAbs by omega)
 unfold gR
 omega
theorem tdiv_bd {a g : Int} (ha : Sm a) : -1000000000000000 ≤ a.tdiv g ∧ a.tdiv g ≤ 1000000000000000 := by
 have h1 : (a.tdiv g).natAbs ≤ a.natAbs := Int.natAbs_tdiv_le_natAbs a g
 unfold Sm at ha
 omega
theorem Lowest_pure (a b : Int) (ha : Sm a) (hb : Sm b) (h1 : 1 ≤ b) : APure Try.prog 70 [.int a, .int b] (fun R => R = ratP a b) := by
 refine APure_of (X := cx 17) (cx_ok 17) rfl (rs := [(.cell 4 28, 28)]) Try.func70 (by decide) rfl rfl rfl (by simp [cx]) (by simp [NoFr]) ?_
 intro hlen
 have hg := gR_pos (a := a) h1
 have c1 := Divisor_pure [a, b] (by simp) (fun j hj => by
  have hj : j < 2 := hj
  rcases (by omega : j = 0 ∨ j = 1) with rfl | rfl
  ·exact ha
  ·exact hb)
 rw [show gL [a, b] ([a, b] : List Int).length = Nat.gcd a.natAbs b.natAbs from by simp [gL]] at c1
 have d1 := tdiv_bd (g := gR a b) ha
 have d2 := tdiv_bd (g := gR a b) hb
 have e : ((Nat.gcd a.natAbs b.natAbs : Nat) : Int) = gR a b := rfl
 rw [e] at c1
 ((conv=>whnf);repeat (refine Wa ?_;(repeat (first|refine Wb ?_|refine Wc ?_|refine Wd ?_|refine We ?_|refine Wf ?_));(conv=>whnf)))
 refine APure.to c1 ?_
 ((conv=>whnf);repeat (refine Wa ?_;(repeat (first|refine Wb ?_|refine Wc ?_|refine Wd ?_|refine We ?_|refine Wf ?_));(conv=>whnf)))
 refine AW_draw (X := cx 17) (cx_ok 17) mixed (by kernel_rfl) ?_
 ((conv=>whnf);repeat (refine Wa ?_;(repeat (first|refine Wb ?_|refine Wc ?_|refine Wd ?_|refine We ?_|refine Wf ?_));(conv=>whnf)))
 refine ⟨(show gR a b ≠ 0 by omega), ?_⟩
 ((conv=>whnf);repeat (refine Wa ?_;(repeat (first|refine Wb ?_|refine Wc ?_|refine Wd ?_|refine We ?_|refine Wf ?_));(conv=>whnf)))
 repeat ((first | refine ⟨inr (by omega), ?_⟩ | refine ⟨(show gR a b ≠ 0 by omega), ?_⟩); ((conv=>whnf);repeat (refine Wa ?_;(repeat (first|refine Wb ?_|refine Wc ?_|refine Wd ?_|refine We ?_|refine Wf ?_));(conv=>whnf))))
 refine ⟨fun q hq => ?_, congrArg (V.agg 2) (funext fun q => ?_)⟩
 ·have hq : q < 2 := hq
  rcases (by omega : q = 0 ∨ q = 1) with rfl | rfl <;> exact trivial
 ·match q with
  | 0 => rfl
  | 1 => rfl
  | _ + 2 => rfl

set_option maxRecDepth 100000 in
theorem Gcd_pure (a b : Int) (ha : Sm a) (hb : Sm b) : APure Try.prog 71 [.int a, .int b] (fun R => R = .int (gR a b)) := by
 refine APure_of (X := cx 15) (cx_ok 15) rfl (rs := [(.tmp 4, 3)]) Try.func71 (by decide) rfl rfl rfl (by simp [cx]) (by simp [NoFr]) ?_
 intro hlen
 ((conv=>whnf);repeat (refine Wa ?_;(repeat (first|refine Wb ?_|refine Wc ?_|refine Wd ?_|refine We ?_|refine Wf ?_));(conv=>whnf)))
 refine AW_loop (X := cx 15) (cx_ok 15) [0, 1] (fun vs M => ∃ c y : Int, Nat.gcd c.natAbs y.natAbs = Nat.gcd a.natAbs b.natAbs ∧ Sm c ∧ Sm y ∧ vs = [.int c, .int y] ∧ M = []) (fun vs _ => (vs.getD 1 .any).toInt.natAbs) ?_ ?_
 ·exact ⟨a, b, rfl, ha, hb, rfl, rfl⟩
 rintro vs M ⟨c, y, hg, h1, h2, rfl, rfl⟩
 have hcb := h1.bd
 ((conv=>whnf);repeat (refine Wa ?_;(repeat (first|refine Wb ?_|refine Wc ?_|refine Wd ?_|refine We ?_|refine Wf ?_));(conv=>whnf)))
 refine br_ne (fun h => ?_) (fun h => ?_)
 ·obtain ⟨q1, q2, q3⟩ := Sm_tmod (c := c) h2 h
  ((conv=>whnf);repeat (refine Wa ?_;(repeat (first|refine Wb ?_|refine Wc ?_|refine Wd ?_|refine We ?_|refine Wf ?_));(conv=>whnf)))
  refine AW_draw (X := cx 15) (cx_ok 15) mixed (by kernel_rfl) ?_
  ((conv=>whnf);repeat (refine Wa ?_;(repeat (first|refine Wb ?_|refine Wc ?_|refine Wd ?_|refine We ?_|refine Wf ?_));(conv=>whnf)))
  refine ⟨h, ?_⟩
  ((conv=>whnf);repeat (refine Wa ?_;(repeat (first|refine Wb ?_|refine Wc ?_|refine Wd ?_|refine We ?_|refine Wf ?_));(conv=>whnf)))
  refine ⟨⟨y, c.tmod y, by rw [q3, gcd_step]; exact hg, h2, q1, rfl, rfl⟩, ?_⟩
  exact q2
 ·have h : y = 0 := h
  subst h
  ((conv=>whnf);repeat (refine Wa ?_;(repeat (first|refine Wb ?_|refine Wc ?_|refine Wd ?_|refine We ?_|refine Wf ?_));(conv=>whnf)))
  refine ⟨inr (by omega), ?_⟩
  ((conv=>whnf);repeat (refine Wa ?_;(repeat (first|refine Wb ?_|refine Wc ?_|refine Wd ?_|refine We ?_|refine Wf ?_));(conv=>whnf)))
  refine ⟨trivial, Qi ?_⟩
  rw [maxI_abs]
  unfold gR
  rw [← hg]
  simp
theorem Ratio_pure (a b : Int) (ha : Sm a) (hb : Sm b) (h1 : 1 ≤ b) : APure Try.prog 47 [.int a, .int b] (fun R => R = ratP a b) := by
 refine APure_of (X := cx 19) (cx_ok 19) rfl (rs := [(.cell 4 28, 28)]) Try.func47 (by decide) rfl rfl rfl (by simp [cx]) (by simp [NoFr]) ?_
 intro hlen
 have hg := gR_pos (a := a) h1
 have hab := ha.bd
 have c1 := Gcd_pure (maxI a (-a)) b (by rw [maxI_abs]; unfold Sm at *; omega) hb
 rw [show gR (maxI a (-a)) b = gR a b from by unfold gR; rw [maxI_abs]; rfl] at c1
 have d1 := tdiv_bd (g := gR a b) ha
 have d2 := tdiv_bd (g := gR a b) hb
 ((conv=>whnf);repeat (refine Wa ?_;(repeat (first|refine Wb ?_|refine Wc ?_|refine Wd ?_|refine We ?_|refine Wf ?_));(conv=>whnf)))
 refine ⟨inr (by omega), ?_⟩
 ((conv=>whnf);repeat (refine Wa ?_;(repeat (first|refine Wb ?_|refine Wc ?_|refine Wd ?_|refine We ?_|refine Wf ?_));(conv=>whnf)))
 refine APure.to c1 ?_
 ((conv=>whnf);repeat (refine Wa ?_;(repeat (first|refine Wb ?_|refine Wc ?_|refine Wd ?_|refine We ?_|refine Wf ?_));(conv=>whnf)))
 refine AW_draw (X := cx 19) (cx_ok 19) mixed (by kernel_rfl) ?_
 ((conv=>whnf);repeat (refine Wa ?_;(repeat (first|refine Wb ?_|refine Wc ?_|refine Wd ?_|refine We ?_|refine Wf ?_));(conv=>whnf)))
 repeat ((first | refine ⟨inr (by omega), ?_⟩ | refine ⟨(show gR a b ≠ 0 by omega), ?_⟩); ((conv=>whnf);repeat (refine Wa ?_;(repeat (first|refine Wb ?_|refine Wc ?_|refine Wd ?_|refine We ?_|refine Wf ?_));(conv=>whnf))))
 refine ⟨fun q hq => ?_, congrArg (V.agg 2) (funext fun q => ?_)⟩
 ·have hq : q < 2 := hq
  rcases (by omega : q = 0 ∨ q = 1) with rfl | rfl <;> exact trivial
 ·match q with
  | 0 => rfl
  | 1 => rfl
  | _ + 2 => rfl
end Go.Tri
