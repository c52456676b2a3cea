/-
 SETS: the bits of a natural number below 2^63, as the program computes with them; has, all.
-/
import Derived.Test.YtafibngpgllcfaaS
import Derived.Test.YtafibngpgllcfaaA36
namespace Go.Tri
open Go.Proofs

theorem bvI {x : Nat} (hx : x < 9223372036854775808) : (BitVec.ofInt IntKind.i64.bits (x : Int)).toNat = x := by
 show (BitVec.ofInt 64 (x : Int)).toNat = x
 simp
 omega
theorem wrN {x : Nat} (hx : x < 9223372036854775808) : IntKind.i64.wrap (x : Int) = x := by
 rw [IntKind.wrap_i64]
 omega
theorem andI {x y : Nat} (hx : x < 9223372036854775808) (hy : y < 9223372036854775808) : bitI .and .i64 (x : Int) (y : Int) = ((x &&& y : Nat) : Int) := by
 simp only [bitI]
 rw [BitVec.toNat_and, bvI hx, bvI hy]
 exact wrN (Nat.lt_of_le_of_lt Nat.and_le_left hx)
theorem orI {x y : Nat} (hx : x < 9223372036854775808) (hy : y < 9223372036854775808) : bitI .or .i64 (x : Int) (y : Int) = ((x ||| y : Nat) : Int) := by
 simp only [bitI]
 rw [BitVec.toNat_or, bvI hx, bvI hy]
 exact wrN (Nat.or_lt_two_pow (n := 63) hx hy)
/-- What x has and y lacks. -/
def dif (x y : Nat) : Nat := x ^^^ (x &&& y)
theorem dif_tb (x y i : Nat) : (dif x y).testBit i = (x.testBit i && !y.testBit i) := by
 unfold dif
 rw [Nat.testBit_xor, Nat.testBit_and]
 cases x.testBit i <;> cases y.testBit i <;> rfl
theorem dif_lt {x y : Nat} (hx : x < 9223372036854775808) : dif x y < 9223372036854775808 :=
 Nat.xor_lt_two_pow (n := 63) hx (Nat.lt_of_le_of_lt Nat.and_le_left hx)
theorem dif_bv (a b : BitVec 64) : (a &&& ~~~b).toNat = dif a.toNat b.toNat := by
 refine Nat.eq_of_testBit_eq fun i => ?_
 rw [dif_tb, BitVec.testBit_toNat, BitVec.testBit_toNat, BitVec.testBit_toNat, BitVec.getLsbD_and, BitVec.getLsbD_not]
 by_cases hi : i < 64
 ·simp [hi]
 ·rw [BitVec.getLsbD_of_ge a i (by omega)]
  simp
theorem andNotI {x y : Nat} (hx : x < 9223372036854775808) (hy : y < 9223372036854775808) : bitI .andNot .i64 (x : Int) (y : Int) = ((dif x y : Nat) : Int) := by
 simp only [bitI]
 rw [show (BitVec.ofInt IntKind.i64.bits (x : Int) &&& ~~~BitVec.ofInt IntKind.i64.bits (y : Int)).toNat = dif x y from by
  have := dif_bv (BitVec.ofInt 64 (x : Int)) (BitVec.ofInt 64 (y : Int))
  rw [show (BitVec.ofInt 64 (x : Int)).toNat = x from bvI hx, show (BitVec.ofInt 64 (y : Int)).toNat = y from bvI hy] at this
  exact this]
 exact wrN (dif_lt hx)
theorem shlI {i : Nat} (hi : i ≤ 62) : IntKind.i64.wrap (1 * 2 ^ (min (i : Int).toNat IntKind.i64.bits)) = ((2 ^ i : Nat) : Int) := by
 have h64 : IntKind.i64.bits = 64 := rfl
 rw [Int.toNat_natCast, h64, Nat.min_eq_left (by omega), Int.one_mul]
 rw [show ((2 : Int) ^ i) = ((2 ^ i : Nat) : Int) from by simp]
 exact wrN (Nat.lt_of_le_of_lt (Nat.pow_le_pow_right (by decide) hi) (by decide))
theorem shrN {s i : Nat} (hi : i ≤ 63) : (s : Int).fdiv (2 ^ (min (i : Int).toNat IntKind.i64.bits)) = ((s / 2 ^ i : Nat) : Int) := by
 have h64 : IntKind.i64.bits = 64 := rfl
 rw [Int.toNat_natCast, h64, Nat.min_eq_left (by omega), Int.fdiv_eq_ediv_of_nonneg _ (Int.le_of_lt (Int.pow_pos (by decide)))]
 simp
theorem tbI (s i : Nat) : (s / 2 ^ i) &&& 1 = if s.testBit i then 1 else 0 := by
 rw [Nat.and_one_is_mod]
 rw [Nat.testBit_eq_decide_div_mod_eq]
 rcases Nat.mod_two_eq_zero_or_one (s / 2 ^ i) with h | h <;> simp [h]

theorem has_pure {s i : Nat} (hs : s < 9223372036854775808) (hi : i ≤ 63) : APure Try.prog 72 [.int s, .int i] (fun R => R = .bool (s.testBit i)) := by
 refine APure_of (X := cx 10) (cx_ok 10) rfl (rs := [(.tmp 4, 4)]) Try.func72 (by decide) rfl rfl rfl (by simp [cx]) (by simp [NoFr]) ?_
 intro _
 ((conv=>whnf);repeat (refine Wa ?_;(repeat (first|refine Wb ?_|refine Wc ?_|refine Wd ?_|refine We ?_|refine Wf ?_));(conv=>whnf)))
 refine ⟨by omega, ?_⟩
 ((conv=>whnf);repeat (refine Wa ?_;(repeat (first|refine Wb ?_|refine Wc ?_|refine Wd ?_|refine We ?_|refine Wf ?_));(conv=>whnf)))
 rw [shrN hi]
 have hd : s / 2 ^ i < 9223372036854775808 := Nat.lt_of_le_of_lt (Nat.div_le_self _ _) hs
 rw [show bitI BinOp.and IntKind.i64 ((s / 2 ^ i : Nat) : Int) 1 = (((s / 2 ^ i) &&& 1 : Nat) : Int) from andI hd (by decide), tbI]
 refine ⟨trivial, ?_⟩
 show V.lit (.bool _) = V.lit (.bool _)
 cases s.testBit i <;> rfl

/-- The set of all of n corners. -/
def fullN (n : Nat) : Nat := 2 ^ n - 1
theorem fullN_tb (n i : Nat) : (fullN n).testBit i = decide (i < n) := Nat.testBit_two_pow_sub_one ..
theorem pow_le62 {n : Nat} (hn : n ≤ 62) : 2 ^ n ≤ 4611686018427387904 := Nat.pow_le_pow_right (by decide) hn
/-- Streets, and a quarter. -/
def raS (A B : Nat → Int) : Nat → Nat → V := fun j k => match k with | 0 => .int (A j) | _ => .int (B j)
@[reducible] def stV (fr : Bool) (m : Nat) (A B : Nat → Int) : V := .seq fr 2 m (raS A B)
@[reducible] def quV (n : Nat) (m : Nat) (A B : Nat → Int) : V := .agg 2 fun k => [V.int n, stV false m A B].getD k .any
theorem nofrS {m : Nat} {A B : Nat → Int} : NoFr (stV false m A B) := ⟨rfl, fun j k => by unfold raS; split <;> trivial⟩
theorem frS {m : Nat} {A B : Nat → Int} : Fr (stV true m A B) := ⟨rfl, fun j k _ _ => by unfold raS; split <;> trivial⟩
@[simp] theorem nofrQ {n m : Nat} {A B : Nat → Int} (k : Nat) : NoFr ([V.int n, stV false m A B][k]?.getD .any) := by
 match k with
 | 0 => trivial
 | 1 => exact nofrS
 | _ + 2 => trivial
theorem all_pure (n m : Nat) (A B : Nat → Int) (hn : n ≤ 62) : APure Try.prog 70 [quV n m A B] (fun R => R = .int (fullN n : Nat)) := by
 refine APure_of (X := cx 7) (cx_ok 7) rfl (rs := [(.tmp 2, 3)]) Try.func70 (by decide) rfl rfl rfl (by simp [cx]) (by simp [NoFr]) ?_
 intro _
 have hp := pow_le62 hn
 have h0 : 0 < 2 ^ n := Nat.two_pow_pos n
 ((conv=>whnf);repeat (refine Wa ?_;(repeat (first|refine Wb ?_|refine Wc ?_|refine Wd ?_|refine We ?_|refine Wf ?_));(conv=>whnf)))
 refine ⟨by omega, ?_⟩
 ((conv=>whnf);repeat (refine Wa ?_;(repeat (first|refine Wb ?_|refine Wc ?_|refine Wd ?_|refine We ?_|refine Wf ?_));(conv=>whnf)))
 rw [shlI hn]
 refine ⟨inr (by omega), ?_⟩
 ((conv=>whnf);repeat (refine Wa ?_;(repeat (first|refine Wb ?_|refine Wc ?_|refine Wd ?_|refine We ?_|refine Wf ?_));(conv=>whnf)))
 refine ⟨trivial, ?_⟩
 show V.lit (.int .i64 (_ - 1)) = V.lit (.int .i64 _)
 rw [show ((2 ^ n : Nat) : Int) - 1 = (fullN n : Nat) from by unfold fullN; omega]
end Go.Tri
