/-
 HOW MANY: the number of bits as the library counts them.
-/
import Derived.Test.YtafibngpgllcfaaM2
import Derived.Test.YtafibngpgllcfaaA36
import Derived.KernelRfl
namespace Go.Tri
open Go.Proofs

/-- The library's way, on a number that is small. -/
def pc1 (x : Nat) : Nat := ((x / 2 ^ 1) &&& 6148914691236517205) + (x &&& 6148914691236517205)
def pc2 (x : Nat) : Nat := ((x / 2 ^ 2) &&& 3689348814741910323) + (x &&& 3689348814741910323)
def pc3 (x : Nat) : Nat := (x / 2 ^ 4 + x) &&& 1085102592571150095
def pc4 (x : Nat) : Nat := x + x / 2 ^ 8
def pc5 (x : Nat) : Nat := x + x / 2 ^ 16
def pc6 (x : Nat) : Nat := x + x / 2 ^ 32
def pcN (x : Nat) : Nat := pc6 (pc5 (pc4 (pc3 (pc2 (pc1 x))))) &&& 127
/-- How many of the first k are in s. -/
def ct (s : Nat) : Nat → Nat
 | 0 => 0
 | k + 1 => ct s k + (s / 2 ^ k) % 2
theorem mbL_ct (s : Nat) : ∀ k, (mbL s k).length = ct s k := by
 intro k
 induction k with
 | zero => rfl
 | succ k ih =>
  simp only [mbL, ct]
  have h := Nat.mod_two_eq_zero_or_one (s / 2 ^ k)
  rw [Nat.testBit_eq_decide_div_mod_eq]
  by_cases h1 : s / 2 ^ k % 2 = 1
  ·rw [if_pos (decide_eq_true h1), List.length_append, ih, h1]
   rfl
  ·rw [if_neg (by simpa using h1), ih]
   omega
def allT (p : Nat → Bool) : Nat → Bool
 | 0 => true
 | k + 1 => bif p k then allT p k else false
theorem allT_iff {p : Nat → Bool} : ∀ {k : Nat}, allT p k = true → ∀ i, i < k → p i = true := by
 intro k
 induction k with
 | zero => exact fun _ i h => absurd h (Nat.not_lt_zero _)
 | succ k ih =>
  intro h i hi
  simp only [allT] at h
  cases hp : p k with
  | false => rw [hp] at h; cases h
  | true =>
   rw [hp] at h
   by_cases hik : i = k
   ·rw [hik]; exact hp
   ·exact ih h i (by omega)
def ctF (s : Nat) (b : Nat) : Bool := forceN (Nat.div s 2) fun s1 => forceN (Nat.div s1 2) fun s2 => forceN (Nat.div s2 2) fun s3 => forceN (Nat.div s3 2) fun s4 => forceN (Nat.div s4 2) fun s5 => forceN (Nat.div s5 2) fun s6 => forceN (Nat.div s6 2) fun s7 => forceN (Nat.div s7 2) fun s8 => forceN (Nat.div s8 2) fun s9 => forceN (Nat.div s9 2) fun s10 => forceN (Nat.div s10 2) fun s11 => forceN (Nat.div s11 2) fun s12 => forceN (Nat.div s12 2) fun s13 =>
 Nat.beq b (Nat.add (Nat.add (Nat.add (Nat.add (Nat.add (Nat.add (Nat.add (Nat.add (Nat.add (Nat.add (Nat.add (Nat.add (Nat.add (Nat.mod s 2) (Nat.mod s1 2)) (Nat.mod s2 2)) (Nat.mod s3 2)) (Nat.mod s4 2)) (Nat.mod s5 2)) (Nat.mod s6 2)) (Nat.mod s7 2)) (Nat.mod s8 2)) (Nat.mod s9 2)) (Nat.mod s10 2)) (Nat.mod s11 2)) (Nat.mod s12 2)) (Nat.mod s13 2))
def pcF (x : Nat) : Bool := forceN (Nat.add (Nat.land (Nat.div x 2) 6148914691236517205) (Nat.land x 6148914691236517205)) fun a => forceN (Nat.add (Nat.land (Nat.div a 4) 3689348814741910323) (Nat.land a 3689348814741910323)) fun b => forceN (Nat.land (Nat.add (Nat.div b 16) b) 1085102592571150095) fun c => forceN (Nat.add c (Nat.div c 256)) fun d => forceN (Nat.add d (Nat.div d 65536)) fun e => forceN (Nat.land (Nat.add e (Nat.div e 4294967296)) 127) fun g => ctF x g
theorem pc_runs : allT (fun a => allT (fun b => forceN (Nat.add (Nat.mul 128 a) b) pcF) 128) 128 = true := by kernel_rfl
theorem pcF_ok {x : Nat} (h : pcF x = true) : pcN x = ct x 14 := by
 unfold pcF at h
 simp only [forceN_eq] at h
 unfold ctF at h
 simp only [forceN_eq] at h
 have h := Nat.eq_of_beq_eq_true h
 refine Eq.trans (show pcN x = _ from h) ?_
 show (x % 2 + x / 2 % 2 + x / 2 / 2 % 2 + x / 2 / 2 / 2 % 2 + x / 2 / 2 / 2 / 2 % 2 + x / 2 / 2 / 2 / 2 / 2 % 2 + x / 2 / 2 / 2 / 2 / 2 / 2 % 2 + x / 2 / 2 / 2 / 2 / 2 / 2 / 2 % 2 + x / 2 / 2 / 2 / 2 / 2 / 2 / 2 / 2 % 2 + x / 2 / 2 / 2 / 2 / 2 / 2 / 2 / 2 / 2 % 2 + x / 2 / 2 / 2 / 2 / 2 / 2 / 2 / 2 / 2 / 2 % 2 + x / 2 / 2 / 2 / 2 / 2 / 2 / 2 / 2 / 2 / 2 / 2 % 2 + x / 2 / 2 / 2 / 2 / 2 / 2 / 2 / 2 / 2 / 2 / 2 / 2 % 2 + x / 2 / 2 / 2 / 2 / 2 / 2 / 2 / 2 / 2 / 2 / 2 / 2 / 2 % 2) = ct x 14
 simp only [Nat.div_div_eq_div_mul, ct]
 simp
theorem pcN_ct {x : Nat} (h : x < 16384) : pcN x = ct x 14 := by
 have := allT_iff (allT_iff pc_runs (x / 128) (by omega)) (x % 128) (by omega)
 rw [forceN_eq, show Nat.add (Nat.mul 128 (x / 128)) (x % 128) = x by show 128 * (x / 128) + x % 128 = x; omega] at this
 exact pcF_ok this
theorem wrU {x : Nat} (hx : x < 18446744073709551616) : IntKind.u64.wrap (x : Int) = x := by
 rw [IntKind.wrap_u64]
 omega
theorem bvU {x : Nat} (hx : x < 18446744073709551616) : (BitVec.ofInt IntKind.u64.bits (x : Int)).toNat = x := by
 show (BitVec.ofInt 64 (x : Int)).toNat = x
 simp
 omega
theorem andU {x y : Nat} (hx : x < 18446744073709551616) (hy : y < 18446744073709551616) : bitI .and .u64 (x : Int) (y : Int) = ((x &&& y : Nat) : Int) := by
 simp only [bitI]
 rw [BitVec.toNat_and, bvU hx, bvU hy]
 exact wrU (Nat.lt_of_le_of_lt Nat.and_le_left hx)
theorem shrU {s i : Nat} (hi : i ≤ 63) : (s : Int).fdiv (2 ^ (min (i : Int).toNat IntKind.u64.bits)) = ((s / 2 ^ i : Nat) : Int) := by
 have h64 : IntKind.u64.bits = 64 := rfl
 rw [Int.toNat_natCast, h64, Nat.min_eq_left (by omega), Int.fdiv_eq_ediv_of_nonneg _ (Int.le_of_lt (Int.pow_pos (by decide)))]
 simp
end Go.Tri
