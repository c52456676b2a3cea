/-
 CONTRACTS: parts in lowest terms, the program's.
-/
import Derived.Test.YtpolaegggclhcaaB10
namespace Go.Tri
open Go.Proofs

def gP (nums : List Int) (den : Int) : Int := ((Nat.gcd den.natAbs (gL nums nums.length) : Nat) : Int)
@[reducible] def parV (fr : Bool) (nums : List Int) (den : Int) : V := .agg 2 fun k => [V.ints fr nums, V.int den].getD k .any
theorem sub2 {F : Nat → V} {x y : V} (h0 : F 0 = x) (h1 : F 1 = y) : Sub (.agg 2 F) (.agg 2 fun k => [x, y].getD k .any) := sub_agg fun i hi => by
 rcases (by omega : i = 0 ∨ i = 1) with rfl | rfl
 ·exact Sub.of h0
 ·exact Sub.of h1
theorem nofrPa {nums : List Int} {den : Int} : NoFr (parV false nums den) := fun k => by
 match k with
 | 0 => rfl
 | 1 => trivial
 | _ + 2 => trivial
def lowN (nums : List Int) (den : Int) : List Int := nums.map fun x => x.tdiv (gP nums den)
theorem gP_pos {nums : List Int} {den : Int} (h : 1 ≤ den) : 1 ≤ gP nums den := by
 have := Nat.gcd_pos_of_pos_left (gL nums nums.length) (show 0 < den.natAbs by omega)
 unfold gP
 omega
theorem gL_sm {xs : List Int} (hb : ∀ j, j < xs.length → Sm (xs.getD j 0)) : ∀ k, k ≤ xs.length → gL xs k ≤ 1000000000000000 := by
 intro k
 induction k with
 | zero => intro _; simp [gL]
 | succ k ih =>
  intro hk
  simp only [gL]
  have h1 := ih (by omega)
  have h2 := hb k (by omega)
  rcases Nat.eq_zero_or_pos (gL xs k) with h0 | h0
  ·rw [h0, Nat.gcd_zero_left]
   exact h2
  ·exact Nat.le_trans (Nat.gcd_le_left _ h0) h1
def gK (nums : List Int) (den : Int) : Nat → Int
 | 0 => den
 | k + 1 => gR (gK nums den k) ((nums.getD k 0).natAbs : Int)
theorem gK_is {nums : List Int} {den : Int} (h : 1 ≤ den) : ∀ k, gK nums den k = ((Nat.gcd den.natAbs (gL nums k) : Nat) : Int)
 | 0 => by simp only [gK, gL, Nat.gcd_zero_right]; omega
 | k + 1 => by
  simp only [gK, gL]
  rw [gK_is h k]
  unfold gR
  rw [Int.natAbs_natCast, Int.natAbs_natCast, Nat.gcd_assoc]
theorem gK_sm {nums : List Int} {den : Int} (h : 1 ≤ den) (hd : Sm den) (k : Nat) : Sm (gK nums den k) ∧ 1 ≤ gK nums den k := by
 rw [gK_is h k]
 have h1 := Nat.gcd_le_left (gL nums k) (show 0 < den.natAbs by omega)
 have h2 := Nat.gcd_pos_of_pos_left (gL nums k) (show 0 < den.natAbs by omega)
 unfold Sm at *
 omega
theorem lowN_len (nums : List Int) (den : Int) : (lowN nums den).length = nums.length := by simp [lowN]
theorem lowN_get {nums : List Int} {den : Int} {j : Nat} (h : j < nums.length) : (lowN nums den).getD j 0 = (nums.getD j 0).tdiv (gP nums den) := by simp [lowN, List.getD, h]
set_option maxRecDepth 100000 in
theorem Parts_pure (nums : List Int) (den : Int) (hl : nums.length ≤ 100) (hb : ∀ j, j < nums.length → Sm (nums.getD j 0)) (hd : Sm den) (h1 : 1 ≤ den) : APure Try.prog 81 [.ints false nums, .int den] (fun R => R = parV true (lowN nums den) (den.tdiv (gP nums den))) := by
 refine APure_of (X := cx 36) (cx_ok 36) rfl (rs := [(.cell 4 24, 24)]) Try.func81 (by decide) rfl rfl rfl (by simp [cx]) (by simp [NoFr]) ?_
 intro hlen
 have c1 := Divisor_pure nums hl hb
 have hgl := gL_sm hb nums.length (Nat.le_refl _)
 have c2 := Divisor_pure [den, (gL nums nums.length : Int)] (by simp) (fun j hj => by
  have hj : j < 2 := hj
  rcases (by omega : j = 0 ∨ j = 1) with rfl | rfl
  ·exact hd
  ·show Sm (gL nums nums.length : Int)
   unfold Sm
   omega)
 rw [show ((gL [den, (gL nums nums.length : Int)] ([den, (gL nums nums.length : Int)] : List Int).length : Nat) : Int) = gP nums den from by simp [gL, gP]] at c2
 have hg := gP_pos (nums := nums) h1
 have d2 := tdiv_bd (g := gP nums den) hd
 have hlow := lowN_len nums den
 ((conv=>whnf);repeat (refine Wa ?_;(repeat (first|refine Wb ?_|refine Wc ?_|refine Wd ?_|refine We ?_|refine Wf ?_));(conv=>whnf)))
 refine APure.to c1 ?_
 ((conv=>whnf);repeat (refine Wa ?_;(repeat (first|refine Wb ?_|refine Wc ?_|refine Wd ?_|refine We ?_|refine Wf ?_));(conv=>whnf)))
 refine APure.to c2 ?_
 ((conv=>whnf);repeat (refine Wa ?_;(repeat (first|refine Wb ?_|refine Wc ?_|refine Wd ?_|refine We ?_|refine Wf ?_));(conv=>whnf)))
 refine ⟨(show (0 : Int) ≤ (nums.length : Int) by omega), ?_⟩
 refine ⟨Int.le_refl _, ?_⟩
 refine ⟨(show (8 : Int) * (nums.length : Int) ≤ 140737488355328 by omega), ?_⟩
 rw [Int.toNat_natCast]
 ((conv=>whnf);repeat (refine Wa ?_;(repeat (first|refine Wb ?_|refine Wc ?_|refine Wd ?_|refine We ?_|refine Wf ?_));(conv=>whnf)))
 refine AW_loopA (X := cx 36) (cx_ok 36) [1, 4, 5, 6, 17, 18, 19] (fun t => Nat.blt t 3) (fun vs M => ∃ (k : Nat) (Z : List Int), k ≤ nums.length ∧ Z.length = nums.length ∧ (∀ j, j < k → Z.getD j 0 = (lowN nums den).getD j 0) ∧ vs = [.int den, .ptr 0 0 0 0, .int (gP nums den), .sl 2 0 0 nums.length, .ints false nums, .int nums.length, .int k] ∧ M = [some ⟨24, ((cx 36).T.row 24).sz, 0, newCon ((cx 36).T.row 24)⟩, some ⟨3, 1, 0, .kil [den, (gL nums nums.length : Int)]⟩, some ⟨3, 1, 0, .il Z⟩])
  (fun vs _ => nums.length - (vs.getD 6 .any).toInt.toNat) (fun t ht => by have : t < 3 := ht; simp; omega) ?_ ?_
 ·exact same0 ⟨0, _, Nat.zero_le _, List.length_replicate, fun j hj => absurd hj (by omega), rfl, rfl⟩
 rintro vs M ⟨k, Z, hk, hZ, hz, rfl, rfl⟩
 ((conv=>whnf);repeat (refine Wa ?_;(repeat (first|refine Wb ?_|refine Wc ?_|refine Wd ?_|refine We ?_|refine Wf ?_));(conv=>whnf)))
 refine br_dec (fun hlt => ?_) (fun hge => ?_)
 ·have hk' : k < nums.length := by omega
  have hx := (hb k hk').bd
  have hq := tdiv_bd (g := gP nums den) (hb k hk')
  ((conv=>whnf);repeat (refine Wa ?_;(repeat (first|refine Wb ?_|refine Wc ?_|refine Wd ?_|refine We ?_|refine Wf ?_));(conv=>whnf)))
  repeat ((first | refine ⟨(show (0 : Int) ≤ (k : Int) by omega), ?_⟩ | refine ⟨(show (k : Int) < (nums.length : Int) by omega), ?_⟩ | refine ⟨(show gP nums den ≠ 0 by omega), ?_⟩ | refine ⟨(show InR ((nums.getD k 0).tdiv (gP nums den)) from inr (by omega)), ?_⟩ | refine ⟨inr (by omega), ?_⟩); ((conv=>whnf);repeat (refine Wa ?_;(repeat (first|refine Wb ?_|refine Wc ?_|refine Wd ?_|refine We ?_|refine Wf ?_));(conv=>whnf))))
  refine ⟨by repeat (first|exact trivial|exact rfl|exact fun _=>trivial|exact fun _ _=>trivial|exact fun _ _ _=>trivial|exact fun _ _ _ _=>trivial|refine And.intro ?_ ?_), memA1 [some ⟨24, ((cx 36).T.row 24).sz, 0, newCon ((cx 36).T.row 24)⟩, some ⟨3, 1, 0, .kil [den, (gL nums nums.length : Int)]⟩, some ⟨3, 1, 0, .il (Z.set k ((nums.getD k 0).tdiv (gP nums den)))⟩] ⟨ObSub.refl _, ObSub.refl _, ObSub.ii (by rw [Nat.zero_add]; rfl), trivial⟩ ⟨⟨k + 1, _, hk', by rw [List.length_set, hZ], fun j hj => ?_, rfl, rfl⟩, ?_⟩⟩
  ·rcases (by omega : j < k ∨ j = k) with h | rfl
   ·rw [← hz j h]
    simp only [List.getD, List.getElem?_set_ne (show k ≠ j by omega)]
   ·rw [lowN_get hk']
    simp [List.getD, hZ, hk']
  ·simp [V.toInt, sel, Env.get]; omega
 ·obtain rfl : k = nums.length := by omega
  ((conv=>whnf);repeat (refine Wa ?_;(repeat (first|refine Wb ?_|refine Wc ?_|refine Wd ?_|refine We ?_|refine Wf ?_));(conv=>whnf)))
  refine ⟨(show gP nums den ≠ 0 by omega), ?_⟩
  ((conv=>whnf);repeat (refine Wa ?_;(repeat (first|refine Wb ?_|refine Wc ?_|refine Wd ?_|refine We ?_|refine Wf ?_));(conv=>whnf)))
  refine ⟨(show InR (den.tdiv (gP nums den)) from inr (by omega)), ?_⟩
  ((conv=>whnf);repeat (refine Wa ?_;(repeat (first|refine Wb ?_|refine Wc ?_|refine Wd ?_|refine We ?_|refine Wf ?_));(conv=>whnf)))
  have hZl : Z = lowN nums den := by
   refine ext_getD (by rw [hZ, hlow]) fun j hj => ?_
   exact hz j (by rw [hZ] at hj; exact hj)
  rw [hZl] at *
  refine ⟨fun q hq => ?_, congrArg (V.agg 2) (funext fun q => ?_)⟩
  ·have hq : q < 2 := hq
   rcases (by omega : q = 0 ∨ q = 1) with rfl | rfl
   ·exact rfl
   ·exact trivial
  ·match q with
   | 0 => exact congrArg (V.ints true) (show ((lowN nums den).drop 0).take nums.length = lowN nums den by rw [List.drop_zero, List.take_of_length_le (by omega)])
   | 1 => rfl
   | _ + 2 => rfl
end Go.Tri
