/-
 CONTRACTS: parts, what ShareRents alone needs of them.
-/
import Derived.Test.YtghkpmeonoadlaaB10
import Derived.Test.YtghkpmeonoadlaaB15
namespace Go.Tri.Q8
open Go.Proofs

theorem nofrPa {nums : List Int} {den : Int} : NoFr (parV false nums den) := fun k => by
 match k with
 | 0 => rfl
 | 1 => trivial
 | _ + 2 => trivial
theorem fr2 {F : Nat → V} (h0 : Fr (F 0)) (h1 : Fr (F 1)) : Fr (.agg 2 F) := fun q hq => by
 rcases (by omega : q = 0 ∨ q = 1) with rfl | rfl
 ·exact h0
 ·exact h1
theorem agg2_eq {F : Nat → V} {x y : V} (h0 : F 0 = x) (h1 : F 1 = y) (h2 : ∀ q, F (q + 2) = .any) : V.agg 2 F = .agg 2 fun k => [x, y].getD k .any := congrArg (V.agg 2) (funext fun q => by
 match q with
 | 0 => exact h0
 | 1 => exact h1
 | q + 2 => exact h2 q)
theorem sub2 {F : Nat → V} {x y : V} (h0 : F 0 = x) (h1 : F 1 = y) : Sub (.agg 2 F) (.agg 2 fun k => [x, y].getD k .any) := sub_agg fun i hi => by
 rcases (by omega : i = 0 ∨ i = 1) with rfl | rfl
 ·exact Sub.of h0
 ·exact Sub.of h1
def gK (nums : List Int) (den : Int) : Nat → Int
 | 0 => den
 | k + 1 => gR (gK nums den k) ((nums.getD k 0).natAbs : Int)
theorem gK_is {nums : List Int} {den : Int} (h : 1 ≤ den) : ∀ k, gK nums den k = ((Nat.gcd den.natAbs (gL nums k) : Nat) : Int)
 | 0 => by simp only [gK, gL, Nat.gcd_zero_right]; omega
 | k + 1 => by
  simp only [gK, gL]
  rw [gK_is h k]
  unfold gR
  rw [Int.natAbs_natCast, Int.natAbs_natCast, Nat.gcd_assoc]
theorem gK_sm {nums : List Int} {den : Int} (h : 1 ≤ den) (hd : Sm den) (k : Nat) : Sm (gK nums den k) ∧ 1 ≤ gK nums den k := by
 rw [gK_is h k]
 have h1 := Nat.gcd_le_left (gL nums k) (show 0 < den.natAbs by omega)
 have h2 := Nat.gcd_pos_of_pos_left (gL nums k) (show 0 < den.natAbs by omega)
 unfold Sm at *
 omega
def lowP (nums : List Int) (den : Int) (k : Nat) : List Int := (lowN nums den).take k
theorem lowP_len {nums : List Int} {den : Int} {k : Nat} (h : k ≤ nums.length) : (lowP nums den k).length = k := by unfold lowP; rw [List.length_take, lowN_len]; omega
theorem lowP_succ {nums : List Int} {den : Int} {k : Nat} (h : k < nums.length) : lowP nums den (k + 1) = lowP nums den k ++ [(nums.getD k 0).tdiv (gP nums den)] := by
 unfold lowP
 rw [take_succ_getD _ _ (by rw [lowN_len]; exact h), lowN_get h]
@[reducible] noncomputable def OL : Ob := ⟨24, ((cx 50).T.row 24).sz, 0, newCon ((cx 50).T.row 24)⟩
def OutL (l : List Int) (d : Int) (R : Mem) : Prop := (l = [] ∧ R = [some OL, some ⟨24, 2, 0, .one [.emp true, .int d]⟩]) ∨ ∃ ver, R = [some OL, some ⟨24, 2, 0, .one [.sl 11 ver 0 l.length, .int d]⟩, none, none, none, none, none, none, none, none, none, some ⟨3, 1, ver, .il l⟩]
set_option maxRecDepth 100000 in
theorem refLowest_pure (nums : List Int) (den : Int) (h0 : 1 ≤ nums.length) (hl : nums.length ≤ 100) (hb : ∀ j, j < nums.length → Sm (nums.getD j 0)) (hd : Sm den) (h1 : 1 ≤ den) : APure Try.prog 53 [.ints false nums, .int den] (fun R => R = parV true (lowN nums den) (den.tdiv (gP nums den))) := by
 refine APure_of (X := cx 50) (cx_ok 50) rfl (rs := [(.cell 4 24, 24)]) Try.func53 (by decide) rfl rfl rfl (by simp [cx]) (by simp [NoFr]) ?_
 intro hlen
 ((conv=>whnf);repeat (refine Wa ?_;(repeat (first|refine Wb ?_|refine Wc ?_|refine Wd ?_|refine We ?_|refine Wf ?_));(conv=>whnf)))
 refine AW_loop (X := cx 50) (cx_ok 50) [0, 1, 4, 5, 6] (fun vs M => ∃ k : Nat, k ≤ nums.length ∧ vs = [.ints false nums, .int den, .ptr 0 0 0 0, .int (gK nums den k), .int k] ∧ M = [some OL])
  (fun vs _ => nums.length - (vs.getD 4 .any).toInt.toNat) ?_ ?_
 ·exact ⟨0, Nat.zero_le _, rfl, rfl⟩
 rintro vs M ⟨k, hk, rfl, rfl⟩
 ((conv=>whnf);repeat (refine Wa ?_;(repeat (first|refine Wb ?_|refine Wc ?_|refine Wd ?_|refine We ?_|refine Wf ?_));(conv=>whnf)))
 refine br_dec (fun hlt => ?_) (fun hge => ?_)
 ·have hk' : k < nums.length := by omega
  have hx := hb k hk'
  have hxb := hx.bd
  have hg := gK_sm (nums := nums) h1 hd k
  have c1 := Gcd_pure (gK nums den k) ((nums.getD k 0).natAbs : Int) hg.1 (by unfold Sm at *; omega)
  rw [← maxI_abs] at c1
  ((conv=>whnf);repeat (refine Wa ?_;(repeat (first|refine Wb ?_|refine Wc ?_|refine Wd ?_|refine We ?_|refine Wf ?_));(conv=>whnf)))
  refine AW_draw (X := cx 50) (cx_ok 50) mixed (by kernel_rfl) ?_
  ((conv=>whnf);repeat (refine Wa ?_;(repeat (first|refine Wb ?_|refine Wc ?_|refine Wd ?_|refine We ?_|refine Wf ?_));(conv=>whnf)))
  repeat ((first | refine ⟨(show (0 : Int) ≤ (k : Int) by omega), ?_⟩ | refine ⟨(show (k : Int) < (nums.length : Int) by omega), ?_⟩ | refine ⟨(show InR (-(nums.getD k 0)) from inr (by omega)), ?_⟩); ((conv=>whnf);repeat (refine Wa ?_;(repeat (first|refine Wb ?_|refine Wc ?_|refine Wd ?_|refine We ?_|refine Wf ?_));(conv=>whnf))))
  refine ⟨_, c1, ?_⟩
  ((conv=>whnf);repeat (refine Wa ?_;(repeat (first|refine Wb ?_|refine Wc ?_|refine Wd ?_|refine We ?_|refine Wf ?_));(conv=>whnf)))
  refine ⟨inr (by omega), ?_⟩
  ((conv=>whnf);repeat (refine Wa ?_;(repeat (first|refine Wb ?_|refine Wc ?_|refine Wd ?_|refine We ?_|refine Wf ?_));(conv=>whnf)))
  refine ⟨⟨k + 1, hk', ?_, rfl⟩, ?_⟩
  ·simp only [gK]; rw [← maxI_abs]; rfl
  ·simp [V.toInt, sel, Env.get]; omega
 ·obtain rfl : k = nums.length := by omega
  have hgp : gK nums den nums.length = gP nums den := gK_is h1 _
  have hgs := gK_sm (nums := nums) h1 hd nums.length
  rw [hgp] at hgs ⊢
  have d2 := tdiv_bd (g := gP nums den) hd
  ((conv=>whnf);repeat (refine Wa ?_;(repeat (first|refine Wb ?_|refine Wc ?_|refine Wd ?_|refine We ?_|refine Wf ?_));(conv=>whnf)))
  refine ⟨(show gP nums den ≠ 0 by omega), ?_⟩
  ((conv=>whnf);repeat (refine Wa ?_;(repeat (first|refine Wb ?_|refine Wc ?_|refine Wd ?_|refine We ?_|refine Wf ?_));(conv=>whnf)))
  refine ⟨(show InR (den.tdiv (gP nums den)) from inr (by omega)), ?_⟩
  ((conv=>whnf);repeat (refine Wa ?_;(repeat (first|refine Wb ?_|refine Wc ?_|refine Wd ?_|refine We ?_|refine Wf ?_));(conv=>whnf)))
  refine AW_loopA (X := cx 50) (cx_ok 50) [0, 4, 5, 7, 8] (fun t => Nat.blt t 2 || Nat.beq t 11) (fun vs M => ∃ j : Nat, j ≤ nums.length ∧ OutL (lowP nums den j) (den.tdiv (gP nums den)) M ∧ vs = [.ints false nums, .ptr 0 0 0 0, .int (gP nums den), .ptr 1 0 0 0, .int j])
   (fun vs _ => nums.length - (vs.getD 4 .any).toInt.toNat) (fun t ht => by have : t < 2 := ht; simp; omega) ?_ ?_
  ·refine same0 ⟨0, Nat.zero_le _, .inl ⟨rfl, ?_⟩, rfl⟩
   rfl
  rintro vs M ⟨j, hj, hO, rfl⟩
  have hpl := lowP_len (nums := nums) (den := den) hj
  ((conv=>whnf);repeat (refine Wa ?_;(repeat (first|refine Wb ?_|refine Wc ?_|refine Wd ?_|refine We ?_|refine Wf ?_));(conv=>whnf)))
  refine br_dec (fun hlt' => ?_) (fun hge' => ?_)
  ·have hj' : j < nums.length := by omega
   have hnx := lowP_succ (nums := nums) (den := den) hj'
   have hxb := tdiv_bd (g := gP nums den) (hb j hj')
   generalize lowP nums den j = l at *
   rcases hO with ⟨rfl, rfl⟩ | ⟨ver, rfl⟩
   ·((conv=>whnf);repeat (refine Wa ?_;(repeat (first|refine Wb ?_|refine Wc ?_|refine Wd ?_|refine We ?_|refine Wf ?_));(conv=>whnf)))
    refine AW_draw (X := cx 50) (cx_ok 50) mixed (by kernel_rfl) ?_
    ((conv=>whnf);repeat (refine Wa ?_;(repeat (first|refine Wb ?_|refine Wc ?_|refine Wd ?_|refine We ?_|refine Wf ?_));(conv=>whnf)))
    repeat ((first | refine ⟨(show (0 : Int) ≤ (j : Int) by omega), ?_⟩ | refine ⟨(show (j : Int) < (nums.length : Int) by omega), ?_⟩ | refine ⟨(show gP nums den ≠ 0 by omega), ?_⟩ | refine ⟨(show InR ((nums.getD j 0).tdiv (gP nums den)) from inr (by omega)), ?_⟩ | refine ⟨ms1, ?_⟩ | refine ⟨inr (by omega), ?_⟩); ((conv=>whnf);repeat (refine Wa ?_;(repeat (first|refine Wb ?_|refine Wc ?_|refine Wd ?_|refine We ?_|refine Wf ?_));(conv=>whnf))))
    refine ⟨by repeat (first|exact trivial|exact rfl|exact fun _=>trivial|exact fun _ _=>trivial|exact fun _ _ _=>trivial|exact fun _ _ _ _=>trivial|refine And.intro ?_ ?_), memA1 [some OL, some ⟨24, 2, 0, .one [.sl 11 0 0 1, .int (den.tdiv (gP nums den))]⟩, none, none, none, none, none, none, none, none, none, some ⟨3, 1, 0, .il (lowP nums den (j + 1))⟩] ⟨ObSub.refl _, ObSub.refl _, ObSub.ii (by rw [hnx]; rfl), trivial⟩ ⟨⟨j + 1, hj', .inr ⟨0, by rw [hnx]; rfl⟩, rfl⟩, ?_⟩⟩
    simp [V.toInt, sel, Env.get]; omega
   ·((conv=>whnf);repeat (refine Wa ?_;(repeat (first|refine Wb ?_|refine Wc ?_|refine Wd ?_|refine We ?_|refine Wf ?_));(conv=>whnf)))
    refine AW_draw (X := cx 50) (cx_ok 50) mixed (by kernel_rfl) ?_
    ((conv=>whnf);repeat (refine Wa ?_;(repeat (first|refine Wb ?_|refine Wc ?_|refine Wd ?_|refine We ?_|refine Wf ?_));(conv=>whnf)))
    repeat ((first | refine ⟨(show (0 : Int) ≤ (j : Int) by omega), ?_⟩ | refine ⟨(show (j : Int) < (nums.length : Int) by omega), ?_⟩ | refine ⟨(show gP nums den ≠ 0 by omega), ?_⟩ | refine ⟨(show InR ((nums.getD j 0).tdiv (gP nums den)) from inr (by omega)), ?_⟩); ((conv=>whnf);repeat (refine Wa ?_;(repeat (first|refine Wb ?_|refine Wc ?_|refine Wd ?_|refine We ?_|refine Wf ?_));(conv=>whnf))))
    refine eqn_self (x := ver) ?_
    ((conv=>whnf);repeat (refine Wa ?_;(repeat (first|refine Wb ?_|refine Wc ?_|refine Wd ?_|refine We ?_|refine Wf ?_));(conv=>whnf)))
    refine eqn_self (x := 0) ?_
    ((conv=>whnf);repeat (refine Wa ?_;(repeat (first|refine Wb ?_|refine Wc ?_|refine Wd ?_|refine We ?_|refine Wf ?_));(conv=>whnf)))
    refine ⟨msk (by omega), ?_⟩
    ((conv=>whnf);repeat (refine Wa ?_;(repeat (first|refine Wb ?_|refine Wc ?_|refine Wd ?_|refine We ?_|refine Wf ?_));(conv=>whnf)))
    refine ⟨inr (by omega), ?_⟩
    ((conv=>whnf);repeat (refine Wa ?_;(repeat (first|refine Wb ?_|refine Wc ?_|refine Wd ?_|refine We ?_|refine Wf ?_));(conv=>whnf)))
    refine ⟨by repeat (first|exact trivial|exact rfl|exact fun _=>trivial|exact fun _ _=>trivial|exact fun _ _ _=>trivial|exact fun _ _ _ _=>trivial|refine And.intro ?_ ?_), memA1 [some OL, some ⟨24, 2, 0, .one [.sl 11 (ver + 1) 0 (l.length + 1), .int (den.tdiv (gP nums den))]⟩, none, none, none, none, none, none, none, none, none, some ⟨3, 1, ver + 1, .il (lowP nums den (j + 1))⟩] ⟨ObSub.refl _, ObSub.refl _, ObSub.ii (by rw [hnx, List.take_length]; rfl), trivial⟩ ⟨⟨j + 1, hj', .inr ⟨ver + 1, by rw [hnx, List.length_append]; rfl⟩, rfl⟩, ?_⟩⟩
    simp [V.toInt, sel, Env.get]; omega
  ·obtain rfl : j = nums.length := by omega
   rcases hO with ⟨hl0, rfl⟩ | ⟨ver, rfl⟩
   ·rw [hl0] at hpl; simp at hpl; omega
   ·((conv=>whnf);repeat (refine Wa ?_;(repeat (first|refine Wb ?_|refine Wc ?_|refine Wd ?_|refine We ?_|refine Wf ?_));(conv=>whnf)))
    have hfull : lowP nums den nums.length = lowN nums den := List.take_of_length_le (by rw [lowN_len]; exact Nat.le_refl _)
    have hv : Nat.beq ver ver = true := Nat.beq_refl ver
    rw [hfull]
    have e0 : ((lowN nums den).drop 0).take (lowN nums den).length = lowN nums den := by rw [List.drop_zero, List.take_length]
    refine ⟨fr2 (show Fr (bif Nat.beq ver ver then V.ints true (((lowN nums den).drop 0).take (lowN nums den).length) else V.any) by rw [hv]; exact rfl) trivial, agg2_eq (show (bif Nat.beq ver ver then V.ints true (((lowN nums den).drop 0).take (lowN nums den).length) else V.any) = V.ints true (lowN nums den) by rw [hv, e0]; rfl) rfl fun _ => rfl⟩
theorem same_pure (a b : List Int) : APure Try.prog 20 [.ints false a, .ints false b] (fun R => R = .bool (decide (a = b))) := by
 refine APure_of (X := cx 26) (cx_ok 26) rfl (rs := [(.tmp 4, 4)]) Try.func20 (by decide) rfl rfl rfl (by simp [cx]) (by simp [NoFr]) ?_
 intro hlen
 have hla : (a.length : Int) ≤ 9223372036854775807 := hlen (.ints false a) (by simp)
 ((conv=>whnf);repeat (refine Wa ?_;(repeat (first|refine Wb ?_|refine Wc ?_|refine Wd ?_|refine We ?_|refine Wf ?_));(conv=>whnf)))
 refine br_ne (fun h => ?_) (fun h => ?_)
 ·((conv=>whnf);repeat (refine Wa ?_;(repeat (first|refine Wb ?_|refine Wc ?_|refine Wd ?_|refine We ?_|refine Wf ?_));(conv=>whnf)))
  refine ⟨trivial, Qb ?_⟩
  have : ¬ a = b := fun e => h (by rw [e])
  simp [this]
 ·((conv=>whnf);repeat (refine Wa ?_;(repeat (first|refine Wb ?_|refine Wc ?_|refine Wd ?_|refine We ?_|refine Wf ?_));(conv=>whnf)))
  have hab : a.length = b.length := by omega
  refine AW_loop (X := cx 26) (cx_ok 26) [0, 1, 5] (fun vs M => ∃ k : Nat, k ≤ a.length ∧ a.take k = b.take k ∧ vs = [.ints false a, .ints false b, .int k] ∧ M = []) (fun vs _ => a.length - (vs.getD 2 .any).toInt.toNat) ?_ ?_
  ·exact ⟨0, Nat.zero_le _, rfl, rfl, rfl⟩
  ·rintro vs M ⟨k, hk, hkab, rfl, rfl⟩
   ((conv=>whnf);repeat (refine Wa ?_;(repeat (first|refine Wb ?_|refine Wc ?_|refine Wd ?_|refine We ?_|refine Wf ?_));(conv=>whnf)))
   refine br_dec (fun hlt => ?_) (fun hge => ?_)
   ·have hk' : k < a.length := by omega
    ((conv=>whnf);repeat (refine Wa ?_;(repeat (first|refine Wb ?_|refine Wc ?_|refine Wd ?_|refine We ?_|refine Wf ?_));(conv=>whnf)))
    refine AW_draw (X := cx 26) (cx_ok 26) mixed (by kernel_rfl) ?_
    ((conv=>whnf);repeat (refine Wa ?_;(repeat (first|refine Wb ?_|refine Wc ?_|refine Wd ?_|refine We ?_|refine Wf ?_));(conv=>whnf)))
    repeat ((first | refine ⟨by omega, ?_⟩ | refine ⟨inr (by omega), ?_⟩ | refine eqn_self ?_ | refine ⟨ms (by omega), ?_⟩ | refine ⟨ms (by simp only [Src.n]; omega), ?_⟩ | refine ⟨msk (by omega), ?_⟩ | refine ⟨ms1, ?_⟩); ((conv=>whnf);repeat (refine Wa ?_;(repeat (first|refine Wb ?_|refine Wc ?_|refine Wd ?_|refine We ?_|refine Wf ?_));(conv=>whnf))))
    refine br_ne (fun h => ?_) (fun h => ?_)
    ·((conv=>whnf);repeat (refine Wa ?_;(repeat (first|refine Wb ?_|refine Wc ?_|refine Wd ?_|refine We ?_|refine Wf ?_));(conv=>whnf)))
     refine ⟨trivial, Qb ?_⟩
     have : ¬ a = b := fun e => h (by rw [e])
     simp [this]
    ·((conv=>whnf);repeat (refine Wa ?_;(repeat (first|refine Wb ?_|refine Wc ?_|refine Wd ?_|refine We ?_|refine Wf ?_));(conv=>whnf)))
     repeat ((first | refine ⟨by omega, ?_⟩ | refine ⟨inr (by omega), ?_⟩ | refine eqn_self ?_ | refine ⟨ms (by omega), ?_⟩ | refine ⟨ms (by simp only [Src.n]; omega), ?_⟩ | refine ⟨msk (by omega), ?_⟩ | refine ⟨ms1, ?_⟩); ((conv=>whnf);repeat (refine Wa ?_;(repeat (first|refine Wb ?_|refine Wc ?_|refine Wd ?_|refine We ?_|refine Wf ?_));(conv=>whnf))))
     refine ⟨⟨k + 1, by omega, ?_, rfl, rfl⟩, ?_⟩
     ·rw [take_succ_getD _ _ hk', take_succ_getD _ _ (by omega), hkab]
      simp only [Int.toNat_natCast] at h
      rw [h]
     ·simp [V.toInt, sel, Env.get]; omega
   ·((conv=>whnf);repeat (refine Wa ?_;(repeat (first|refine Wb ?_|refine Wc ?_|refine Wd ?_|refine We ?_|refine Wf ?_));(conv=>whnf)))
    refine ⟨trivial, Qb ?_⟩
    rw [take_len (by omega), take_len (by omega)] at hkab
    simp [hkab]



theorem parts_pure (l : List Int) (d : Int) : APure Try.prog 23 [parV false l d, parV false l d] (fun R => R = .bool true) := by
 refine APure_of (X := cx 17) (cx_ok 17) rfl (rs := [(.tmp 4, 4)]) Try.func23 (by decide) rfl rfl rfl (by simp [cx]) (nofr2 nofrPa nofrPa) ?_
 intro hlen
 have c1 := same_pure l l
 rw [decide_eq_true rfl] at c1
 ((conv=>whnf);repeat (refine Wa ?_;(repeat (first|refine Wb ?_|refine Wc ?_|refine Wd ?_|refine We ?_|refine Wf ?_));(conv=>whnf)))
 rw [show (d == d) = true by simp]
 ((conv=>whnf);repeat (refine Wa ?_;(repeat (first|refine Wb ?_|refine Wc ?_|refine Wd ?_|refine We ?_|refine Wf ?_));(conv=>whnf)))
 refine APure.to c1 ?_
 ((conv=>whnf);repeat (refine Wa ?_;(repeat (first|refine Wb ?_|refine Wc ?_|refine Wd ?_|refine We ?_|refine Wf ?_));(conv=>whnf)))
 exact ⟨trivial, rfl⟩
theorem subEm {F : Nat → V} {d : Int} (h0 : F 0 = .emp true) (h1 : F 1 = .int d) : Sub (.agg 2 F) (parV false [] d) := sub_agg fun i hi => by
 rcases (by omega : i = 0 ∨ i = 1) with rfl | rfl
 ·rw [h0]; exact sub_emp true false
 ·exact Sub.of h1
end Go.Tri.Q8
