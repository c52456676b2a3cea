/-
 CONTRACTS: how many bits; what a set has.
-/
import Derived.Test.YtafibngpgllcfaaM3
import Derived.Test.YtafibngpgllcfaaB12
namespace Go.Tri
open Go.Proofs

set_option maxRecDepth 100000 in
theorem Ones64_pure (s : Nat) (hs : s < 16384) : APure Try.prog 87 [.lit (.int .u64 s)] (fun R => R = .int (ct s 14 : Nat)) := by
 refine APure_of (X := cx 35) (cx_ok 35) rfl (rs := [(.tmp 2, 3)]) Try.func87 (by decide) rfl rfl rfl (by simp [cx]) (by simp [NoFr]) ?_
 intro hlen
 have b1 : pc1 s < 32768 := by
  have h1 := @Nat.and_le_left (s / 2 ^ 1) 6148914691236517205
  have h2 := @Nat.and_le_left s 6148914691236517205
  unfold pc1
  omega
 have b2 : pc2 (pc1 s) < 65536 := by
  have h1 := @Nat.and_le_left (pc1 s / 2 ^ 2) 3689348814741910323
  have h2 := @Nat.and_le_left (pc1 s) 3689348814741910323
  unfold pc2
  omega
 have b3 : pc3 (pc2 (pc1 s)) < 131072 := by
  have h1 := @Nat.and_le_left (pc2 (pc1 s) / 2 ^ 4 + pc2 (pc1 s)) 1085102592571150095
  unfold pc3
  omega
 have b4 : pc4 (pc3 (pc2 (pc1 s))) < 262144 := by
  unfold pc4
  omega
 have b5 : pc5 (pc4 (pc3 (pc2 (pc1 s)))) < 524288 := by
  unfold pc5
  omega
 have b6 : pc6 (pc5 (pc4 (pc3 (pc2 (pc1 s))))) < 1048576 := by
  unfold pc6
  omega
 have sh : ∀ (x i : Nat), i ≤ 63 → (x : Int).fdiv (2 ^ min (Int.toNat i) IntKind.u64.bits) = ((x / 2 ^ i : Nat) : Int) := fun x i h => shrU h
 have ad : ∀ (x y : Nat), x < 1048576 → y < 1048576 → IntKind.u64.wrap ((x : Int) + (y : Int)) = ((x + y : Nat) : Int) := fun x y h h' => wrU (x := x + y) (by omega)
 have e1 : IntKind.u64.wrap (bitI .and .u64 ((s / 2 ^ 1 : Nat) : Int) 6148914691236517205 + bitI .and .u64 (s : Int) 6148914691236517205) = ((pc1 s : Nat) : Int) := by
  rw [show bitI .and .u64 ((s / 2 ^ 1 : Nat) : Int) 6148914691236517205 = _ from andU (y := 6148914691236517205) (by omega) (by decide), show bitI .and .u64 (s : Int) 6148914691236517205 = _ from andU (y := 6148914691236517205) (by omega) (by decide)]
  exact ad _ _ (Nat.lt_of_le_of_lt Nat.and_le_left (by omega)) (Nat.lt_of_le_of_lt Nat.and_le_left (by omega))
 have e2 : IntKind.u64.wrap (bitI .and .u64 ((pc1 s / 2 ^ 2 : Nat) : Int) 3689348814741910323 + bitI .and .u64 (pc1 s : Int) 3689348814741910323) = ((pc2 (pc1 s) : Nat) : Int) := by
  rw [show bitI .and .u64 ((pc1 s / 2 ^ 2 : Nat) : Int) 3689348814741910323 = _ from andU (y := 3689348814741910323) (by omega) (by decide), show bitI .and .u64 (pc1 s : Int) 3689348814741910323 = _ from andU (y := 3689348814741910323) (by omega) (by decide)]
  exact ad _ _ (Nat.lt_of_le_of_lt Nat.and_le_left (by omega)) (Nat.lt_of_le_of_lt Nat.and_le_left (by omega))
 have e3 : bitI .and .u64 (IntKind.u64.wrap (((pc2 (pc1 s) / 2 ^ 4 : Nat) : Int) + (pc2 (pc1 s) : Nat))) 1085102592571150095 = ((pc3 (pc2 (pc1 s)) : Nat) : Int) := by
  rw [ad _ _ (by omega) (by omega)]
  exact andU (y := 1085102592571150095) (by omega) (by decide)
 have e4 : IntKind.u64.wrap (((pc3 (pc2 (pc1 s)) : Nat) : Int) + ((pc3 (pc2 (pc1 s)) / 2 ^ 8 : Nat) : Int)) = ((pc4 (pc3 (pc2 (pc1 s))) : Nat) : Int) := ad _ _ (by omega) (by omega)
 have e5 : IntKind.u64.wrap (((pc4 (pc3 (pc2 (pc1 s))) : Nat) : Int) + ((pc4 (pc3 (pc2 (pc1 s))) / 2 ^ 16 : Nat) : Int)) = ((pc5 (pc4 (pc3 (pc2 (pc1 s)))) : Nat) : Int) := ad _ _ (by omega) (by omega)
 have e6 : IntKind.u64.wrap (((pc5 (pc4 (pc3 (pc2 (pc1 s)))) : Nat) : Int) + ((pc5 (pc4 (pc3 (pc2 (pc1 s)))) / 2 ^ 32 : Nat) : Int)) = ((pc6 (pc5 (pc4 (pc3 (pc2 (pc1 s))))) : Nat) : Int) := ad _ _ (by omega) (by omega)
 ((conv=>whnf);repeat (refine Wa ?_;(repeat (first|refine Wb ?_|refine Wc ?_|refine Wd ?_|refine We ?_|refine Wf ?_));(conv=>whnf)))
 refine ⟨by omega, ?_⟩
 rw [show (s : Int).fdiv (2 ^ min (Int.toNat 1) IntKind.u64.bits) = _ from sh s 1 (by omega)]
 ((conv=>whnf);repeat (refine Wa ?_;(repeat (first|refine Wb ?_|refine Wc ?_|refine Wd ?_|refine We ?_|refine Wf ?_));(conv=>whnf)))
 rw [e1]
 refine ⟨by omega, ?_⟩
 rw [show ((pc1 s : Nat) : Int).fdiv (2 ^ min (Int.toNat 2) IntKind.u64.bits) = _ from sh _ 2 (by omega)]
 ((conv=>whnf);repeat (refine Wa ?_;(repeat (first|refine Wb ?_|refine Wc ?_|refine Wd ?_|refine We ?_|refine Wf ?_));(conv=>whnf)))
 rw [e2]
 refine ⟨by omega, ?_⟩
 rw [show ((pc2 (pc1 s) : Nat) : Int).fdiv (2 ^ min (Int.toNat 4) IntKind.u64.bits) = _ from sh _ 4 (by omega)]
 ((conv=>whnf);repeat (refine Wa ?_;(repeat (first|refine Wb ?_|refine Wc ?_|refine Wd ?_|refine We ?_|refine Wf ?_));(conv=>whnf)))
 rw [e3]
 refine ⟨by omega, ?_⟩
 rw [show ((pc3 (pc2 (pc1 s)) : Nat) : Int).fdiv (2 ^ min (Int.toNat 8) IntKind.u64.bits) = _ from sh _ 8 (by omega)]
 ((conv=>whnf);repeat (refine Wa ?_;(repeat (first|refine Wb ?_|refine Wc ?_|refine Wd ?_|refine We ?_|refine Wf ?_));(conv=>whnf)))
 rw [e4]
 refine ⟨by omega, ?_⟩
 rw [show ((pc4 (pc3 (pc2 (pc1 s))) : Nat) : Int).fdiv (2 ^ min (Int.toNat 16) IntKind.u64.bits) = _ from sh _ 16 (by omega)]
 ((conv=>whnf);repeat (refine Wa ?_;(repeat (first|refine Wb ?_|refine Wc ?_|refine Wd ?_|refine We ?_|refine Wf ?_));(conv=>whnf)))
 rw [e5]
 refine ⟨by omega, ?_⟩
 rw [show ((pc5 (pc4 (pc3 (pc2 (pc1 s)))) : Nat) : Int).fdiv (2 ^ min (Int.toNat 32) IntKind.u64.bits) = _ from sh _ 32 (by omega)]
 ((conv=>whnf);repeat (refine Wa ?_;(repeat (first|refine Wb ?_|refine Wc ?_|refine Wd ?_|refine We ?_|refine Wf ?_));(conv=>whnf)))
 rw [e6]
 refine ⟨inr (by omega), ?_⟩
 ((conv=>whnf);repeat (refine Wa ?_;(repeat (first|refine Wb ?_|refine Wc ?_|refine Wd ?_|refine We ?_|refine Wf ?_));(conv=>whnf)))
 refine ⟨trivial, Qi ?_⟩
 rw [← pcN_ct hs]
 exact andI (y := 127) (by omega) (by decide)
set_option maxRecDepth 100000 in
theorem Ones_pure (s : Nat) (hs : s < 16384) : APure Try.prog 73 [.lit (.int .u64 s)] (fun R => R = .int (ct s 14 : Nat)) := by
 refine APure_of (X := cx 8) (cx_ok 8) rfl (rs := [(.tmp 2, 3)]) Try.func73 (by decide) rfl rfl rfl (by simp [cx]) (by simp [NoFr]) ?_
 intro hlen
 have c1 := Ones64_pure s hs
 ((conv=>whnf);repeat (refine Wa ?_;(repeat (first|refine Wb ?_|refine Wc ?_|refine Wd ?_|refine We ?_|refine Wf ?_));(conv=>whnf)))
 refine APure.to c1 ?_
 ((conv=>whnf);repeat (refine Wa ?_;(repeat (first|refine Wb ?_|refine Wc ?_|refine Wd ?_|refine We ?_|refine Wf ?_));(conv=>whnf)))
 exact ⟨trivial, rfl⟩

theorem shr_pos {s x : Nat} : 0 < s / 2 ^ x ↔ 2 ^ x ≤ s := by
 rw [Nat.div_pos_iff]
 exact ⟨fun h => h.2, fun h => ⟨Nat.two_pow_pos x, h⟩⟩
@[reducible] def ilO (t : Nat) (ver : Nat) (L : List Int) : Ob := ⟨t, 1, ver, .il L⟩
set_option maxRecDepth 100000 in
theorem members_pure (n s : Nat) (hn : n ≤ 30) (hs : s < 2 ^ n) : APure Try.prog 47 [.int s] (fun R => R = .ints true (mbL s n)) := by
 refine APure_of (X := cx 19) (cx_ok 19) rfl (rs := [(.tmp 2, 25)]) Try.func47 (by decide) rfl rfl rfl (by simp [cx]) (by simp [NoFr]) ?_
 intro hlen
 have h63 : s < 9223372036854775808 := lt63 hs (by omega)
 ((conv=>whnf);repeat (refine Wa ?_;(repeat (first|refine Wb ?_|refine Wc ?_|refine Wd ?_|refine We ?_|refine Wf ?_));(conv=>whnf)))
 refine AW_nil 0 [0, 3, 4] [.int s, .sl 0 0 0 0, .int 0] [some (ilO 3 0 [])] rfl trivial rfl ⟨NlV.refl _, NlV.nil _, NlV.refl _, trivial⟩ ?_
 refine AW_loopA (X := cx 19) (cx_ok 19) [0, 3, 4] (cutN 1) (fun vs M => ∃ k ver : Nat, k ≤ n ∧ vs = [.int s, .sl 0 ver 0 (mbL s k).length, .int k] ∧ M = [some (ilO 3 ver (mbL s k))]) (fun vs _ => n - (vs.getD 2 .any).toInt.toNat) (fun t ht => cutN_iff.2 ht) ?_ ?_
 ·exact same0 ⟨0, 0, Nat.zero_le _, rfl, rfl⟩
 rintro vs M ⟨k, ver, hk, rfl, rfl⟩
 have hll : (mbL s k).length ≤ 30 := Nat.le_trans (mbL_len s k) (by omega)
 ((conv=>whnf);repeat (refine Wa ?_;(repeat (first|refine Wb ?_|refine Wc ?_|refine Wd ?_|refine We ?_|refine Wf ?_));(conv=>whnf)))
 refine ⟨by omega, ?_⟩
 rw [shrN (by omega)]
 ((conv=>whnf);repeat (refine Wa ?_;(repeat (first|refine Wb ?_|refine Wc ?_|refine Wd ?_|refine We ?_|refine Wf ?_));(conv=>whnf)))
 refine br_dec (fun hlt => ?_) (fun hge => ?_)
 ·have hlt : ((s / 2 ^ k : Nat) : Int) > 0 := hlt
  have hk' : k < n := by
   refine Classical.byContradiction fun h => ?_
   obtain rfl : k = n := by omega
   have := shr_pos.1 (show 0 < s / 2 ^ k by omega)
   omega
  have c1 := has_pure (s := s) (i := k) h63 (by omega)
  have e : mbL s (k + 1) = if s.testBit k = true then mbL s k ++ [(k : Int)] else mbL s k := rfl
  ((conv=>whnf);repeat (refine Wa ?_;(repeat (first|refine Wb ?_|refine Wc ?_|refine Wd ?_|refine We ?_|refine Wf ?_));(conv=>whnf)))
  refine APure.to c1 ?_
  ((conv=>whnf);repeat (refine Wa ?_;(repeat (first|refine Wb ?_|refine Wc ?_|refine Wd ?_|refine We ?_|refine Wf ?_));(conv=>whnf)))
  refine br_mk (fun hb => ?_) (fun hb => ?_)
  ·rw [if_pos hb] at e
   ((conv=>whnf);repeat (refine Wa ?_;(repeat (first|refine Wb ?_|refine Wc ?_|refine Wd ?_|refine We ?_|refine Wf ?_));(conv=>whnf)))
   refine eqn_self ?_
   ((conv=>whnf);repeat (refine Wa ?_;(repeat (first|refine Wb ?_|refine Wc ?_|refine Wd ?_|refine We ?_|refine Wf ?_));(conv=>whnf)))
   refine ⟨(show (8 : Int) * (((mbL s k).length : Int) + (1 : Nat)) ≤ 140737488355328 by omega), ?_⟩
   ((conv=>whnf);repeat (refine Wa ?_;(repeat (first|refine Wb ?_|refine Wc ?_|refine Wd ?_|refine We ?_|refine Wf ?_));(conv=>whnf)))
   refine ⟨inr (by omega), ?_⟩
   ((conv=>whnf);repeat (refine Wa ?_;(repeat (first|refine Wb ?_|refine Wc ?_|refine Wd ?_|refine We ?_|refine Wf ?_));(conv=>whnf)))
   refine ⟨?_, ?_⟩
   ·exact ⟨⟨trivial, rfl, trivial, trivial⟩, trivial, trivial⟩
   ·refine ⟨[.int s, .sl 0 (ver + 1) 0 (mbL s (k + 1)).length, .int (k + 1 : Nat)], [some (ilO 3 (ver + 1) (mbL s (k + 1)))], ?_, ?_, ⟨k + 1, ver + 1, hk', rfl, rfl⟩, ?_⟩
    ·exact ⟨Sub.refl _, Sub.of (congrArg (V.sl 0 (ver + 1) 0) (show (mbL s k).length + 1 = (mbL s (k + 1)).length by rw [e, len_snocI])), Sub.refl _, trivial⟩
    ·rw [e]
     exact ⟨ObSub.ii (show List.take (mbL s k).length (mbL s k) ++ [(k : Int)] = _ by rw [List.take_length]), trivial⟩
    ·simp [V.toInt]; omega
  ·rw [if_neg (by rw [hb]; simp)] at e
   ((conv=>whnf);repeat (refine Wa ?_;(repeat (first|refine Wb ?_|refine Wc ?_|refine Wd ?_|refine We ?_|refine Wf ?_));(conv=>whnf)))
   refine ⟨inr (by omega), ?_⟩
   ((conv=>whnf);repeat (refine Wa ?_;(repeat (first|refine Wb ?_|refine Wc ?_|refine Wd ?_|refine We ?_|refine Wf ?_));(conv=>whnf)))
   refine ⟨?_, ?_⟩
   ·exact ⟨⟨trivial, rfl, trivial, trivial⟩, trivial, trivial⟩
   ·rw [← e]
    exact same1 ⟨⟨k + 1, ver, hk', rfl, rfl⟩, by simp [V.toInt, sel, Env.get]; omega⟩
 ·have hge : ¬ ((s / 2 ^ k : Nat) : Int) > 0 := hge
  have e : mbL s n = mbL s k := by
   obtain ⟨q, rfl⟩ : ∃ q, n = k + q := ⟨n - k, by omega⟩
   refine mbL_more ?_ q
   have := mt shr_pos.2 (show ¬ 0 < s / 2 ^ k by omega)
   omega
  ((conv=>whnf);repeat (refine Wa ?_;(repeat (first|refine Wb ?_|refine Wc ?_|refine Wd ?_|refine We ?_|refine Wf ?_));(conv=>whnf)))
  refine eqn_self ?_
  refine ⟨rfl, ?_⟩
  show V.ints true (List.take (mbL s k).length (List.drop 0 (mbL s k))) = _
  rw [List.drop_zero, List.take_length, e]
end Go.Tri
