/-
  LAW: ShiftMore.
-/
import Derived.Test.YtciefpkelgjboaaL2
namespace Go.Tri
open Go.Proofs

theorem set_nds {l : List Int} (hn : Nds l) {i : Nat} (hi : i < l.length) {v : Int} (h0 : 0 ≤ v) (h1 : v ≤ 50) : Nds (l.set i v) := by
  have hlen : (l.set i v).length = l.length := List.length_set
  refine ⟨by rw [hlen]; exact hn.1, by rw [hlen]; exact hn.2.1, fun q hq => ?_⟩
  rw [hlen] at hq
  rw [getD_set' _ _ _ _ hi]
  split
  · exact ⟨h0, h1⟩
  · exact hn.2.2 q hq
theorem more_le {l : List Int} {long : Nat} (hn : Nds l) (hl1 : 1 ≤ long) (hl : long ≤ l.length) {i : Nat} (hi : i < l.length) {v : Int} (hv : l.getD i 0 ≤ v) (h1 : v ≤ 50) :
    leL l long ≤ leL (l.set i v) long ∧ (leL (l.set i v) long : Int) ≤ leL l long + v - l.getD i 0 := by
  have hlen : (l.set i v).length = l.length := List.length_set
  have h0 := (hn.2.2 i hi).1
  have hn' := set_nds hn hi (by omega) h1
  have f := leL_fea hn.1 hn.2.1 hl1 hl hn.wide
  have f' := leL_fea hn'.1 hn'.2.1 hl1 (by rw [hlen]; exact hl) hn'.wide
  constructor
  · have := leL_least hn.1 hn.2.1 hl1 hl hn.wide (fea_less (l := l.set i v) (l' := l) hlen.symm (fun y hy => by
      rw [hlen] at hy
      rw [getD_set' _ _ _ _ hi]
      split
      · next h => rw [h]; exact hv
      · exact Int.le_refl _) f')
    omega
  · have := leL_least hn'.1 hn'.2.1 hl1 (by rw [hlen]; exact hl) hn'.wide (fea_one_more (d := v - l.getD i 0) hn.1 hl1 hi (by omega) (by omega) f)
    omega
theorem longer_le {l : List Int} {long : Nat} (hn : Nds l) (hl1 : 1 ≤ long) (hl : long + 1 ≤ l.length) : leL l ((long : Int) + 1) ≤ leL l long := by
  have f := leL_fea (l := l) (long := long) hn.1 hn.2.1 hl1 (by omega) hn.wide
  have := leL_least (l := l) (long := long + 1) hn.1 hn.2.1 (by omega) hl hn.wide (fea_longer f)
  rw [show ((long + 1 : Nat) : Int) = (long : Int) + 1 by omega] at this
  omega

set_option maxRecDepth 100000 in
theorem ShiftMore_pure (l : List Int) (long : Int) (size hour more : Int) (hs : 0 ≤ size ∧ size ≤ 65535) (hh : 0 ≤ hour ∧ hour ≤ 255) (hm : 0 ≤ more ∧ more ≤ 255) :
    APure Try.prog 11 [.ints false l, .int long, .lit (.int .u16 size), .lit (.int .u8 hour), .lit (.int .u8 more)] (fun R => R = .bool true) := by
  refine APure_of (X := cx 156) (cx_ok 156) rfl (rs := [(.tmp 10, 4)]) Try.func11 (by decide) rfl rfl rfl (by simp [cx]) (by simp [NoFr]) ?_
  intro hlen
  have fin := alive_pure
  have hfew := few_pure l []
  ((conv => whnf); repeat (refine stepK_in ?_; (repeat (first | refine seqQ_n ?_ | refine blockQ_n ?_ | refine awp_skip ?_ | refine awp_seq ?_ | refine awp_block ?_)); (conv => whnf)))
  refine APure.to hfew ?_
  by_cases h40 : l.length ≤ 40
  · rw [few40 h40]
    ((conv => whnf); repeat (refine stepK_in ?_; (repeat (first | refine seqQ_n ?_ | refine blockQ_n ?_ | refine awp_skip ?_ | refine awp_seq ?_ | refine awp_block ?_)); (conv => whnf)))
    refine APure.to (refDay_pure l long) ?_
    ((conv => whnf); repeat (refine stepK_in ?_; (repeat (first | refine seqQ_n ?_ | refine blockQ_n ?_ | refine awp_skip ?_ | refine awp_seq ?_ | refine awp_block ?_)); (conv => whnf)))
    refine br_ne (fun h => ?_) (fun h => ?_)
    · ((conv => whnf); repeat (refine stepK_in ?_; (repeat (first | refine seqQ_n ?_ | refine blockQ_n ?_ | refine awp_skip ?_ | refine awp_seq ?_ | refine awp_block ?_)); (conv => whnf)))
      refine APure.to fin ?_
      ((conv => whnf); repeat (refine stepK_in ?_; (repeat (first | refine seqQ_n ?_ | refine blockQ_n ?_ | refine awp_skip ?_ | refine awp_seq ?_ | refine awp_block ?_)); (conv => whnf)))
      exact ⟨trivial, rfl⟩
    obtain ⟨hn, hl1, hl2⟩ := dayE_inv h
    obtain ⟨n, rfl⟩ : ∃ n : Nat, long = n := ⟨long.toNat, by omega⟩
    have hle := le600 h
    have c1 := Least_pure l n
    rw [leV_ok h] at c1
    obtain ⟨k, hk⟩ : ∃ k : Nat, size.tmod 601 = k := ⟨(size.tmod 601).toNat, by rw [Int.tmod_eq_emod_of_nonneg hs.1]; omega⟩
    have hk6 : k ≤ 600 := by rw [Int.tmod_eq_emod_of_nonneg hs.1] at hk; omega
    have hok := fea_ok (T := k) hn (show 1 ≤ n by omega) (by omega) (by omega)
    have c2 := With_pure l n k
    have hwi : wiV l n k = if okT l n k = true then tup2 (.ints true (plnL l n k)) (.int 0) else tup2 (.ints true []) (.int 10) := by unfold wiV; rw [if_pos h, if_pos (by omega)]
    rw [hwi] at c2
    obtain ⟨i, hi⟩ : ∃ i : Nat, hour.tmod l.length = i := ⟨(hour.tmod l.length).toNat, by
      rw [Int.tmod_eq_emod_of_nonneg hh.1]
      have := Int.emod_nonneg hour (show (l.length : Int) ≠ 0 by have := hn.1; omega)
      omega⟩
    have hil : i < l.length := by
      rw [Int.tmod_eq_emod_of_nonneg hh.1] at hi
      have := Int.emod_lt_of_pos hour (show (0 : Int) < l.length by have := hn.1; omega)
      omega
    have hli := hn.2.2 i hil
    have hvb : l.getD i 0 ≤ minI 50 (l.getD i 0 + more) ∧ minI 50 (l.getD i 0 + more) ≤ 50 := by unfold minI; split <;> omega
    have hmo := more_le hn (show 1 ≤ n by omega) (by omega) hil hvb.1 hvb.2
    have hn' := set_nds hn hil (v := minI 50 (l.getD i 0 + more)) (by omega) hvb.2
    have hlen' : (l.set i (minI 50 (l.getD i 0 + more))).length = l.length := List.length_set
    have hgi : (l.set i (minI 50 (l.getD i 0 + more))).getD i 0 = minI 50 (l.getD i 0 + more) := by rw [getD_set' _ _ _ _ hil, if_pos rfl]
    have hd' : dayE (l.set i (minI 50 (l.getD i 0 + more))) n = 0 := dayE_ok hn' hl1 (by rw [hlen']; exact hl2)
    have c3 := Least_pure (l.set i (minI 50 (l.getD i 0 + more))) n
    rw [leV_ok hd'] at c3
    have hle' := le600 hd'
    generalize hmm : leL (l.set i (minI 50 (l.getD i 0 + more))) n = m1 at *
    have hGi : (l.set (0 + (i : Int).toNat) (minI 50 (l.getD (0 + (i : Int).toNat) 0 + more))).getD (0 + (i : Int).toNat) 0 = minI 50 (l.getD i 0 + more) := by rw [Int.toNat_natCast, Nat.zero_add]; exact hgi
    have c3' : APure Try.prog 22 [.ints false (((l.set (0 + (i : Int).toNat) (minI 50 (l.getD (0 + (i : Int).toNat) 0 + more))).drop 0).take l.length), .int n] (fun R => R = tup2 (.int m1) (.int 0)) := by
      rw [Int.toNat_natCast, Nat.zero_add, List.drop_zero, List.take_of_length_le (by omega)]
      exact c3
    have c4 : n < l.length → APure Try.prog 22 [.ints false l, .int ((n : Int) + 1)] (fun R => R = tup2 (.int (leL l ((n : Int) + 1))) (.int 0)) := fun h' => by
      have := Least_pure l ((n : Int) + 1)
      rwa [leV_ok (dayE_ok hn (by omega) (by omega))] at this
    have c4b : n < l.length → leL l ((n : Int) + 1) ≤ leL l n := fun h' => longer_le hn (by omega) (by omega)
    have n12 := hn.2.1
    have n11 := hn.1
    have hE : okT l n k = true → APure Try.prog 17 [.ints false l, .int n, .ints false (plnL l n k)] (fun R => R = tup3 (.int k) (.bool true) (.int 0)) := fun h' => by
      have := Enough_pure l n (plnL l n k)
      rwa [enV_plan h (by omega) h'] at this
    generalize leL l n = n1 at *
    ((conv => whnf); repeat (refine stepK_in ?_; (repeat (first | refine seqQ_n ?_ | refine blockQ_n ?_ | refine awp_skip ?_ | refine awp_seq ?_ | refine awp_block ?_)); (conv => whnf)))
    refine APure.to c1 ?_
    ((conv => whnf); repeat (refine stepK_in ?_; (repeat (first | refine seqQ_n ?_ | refine blockQ_n ?_ | refine awp_skip ?_ | refine awp_seq ?_ | refine awp_block ?_)); (conv => whnf)))
    refine ⟨inr (by omega), ?_⟩
    ((conv => whnf); repeat (refine stepK_in ?_; (repeat (first | refine seqQ_n ?_ | refine blockQ_n ?_ | refine awp_skip ?_ | refine awp_seq ?_ | refine awp_block ?_)); (conv => whnf)))
    refine ⟨by decide, ?_⟩
    rw [hk]
    ((conv => whnf); repeat (refine stepK_in ?_; (repeat (first | refine seqQ_n ?_ | refine blockQ_n ?_ | refine awp_skip ?_ | refine awp_seq ?_ | refine awp_block ?_)); (conv => whnf)))
    refine APure.to c2 ?_
    by_cases h2 : okT l n k = true
    · rw [if_pos h2]
      have hge : (k : Int) ≥ n1 := hok.1 h2
      ((conv => whnf); repeat (refine stepK_in ?_; (repeat (first | refine seqQ_n ?_ | refine blockQ_n ?_ | refine awp_skip ?_ | refine awp_seq ?_ | refine awp_block ?_)); (conv => whnf)))
      rw [decide_eq_true hge]
      ((conv => whnf); repeat (refine stepK_in ?_; (repeat (first | refine seqQ_n ?_ | refine blockQ_n ?_ | refine awp_skip ?_ | refine awp_seq ?_ | refine awp_block ?_)); (conv => whnf)))
      refine APure.to (hE h2) ?_
      ((conv => whnf); repeat (refine stepK_in ?_; (repeat (first | refine seqQ_n ?_ | refine blockQ_n ?_ | refine awp_skip ?_ | refine awp_seq ?_ | refine awp_block ?_)); (conv => whnf)))
      refine br_ne (fun h => absurd rfl h) (fun _ => ?_)
      ((conv => whnf); repeat (refine stepK_in ?_; (repeat (first | refine seqQ_n ?_ | refine blockQ_n ?_ | refine awp_skip ?_ | refine awp_seq ?_ | refine awp_block ?_)); (conv => whnf)))
      refine ⟨(show (8 : Int) * (l.length : Int) ≤ 140737488355328 by omega), ?_⟩
      ((conv => whnf); repeat (refine stepK_in ?_; (repeat (first | refine seqQ_n ?_ | refine blockQ_n ?_ | refine awp_skip ?_ | refine awp_seq ?_ | refine awp_block ?_)); (conv => whnf)))
      refine ⟨inr (by omega), ?_⟩
      ((conv => whnf); repeat (refine stepK_in ?_; (repeat (first | refine seqQ_n ?_ | refine blockQ_n ?_ | refine awp_skip ?_ | refine awp_seq ?_ | refine awp_block ?_)); (conv => whnf)))
      refine ⟨(show (l.length : Int) ≠ 0 by omega), ?_⟩
      rw [hi]
      ((conv => whnf); repeat (refine stepK_in ?_; (repeat (first | refine seqQ_n ?_ | refine blockQ_n ?_ | refine awp_skip ?_ | refine awp_seq ?_ | refine awp_block ?_)); (conv => whnf)))
      repeat ((first | refine ⟨by omega, ?_⟩ | refine ⟨inr (by omega), ?_⟩ | refine eqn_self ?_ | refine ldk (by omega) ?_ | refine ⟨(show (i : Int) < (l.length : Int) by omega), ?_⟩ | refine ⟨inr (show -9223372036854775808 ≤ l.getD (0 + (i : Int).toNat) 0 + more ∧ l.getD (0 + (i : Int).toNat) 0 + more ≤ 9223372036854775807 by rw [Int.toNat_natCast, Nat.zero_add]; omega), ?_⟩); ((conv => whnf); repeat (refine stepK_in ?_; (repeat (first | refine seqQ_n ?_ | refine blockQ_n ?_ | refine awp_skip ?_ | refine awp_seq ?_ | refine awp_block ?_)); (conv => whnf))))
      refine APure.to c3' ?_
      ((conv => whnf); repeat (refine stepK_in ?_; (repeat (first | refine seqQ_n ?_ | refine blockQ_n ?_ | refine awp_skip ?_ | refine awp_seq ?_ | refine awp_block ?_)); (conv => whnf)))
      refine AW_draw (X := cx 156) (cx_ok 156) mixed (by kernel_rfl) ?_
      ((conv => whnf); repeat (refine stepK_in ?_; (repeat (first | refine seqQ_n ?_ | refine blockQ_n ?_ | refine awp_skip ?_ | refine awp_seq ?_ | refine awp_block ?_)); (conv => whnf)))
      refine br_dec (fun h => absurd (show (m1 : Int) < n1 from h) (by omega)) (fun _ => ?_)
      ((conv => whnf); repeat (refine stepK_in ?_; (repeat (first | refine seqQ_n ?_ | refine blockQ_n ?_ | refine awp_skip ?_ | refine awp_seq ?_ | refine awp_block ?_)); (conv => whnf)))
      repeat ((first | refine ⟨by omega, ?_⟩ | refine ⟨inr (by omega), ?_⟩ | refine eqn_self ?_ | refine ldk (by omega) ?_ | refine ⟨(show (i : Int) < (l.length : Int) by omega), ?_⟩ | refine ⟨inr (show -9223372036854775808 ≤ (n1 : Int) + (l.set (0 + (i : Int).toNat) (minI 50 (l.getD (0 + (i : Int).toNat) 0 + more))).getD (0 + (i : Int).toNat) 0 ∧ (n1 : Int) + (l.set (0 + (i : Int).toNat) (minI 50 (l.getD (0 + (i : Int).toNat) 0 + more))).getD (0 + (i : Int).toNat) 0 ≤ 9223372036854775807 by rw [hGi]; omega), ?_⟩ | refine ⟨inr (show -9223372036854775808 ≤ (n1 : Int) + (l.set (0 + (i : Int).toNat) (minI 50 (l.getD (0 + (i : Int).toNat) 0 + more))).getD (0 + (i : Int).toNat) 0 - l.getD (i : Int).toNat 0 ∧ (n1 : Int) + (l.set (0 + (i : Int).toNat) (minI 50 (l.getD (0 + (i : Int).toNat) 0 + more))).getD (0 + (i : Int).toNat) 0 - l.getD (i : Int).toNat 0 ≤ 9223372036854775807 by rw [hGi, Int.toNat_natCast]; omega), ?_⟩); ((conv => whnf); repeat (refine stepK_in ?_; (repeat (first | refine seqQ_n ?_ | refine blockQ_n ?_ | refine awp_skip ?_ | refine awp_seq ?_ | refine awp_block ?_)); (conv => whnf))))
      refine br_dec (fun h => ?_) (fun _ => ?_)
      · have h : (m1 : Int) > (n1 : Int) + (l.set (0 + (i : Int).toNat) (minI 50 (l.getD (0 + (i : Int).toNat) 0 + more))).getD (0 + (i : Int).toNat) 0 - l.getD (i : Int).toNat 0 := h
        rw [hGi, Int.toNat_natCast] at h
        omega
      ((conv => whnf); repeat (refine stepK_in ?_; (repeat (first | refine seqQ_n ?_ | refine blockQ_n ?_ | refine awp_skip ?_ | refine awp_seq ?_ | refine awp_block ?_)); (conv => whnf)))
      refine br_eq (fun h => ?_) (fun h => ?_)
      · ((conv => whnf); repeat (refine stepK_in ?_; (repeat (first | refine seqQ_n ?_ | refine blockQ_n ?_ | refine awp_skip ?_ | refine awp_seq ?_ | refine awp_block ?_)); (conv => whnf)))
        refine APure.to fin ?_
        ((conv => whnf); repeat (refine stepK_in ?_; (repeat (first | refine seqQ_n ?_ | refine blockQ_n ?_ | refine awp_skip ?_ | refine awp_seq ?_ | refine awp_block ?_)); (conv => whnf)))
        exact ⟨trivial, rfl⟩
      · have hnl : n < l.length := by omega
        ((conv => whnf); repeat (refine stepK_in ?_; (repeat (first | refine seqQ_n ?_ | refine blockQ_n ?_ | refine awp_skip ?_ | refine awp_seq ?_ | refine awp_block ?_)); (conv => whnf)))
        refine ⟨inr (by omega), ?_⟩
        ((conv => whnf); repeat (refine stepK_in ?_; (repeat (first | refine seqQ_n ?_ | refine blockQ_n ?_ | refine awp_skip ?_ | refine awp_seq ?_ | refine awp_block ?_)); (conv => whnf)))
        refine APure.to (c4 hnl) ?_
        ((conv => whnf); repeat (refine stepK_in ?_; (repeat (first | refine seqQ_n ?_ | refine blockQ_n ?_ | refine awp_skip ?_ | refine awp_seq ?_ | refine awp_block ?_)); (conv => whnf)))
        refine br_dec (fun _ => ?_) (fun h => absurd (show (leL l ((n : Int) + 1) : Int) ≤ n1 by have := c4b hnl; omega) h)
        ((conv => whnf); repeat (refine stepK_in ?_; (repeat (first | refine seqQ_n ?_ | refine blockQ_n ?_ | refine awp_skip ?_ | refine awp_seq ?_ | refine awp_block ?_)); (conv => whnf)))
        refine APure.to fin ?_
        ((conv => whnf); repeat (refine stepK_in ?_; (repeat (first | refine seqQ_n ?_ | refine blockQ_n ?_ | refine awp_skip ?_ | refine awp_seq ?_ | refine awp_block ?_)); (conv => whnf)))
        exact ⟨trivial, rfl⟩
    · rw [if_neg h2]
      have hge : ¬ (k : Int) ≥ n1 := fun h' => h2 (hok.2 h')
      ((conv => whnf); repeat (refine stepK_in ?_; (repeat (first | refine seqQ_n ?_ | refine blockQ_n ?_ | refine awp_skip ?_ | refine awp_seq ?_ | refine awp_block ?_)); (conv => whnf)))
      rw [decide_eq_false hge]
      ((conv => whnf); repeat (refine stepK_in ?_; (repeat (first | refine seqQ_n ?_ | refine blockQ_n ?_ | refine awp_skip ?_ | refine awp_seq ?_ | refine awp_block ?_)); (conv => whnf)))
      refine ⟨(show (8 : Int) * (l.length : Int) ≤ 140737488355328 by omega), ?_⟩
      ((conv => whnf); repeat (refine stepK_in ?_; (repeat (first | refine seqQ_n ?_ | refine blockQ_n ?_ | refine awp_skip ?_ | refine awp_seq ?_ | refine awp_block ?_)); (conv => whnf)))
      refine ⟨inr (by omega), ?_⟩
      ((conv => whnf); repeat (refine stepK_in ?_; (repeat (first | refine seqQ_n ?_ | refine blockQ_n ?_ | refine awp_skip ?_ | refine awp_seq ?_ | refine awp_block ?_)); (conv => whnf)))
      refine ⟨(show (l.length : Int) ≠ 0 by omega), ?_⟩
      rw [hi]
      ((conv => whnf); repeat (refine stepK_in ?_; (repeat (first | refine seqQ_n ?_ | refine blockQ_n ?_ | refine awp_skip ?_ | refine awp_seq ?_ | refine awp_block ?_)); (conv => whnf)))
      repeat ((first | refine ⟨by omega, ?_⟩ | refine ⟨inr (by omega), ?_⟩ | refine eqn_self ?_ | refine ldk (by omega) ?_ | refine ⟨(show (i : Int) < (l.length : Int) by omega), ?_⟩ | refine ⟨inr (show -9223372036854775808 ≤ l.getD (0 + (i : Int).toNat) 0 + more ∧ l.getD (0 + (i : Int).toNat) 0 + more ≤ 9223372036854775807 by rw [Int.toNat_natCast, Nat.zero_add]; omega), ?_⟩); ((conv => whnf); repeat (refine stepK_in ?_; (repeat (first | refine seqQ_n ?_ | refine blockQ_n ?_ | refine awp_skip ?_ | refine awp_seq ?_ | refine awp_block ?_)); (conv => whnf))))
      refine APure.to c3' ?_
      ((conv => whnf); repeat (refine stepK_in ?_; (repeat (first | refine seqQ_n ?_ | refine blockQ_n ?_ | refine awp_skip ?_ | refine awp_seq ?_ | refine awp_block ?_)); (conv => whnf)))
      refine AW_draw (X := cx 156) (cx_ok 156) mixed (by kernel_rfl) ?_
      ((conv => whnf); repeat (refine stepK_in ?_; (repeat (first | refine seqQ_n ?_ | refine blockQ_n ?_ | refine awp_skip ?_ | refine awp_seq ?_ | refine awp_block ?_)); (conv => whnf)))
      refine br_dec (fun h => absurd (show (m1 : Int) < n1 from h) (by omega)) (fun _ => ?_)
      ((conv => whnf); repeat (refine stepK_in ?_; (repeat (first | refine seqQ_n ?_ | refine blockQ_n ?_ | refine awp_skip ?_ | refine awp_seq ?_ | refine awp_block ?_)); (conv => whnf)))
      repeat ((first | refine ⟨by omega, ?_⟩ | refine ⟨inr (by omega), ?_⟩ | refine eqn_self ?_ | refine ldk (by omega) ?_ | refine ⟨(show (i : Int) < (l.length : Int) by omega), ?_⟩ | refine ⟨inr (show -9223372036854775808 ≤ (n1 : Int) + (l.set (0 + (i : Int).toNat) (minI 50 (l.getD (0 + (i : Int).toNat) 0 + more))).getD (0 + (i : Int).toNat) 0 ∧ (n1 : Int) + (l.set (0 + (i : Int).toNat) (minI 50 (l.getD (0 + (i : Int).toNat) 0 + more))).getD (0 + (i : Int).toNat) 0 ≤ 9223372036854775807 by rw [hGi]; omega), ?_⟩ | refine ⟨inr (show -9223372036854775808 ≤ (n1 : Int) + (l.set (0 + (i : Int).toNat) (minI 50 (l.getD (0 + (i : Int).toNat) 0 + more))).getD (0 + (i : Int).toNat) 0 - l.getD (i : Int).toNat 0 ∧ (n1 : Int) + (l.set (0 + (i : Int).toNat) (minI 50 (l.getD (0 + (i : Int).toNat) 0 + more))).getD (0 + (i : Int).toNat) 0 - l.getD (i : Int).toNat 0 ≤ 9223372036854775807 by rw [hGi, Int.toNat_natCast]; omega), ?_⟩); ((conv => whnf); repeat (refine stepK_in ?_; (repeat (first | refine seqQ_n ?_ | refine blockQ_n ?_ | refine awp_skip ?_ | refine awp_seq ?_ | refine awp_block ?_)); (conv => whnf))))
      refine br_dec (fun h => ?_) (fun _ => ?_)
      · have h : (m1 : Int) > (n1 : Int) + (l.set (0 + (i : Int).toNat) (minI 50 (l.getD (0 + (i : Int).toNat) 0 + more))).getD (0 + (i : Int).toNat) 0 - l.getD (i : Int).toNat 0 := h
        rw [hGi, Int.toNat_natCast] at h
        omega
      ((conv => whnf); repeat (refine stepK_in ?_; (repeat (first | refine seqQ_n ?_ | refine blockQ_n ?_ | refine awp_skip ?_ | refine awp_seq ?_ | refine awp_block ?_)); (conv => whnf)))
      refine br_eq (fun h => ?_) (fun h => ?_)
      · ((conv => whnf); repeat (refine stepK_in ?_; (repeat (first | refine seqQ_n ?_ | refine blockQ_n ?_ | refine awp_skip ?_ | refine awp_seq ?_ | refine awp_block ?_)); (conv => whnf)))
        refine APure.to fin ?_
        ((conv => whnf); repeat (refine stepK_in ?_; (repeat (first | refine seqQ_n ?_ | refine blockQ_n ?_ | refine awp_skip ?_ | refine awp_seq ?_ | refine awp_block ?_)); (conv => whnf)))
        exact ⟨trivial, rfl⟩
      · have hnl : n < l.length := by omega
        ((conv => whnf); repeat (refine stepK_in ?_; (repeat (first | refine seqQ_n ?_ | refine blockQ_n ?_ | refine awp_skip ?_ | refine awp_seq ?_ | refine awp_block ?_)); (conv => whnf)))
        refine ⟨inr (by omega), ?_⟩
        ((conv => whnf); repeat (refine stepK_in ?_; (repeat (first | refine seqQ_n ?_ | refine blockQ_n ?_ | refine awp_skip ?_ | refine awp_seq ?_ | refine awp_block ?_)); (conv => whnf)))
        refine APure.to (c4 hnl) ?_
        ((conv => whnf); repeat (refine stepK_in ?_; (repeat (first | refine seqQ_n ?_ | refine blockQ_n ?_ | refine awp_skip ?_ | refine awp_seq ?_ | refine awp_block ?_)); (conv => whnf)))
        refine br_dec (fun _ => ?_) (fun h => absurd (show (leL l ((n : Int) + 1) : Int) ≤ n1 by have := c4b hnl; omega) h)
        ((conv => whnf); repeat (refine stepK_in ?_; (repeat (first | refine seqQ_n ?_ | refine blockQ_n ?_ | refine awp_skip ?_ | refine awp_seq ?_ | refine awp_block ?_)); (conv => whnf)))
        refine APure.to fin ?_
        ((conv => whnf); repeat (refine stepK_in ?_; (repeat (first | refine seqQ_n ?_ | refine blockQ_n ?_ | refine awp_skip ?_ | refine awp_seq ?_ | refine awp_block ?_)); (conv => whnf)))
        exact ⟨trivial, rfl⟩
  · rw [few41 h40]
    ((conv => whnf); repeat (refine stepK_in ?_; (repeat (first | refine seqQ_n ?_ | refine blockQ_n ?_ | refine awp_skip ?_ | refine awp_seq ?_ | refine awp_block ?_)); (conv => whnf)))
    refine APure.to fin ?_
    ((conv => whnf); repeat (refine stepK_in ?_; (repeat (first | refine seqQ_n ?_ | refine blockQ_n ?_ | refine awp_skip ?_ | refine awp_seq ?_ | refine awp_block ?_)); (conv => whnf)))
    exact ⟨trivial, rfl⟩
end Go.Tri
