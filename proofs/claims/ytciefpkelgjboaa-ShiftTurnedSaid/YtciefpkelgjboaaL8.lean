/-
  LAW: ShiftTurned.
-/
import Derived.Test.YtciefpkelgjboaaM6
namespace Go.Tri
open Go.Proofs

theorem wf_i64 {p : Int} (h : (Lit.int .i64 p).wf = true) : -9223372036854775808 ≤ p ∧ p ≤ 9223372036854775807 := by
  simp only [Lit.wf, Bool.and_eq_true, decide_eq_true_eq] at h
  exact h
theorem same_self (a : List Int) : APure Try.prog 21 [.ints false a, .ints false a] (fun R => R = .bool true) := by
  have := same_pure a a
  rwa [decide_eq_true (rfl : a = a)] at this
def OutM (L : List Int) (k : Nat) (o : V) (M : Mem) : Prop := (k = 0 ∧ o = .emp true ∧ M = []) ∨ (1 ≤ k ∧ ∃ ver, o = .sl 1 ver 0 k ∧ M = [none, some ⟨3, 1, ver, .il (L.take k)⟩])
theorem tuV_ok {l : List Int} {b : Int} (h : Nds l) : tuV l b = tup2 (.ints true (tuL l b)) (.int 0) := by unfold tuV; rw [if_pos (ndsE_ok h)]
theorem tuL_len {l : List Int} {b : Int} (h : 1 ≤ l.length) : (tuL l b).length = l.length := (tuL_rot h b).1
set_option maxRecDepth 100000 in
theorem ShiftTurned_pure (l : List Int) (long b : Int) (hb : -9223372036854775808 ≤ b ∧ b ≤ 9223372036854775807) : APure Try.prog 12 [.ints false l, .int long, .int b] (fun R => R = .bool true) := by
  refine APure_of (X := cx 160) (cx_ok 160) rfl (rs := [(.tmp 6, 4)]) Try.func12 (by decide) rfl rfl rfl (by simp [cx]) (by simp [NoFr]) ?_
  intro hlen
  have fin := alive_pure
  have hfew := few_pure l []
  ((conv => whnf); repeat (refine stepK_in ?_; (repeat (first | refine seqQ_n ?_ | refine blockQ_n ?_ | refine awp_skip ?_ | refine awp_seq ?_ | refine awp_block ?_)); (conv => whnf)))
  refine APure.to hfew ?_
  by_cases h40 : l.length ≤ 40
  · rw [few40 h40]
    ((conv => whnf); repeat (refine stepK_in ?_; (repeat (first | refine seqQ_n ?_ | refine blockQ_n ?_ | refine awp_skip ?_ | refine awp_seq ?_ | refine awp_block ?_)); (conv => whnf)))
    refine APure.to (refDay_pure l long) ?_
    ((conv => whnf); repeat (refine stepK_in ?_; (repeat (first | refine seqQ_n ?_ | refine blockQ_n ?_ | refine awp_skip ?_ | refine awp_seq ?_ | refine awp_block ?_)); (conv => whnf)))
    refine br_ne (fun h => ?_) (fun h => ?_)
    · ((conv => whnf); repeat (refine stepK_in ?_; (repeat (first | refine seqQ_n ?_ | refine blockQ_n ?_ | refine awp_skip ?_ | refine awp_seq ?_ | refine awp_block ?_)); (conv => whnf)))
      refine APure.to fin ?_
      ((conv => whnf); repeat (refine stepK_in ?_; (repeat (first | refine seqQ_n ?_ | refine blockQ_n ?_ | refine awp_skip ?_ | refine awp_seq ?_ | refine awp_block ?_)); (conv => whnf)))
      exact ⟨trivial, rfl⟩
    obtain ⟨hn, hl1, hl2⟩ := dayE_inv h
    have n12 := hn.2.1
    have n11 := hn.1
    have c1 := Turned_pure l b hb
    rw [tuV_ok hn] at c1
    have c2 := Turned_pure l l.length (by omega)
    rw [tuV_ok hn, tuL_all n11] at c2
    have htl := tuL_len (b := b) n11
    have ro := tuL_rot n11 b
    have i1 := rot_img ro n11
    have i2 := rot_img (rot_back n11 ro) (by rw [htl]; exact n11)
    have re := revL_rev l
    have j1 := rev_img re n11
    have j2 := rev_img (rev_back re) (by rw [List.length_reverse]; exact n11)
    have d1 := Least_pure l long
    have d2 := Least_pure (tuL l b) long
    have d3 := Least_pure l.reverse long
    have s1 := Share_pure l long
    have s2 := Share_pure (tuL l b) long
    have s3 := Share_pure l.reverse long
    rw [img_leV h i1 i2] at d2
    rw [img_leV h j1 j2] at d3
    rw [img_shV h i1 i2] at s2
    rw [img_shV h j1 j2] at s3
    obtain ⟨x, y, hv, his, hx0, hx1, hy0, hy1⟩ := shOk h
    rw [hv] at s1 s2 s3
    rw [leV_ok h] at d1 d2 d3
    generalize leL l long = n1 at *
    generalize tuL l b = t at *
    have hrl : l.reverse.length = l.length := List.length_reverse
    have hrg : ∀ k, k < l.length → l.reverse.getD k 0 = l.getD (l.length - 1 - k) 0 := re.2
    generalize l.reverse = r at *
    ((conv => whnf); repeat (refine stepK_in ?_; (repeat (first | refine seqQ_n ?_ | refine blockQ_n ?_ | refine awp_skip ?_ | refine awp_seq ?_ | refine awp_block ?_)); (conv => whnf)))
    refine APure.to c1 ?_
    ((conv => whnf); repeat (refine stepK_in ?_; (repeat (first | refine seqQ_n ?_ | refine blockQ_n ?_ | refine awp_skip ?_ | refine awp_seq ?_ | refine awp_block ?_)); (conv => whnf)))
    refine APure.to c2 ?_
    ((conv => whnf); repeat (refine stepK_in ?_; (repeat (first | refine seqQ_n ?_ | refine blockQ_n ?_ | refine awp_skip ?_ | refine awp_seq ?_ | refine awp_block ?_)); (conv => whnf)))
    refine br_ne (fun h => absurd (by rw [htl]) h) (fun _ => ?_)
    ((conv => whnf); repeat (refine stepK_in ?_; (repeat (first | refine seqQ_n ?_ | refine blockQ_n ?_ | refine awp_skip ?_ | refine awp_seq ?_ | refine awp_block ?_)); (conv => whnf)))
    refine APure.to (same_self l) ?_
    ((conv => whnf); repeat (refine stepK_in ?_; (repeat (first | refine seqQ_n ?_ | refine blockQ_n ?_ | refine awp_skip ?_ | refine awp_seq ?_ | refine awp_block ?_)); (conv => whnf)))
    refine ⟨inr (by omega), ?_⟩
    ((conv => whnf); repeat (refine stepK_in ?_; (repeat (first | refine seqQ_n ?_ | refine blockQ_n ?_ | refine awp_skip ?_ | refine awp_seq ?_ | refine awp_block ?_)); (conv => whnf)))
    refine AW_loopA (X := cx 160) (cx_ok 160) [0, 1, 7, 8, 9, 10, 11, 12] (fun t => Nat.beq t 1) (fun vs M => ∃ (k : Nat) (o : V), k ≤ l.length ∧ OutM r k o M ∧ vs = [.ints false l, .int long, .ints true t, .int 0, .ints true l, .int 0, o, .int ((l.length : Int) - 1 - k)])
      (fun vs _ => ((vs.getD 7 .any).toInt + 1).toNat) (fun t ht => absurd ht (by simp)) ?_ ?_
    · exact same0 ⟨0, .emp true, Nat.zero_le _, .inl ⟨rfl, rfl, rfl⟩, Eq.trans rfl (congrArg (fun z => [V.ints false l, .int long, .ints true t, .int 0, .ints true l, .int 0, .emp true, .int z]) (show (l.length : Int) - 1 = (l.length : Int) - 1 - ((0 : Nat) : Int) by omega))⟩
    rintro vs M ⟨k, o, hk, hO, rfl⟩
    ((conv => whnf); repeat (refine stepK_in ?_; (repeat (first | refine seqQ_n ?_ | refine blockQ_n ?_ | refine awp_skip ?_ | refine awp_seq ?_ | refine awp_block ?_)); (conv => whnf)))
    refine br_dec (fun hge => ?_) (fun hlt => ?_)
    · have hk' : k < l.length := by omega
      have hi : ((l.length : Int) - 1 - k).toNat = l.length - 1 - k := by omega
      have hx : l.getD ((l.length : Int) - 1 - k).toNat 0 = r.getD k 0 := by rw [hi]; exact (hrg k hk').symm
      have hmt : r.take (k + 1) = r.take k ++ [r.getD k 0] := take_succ_getD _ _ (by rw [hrl]; exact hk')
      have hml : (r.take k).length = k := by rw [List.length_take, hrl]; omega
      rcases hO with ⟨rfl, rfl, rfl⟩ | ⟨hk1, ver, rfl, rfl⟩
      · ((conv => whnf); repeat (refine stepK_in ?_; (repeat (first | refine seqQ_n ?_ | refine blockQ_n ?_ | refine awp_skip ?_ | refine awp_seq ?_ | refine awp_block ?_)); (conv => whnf)))
        repeat ((first | refine ⟨by omega, ?_⟩ | refine ⟨inr (by omega), ?_⟩); ((conv => whnf); repeat (refine stepK_in ?_; (repeat (first | refine seqQ_n ?_ | refine blockQ_n ?_ | refine awp_skip ?_ | refine awp_seq ?_ | refine awp_block ?_)); (conv => whnf))))
        rw [hx]
        ((conv => whnf); repeat (refine stepK_in ?_; (repeat (first | refine seqQ_n ?_ | refine blockQ_n ?_ | refine awp_skip ?_ | refine awp_seq ?_ | refine awp_block ?_)); (conv => whnf)))
        repeat ((first | refine ⟨by omega, ?_⟩ | refine ⟨inr (by omega), ?_⟩ | refine eqn_self ?_ | refine ⟨ms (by omega), ?_⟩ | refine ⟨ms (by simp only [Src.n]; omega), ?_⟩ | refine ⟨msk (by omega), ?_⟩ | refine ⟨ms1, ?_⟩); ((conv => whnf); repeat (refine stepK_in ?_; (repeat (first | refine seqQ_n ?_ | refine blockQ_n ?_ | refine awp_skip ?_ | refine awp_seq ?_ | refine awp_block ?_)); (conv => whnf))))
        refine ⟨by repeat (first | exact trivial | exact rfl | exact fun _ => trivial | exact fun _ _ => trivial | exact fun _ _ _ => trivial | exact fun _ _ _ _ => trivial | refine And.intro ?_ ?_), memA1 [none, some ⟨3, 1, 0, .il (r.take 1)⟩] ⟨ObSub.ii (by rw [hmt]; rfl), trivial⟩ ⟨⟨1, _, by omega, .inr ⟨Nat.le_refl _, 0, rfl, rfl⟩, Eq.trans rfl (congrArg (fun z => [V.ints false l, .int long, .ints true t, .int 0, .ints true l, .int 0, _, .int z]) (show (l.length : Int) - 1 - ((0 : Nat) : Int) - 1 = (l.length : Int) - 1 - ((1 : Nat) : Int) by omega))⟩, ?_⟩⟩
        simp [V.toInt, sel, Env.get]; omega
      · ((conv => whnf); repeat (refine stepK_in ?_; (repeat (first | refine seqQ_n ?_ | refine blockQ_n ?_ | refine awp_skip ?_ | refine awp_seq ?_ | refine awp_block ?_)); (conv => whnf)))
        repeat ((first | refine ⟨by omega, ?_⟩ | refine ⟨inr (by omega), ?_⟩); ((conv => whnf); repeat (refine stepK_in ?_; (repeat (first | refine seqQ_n ?_ | refine blockQ_n ?_ | refine awp_skip ?_ | refine awp_seq ?_ | refine awp_block ?_)); (conv => whnf))))
        rw [hx]
        ((conv => whnf); repeat (refine stepK_in ?_; (repeat (first | refine seqQ_n ?_ | refine blockQ_n ?_ | refine awp_skip ?_ | refine awp_seq ?_ | refine awp_block ?_)); (conv => whnf)))
        repeat ((first | refine ⟨by omega, ?_⟩ | refine ⟨inr (by omega), ?_⟩ | refine eqn_self ?_ | refine ⟨ms (by omega), ?_⟩ | refine ⟨ms (by simp only [Src.n]; omega), ?_⟩ | refine ⟨msk (by omega), ?_⟩ | refine ⟨ms1, ?_⟩); ((conv => whnf); repeat (refine stepK_in ?_; (repeat (first | refine seqQ_n ?_ | refine blockQ_n ?_ | refine awp_skip ?_ | refine awp_seq ?_ | refine awp_block ?_)); (conv => whnf))))
        refine ⟨by repeat (first | exact trivial | exact rfl | exact fun _ => trivial | exact fun _ _ => trivial | exact fun _ _ _ => trivial | exact fun _ _ _ _ => trivial | refine And.intro ?_ ?_), memA1 [none, some ⟨3, 1, ver + 1, .il (r.take (k + 1))⟩] ⟨ObSub.ii (by rw [hmt, List.take_of_length_le (by omega)]; rfl), trivial⟩ ⟨⟨k + 1, _, by omega, .inr ⟨by omega, ver + 1, rfl, rfl⟩, Eq.trans rfl (congrArg (fun z => [V.ints false l, .int long, .ints true t, .int 0, .ints true l, .int 0, _, .int z]) (show (l.length : Int) - 1 - (k : Int) - 1 = (l.length : Int) - 1 - ((k + 1 : Nat) : Int) by omega))⟩, ?_⟩⟩
        simp [V.toInt, sel, Env.get]; omega
    · obtain rfl : k = l.length := by omega
      rcases hO with ⟨h0, _, _⟩ | ⟨hk1, ver, rfl, rfl⟩
      · omega
      rw [List.take_of_length_le (by omega)]
      have er : (r.drop 0).take l.length = r := by rw [List.drop_zero, List.take_of_length_le (by omega)]
      have d3 : APure Try.prog 22 [.ints false ((r.drop 0).take l.length), .int long] (fun R => R = tup2 (.int n1) (.int 0)) := by rw [er]; exact d3
      have s3 : APure Try.prog 24 [.ints false ((r.drop 0).take l.length), .int long] (fun R => R = tup2 (ratV x y) (.int 0)) := by rw [er]; exact s3
      ((conv => whnf); repeat (refine stepK_in ?_; (repeat (first | refine seqQ_n ?_ | refine blockQ_n ?_ | refine awp_skip ?_ | refine awp_seq ?_ | refine awp_block ?_)); (conv => whnf)))
      refine APure.to d1 ?_
      ((conv => whnf); repeat (refine stepK_in ?_; (repeat (first | refine seqQ_n ?_ | refine blockQ_n ?_ | refine awp_skip ?_ | refine awp_seq ?_ | refine awp_block ?_)); (conv => whnf)))
      refine APure.to d2 ?_
      ((conv => whnf); repeat (refine stepK_in ?_; (repeat (first | refine seqQ_n ?_ | refine blockQ_n ?_ | refine awp_skip ?_ | refine awp_seq ?_ | refine awp_block ?_)); (conv => whnf)))
      refine eqn_self ?_
      ((conv => whnf); repeat (refine stepK_in ?_; (repeat (first | refine seqQ_n ?_ | refine blockQ_n ?_ | refine awp_skip ?_ | refine awp_seq ?_ | refine awp_block ?_)); (conv => whnf)))
      refine APure.to d3 ?_
      ((conv => whnf); repeat (refine stepK_in ?_; (repeat (first | refine seqQ_n ?_ | refine blockQ_n ?_ | refine awp_skip ?_ | refine awp_seq ?_ | refine awp_block ?_)); (conv => whnf)))
      refine APure.to s1 ?_
      ((conv => whnf); repeat (refine stepK_in ?_; (repeat (first | refine seqQ_n ?_ | refine blockQ_n ?_ | refine awp_skip ?_ | refine awp_seq ?_ | refine awp_block ?_)); (conv => whnf)))
      refine APure.to s2 ?_
      ((conv => whnf); repeat (refine stepK_in ?_; (repeat (first | refine seqQ_n ?_ | refine blockQ_n ?_ | refine awp_skip ?_ | refine awp_seq ?_ | refine awp_block ?_)); (conv => whnf)))
      refine eqn_self ?_
      ((conv => whnf); repeat (refine stepK_in ?_; (repeat (first | refine seqQ_n ?_ | refine blockQ_n ?_ | refine awp_skip ?_ | refine awp_seq ?_ | refine awp_block ?_)); (conv => whnf)))
      refine APure.to s3 ?_
      ((conv => whnf); repeat (refine stepK_in ?_; (repeat (first | refine seqQ_n ?_ | refine blockQ_n ?_ | refine awp_skip ?_ | refine awp_seq ?_ | refine awp_block ?_)); (conv => whnf)))
      rw [show ((n1 : Int) == n1) = true by simp]
      ((conv => whnf); repeat (refine stepK_in ?_; (repeat (first | refine seqQ_n ?_ | refine blockQ_n ?_ | refine awp_skip ?_ | refine awp_seq ?_ | refine awp_block ?_)); (conv => whnf)))
      rw [show ((n1 : Int) == n1) = true by simp]
      ((conv => whnf); repeat (refine stepK_in ?_; (repeat (first | refine seqQ_n ?_ | refine blockQ_n ?_ | refine awp_skip ?_ | refine awp_seq ?_ | refine awp_block ?_)); (conv => whnf)))
      rw [show (x == x && (y == y && true)) = true by simp]
      ((conv => whnf); repeat (refine stepK_in ?_; (repeat (first | refine seqQ_n ?_ | refine blockQ_n ?_ | refine awp_skip ?_ | refine awp_seq ?_ | refine awp_block ?_)); (conv => whnf)))
      rw [show (x == x && (y == y && true)) = true by simp]
      ((conv => whnf); repeat (refine stepK_in ?_; (repeat (first | refine seqQ_n ?_ | refine blockQ_n ?_ | refine awp_skip ?_ | refine awp_seq ?_ | refine awp_block ?_)); (conv => whnf)))
      refine APure.to fin ?_
      ((conv => whnf); repeat (refine stepK_in ?_; (repeat (first | refine seqQ_n ?_ | refine blockQ_n ?_ | refine awp_skip ?_ | refine awp_seq ?_ | refine awp_block ?_)); (conv => whnf)))
      exact ⟨trivial, rfl⟩
  · rw [few41 h40]
    ((conv => whnf); repeat (refine stepK_in ?_; (repeat (first | refine seqQ_n ?_ | refine blockQ_n ?_ | refine awp_skip ?_ | refine awp_seq ?_ | refine awp_block ?_)); (conv => whnf)))
    refine APure.to fin ?_
    ((conv => whnf); repeat (refine stepK_in ?_; (repeat (first | refine seqQ_n ?_ | refine blockQ_n ?_ | refine awp_skip ?_ | refine awp_seq ?_ | refine awp_block ?_)); (conv => whnf)))
    exact ⟨trivial, rfl⟩
end Go.Tri
