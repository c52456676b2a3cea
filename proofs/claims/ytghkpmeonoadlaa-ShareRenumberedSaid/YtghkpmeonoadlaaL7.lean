/-
  LAW: ShareRenumbered.
-/
import Derived.Test.YtghkpmeonoadlaaM10
import Derived.Test.YtghkpmeonoadlaaE1
namespace Go.Tri
open Go.Proofs

theorem nofr3T {n : Nat} {W : Nat → List Int} {b c : V} (hb : NoFr b) (hc : NoFr c) : ∀ x ∈ [tabV n W, b, c], NoFr x := by intro x hx; simp at hx; rcases hx with rfl | rfl | rfl; exact nofrT; exact hb; exact hc
@[reducible] def rowF1 (n c : Nat) (W : Nat → List Int) : Nat → Nat → V := fun j _ => .ints false (W ((j + c) % n))
@[reducible] def colF1 (n d : Nat) (W : Nat → List Int) : Nat → Nat → V := fun j _ => .ints true (colN n d W j)
@[reducible] def rOb (n c : Nat) (W : Nat → List Int) (i v : Nat) : Ob := ⟨22, 1, v, .cv i (rowF1 n c W)⟩
@[reducible] def cOb (n d : Nat) (W : Nat → List Int) (i v : Nat) : Ob := ⟨22, 1, v, .cv i (colF1 n d W)⟩
/-- The rows and columns so far. -/
def OutN (n c d : Nat) (W : Nat → List Int) (i : Nat) (o1 o2 : V) (M : Mem) : Prop := (i = 0 ∧ o1 = .emp true ∧ o2 = .emp true ∧ M = []) ∨ (0 < i ∧ ∃ v1 v2, o1 = .sl 1 v1 0 i ∧ o2 = .sl 21 v2 0 i ∧ M = [none, some (rOb n c W i v1), none, none, none, none, none, none, none, none, none, none, none, none, none, none, none, none, none, none, none, some (cOb n d W i v2)])
/-- The column that is being written, beside them. -/
def OutC (p : Mem) (t : Nat) (q : Mem) (l : List Int) (o : V) (R : Mem) : Prop := (l = [] ∧ o = .emp true ∧ R = p) ∨ ∃ ver, o = .sl t ver 0 l.length ∧ R = p ++ q ++ [some ⟨3, 1, ver, .il l⟩]
theorem lsN_succ (n : Nat) (f : Nat → Int) : lsN (n + 1) f = lsN n f ++ [f n] := by simp [lsN, List.range_succ]
open Classical in
set_option maxHeartbeats 1000000 in
set_option maxRecDepth 100000 in
theorem ShareRenumbered_pure (n : Nat) (W : Nat → List Int) (by' other : Int) (hb : 0 ≤ by' ∧ by' ≤ 255) (ho : 0 ≤ other ∧ other ≤ 255) : APure Try.prog 12 [tabV n W, .lit (.int .u8 by'), .lit (.int .u8 other)] (fun R => R = .bool true) := by
  refine APure_of (X := cx 150) (cx_ok 150) rfl (rs := [(.tmp 6, 4)]) Try.func12 (by decide) rfl rfl rfl (by simp [cx]) (nofr3T (show NoFr (.lit (.int .u8 by')) from trivial) (show NoFr (.lit (.int .u8 other)) from trivial)) ?_
  intro hlen
  have fin := alive_pure
  have c0 := refRent_pure n W
  by_cases hW : Wis n W
  · rw [show reV n W = tup2 (.int (sumL (W 0) n)) (.bool true) by unfold reV; rw [if_pos hW]] at c0
    have h1 := hW.1
    have h5 := hW.2.1
    have c1 := small_pure n W
    rw [decide_eq_true (show Sml n W from ⟨by omega, fun i hi => by rw [(hW.2.2 i hi).1]; omega⟩)] at c1
    obtain ⟨c, rfl⟩ : ∃ c : Nat, by' = c := ⟨by'.toNat, by omega⟩
    obtain ⟨d, rfl⟩ : ∃ d : Nat, other = d := ⟨other.toNat, by omega⟩
    ((conv => whnf); repeat (refine stepK_in ?_; (repeat (first | refine seqQ_n ?_ | refine blockQ_n ?_ | refine awp_skip ?_ | refine awp_seq ?_ | refine awp_block ?_)); (conv => whnf)))
    refine APure.to (APure.arg1 subT c0) ?_
    ((conv => whnf); repeat (refine stepK_in ?_; (repeat (first | refine seqQ_n ?_ | refine blockQ_n ?_ | refine awp_skip ?_ | refine awp_seq ?_ | refine awp_block ?_)); (conv => whnf)))
    refine APure.to (APure.arg1 subT c1) ?_
    ((conv => whnf); repeat (refine stepK_in ?_; (repeat (first | refine seqQ_n ?_ | refine blockQ_n ?_ | refine awp_skip ?_ | refine awp_seq ?_ | refine awp_block ?_)); (conv => whnf)))
    refine AW_loopF (X := cx 150) (cx_ok 150) [0, 1, 2, 9, 10, 11, 12] (fun t => Nat.beq t 1 || Nat.beq t 21) (fun vs M => ∃ (i : Nat) (o1 o2 : V), i ≤ n ∧ OutN n c d W i o1 o2 M ∧ vs = [tabV n W, .lit (.int .u8 c), .lit (.int .u8 d), .int n, o1, o2, .int i])
      (fun vs _ => n - (vs.getD 6 .any).toInt.toNat) (fun t ht => absurd ht (by simp)) ?_ ?_
    · exact same0 ⟨0, .emp true, .emp true, Nat.zero_le _, .inl ⟨rfl, rfl, rfl, rfl⟩, rfl⟩
    rintro vs M ⟨i, o1, o2, hi, hO, rfl⟩
    have e1 : Int.tmod ((i : Int) + (c : Int)) (n : Int) = (((i + c) % n : Nat) : Int) := by rw [← Int.natCast_add, ← Int.ofNat_tmod]
    have hic := Nat.mod_lt (i + c) (show 0 < n by omega)
    rcases hO with ⟨h0, rfl, rfl, rfl⟩ | ⟨hi0, v1, v2, rfl, rfl, rfl⟩
    · ((conv => whnf); repeat (refine stepK_in ?_; (repeat (first | refine seqQ_n ?_ | refine blockQ_n ?_ | refine awp_skip ?_ | refine awp_seq ?_ | refine awp_block ?_)); (conv => whnf)))
      refine br_dec (fun hlt => ?_) (fun hge => ?_)
      · ((conv => whnf); repeat (refine stepK_in ?_; (repeat (first | refine seqQ_n ?_ | refine blockQ_n ?_ | refine awp_skip ?_ | refine awp_seq ?_ | refine awp_block ?_)); (conv => whnf)))
        refine ⟨(show InR (c : Int) from inr (by omega)), ?_⟩
        ((conv => whnf); repeat (refine stepK_in ?_; (repeat (first | refine seqQ_n ?_ | refine blockQ_n ?_ | refine awp_skip ?_ | refine awp_seq ?_ | refine awp_block ?_)); (conv => whnf)))
        refine ⟨(show InR ((i : Int) + (c : Int)) from inr (by omega)), ?_⟩
        ((conv => whnf); repeat (refine stepK_in ?_; (repeat (first | refine seqQ_n ?_ | refine blockQ_n ?_ | refine awp_skip ?_ | refine awp_seq ?_ | refine awp_block ?_)); (conv => whnf)))
        refine ⟨(show (n : Int) ≠ 0 by omega), ?_⟩
        rw [e1]
        ((conv => whnf); repeat (refine stepK_in ?_; (repeat (first | refine seqQ_n ?_ | refine blockQ_n ?_ | refine awp_skip ?_ | refine awp_seq ?_ | refine awp_block ?_)); (conv => whnf)))
        refine ⟨(show (0 : Int) ≤ (((i + c) % n : Nat) : Int) by omega), ?_⟩
        refine ⟨(show (((i + c) % n : Nat) : Int) < (n : Int) by omega), ?_⟩
        ((conv => whnf); repeat (refine stepK_in ?_; (repeat (first | refine seqQ_n ?_ | refine blockQ_n ?_ | refine awp_skip ?_ | refine awp_seq ?_ | refine awp_block ?_)); (conv => whnf)))
        refine ⟨(show (24 : Int) * ((1 : Nat) : Int) ≤ 140737488355328 by decide), ?_⟩
        ((conv => whnf); repeat (refine stepK_in ?_; (repeat (first | refine seqQ_n ?_ | refine blockQ_n ?_ | refine awp_skip ?_ | refine awp_seq ?_ | refine awp_block ?_)); (conv => whnf)))
        refine AW_loopA (X := cx 150) (cx_ok 150) [0, 1, 2, 9, 10, 11, 12, 13, 14] (fun t => Nat.ble t 1 || Nat.beq t 19) (fun vs M => ∃ (k : Nat) (o : V), k ≤ n ∧ OutC [some ⟨22, 1, 0, .cv 1 fun _ _ => .ints false (W ((i + c) % n))⟩, some (rOb n c W 1 0)] 19 [none, none, none, none, none, none, none, none, none, none, none, none, none, none, none, none, none] (lsN k fun k => (W i).getD (tau n d k) 0) o M ∧ vs = [tabV n W, .lit (.int .u8 c), .lit (.int .u8 d), .int n, .sl 1 0 0 1, .emp true, .int i, o, .int k])
          (fun vs _ => n - (vs.getD 8 .any).toInt.toNat) (fun t ht => by have : t < 2 := ht; simp; omega) ?_ ?_
        · refine memA0 [some ⟨22, 1, 0, .cv 1 fun _ _ => .ints false (W ((i + c) % n))⟩, some (rOb n c W 1 0)] ⟨ObSub.refl _, ObSub_vv (fun j q hj hq => ?_), trivial⟩ ⟨0, .emp true, Nat.zero_le _, .inl ⟨rfl, rfl, rfl⟩, rfl⟩
          have hj : j < 1 := hj
          obtain rfl : j = 0 := by omega
          exact congrArg (fun z => V.ints false (W ((z + c) % n))) h0
        rintro vs M ⟨k, o, hk, hO, rfl⟩
        have hll := lsN_len k fun k => (W i).getD (tau n d k) 0
        have hls := lsN_succ k fun k => (W i).getD (tau n d k) 0
        generalize hlq : lsN k (fun k => (W i).getD (tau n d k) 0) = l at *
        ((conv => whnf); repeat (refine stepK_in ?_; (repeat (first | refine seqQ_n ?_ | refine blockQ_n ?_ | refine awp_skip ?_ | refine awp_seq ?_ | refine awp_block ?_)); (conv => whnf)))
        refine br_dec (fun hlt2 => ?_) (fun hge2 => ?_)
        · have hk' : k < n := by omega
          have e2 : Int.tmod ((k : Int) * ((n : Int) - 1) + (d : Int)) (n : Int) = ((tau n d k : Nat) : Int) := by
            unfold tau
            rw [Int.ofNat_tmod, Int.natCast_add, Int.natCast_mul, show ((n - 1 : Nat) : Int) = (n : Int) - 1 by omega]
          have hwl := (hW.2.2 i (by omega)).1
          have htl := tau_lt (n := n) (c := d) (k := k) (by omega)
          have mk : 0 ≤ (k : Int) * ((n : Int) - 1) ∧ (k : Int) * ((n : Int) - 1) ≤ 25 := by
            rcases (by omega : n = 1 ∨ n = 2 ∨ n = 3 ∨ n = 4 ∨ n = 5) with h | h | h | h | h <;> rw [h] <;> omega
          rcases hO with ⟨rfl, rfl, rfl⟩ | ⟨ver, rfl, rfl⟩
          · ((conv => whnf); repeat (refine stepK_in ?_; (repeat (first | refine seqQ_n ?_ | refine blockQ_n ?_ | refine awp_skip ?_ | refine awp_seq ?_ | refine awp_block ?_)); (conv => whnf)))
            refine AW_draw (X := cx 150) (cx_ok 150) mixed (by kernel_rfl) ?_
            ((conv => whnf); repeat (refine stepK_in ?_; (repeat (first | refine seqQ_n ?_ | refine blockQ_n ?_ | refine awp_skip ?_ | refine awp_seq ?_ | refine awp_block ?_)); (conv => whnf)))
            repeat ((first | refine ⟨(show (0 : Int) ≤ (i : Int) by omega), ?_⟩ | refine ⟨(show (i : Int) < (n : Int) by omega), ?_⟩); ((conv => whnf); repeat (refine stepK_in ?_; (repeat (first | refine seqQ_n ?_ | refine blockQ_n ?_ | refine awp_skip ?_ | refine awp_seq ?_ | refine awp_block ?_)); (conv => whnf))))
            refine ⟨(show InR ((n : Int) - 1) from inr (by omega)), ?_⟩
            ((conv => whnf); repeat (refine stepK_in ?_; (repeat (first | refine seqQ_n ?_ | refine blockQ_n ?_ | refine awp_skip ?_ | refine awp_seq ?_ | refine awp_block ?_)); (conv => whnf)))
            refine ⟨(show InR ((k : Int) * ((n : Int) - 1)) from inr (by omega)), ?_⟩
            ((conv => whnf); repeat (refine stepK_in ?_; (repeat (first | refine seqQ_n ?_ | refine blockQ_n ?_ | refine awp_skip ?_ | refine awp_seq ?_ | refine awp_block ?_)); (conv => whnf)))
            refine ⟨(show InR (d : Int) from inr (by omega)), ?_⟩
            ((conv => whnf); repeat (refine stepK_in ?_; (repeat (first | refine seqQ_n ?_ | refine blockQ_n ?_ | refine awp_skip ?_ | refine awp_seq ?_ | refine awp_block ?_)); (conv => whnf)))
            refine ⟨(show InR ((k : Int) * ((n : Int) - 1) + (d : Int)) from inr (by omega)), ?_⟩
            ((conv => whnf); repeat (refine stepK_in ?_; (repeat (first | refine seqQ_n ?_ | refine blockQ_n ?_ | refine awp_skip ?_ | refine awp_seq ?_ | refine awp_block ?_)); (conv => whnf)))
            refine ⟨(show (n : Int) ≠ 0 by omega), ?_⟩
            rw [e2]
            ((conv => whnf); repeat (refine stepK_in ?_; (repeat (first | refine seqQ_n ?_ | refine blockQ_n ?_ | refine awp_skip ?_ | refine awp_seq ?_ | refine awp_block ?_)); (conv => whnf)))
            refine ⟨(show (0 : Int) ≤ ((tau n d k : Nat) : Int) by omega), ?_⟩
            refine ⟨(show ((tau n d k : Nat) : Int) < ((W i).length : Int) by omega), ?_⟩
            ((conv => whnf); repeat (refine stepK_in ?_; (repeat (first | refine seqQ_n ?_ | refine blockQ_n ?_ | refine awp_skip ?_ | refine awp_seq ?_ | refine awp_block ?_)); (conv => whnf)))
            refine ⟨ms1, ?_⟩
            ((conv => whnf); repeat (refine stepK_in ?_; (repeat (first | refine seqQ_n ?_ | refine blockQ_n ?_ | refine awp_skip ?_ | refine awp_seq ?_ | refine awp_block ?_)); (conv => whnf)))
            refine ⟨inr (by omega), ?_⟩
            ((conv => whnf); repeat (refine stepK_in ?_; (repeat (first | refine seqQ_n ?_ | refine blockQ_n ?_ | refine awp_skip ?_ | refine awp_seq ?_ | refine awp_block ?_)); (conv => whnf)))
            refine ⟨by repeat (first | exact trivial | exact rfl | exact namedTb | exact fun _ _ => namedTb |  exact fun _ => trivial | exact fun _ _ => trivial | exact fun _ _ _ => trivial | exact fun _ _ _ _ => trivial | refine And.intro ?_ ?_), memA1 [some ⟨22, 1, 0, .cv 1 fun _ _ => .ints false (W ((i + c) % n))⟩, some (rOb n c W 1 0), none, none, none, none, none, none, none, none, none, none, none, none, none, none, none, none, none, some ⟨3, 1, 0, .il (lsN (k + 1) fun k => (W i).getD (tau n d k) 0)⟩] ⟨ObSub.refl _, ObSub.refl _, ObSub.ii (by rw [hls]; rfl), trivial⟩ ⟨⟨k + 1, _, by omega, .inr ⟨0, rfl, rfl⟩, ?_⟩, ?_⟩⟩
            · rw [hls]; rfl
            · simp [V.toInt, sel, Env.get]; omega
          · ((conv => whnf); repeat (refine stepK_in ?_; (repeat (first | refine seqQ_n ?_ | refine blockQ_n ?_ | refine awp_skip ?_ | refine awp_seq ?_ | refine awp_block ?_)); (conv => whnf)))
            refine AW_draw (X := cx 150) (cx_ok 150) mixed (by kernel_rfl) ?_
            ((conv => whnf); repeat (refine stepK_in ?_; (repeat (first | refine seqQ_n ?_ | refine blockQ_n ?_ | refine awp_skip ?_ | refine awp_seq ?_ | refine awp_block ?_)); (conv => whnf)))
            repeat ((first | refine ⟨(show (0 : Int) ≤ (i : Int) by omega), ?_⟩ | refine ⟨(show (i : Int) < (n : Int) by omega), ?_⟩); ((conv => whnf); repeat (refine stepK_in ?_; (repeat (first | refine seqQ_n ?_ | refine blockQ_n ?_ | refine awp_skip ?_ | refine awp_seq ?_ | refine awp_block ?_)); (conv => whnf))))
            refine ⟨(show InR ((n : Int) - 1) from inr (by omega)), ?_⟩
            ((conv => whnf); repeat (refine stepK_in ?_; (repeat (first | refine seqQ_n ?_ | refine blockQ_n ?_ | refine awp_skip ?_ | refine awp_seq ?_ | refine awp_block ?_)); (conv => whnf)))
            refine ⟨(show InR ((k : Int) * ((n : Int) - 1)) from inr (by omega)), ?_⟩
            ((conv => whnf); repeat (refine stepK_in ?_; (repeat (first | refine seqQ_n ?_ | refine blockQ_n ?_ | refine awp_skip ?_ | refine awp_seq ?_ | refine awp_block ?_)); (conv => whnf)))
            refine ⟨(show InR (d : Int) from inr (by omega)), ?_⟩
            ((conv => whnf); repeat (refine stepK_in ?_; (repeat (first | refine seqQ_n ?_ | refine blockQ_n ?_ | refine awp_skip ?_ | refine awp_seq ?_ | refine awp_block ?_)); (conv => whnf)))
            refine ⟨(show InR ((k : Int) * ((n : Int) - 1) + (d : Int)) from inr (by omega)), ?_⟩
            ((conv => whnf); repeat (refine stepK_in ?_; (repeat (first | refine seqQ_n ?_ | refine blockQ_n ?_ | refine awp_skip ?_ | refine awp_seq ?_ | refine awp_block ?_)); (conv => whnf)))
            refine ⟨(show (n : Int) ≠ 0 by omega), ?_⟩
            rw [e2]
            ((conv => whnf); repeat (refine stepK_in ?_; (repeat (first | refine seqQ_n ?_ | refine blockQ_n ?_ | refine awp_skip ?_ | refine awp_seq ?_ | refine awp_block ?_)); (conv => whnf)))
            refine ⟨(show (0 : Int) ≤ ((tau n d k : Nat) : Int) by omega), ?_⟩
            refine ⟨(show ((tau n d k : Nat) : Int) < ((W i).length : Int) by omega), ?_⟩
            ((conv => whnf); repeat (refine stepK_in ?_; (repeat (first | refine seqQ_n ?_ | refine blockQ_n ?_ | refine awp_skip ?_ | refine awp_seq ?_ | refine awp_block ?_)); (conv => whnf)))
            refine eqn_self (x := ver) ?_
            ((conv => whnf); repeat (refine stepK_in ?_; (repeat (first | refine seqQ_n ?_ | refine blockQ_n ?_ | refine awp_skip ?_ | refine awp_seq ?_ | refine awp_block ?_)); (conv => whnf)))
            refine eqn_self (x := 0) ?_
            ((conv => whnf); repeat (refine stepK_in ?_; (repeat (first | refine seqQ_n ?_ | refine blockQ_n ?_ | refine awp_skip ?_ | refine awp_seq ?_ | refine awp_block ?_)); (conv => whnf)))
            refine ⟨msk (by omega), ?_⟩
            ((conv => whnf); repeat (refine stepK_in ?_; (repeat (first | refine seqQ_n ?_ | refine blockQ_n ?_ | refine awp_skip ?_ | refine awp_seq ?_ | refine awp_block ?_)); (conv => whnf)))
            refine ⟨inr (by omega), ?_⟩
            ((conv => whnf); repeat (refine stepK_in ?_; (repeat (first | refine seqQ_n ?_ | refine blockQ_n ?_ | refine awp_skip ?_ | refine awp_seq ?_ | refine awp_block ?_)); (conv => whnf)))
            refine ⟨by repeat (first | exact trivial | exact rfl | exact namedTb | exact fun _ _ => namedTb |  exact fun _ => trivial | exact fun _ _ => trivial | exact fun _ _ _ => trivial | exact fun _ _ _ _ => trivial | refine And.intro ?_ ?_), memA1 [some ⟨22, 1, 0, .cv 1 fun _ _ => .ints false (W ((i + c) % n))⟩, some (rOb n c W 1 0), none, none, none, none, none, none, none, none, none, none, none, none, none, none, none, none, none, some ⟨3, 1, ver + 1, .il (lsN (k + 1) fun k => (W i).getD (tau n d k) 0)⟩] ⟨ObSub.refl _, ObSub.refl _, ObSub.ii (by rw [hls, List.take_length]; rfl), trivial⟩ ⟨⟨k + 1, _, by omega, .inr ⟨ver + 1, rfl, rfl⟩, ?_⟩, ?_⟩⟩
            · rw [hls, List.length_append]; rfl
            · simp [V.toInt, sel, Env.get]; omega
        · obtain rfl : k = n := by omega
          have hcl : colN k d W i = l := hlq
          rcases hO with ⟨hl0, rfl, rfl⟩ | ⟨ver, rfl, rfl⟩
          · rw [hl0] at hll; simp at hll; omega
          · ((conv => whnf); repeat (refine stepK_in ?_; (repeat (first | refine seqQ_n ?_ | refine blockQ_n ?_ | refine awp_skip ?_ | refine awp_seq ?_ | refine awp_block ?_)); (conv => whnf)))
            refine ⟨(show (24 : Int) * ((1 : Nat) : Int) ≤ 140737488355328 by decide), ?_⟩
            ((conv => whnf); repeat (refine stepK_in ?_; (repeat (first | refine seqQ_n ?_ | refine blockQ_n ?_ | refine awp_skip ?_ | refine awp_seq ?_ | refine awp_block ?_)); (conv => whnf)))
            refine ⟨inr (by omega), ?_⟩
            ((conv => whnf); repeat (refine stepK_in ?_; (repeat (first | refine seqQ_n ?_ | refine blockQ_n ?_ | refine awp_skip ?_ | refine awp_seq ?_ | refine awp_block ?_)); (conv => whnf)))
            refine .inl ⟨19, ver, 3, l, _, [some ⟨22, 1, 0, .cv 1 fun _ _ => .ints false (W ((i + c) % k))⟩, some (rOb k c W 1 0), none, none, none, none, none, none, none, none, none, none, none, none, none, none, none, none, none, some ⟨3, 1, ver + 1, .il []⟩, some ⟨22, 1, 0, .cv 1 fun _ _ => .sl 19 ver 0 l.length⟩, some (cOb k d W 1 0)], Nat.zero_le _, rfl, FzL.refl _, ?_, by repeat (first | exact trivial | exact rfl | exact namedTb | exact fun _ _ => namedTb |  exact fun _ => trivial | exact fun _ _ => trivial | exact fun _ _ _ => trivial | exact fun _ _ _ _ => trivial | refine And.intro ?_ ?_), memA1 [none, some (rOb k c W (i + 1) 0), none, none, none, none, none, none, none, none, none, none, none, none, none, none, none, none, none, none, none, some (cOb k d W (i + 1) 0)] ⟨ObSub.of (by rw [h0]), ObSub.of (by rw [h0]), trivial⟩ ⟨⟨i + 1, _, _, by omega, .inr ⟨by omega, 0, 0, rfl, rfl, rfl⟩, ?_⟩, ?_⟩⟩
            · refine ⟨ObFz.refl _, ObFz.refl _, rfl, ObFz.refl _, ObFz.cv (fun j kk hj hk => .inr ⟨?_, ?_⟩), trivial⟩
              · rfl
              · obtain rfl : j = 0 := by omega
                rw [← hcl, h0]
            · rw [h0]; rfl
            · simp [V.toInt, sel, Env.get]; omega
      · exact absurd hge (by simp; omega)
    · ((conv => whnf); repeat (refine stepK_in ?_; (repeat (first | refine seqQ_n ?_ | refine blockQ_n ?_ | refine awp_skip ?_ | refine awp_seq ?_ | refine awp_block ?_)); (conv => whnf)))
      refine br_dec (fun hlt => ?_) (fun hge => ?_)
      · ((conv => whnf); repeat (refine stepK_in ?_; (repeat (first | refine seqQ_n ?_ | refine blockQ_n ?_ | refine awp_skip ?_ | refine awp_seq ?_ | refine awp_block ?_)); (conv => whnf)))
        refine ⟨(show InR (c : Int) from inr (by omega)), ?_⟩
        ((conv => whnf); repeat (refine stepK_in ?_; (repeat (first | refine seqQ_n ?_ | refine blockQ_n ?_ | refine awp_skip ?_ | refine awp_seq ?_ | refine awp_block ?_)); (conv => whnf)))
        refine ⟨(show InR ((i : Int) + (c : Int)) from inr (by omega)), ?_⟩
        ((conv => whnf); repeat (refine stepK_in ?_; (repeat (first | refine seqQ_n ?_ | refine blockQ_n ?_ | refine awp_skip ?_ | refine awp_seq ?_ | refine awp_block ?_)); (conv => whnf)))
        refine ⟨(show (n : Int) ≠ 0 by omega), ?_⟩
        rw [e1]
        ((conv => whnf); repeat (refine stepK_in ?_; (repeat (first | refine seqQ_n ?_ | refine blockQ_n ?_ | refine awp_skip ?_ | refine awp_seq ?_ | refine awp_block ?_)); (conv => whnf)))
        refine ⟨(show (0 : Int) ≤ (((i + c) % n : Nat) : Int) by omega), ?_⟩
        refine ⟨(show (((i + c) % n : Nat) : Int) < (n : Int) by omega), ?_⟩
        ((conv => whnf); repeat (refine stepK_in ?_; (repeat (first | refine seqQ_n ?_ | refine blockQ_n ?_ | refine awp_skip ?_ | refine awp_seq ?_ | refine awp_block ?_)); (conv => whnf)))
        refine eqn_self ?_
        refine ⟨(show (24 : Int) * ((i : Int) + ((1 : Nat) : Int)) ≤ 140737488355328 by omega), ?_⟩
        ((conv => whnf); repeat (refine stepK_in ?_; (repeat (first | refine seqQ_n ?_ | refine blockQ_n ?_ | refine awp_skip ?_ | refine awp_seq ?_ | refine awp_block ?_)); (conv => whnf)))
        refine AW_loopA (X := cx 150) (cx_ok 150) [0, 1, 2, 9, 10, 11, 12, 13, 14] (fun t => Nat.ble t 22 || Nat.beq t 40) (fun vs M => ∃ (k : Nat) (o : V), k ≤ n ∧ OutC [none, some (rOb n c W (i + 1) (v1 + 1)), none, none, none, none, none, none, none, none, none, none, none, none, none, none, none, none, none, none, none, some (cOb n d W i v2), some ⟨22, 1, 0, .cv 1 fun _ _ => .ints false (W ((i + c) % n))⟩] 40 [none, none, none, none, none, none, none, none, none, none, none, none, none, none, none, none, none] (lsN k fun k => (W i).getD (tau n d k) 0) o M ∧ vs = [tabV n W, .lit (.int .u8 c), .lit (.int .u8 d), .int n, .sl 1 (v1 + 1) 0 (i + 1), .sl 21 v2 0 i, .int i, o, .int k])
          (fun vs _ => n - (vs.getD 8 .any).toInt.toNat) (fun t ht => by have : t < 23 := ht; simp; omega) ?_ ?_
        · refine memA0 [none, some (rOb n c W (i + 1) (v1 + 1)), none, none, none, none, none, none, none, none, none, none, none, none, none, none, none, none, none, none, none, some (cOb n d W i v2), some ⟨22, 1, 0, .cv 1 fun _ _ => .ints false (W ((i + c) % n))⟩] ⟨ObSub_vv (fun j q hj hq => ?_), ObSub.refl _, ObSub.refl _, trivial⟩ ⟨0, .emp true, Nat.zero_le _, .inl ⟨rfl, rfl, rfl⟩, rfl⟩
          by_cases hji : j < i
          · exact (if_pos hji)
          · obtain rfl : j = i := by have hj : j < i + 1 := hj; omega
            exact (if_neg hji)
        rintro vs M ⟨k, o, hk, hO, rfl⟩
        have hll := lsN_len k fun k => (W i).getD (tau n d k) 0
        have hls := lsN_succ k fun k => (W i).getD (tau n d k) 0
        generalize hlq : lsN k (fun k => (W i).getD (tau n d k) 0) = l at *
        ((conv => whnf); repeat (refine stepK_in ?_; (repeat (first | refine seqQ_n ?_ | refine blockQ_n ?_ | refine awp_skip ?_ | refine awp_seq ?_ | refine awp_block ?_)); (conv => whnf)))
        refine br_dec (fun hlt2 => ?_) (fun hge2 => ?_)
        · have hk' : k < n := by omega
          have e2 : Int.tmod ((k : Int) * ((n : Int) - 1) + (d : Int)) (n : Int) = ((tau n d k : Nat) : Int) := by
            unfold tau
            rw [Int.ofNat_tmod, Int.natCast_add, Int.natCast_mul, show ((n - 1 : Nat) : Int) = (n : Int) - 1 by omega]
          have hwl := (hW.2.2 i (by omega)).1
          have htl := tau_lt (n := n) (c := d) (k := k) (by omega)
          have mk : 0 ≤ (k : Int) * ((n : Int) - 1) ∧ (k : Int) * ((n : Int) - 1) ≤ 25 := by
            rcases (by omega : n = 1 ∨ n = 2 ∨ n = 3 ∨ n = 4 ∨ n = 5) with h | h | h | h | h <;> rw [h] <;> omega
          rcases hO with ⟨rfl, rfl, rfl⟩ | ⟨ver, rfl, rfl⟩
          · ((conv => whnf); repeat (refine stepK_in ?_; (repeat (first | refine seqQ_n ?_ | refine blockQ_n ?_ | refine awp_skip ?_ | refine awp_seq ?_ | refine awp_block ?_)); (conv => whnf)))
            refine AW_draw (X := cx 150) (cx_ok 150) mixed (by kernel_rfl) ?_
            ((conv => whnf); repeat (refine stepK_in ?_; (repeat (first | refine seqQ_n ?_ | refine blockQ_n ?_ | refine awp_skip ?_ | refine awp_seq ?_ | refine awp_block ?_)); (conv => whnf)))
            repeat ((first | refine ⟨(show (0 : Int) ≤ (i : Int) by omega), ?_⟩ | refine ⟨(show (i : Int) < (n : Int) by omega), ?_⟩); ((conv => whnf); repeat (refine stepK_in ?_; (repeat (first | refine seqQ_n ?_ | refine blockQ_n ?_ | refine awp_skip ?_ | refine awp_seq ?_ | refine awp_block ?_)); (conv => whnf))))
            refine ⟨(show InR ((n : Int) - 1) from inr (by omega)), ?_⟩
            ((conv => whnf); repeat (refine stepK_in ?_; (repeat (first | refine seqQ_n ?_ | refine blockQ_n ?_ | refine awp_skip ?_ | refine awp_seq ?_ | refine awp_block ?_)); (conv => whnf)))
            refine ⟨(show InR ((k : Int) * ((n : Int) - 1)) from inr (by omega)), ?_⟩
            ((conv => whnf); repeat (refine stepK_in ?_; (repeat (first | refine seqQ_n ?_ | refine blockQ_n ?_ | refine awp_skip ?_ | refine awp_seq ?_ | refine awp_block ?_)); (conv => whnf)))
            refine ⟨(show InR (d : Int) from inr (by omega)), ?_⟩
            ((conv => whnf); repeat (refine stepK_in ?_; (repeat (first | refine seqQ_n ?_ | refine blockQ_n ?_ | refine awp_skip ?_ | refine awp_seq ?_ | refine awp_block ?_)); (conv => whnf)))
            refine ⟨(show InR ((k : Int) * ((n : Int) - 1) + (d : Int)) from inr (by omega)), ?_⟩
            ((conv => whnf); repeat (refine stepK_in ?_; (repeat (first | refine seqQ_n ?_ | refine blockQ_n ?_ | refine awp_skip ?_ | refine awp_seq ?_ | refine awp_block ?_)); (conv => whnf)))
            refine ⟨(show (n : Int) ≠ 0 by omega), ?_⟩
            rw [e2]
            ((conv => whnf); repeat (refine stepK_in ?_; (repeat (first | refine seqQ_n ?_ | refine blockQ_n ?_ | refine awp_skip ?_ | refine awp_seq ?_ | refine awp_block ?_)); (conv => whnf)))
            refine ⟨(show (0 : Int) ≤ ((tau n d k : Nat) : Int) by omega), ?_⟩
            refine ⟨(show ((tau n d k : Nat) : Int) < ((W i).length : Int) by omega), ?_⟩
            ((conv => whnf); repeat (refine stepK_in ?_; (repeat (first | refine seqQ_n ?_ | refine blockQ_n ?_ | refine awp_skip ?_ | refine awp_seq ?_ | refine awp_block ?_)); (conv => whnf)))
            refine ⟨ms1, ?_⟩
            ((conv => whnf); repeat (refine stepK_in ?_; (repeat (first | refine seqQ_n ?_ | refine blockQ_n ?_ | refine awp_skip ?_ | refine awp_seq ?_ | refine awp_block ?_)); (conv => whnf)))
            refine ⟨inr (by omega), ?_⟩
            ((conv => whnf); repeat (refine stepK_in ?_; (repeat (first | refine seqQ_n ?_ | refine blockQ_n ?_ | refine awp_skip ?_ | refine awp_seq ?_ | refine awp_block ?_)); (conv => whnf)))
            refine ⟨by repeat (first | exact trivial | exact rfl | exact namedTb | exact fun _ _ => namedTb |  exact fun _ => trivial | exact fun _ _ => trivial | exact fun _ _ _ => trivial | exact fun _ _ _ _ => trivial | refine And.intro ?_ ?_), memA1 [none, some (rOb n c W (i + 1) (v1 + 1)), none, none, none, none, none, none, none, none, none, none, none, none, none, none, none, none, none, none, none, some (cOb n d W i v2), some ⟨22, 1, 0, .cv 1 fun _ _ => .ints false (W ((i + c) % n))⟩, none, none, none, none, none, none, none, none, none, none, none, none, none, none, none, none, none, some ⟨3, 1, 0, .il (lsN (k + 1) fun k => (W i).getD (tau n d k) 0)⟩] ⟨ObSub.refl _, ObSub.refl _, ObSub.refl _, ObSub.ii (by rw [hls]; rfl), trivial⟩ ⟨⟨k + 1, _, by omega, .inr ⟨0, rfl, rfl⟩, ?_⟩, ?_⟩⟩
            · rw [hls]; rfl
            · simp [V.toInt, sel, Env.get]; omega
          · ((conv => whnf); repeat (refine stepK_in ?_; (repeat (first | refine seqQ_n ?_ | refine blockQ_n ?_ | refine awp_skip ?_ | refine awp_seq ?_ | refine awp_block ?_)); (conv => whnf)))
            refine AW_draw (X := cx 150) (cx_ok 150) mixed (by kernel_rfl) ?_
            ((conv => whnf); repeat (refine stepK_in ?_; (repeat (first | refine seqQ_n ?_ | refine blockQ_n ?_ | refine awp_skip ?_ | refine awp_seq ?_ | refine awp_block ?_)); (conv => whnf)))
            repeat ((first | refine ⟨(show (0 : Int) ≤ (i : Int) by omega), ?_⟩ | refine ⟨(show (i : Int) < (n : Int) by omega), ?_⟩); ((conv => whnf); repeat (refine stepK_in ?_; (repeat (first | refine seqQ_n ?_ | refine blockQ_n ?_ | refine awp_skip ?_ | refine awp_seq ?_ | refine awp_block ?_)); (conv => whnf))))
            refine ⟨(show InR ((n : Int) - 1) from inr (by omega)), ?_⟩
            ((conv => whnf); repeat (refine stepK_in ?_; (repeat (first | refine seqQ_n ?_ | refine blockQ_n ?_ | refine awp_skip ?_ | refine awp_seq ?_ | refine awp_block ?_)); (conv => whnf)))
            refine ⟨(show InR ((k : Int) * ((n : Int) - 1)) from inr (by omega)), ?_⟩
            ((conv => whnf); repeat (refine stepK_in ?_; (repeat (first | refine seqQ_n ?_ | refine blockQ_n ?_ | refine awp_skip ?_ | refine awp_seq ?_ | refine awp_block ?_)); (conv => whnf)))
            refine ⟨(show InR (d : Int) from inr (by omega)), ?_⟩
            ((conv => whnf); repeat (refine stepK_in ?_; (repeat (first | refine seqQ_n ?_ | refine blockQ_n ?_ | refine awp_skip ?_ | refine awp_seq ?_ | refine awp_block ?_)); (conv => whnf)))
            refine ⟨(show InR ((k : Int) * ((n : Int) - 1) + (d : Int)) from inr (by omega)), ?_⟩
            ((conv => whnf); repeat (refine stepK_in ?_; (repeat (first | refine seqQ_n ?_ | refine blockQ_n ?_ | refine awp_skip ?_ | refine awp_seq ?_ | refine awp_block ?_)); (conv => whnf)))
            refine ⟨(show (n : Int) ≠ 0 by omega), ?_⟩
            rw [e2]
            ((conv => whnf); repeat (refine stepK_in ?_; (repeat (first | refine seqQ_n ?_ | refine blockQ_n ?_ | refine awp_skip ?_ | refine awp_seq ?_ | refine awp_block ?_)); (conv => whnf)))
            refine ⟨(show (0 : Int) ≤ ((tau n d k : Nat) : Int) by omega), ?_⟩
            refine ⟨(show ((tau n d k : Nat) : Int) < ((W i).length : Int) by omega), ?_⟩
            ((conv => whnf); repeat (refine stepK_in ?_; (repeat (first | refine seqQ_n ?_ | refine blockQ_n ?_ | refine awp_skip ?_ | refine awp_seq ?_ | refine awp_block ?_)); (conv => whnf)))
            refine eqn_self (x := ver) ?_
            ((conv => whnf); repeat (refine stepK_in ?_; (repeat (first | refine seqQ_n ?_ | refine blockQ_n ?_ | refine awp_skip ?_ | refine awp_seq ?_ | refine awp_block ?_)); (conv => whnf)))
            refine eqn_self (x := 0) ?_
            ((conv => whnf); repeat (refine stepK_in ?_; (repeat (first | refine seqQ_n ?_ | refine blockQ_n ?_ | refine awp_skip ?_ | refine awp_seq ?_ | refine awp_block ?_)); (conv => whnf)))
            refine ⟨msk (by omega), ?_⟩
            ((conv => whnf); repeat (refine stepK_in ?_; (repeat (first | refine seqQ_n ?_ | refine blockQ_n ?_ | refine awp_skip ?_ | refine awp_seq ?_ | refine awp_block ?_)); (conv => whnf)))
            refine ⟨inr (by omega), ?_⟩
            ((conv => whnf); repeat (refine stepK_in ?_; (repeat (first | refine seqQ_n ?_ | refine blockQ_n ?_ | refine awp_skip ?_ | refine awp_seq ?_ | refine awp_block ?_)); (conv => whnf)))
            refine ⟨by repeat (first | exact trivial | exact rfl | exact namedTb | exact fun _ _ => namedTb |  exact fun _ => trivial | exact fun _ _ => trivial | exact fun _ _ _ => trivial | exact fun _ _ _ _ => trivial | refine And.intro ?_ ?_), memA1 [none, some (rOb n c W (i + 1) (v1 + 1)), none, none, none, none, none, none, none, none, none, none, none, none, none, none, none, none, none, none, none, some (cOb n d W i v2), some ⟨22, 1, 0, .cv 1 fun _ _ => .ints false (W ((i + c) % n))⟩, none, none, none, none, none, none, none, none, none, none, none, none, none, none, none, none, none, some ⟨3, 1, ver + 1, .il (lsN (k + 1) fun k => (W i).getD (tau n d k) 0)⟩] ⟨ObSub.refl _, ObSub.refl _, ObSub.refl _, ObSub.ii (by rw [hls, List.take_length]; rfl), trivial⟩ ⟨⟨k + 1, _, by omega, .inr ⟨ver + 1, rfl, rfl⟩, ?_⟩, ?_⟩⟩
            · rw [hls, List.length_append]; rfl
            · simp [V.toInt, sel, Env.get]; omega
        · obtain rfl : k = n := by omega
          have hcl : colN k d W i = l := hlq
          rcases hO with ⟨hl0, rfl, rfl⟩ | ⟨ver, rfl, rfl⟩
          · rw [hl0] at hll; simp at hll; omega
          · ((conv => whnf); repeat (refine stepK_in ?_; (repeat (first | refine seqQ_n ?_ | refine blockQ_n ?_ | refine awp_skip ?_ | refine awp_seq ?_ | refine awp_block ?_)); (conv => whnf)))
            refine eqn_self ?_
            refine ⟨(show (24 : Int) * ((i : Int) + ((1 : Nat) : Int)) ≤ 140737488355328 by omega), ?_⟩
            ((conv => whnf); repeat (refine stepK_in ?_; (repeat (first | refine seqQ_n ?_ | refine blockQ_n ?_ | refine awp_skip ?_ | refine awp_seq ?_ | refine awp_block ?_)); (conv => whnf)))
            refine ⟨inr (by omega), ?_⟩
            ((conv => whnf); repeat (refine stepK_in ?_; (repeat (first | refine seqQ_n ?_ | refine blockQ_n ?_ | refine awp_skip ?_ | refine awp_seq ?_ | refine awp_block ?_)); (conv => whnf)))
            refine .inl ⟨40, ver, 3, l, _, [none, some (rOb k c W (i + 1) (v1 + 1)), none, none, none, none, none, none, none, none, none, none, none, none, none, none, none, none, none, none, none, some (cOb k d W (i + 1) (v2 + 1)), some ⟨22, 1, 0, .cv 1 fun _ _ => .ints false (W ((i + c) % k))⟩, none, none, none, none, none, none, none, none, none, none, none, none, none, none, none, none, none, some ⟨3, 1, ver + 1, .il []⟩, some ⟨22, 1, 0, .cv 1 fun _ _ => .sl 40 ver 0 l.length⟩], Nat.zero_le _, rfl, FzL.refl _, ?_, by repeat (first | exact trivial | exact rfl | exact namedTb | exact fun _ _ => namedTb |  exact fun _ => trivial | exact fun _ _ => trivial | exact fun _ _ _ => trivial | exact fun _ _ _ _ => trivial | refine And.intro ?_ ?_), same1 ⟨⟨i + 1, _, _, by omega, .inr ⟨by omega, v1 + 1, v2 + 1, rfl, rfl, rfl⟩, ?_⟩, ?_⟩⟩
            · refine ⟨ObFz.refl _, ObFz.cv (fun j kk hj hk => ?_), ObFz.refl _, rfl, ObFz.refl _, trivial⟩
              by_cases hjl : j < i
              · exact .inl (Sub.of (if_pos hjl))
              · obtain rfl : j = i := by omega
                exact .inr ⟨if_neg hjl, congrArg (V.ints true) hcl⟩
            · rfl
            · simp [V.toInt, sel, Env.get]; omega
      · obtain rfl : i = n := by omega
        ((conv => whnf); repeat (refine stepK_in ?_; (repeat (first | refine seqQ_n ?_ | refine blockQ_n ?_ | refine awp_skip ?_ | refine awp_seq ?_ | refine awp_block ?_)); (conv => whnf)))
        have m1 : wrS W (asB i W) i = wrS W (asB i W) i := rfl
        have A1 := Assign_pure i W
        rw [show assV i W = tup3 (.ints true (asB i W)) (.int (wrS W (asB i W) i)) (.int 0) by unfold assV; rw [if_pos hW]] at A1
        have A2 := Assign_pure i fun j => W ((j + c) % i)
        rw [show (assV i fun j => W ((j + c) % i)) = tup3 (.ints true (asB i fun j => W ((j + c) % i))) (.int (wrS W (asB i W) i)) (.int 0) by unfold assV; rw [if_pos (wis_rows hW c), best_rows h1 h5]] at A2
        have A3 := Assign_pure i (colN i d W)
        rw [show assV i (colN i d W) = tup3 (.ints true (asB i (colN i d W))) (.int (wrS W (asB i W) i)) (.int 0) by unfold assV; rw [if_pos (wis_cols hW d), best_cols h1 h5]] at A3
        have hdg := diag_le h1 h5 W d
        generalize wrS W (asB i W) i = m at *
        generalize asB i W = B1 at *
        generalize (asB i fun j => W ((j + c) % i)) = B2 at *
        generalize asB i (colN i d W) = B3 at *
        have hsb : ∀ k, k ≤ i → 0 ≤ sN (fun j => (W j).getD ((j + d) % i) 0) k ∧ sN (fun j => (W j).getD ((j + d) % i) 0) k ≤ 1000 * k := fun k => by
          induction k with
          | zero => intro _; simp [sN]
          | succ k ih =>
            intro hk
            have h6 := ih (by omega)
            have h7 := (hW.2.2 k (by omega)).2.1 ((k + d) % i) (Nat.mod_lt _ (by omega))
            simp only [sN]
            omega
        refine APure.to (APure.arg1 subT A1) ?_
        ((conv => whnf); repeat (refine stepK_in ?_; (repeat (first | refine seqQ_n ?_ | refine blockQ_n ?_ | refine awp_skip ?_ | refine awp_seq ?_ | refine awp_block ?_)); (conv => whnf)))
        refine eqn_self (x := v1) ?_
        refine APure.to (APure.arg1 (sub_seq fun j q hj hq => Sub.of (congrArg (fun z => V.ints false (W ((z + c) % i))) (Nat.zero_add j))) A2) ?_
        ((conv => whnf); repeat (refine stepK_in ?_; (repeat (first | refine seqQ_n ?_ | refine blockQ_n ?_ | refine awp_skip ?_ | refine awp_seq ?_ | refine awp_block ?_)); (conv => whnf)))
        refine eqn_self (x := v2) ?_
        refine APure.to (APure.arg1 (sub_seq fun j q hj hq => Sub.of (congrArg (fun z => V.ints false (colN i d W z)) (Nat.zero_add j))) A3) ?_
        ((conv => whnf); repeat (refine stepK_in ?_; (repeat (first | refine seqQ_n ?_ | refine blockQ_n ?_ | refine awp_skip ?_ | refine awp_seq ?_ | refine awp_block ?_)); (conv => whnf)))
        refine AW_loop (X := cx 150) (cx_ok 150) [0, 2, 9, 16, 17, 19, 20, 22, 23, 24, 25] (fun vs M => ∃ k : Nat, k ≤ i ∧ vs = [tabV i W, .lit (.int .u8 d), .int i, .int m, .int 0, .int m, .int 0, .int m, .int 0, .int (sN (fun j => (W j).getD ((j + d) % i) 0) k), .int k] ∧ M = [none, some (rOb i c W i v1), none, none, none, none, none, none, none, none, none, none, none, none, none, none, none, none, none, none, none, some (cOb i d W i v2)])
          (fun vs _ => i - (vs.getD 10 .any).toInt.toNat) ?_ ?_
        · exact ⟨0, Nat.zero_le _, rfl, rfl⟩
        rintro vs M ⟨k, hk, rfl, rfl⟩
        ((conv => whnf); repeat (refine stepK_in ?_; (repeat (first | refine seqQ_n ?_ | refine blockQ_n ?_ | refine awp_skip ?_ | refine awp_seq ?_ | refine awp_block ?_)); (conv => whnf)))
        refine br_dec (fun hlt3 => ?_) (fun hge3 => ?_)
        · have hk' : k < i := by omega
          have e4 : Int.tmod ((k : Int) + (d : Int)) (i : Int) = (((k + d) % i : Nat) : Int) := by rw [← Int.natCast_add, ← Int.ofNat_tmod]
          have hkd := Nat.mod_lt (k + d) (show 0 < i by omega)
          have hwk := (hW.2.2 k hk').1
          have hs1 := hsb k hk
          have hs2 := hsb (k + 1) hk'
          ((conv => whnf); repeat (refine stepK_in ?_; (repeat (first | refine seqQ_n ?_ | refine blockQ_n ?_ | refine awp_skip ?_ | refine awp_seq ?_ | refine awp_block ?_)); (conv => whnf)))
          refine AW_draw (X := cx 150) (cx_ok 150) mixed (by kernel_rfl) ?_
          ((conv => whnf); repeat (refine stepK_in ?_; (repeat (first | refine seqQ_n ?_ | refine blockQ_n ?_ | refine awp_skip ?_ | refine awp_seq ?_ | refine awp_block ?_)); (conv => whnf)))
          refine ⟨(show (0 : Int) ≤ (k : Int) by omega), ?_⟩
          refine ⟨(show (k : Int) < (i : Int) by omega), ?_⟩
          ((conv => whnf); repeat (refine stepK_in ?_; (repeat (first | refine seqQ_n ?_ | refine blockQ_n ?_ | refine awp_skip ?_ | refine awp_seq ?_ | refine awp_block ?_)); (conv => whnf)))
          refine ⟨(show InR (d : Int) from inr (by omega)), ?_⟩
          ((conv => whnf); repeat (refine stepK_in ?_; (repeat (first | refine seqQ_n ?_ | refine blockQ_n ?_ | refine awp_skip ?_ | refine awp_seq ?_ | refine awp_block ?_)); (conv => whnf)))
          refine ⟨(show InR ((k : Int) + (d : Int)) from inr (by omega)), ?_⟩
          ((conv => whnf); repeat (refine stepK_in ?_; (repeat (first | refine seqQ_n ?_ | refine blockQ_n ?_ | refine awp_skip ?_ | refine awp_seq ?_ | refine awp_block ?_)); (conv => whnf)))
          refine ⟨(show (i : Int) ≠ 0 by omega), ?_⟩
          rw [e4]
          ((conv => whnf); repeat (refine stepK_in ?_; (repeat (first | refine seqQ_n ?_ | refine blockQ_n ?_ | refine awp_skip ?_ | refine awp_seq ?_ | refine awp_block ?_)); (conv => whnf)))
          refine ⟨(show (0 : Int) ≤ (((k + d) % i : Nat) : Int) by omega), ?_⟩
          refine ⟨(show (((k + d) % i : Nat) : Int) < ((W k).length : Int) by omega), ?_⟩
          ((conv => whnf); repeat (refine stepK_in ?_; (repeat (first | refine seqQ_n ?_ | refine blockQ_n ?_ | refine awp_skip ?_ | refine awp_seq ?_ | refine awp_block ?_)); (conv => whnf)))
          refine ⟨(show InR (sN (fun j => (W j).getD ((j + d) % i) 0) (k + 1)) from inr (by omega)), ?_⟩
          ((conv => whnf); repeat (refine stepK_in ?_; (repeat (first | refine seqQ_n ?_ | refine blockQ_n ?_ | refine awp_skip ?_ | refine awp_seq ?_ | refine awp_block ?_)); (conv => whnf)))
          refine ⟨inr (by omega), ?_⟩
          ((conv => whnf); repeat (refine stepK_in ?_; (repeat (first | refine seqQ_n ?_ | refine blockQ_n ?_ | refine awp_skip ?_ | refine awp_seq ?_ | refine awp_block ?_)); (conv => whnf)))
          refine ⟨⟨k + 1, hk', rfl, rfl⟩, ?_⟩
          simp [V.toInt, sel, Env.get]; omega
        · obtain rfl : k = i := by omega
          ((conv => whnf); repeat (refine stepK_in ?_; (repeat (first | refine seqQ_n ?_ | refine blockQ_n ?_ | refine awp_skip ?_ | refine awp_seq ?_ | refine awp_block ?_)); (conv => whnf)))
          rw [show (m == m) = true by simp]
          ((conv => whnf); repeat (refine stepK_in ?_; (repeat (first | refine seqQ_n ?_ | refine blockQ_n ?_ | refine awp_skip ?_ | refine awp_seq ?_ | refine awp_block ?_)); (conv => whnf)))
          rw [show (m == m) = true by simp]
          ((conv => whnf); repeat (refine stepK_in ?_; (repeat (first | refine seqQ_n ?_ | refine blockQ_n ?_ | refine awp_skip ?_ | refine awp_seq ?_ | refine awp_block ?_)); (conv => whnf)))
          rw [decide_eq_true (show sN (fun j => (W j).getD ((j + d) % k) 0) k ≤ m from hdg)]
          ((conv => whnf); repeat (refine stepK_in ?_; (repeat (first | refine seqQ_n ?_ | refine blockQ_n ?_ | refine awp_skip ?_ | refine awp_seq ?_ | refine awp_block ?_)); (conv => whnf)))
          refine APure.to fin ?_
          ((conv => whnf); repeat (refine stepK_in ?_; (repeat (first | refine seqQ_n ?_ | refine blockQ_n ?_ | refine awp_skip ?_ | refine awp_seq ?_ | refine awp_block ?_)); (conv => whnf)))
          exact ⟨trivial, rfl⟩
  · rw [show reV n W = tup2 (.int 0) (.bool false) by unfold reV; rw [if_neg hW]] at c0
    have c1 := small_pure n W
    by_cases hs : Sml n W
    · rw [decide_eq_true hs] at c1
      ((conv => whnf); repeat (refine stepK_in ?_; (repeat (first | refine seqQ_n ?_ | refine blockQ_n ?_ | refine awp_skip ?_ | refine awp_seq ?_ | refine awp_block ?_)); (conv => whnf)))
      refine APure.to (APure.arg1 subT c0) ?_
      ((conv => whnf); repeat (refine stepK_in ?_; (repeat (first | refine seqQ_n ?_ | refine blockQ_n ?_ | refine awp_skip ?_ | refine awp_seq ?_ | refine awp_block ?_)); (conv => whnf)))
      refine APure.to (APure.arg1 subT c1) ?_
      ((conv => whnf); repeat (refine stepK_in ?_; (repeat (first | refine seqQ_n ?_ | refine blockQ_n ?_ | refine awp_skip ?_ | refine awp_seq ?_ | refine awp_block ?_)); (conv => whnf)))
      refine APure.to fin ?_
      ((conv => whnf); repeat (refine stepK_in ?_; (repeat (first | refine seqQ_n ?_ | refine blockQ_n ?_ | refine awp_skip ?_ | refine awp_seq ?_ | refine awp_block ?_)); (conv => whnf)))
      exact ⟨trivial, rfl⟩
    · rw [decide_eq_false hs] at c1
      ((conv => whnf); repeat (refine stepK_in ?_; (repeat (first | refine seqQ_n ?_ | refine blockQ_n ?_ | refine awp_skip ?_ | refine awp_seq ?_ | refine awp_block ?_)); (conv => whnf)))
      refine APure.to (APure.arg1 subT c0) ?_
      ((conv => whnf); repeat (refine stepK_in ?_; (repeat (first | refine seqQ_n ?_ | refine blockQ_n ?_ | refine awp_skip ?_ | refine awp_seq ?_ | refine awp_block ?_)); (conv => whnf)))
      refine APure.to (APure.arg1 subT c1) ?_
      ((conv => whnf); repeat (refine stepK_in ?_; (repeat (first | refine seqQ_n ?_ | refine blockQ_n ?_ | refine awp_skip ?_ | refine awp_seq ?_ | refine awp_block ?_)); (conv => whnf)))
      refine APure.to fin ?_
      ((conv => whnf); repeat (refine stepK_in ?_; (repeat (first | refine seqQ_n ?_ | refine blockQ_n ?_ | refine awp_skip ?_ | refine awp_seq ?_ | refine awp_block ?_)); (conv => whnf)))
      exact ⟨trivial, rfl⟩
end Go.Tri
