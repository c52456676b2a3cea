/-
  LAW: ShiftProves.
-/
import Derived.Test.YtciefpkelgjboaaB16
namespace Go.Tri
open Go.Proofs

open Classical in
theorem wo_form {l pr : List Int} {n : Nat} (h : dayE l n = 0) : ∃ w g, woV l n pr = tup2 (.int w) (.int g) ∧ (g = 0 → w ≤ leL l n) := by
  obtain ⟨hn, hl1, hl2⟩ := dayE_inv h
  unfold woV
  rw [if_pos h, Int.toNat_natCast]
  by_cases hp : isPr l.length pr
  · rw [if_pos hp]
    exact ⟨_, _, rfl, fun _ => (wt_le hn (by omega) (by omega) hp).2⟩
  · rw [if_neg hp]
    exact ⟨_, _, rfl, fun h => absurd h (by omega)⟩
open Classical in
theorem wo_pr {l D : List Int} {n : Nat} (h : dayE l n = 0) (hp : isPr l.length D ∧ wtL l n D = leL l n) : woV l n D = tup2 (.int (leL l n)) (.int 0) := by
  unfold woV
  rw [if_pos h, Int.toNat_natCast, if_pos hp.1, hp.2]
open Classical in
theorem en_form {l p : List Int} {n : Nat} (h : dayE l n = 0) : ∃ k ok, enV l n p = tup3 (.int k) (.bool ok) (.int 0) ∧ (ok = true → leL l n ≤ k) := by
  obtain ⟨hn, hl1, hl2⟩ := dayE_inv h
  unfold enV
  rw [if_pos h, Int.toNat_natCast]
  by_cases hp : isPl l.length p
  · rw [if_pos hp]
    exact ⟨_, _, rfl, fun hok => leL_least hn.1 hn.2.1 (by omega) (by omega) hn.wide ⟨_, (enough_iff (long := n) hn.1 (by omega) hp).1 (of_decide_eq_true hok)⟩⟩
  · rw [if_neg hp]
    exact ⟨_, _, rfl, fun h => absurd h (by decide)⟩
theorem AW_keep {P : Program} {nt nb : Nat} {rd : Bool} {c : Code} {Q : Exit → Env → Mem → Prop} {e : Env} {M : Mem} (keys : List Nat) (vs : List V) (he : sel keys e = vs) (h : AW P nt nb rd c Q (keys.zip vs) M) : AW P nt nb rd c Q e M := by
  subst he
  rw [AW_def] at h ⊢
  intro ro lo base φ w a hro hst
  exact h ro lo base φ w a hro (hst.sel keys)
set_option maxRecDepth 100000 in
theorem ShiftProves_pure (l : List Int) (long : Int) (p pr : List Int) : APure Try.prog 8 [.ints false l, .int long, .ints false p, .ints false pr] (fun R => R = .bool true) := by
  refine APure_ofW (X := cx 123) (cx_ok 123) rfl (rs := [(.tmp 8, 4)]) Try.func8 (by decide) rfl rfl rfl (by simp [cx]) (by simp [NoFr]) ?_
  intro hlen
  have fin := alive_pure
  have hfew := few_pure l p
  refine AW_seqW (X := cx 123) (cx_ok 123) ?_
  ((conv => whnf); repeat (refine stepK_in ?_; (repeat (first | refine seqQ_n ?_ | refine blockQ_n ?_ | refine awp_skip ?_ | refine awp_seq ?_ | refine awp_block ?_)); (conv => whnf)))
  refine AW_seqW (X := cx 123) (cx_ok 123) ?_
  ((conv => whnf); repeat (refine stepK_in ?_; (repeat (first | refine seqQ_n ?_ | refine blockQ_n ?_ | refine awp_skip ?_ | refine awp_seq ?_ | refine awp_block ?_)); (conv => whnf)))
  refine APure.to hfew ?_
  by_cases h40 : l.length ≤ 40 ∧ p.length ≤ 100
  · rw [decide_eq_true h40]
    ((conv => whnf); repeat (refine stepK_in ?_; (repeat (first | refine seqQ_n ?_ | refine blockQ_n ?_ | refine awp_skip ?_ | refine awp_seq ?_ | refine awp_block ?_)); (conv => whnf)))
    refine br_dec (fun hb => ?_) (fun hb => ?_)
    · ((conv => whnf); repeat (refine stepK_in ?_; (repeat (first | refine seqQ_n ?_ | refine blockQ_n ?_ | refine awp_skip ?_ | refine awp_seq ?_ | refine awp_block ?_)); (conv => whnf)))
      refine APure.to fin ?_
      ((conv => whnf); repeat (refine stepK_in ?_; (repeat (first | refine seqQ_n ?_ | refine blockQ_n ?_ | refine awp_skip ?_ | refine awp_seq ?_ | refine awp_block ?_)); (conv => whnf)))
      exact ⟨trivial, rfl⟩
    ((conv => whnf); repeat (refine stepK_in ?_; (repeat (first | refine seqQ_n ?_ | refine blockQ_n ?_ | refine awp_skip ?_ | refine awp_seq ?_ | refine awp_block ?_)); (conv => whnf)))
    refine APure.to (refDay_pure l long) ?_
    ((conv => whnf); repeat (refine stepK_in ?_; (repeat (first | refine seqQ_n ?_ | refine blockQ_n ?_ | refine awp_skip ?_ | refine awp_seq ?_ | refine awp_block ?_)); (conv => whnf)))
    refine br_ne (fun h => ?_) (fun h => ?_)
    · ((conv => whnf); repeat (refine stepK_in ?_; (repeat (first | refine seqQ_n ?_ | refine blockQ_n ?_ | refine awp_skip ?_ | refine awp_seq ?_ | refine awp_block ?_)); (conv => whnf)))
      refine APure.to fin ?_
      ((conv => whnf); repeat (refine stepK_in ?_; (repeat (first | refine seqQ_n ?_ | refine blockQ_n ?_ | refine awp_skip ?_ | refine awp_seq ?_ | refine awp_block ?_)); (conv => whnf)))
      exact ⟨trivial, rfl⟩
    obtain ⟨hn, hl1, hl2⟩ := dayE_inv h
    obtain ⟨n, rfl⟩ : ∃ n : Nat, long = n := ⟨long.toNat, by omega⟩
    have c1 := Least_pure l n
    rw [leV_ok h] at c1
    have c3 := Worth_pure l n pr
    obtain ⟨w, g, ew, hw⟩ := wo_form (pr := pr) h
    rw [ew] at c3
    have c4 := Enough_pure l n p
    obtain ⟨k, ok, ek, hk⟩ := en_form (p := p) h
    rw [ek] at c4
    ((conv => whnf); repeat (refine stepK_in ?_; (repeat (first | refine seqQ_n ?_ | refine blockQ_n ?_ | refine awp_skip ?_ | refine awp_seq ?_ | refine awp_block ?_)); (conv => whnf)))
    refine AW_keep [0, 1, 2, 3] [.ints false l, .int n, .ints false p, .ints false pr] rfl ?_
    refine AW_seqW (X := cx 123) (cx_ok 123) ?_
    ((conv => whnf); repeat (refine stepK_in ?_; (repeat (first | refine seqQ_n ?_ | refine blockQ_n ?_ | refine awp_skip ?_ | refine awp_seq ?_ | refine awp_block ?_)); (conv => whnf)))
    refine APure.to c1 ?_
    by_cases h0 : leL l n = 0
    · obtain ⟨f, hf⟩ : ∃ f : Int, f = 10 := ⟨10, rfl⟩
      have c2 : APure Try.prog 32 [.ints false l, .int n] (fun R => R = tup2 (.ints true []) (.int f)) := APure.mono (Proof_pure l n) fun R hR => by
        rw [hR.1, hf]
        unfold prV
        rw [if_pos h, if_pos h0]
      generalize leL l n = n1 at *
      ((conv => whnf); repeat (refine stepK_in ?_; (repeat (first | refine seqQ_n ?_ | refine blockQ_n ?_ | refine awp_skip ?_ | refine awp_seq ?_ | refine awp_block ?_)); (conv => whnf)))
      refine AW_seqW (X := cx 123) (cx_ok 123) ?_
      ((conv => whnf); repeat (refine stepK_in ?_; (repeat (first | refine seqQ_n ?_ | refine blockQ_n ?_ | refine awp_skip ?_ | refine awp_seq ?_ | refine awp_block ?_)); (conv => whnf)))
      refine APure.to c2 ?_
      ((conv => whnf); repeat (refine stepK_in ?_; (repeat (first | refine seqQ_n ?_ | refine blockQ_n ?_ | refine awp_skip ?_ | refine awp_seq ?_ | refine awp_block ?_)); (conv => whnf)))
      refine AW_seqW (X := cx 123) (cx_ok 123) ?_
      ((conv => whnf); repeat (refine stepK_in ?_; (repeat (first | refine seqQ_n ?_ | refine blockQ_n ?_ | refine awp_skip ?_ | refine awp_seq ?_ | refine awp_block ?_)); (conv => whnf)))
      refine APure.to c3 ?_
      ((conv => whnf); repeat (refine stepK_in ?_; (repeat (first | refine seqQ_n ?_ | refine blockQ_n ?_ | refine awp_skip ?_ | refine awp_seq ?_ | refine awp_block ?_)); (conv => whnf)))
      refine AW_seqW (X := cx 123) (cx_ok 123) ?_
      ((conv => whnf); repeat (refine stepK_in ?_; (repeat (first | refine seqQ_n ?_ | refine blockQ_n ?_ | refine awp_skip ?_ | refine awp_seq ?_ | refine awp_block ?_)); (conv => whnf)))
      refine APure.to c4 ?_
      ((conv => whnf); repeat (refine stepK_in ?_; (repeat (first | refine seqQ_n ?_ | refine blockQ_n ?_ | refine awp_skip ?_ | refine awp_seq ?_ | refine awp_block ?_)); (conv => whnf)))
      refine AW_keep [0, 1, 9, 10, 11, 12, 13, 14, 15, 16, 17] [.ints false l, .int n, .int n1, .int 0, .ints true ([] : List Int), .int f, .int w, .int g, .int k, .bool ok, .int 0] rfl ?_
      refine AW_seqW (X := cx 123) (cx_ok 123) ?_
      ((conv => whnf); repeat (refine stepK_in ?_; (repeat (first | refine seqQ_n ?_ | refine blockQ_n ?_ | refine awp_skip ?_ | refine awp_seq ?_ | refine awp_block ?_)); (conv => whnf)))
      by_cases hg : g = 0
      · have hw := hw hg
        rw [show (g == 0) = true by simp [hg]]
        ((conv => whnf); repeat (refine stepK_in ?_; (repeat (first | refine seqQ_n ?_ | refine blockQ_n ?_ | refine awp_skip ?_ | refine awp_seq ?_ | refine awp_block ?_)); (conv => whnf)))
        rw [decide_eq_false (show ¬ w > (n1 : Int) by omega)]
        ((conv => whnf); repeat (refine stepK_in ?_; (repeat (first | refine seqQ_n ?_ | refine blockQ_n ?_ | refine awp_skip ?_ | refine awp_seq ?_ | refine awp_block ?_)); (conv => whnf)))
        cases ok with
        | true =>
          have hk := hk rfl
          ((conv => whnf); repeat (refine stepK_in ?_; (repeat (first | refine seqQ_n ?_ | refine blockQ_n ?_ | refine awp_skip ?_ | refine awp_seq ?_ | refine awp_block ?_)); (conv => whnf)))
          rw [decide_eq_false (show ¬ k < (n1 : Int) by omega)]
          ((conv => whnf); repeat (refine stepK_in ?_; (repeat (first | refine seqQ_n ?_ | refine blockQ_n ?_ | refine awp_skip ?_ | refine awp_seq ?_ | refine awp_block ?_)); (conv => whnf)))
          refine AW_keep [0, 1, 9, 11, 12] [.ints false l, .int n, .int n1, .ints true ([] : List Int), .int f] rfl ?_
          refine AW_of_awp (X := cx 123) (cx_ok 123) ?_
          ((conv => whnf); repeat (refine stepK_in ?_; (repeat (first | refine seqQ_n ?_ | refine blockQ_n ?_ | refine awp_skip ?_ | refine awp_seq ?_ | refine awp_block ?_)); (conv => whnf)))
          refine br_ne (fun _ => ?_) (fun h => absurd (hf.symm.trans h) (by decide))
          ((conv => whnf); repeat (refine stepK_in ?_; (repeat (first | refine seqQ_n ?_ | refine blockQ_n ?_ | refine awp_skip ?_ | refine awp_seq ?_ | refine awp_block ?_)); (conv => whnf)))
          rw [show (f == 10) = true by simp [hf]]
          ((conv => whnf); repeat (refine stepK_in ?_; (repeat (first | refine seqQ_n ?_ | refine blockQ_n ?_ | refine awp_skip ?_ | refine awp_seq ?_ | refine awp_block ?_)); (conv => whnf)))
          rw [show ((n1 : Int) == 0) = true by simp [h0]]
          ((conv => whnf); repeat (refine stepK_in ?_; (repeat (first | refine seqQ_n ?_ | refine blockQ_n ?_ | refine awp_skip ?_ | refine awp_seq ?_ | refine awp_block ?_)); (conv => whnf)))
          refine APure.to fin ?_
          ((conv => whnf); repeat (refine stepK_in ?_; (repeat (first | refine seqQ_n ?_ | refine blockQ_n ?_ | refine awp_skip ?_ | refine awp_seq ?_ | refine awp_block ?_)); (conv => whnf)))
          exact ⟨trivial, rfl⟩
        | false =>
          ((conv => whnf); repeat (refine stepK_in ?_; (repeat (first | refine seqQ_n ?_ | refine blockQ_n ?_ | refine awp_skip ?_ | refine awp_seq ?_ | refine awp_block ?_)); (conv => whnf)))
          refine AW_keep [0, 1, 9, 11, 12] [.ints false l, .int n, .int n1, .ints true ([] : List Int), .int f] rfl ?_
          refine AW_of_awp (X := cx 123) (cx_ok 123) ?_
          ((conv => whnf); repeat (refine stepK_in ?_; (repeat (first | refine seqQ_n ?_ | refine blockQ_n ?_ | refine awp_skip ?_ | refine awp_seq ?_ | refine awp_block ?_)); (conv => whnf)))
          refine br_ne (fun _ => ?_) (fun h => absurd (hf.symm.trans h) (by decide))
          ((conv => whnf); repeat (refine stepK_in ?_; (repeat (first | refine seqQ_n ?_ | refine blockQ_n ?_ | refine awp_skip ?_ | refine awp_seq ?_ | refine awp_block ?_)); (conv => whnf)))
          rw [show (f == 10) = true by simp [hf]]
          ((conv => whnf); repeat (refine stepK_in ?_; (repeat (first | refine seqQ_n ?_ | refine blockQ_n ?_ | refine awp_skip ?_ | refine awp_seq ?_ | refine awp_block ?_)); (conv => whnf)))
          rw [show ((n1 : Int) == 0) = true by simp [h0]]
          ((conv => whnf); repeat (refine stepK_in ?_; (repeat (first | refine seqQ_n ?_ | refine blockQ_n ?_ | refine awp_skip ?_ | refine awp_seq ?_ | refine awp_block ?_)); (conv => whnf)))
          refine APure.to fin ?_
          ((conv => whnf); repeat (refine stepK_in ?_; (repeat (first | refine seqQ_n ?_ | refine blockQ_n ?_ | refine awp_skip ?_ | refine awp_seq ?_ | refine awp_block ?_)); (conv => whnf)))
          exact ⟨trivial, rfl⟩
      · rw [show (g == 0) = false by simp [hg]]
        ((conv => whnf); repeat (refine stepK_in ?_; (repeat (first | refine seqQ_n ?_ | refine blockQ_n ?_ | refine awp_skip ?_ | refine awp_seq ?_ | refine awp_block ?_)); (conv => whnf)))
        cases ok with
        | true =>
          have hk := hk rfl
          ((conv => whnf); repeat (refine stepK_in ?_; (repeat (first | refine seqQ_n ?_ | refine blockQ_n ?_ | refine awp_skip ?_ | refine awp_seq ?_ | refine awp_block ?_)); (conv => whnf)))
          rw [decide_eq_false (show ¬ k < (n1 : Int) by omega)]
          ((conv => whnf); repeat (refine stepK_in ?_; (repeat (first | refine seqQ_n ?_ | refine blockQ_n ?_ | refine awp_skip ?_ | refine awp_seq ?_ | refine awp_block ?_)); (conv => whnf)))
          refine AW_keep [0, 1, 9, 11, 12] [.ints false l, .int n, .int n1, .ints true ([] : List Int), .int f] rfl ?_
          refine AW_of_awp (X := cx 123) (cx_ok 123) ?_
          ((conv => whnf); repeat (refine stepK_in ?_; (repeat (first | refine seqQ_n ?_ | refine blockQ_n ?_ | refine awp_skip ?_ | refine awp_seq ?_ | refine awp_block ?_)); (conv => whnf)))
          refine br_ne (fun _ => ?_) (fun h => absurd (hf.symm.trans h) (by decide))
          ((conv => whnf); repeat (refine stepK_in ?_; (repeat (first | refine seqQ_n ?_ | refine blockQ_n ?_ | refine awp_skip ?_ | refine awp_seq ?_ | refine awp_block ?_)); (conv => whnf)))
          rw [show (f == 10) = true by simp [hf]]
          ((conv => whnf); repeat (refine stepK_in ?_; (repeat (first | refine seqQ_n ?_ | refine blockQ_n ?_ | refine awp_skip ?_ | refine awp_seq ?_ | refine awp_block ?_)); (conv => whnf)))
          rw [show ((n1 : Int) == 0) = true by simp [h0]]
          ((conv => whnf); repeat (refine stepK_in ?_; (repeat (first | refine seqQ_n ?_ | refine blockQ_n ?_ | refine awp_skip ?_ | refine awp_seq ?_ | refine awp_block ?_)); (conv => whnf)))
          refine APure.to fin ?_
          ((conv => whnf); repeat (refine stepK_in ?_; (repeat (first | refine seqQ_n ?_ | refine blockQ_n ?_ | refine awp_skip ?_ | refine awp_seq ?_ | refine awp_block ?_)); (conv => whnf)))
          exact ⟨trivial, rfl⟩
        | false =>
          ((conv => whnf); repeat (refine stepK_in ?_; (repeat (first | refine seqQ_n ?_ | refine blockQ_n ?_ | refine awp_skip ?_ | refine awp_seq ?_ | refine awp_block ?_)); (conv => whnf)))
          refine AW_keep [0, 1, 9, 11, 12] [.ints false l, .int n, .int n1, .ints true ([] : List Int), .int f] rfl ?_
          refine AW_of_awp (X := cx 123) (cx_ok 123) ?_
          ((conv => whnf); repeat (refine stepK_in ?_; (repeat (first | refine seqQ_n ?_ | refine blockQ_n ?_ | refine awp_skip ?_ | refine awp_seq ?_ | refine awp_block ?_)); (conv => whnf)))
          refine br_ne (fun _ => ?_) (fun h => absurd (hf.symm.trans h) (by decide))
          ((conv => whnf); repeat (refine stepK_in ?_; (repeat (first | refine seqQ_n ?_ | refine blockQ_n ?_ | refine awp_skip ?_ | refine awp_seq ?_ | refine awp_block ?_)); (conv => whnf)))
          rw [show (f == 10) = true by simp [hf]]
          ((conv => whnf); repeat (refine stepK_in ?_; (repeat (first | refine seqQ_n ?_ | refine blockQ_n ?_ | refine awp_skip ?_ | refine awp_seq ?_ | refine awp_block ?_)); (conv => whnf)))
          rw [show ((n1 : Int) == 0) = true by simp [h0]]
          ((conv => whnf); repeat (refine stepK_in ?_; (repeat (first | refine seqQ_n ?_ | refine blockQ_n ?_ | refine awp_skip ?_ | refine awp_seq ?_ | refine awp_block ?_)); (conv => whnf)))
          refine APure.to fin ?_
          ((conv => whnf); repeat (refine stepK_in ?_; (repeat (first | refine seqQ_n ?_ | refine blockQ_n ?_ | refine awp_skip ?_ | refine awp_seq ?_ | refine awp_block ?_)); (conv => whnf)))
          exact ⟨trivial, rfl⟩
    · have c2 : APure Try.prog 32 [.ints false l, .int n] (fun R => R = tup2 (.ints true (prL l n ((leL l n : Int) - 1))) (.int 0) ∧ woV l n (prL l n ((leL l n : Int) - 1)) = tup2 (.int (leL l n)) (.int 0)) := APure.mono (Proof_pure l n) fun R hR => by
        refine ⟨?_, wo_pr h (by have := hR.2 h h0; rwa [Int.toNat_natCast] at this)⟩
        rw [hR.1]
        unfold prV
        rw [if_pos h, if_neg h0, Int.toNat_natCast]
      have c5 := Worth_pure l n (prL l n ((leL l n : Int) - 1))
      generalize prL l n ((leL l n : Int) - 1) = D at *
      have hp1 : (0 : Int) < leL l n := by omega
      clear h0
      generalize leL l n = n1 at *
      ((conv => whnf); repeat (refine stepK_in ?_; (repeat (first | refine seqQ_n ?_ | refine blockQ_n ?_ | refine awp_skip ?_ | refine awp_seq ?_ | refine awp_block ?_)); (conv => whnf)))
      refine AW_seqW (X := cx 123) (cx_ok 123) ?_
      ((conv => whnf); repeat (refine stepK_in ?_; (repeat (first | refine seqQ_n ?_ | refine blockQ_n ?_ | refine awp_skip ?_ | refine awp_seq ?_ | refine awp_block ?_)); (conv => whnf)))
      refine c2.mono ?_
      rintro R ⟨rfl, e5⟩
      rw [e5] at c5
      ((conv => whnf); repeat (refine stepK_in ?_; (repeat (first | refine seqQ_n ?_ | refine blockQ_n ?_ | refine awp_skip ?_ | refine awp_seq ?_ | refine awp_block ?_)); (conv => whnf)))
      refine AW_seqW (X := cx 123) (cx_ok 123) ?_
      ((conv => whnf); repeat (refine stepK_in ?_; (repeat (first | refine seqQ_n ?_ | refine blockQ_n ?_ | refine awp_skip ?_ | refine awp_seq ?_ | refine awp_block ?_)); (conv => whnf)))
      refine APure.to c3 ?_
      ((conv => whnf); repeat (refine stepK_in ?_; (repeat (first | refine seqQ_n ?_ | refine blockQ_n ?_ | refine awp_skip ?_ | refine awp_seq ?_ | refine awp_block ?_)); (conv => whnf)))
      refine AW_seqW (X := cx 123) (cx_ok 123) ?_
      ((conv => whnf); repeat (refine stepK_in ?_; (repeat (first | refine seqQ_n ?_ | refine blockQ_n ?_ | refine awp_skip ?_ | refine awp_seq ?_ | refine awp_block ?_)); (conv => whnf)))
      refine APure.to c4 ?_
      ((conv => whnf); repeat (refine stepK_in ?_; (repeat (first | refine seqQ_n ?_ | refine blockQ_n ?_ | refine awp_skip ?_ | refine awp_seq ?_ | refine awp_block ?_)); (conv => whnf)))
      refine AW_keep [0, 1, 9, 10, 11, 12, 13, 14, 15, 16, 17] [.ints false l, .int n, .int n1, .int 0, .ints true D, .int 0, .int w, .int g, .int k, .bool ok, .int 0] rfl ?_
      refine AW_seqW (X := cx 123) (cx_ok 123) ?_
      ((conv => whnf); repeat (refine stepK_in ?_; (repeat (first | refine seqQ_n ?_ | refine blockQ_n ?_ | refine awp_skip ?_ | refine awp_seq ?_ | refine awp_block ?_)); (conv => whnf)))
      by_cases hg : g = 0
      · have hw := hw hg
        rw [show (g == 0) = true by simp [hg]]
        ((conv => whnf); repeat (refine stepK_in ?_; (repeat (first | refine seqQ_n ?_ | refine blockQ_n ?_ | refine awp_skip ?_ | refine awp_seq ?_ | refine awp_block ?_)); (conv => whnf)))
        rw [decide_eq_false (show ¬ w > (n1 : Int) by omega)]
        ((conv => whnf); repeat (refine stepK_in ?_; (repeat (first | refine seqQ_n ?_ | refine blockQ_n ?_ | refine awp_skip ?_ | refine awp_seq ?_ | refine awp_block ?_)); (conv => whnf)))
        cases ok with
        | true =>
          have hk := hk rfl
          ((conv => whnf); repeat (refine stepK_in ?_; (repeat (first | refine seqQ_n ?_ | refine blockQ_n ?_ | refine awp_skip ?_ | refine awp_seq ?_ | refine awp_block ?_)); (conv => whnf)))
          rw [decide_eq_false (show ¬ k < (n1 : Int) by omega)]
          ((conv => whnf); repeat (refine stepK_in ?_; (repeat (first | refine seqQ_n ?_ | refine blockQ_n ?_ | refine awp_skip ?_ | refine awp_seq ?_ | refine awp_block ?_)); (conv => whnf)))
          refine AW_keep [0, 1, 9, 11, 12] [.ints false l, .int n, .int n1, .ints true D, .int 0] rfl ?_
          refine AW_of_awp (X := cx 123) (cx_ok 123) ?_
          ((conv => whnf); repeat (refine stepK_in ?_; (repeat (first | refine seqQ_n ?_ | refine blockQ_n ?_ | refine awp_skip ?_ | refine awp_seq ?_ | refine awp_block ?_)); (conv => whnf)))
          refine APure.to c5 ?_
          ((conv => whnf); repeat (refine stepK_in ?_; (repeat (first | refine seqQ_n ?_ | refine blockQ_n ?_ | refine awp_skip ?_ | refine awp_seq ?_ | refine awp_block ?_)); (conv => whnf)))
          rw [show ((n1 : Int) == n1) = true by simp]
          ((conv => whnf); repeat (refine stepK_in ?_; (repeat (first | refine seqQ_n ?_ | refine blockQ_n ?_ | refine awp_skip ?_ | refine awp_seq ?_ | refine awp_block ?_)); (conv => whnf)))
          rw [decide_eq_true (show (n1 : Int) > 0 by omega)]
          ((conv => whnf); repeat (refine stepK_in ?_; (repeat (first | refine seqQ_n ?_ | refine blockQ_n ?_ | refine awp_skip ?_ | refine awp_seq ?_ | refine awp_block ?_)); (conv => whnf)))
          refine APure.to fin ?_
          ((conv => whnf); repeat (refine stepK_in ?_; (repeat (first | refine seqQ_n ?_ | refine blockQ_n ?_ | refine awp_skip ?_ | refine awp_seq ?_ | refine awp_block ?_)); (conv => whnf)))
          exact ⟨trivial, rfl⟩
        | false =>
          ((conv => whnf); repeat (refine stepK_in ?_; (repeat (first | refine seqQ_n ?_ | refine blockQ_n ?_ | refine awp_skip ?_ | refine awp_seq ?_ | refine awp_block ?_)); (conv => whnf)))
          refine AW_keep [0, 1, 9, 11, 12] [.ints false l, .int n, .int n1, .ints true D, .int 0] rfl ?_
          refine AW_of_awp (X := cx 123) (cx_ok 123) ?_
          ((conv => whnf); repeat (refine stepK_in ?_; (repeat (first | refine seqQ_n ?_ | refine blockQ_n ?_ | refine awp_skip ?_ | refine awp_seq ?_ | refine awp_block ?_)); (conv => whnf)))
          refine APure.to c5 ?_
          ((conv => whnf); repeat (refine stepK_in ?_; (repeat (first | refine seqQ_n ?_ | refine blockQ_n ?_ | refine awp_skip ?_ | refine awp_seq ?_ | refine awp_block ?_)); (conv => whnf)))
          rw [show ((n1 : Int) == n1) = true by simp]
          ((conv => whnf); repeat (refine stepK_in ?_; (repeat (first | refine seqQ_n ?_ | refine blockQ_n ?_ | refine awp_skip ?_ | refine awp_seq ?_ | refine awp_block ?_)); (conv => whnf)))
          rw [decide_eq_true (show (n1 : Int) > 0 by omega)]
          ((conv => whnf); repeat (refine stepK_in ?_; (repeat (first | refine seqQ_n ?_ | refine blockQ_n ?_ | refine awp_skip ?_ | refine awp_seq ?_ | refine awp_block ?_)); (conv => whnf)))
          refine APure.to fin ?_
          ((conv => whnf); repeat (refine stepK_in ?_; (repeat (first | refine seqQ_n ?_ | refine blockQ_n ?_ | refine awp_skip ?_ | refine awp_seq ?_ | refine awp_block ?_)); (conv => whnf)))
          exact ⟨trivial, rfl⟩
      · rw [show (g == 0) = false by simp [hg]]
        ((conv => whnf); repeat (refine stepK_in ?_; (repeat (first | refine seqQ_n ?_ | refine blockQ_n ?_ | refine awp_skip ?_ | refine awp_seq ?_ | refine awp_block ?_)); (conv => whnf)))
        cases ok with
        | true =>
          have hk := hk rfl
          ((conv => whnf); repeat (refine stepK_in ?_; (repeat (first | refine seqQ_n ?_ | refine blockQ_n ?_ | refine awp_skip ?_ | refine awp_seq ?_ | refine awp_block ?_)); (conv => whnf)))
          rw [decide_eq_false (show ¬ k < (n1 : Int) by omega)]
          ((conv => whnf); repeat (refine stepK_in ?_; (repeat (first | refine seqQ_n ?_ | refine blockQ_n ?_ | refine awp_skip ?_ | refine awp_seq ?_ | refine awp_block ?_)); (conv => whnf)))
          refine AW_keep [0, 1, 9, 11, 12] [.ints false l, .int n, .int n1, .ints true D, .int 0] rfl ?_
          refine AW_of_awp (X := cx 123) (cx_ok 123) ?_
          ((conv => whnf); repeat (refine stepK_in ?_; (repeat (first | refine seqQ_n ?_ | refine blockQ_n ?_ | refine awp_skip ?_ | refine awp_seq ?_ | refine awp_block ?_)); (conv => whnf)))
          refine APure.to c5 ?_
          ((conv => whnf); repeat (refine stepK_in ?_; (repeat (first | refine seqQ_n ?_ | refine blockQ_n ?_ | refine awp_skip ?_ | refine awp_seq ?_ | refine awp_block ?_)); (conv => whnf)))
          rw [show ((n1 : Int) == n1) = true by simp]
          ((conv => whnf); repeat (refine stepK_in ?_; (repeat (first | refine seqQ_n ?_ | refine blockQ_n ?_ | refine awp_skip ?_ | refine awp_seq ?_ | refine awp_block ?_)); (conv => whnf)))
          rw [decide_eq_true (show (n1 : Int) > 0 by omega)]
          ((conv => whnf); repeat (refine stepK_in ?_; (repeat (first | refine seqQ_n ?_ | refine blockQ_n ?_ | refine awp_skip ?_ | refine awp_seq ?_ | refine awp_block ?_)); (conv => whnf)))
          refine APure.to fin ?_
          ((conv => whnf); repeat (refine stepK_in ?_; (repeat (first | refine seqQ_n ?_ | refine blockQ_n ?_ | refine awp_skip ?_ | refine awp_seq ?_ | refine awp_block ?_)); (conv => whnf)))
          exact ⟨trivial, rfl⟩
        | false =>
          ((conv => whnf); repeat (refine stepK_in ?_; (repeat (first | refine seqQ_n ?_ | refine blockQ_n ?_ | refine awp_skip ?_ | refine awp_seq ?_ | refine awp_block ?_)); (conv => whnf)))
          refine AW_keep [0, 1, 9, 11, 12] [.ints false l, .int n, .int n1, .ints true D, .int 0] rfl ?_
          refine AW_of_awp (X := cx 123) (cx_ok 123) ?_
          ((conv => whnf); repeat (refine stepK_in ?_; (repeat (first | refine seqQ_n ?_ | refine blockQ_n ?_ | refine awp_skip ?_ | refine awp_seq ?_ | refine awp_block ?_)); (conv => whnf)))
          refine APure.to c5 ?_
          ((conv => whnf); repeat (refine stepK_in ?_; (repeat (first | refine seqQ_n ?_ | refine blockQ_n ?_ | refine awp_skip ?_ | refine awp_seq ?_ | refine awp_block ?_)); (conv => whnf)))
          rw [show ((n1 : Int) == n1) = true by simp]
          ((conv => whnf); repeat (refine stepK_in ?_; (repeat (first | refine seqQ_n ?_ | refine blockQ_n ?_ | refine awp_skip ?_ | refine awp_seq ?_ | refine awp_block ?_)); (conv => whnf)))
          rw [decide_eq_true (show (n1 : Int) > 0 by omega)]
          ((conv => whnf); repeat (refine stepK_in ?_; (repeat (first | refine seqQ_n ?_ | refine blockQ_n ?_ | refine awp_skip ?_ | refine awp_seq ?_ | refine awp_block ?_)); (conv => whnf)))
          refine APure.to fin ?_
          ((conv => whnf); repeat (refine stepK_in ?_; (repeat (first | refine seqQ_n ?_ | refine blockQ_n ?_ | refine awp_skip ?_ | refine awp_seq ?_ | refine awp_block ?_)); (conv => whnf)))
          exact ⟨trivial, rfl⟩
  · rw [decide_eq_false h40]
    ((conv => whnf); repeat (refine stepK_in ?_; (repeat (first | refine seqQ_n ?_ | refine blockQ_n ?_ | refine awp_skip ?_ | refine awp_seq ?_ | refine awp_block ?_)); (conv => whnf)))
    refine APure.to fin ?_
    ((conv => whnf); repeat (refine stepK_in ?_; (repeat (first | refine seqQ_n ?_ | refine blockQ_n ?_ | refine awp_skip ?_ | refine awp_seq ?_ | refine awp_block ?_)); (conv => whnf)))
    exact ⟨trivial, rfl⟩
end Go.Tri
