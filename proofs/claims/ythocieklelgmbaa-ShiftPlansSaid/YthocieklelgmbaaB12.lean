/-
  CONTRACTS: reach, worth, Worth of the program.
-/
import Derived.Test.YthocieklelgmbaaB3
import Derived.Test.YthocieklelgmbaaM1
namespace Go.Tri
open Go.Proofs

/-- How many of the first j elements of a proof lie in the shift from x; the greatest such number of the first k starts; what they need. -/
def cnL (n long : Nat) (pr : List Int) (x j : Nat) : Int := sm j (fun i => if arH n (pr.getD i 0 - x) < long then 1 else 0)
def rcL (n long : Nat) (pr : List Int) : Nat → Int
  | 0 => 0
  | k + 1 => maxI (rcL n long pr k) (cnL n long pr k pr.length)
def ndL (l pr : List Int) (j : Nat) : Int := sm j (fun i => l.getD (pr.getD i 0).toNat 0)
def wtL (l : List Int) (long : Nat) (pr : List Int) : Int := (ndL l pr pr.length + rcL l.length long pr l.length - 1).tdiv (rcL l.length long pr l.length)
theorem cnL_bd (n long : Nat) (pr : List Int) (x : Nat) : ∀ j, 0 ≤ cnL n long pr x j ∧ cnL n long pr x j ≤ j := by
  intro j
  induction j with
  | zero => simp [cnL, sm]
  | succ j ih =>
    unfold cnL at *
    simp only [sm]
    split <;> omega
theorem rcL_bd (n long : Nat) (pr : List Int) : ∀ k, 0 ≤ rcL n long pr k ∧ rcL n long pr k ≤ pr.length := by
  intro k
  induction k with
  | zero => simp [rcL]
  | succ k ih =>
    have := cnL_bd n long pr k pr.length
    simp only [rcL]
    unfold maxI
    split <;> omega
theorem rcL_ge (n long : Nat) (pr : List Int) : ∀ k x, x < k → cnL n long pr x pr.length ≤ rcL n long pr k := by
  intro k
  induction k with
  | zero => intro x hx; omega
  | succ k ih =>
    intro x hx
    simp only [rcL]
    rcases (by omega : x < k ∨ x = k) with h | rfl
    · have := ih x h
      unfold maxI
      split <;> omega
    · unfold maxI
      split <;> omega
theorem rcL_le (n long : Nat) (pr : List Int) {C : Int} (hC : 0 ≤ C) : ∀ k, (∀ x, x < k → cnL n long pr x pr.length ≤ C) → rcL n long pr k ≤ C := by
  intro k
  induction k with
  | zero => intro _; exact hC
  | succ k ih =>
    intro h
    have h1 := ih fun x hx => h x (by omega)
    have h2 := h k (by omega)
    simp only [rcL]
    unfold maxI
    split <;> omega
theorem rcL_pos {n long : Nat} {pr : List Int} (hl1 : 1 ≤ long) (hp : isPr n pr) : 1 ≤ rcL n long pr n := by
  obtain ⟨p1, p2, p3⟩ := hp
  have h0 := p3 0 (by omega)
  refine Int.le_trans ?_ (rcL_ge n long pr n (pr.getD 0 0).toNat (by omega))
  unfold cnL
  have h1 := sm_term (k := pr.length) (a := 0) (f := fun i => if arH n (pr.getD i 0 - ((pr.getD 0 0).toNat : Nat)) < long then (1 : Int) else 0) (fun i _ => by split <;> omega) (by omega)
  have e : arH n (pr.getD 0 0 - ((pr.getD 0 0).toNat : Nat)) < long := by
    rw [arH_uniq (q := 0) (by omega) 0 (by omega)]
    omega
  rw [if_pos e] at h1
  exact h1
theorem ndL_bd {l pr : List Int} (h1 : 1 ≤ l.length) (hl : bet 0 50 l l.length) (hp : bet 0 (l.length - 1) pr pr.length) : ∀ j, j ≤ pr.length → 0 ≤ ndL l pr j ∧ ndL l pr j ≤ 50 * j := by
  intro j
  induction j with
  | zero => intro _; simp [ndL, sm]
  | succ j ih =>
    intro hj
    have := ih (by omega)
    have hq := hp j (by omega)
    have := hl (pr.getD j 0).toNat (by omega)
    unfold ndL at *
    simp only [sm]
    omega

theorem reach_pure (l : List Int) (long : Nat) (pr : List Int) (hn : Nds l) (_hl : long ≤ l.length) (hp : isPr l.length pr) :
    APure Try.prog 69 [clockV l long, .ints false pr] (fun R => R = .int (rcL l.length long pr l.length)) := by
  obtain ⟨l1, l2, l3⟩ := hn
  obtain ⟨p1, p2, p3⟩ := hp
  refine APure_of (X := cx 38) (cx_ok 38) rfl (rs := [(.tmp 4, 3)]) Try.func69 (by decide) rfl rfl rfl (by simp [cx]) (nofr2 nofrCk (by rfl)) ?_
  intro hlen
  ((conv => whnf); repeat (refine stepK_in ?_; (repeat (first | refine seqQ_n ?_ | refine blockQ_n ?_ | refine awp_skip ?_ | refine awp_seq ?_ | refine awp_block ?_)); (conv => whnf)))
  refine AW_loop (X := cx 38) (cx_ok 38) [1, 2, 5, 12, 13] (fun vs M => ∃ k : Nat, k ≤ l.length ∧ vs = [.ints false pr, .ptr 0 0 0 0, .int (rcL l.length long pr k), .int l.length, .int k] ∧ M = [some ⟨50, 2, 0, .one [.ints false l, .int long]⟩])
    (fun vs _ => l.length - (vs.getD 4 .any).toInt.toNat) ?_ ?_
  · exact ⟨0, Nat.zero_le _, rfl, rfl⟩
  rintro vs M ⟨k, hk, rfl, rfl⟩
  ((conv => whnf); repeat (refine stepK_in ?_; (repeat (first | refine seqQ_n ?_ | refine blockQ_n ?_ | refine awp_skip ?_ | refine awp_seq ?_ | refine awp_block ?_)); (conv => whnf)))
  refine br_dec (fun hlt => ?_) (fun hge => ?_)
  · have hk' : k < l.length := by omega
    have hnx : rcL l.length long pr (k + 1) = maxI (rcL l.length long pr k) (cnL l.length long pr k pr.length) := rfl
    generalize rcL l.length long pr k = r at *
    ((conv => whnf); repeat (refine stepK_in ?_; (repeat (first | refine seqQ_n ?_ | refine blockQ_n ?_ | refine awp_skip ?_ | refine awp_seq ?_ | refine awp_block ?_)); (conv => whnf)))
    refine AW_loop (X := cx 38) (cx_ok 38) [1, 2, 5, 6, 7, 12, 13, 16, 17, 18] (fun vs M => ∃ j : Nat, j ≤ pr.length ∧ vs = [.ints false pr, .ptr 0 0 0 0, .int r, .int k, .int (cnL l.length long pr k j), .int l.length, .int k, .ints false pr, .int pr.length, .int j] ∧ M = [some ⟨50, 2, 0, .one [.ints false l, .int long]⟩])
      (fun vs _ => pr.length - (vs.getD 9 .any).toInt.toNat) ?_ ?_
    · exact ⟨0, Nat.zero_le _, rfl, rfl⟩
    rintro vs M ⟨j, hj, rfl, rfl⟩
    ((conv => whnf); repeat (refine stepK_in ?_; (repeat (first | refine seqQ_n ?_ | refine blockQ_n ?_ | refine awp_skip ?_ | refine awp_seq ?_ | refine awp_block ?_)); (conv => whnf)))
    refine br_dec (fun hlt2 => ?_) (fun hge2 => ?_)
    · have hj' : j < pr.length := by omega
      have hpj := p3 j hj'
      have hb := cnL_bd l.length long pr k j
      have hnj : cnL l.length long pr k (j + 1) = cnL l.length long pr k j + (if arH l.length (pr.getD j 0 - k) < long then 1 else 0) := rfl
      have hc := around_pure l long (pr.getD j 0 - k) l1 l2 (by omega)
      generalize cnL l.length long pr k j = c at *
      generalize arH l.length (pr.getD j 0 - k) = a at *
      ((conv => whnf); repeat (refine stepK_in ?_; (repeat (first | refine seqQ_n ?_ | refine blockQ_n ?_ | refine awp_skip ?_ | refine awp_seq ?_ | refine awp_block ?_)); (conv => whnf)))
      repeat ((first | refine ⟨by omega, ?_⟩ | refine ⟨inr (by omega), ?_⟩); ((conv => whnf); repeat (refine stepK_in ?_; (repeat (first | refine seqQ_n ?_ | refine blockQ_n ?_ | refine awp_skip ?_ | refine awp_seq ?_ | refine awp_block ?_)); (conv => whnf))))
      refine AW_draw (X := cx 38) (cx_ok 38) mixed (by kernel_rfl) ?_
      ((conv => whnf); repeat (refine stepK_in ?_; (repeat (first | refine seqQ_n ?_ | refine blockQ_n ?_ | refine awp_skip ?_ | refine awp_seq ?_ | refine awp_block ?_)); (conv => whnf)))
      refine ⟨inr (show -9223372036854775808 ≤ pr.getD (j : Int).toNat 0 - (k : Int) ∧ pr.getD (j : Int).toNat 0 - (k : Int) ≤ 9223372036854775807 by rw [Int.toNat_natCast]; omega), ?_⟩
      ((conv => whnf); repeat (refine stepK_in ?_; (repeat (first | refine seqQ_n ?_ | refine blockQ_n ?_ | refine awp_skip ?_ | refine awp_seq ?_ | refine awp_block ?_)); (conv => whnf)))
      refine ⟨_, APure.arg2 (subCk rfl rfl) (Sub.refl _) hc, ?_⟩
      ((conv => whnf); repeat (refine stepK_in ?_; (repeat (first | refine seqQ_n ?_ | refine blockQ_n ?_ | refine awp_skip ?_ | refine awp_seq ?_ | refine awp_block ?_)); (conv => whnf)))
      refine br_dec (fun hb2 => ?_) (fun hb2 => ?_)
      · rw [if_pos (show a < long by omega)] at hnj
        ((conv => whnf); repeat (refine stepK_in ?_; (repeat (first | refine seqQ_n ?_ | refine blockQ_n ?_ | refine awp_skip ?_ | refine awp_seq ?_ | refine awp_block ?_)); (conv => whnf)))
        repeat ((first | refine ⟨by omega, ?_⟩ | refine ⟨inr (by omega), ?_⟩); ((conv => whnf); repeat (refine stepK_in ?_; (repeat (first | refine seqQ_n ?_ | refine blockQ_n ?_ | refine awp_skip ?_ | refine awp_seq ?_ | refine awp_block ?_)); (conv => whnf))))
        refine ⟨⟨j + 1, by omega, ?_, rfl⟩, ?_⟩
        · rw [hnj]; rfl
        · simp [V.toInt, sel, Env.get]; omega
      · rw [if_neg (show ¬ a < long by omega), Int.add_zero] at hnj
        ((conv => whnf); repeat (refine stepK_in ?_; (repeat (first | refine seqQ_n ?_ | refine blockQ_n ?_ | refine awp_skip ?_ | refine awp_seq ?_ | refine awp_block ?_)); (conv => whnf)))
        repeat ((first | refine ⟨by omega, ?_⟩ | refine ⟨inr (by omega), ?_⟩); ((conv => whnf); repeat (refine stepK_in ?_; (repeat (first | refine seqQ_n ?_ | refine blockQ_n ?_ | refine awp_skip ?_ | refine awp_seq ?_ | refine awp_block ?_)); (conv => whnf))))
        refine ⟨⟨j + 1, by omega, ?_, rfl⟩, ?_⟩
        · rw [hnj]; rfl
        · simp [V.toInt, sel, Env.get]; omega
    · obtain rfl : j = pr.length := by omega
      ((conv => whnf); repeat (refine stepK_in ?_; (repeat (first | refine seqQ_n ?_ | refine blockQ_n ?_ | refine awp_skip ?_ | refine awp_seq ?_ | refine awp_block ?_)); (conv => whnf)))
      refine ⟨inr (by omega), ?_⟩
      ((conv => whnf); repeat (refine stepK_in ?_; (repeat (first | refine seqQ_n ?_ | refine blockQ_n ?_ | refine awp_skip ?_ | refine awp_seq ?_ | refine awp_block ?_)); (conv => whnf)))
      refine ⟨⟨k + 1, by omega, ?_, rfl⟩, ?_⟩
      · rw [hnx]; rfl
      · simp [V.toInt, sel, Env.get]; omega
  · obtain rfl : k = l.length := by omega
    ((conv => whnf); repeat (refine stepK_in ?_; (repeat (first | refine seqQ_n ?_ | refine blockQ_n ?_ | refine awp_skip ?_ | refine awp_seq ?_ | refine awp_block ?_)); (conv => whnf)))
    exact ⟨trivial, rfl⟩

theorem worth_pure (l : List Int) (long : Nat) (pr : List Int) (hn : Nds l) (hl1 : 1 ≤ long) (hl : long ≤ l.length) (hp : isPr l.length pr) :
    APure Try.prog 52 [clockV l long, .ints false pr] (fun R => R = .int (wtL l long pr)) := by
  have hr := reach_pure l long pr hn hl hp
  have hrb := rcL_bd l.length long pr l.length
  have hrp := rcL_pos hl1 hp
  have he : wtL l long pr = (ndL l pr pr.length + rcL l.length long pr l.length - 1).tdiv (rcL l.length long pr l.length) := rfl
  obtain ⟨l1, l2, l3⟩ := hn
  obtain ⟨p1, p2, p3⟩ := hp
  generalize rcL l.length long pr l.length = r at *
  refine APure_of (X := cx 32) (cx_ok 32) rfl (rs := [(.tmp 4, 3)]) Try.func52 (by decide) rfl rfl rfl (by simp [cx]) (nofr2 nofrCk (by rfl)) ?_
  intro hlen
  ((conv => whnf); repeat (refine stepK_in ?_; (repeat (first | refine seqQ_n ?_ | refine blockQ_n ?_ | refine awp_skip ?_ | refine awp_seq ?_ | refine awp_block ?_)); (conv => whnf)))
  refine AW_loop (X := cx 32) (cx_ok 32) [1, 2, 5, 9, 10, 11] (fun vs M => ∃ j : Nat, j ≤ pr.length ∧ vs = [.ints false pr, .ptr 0 0 0 0, .int (ndL l pr j), .ints false pr, .int pr.length, .int j] ∧ M = [some ⟨50, 2, 0, .one [.ints false l, .int long]⟩])
    (fun vs _ => pr.length - (vs.getD 5 .any).toInt.toNat) ?_ ?_
  · exact ⟨0, Nat.zero_le _, rfl, rfl⟩
  rintro vs M ⟨j, hj, rfl, rfl⟩
  have hnb := ndL_bd l1 l3 p3 j hj
  ((conv => whnf); repeat (refine stepK_in ?_; (repeat (first | refine seqQ_n ?_ | refine blockQ_n ?_ | refine awp_skip ?_ | refine awp_seq ?_ | refine awp_block ?_)); (conv => whnf)))
  refine br_dec (fun hlt => ?_) (fun hge => ?_)
  · have hj' : j < pr.length := by omega
    have hpj := p3 j hj'
    have hlp := l3 (pr.getD j 0).toNat (by omega)
    have hnj : ndL l pr (j + 1) = ndL l pr j + l.getD (pr.getD j 0).toNat 0 := rfl
    generalize ndL l pr j = s at *
    ((conv => whnf); repeat (refine stepK_in ?_; (repeat (first | refine seqQ_n ?_ | refine blockQ_n ?_ | refine awp_skip ?_ | refine awp_seq ?_ | refine awp_block ?_)); (conv => whnf)))
    repeat ((first | refine ⟨by omega, ?_⟩ | refine ⟨inr (by omega), ?_⟩); ((conv => whnf); repeat (refine stepK_in ?_; (repeat (first | refine seqQ_n ?_ | refine blockQ_n ?_ | refine awp_skip ?_ | refine awp_seq ?_ | refine awp_block ?_)); (conv => whnf))))
    refine ⟨(show 0 ≤ pr.getD (j : Int).toNat 0 by rw [Int.toNat_natCast]; omega), ?_⟩
    refine ⟨(show pr.getD (j : Int).toNat 0 < (l.length : Int) by rw [Int.toNat_natCast]; omega), ?_⟩
    ((conv => whnf); repeat (refine stepK_in ?_; (repeat (first | refine seqQ_n ?_ | refine blockQ_n ?_ | refine awp_skip ?_ | refine awp_seq ?_ | refine awp_block ?_)); (conv => whnf)))
    refine ⟨inr (show -9223372036854775808 ≤ s + l.getD (pr.getD (j : Int).toNat 0).toNat 0 ∧ s + l.getD (pr.getD (j : Int).toNat 0).toNat 0 ≤ 9223372036854775807 by rw [Int.toNat_natCast]; omega), ?_⟩
    ((conv => whnf); repeat (refine stepK_in ?_; (repeat (first | refine seqQ_n ?_ | refine blockQ_n ?_ | refine awp_skip ?_ | refine awp_seq ?_ | refine awp_block ?_)); (conv => whnf)))
    repeat ((first | refine ⟨by omega, ?_⟩ | refine ⟨inr (by omega), ?_⟩); ((conv => whnf); repeat (refine stepK_in ?_; (repeat (first | refine seqQ_n ?_ | refine blockQ_n ?_ | refine awp_skip ?_ | refine awp_seq ?_ | refine awp_block ?_)); (conv => whnf))))
    refine ⟨⟨j + 1, by omega, ?_, rfl⟩, ?_⟩
    · rw [hnj]; rfl
    · simp [V.toInt, sel, Env.get]; omega
  · obtain rfl : j = pr.length := by omega
    have hq : -9223372036854775808 ≤ (ndL l pr pr.length + r - 1).tdiv r ∧ (ndL l pr pr.length + r - 1).tdiv r ≤ 9223372036854775807 := by
      have h0 : 0 ≤ ndL l pr pr.length + r - 1 := by omega
      rw [Int.tdiv_eq_ediv_of_nonneg h0]
      have := Int.ediv_nonneg h0 (show 0 ≤ r by omega)
      have := Int.ediv_le_self r h0
      omega
    ((conv => whnf); repeat (refine stepK_in ?_; (repeat (first | refine seqQ_n ?_ | refine blockQ_n ?_ | refine awp_skip ?_ | refine awp_seq ?_ | refine awp_block ?_)); (conv => whnf)))
    refine APure.to (APure.arg2 (subCk rfl rfl) (Sub.refl _) hr) ?_
    ((conv => whnf); repeat (refine stepK_in ?_; (repeat (first | refine seqQ_n ?_ | refine blockQ_n ?_ | refine awp_skip ?_ | refine awp_seq ?_ | refine awp_block ?_)); (conv => whnf)))
    repeat ((first | refine ⟨by omega, ?_⟩ | refine ⟨inr (by omega), ?_⟩); ((conv => whnf); repeat (refine stepK_in ?_; (repeat (first | refine seqQ_n ?_ | refine blockQ_n ?_ | refine awp_skip ?_ | refine awp_seq ?_ | refine awp_block ?_)); (conv => whnf))))
    exact ⟨trivial, Qi he.symm⟩

open Classical in
noncomputable def woV (l : List Int) (long : Int) (pr : List Int) : V := if dayE l long = 0 then (if isPr l.length pr then tup2 (.int (wtL l long.toNat pr)) (.int 0) else tup2 (.int 0) (.int 2)) else tup2 (.int 0) (.int (dayE l long))
open Classical in
theorem Worth_pure (l : List Int) (long : Int) (pr : List Int) : APure Try.prog 30 [.ints false l, .int long, .ints false pr] (fun R => R = woV l long pr) := by
  refine APure_of (X := cx 25) (cx_ok 25) rfl (rs := [(.tmp 6, 3), (.tmp 7, 25)]) Try.func30 (by decide) rfl rfl rfl (by simp [cx]) (by simp [NoFr]) ?_
  intro hlen
  have c1 : dayE l long ≠ 0 → tup2 (.int 0) (.int (dayE l long)) = woV l long pr := fun h => by unfold woV; rw [if_neg h]
  have c2 : dayE l long = 0 → ¬ isPr l.length pr → tup2 (.int 0) (.int 2) = woV l long pr := fun h h' => by unfold woV; rw [if_pos h, if_neg h']
  have c3 : dayE l long = 0 → isPr l.length pr → tup2 (.int (wtL l long.toNat pr)) (.int 0) = woV l long pr := fun h h' => by unfold woV; rw [if_pos h, if_pos h']
  generalize woV l long pr = E at *
  ((conv => whnf); repeat (refine stepK_in ?_; (repeat (first | refine seqQ_n ?_ | refine blockQ_n ?_ | refine awp_skip ?_ | refine awp_seq ?_ | refine awp_block ?_)); (conv => whnf)))
  refine APure.to (checkShifts_pure l long) ?_
  ((conv => whnf); repeat (refine stepK_in ?_; (repeat (first | refine seqQ_n ?_ | refine blockQ_n ?_ | refine awp_skip ?_ | refine awp_seq ?_ | refine awp_block ?_)); (conv => whnf)))
  refine br_ne (fun h => ?_) (fun h => ?_)
  · ((conv => whnf); repeat (refine stepK_in ?_; (repeat (first | refine seqQ_n ?_ | refine blockQ_n ?_ | refine awp_skip ?_ | refine awp_seq ?_ | refine awp_block ?_)); (conv => whnf)))
    exact ⟨trivial, trivial, c1 h⟩
  obtain ⟨hn, hl1, hl2⟩ := dayE_inv h
  ((conv => whnf); repeat (refine stepK_in ?_; (repeat (first | refine seqQ_n ?_ | refine blockQ_n ?_ | refine awp_skip ?_ | refine awp_seq ?_ | refine awp_block ?_)); (conv => whnf)))
  refine APure.to (isProof_pure pr l.length) ?_
  ((conv => whnf); repeat (refine stepK_in ?_; (repeat (first | refine seqQ_n ?_ | refine blockQ_n ?_ | refine awp_skip ?_ | refine awp_seq ?_ | refine awp_block ?_)); (conv => whnf)))
  by_cases hp : isPr l.length pr
  · rw [decide_eq_true hp]
    have hs := worth_pure l long.toNat pr hn (by omega) (by omega) hp
    rw [show ((long.toNat : Nat) : Int) = long by omega] at hs
    ((conv => whnf); repeat (refine stepK_in ?_; (repeat (first | refine seqQ_n ?_ | refine blockQ_n ?_ | refine awp_skip ?_ | refine awp_seq ?_ | refine awp_block ?_)); (conv => whnf)))
    refine APure.to (APure.arg2 (subCk rfl rfl) (Sub.refl _) hs) ?_
    ((conv => whnf); repeat (refine stepK_in ?_; (repeat (first | refine seqQ_n ?_ | refine blockQ_n ?_ | refine awp_skip ?_ | refine awp_seq ?_ | refine awp_block ?_)); (conv => whnf)))
    exact ⟨trivial, trivial, c3 h hp⟩
  · rw [decide_eq_false hp]
    ((conv => whnf); repeat (refine stepK_in ?_; (repeat (first | refine seqQ_n ?_ | refine blockQ_n ?_ | refine awp_skip ?_ | refine awp_seq ?_ | refine awp_block ?_)); (conv => whnf)))
    exact ⟨trivial, trivial, c2 h hp⟩
end Go.Tri
