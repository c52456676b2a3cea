/-
  CONTRACTS: the reference's there, Spare and Enough.
-/
import Derived.Test.YtciefpkelgjboaaM4
namespace Go.Tri
open Go.Proofs

theorem there_pure (l p : List Int) (long h : Nat) (hn : Nds l) (hl : long ≤ l.length) (hp : isPl l.length p) (hh : h < l.length) :
    APure Try.prog 42 [.ints false p, .int long, .int h] (fun R => R = .int (cov l.length long (fun i => p.getD i 0) h)) := by
  obtain ⟨n1, n2, n3⟩ := hn
  obtain ⟨p1, p2⟩ := hp
  rw [cov_eq n1 hl]
  refine APure_of (X := cx 29) (cx_ok 29) rfl (rs := [(.tmp 6, 3)]) Try.func42 (by decide) rfl rfl rfl (by simp [cx]) (by simp [NoFr]) ?_
  intro hlen
  ((conv => whnf); repeat (refine stepK_in ?_; (repeat (first | refine seqQ_n ?_ | refine blockQ_n ?_ | refine awp_skip ?_ | refine awp_seq ?_ | refine awp_block ?_)); (conv => whnf)))
  refine AW_loop (X := cx 29) (cx_ok 29) [0, 1, 2, 7, 8] (fun vs M => ∃ k : Nat, k ≤ long ∧ vs = [.ints false p, .int long, .int h, .int (sm k (fun k => p.getD (arH l.length ((h : Int) - k)) 0)), .int k] ∧ M = [])
    (fun vs _ => long - (vs.getD 4 .any).toInt.toNat) ?_ ?_
  · exact ⟨0, Nat.zero_le _, rfl, rfl⟩
  rintro vs M ⟨k, hk, rfl, rfl⟩
  have hb : 0 ≤ sm k (fun k => p.getD (arH l.length ((h : Int) - k)) 0) ∧ sm k (fun k => p.getD (arH l.length ((h : Int) - k)) 0) ≤ 600 * k := by
    constructor
    · exact sm_nn fun i _ => (p2 _ (by rw [p1]; exact arH_lt n1 _)).1
    · rw [← sm_const]
      exact sm_le fun i _ => (p2 _ (by rw [p1]; exact arH_lt n1 _)).2
  ((conv => whnf); repeat (refine stepK_in ?_; (repeat (first | refine seqQ_n ?_ | refine blockQ_n ?_ | refine awp_skip ?_ | refine awp_seq ?_ | refine awp_block ?_)); (conv => whnf)))
  refine br_dec (fun hlt => ?_) (fun hge => ?_)
  · have hk' : k < long := by omega
    have hq : ((h : Int) - k + p.length).tmod p.length = arH l.length ((h : Int) - k) := by
      rw [p1, Int.tmod_eq_emod_of_nonneg (by omega), Int.add_emod_right, arH_val n1]
    have har := arH_lt n1 ((h : Int) - k)
    have hpa := p2 (arH l.length ((h : Int) - k)) (by rw [p1]; exact har)
    have hnx : sm (k + 1) (fun k => p.getD (arH l.length ((h : Int) - k)) 0) = sm k (fun k => p.getD (arH l.length ((h : Int) - k)) 0) + p.getD (arH l.length ((h : Int) - k)) 0 := rfl
    generalize sm k (fun k => p.getD (arH l.length ((h : Int) - k)) 0) = s at *
    generalize arH l.length ((h : Int) - k) = a at *
    ((conv => whnf); repeat (refine stepK_in ?_; (repeat (first | refine seqQ_n ?_ | refine blockQ_n ?_ | refine awp_skip ?_ | refine awp_seq ?_ | refine awp_block ?_)); (conv => whnf)))
    repeat ((first | refine ⟨by omega, ?_⟩ | refine ⟨inr (by omega), ?_⟩); ((conv => whnf); repeat (refine stepK_in ?_; (repeat (first | refine seqQ_n ?_ | refine blockQ_n ?_ | refine awp_skip ?_ | refine awp_seq ?_ | refine awp_block ?_)); (conv => whnf))))
    rw [hq]
    repeat ((first | refine ⟨by omega, ?_⟩ | refine ⟨inr (by omega), ?_⟩); ((conv => whnf); repeat (refine stepK_in ?_; (repeat (first | refine seqQ_n ?_ | refine blockQ_n ?_ | refine awp_skip ?_ | refine awp_seq ?_ | refine awp_block ?_)); (conv => whnf))))
    refine ⟨inr (show -9223372036854775808 ≤ s + p.getD (a : Int).toNat 0 ∧ s + p.getD (a : Int).toNat 0 ≤ 9223372036854775807 by rw [Int.toNat_natCast]; omega), ?_⟩
    ((conv => whnf); repeat (refine stepK_in ?_; (repeat (first | refine seqQ_n ?_ | refine blockQ_n ?_ | refine awp_skip ?_ | refine awp_seq ?_ | refine awp_block ?_)); (conv => whnf)))
    repeat ((first | refine ⟨by omega, ?_⟩ | refine ⟨inr (by omega), ?_⟩); ((conv => whnf); repeat (refine stepK_in ?_; (repeat (first | refine seqQ_n ?_ | refine blockQ_n ?_ | refine awp_skip ?_ | refine awp_seq ?_ | refine awp_block ?_)); (conv => whnf))))
    refine ⟨⟨k + 1, by omega, ?_, rfl⟩, ?_⟩
    · rw [hnx]; rfl
    · simp [V.toInt, sel, Env.get]; omega
  · obtain rfl : k = long := by omega
    ((conv => whnf); repeat (refine stepK_in ?_; (repeat (first | refine seqQ_n ?_ | refine blockQ_n ?_ | refine awp_skip ?_ | refine awp_seq ?_ | refine awp_block ?_)); (conv => whnf)))
    exact ⟨trivial, rfl⟩

theorem cov_bd {l p : List Int} {long : Nat} (hn : Nds l) (hp : isPl l.length p) (y : Int) : 0 ≤ cov l.length long (fun i => p.getD i 0) y ∧ cov l.length long (fun i => p.getD i 0) y ≤ 7200 := by
  have hnn : ∀ i, i < l.length → 0 ≤ p.getD i 0 := fun i hi => (hp.2 i (by rw [hp.1]; exact hi)).1
  refine ⟨cov_nn hnn y, Int.le_trans (cov_le hnn y) ?_⟩
  have h1 : sm l.length (fun i => p.getD i 0) ≤ sm l.length (fun _ => (600 : Int)) := sm_le fun i hi => (hp.2 i (by rw [hp.1]; exact hi)).2
  rw [sm_const] at h1
  have := hn.2.1
  omega

@[reducible] def nn11 (r : Mem) : Mem := none :: none :: none :: none :: none :: none :: none :: none :: none :: none :: none :: r
def OutS (L : List Int) (k : Nat) (o : V) (M : Mem) : Prop := (k = 0 ∧ o = .emp true ∧ M = []) ∨ (1 ≤ k ∧ ∃ ver, o = .sl 11 ver 0 k ∧ M = nn11 [some ⟨3, 1, ver, .il (L.take k)⟩])
set_option maxRecDepth 100000 in
open Classical in
theorem refSpare_pure (l : List Int) (long : Int) (p : List Int) : APure Try.prog 20 [.ints false l, .int long, .ints false p] (fun R => R = spV l long p) := by
  refine APure_of (X := cx 41) (cx_ok 41) rfl (rs := [(.tmp 6, 22), (.tmp 7, 25)]) Try.func20 (by decide) rfl rfl rfl (by simp [cx]) (by simp [NoFr]) ?_
  intro hlen
  have c1 : dayE l long ≠ 0 → tup2 (.ints true []) (.int (dayE l long)) = spV l long p := fun h => by unfold spV; rw [if_neg h]
  have c2 : dayE l long = 0 → ¬ isPl l.length p → tup2 (.ints true []) (.int 2) = spV l long p := fun h h' => by unfold spV; rw [if_pos h, if_neg h']
  have c3 : dayE l long = 0 → isPl l.length p → tup2 (.ints true (spOut l p long.toNat l.length)) (.int 0) = spV l long p := fun h h' => by unfold spV; rw [if_pos h, if_pos h']
  generalize spV l long p = E at *
  ((conv => whnf); repeat (refine stepK_in ?_; (repeat (first | refine seqQ_n ?_ | refine blockQ_n ?_ | refine awp_skip ?_ | refine awp_seq ?_ | refine awp_block ?_)); (conv => whnf)))
  refine APure.to (refDay_pure l long) ?_
  ((conv => whnf); repeat (refine stepK_in ?_; (repeat (first | refine seqQ_n ?_ | refine blockQ_n ?_ | refine awp_skip ?_ | refine awp_seq ?_ | refine awp_block ?_)); (conv => whnf)))
  refine br_ne (fun h => ?_) (fun h => ?_)
  · ((conv => whnf); repeat (refine stepK_in ?_; (repeat (first | refine seqQ_n ?_ | refine blockQ_n ?_ | refine awp_skip ?_ | refine awp_seq ?_ | refine awp_block ?_)); (conv => whnf)))
    exact ⟨rfl, trivial, c1 h⟩
  obtain ⟨hn, hl1, hl2⟩ := dayE_inv h
  obtain ⟨n, rfl⟩ : ∃ n : Nat, long = n := ⟨long.toNat, by omega⟩
  rw [Int.toNat_natCast] at c3
  have n11 := hn.1
  have n12 := hn.2.1
  ((conv => whnf); repeat (refine stepK_in ?_; (repeat (first | refine seqQ_n ?_ | refine blockQ_n ?_ | refine awp_skip ?_ | refine awp_seq ?_ | refine awp_block ?_)); (conv => whnf)))
  refine APure.to (refIsPlan_pure l.length p) ?_
  ((conv => whnf); repeat (refine stepK_in ?_; (repeat (first | refine seqQ_n ?_ | refine blockQ_n ?_ | refine awp_skip ?_ | refine awp_seq ?_ | refine awp_block ?_)); (conv => whnf)))
  by_cases hp : isPl l.length p
  · rw [decide_eq_true hp]
    have c3 := c3 h hp
    have hlo := spOut_len l p n l.length
    have hge := fun x (hx : x < l.length) => spare_cov (p := p) (long := n) n11 (by omega) hx
    have hcb := fun y => cov_bd (long := n) hn hp y
    have hth := fun x (hx : x < l.length) => there_pure l p n x hn (by omega) hp hx
    generalize spOut l p n l.length = L at *
    ((conv => whnf); repeat (refine stepK_in ?_; (repeat (first | refine seqQ_n ?_ | refine blockQ_n ?_ | refine awp_skip ?_ | refine awp_seq ?_ | refine awp_block ?_)); (conv => whnf)))
    refine AW_loopA (X := cx 41) (cx_ok 41) [0, 1, 2, 9, 10] (fun t => Nat.beq t 11) (fun vs M => ∃ (k : Nat) (o : V), k ≤ l.length ∧ OutS L k o M ∧ vs = [.ints false l, .int n, .ints false p, o, .int k])
      (fun vs _ => l.length - (vs.getD 4 .any).toInt.toNat) (fun t ht => absurd ht (by simp)) ?_ ?_
    · exact same0 ⟨0, .emp true, Nat.zero_le _, .inl ⟨rfl, rfl, rfl⟩, rfl⟩
    rintro vs M ⟨k, o, hk, hO, rfl⟩
    ((conv => whnf); repeat (refine stepK_in ?_; (repeat (first | refine seqQ_n ?_ | refine blockQ_n ?_ | refine awp_skip ?_ | refine awp_seq ?_ | refine awp_block ?_)); (conv => whnf)))
    refine br_dec (fun hlt => ?_) (fun hge2 => ?_)
    · have hk' : k < l.length := by omega
      have hlk := hn.2.2 k hk'
      have e1 := hge k hk'
      have b1 := hcb k
      have c4 := hth k hk'
      have hmt : L.take (k + 1) = L.take k ++ [L.getD k 0] := take_succ_getD _ _ (by omega)
      rw [e1] at hmt
      have hml : (L.take k).length = k := by rw [List.length_take]; omega
      generalize cov l.length n (fun i => p.getD i 0) k = cv at *
      rcases hO with ⟨rfl, rfl, rfl⟩ | ⟨hk1, ver, rfl, rfl⟩
      · ((conv => whnf); repeat (refine stepK_in ?_; (repeat (first | refine seqQ_n ?_ | refine blockQ_n ?_ | refine awp_skip ?_ | refine awp_seq ?_ | refine awp_block ?_)); (conv => whnf)))
        refine AW_draw (X := cx 41) (cx_ok 41) mixed (by kernel_rfl) ?_
        ((conv => whnf); repeat (refine stepK_in ?_; (repeat (first | refine seqQ_n ?_ | refine blockQ_n ?_ | refine awp_skip ?_ | refine awp_seq ?_ | refine awp_block ?_)); (conv => whnf)))
        refine ⟨_, c4, ?_⟩
        ((conv => whnf); repeat (refine stepK_in ?_; (repeat (first | refine seqQ_n ?_ | refine blockQ_n ?_ | refine awp_skip ?_ | refine awp_seq ?_ | refine awp_block ?_)); (conv => whnf)))
        repeat ((first | refine ⟨by omega, ?_⟩ | refine ⟨inr (by omega), ?_⟩ | refine ⟨inr (show -9223372036854775808 ≤ cv - l.getD ((0 : Nat) : Int).toNat 0 ∧ cv - l.getD ((0 : Nat) : Int).toNat 0 ≤ 9223372036854775807 by rw [Int.toNat_natCast]; omega), ?_⟩ | refine ⟨ms1, ?_⟩); ((conv => whnf); repeat (refine stepK_in ?_; (repeat (first | refine seqQ_n ?_ | refine blockQ_n ?_ | refine awp_skip ?_ | refine awp_seq ?_ | refine awp_block ?_)); (conv => whnf))))
        refine ⟨by repeat (first | exact trivial | exact rfl | exact fun _ => trivial | exact fun _ _ => trivial | exact fun _ _ _ => trivial | exact fun _ _ _ _ => trivial | refine And.intro ?_ ?_), memA1 (nn11 [some ⟨3, 1, 0, .il (L.take 1)⟩]) ⟨ObSub.ii (by rw [hmt]; rfl), trivial⟩ ⟨⟨1, _, by omega, .inr ⟨Nat.le_refl _, 0, rfl, rfl⟩, rfl⟩, ?_⟩⟩
        simp [V.toInt, sel, Env.get]; omega
      · ((conv => whnf); repeat (refine stepK_in ?_; (repeat (first | refine seqQ_n ?_ | refine blockQ_n ?_ | refine awp_skip ?_ | refine awp_seq ?_ | refine awp_block ?_)); (conv => whnf)))
        refine AW_draw (X := cx 41) (cx_ok 41) mixed (by kernel_rfl) ?_
        ((conv => whnf); repeat (refine stepK_in ?_; (repeat (first | refine seqQ_n ?_ | refine blockQ_n ?_ | refine awp_skip ?_ | refine awp_seq ?_ | refine awp_block ?_)); (conv => whnf)))
        refine ⟨_, c4, ?_⟩
        ((conv => whnf); repeat (refine stepK_in ?_; (repeat (first | refine seqQ_n ?_ | refine blockQ_n ?_ | refine awp_skip ?_ | refine awp_seq ?_ | refine awp_block ?_)); (conv => whnf)))
        repeat ((first | refine ⟨by omega, ?_⟩ | refine ⟨inr (by omega), ?_⟩ | refine ⟨inr (show -9223372036854775808 ≤ cv - l.getD (k : Int).toNat 0 ∧ cv - l.getD (k : Int).toNat 0 ≤ 9223372036854775807 by rw [Int.toNat_natCast]; omega), ?_⟩ | refine eqn_self ?_ | refine ⟨msk (by omega), ?_⟩); ((conv => whnf); repeat (refine stepK_in ?_; (repeat (first | refine seqQ_n ?_ | refine blockQ_n ?_ | refine awp_skip ?_ | refine awp_seq ?_ | refine awp_block ?_)); (conv => whnf))))
        refine ⟨by repeat (first | exact trivial | exact rfl | exact fun _ => trivial | exact fun _ _ => trivial | exact fun _ _ _ => trivial | exact fun _ _ _ _ => trivial | refine And.intro ?_ ?_), memA1 (nn11 [some ⟨3, 1, ver + 1, .il (L.take (k + 1))⟩]) ⟨ObSub.ii (by rw [hmt, List.take_of_length_le (show (L.take k).length ≤ k by omega)]; rfl), trivial⟩ ⟨⟨k + 1, _, by omega, .inr ⟨by omega, ver + 1, rfl, rfl⟩, rfl⟩, ?_⟩⟩
        simp [V.toInt, sel, Env.get]; omega
    · obtain rfl : k = l.length := by omega
      rcases hO with ⟨h0, _, _⟩ | ⟨hk1, ver, rfl, rfl⟩
      · omega
      rw [List.take_of_length_le (by omega)]
      ((conv => whnf); repeat (refine stepK_in ?_; (repeat (first | refine seqQ_n ?_ | refine blockQ_n ?_ | refine awp_skip ?_ | refine awp_seq ?_ | refine awp_block ?_)); (conv => whnf)))
      refine eqn_self ?_
      refine ⟨rfl, trivial, Eq.trans (Q2 (Ql ?_) rfl) c3⟩
      rw [List.drop_zero, List.take_of_length_le (by omega)]
  · rw [decide_eq_false hp]
    ((conv => whnf); repeat (refine stepK_in ?_; (repeat (first | refine seqQ_n ?_ | refine blockQ_n ?_ | refine awp_skip ?_ | refine awp_seq ?_ | refine awp_block ?_)); (conv => whnf)))
    exact ⟨rfl, trivial, c2 h hp⟩

/-- Is the plan enough at the first k hours? -/
def okB (l : List Int) (c : Nat → Int) : Nat → Bool
  | 0 => true
  | k + 1 => okB l c k && decide (c k ≥ l.getD k 0)
theorem okB_iff (l : List Int) (c : Nat → Int) : ∀ k, okB l c k = true ↔ ∀ y, y < k → l.getD y 0 ≤ c y := by
  intro k
  induction k with
  | zero => exact ⟨fun _ y hy => absurd hy (by omega), fun _ => rfl⟩
  | succ k ih =>
    simp only [okB, Bool.and_eq_true, ih, decide_eq_true_eq]
    constructor
    · rintro ⟨h1, h2⟩ y hy
      rcases (by omega : y < k ∨ y = k) with h | rfl
      · exact h1 y h
      · exact h2
    · intro h
      exact ⟨fun y hy => h y (by omega), h k (by omega)⟩
set_option maxRecDepth 100000 in
open Classical in
theorem refEnough_pure (l : List Int) (long : Int) (p : List Int) : APure Try.prog 18 [.ints false l, .int long, .ints false p] (fun R => R = enV l long p) := by
  refine APure_of (X := cx 50) (cx_ok 50) rfl (rs := [(.tmp 6, 3), (.tmp 7, 4), (.tmp 8, 25)]) Try.func18 (by decide) rfl rfl rfl (by simp [cx]) (by simp [NoFr]) ?_
  intro hlen
  have c1 : dayE l long ≠ 0 → tup3 (.int 0) (.bool false) (.int (dayE l long)) = enV l long p := fun h => by unfold enV; rw [if_neg h]
  have c2 : dayE l long = 0 → ¬ isPl l.length p → tup3 (.int 0) (.bool false) (.int 0) = enV l long p := fun h h' => by unfold enV; rw [if_pos h, if_neg h']
  have c3 : dayE l long = 0 → isPl l.length p → tup3 (.int (sumL p p.length)) (.bool (decide (0 ≤ minL (spOut l p long.toNat l.length) l.length))) (.int 0) = enV l long p := fun h h' => by unfold enV; rw [if_pos h, if_pos h']
  generalize enV l long p = E at *
  ((conv => whnf); repeat (refine stepK_in ?_; (repeat (first | refine seqQ_n ?_ | refine blockQ_n ?_ | refine awp_skip ?_ | refine awp_seq ?_ | refine awp_block ?_)); (conv => whnf)))
  refine APure.to (refDay_pure l long) ?_
  ((conv => whnf); repeat (refine stepK_in ?_; (repeat (first | refine seqQ_n ?_ | refine blockQ_n ?_ | refine awp_skip ?_ | refine awp_seq ?_ | refine awp_block ?_)); (conv => whnf)))
  refine br_ne (fun h => ?_) (fun h => ?_)
  · ((conv => whnf); repeat (refine stepK_in ?_; (repeat (first | refine seqQ_n ?_ | refine blockQ_n ?_ | refine awp_skip ?_ | refine awp_seq ?_ | refine awp_block ?_)); (conv => whnf)))
    exact ⟨trivial, trivial, trivial, c1 h⟩
  obtain ⟨hn, hl1, hl2⟩ := dayE_inv h
  obtain ⟨n, rfl⟩ : ∃ n : Nat, long = n := ⟨long.toNat, by omega⟩
  rw [Int.toNat_natCast] at c3
  have n11 := hn.1
  have n12 := hn.2.1
  ((conv => whnf); repeat (refine stepK_in ?_; (repeat (first | refine seqQ_n ?_ | refine blockQ_n ?_ | refine awp_skip ?_ | refine awp_seq ?_ | refine awp_block ?_)); (conv => whnf)))
  refine APure.to (refIsPlan_pure l.length p) ?_
  ((conv => whnf); repeat (refine stepK_in ?_; (repeat (first | refine seqQ_n ?_ | refine blockQ_n ?_ | refine awp_skip ?_ | refine awp_seq ?_ | refine awp_block ?_)); (conv => whnf)))
  by_cases hp : isPl l.length p
  · rw [decide_eq_true hp]
    have c3 := c3 h hp
    have hj : decide (0 ≤ minL (spOut l p n l.length) l.length) = okB l (fun y => cov l.length n (fun i => p.getD i 0) y) l.length := by
      rw [Bool.eq_iff_iff, decide_eq_true_iff, okB_iff, minL_ge _ _ _ n11]
      exact ⟨fun h y hy => by have := h y hy; rw [spare_cov n11 (by omega) hy] at this; omega, fun h y hy => by rw [spare_cov n11 (by omega) hy]; have := h y hy; omega⟩
    rw [hj] at c3
    have hcb := fun y => cov_bd (long := n) hn hp y
    have hth := fun x (hx : x < l.length) => there_pure l p n x hn (by omega) hp hx
    have hp1 := hp.1
    have hsb := fun k (hk : k ≤ p.length) => sumL_bd hp.2 k hk
    generalize hcv : (fun y : Nat => cov l.length n (fun i => p.getD i 0) y) = cv at *
    have hcb : ∀ y : Nat, 0 ≤ cv y ∧ cv y ≤ 7200 := fun y => by rw [← hcv]; exact hcb y
    have hth : ∀ x, x < l.length → APure Try.prog 42 [.ints false p, .int n, .int x] (fun R => R = .int (cv x)) := fun x hx => by rw [← hcv]; exact hth x hx
    ((conv => whnf); repeat (refine stepK_in ?_; (repeat (first | refine seqQ_n ?_ | refine blockQ_n ?_ | refine awp_skip ?_ | refine awp_seq ?_ | refine awp_block ?_)); (conv => whnf)))
    refine AW_loop (X := cx 50) (cx_ok 50) [0, 1, 2, 10, 11, 12] (fun vs M => ∃ k : Nat, k ≤ l.length ∧ vs = [.ints false l, .int n, .ints false p, .int (sumL p k), .bool (okB l cv k), .int k] ∧ M = [])
      (fun vs _ => l.length - (vs.getD 5 .any).toInt.toNat) ?_ ?_
    · exact ⟨0, Nat.zero_le _, rfl, rfl⟩
    rintro vs M ⟨k, hk, rfl, rfl⟩
    generalize hob : okB l cv k = ob
    ((conv => whnf); repeat (refine stepK_in ?_; (repeat (first | refine seqQ_n ?_ | refine blockQ_n ?_ | refine awp_skip ?_ | refine awp_seq ?_ | refine awp_block ?_)); (conv => whnf)))
    refine br_dec (fun hlt => ?_) (fun hge2 => ?_)
    · have hk' : k < l.length := by omega
      have hlk := hn.2.2 k hk'
      have hpk := hp.2 k (by omega)
      have hs := hsb k (by omega)
      have hs2 : sumL p (k + 1) = sumL p k + p.getD k 0 := rfl
      have c4 := hth k hk'
      have hnx : okB l cv (k + 1) = (ob && decide (cv k ≥ l.getD k 0)) := by rw [← hob]; rfl
      generalize sumL p k = s at *
      ((conv => whnf); repeat (refine stepK_in ?_; (repeat (first | refine seqQ_n ?_ | refine blockQ_n ?_ | refine awp_skip ?_ | refine awp_seq ?_ | refine awp_block ?_)); (conv => whnf)))
      refine AW_draw (X := cx 50) (cx_ok 50) mixed (by kernel_rfl) ?_
      ((conv => whnf); repeat (refine stepK_in ?_; (repeat (first | refine seqQ_n ?_ | refine blockQ_n ?_ | refine awp_skip ?_ | refine awp_seq ?_ | refine awp_block ?_)); (conv => whnf)))
      refine br_mk (fun hb => ?_) (fun hb => ?_)
      · rw [hb, Bool.true_and] at hnx
        ((conv => whnf); repeat (refine stepK_in ?_; (repeat (first | refine seqQ_n ?_ | refine blockQ_n ?_ | refine awp_skip ?_ | refine awp_seq ?_ | refine awp_block ?_)); (conv => whnf)))
        refine ⟨_, c4, ?_⟩
        ((conv => whnf); repeat (refine stepK_in ?_; (repeat (first | refine seqQ_n ?_ | refine blockQ_n ?_ | refine awp_skip ?_ | refine awp_seq ?_ | refine awp_block ?_)); (conv => whnf)))
        repeat ((first | refine ⟨by omega, ?_⟩ | refine ⟨inr (by omega), ?_⟩); ((conv => whnf); repeat (refine stepK_in ?_; (repeat (first | refine seqQ_n ?_ | refine blockQ_n ?_ | refine awp_skip ?_ | refine awp_seq ?_ | refine awp_block ?_)); (conv => whnf))))
        refine ⟨inr (show -9223372036854775808 ≤ s + p.getD (k : Int).toNat 0 ∧ s + p.getD (k : Int).toNat 0 ≤ 9223372036854775807 by rw [Int.toNat_natCast]; omega), ?_⟩
        ((conv => whnf); repeat (refine stepK_in ?_; (repeat (first | refine seqQ_n ?_ | refine blockQ_n ?_ | refine awp_skip ?_ | refine awp_seq ?_ | refine awp_block ?_)); (conv => whnf)))
        repeat ((first | refine ⟨by omega, ?_⟩ | refine ⟨inr (by omega), ?_⟩); ((conv => whnf); repeat (refine stepK_in ?_; (repeat (first | refine seqQ_n ?_ | refine blockQ_n ?_ | refine awp_skip ?_ | refine awp_seq ?_ | refine awp_block ?_)); (conv => whnf))))
        refine ⟨⟨k + 1, by omega, ?_, rfl⟩, ?_⟩
        · rw [hnx, hs2]; rfl
        · simp [V.toInt, sel, Env.get]; omega
      · rw [hb, Bool.false_and] at hnx
        ((conv => whnf); repeat (refine stepK_in ?_; (repeat (first | refine seqQ_n ?_ | refine blockQ_n ?_ | refine awp_skip ?_ | refine awp_seq ?_ | refine awp_block ?_)); (conv => whnf)))
        repeat ((first | refine ⟨by omega, ?_⟩ | refine ⟨inr (by omega), ?_⟩); ((conv => whnf); repeat (refine stepK_in ?_; (repeat (first | refine seqQ_n ?_ | refine blockQ_n ?_ | refine awp_skip ?_ | refine awp_seq ?_ | refine awp_block ?_)); (conv => whnf))))
        refine ⟨inr (show -9223372036854775808 ≤ s + p.getD (k : Int).toNat 0 ∧ s + p.getD (k : Int).toNat 0 ≤ 9223372036854775807 by rw [Int.toNat_natCast]; omega), ?_⟩
        ((conv => whnf); repeat (refine stepK_in ?_; (repeat (first | refine seqQ_n ?_ | refine blockQ_n ?_ | refine awp_skip ?_ | refine awp_seq ?_ | refine awp_block ?_)); (conv => whnf)))
        repeat ((first | refine ⟨by omega, ?_⟩ | refine ⟨inr (by omega), ?_⟩); ((conv => whnf); repeat (refine stepK_in ?_; (repeat (first | refine seqQ_n ?_ | refine blockQ_n ?_ | refine awp_skip ?_ | refine awp_seq ?_ | refine awp_block ?_)); (conv => whnf))))
        refine ⟨⟨k + 1, by omega, ?_, rfl⟩, ?_⟩
        · rw [hnx, hs2]; rfl
        · simp [V.toInt, sel, Env.get]; omega
    · obtain rfl : k = l.length := by omega
      rw [hp1, hob] at c3
      ((conv => whnf); repeat (refine stepK_in ?_; (repeat (first | refine seqQ_n ?_ | refine blockQ_n ?_ | refine awp_skip ?_ | refine awp_seq ?_ | refine awp_block ?_)); (conv => whnf)))
      exact ⟨trivial, trivial, trivial, c3⟩
  · rw [decide_eq_false hp]
    ((conv => whnf); repeat (refine stepK_in ?_; (repeat (first | refine seqQ_n ?_ | refine blockQ_n ?_ | refine awp_skip ?_ | refine awp_seq ?_ | refine awp_block ?_)); (conv => whnf)))
    exact ⟨trivial, trivial, trivial, c2 h hp⟩
end Go.Tri
