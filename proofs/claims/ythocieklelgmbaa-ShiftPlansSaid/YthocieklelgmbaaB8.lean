/-
  CONTRACTS: settled, succeeds; sort.Search of the trials; least.
-/
import Derived.Test.YthocieklelgmbaaB7
namespace Go.Tri
open Go.Proofs

/-- The last sums; whether the last round left them. -/
def stT (l : List Int) (long T : Int) (q : Nat) : Int := rdF l long T (12 * l.length + q)
def okT (l : List Int) (long T : Int) : Bool := (List.range 12).all fun q => rdF l long T (12 * l.length + q) == rdF l long T (12 * (l.length - 1) + q)
theorem okT_iff {l : List Int} {long T : Int} (h1 : 1 ≤ l.length) : okT l long T = true ↔ ∀ q, q < 12 → rdT l long T l.length q = rdT l long T (l.length - 1) q := by
  unfold okT
  rw [List.all_eq_true]
  have e : ∀ q, q < 12 → rdF l long T (12 * l.length + q) = rdT l long T l.length q ∧ rdF l long T (12 * (l.length - 1) + q) = rdT l long T (l.length - 1) q := by
    intro q hq
    unfold rdF
    rw [if_pos (by omega), if_pos (by omega)]
    constructor <;> congr 2 <;> omega
  constructor
  · intro h q hq
    have := h q (by simpa using hq)
    rw [(e q hq).1, (e q hq).2] at this
    simpa using this
  · intro h q hq
    have hq : q < 12 := by simpa using hq
    rw [(e q hq).1, (e q hq).2, h q hq]
    simp

set_option maxRecDepth 100000 in
theorem settled_pure (l : List Int) (long : Nat) (T : Int) (h1 : 1 ≤ l.length) (h2 : l.length ≤ 12) (hl1 : 1 ≤ long) (hl2 : long ≤ l.length) (hl : bet 0 1000 l l.length) (hT : 0 ≤ T ∧ T ≤ 1000000) :
    APure Try.prog 66 [trialV l long T] (fun R => R = tup2 (tabV (stT l long T)) (.bool (okT l long T))) := by
  refine APure_of (X := cx 23) (cx_ok 23) rfl (rs := [(.cell 2 73, 73), (.tmp 3, 4)]) Try.func66 (by decide) rfl rfl rfl (by simp [cx]) (nofr1 nofrTr) ?_
  intro hlen
  have c1 := rounds_pure l long T h1 h2 hl1 hl2 hl hT
  have e1 : ∀ q, rdF l long T (0 + (l.length : Int).toNat * 12 + q) = stT l long T q := fun q => by
    unfold stT
    congr 1
    omega
  have e2 : ∀ q, rdF l long T (0 + ((l.length : Int) - 1).toNat * 12 + q) = rdF l long T (12 * (l.length - 1) + q) := fun q => by
    congr 1
    omega
  have e3 : okT l long T = (List.range 12).all fun q => rdF l long T (0 + (l.length : Int).toNat * 12 + q) == rdF l long T (0 + ((l.length : Int) - 1).toNat * 12 + q) := by
    unfold okT
    congr 1
    funext q
    rw [e1, e2]
    rfl
  generalize rdF l long T = r at *
  ((conv => whnf); repeat (refine stepK_in ?_; (repeat (first | refine seqQ_n ?_ | refine blockQ_n ?_ | refine awp_skip ?_ | refine awp_seq ?_ | refine awp_block ?_)); (conv => whnf)))
  refine APure.to (APure.arg1 (subTr rfl rfl rfl) c1) ?_
  ((conv => whnf); repeat (refine stepK_in ?_; (repeat (first | refine seqQ_n ?_ | refine blockQ_n ?_ | refine awp_skip ?_ | refine awp_seq ?_ | refine awp_block ?_)); (conv => whnf)))
  refine AW_draw (X := cx 23) (cx_ok 23) mixed (by kernel_rfl) ?_
  ((conv => whnf); repeat (refine stepK_in ?_; (repeat (first | refine seqQ_n ?_ | refine blockQ_n ?_ | refine awp_skip ?_ | refine awp_seq ?_ | refine awp_block ?_)); (conv => whnf)))
  refine ⟨by omega, ?_⟩
  refine ⟨(show (l.length : Int) < 13 by omega), ?_⟩
  ((conv => whnf); repeat (refine stepK_in ?_; (repeat (first | refine seqQ_n ?_ | refine blockQ_n ?_ | refine awp_skip ?_ | refine awp_seq ?_ | refine awp_block ?_)); (conv => whnf)))
  refine ldak (ver := 0) (m := 0 + (l.length : Int).toNat * 12 + 12) (sz := 156) (by omega) ?_
  ((conv => whnf); repeat (refine stepK_in ?_; (repeat (first | refine seqQ_n ?_ | refine blockQ_n ?_ | refine awp_skip ?_ | refine awp_seq ?_ | refine awp_block ?_)); (conv => whnf)))
  refine ⟨by omega, ?_⟩
  refine ⟨(show (l.length : Int) < 13 by omega), ?_⟩
  ((conv => whnf); repeat (refine stepK_in ?_; (repeat (first | refine seqQ_n ?_ | refine blockQ_n ?_ | refine awp_skip ?_ | refine awp_seq ?_ | refine awp_block ?_)); (conv => whnf)))
  refine ldak (ver := 0) (m := 0 + (l.length : Int).toNat * 12 + 12) (sz := 156) (by omega) ?_
  ((conv => whnf); repeat (refine stepK_in ?_; (repeat (first | refine seqQ_n ?_ | refine blockQ_n ?_ | refine awp_skip ?_ | refine awp_seq ?_ | refine awp_block ?_)); (conv => whnf)))
  refine ⟨inr (by omega), ?_⟩
  ((conv => whnf); repeat (refine stepK_in ?_; (repeat (first | refine seqQ_n ?_ | refine blockQ_n ?_ | refine awp_skip ?_ | refine awp_seq ?_ | refine awp_block ?_)); (conv => whnf)))
  refine ⟨(show (0 : Int) ≤ (l.length : Int) - 1 by omega), ?_⟩
  refine ⟨(show (l.length : Int) - 1 < 13 by omega), ?_⟩
  ((conv => whnf); repeat (refine stepK_in ?_; (repeat (first | refine seqQ_n ?_ | refine blockQ_n ?_ | refine awp_skip ?_ | refine awp_seq ?_ | refine awp_block ?_)); (conv => whnf)))
  refine ldak (ver := 0) (m := 0 + ((l.length : Int) - 1).toNat * 12 + 12) (sz := 156) (by omega) ?_
  ((conv => whnf); repeat (refine stepK_in ?_; (repeat (first | refine seqQ_n ?_ | refine blockQ_n ?_ | refine awp_skip ?_ | refine awp_seq ?_ | refine awp_block ?_)); (conv => whnf)))
  refine ⟨fun _ _ => trivial, trivial, Q2 (congrArg (V.agg 12) (funext fun q => ?_)) (Qb ?_)⟩
  · show V.int (r (0 + (l.length : Int).toNat * 12 + (0 + q))) = _
    rw [e1, Nat.zero_add]
  · rw [e3]
    rfl

theorem succeeds_pure (l : List Int) (long : Nat) (T : Int) (h1 : 1 ≤ l.length) (h2 : l.length ≤ 12) (hl1 : 1 ≤ long) (hl2 : long ≤ l.length) (hl : bet 0 1000 l l.length) (hT : 0 ≤ T ∧ T ≤ 1000000) :
    APure Try.prog 63 [trialV l long T] (fun R => R = .bool (okT l long T)) := by
  refine APure_of (X := cx 11) (cx_ok 11) rfl (rs := [(.tmp 2, 4)]) Try.func63 (by decide) rfl rfl rfl (by simp [cx]) (nofr1 nofrTr) ?_
  intro hlen
  ((conv => whnf); repeat (refine stepK_in ?_; (repeat (first | refine seqQ_n ?_ | refine blockQ_n ?_ | refine awp_skip ?_ | refine awp_seq ?_ | refine awp_block ?_)); (conv => whnf)))
  refine APure.to (APure.arg1 (subTr rfl rfl rfl) (settled_pure l long T h1 h2 hl1 hl2 hl hT)) ?_
  ((conv => whnf); repeat (refine stepK_in ?_; (repeat (first | refine seqQ_n ?_ | refine blockQ_n ?_ | refine awp_skip ?_ | refine awp_seq ?_ | refine awp_block ?_)); (conv => whnf)))
  exact ⟨trivial, rfl⟩

@[reducible] def clockP (l : List Int) (long : Int) : V := .at_ 2 (clockG l long) 0
theorem nofrCP {l : List Int} {long : Int} : NoFr (clockP l long) := fun k => by show NoFr (match k with | 0 => V.ints false l | _ => .int long); split <;> trivial
theorem nofrCC {f : Nat} {l : List Int} {long : Int} : NoFr (.clo f 1 fun _ => clockP l long) := fun _ => nofrCP
theorem leastC_pure (l : List Int) (long : Nat) (T : Int) (h1 : 1 ≤ l.length) (h2 : l.length ≤ 12) (hl1 : 1 ≤ long) (hl2 : long ≤ l.length) (hl : bet 0 1000 l l.length) (hT : 0 ≤ T ∧ T ≤ 1000000) :
    APure Try.prog 62 [.int T, clockP l long] (fun R => R = .bool (okT l long T)) := by
  refine APure_of (X := cx 8) (cx_ok 8) rfl (rs := [(.tmp 3, 4)]) Try.func62 (by decide) rfl rfl rfl (by simp [cx]) (nofr2 (by trivial) nofrCP) ?_
  intro hlen
  ((conv => whnf); repeat (refine stepK_in ?_; (repeat (first | refine seqQ_n ?_ | refine blockQ_n ?_ | refine awp_skip ?_ | refine awp_seq ?_ | refine awp_block ?_)); (conv => whnf)))
  refine APure.to (APure.arg1 (subTr rfl rfl rfl) (succeeds_pure l long T h1 h2 hl1 hl2 hl hT)) ?_
  ((conv => whnf); repeat (refine stepK_in ?_; (repeat (first | refine seqQ_n ?_ | refine blockQ_n ?_ | refine awp_skip ?_ | refine awp_seq ?_ | refine awp_block ?_)); (conv => whnf)))
  exact ⟨trivial, rfl⟩

/-- The first number from k on (fuel f) that p has, or the end. -/
def lsN (p : Nat → Bool) : Nat → Nat → Nat
  | k, 0 => k
  | k, f + 1 => if p k = true then k else lsN p (k + 1) f
theorem lsN_is {p : Nat → Bool} : ∀ f k r, k ≤ r → r ≤ k + f → (r < k + f → p r = true) → (∀ a, k ≤ a → a < r → p a = false) → lsN p k f = r := by
  intro f
  induction f with
  | zero => intro k r h1 h2 _ _; simp only [lsN]; omega
  | succ f ih =>
    intro k r h1 h2 h3 h4
    simp only [lsN]
    by_cases hk : k = r
    · subst hk
      rw [if_pos (h3 (by omega))]
    · rw [if_neg (by rw [h4 k (by omega) (by omega)]; exact Bool.false_ne_true)]
      exact ih (k + 1) r (by omega) (by omega) (fun h => h3 (by omega)) fun a ha hb => h4 a (by omega) hb
theorem lsN_spec {p : Nat → Bool} : ∀ f k, k ≤ lsN p k f ∧ lsN p k f ≤ k + f ∧ (lsN p k f < k + f → p (lsN p k f) = true) ∧ ∀ a, k ≤ a → a < lsN p k f → p a = false := by
  intro f
  induction f with
  | zero => intro k; simp only [lsN]; exact ⟨Nat.le_refl _, Nat.le_refl _, fun h => absurd h (by omega), fun a h1 h2 => absurd h2 (by omega)⟩
  | succ f ih =>
    intro k
    simp only [lsN]
    by_cases hk : p k = true
    · rw [if_pos hk]; exact ⟨Nat.le_refl _, by omega, fun _ => hk, fun a h1 h2 => absurd h2 (by omega)⟩
    · rw [if_neg hk]
      obtain ⟨h1, h2, h3, h4⟩ := ih (k + 1)
      refine ⟨by omega, by omega, fun h => h3 (by omega), fun a ha hb => ?_⟩
      rcases (by omega : a = k ∨ k + 1 ≤ a) with rfl | h5
      · simpa using hk
      · exact h4 a h5 hb

theorem half {a : Nat} (h : a < 1000000000) {x : Int} (hx : x = a) : (IntKind.u64.wrap x).fdiv (2 ^ (min (1 : Int).toNat IntKind.u64.bits)) = ((a / 2 : Nat) : Int) := by
  have h1 : IntKind.u64.wrap x = a := by
    rw [hx]
    simp [IntKind.wrap, IntKind.signed, IntKind.bits]
    omega
  rw [h1]
  show (a : Int).fdiv 2 = _
  rw [Int.fdiv_eq_ediv_of_nonneg _ (by omega)]
  omega

set_option maxRecDepth 100000 in
theorem Search_pure (l : List Int) (long n : Nat) (h1 : 1 ≤ l.length) (h2 : l.length ≤ 12) (hl1 : 1 ≤ long) (hl2 : long ≤ l.length) (hl : bet 0 1000 l l.length) (hn : n ≤ 100000) (hm : ∀ a b : Nat, a ≤ b → okT l long a = true → okT l long b = true) :
    APure Try.prog 61 [.int n, .clo 62 1 fun _ => clockP l long] (fun R => R = .int (lsN (fun k => okT l long k) 0 n)) := by
  refine APure_of (X := cx 26) (cx_ok 26) rfl (rs := [(.tmp 4, 3)]) Try.func61 (by decide) rfl rfl rfl (by simp [cx]) (nofr2 (by trivial) nofrCC) ?_
  intro hlen
  ((conv => whnf); repeat (refine stepK_in ?_; (repeat (first | refine seqQ_n ?_ | refine blockQ_n ?_ | refine awp_skip ?_ | refine awp_seq ?_ | refine awp_block ?_)); (conv => whnf)))
  refine AW_loopA (X := cx 26) (cx_ok 26) [1, 5, 6] (fun _ => false) (fun vs M => ∃ i j : Nat, i ≤ j ∧ j ≤ n ∧ (j < n → okT l long j = true) ∧ (∀ a : Nat, a < i → okT l long a = false) ∧ vs = [.clo 62 1 fun _ => clockP l long, .int i, .int j] ∧ M = [])
    (fun vs _ => (vs.getD 2 .any).toInt.toNat - (vs.getD 1 .any).toInt.toNat) (fun t ht => absurd ht (by simp)) ?_ ?_
  · exact same0 ⟨0, n, Nat.zero_le _, Nat.le_refl _, fun h => absurd h (by omega), fun a h => absurd h (by omega), rfl, rfl⟩
  rintro vs M ⟨i, j, hij, hj, hp, hq, rfl, rfl⟩
  ((conv => whnf); repeat (refine stepK_in ?_; (repeat (first | refine seqQ_n ?_ | refine blockQ_n ?_ | refine awp_skip ?_ | refine awp_seq ?_ | refine awp_block ?_)); (conv => whnf)))
  refine br_dec (fun hlt => ?_) (fun hge => ?_)
  · have hlt : i < j := by omega
    have hh := half (a := i + j) (by omega) (x := (i : Int) + j) (by omega)
    have hc := leastC_pure l long ((i + j) / 2 : Nat) h1 h2 hl1 hl2 hl (by omega)
    have hmid : (i + j) / 2 < j ∧ i ≤ (i + j) / 2 := by omega
    generalize (i + j) / 2 = m at *
    ((conv => whnf); repeat (refine stepK_in ?_; (repeat (first | refine seqQ_n ?_ | refine blockQ_n ?_ | refine awp_skip ?_ | refine awp_seq ?_ | refine awp_block ?_)); (conv => whnf)))
    refine ⟨inr (by omega), ?_⟩
    ((conv => whnf); repeat (refine stepK_in ?_; (repeat (first | refine seqQ_n ?_ | refine blockQ_n ?_ | refine awp_skip ?_ | refine awp_seq ?_ | refine awp_block ?_)); (conv => whnf)))
    refine ⟨by omega, ?_⟩
    rw [hh]
    ((conv => whnf); repeat (refine stepK_in ?_; (repeat (first | refine seqQ_n ?_ | refine blockQ_n ?_ | refine awp_skip ?_ | refine awp_seq ?_ | refine awp_block ?_)); (conv => whnf)))
    refine ⟨inr (by omega), ?_⟩
    ((conv => whnf); repeat (refine stepK_in ?_; (repeat (first | refine seqQ_n ?_ | refine blockQ_n ?_ | refine awp_skip ?_ | refine awp_seq ?_ | refine awp_block ?_)); (conv => whnf)))
    refine APure.to (APure.arg2 (Sub.refl _) (sub_at fun k hk => ?_) hc) ?_
    · rcases (by omega : k = 0 ∨ k = 1) with rfl | rfl <;> exact Sub.refl _
    ((conv => whnf); repeat (refine stepK_in ?_; (repeat (first | refine seqQ_n ?_ | refine blockQ_n ?_ | refine awp_skip ?_ | refine awp_seq ?_ | refine awp_block ?_)); (conv => whnf)))
    refine br_not (br_mk (fun hb => ?_) (fun hb => ?_))
    · ((conv => whnf); repeat (refine stepK_in ?_; (repeat (first | refine seqQ_n ?_ | refine blockQ_n ?_ | refine awp_skip ?_ | refine awp_seq ?_ | refine awp_block ?_)); (conv => whnf)))
      refine ⟨by exact (by repeat (first | exact trivial | refine And.intro ?_ ?_ | (intro k hk; rcases (by omega : k = 0) with rfl; intro q hq; rcases (by omega : q = 0 ∨ q = 1) with rfl | rfl <;> trivial))), same1 ⟨⟨i, m, hmid.2, by omega, fun _ => hb, hq, rfl, rfl⟩, ?_⟩⟩
      simp [V.toInt, sel, Env.get]; omega
    · ((conv => whnf); repeat (refine stepK_in ?_; (repeat (first | refine seqQ_n ?_ | refine blockQ_n ?_ | refine awp_skip ?_ | refine awp_seq ?_ | refine awp_block ?_)); (conv => whnf)))
      refine ⟨inr (by omega), ?_⟩
      ((conv => whnf); repeat (refine stepK_in ?_; (repeat (first | refine seqQ_n ?_ | refine blockQ_n ?_ | refine awp_skip ?_ | refine awp_seq ?_ | refine awp_block ?_)); (conv => whnf)))
      refine ⟨by exact (by repeat (first | exact trivial | refine And.intro ?_ ?_ | (intro k hk; rcases (by omega : k = 0) with rfl; intro q hq; rcases (by omega : q = 0 ∨ q = 1) with rfl | rfl <;> trivial))), same1 ⟨⟨m + 1, j, by omega, hj, hp, fun a ha => ?_, rfl, rfl⟩, ?_⟩⟩
      · cases hx : okT l long a with
        | false => rfl
        | true => rw [hm a m (by omega) hx] at hb; cases hb
      · simp [V.toInt, sel, Env.get]; omega
  · obtain rfl : i = j := by omega
    ((conv => whnf); repeat (refine stepK_in ?_; (repeat (first | refine seqQ_n ?_ | refine blockQ_n ?_ | refine awp_skip ?_ | refine awp_seq ?_ | refine awp_block ?_)); (conv => whnf)))
    refine ⟨trivial, Qi ?_⟩
    rw [lsN_is (p := fun k => okT l long k) n 0 i (by omega) (by omega) (fun h => hp (by omega)) (fun a _ h => hq a h)]
end Go.Tri
