/-
  CONTRACTS: spare; Enough and Spare of the program.
-/
import Derived.Test.YthocieklelgmbaaB3
namespace Go.Tri
open Go.Proofs

/-- One more to the hour k + j. -/
def spIn (l p S : List Int) (k : Nat) : Nat → List Int
  | 0 => S.set k (S.getD k 0 - l.getD k 0)
  | j + 1 => (spIn l p S k j).set (arH l.length ((k + j : Nat) : Int)) ((spIn l p S k j).getD (arH l.length ((k + j : Nat) : Int)) 0 + p.getD k 0)
def spOut (l p : List Int) (long : Nat) : Nat → List Int
  | 0 => List.replicate l.length 0
  | k + 1 => spIn l p (spOut l p long k) k long
theorem spIn_len (l p S : List Int) (k : Nat) : ∀ j, (spIn l p S k j).length = S.length := by
  intro j
  induction j with
  | zero => simp [spIn]
  | succ j ih => simp only [spIn]; rw [List.length_set, ih]
theorem spOut_len (l p : List Int) (long : Nat) : ∀ k, (spOut l p long k).length = l.length := by
  intro k
  induction k with
  | zero => simp [spOut]
  | succ k ih => simp only [spOut]; rw [spIn_len, ih]
def bdL (B : Int) (S : List Int) : Prop := ∀ x, -B ≤ S.getD x 0 ∧ S.getD x 0 ≤ B
theorem bdL_set {B C : Int} {S : List Int} {k : Nat} {v : Int} (h : bdL B S) (hBC : B ≤ C) (hv : -C ≤ v ∧ v ≤ C) : bdL C (S.set k v) := by
  intro x
  have := h x
  rw [List.getD, List.getElem?_set]
  by_cases hx : k = x
  · rw [if_pos hx]
    split
    · simpa using hv
    · simp; omega
  · rw [if_neg hx]
    rw [List.getD] at this
    omega
theorem spIn_bd {l p S : List Int} {B : Int} {k : Nat} (hS : bdL B S) (hl : 0 ≤ l.getD k 0 ∧ l.getD k 0 ≤ 50) (hp : 0 ≤ p.getD k 0 ∧ p.getD k 0 ≤ 600) : ∀ j : Nat, bdL (B + 1000 * (j + 1)) (spIn l p S k j) := by
  intro j
  induction j with
  | zero =>
    simp only [spIn]
    have := hS k
    exact bdL_set hS (by omega) (by omega)
  | succ j ih =>
    simp only [spIn]
    have := ih (arH l.length ((k + j : Nat) : Int))
    exact bdL_set ih (by omega) (by omega)
theorem spOut_bd {l p : List Int} {long : Nat} (hlong : long ≤ 12) (hl : bet 0 50 l l.length) (hp : bet 0 600 p p.length) (hlp : p.length = l.length) : ∀ k, k ≤ l.length → bdL (13000 * k) (spOut l p long k) := by
  intro k
  induction k with
  | zero => intro _ x; simp [spOut, List.getD, List.getElem?_replicate]; split <;> simp
  | succ k ih =>
    intro hk
    have h1 := spIn_bd (ih (by omega)) (hl k (by omega)) (hp k (by omega)) long
    intro x
    have := h1 x
    simp only [spOut]
    omega

theorem spare_pure (l p : List Int) (long : Nat) (hl : Nds l) (hlong : long ≤ l.length) (hp : isPl l.length p) :
    APure Try.prog 41 [clockV l long, .ints false p] (fun R => R = .ints true (spOut l p long l.length)) := by
  obtain ⟨l1, l2, l3⟩ := hl
  obtain ⟨p1, p2⟩ := hp
  refine APure_of (X := cx 49) (cx_ok 49) rfl (rs := [(.tmp 4, 22)]) Try.func41 (by decide) rfl rfl rfl (by simp [cx]) (nofr2 nofrCk (by rfl)) ?_
  intro hlen
  ((conv => whnf); repeat (refine stepK_in ?_; (repeat (first | refine seqQ_n ?_ | refine blockQ_n ?_ | refine awp_skip ?_ | refine awp_seq ?_ | refine awp_block ?_)); (conv => whnf)))
  refine ⟨by omega, ?_⟩
  ((conv => whnf); repeat (refine stepK_in ?_; (repeat (first | refine seqQ_n ?_ | refine blockQ_n ?_ | refine awp_skip ?_ | refine awp_seq ?_ | refine awp_block ?_)); (conv => whnf)))
  refine ⟨by omega, ?_⟩
  ((conv => whnf); repeat (refine stepK_in ?_; (repeat (first | refine seqQ_n ?_ | refine blockQ_n ?_ | refine awp_skip ?_ | refine awp_seq ?_ | refine awp_block ?_)); (conv => whnf)))
  refine ⟨(show (8 : Int) * (p.length : Int) ≤ 140737488355328 by omega), ?_⟩
  rw [p1, Int.toNat_natCast]
  ((conv => whnf); repeat (refine stepK_in ?_; (repeat (first | refine seqQ_n ?_ | refine blockQ_n ?_ | refine awp_skip ?_ | refine awp_seq ?_ | refine awp_block ?_)); (conv => whnf)))
  refine AW_loop (X := cx 49) (cx_ok 49) [1, 2, 5, 13, 14, 15] (fun vs M => ∃ k : Nat, k ≤ l.length ∧ vs = [.ints false p, .ptr 0 0 0 0, .sl 1 0 0 l.length, .ints false l, .int l.length, .int k] ∧ M = [some ⟨50, 2, 0, .one [.ints false l, .int long]⟩, some ⟨3, 1, 0, .il (spOut l p long k)⟩])
    (fun vs _ => l.length - (vs.getD 5 .any).toInt.toNat) ?_ ?_
  · exact ⟨0, Nat.zero_le _, rfl, rfl⟩
  rintro vs M ⟨k, hk, rfl, rfl⟩
  ((conv => whnf); repeat (refine stepK_in ?_; (repeat (first | refine seqQ_n ?_ | refine blockQ_n ?_ | refine awp_skip ?_ | refine awp_seq ?_ | refine awp_block ?_)); (conv => whnf)))
  refine br_dec (fun hlt => ?_) (fun hge => ?_)
  · have hk' : k < l.length := by omega
    have hb0 := spOut_bd (long := long) (by omega) l3 p2 p1 k hk
    have hln := spOut_len l p long k
    have hlk := l3 k hk'
    have hpk := p2 k (by omega)
    have hnext : spIn l p (spOut l p long k) k long = spOut l p long (k + 1) := rfl
    generalize spOut l p long k = S at *
    have hbk := hb0 k
    have hS0 : S.set k (S.getD k 0 - l.getD k 0) = spIn l p S k 0 := rfl
    ((conv => whnf); repeat (refine stepK_in ?_; (repeat (first | refine seqQ_n ?_ | refine blockQ_n ?_ | refine awp_skip ?_ | refine awp_seq ?_ | refine awp_block ?_)); (conv => whnf)))
    repeat ((first | refine ⟨by omega, ?_⟩ | refine ⟨inr (by omega), ?_⟩ | refine eqn_self ?_ | refine ldk (by omega) ?_ | refine ⟨inr (show -9223372036854775808 ≤ S.getD (0 + (k : Int).toNat) 0 - l.getD (k : Int).toNat 0 ∧ S.getD (0 + (k : Int).toNat) 0 - l.getD (k : Int).toNat 0 ≤ 9223372036854775807 by rw [Int.toNat_natCast, Nat.zero_add]; omega), ?_⟩); ((conv => whnf); repeat (refine stepK_in ?_; (repeat (first | refine seqQ_n ?_ | refine blockQ_n ?_ | refine awp_skip ?_ | refine awp_seq ?_ | refine awp_block ?_)); (conv => whnf))))
    refine AW_loop (X := cx 49) (cx_ok 49) [1, 2, 5, 6, 13, 14, 15, 28, 29] (fun vs M => ∃ j : Nat, j ≤ long ∧ vs = [.ints false p, .ptr 0 0 0 0, .sl 1 0 0 l.length, .int k, .ints false l, .int l.length, .int k, .int long, .int j] ∧ M = [some ⟨50, 2, 0, .one [.ints false l, .int long]⟩, some ⟨3, 1, 0, .il (spIn l p S k j)⟩])
      (fun vs _ => long - (vs.getD 8 .any).toInt.toNat) ?_ ?_
    · refine ⟨0, Nat.zero_le _, rfl, ?_⟩
      rw [← hS0]
      simp only [Int.toNat_natCast, Nat.zero_add]
      rfl
    rintro vs M ⟨j, hj, rfl, rfl⟩
    ((conv => whnf); repeat (refine stepK_in ?_; (repeat (first | refine seqQ_n ?_ | refine blockQ_n ?_ | refine awp_skip ?_ | refine awp_seq ?_ | refine awp_block ?_)); (conv => whnf)))
    refine br_dec (fun hlt2 => ?_) (fun hge2 => ?_)
    · have hj' : j < long := by omega
      have hbj := spIn_bd (B := 13000 * k) hb0 hlk hpk j (arH l.length ((k : Int) + j))
      have hlj := spIn_len l p S k j
      have har := arH_lt l1 ((k : Int) + j)
      have hnx : spIn l p S k (j + 1) = (spIn l p S k j).set (arH l.length ((k : Int) + j)) ((spIn l p S k j).getD (arH l.length ((k : Int) + j)) 0 + p.getD k 0) := by simp only [spIn, Int.natCast_add]
      have hc := around_pure l long ((k : Int) + j) l1 l2 (by omega)
      generalize spIn l p S k j = S1 at *
      generalize arH l.length ((k : Int) + j) = q at *
      ((conv => whnf); repeat (refine stepK_in ?_; (repeat (first | refine seqQ_n ?_ | refine blockQ_n ?_ | refine awp_skip ?_ | refine awp_seq ?_ | refine awp_block ?_)); (conv => whnf)))
      refine AW_draw (X := cx 49) (cx_ok 49) mixed (by kernel_rfl) ?_
      ((conv => whnf); repeat (refine stepK_in ?_; (repeat (first | refine seqQ_n ?_ | refine blockQ_n ?_ | refine awp_skip ?_ | refine awp_seq ?_ | refine awp_block ?_)); (conv => whnf)))
      refine ⟨inr (by omega), ?_⟩
      ((conv => whnf); repeat (refine stepK_in ?_; (repeat (first | refine seqQ_n ?_ | refine blockQ_n ?_ | refine awp_skip ?_ | refine awp_seq ?_ | refine awp_block ?_)); (conv => whnf)))
      refine ⟨_, APure.arg2 (subCk rfl rfl) (Sub.refl _) hc, ?_⟩
      ((conv => whnf); repeat (refine stepK_in ?_; (repeat (first | refine seqQ_n ?_ | refine blockQ_n ?_ | refine awp_skip ?_ | refine awp_seq ?_ | refine awp_block ?_)); (conv => whnf)))
      repeat ((first | refine ⟨by omega, ?_⟩ | refine ⟨inr (by omega), ?_⟩ | refine eqn_self ?_ | refine ldk (by omega) ?_ | refine ⟨inr (show -9223372036854775808 ≤ S1.getD (0 + (q : Int).toNat) 0 + p.getD (k : Int).toNat 0 ∧ S1.getD (0 + (q : Int).toNat) 0 + p.getD (k : Int).toNat 0 ≤ 9223372036854775807 by rw [Int.toNat_natCast, Int.toNat_natCast, Nat.zero_add]; omega), ?_⟩); ((conv => whnf); repeat (refine stepK_in ?_; (repeat (first | refine seqQ_n ?_ | refine blockQ_n ?_ | refine awp_skip ?_ | refine awp_seq ?_ | refine awp_block ?_)); (conv => whnf))))
      refine ⟨⟨j + 1, by omega, rfl, ?_⟩, ?_⟩
      · rw [hnx]
        simp only [Int.toNat_natCast, Nat.zero_add]
        rfl
      · simp [V.toInt, sel, Env.get]; omega
    · obtain rfl : j = long := by omega
      rw [hnext]
      ((conv => whnf); repeat (refine stepK_in ?_; (repeat (first | refine seqQ_n ?_ | refine blockQ_n ?_ | refine awp_skip ?_ | refine awp_seq ?_ | refine awp_block ?_)); (conv => whnf)))
      refine ⟨inr (by omega), ?_⟩
      ((conv => whnf); repeat (refine stepK_in ?_; (repeat (first | refine seqQ_n ?_ | refine blockQ_n ?_ | refine awp_skip ?_ | refine awp_seq ?_ | refine awp_block ?_)); (conv => whnf)))
      refine ⟨⟨k + 1, by omega, rfl, rfl⟩, ?_⟩
      simp [V.toInt, sel, Env.get]; omega
  · obtain rfl : k = l.length := by omega
    ((conv => whnf); repeat (refine stepK_in ?_; (repeat (first | refine seqQ_n ?_ | refine blockQ_n ?_ | refine awp_skip ?_ | refine awp_seq ?_ | refine awp_block ?_)); (conv => whnf)))
    refine ⟨rfl, Ql ?_⟩
    have := spOut_len l p long l.length
    simp [List.take_of_length_le, this]
end Go.Tri
