/-
  CONTRACTS: least, times, share; Least and Share of the program. More of which sizes are right.
-/
import Derived.Test.YthocieklelgmbaaM3
import Derived.Test.YthocieklelgmbaaB4
namespace Go.Tri
open Go.Proofs

theorem sumL_sm (l : List Int) : ∀ k, sumL l k = sm k (fun i => l.getD i 0)
  | 0 => rfl
  | k + 1 => by simp only [sumL, sm]; rw [sumL_sm l k]
theorem fea_nn {l : List Int} {long : Nat} {T : Int} (h : Fea l long T) : 0 ≤ T := by
  obtain ⟨p, hp⟩ := h
  rw [← hp.size]
  exact sm_nn hp.nn
theorem fea_add {l : List Int} {long : Nat} {T : Int} (hn : 1 ≤ l.length) (h : Fea l long T) (c : Int) (hc : 0 ≤ c) : Fea l long (T + c) := by
  obtain ⟨p, hp⟩ := h
  refine ⟨fun i => p i + (if i = 0 then c else 0), fun i hi => by have := hp.nn i hi; split <;> omega, ?_, fun y hy => Int.le_trans (hp.enough y hy) (cov_mono (fun i _ => by split <;> omega) y)⟩
  rw [sm_add, hp.size, sm_one (a := 0) _ hn (fun i _ h => if_neg h)]
  rfl
theorem fea_up {l : List Int} {long : Nat} {T S : Int} (hn : 1 ≤ l.length) (h : Fea l long T) (hS : T ≤ S) : Fea l long S := by
  have := fea_add hn h (S - T) (by omega)
  rwa [show T + (S - T) = S by omega] at this
theorem fea_sum {l : List Int} {long : Nat} (hn : 1 ≤ l.length) (hl1 : 1 ≤ long) {c : Int} (hb : bet 0 c l l.length) : Fea l long (sumL l l.length) := by
  refine ⟨fun i => l.getD i 0, fun i hi => (hb i hi).1, (sumL_sm l _).symm, fun y hy => ?_⟩
  unfold cov
  have e : l.getD y 0 = (fun x : Nat => if arH l.length ((y : Int) - x) < long then l.getD x 0 else 0) y := by
    dsimp only
    rw [if_pos]
    rw [arH_uniq (q := 0) (by omega) 0 (by omega)]
    omega
  rw [e]
  exact sm_term (f := fun x : Nat => if arH l.length ((y : Int) - x) < long then l.getD x 0 else 0) (fun i hi => by split <;> first | exact (hb i hi).1 | omega) hy
/-- The least size. -/
def leL (l : List Int) (long : Int) : Nat := lsN (fun k => okT l long k) 0 (sumL l l.length).toNat
theorem okT_mono {l : List Int} {long : Nat} (hn : 1 ≤ l.length) (h12 : l.length ≤ 12) (hl1 : 1 ≤ long) (hl : long ≤ l.length) (hb : bet 0 1000 l l.length) (a b : Nat) (hab : a ≤ b) (h : okT l long a = true) : okT l long b = true :=
  (fea_iff hn h12 hl1 hl hb (by omega)).2 (fea_up hn ((fea_iff hn h12 hl1 hl hb (by omega)).1 h) (by omega))
theorem leL_fea {l : List Int} {long : Nat} (hn : 1 ≤ l.length) (h12 : l.length ≤ 12) (hl1 : 1 ≤ long) (hl : long ≤ l.length) (hb : bet 0 1000 l l.length) : Fea l long (leL l long) := by
  have h := lsN_spec (p := fun k => okT l long k) (sumL l l.length).toNat 0
  have hs := (sumL_bd hb l.length (Nat.le_refl _)).1
  rcases (by have := h.2.1; show leL l long < (sumL l l.length).toNat ∨ leL l long = (sumL l l.length).toNat; unfold leL; omega : leL l long < (sumL l l.length).toNat ∨ leL l long = (sumL l l.length).toNat) with h1 | h1
  · exact (fea_iff hn h12 hl1 hl hb (by omega)).1 (h.2.2.1 (by unfold leL at h1; omega))
  · rw [h1, show (((sumL l l.length).toNat : Nat) : Int) = sumL l l.length by omega]
    exact fea_sum hn hl1 hb
theorem leL_least {l : List Int} {long : Nat} (hn : 1 ≤ l.length) (h12 : l.length ≤ 12) (hl1 : 1 ≤ long) (hl : long ≤ l.length) (hb : bet 0 1000 l l.length) {T : Int} (h : Fea l long T) : (leL l long : Int) ≤ T := by
  have h0 := fea_nn h
  have hsp := lsN_spec (p := fun k => okT l long k) (sumL l l.length).toNat 0
  apply Classical.byContradiction
  intro hlt
  have := hsp.2.2.2 T.toNat (Nat.zero_le _) (by unfold leL at hlt; omega)
  rw [show ((T.toNat : Nat) : Int) = T by omega] at this
  have h2 := (fea_iff hn h12 hl1 hl hb h0).2 h
  rw [this] at h2
  cases h2
theorem leL_iff {l : List Int} {long : Nat} (hn : 1 ≤ l.length) (h12 : l.length ≤ 12) (hl1 : 1 ≤ long) (hl : long ≤ l.length) (hb : bet 0 1000 l l.length) {T : Int} : Fea l long T ↔ (leL l long : Int) ≤ T :=
  ⟨leL_least hn h12 hl1 hl hb, fun h => fea_up hn (leL_fea hn h12 hl1 hl hb) h⟩
theorem leL_sum {l : List Int} {long : Nat} (hn : 1 ≤ l.length) (h12 : l.length ≤ 12) (hl1 : 1 ≤ long) (hl : long ≤ l.length) (hb : bet 0 1000 l l.length) : (leL l long : Int) ≤ sumL l l.length := leL_least hn h12 hl1 hl hb (fea_sum hn hl1 hb)

theorem least_pure (l : List Int) (long : Nat) (h1 : 1 ≤ l.length) (h2 : l.length ≤ 12) (hl1 : 1 ≤ long) (hl2 : long ≤ l.length) (hl : bet 0 1000 l l.length) :
    APure Try.prog 43 [clockV l long] (fun R => R = .int (leL l long)) := by
  have hb := sumL_bd hl l.length (Nat.le_refl _)
  have hs := Search_pure l long (sumL l l.length).toNat h1 h2 hl1 hl2 hl (by omega) (okT_mono h1 h2 hl1 hl2 hl)
  rw [show (((sumL l l.length).toNat : Nat) : Int) = sumL l l.length by omega] at hs
  refine APure_of (X := cx 8) (cx_ok 8) rfl (rs := [(.tmp 2, 3)]) Try.func43 (by decide) rfl rfl rfl (by simp [cx]) (nofr1 nofrCk) ?_
  intro hlen
  ((conv => whnf); repeat (refine stepK_in ?_; (repeat (first | refine seqQ_n ?_ | refine blockQ_n ?_ | refine awp_skip ?_ | refine awp_seq ?_ | refine awp_block ?_)); (conv => whnf)))
  refine APure.to (sum_pure l 1000 (by omega) (by omega) hl) ?_
  ((conv => whnf); repeat (refine stepK_in ?_; (repeat (first | refine seqQ_n ?_ | refine blockQ_n ?_ | refine awp_skip ?_ | refine awp_seq ?_ | refine awp_block ?_)); (conv => whnf)))
  refine APure.to (APure.arg2 (Sub.refl _) (sub_clo fun i hi => ?_) hs) ?_
  · have hi : i < 1 := hi
    obtain rfl : i = 0 := by omega
    refine sub_at fun k hk => ?_
    have hk : k < 2 := hk
    rcases (by omega : k = 0 ∨ k = 1) with rfl | rfl <;> exact Sub.refl _
  ((conv => whnf); repeat (refine stepK_in ?_; (repeat (first | refine seqQ_n ?_ | refine blockQ_n ?_ | refine awp_skip ?_ | refine awp_seq ?_ | refine awp_block ?_)); (conv => whnf)))
  exact ⟨trivial, rfl⟩

/-- Needs that are multiplied; the first k of them. -/
def muL (l : List Int) (b : Int) : Nat → List Int
  | 0 => List.replicate l.length 0
  | k + 1 => (muL l b k).set k (l.getD k 0 * b)
theorem muL_len (l : List Int) (b : Int) : ∀ k, (muL l b k).length = l.length := by
  intro k
  induction k with
  | zero => simp [muL]
  | succ k ih => simp only [muL]; rw [List.length_set, ih]
theorem muL_get (l : List Int) (b : Int) : ∀ k q, q < k → k ≤ l.length → (muL l b k).getD q 0 = l.getD q 0 * b := by
  intro k
  induction k with
  | zero => intro q hq; omega
  | succ k ih =>
    intro q hq hk
    have hl := muL_len l b k
    simp only [muL]
    rw [List.getD, List.getElem?_set]
    by_cases h : k = q
    · subst h
      rw [if_pos rfl, if_pos (by omega)]
      rfl
    · rw [if_neg h]
      exact ih q (by omega) (by omega)
def mul (l : List Int) (b : Int) : List Int := muL l b l.length
theorem mul_len (l : List Int) (b : Int) : (mul l b).length = l.length := muL_len l b _
theorem mul_get (l : List Int) (b : Int) {q : Nat} (hq : q < l.length) : (mul l b).getD q 0 = l.getD q 0 * b := muL_get l b _ q hq (Nat.le_refl _)
theorem mul_bet {l : List Int} {b : Int} {c d : Int} (hb : bet 0 c l l.length) (h0 : 0 ≤ b) (hd : c * b ≤ d) : bet 0 d (mul l b) (mul l b).length := by
  intro q hq
  rw [mul_len] at hq
  rw [mul_get l b hq]
  have := hb q hq
  exact ⟨Int.mul_nonneg this.1 h0, Int.le_trans (Int.mul_le_mul_of_nonneg_right this.2 h0) hd⟩

@[reducible] def ratV (a b : Int) : V := .agg 2 fun k => [V.int a, V.int b].getD k .any
set_option maxRecDepth 100000 in
theorem times_pure (l : List Int) (long b : Nat) (h1 : 1 ≤ l.length) (h2 : l.length ≤ 12) (hl : bet 0 50 l l.length) (hb : b ≤ 12) :
    APure Try.prog 64 [clockV l long, .int b] (fun R => ∃ g, R = .agg 2 g ∧ g 0 = .ints true (mul l b) ∧ g 1 = .int long) := by
  refine APure_of (X := cx 31) (cx_ok 31) rfl (rs := [(.cell 4 50, 50)]) Try.func64 (by decide) rfl rfl rfl (by simp [cx]) (nofr2 nofrCk (by trivial)) ?_
  intro hlen
  ((conv => whnf); repeat (refine stepK_in ?_; (repeat (first | refine seqQ_n ?_ | refine blockQ_n ?_ | refine awp_skip ?_ | refine awp_seq ?_ | refine awp_block ?_)); (conv => whnf)))
  refine ⟨by omega, ?_⟩
  ((conv => whnf); repeat (refine stepK_in ?_; (repeat (first | refine seqQ_n ?_ | refine blockQ_n ?_ | refine awp_skip ?_ | refine awp_seq ?_ | refine awp_block ?_)); (conv => whnf)))
  refine ⟨by omega, ?_⟩
  ((conv => whnf); repeat (refine stepK_in ?_; (repeat (first | refine seqQ_n ?_ | refine blockQ_n ?_ | refine awp_skip ?_ | refine awp_seq ?_ | refine awp_block ?_)); (conv => whnf)))
  refine ⟨(show (8 : Int) * (l.length : Int) ≤ 140737488355328 by omega), ?_⟩
  rw [Int.toNat_natCast]
  ((conv => whnf); repeat (refine stepK_in ?_; (repeat (first | refine seqQ_n ?_ | refine blockQ_n ?_ | refine awp_skip ?_ | refine awp_seq ?_ | refine awp_block ?_)); (conv => whnf)))
  refine AW_loop (X := cx 31) (cx_ok 31) [1, 2, 4, 5, 13, 14, 15] (fun vs M => ∃ k : Nat, k ≤ l.length ∧ vs = [.int b, .ptr 0 0 0 0, .ptr 1 0 0 0, .sl 2 0 0 l.length, .ints false l, .int l.length, .int k] ∧
      ∃ c1, M = [some ⟨50, 2, 0, .one [.ints false l, .int long]⟩, some ⟨50, 2, 0, .one c1⟩, some ⟨3, 1, 0, .il (muL l b k)⟩] ∧ c1.length = 2)
    (fun vs _ => l.length - (vs.getD 6 .any).toInt.toNat) ?_ ?_
  · exact ⟨0, Nat.zero_le _, rfl, _, rfl, rfl⟩
  rintro vs M ⟨k, hk, rfl, c1, rfl, hc1⟩
  ((conv => whnf); repeat (refine stepK_in ?_; (repeat (first | refine seqQ_n ?_ | refine blockQ_n ?_ | refine awp_skip ?_ | refine awp_seq ?_ | refine awp_block ?_)); (conv => whnf)))
  refine br_dec (fun hlt => ?_) (fun hge => ?_)
  · have hk' : k < l.length := by omega
    have hlk := hl k hk'
    have hm : 0 ≤ l.getD k 0 * b ∧ l.getD k 0 * b ≤ 50 * 12 := ⟨Int.mul_nonneg hlk.1 (by omega), Int.le_trans (Int.mul_le_mul_of_nonneg_right hlk.2 (by omega)) (by omega)⟩
    have hlm := muL_len l b k
    have hnx : muL l b (k + 1) = (muL l b k).set k (l.getD k 0 * b) := rfl
    generalize muL l b k = S at *
    generalize hxv : l.getD k 0 * (b : Int) = x at *
    have hxv' : l.getD (k : Int).toNat 0 * (b : Int) = x := by rw [Int.toNat_natCast]; exact hxv
    ((conv => whnf); repeat (refine stepK_in ?_; (repeat (first | refine seqQ_n ?_ | refine blockQ_n ?_ | refine awp_skip ?_ | refine awp_seq ?_ | refine awp_block ?_)); (conv => whnf)))
    repeat ((first | refine ⟨by omega, ?_⟩ | refine ⟨inr (by omega), ?_⟩ | refine eqn_self ?_ | refine ldk (by omega) ?_ | refine ⟨inr (show -9223372036854775808 ≤ l.getD (k : Int).toNat 0 * (b : Int) ∧ l.getD (k : Int).toNat 0 * (b : Int) ≤ 9223372036854775807 by rw [hxv']; omega), ?_⟩); ((conv => whnf); repeat (refine stepK_in ?_; (repeat (first | refine seqQ_n ?_ | refine blockQ_n ?_ | refine awp_skip ?_ | refine awp_seq ?_ | refine awp_block ?_)); (conv => whnf))))
    refine ⟨⟨k + 1, by omega, rfl, c1, ?_, hc1⟩, ?_⟩
    · rw [hnx, ← hxv]
      simp only [Int.toNat_natCast, Nat.zero_add]
      rfl
    · simp [V.toInt, sel, Env.get]; omega
  · obtain rfl : k = l.length := by omega
    obtain ⟨v0, v1, rfl⟩ : ∃ v0 v1, c1 = [v0, v1] := by
      match c1, hc1 with
      | [a, b], _ => exact ⟨a, b, rfl⟩
    have hlm := muL_len l b l.length
    ((conv => whnf); repeat (refine stepK_in ?_; (repeat (first | refine seqQ_n ?_ | refine blockQ_n ?_ | refine awp_skip ?_ | refine awp_seq ?_ | refine awp_block ?_)); (conv => whnf)))
    refine ⟨fun k hk => ?_, _, rfl, Ql ?_, rfl⟩
    · have hk : k < 2 := hk
      rcases (by omega : k = 0 ∨ k = 1) with rfl | rfl
      · exact rfl
      · exact trivial
    · show ((muL l b l.length).drop 0).take l.length = _
      rw [List.drop_zero, List.take_of_length_le (by omega)]
      rfl

/-- The best quotient among the dens below k. -/
def shR (l : List Int) (long : Int) : Nat → Int × Int
  | 0 => (0, 1)
  | 1 => (0, 1)
  | 2 => (leL l long, 1)
  | k + 3 => if (leL (mul l ((k + 2 : Nat) : Int)) long : Int) * (shR l long (k + 2)).2 < (shR l long (k + 2)).1 * ((k + 2 : Nat) : Int) then (leL (mul l ((k + 2 : Nat) : Int)) long, ((k + 2 : Nat) : Int)) else shR l long (k + 2)
theorem shR_succ (l : List Int) (long : Int) {k : Nat} (hk : 2 ≤ k) : shR l long (k + 1) = if (leL (mul l (k : Int)) long : Int) * (shR l long k).2 < (shR l long k).1 * (k : Int) then ((leL (mul l (k : Int)) long : Int), (k : Int)) else shR l long k := by
  obtain ⟨m, rfl⟩ : ∃ m, k = m + 2 := ⟨k - 2, by omega⟩
  rfl
theorem shR_bd {l : List Int} {long : Nat} (h1 : 1 ≤ l.length) (h2 : l.length ≤ 12) (hl1 : 1 ≤ long) (hl2 : long ≤ l.length) (hl : bet 0 50 l l.length) : ∀ k, 2 ≤ k → k ≤ 13 → (0 ≤ (shR l long k).1 ∧ (shR l long k).1 ≤ 20000) ∧ 1 ≤ (shR l long k).2 ∧ (shR l long k).2 < k := by
  have hb : ∀ b : Nat, b ≤ 12 → bet 0 1000 (mul l b) (mul l b).length := fun b hb => mul_bet hl (by omega) (by omega)
  have hle : ∀ b : Nat, b ≤ 12 → (leL (mul l b) long : Int) ≤ 20000 := fun b hb' => by
    have h3 := leL_sum (l := mul l b) (long := long) (by rw [mul_len]; exact h1) (by rw [mul_len]; exact h2) hl1 (by rw [mul_len]; exact hl2) (hb b hb')
    have h4 := sumL_bd (hb b hb') _ (Nat.le_refl _)
    rw [mul_len] at h3 h4
    omega
  intro k
  induction k with
  | zero => intro h; omega
  | succ k ih =>
    intro hk1 hk2
    by_cases hk : k = 1
    · subst hk
      have h3 := leL_sum (l := l) (long := long) h1 h2 hl1 hl2 (fun q hq => by have := hl q hq; omega)
      have h4 := sumL_bd hl _ (Nat.le_refl _)
      show (0 ≤ (leL l long : Int) ∧ (leL l long : Int) ≤ 20000) ∧ (1 : Int) ≤ 1 ∧ (1 : Int) < 2
      omega
    · have := ih (by omega) (by omega)
      rw [shR_succ l long (by omega)]
      split
      · have := hle k (by omega)
        dsimp only
        omega
      · omega
set_option maxRecDepth 100000 in
theorem share_pure (l : List Int) (long : Nat) (h1 : 1 ≤ l.length) (h2 : l.length ≤ 12) (hl1 : 1 ≤ long) (hl2 : long ≤ l.length) (hl : bet 0 50 l l.length) :
    APure Try.prog 45 [clockV l long] (fun R => R = ratV (shR l long (max 2 (long + 1))).1 (shR l long (max 2 (long + 1))).2) := by
  have hlb : bet 0 1000 l l.length := fun q hq => by have := hl q hq; omega
  refine APure_of (X := cx 32) (cx_ok 32) rfl (rs := [(.cell 2 34, 34)]) Try.func45 (by decide) rfl rfl rfl (by simp [cx]) (nofr1 nofrCk) ?_
  intro hlen
  ((conv => whnf); repeat (refine stepK_in ?_; (repeat (first | refine seqQ_n ?_ | refine blockQ_n ?_ | refine awp_skip ?_ | refine awp_seq ?_ | refine awp_block ?_)); (conv => whnf)))
  refine APure.to (APure.arg1 (subCk rfl rfl) (least_pure l long h1 h2 hl1 hl2 hlb)) ?_
  ((conv => whnf); repeat (refine stepK_in ?_; (repeat (first | refine seqQ_n ?_ | refine blockQ_n ?_ | refine awp_skip ?_ | refine awp_seq ?_ | refine awp_block ?_)); (conv => whnf)))
  refine AW_loop (X := cx 32) (cx_ok 32) [1, 2, 3, 4] (fun vs M => ∃ k : Nat, 2 ≤ k ∧ k ≤ max 2 (long + 1) ∧ vs = [.ptr 0 0 0 0, .ptr 1 0 0 0, .ptr 2 0 0 0, .int k] ∧
      M = [some ⟨50, 2, 0, .one [.ints false l, .int long]⟩, some ⟨34, 2, 0, .one [.int 0, .int 0]⟩, some ⟨34, 2, 0, .one [.int (shR l long k).1, .int (shR l long k).2]⟩])
    (fun vs _ => 14 - (vs.getD 3 .any).toInt.toNat) ?_ ?_
  · exact ⟨2, Nat.le_refl _, by omega, rfl, rfl⟩
  rintro vs M ⟨k, hk2, hkl, rfl, rfl⟩
  ((conv => whnf); repeat (refine stepK_in ?_; (repeat (first | refine seqQ_n ?_ | refine blockQ_n ?_ | refine awp_skip ?_ | refine awp_seq ?_ | refine awp_block ?_)); (conv => whnf)))
  refine br_dec (fun hlt => ?_) (fun hge => ?_)
  · have hk' : k ≤ long := by omega
    have hsb := shR_bd (long := long) h1 h2 hl1 hl2 hl k hk2 (by omega)
    have hml : bet 0 1000 (mul l k) (mul l k).length := mul_bet hl (by omega) (by omega)
    have hle := least_pure (mul l k) long (by rw [mul_len]; exact h1) (by rw [mul_len]; exact h2) hl1 (by rw [mul_len]; exact hl2) hml
    have hlb2 : (leL (mul l k) long : Int) ≤ 20000 := by
      have h3 := leL_sum (l := mul l k) (long := long) (by rw [mul_len]; exact h1) (by rw [mul_len]; exact h2) hl1 (by rw [mul_len]; exact hl2) hml
      have h4 := sumL_bd hml _ (Nat.le_refl _)
      rw [mul_len] at h3 h4
      omega
    have hst := shR_succ l long hk2
    generalize leL (mul l k) long = a at *
    generalize hsr : shR l long k = r at *
    obtain ⟨x, y⟩ := r
    dsimp only at hst hsb
    have m1 : (0 : Int) ≤ a * y ∧ (a : Int) * y ≤ 20000 * 13 := ⟨Int.mul_nonneg (by omega) (by omega), Int.mul_le_mul hlb2 (by omega) (by omega) (by omega)⟩
    have m2 : (0 : Int) ≤ x * k ∧ x * (k : Int) ≤ 20000 * 13 := ⟨Int.mul_nonneg (by omega) (by omega), Int.mul_le_mul (by omega) (by omega) (by omega) (by omega)⟩
    ((conv => whnf); repeat (refine stepK_in ?_; (repeat (first | refine seqQ_n ?_ | refine blockQ_n ?_ | refine awp_skip ?_ | refine awp_seq ?_ | refine awp_block ?_)); (conv => whnf)))
    refine APure.mono (APure.arg2 (subCk rfl rfl) (Sub.refl _) (times_pure l long k h1 h2 hl (by omega))) ?_
    rintro R ⟨g, rfl, g0, g1⟩
    ((conv => whnf); repeat (refine stepK_in ?_; (repeat (first | refine seqQ_n ?_ | refine blockQ_n ?_ | refine awp_skip ?_ | refine awp_seq ?_ | refine awp_block ?_)); (conv => whnf)))
    refine APure.to (APure.arg1 (sub_agg fun i hi => ?_) hle) ?_
    · rcases (by omega : i = 0 ∨ i = 1) with rfl | rfl
      · show Sub (byvalN _ 4 (g 0)) _
        rw [g0]
        exact Sub.refl _
      · show Sub (byvalN _ 4 (g 1)) _
        rw [g1]
        exact Sub.refl _
    ((conv => whnf); repeat (refine stepK_in ?_; (repeat (first | refine seqQ_n ?_ | refine blockQ_n ?_ | refine awp_skip ?_ | refine awp_seq ?_ | refine awp_block ?_)); (conv => whnf)))
    refine ⟨inr (show -9223372036854775808 ≤ (a : Int) * y ∧ (a : Int) * y ≤ 9223372036854775807 by omega), ?_⟩
    ((conv => whnf); repeat (refine stepK_in ?_; (repeat (first | refine seqQ_n ?_ | refine blockQ_n ?_ | refine awp_skip ?_ | refine awp_seq ?_ | refine awp_block ?_)); (conv => whnf)))
    refine ⟨inr (show -9223372036854775808 ≤ x * (k : Int) ∧ x * (k : Int) ≤ 9223372036854775807 by omega), ?_⟩
    ((conv => whnf); repeat (refine stepK_in ?_; (repeat (first | refine seqQ_n ?_ | refine blockQ_n ?_ | refine awp_skip ?_ | refine awp_seq ?_ | refine awp_block ?_)); (conv => whnf)))
    refine br_dec (fun hb => ?_) (fun hb => ?_)
    · rw [if_pos hb] at hst
      ((conv => whnf); repeat (refine stepK_in ?_; (repeat (first | refine seqQ_n ?_ | refine blockQ_n ?_ | refine awp_skip ?_ | refine awp_seq ?_ | refine awp_block ?_)); (conv => whnf)))
      refine ⟨inr (by omega), ?_⟩
      ((conv => whnf); repeat (refine stepK_in ?_; (repeat (first | refine seqQ_n ?_ | refine blockQ_n ?_ | refine awp_skip ?_ | refine awp_seq ?_ | refine awp_block ?_)); (conv => whnf)))
      refine ⟨⟨k + 1, by omega, by omega, rfl, ?_⟩, ?_⟩
      · rw [hst]; rfl
      · simp [V.toInt, sel, Env.get]; omega
    · rw [if_neg hb] at hst
      ((conv => whnf); repeat (refine stepK_in ?_; (repeat (first | refine seqQ_n ?_ | refine blockQ_n ?_ | refine awp_skip ?_ | refine awp_seq ?_ | refine awp_block ?_)); (conv => whnf)))
      refine ⟨inr (by omega), ?_⟩
      ((conv => whnf); repeat (refine stepK_in ?_; (repeat (first | refine seqQ_n ?_ | refine blockQ_n ?_ | refine awp_skip ?_ | refine awp_seq ?_ | refine awp_block ?_)); (conv => whnf)))
      refine ⟨⟨k + 1, by omega, by omega, rfl, ?_⟩, ?_⟩
      · rw [hst]
      · simp [V.toInt, sel, Env.get]; omega
  · obtain rfl : k = max 2 (long + 1) := by omega
    ((conv => whnf); repeat (refine stepK_in ?_; (repeat (first | refine seqQ_n ?_ | refine blockQ_n ?_ | refine awp_skip ?_ | refine awp_seq ?_ | refine awp_block ?_)); (conv => whnf)))
    refine ⟨fun k hk => ?_, congrArg (V.agg 2) (funext fun i => ?_)⟩
    · have hk : k < 2 := hk
      rcases (by omega : k = 0 ∨ k = 1) with rfl | rfl <;> exact trivial
    · match i with
      | 0 => rfl
      | 1 => rfl
      | _ + 2 => rfl
end Go.Tri
