/-
  CONTRACTS: the reference's Holes, ways, Ways.
-/
import Derived.Test.YtnjojmjcjhcnaaaB8
namespace Go.Tri
open Go.Proofs

def refHol (h : Int) (v : List Int) : List Int := hol (fun a => !posB (fewL h v) a) (fewL h v).length
theorem posB_zero {h : Int} {v : List Int} (hh : 1 ≤ h ∧ h ≤ 6) (hv : Vals v) : posB (fewL h v) 0 = true := by
  have hb := mul_bd hh hv.last
  unfold posB fewL
  rw [fewP_get h v (show 0 < (h * lastV v + 1).toNat by omega)]
  rfl

theorem refHoles_pure (h : Int) (v : List Int) : APure Try.prog 27 [.int h, .ints false v] (fun R => R = tup2 (.ints true (if tickE h v = 0 then refHol h v else [])) (.int (tickE h v))) := by
  refine APure_of (X := cx 35) (cx_ok 35) rfl (rs := [(.tmp 4, 22), (.tmp 5, 24)]) Try.func27 (by decide) rfl rfl rfl (by simp [cx]) (by simp [NoFr]) ?_
  intro hlen
  conv => whnf
  refine APure.to (refTicket_pure h v) ?_
  conv => whnf
  refine br_ne (fun h0 => ?_) (fun h0 => ?_)
  · conv => whnf
    exact ⟨rfl, trivial, Q2 (Ql (by rw [if_neg h0])) rfl⟩
  obtain ⟨hh, hv⟩ := tickE_inv h0
  rw [if_pos h0]
  have hb := mul_bd hh hv.last
  have hfl : (fewL h v).length = (h * lastV v + 1).toNat := fewL_len
  have hp0 := posB_zero hh hv
  conv => whnf
  refine APure.to (refFew_pure h hh v hv) ?_
  have hrh : refHol h v = hol (fun a => !posB (fewL h v) a) (fewL h v).length := rfl
  generalize fewL h v = w at *
  conv => whnf
  refine AW_loopA (X := cx 35) (cx_ok 35) [7, 8, 9] (fun t => Nat.beq t 1) (fun vs M => ∃ (k : Nat) (o : V), 1 ≤ k ∧ k ≤ w.length ∧ Out1 (hol (fun a => !posB w a) k) o M ∧ vs = [.ints true w, o, .int k])
    (fun vs _ => w.length - (vs.getD 2 .any).toInt.toNat) (fun t ht => absurd ht (by simp)) ?_ ?_
  · exact same0 ⟨1, .emp true, Nat.le_refl _, by omega, .inl ⟨by simp [hol, hp0], rfl, rfl⟩, rfl⟩
  rintro vs M ⟨k, o, hk1, hk, hO, rfl⟩
  have hhl := hol_len (fun a => !posB w a) k
  conv => whnf
  refine br_dec (fun hlt => ?_) (fun hge => ?_)
  · have hk' : k < w.length := by omega
    conv => whnf
    refine ⟨by omega, ?_⟩
    conv => whnf
    refine ⟨by omega, ?_⟩
    conv => whnf
    refine br_dec (fun h1 => ?_) (fun h1 => ?_)
    · have hnext : hol (fun a => !posB w a) (k + 1) = hol (fun a => !posB w a) k ++ [(k : Int)] := by
        simp only [hol]
        rw [if_pos (by unfold posB; simp only [Int.toNat_natCast] at h1; simp [-List.getD_eq_getElem?_getD]; omega)]
      generalize hol (fun a => !posB w a) k = l at *
      rcases hO with ⟨rfl, rfl, rfl⟩ | ⟨ver, rfl, rfl⟩
      · conv => whnf
        repeat ((first | refine ⟨by omega, ?_⟩ | refine ⟨inr (by omega), ?_⟩ | refine eqn_self ?_ | refine ⟨ms (by omega), ?_⟩ | refine ⟨ms (by simp only [Src.n]; omega), ?_⟩ | refine ⟨msk (by omega), ?_⟩ | refine ⟨ms1, ?_⟩); conv => whnf)
        refine ⟨by repeat (first | exact trivial | exact rfl | exact fun _ => trivial | exact fun _ _ => trivial | exact fun _ _ _ => trivial | exact fun _ _ _ _ => trivial | refine And.intro ?_ ?_), memA1 [none, some ⟨3, 1, 0, .il (hol (fun a => !posB w a) (k + 1))⟩] ⟨ObSub.ii (by rw [hnext]; rfl), trivial⟩ ⟨⟨k + 1, _, by omega, by omega, .inr ⟨0, rfl, rfl⟩, ?_⟩, ?_⟩⟩
        · rw [hnext]; rfl
        · simp [V.toInt, sel, Env.get]; omega
      · conv => whnf
        repeat ((first | refine ⟨by omega, ?_⟩ | refine ⟨inr (by omega), ?_⟩ | refine eqn_self ?_ | refine ⟨ms (by omega), ?_⟩ | refine ⟨ms (by simp only [Src.n]; omega), ?_⟩ | refine ⟨msk (by omega), ?_⟩ | refine ⟨ms1, ?_⟩); conv => whnf)
        refine ⟨by repeat (first | exact trivial | exact rfl | exact fun _ => trivial | exact fun _ _ => trivial | exact fun _ _ _ => trivial | exact fun _ _ _ _ => trivial | refine And.intro ?_ ?_), memA1 [none, some ⟨3, 1, ver + 1, .il (hol (fun a => !posB w a) (k + 1))⟩] ⟨ObSub.ii (by rw [hnext, List.take_length]; rfl), trivial⟩ ⟨⟨k + 1, _, by omega, by omega, .inr ⟨ver + 1, rfl, rfl⟩, ?_⟩, ?_⟩⟩
        · rw [hnext, List.length_append]; rfl
        · simp [V.toInt, sel, Env.get]; omega
    · have hnext : hol (fun a => !posB w a) (k + 1) = hol (fun a => !posB w a) k := by
        simp only [hol]
        rw [if_neg (by unfold posB; simp only [Int.toNat_natCast] at h1; simp [-List.getD_eq_getElem?_getD]; omega)]
        simp
      rcases hO with ⟨hl0, rfl, rfl⟩ | ⟨ver, rfl, rfl⟩
      · conv => whnf
        refine ⟨inr (by omega), ?_⟩
        conv => whnf
        refine ⟨by repeat (first | exact trivial | exact rfl | exact fun _ => trivial | exact fun _ _ => trivial | exact fun _ _ _ => trivial | exact fun _ _ _ _ => trivial | refine And.intro ?_ ?_), same1 ⟨⟨k + 1, _, by omega, by omega, .inl ⟨by rw [hnext]; exact hl0, rfl, rfl⟩, rfl⟩, ?_⟩⟩
        simp [V.toInt, sel, Env.get]; omega
      · conv => whnf
        refine ⟨inr (by omega), ?_⟩
        conv => whnf
        refine ⟨by repeat (first | exact trivial | exact rfl | exact fun _ => trivial | exact fun _ _ => trivial | exact fun _ _ _ => trivial | exact fun _ _ _ _ => trivial | refine And.intro ?_ ?_), same1 ⟨⟨k + 1, _, by omega, by omega, .inr ⟨ver, by rw [hnext]; rfl, by rw [hnext]; rfl⟩, rfl⟩, ?_⟩⟩
        simp [V.toInt, sel, Env.get]; omega
  · obtain rfl : k = w.length := by omega
    rcases hO with ⟨hl0, rfl, rfl⟩ | ⟨ver, rfl, rfl⟩
    · conv => whnf
      exact ⟨rfl, trivial, Q2 (Ql (by rw [hrh, hl0])) (Qi h0.symm)⟩
    · conv => whnf
      repeat ((first | refine ⟨by omega, ?_⟩ | refine ⟨inr (by omega), ?_⟩ | refine eqn_self ?_ | refine ⟨ms (by omega), ?_⟩ | refine ⟨ms (by simp only [Src.n]; omega), ?_⟩ | refine ⟨msk (by omega), ?_⟩ | refine ⟨ms1, ?_⟩); conv => whnf)
      exact ⟨rfl, trivial, Q2 (Ql (by rw [hrh]; simp)) (Qi h0.symm)⟩

/-- The ways of at most m stamps, of the first k values. -/
def wR (v : List Int) : Nat → Nat → Int → Int
  | 0, _, a => if a = 0 then 1 else 0
  | _ + 1, 0, a => if a = 0 then 1 else 0
  | m + 1, k + 1, a => if a = 0 then 1 else wR v (m + 1) k a + (if v.getD k 0 ≤ a then wR v m (k + 1) (a - v.getD k 0) else 0)
termination_by m k => (m, k)
theorem wR_bd (v : List Int) : ∀ (n m k : Nat) (a : Int), m + k ≤ n → 0 ≤ wR v m k a ∧ wR v m k a ≤ 2 ^ n := by
  intro n
  induction n with
  | zero =>
    intro m k a hmk
    obtain rfl : m = 0 := by omega
    rw [wR]
    split <;> simp
  | succ n ih =>
    intro m k a hmk
    have h1 : (1 : Int) ≤ 2 ^ n := by
      have : (0 : Int) < 2 ^ n := Int.pow_pos (by omega)
      omega
    have h2 : (2 : Int) ^ (n + 1) = 2 ^ n * 2 := Int.pow_succ _ _
    match m, k with
    | 0, k => rw [wR]; split <;> omega
    | m + 1, 0 => rw [wR]; split <;> omega
    | m + 1, k + 1 =>
      rw [wR]
      have i1 := ih (m + 1) k a (by omega)
      have i2 := ih m (k + 1) (a - v.getD k 0) (by omega)
      split
      · omega
      · split <;> omega

theorem refways_pure (v : List Int) (hv : ∀ i, i < v.length → 1 ≤ v.getD i 0 ∧ v.getD i 0 ≤ 200) (hvl : v.length ≤ 6) : ∀ (n m k : Nat) (a : Int), m + k ≤ n → n ≤ 12 → k ≤ v.length → 0 ≤ a → a ≤ 1200 →
    APure Try.prog 50 [.ints false v, .int m, .int ((k : Int) - 1), .int a] (fun R => R = .int (wR v m k a)) := by
  intro n
  induction n with
  | zero =>
    intro m k a hmk _ hk ha0 ha1
    obtain rfl : m = 0 := by omega
    obtain rfl : k = 0 := by omega
    refine APure_of (X := cx 44) (cx_ok 44) rfl (rs := [(.tmp 8, 3)]) Try.func50 (by decide) rfl rfl rfl (by simp [cx]) (by simp [NoFr]) ?_
    intro hlen
    conv => whnf
    refine br_eq (fun h0 => ?_) (fun h0 => ?_)
    · conv => whnf
      exact ⟨trivial, Qi (by rw [wR, if_pos h0])⟩
    · conv => whnf
      exact ⟨trivial, Qi (by rw [wR, if_neg h0])⟩
  | succ n ih =>
    intro m k a hmk hn hk ha0 ha1
    refine APure_of (X := cx 44) (cx_ok 44) rfl (rs := [(.tmp 8, 3)]) Try.func50 (by decide) rfl rfl rfl (by simp [cx]) (by simp [NoFr]) ?_
    intro hlen
    conv => whnf
    refine br_eq (fun h0 => ?_) (fun h0 => ?_)
    · conv => whnf
      refine ⟨trivial, Qi ?_⟩
      match m, k with
      | 0, _ => rw [wR, if_pos h0]
      | _ + 1, 0 => rw [wR, if_pos h0]
      | _ + 1, _ + 1 => rw [wR, if_pos h0]
    conv => whnf
    refine br_eq (fun h1 => ?_) (fun h1 => ?_)
    · conv => whnf
      obtain rfl : m = 0 := by omega
      exact ⟨trivial, Qi (by rw [wR, if_neg h0])⟩
    conv => whnf
    refine br_dec (fun h2 => ?_) (fun h2 => ?_)
    · conv => whnf
      obtain rfl : k = 0 := by omega
      obtain ⟨m', rfl⟩ : ∃ m', m = m' + 1 := ⟨m - 1, by omega⟩
      exact ⟨trivial, Qi (by rw [wR, if_neg h0])⟩
    obtain ⟨m', rfl⟩ : ∃ m', m = m' + 1 := ⟨m - 1, by omega⟩
    obtain ⟨k', rfl⟩ : ∃ k', k = k' + 1 := ⟨k - 1, by omega⟩
    have e1 : ((k' + 1 : Nat) : Int) - 1 = k' := by omega
    have e2 : ((m' + 1 : Nat) : Int) - 1 = m' := by omega
    have hvk := hv k' (by omega)
    have i1 := ih (m' + 1) k' a (by omega) (by omega) (by omega) ha0 ha1
    have b1 := wR_bd v 12 (m' + 1) k' a (by omega)
    have b2 := wR_bd v 12 m' (k' + 1) (a - v.getD k' 0) (by omega)
    have hw : wR v (m' + 1) (k' + 1) a = wR v (m' + 1) k' a + (if v.getD k' 0 ≤ a then wR v m' (k' + 1) (a - v.getD k' 0) else 0) := by rw [wR, if_neg h0]
    rw [e1]
    conv => whnf
    refine ⟨inr (by omega), ?_⟩
    conv => whnf
    refine APure.to i1 ?_
    conv => whnf
    refine ⟨by omega, ?_⟩
    conv => whnf
    refine ⟨by omega, ?_⟩
    conv => whnf
    refine br_dec (fun h3 => ?_) (fun h3 => ?_)
    · have h3 : v.getD k' 0 ≤ a := h3
      have i2 := ih m' (k' + 1) (a - v.getD k' 0) (by omega) (by omega) (by omega) (by omega) (by omega)
      conv => whnf
      refine ⟨inr (by omega), ?_⟩
      conv => whnf
      refine ⟨by omega, ?_⟩
      conv => whnf
      refine ⟨by omega, ?_⟩
      conv => whnf
      refine ⟨inr (show -9223372036854775808 ≤ a - v.getD k' 0 ∧ a - v.getD k' 0 ≤ 9223372036854775807 by omega), ?_⟩
      conv => whnf
      rw [e2]
      rw [e1] at i2
      refine APure.to i2 ?_
      conv => whnf
      refine ⟨inr (by omega), ?_⟩
      conv => whnf
      exact ⟨trivial, Qi (by rw [hw, if_pos h3])⟩
    · have h3 : ¬ v.getD k' 0 ≤ a := h3
      conv => whnf
      exact ⟨trivial, Qi (by rw [hw, if_neg h3, Int.add_zero])⟩

theorem refWays_pure (h : Int) (v : List Int) (a : Int) : APure Try.prog 23 [.int h, .ints false v, .int a] (fun R => R = tup2 (.int (if amtE h v a = 0 then wR v h.toNat v.length a else 0)) (.int (amtE h v a))) := by
  refine APure_of (X := cx 23) (cx_ok 23) rfl (rs := [(.tmp 6, 3), (.tmp 7, 24)]) Try.func23 (by decide) rfl rfl rfl (by simp [cx]) (by simp [NoFr]) ?_
  intro hlen
  conv => whnf
  refine APure.to (refAsked_pure h v a) ?_
  conv => whnf
  refine br_ne (fun h0 => ?_) (fun h0 => ?_)
  · conv => whnf
    exact ⟨trivial, trivial, Q2 (Qi (by rw [if_neg h0])) rfl⟩
  · obtain ⟨hh, hv, ha0, ha1⟩ := amtE_inv h0
    obtain ⟨n, rfl⟩ : ∃ n : Nat, h = n := ⟨h.toNat, by omega⟩
    have hb := mul_bd hh hv.last
    have h1l := hv.1
    have h6l := hv.2.1
    conv => whnf
    refine ⟨inr (by omega), ?_⟩
    conv => whnf
    refine APure.to (refways_pure v (fun i hi => hv.at hi) h6l 12 n v.length a (by omega) (by omega) (by omega) ha0 (by omega)) ?_
    conv => whnf
    exact ⟨trivial, trivial, Q2 (Qi (by rw [if_pos h0]; rfl)) (Qi h0.symm)⟩
end Go.Tri
