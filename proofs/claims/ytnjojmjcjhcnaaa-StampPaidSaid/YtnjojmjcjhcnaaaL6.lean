/-
  LAW: StampSums.
-/
import Derived.Test.YtnjojmjcjhcnaaaB14
namespace Go.Tri
open Go.Proofs

theorem Sm_add {v : List Int} {n : Nat} {b : Int} (hb : Sm v n b) : ∀ {m : Nat} {a : Int}, Sm v m a → Sm v (m + n) (a + b) := by
  intro m
  induction m with
  | zero =>
    intro a h
    simp only [Sm] at h
    subst h
    rw [Nat.zero_add, Int.zero_add]
    exact hb
  | succ m ih =>
    rintro a ⟨x, hx, h⟩
    rw [Nat.succ_add]
    exact ⟨x, hx, by rw [show a + b - x = a - x + b from by omega]; exact ih h⟩
theorem few_add {v : List Int} {h a b f g k : Int} (hf : Few v h a f) (hg : Few v h b g) (hk : Few v h (a + b) k) (h1 : 0 ≤ f) (h2 : 0 ≤ g) (h3 : f + g ≤ h) : 0 ≤ k ∧ k ≤ f + g := by
  rcases hf with ⟨f1, _⟩ | ⟨_, _, f3, _⟩
  · omega
  rcases hg with ⟨g1, _⟩ | ⟨_, _, g3, _⟩
  · omega
  have hs := Sm_add g3 f3
  rcases hk with ⟨k1, k2⟩ | ⟨k1, k2, k3, k4⟩
  · exact absurd hs (k2 _ (by omega))
  · refine ⟨k1, ?_⟩
    have : ¬ ((f.toNat + g.toNat : Nat) : Int) < k := fun hc => k4 _ hc hs
    omega
theorem wf_u16 {a : Int} (h : (Lit.int .u16 a).wf = true) : 0 ≤ a ∧ a ≤ 65535 := by
  simp only [Lit.wf, Bool.and_eq_true, decide_eq_true_eq] at h
  exact h
theorem tmod_nat {a t : Int} (ha : 0 ≤ a) (ht : 0 < t) : ∃ x : Nat, a.tmod t = x ∧ (x : Int) < t := by
  have h1 := Int.tmod_eq_emod_of_nonneg ha (b := t)
  have h2 := Int.emod_nonneg a (show t ≠ 0 by omega)
  have h3 := Int.emod_lt_of_pos a ht
  exact ⟨(a.tmod t).toNat, by omega, by omega⟩

set_option maxRecDepth 100000 in
theorem StampSums_pure (h : Int) (v : List Int) (p q : Int) (hp : (Lit.int .u16 p).wf = true) (hq : (Lit.int .u16 q).wf = true) : APure Try.prog 15 [.int h, .ints false v, .lit (.int .u16 p), .lit (.int .u16 q)] (fun R => R = .bool true) := by
  refine APure_of (X := cx 124) (cx_ok 124) rfl (rs := [(.tmp 8, 4)]) Try.func15 (by decide) rfl rfl rfl (by simp [cx]) (by simp [NoFr]) ?_
  intro hlen
  have fin : APure Try.prog 16 [] (fun R => R = .bool true) := alive_pure
  have hp := wf_u16 hp
  have hq := wf_u16 hq
  conv => whnf
  refine br_dec (fun hl => ?_) (fun hl => ?_)
  · conv => whnf
    refine APure.to fin ?_
    conv => whnf
    exact ⟨trivial, rfl⟩
  conv => whnf
  refine APure.to (refTicket_pure h v) ?_
  conv => whnf
  refine br_ne (fun h0 => ?_) (fun h0 => ?_)
  · conv => whnf
    refine APure.to fin ?_
    conv => whnf
    exact ⟨trivial, rfl⟩
  obtain ⟨hh, hv⟩ := tickE_inv h0
  have hb := mul_bd hh hv.last
  have h1l := hv.1
  have h6l := hv.2.1
  have hll : v.getD ((v.length : Int) - 1).toNat 0 = lastV v := by unfold lastV; congr 1; omega
  have hF := Fewest_pure h v
  rw [if_pos h0, h0] at hF
  have hfl : (fewL h v).length = (h * lastV v + 1).toNat := fewL_len
  have hfb : ∀ j, -1 ≤ (fewL h v).getD j 0 ∧ (fewL h v).getD j 0 ≤ h := fun j => fewP_bd (by omega) v _ j
  have hfew : ∀ a : Nat, (a : Int) ≤ h * lastV v → Few v h a ((fewL h v).getD a 0) := fun a ha => fewL_ok (by omega) hv ha
  have hf0 : (fewL h v).getD 0 0 = 0 := by rw [fewL_get (by omega)]; rfl
  obtain ⟨x, hx, hxb⟩ := tmod_nat (a := p) (t := h * lastV v + 1) hp.1 (by omega)
  obtain ⟨y, hy, hyb⟩ := tmod_nat (a := q) (t := h * lastV v + 1) hq.1 (by omega)
  conv => whnf
  refine APure.to hF ?_
  generalize fewL h v = l at *
  conv => whnf
  refine ⟨inr (by omega), ?_⟩
  conv => whnf
  refine ⟨by omega, ?_⟩
  conv => whnf
  refine ⟨by omega, ?_⟩
  rw [hll]
  conv => whnf
  refine ⟨inr (by omega), ?_⟩
  conv => whnf
  refine ⟨inr (by omega), ?_⟩
  conv => whnf
  refine br_ne (fun h1 => absurd h1 (by omega)) (fun _ => ?_)
  conv => whnf
  refine ⟨by omega, ?_⟩
  conv => whnf
  refine ⟨by omega, ?_⟩
  conv => whnf
  refine br_ne (fun h1 => absurd hf0 h1) (fun _ => ?_)
  conv => whnf
  refine AW_draw (X := cx 124) (cx_ok 124) mixed (by kernel_rfl) ?_
  conv => whnf
  repeat ((first | refine ⟨inr (by omega), ?_⟩ | refine ⟨(show h * lastV v + 1 ≠ 0 by omega), ?_⟩); conv => whnf)
  rw [hx, hy]
  refine AW_draw (X := cx 124) (cx_ok 124) mixed (by kernel_rfl) ?_
  conv => whnf
  refine ⟨inr (by omega), ?_⟩
  conv => whnf
  refine br_dec (fun h1 => ?_) (fun h1 => ?_)
  · conv => whnf
    refine APure.to fin ?_
    conv => whnf
    exact ⟨trivial, rfl⟩
  conv => whnf
  refine ⟨by omega, ?_⟩
  conv => whnf
  refine ⟨by omega, ?_⟩
  conv => whnf
  refine br_dec (fun h2 => ?_) (fun h2 => ?_)
  · conv => whnf
    refine APure.to fin ?_
    conv => whnf
    exact ⟨trivial, rfl⟩
  have h2 : ¬ l.getD x 0 < 0 := h2
  conv => whnf
  refine ⟨by omega, ?_⟩
  conv => whnf
  refine ⟨by omega, ?_⟩
  conv => whnf
  refine br_dec (fun h3 => ?_) (fun h3 => ?_)
  · conv => whnf
    refine APure.to fin ?_
    conv => whnf
    exact ⟨trivial, rfl⟩
  have h3 : ¬ l.getD y 0 < 0 := h3
  have hbx := hfb x
  have hby := hfb y
  have hin : -9223372036854775808 ≤ l.getD ((x : Int)).toNat 0 + l.getD ((y : Int)).toNat 0 ∧ l.getD ((x : Int)).toNat 0 + l.getD ((y : Int)).toNat 0 ≤ 9223372036854775807 := (show -9223372036854775808 ≤ l.getD x 0 + l.getD y 0 ∧ l.getD x 0 + l.getD y 0 ≤ 9223372036854775807 by omega)
  conv => whnf
  repeat ((first | refine ⟨by omega, ?_⟩ | refine ⟨inr hin, ?_⟩); conv => whnf)
  refine br_dec (fun h4 => ?_) (fun h4 => ?_)
  · conv => whnf
    refine APure.to fin ?_
    conv => whnf
    exact ⟨trivial, rfl⟩
  have h4 : ¬ l.getD x 0 + l.getD y 0 > h := h4
  have exy : ((x : Int) + (y : Int)).toNat = x + y := by omega
  have hk := few_add (hfew x (by omega)) (hfew y (by omega)) (k := l.getD (x + y) 0) (by have := hfew (x + y) (by omega); rw [show ((x + y : Nat) : Int) = (x : Int) + y from by omega] at this; exact this) (by omega) (by omega) (by omega)
  conv => whnf
  refine AW_draw (X := cx 124) (cx_ok 124) mixed (by kernel_rfl) ?_
  conv => whnf
  refine ⟨inr (by omega), ?_⟩
  conv => whnf
  refine ⟨by omega, ?_⟩
  conv => whnf
  refine ⟨by omega, ?_⟩
  rw [exy]
  conv => whnf
  refine br_dec (fun _ => ?_) (fun h5 => absurd h5 (by omega))
  conv => whnf
  repeat ((first | refine ⟨by omega, ?_⟩ | refine ⟨inr hin, ?_⟩ | refine ⟨inr (by omega), ?_⟩); conv => whnf)
  refine br_dec (fun _ => ?_) (fun h6 => absurd (show l.getD ((x : Int) + (y : Int)).toNat 0 ≤ l.getD x 0 + l.getD y 0 by rw [exy]; exact hk.2) h6)
  conv => whnf
  refine ⟨.bool true, fin, ?_⟩
  conv => whnf
  exact ⟨trivial, rfl⟩
end Go.Tri
