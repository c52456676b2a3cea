/-
  LAW: StampMore. Its end is written out by a program (the branches meet again, and each walks on by itself).
-/
import Derived.Test.YtjhconffdkgikaaB14
import Derived.Test.YtjhconffdkgikaaB15
namespace Go.Tri
open Go.Proofs

theorem wf_u8 {p : Int} (h : (Lit.int .u8 p).wf = true) : 0 ≤ p ∧ p ≤ 255 := by
  simp only [Lit.wf, Bool.and_eq_true, decide_eq_true_eq] at h
  exact h
theorem tmod_nat' {a t : Int} (ha : 0 ≤ a) (ht : 0 < t) : ∃ x : Nat, a.tmod t = x ∧ (x : Int) < t := by
  refine ⟨(a.tmod t).toNat, ?_, ?_⟩
  · have := Int.tmod_nonneg t ha; omega
  · have := Int.tmod_lt_of_pos a ht; omega
theorem Sm_ones {v : List Int} (hv : ∀ x ∈ v, 1 ≤ x) : ∀ {m : Nat} {a : Int}, (∀ y ∈ v, y = 1 ∨ a < y) → Sm v m a → a = m := by
  intro m
  induction m with
  | zero => intro a _ h; exact h
  | succ m ih =>
    rintro a hy ⟨x, hx, h⟩
    have h1 := Sm_ge hv h
    rcases hy x hx with rfl | h2
    · have := ih (fun y hy' => (hy y hy').imp id (fun h3 => by omega)) h
      omega
    · omega
theorem rangeOf_yes9 {p : Nat → Bool} : ∀ (f n a : Nat), n < a → a ≤ rangeOf p f n → p a = true := by
  intro f
  induction f with
  | zero => intro n a h1 h2; simp only [rangeOf] at h2; omega
  | succ f ih =>
    intro n a h1 h2
    simp only [rangeOf] at h2
    split at h2
    · next hp =>
      rcases (by omega : a = n + 1 ∨ n + 1 < a) with rfl | h3
      · exact hp
      · exact ih _ _ h3 h2
    · omega
theorem reach_first {h : Nat} {v : List Int} (hv : Vals v) (h1 : 1 < v.length) (h2 : v.getD 1 0 > (h : Int) + 1) : ¬ ((refReach h v : Nat) : Int) > h := by
  intro hc
  have hp : ∀ x ∈ v, 1 ≤ x := fun x hx => (hv.mem x hx).1
  have hl := hv.last
  have hn : 0 ≤ (h : Int) * lastV v := Int.mul_nonneg (by omega) (by omega)
  have hle := (rangeOf_le (posB (fewL h v)) ((fewL h v).length - 1) 0).2
  have hyes := fun a => rangeOf_yes9 (p := posB (fewL h v)) ((fewL h v).length - 1) 0 a
  rw [fewL_len] at hle
  have pay : ∀ a : Nat, 0 < a → a ≤ h + 1 → ∃ m : Nat, m ≤ h ∧ Sm v m a := by
    intro a ha ha2
    have hr : a ≤ rangeOf (posB (fewL h v)) ((fewL h v).length - 1) 0 := by unfold refReach at hc; omega
    have h3 := of_decide_eq_true (hyes a ha hr)
    rw [fewL_len] at hr
    rcases fewL_ok (h := h) (by omega) hv (a := a) (by omega) with ⟨e, _⟩ | ⟨_, b, c, _⟩
    · omega
    · exact ⟨_, by omega, c⟩
  obtain ⟨m, hm, hs⟩ := pay 1 (by omega) (by omega)
  have hone : (1 : Int) ∈ v := by
    match m, hs with
    | 0, hs => simp [Sm] at hs
    | m + 1, ⟨x, hx, hs⟩ =>
      have := Sm_ge hp hs
      have := hp x hx
      have : x = 1 := by omega
      exact this ▸ hx
  obtain ⟨m, hm, hs⟩ := pay (h + 1) (by omega) (by omega)
  have := Sm_ones hp (a := ((h + 1 : Nat) : Int)) (fun y hy => by
    obtain ⟨i, hi, rfl⟩ := mem_getD hy
    obtain ⟨j, hj, ej⟩ := mem_getD hone
    have h0 := hv.at (i := 0) (by omega)
    rcases (by omega : i = 0 ∨ i = 1 ∨ 1 < i) with rfl | rfl | h3
    · rcases (by omega : j = 0 ∨ 0 < j) with rfl | h4
      · exact .inl ej
      · have := hv.2.2.lt h4 hj; omega
    · right; omega
    · have := hv.2.2.lt h3 hi; right; omega) hs
  omega

set_option maxRecDepth 100000 in
set_option maxHeartbeats 4000000 in
theorem StampMore_pure (h : Int) (v : List Int) (p : Int) (hp : (Lit.int .u8 p).wf = true) : APure Try.prog 12 [.int h, .ints false v, .lit (.int .u8 p)] (fun R => R = .bool true) := by
  refine APure_of (X := cx 225) (cx_ok 225) rfl (rs := [(.tmp 6, 4)]) Try.func12 (by decide) rfl rfl rfl (by simp [cx]) (by simp [NoFr]) ?_
  intro hlen
  have fin : APure Try.prog 16 [] (fun R => R = .bool true) := alive_pure
  have hp := wf_u8 hp
  conv => whnf
  refine br_dec (fun hl => ?_) (fun hl => ?_)
  · conv => whnf
    refine APure.to fin ?_
    conv => whnf
    exact ⟨trivial, rfl⟩
  conv => whnf
  refine APure.to (refTicket_pure h v) ?_
  conv => whnf
  refine br_ne (fun h0 => ?_) (fun h0 => ?_)
  · conv => whnf
    refine APure.to fin ?_
    conv => whnf
    exact ⟨trivial, rfl⟩
  obtain ⟨hh, hv⟩ := tickE_inv h0
  obtain ⟨n, rfl⟩ : ∃ n : Nat, h = n := ⟨h.toNat, by omega⟩
  have hb := mul_bd hh hv.last
  have h1l := hv.1
  have h6l := hv.2.1
  have hR1 := Range_pure n v
  rw [if_pos h0, h0, Int.toNat_natCast, reach_eq hv] at hR1
  have hF1 := Fewest_pure n v
  rw [if_pos h0, h0] at hF1
  have hl1 : (fewL n v).length = (n * lastV v + 1).toNat := fewL_len
  obtain ⟨x, hx, hxb⟩ := tmod_nat' (a := p) (t := 200) hp.1 (by omega)
  have hfirst : (1 < v.length) → v.getD 1 0 > (n : Int) + 1 → ¬ ((refReach n v : Nat) : Int) > n := reach_first hv
  have hv1 : ∀ j, j < v.length → 1 ≤ v.getD j 0 ∧ v.getD j 0 ≤ 200 := fun j hj => hv.at hj
  -- one value more
  have hwith : v.length < 6 → ¬ (1 + (x : Int) ∈ v) →
      APure Try.prog 24 [.int n, .ints false (withL v (1 + (x : Int)))] (fun R => R = tup2 (.int (refReach n (withL v (1 + (x : Int))) : Nat)) (.int 0)) ∧
      APure Try.prog 20 [.int n, .ints false (withL v (1 + (x : Int)))] (fun R => R = tup2 (.ints true (fewL n (withL v (1 + (x : Int))))) (.int 0)) ∧
      refReach n v ≤ refReach n (withL v (1 + (x : Int))) ∧ (fewL n v).length ≤ (fewL n (withL v (1 + (x : Int)))).length ∧
      (∀ a : Nat, a < (fewL n v).length → 0 ≤ (fewL n v).getD a 0 → 0 ≤ (fewL n (withL v (1 + (x : Int)))).getD a 0 ∧ (fewL n (withL v (1 + (x : Int)))).getD a 0 ≤ (fewL n v).getD a 0) := by
    intro h6 hni
    have hw := withL_vals hv h6 (x := 1 + (x : Int)) (by omega) hni
    have hs : ∀ y ∈ v, y ∈ withL v (1 + (x : Int)) := fun y hy => withL_mem hy
    have h0w : tickE n (withL v (1 + (x : Int))) = 0 := by unfold tickE; rw [if_pos (by omega), valsE_ok hw]
    have a1 := Range_pure n (withL v (1 + (x : Int)))
    rw [if_pos h0w, h0w, Int.toNat_natCast, reach_eq hw] at a1
    have a2 := Fewest_pure n (withL v (1 + (x : Int)))
    rw [if_pos h0w, h0w] at a2
    have hll := last_ge hw (hs _ (last_mem hv))
    have hml : (n : Int) * lastV v ≤ n * lastV (withL v (1 + (x : Int))) := Int.mul_le_mul_of_nonneg_left hll (by omega)
    refine ⟨a1, a2, reach_grow hv hw hs, by rw [fewL_len, fewL_len]; omega, fun a ha h3 => few_grow hv hw hs (by rw [fewL_len] at ha; omega) h3⟩
  -- one place more
  have hmore : (n : Int) < 6 →
      APure Try.prog 24 [.int ((n : Int) + 1), .ints false v] (fun R => R = tup2 (.int (refReach ((n : Int) + 1) v : Nat)) (.int 0)) ∧
      APure Try.prog 20 [.int ((n : Int) + 1), .ints false v] (fun R => R = tup2 (.ints true (fewL ((n : Int) + 1) v)) (.int 0)) ∧
      refReach n v ≤ refReach ((n : Int) + 1) v ∧ (fewL n v).length ≤ (fewL ((n : Int) + 1) v).length ∧
      (∀ a : Nat, a < (fewL n v).length → (0 ≤ (fewL n v).getD a 0 → (fewL ((n : Int) + 1) v).getD a 0 = (fewL n v).getD a 0) ∧ ((fewL n v).getD a 0 < 0 → 0 ≤ (fewL ((n : Int) + 1) v).getD a 0 → (fewL ((n : Int) + 1) v).getD a 0 = (n : Int) + 1)) := by
    intro h6
    have h0m : tickE ((n : Int) + 1) v = 0 := by unfold tickE; rw [if_pos (by omega), valsE_ok hv]
    have a1 := Range_pure ((n : Int) + 1) v
    rw [if_pos h0m, h0m, show (((n : Int) + 1)).toNat = n + 1 from by omega, reach_eq hv, show ((n + 1 : Nat) : Int) = (n : Int) + 1 from rfl] at a1
    have a2 := Fewest_pure ((n : Int) + 1) v
    rw [if_pos h0m, h0m] at a2
    have hl := hv.last
    have e : ((n : Int) + 1) * lastV v = n * lastV v + lastV v := by rw [Int.add_mul, Int.one_mul]
    refine ⟨a1, a2, reach_more hv, by rw [fewL_len, fewL_len]; omega, fun a ha => few_more hv (by rw [fewL_len] at ha; omega)⟩
  have hlw := withL_len v (1 + (x : Int))
  have hrb : ((refReach n v : Nat) : Int) ≤ 1200 := by
    have := (rangeOf_le (posB (fewL n v)) ((fewL n v).length - 1) 0).2
    unfold refReach; omega
  conv => whnf
  refine APure.to hR1 ?_
  conv => whnf
  refine APure.to hF1 ?_
  generalize fewL n v = a at *
  generalize refReach n v = r at *
  conv => whnf
  refine br_dec (fun hA => ?_) (fun hA => ?_)
  · conv => whnf
    repeat ((first | refine ⟨by omega, ?_⟩ | refine ⟨inr (by omega), ?_⟩); conv => whnf)
    refine br_dec (fun hB => ?_) (fun hB => ?_)
    · conv => whnf
      refine br_dec (fun hC => absurd hC (hfirst (by omega) hB)) (fun _ => ?_)
      conv => whnf
      repeat ((first | refine ⟨(show (200 : Int) ≠ 0 by omega), ?_⟩ | refine ⟨inr (by omega), ?_⟩); conv => whnf)
      rw [hx]
      refine br_dec (fun h6 => ?_) (fun h6 => ?_)
      · have h6' : v.length < 6 := by omega
        conv => whnf
        refine APure.to (refIn_pure v (1 + (x : Int))) ?_
        conv => whnf
        refine br_not (br_dec (fun hI => ?_) (fun hI => ?_))
        · conv => whnf
          refine br_eq (fun h6 => ?_) (fun h6 => ?_)
          · conv => whnf
            refine APure.to fin ?_
            conv => whnf
            exact ⟨trivial, rfl⟩
          have hn6 : (n : Int) < 6 := by omega
          obtain ⟨mR, mF, m1, m2, m3⟩ := hmore hn6
          conv => whnf
          refine ⟨inr (by omega), ?_⟩
          conv => whnf
          refine APure.to mR ?_
          conv => whnf
          refine ⟨inr (by omega), ?_⟩
          conv => whnf
          refine APure.to mF ?_
          clear mR mF hmore
          generalize fewL ((n : Int) + 1) v = c at *
          generalize refReach ((n : Int) + 1) v = rc at *
          conv => whnf
          refine br_dec (fun h7 => absurd h7 (by omega)) (fun _ => ?_)
          conv => whnf
          refine br_dec (fun h7 => absurd h7 (by omega)) (fun _ => ?_)
          conv => whnf
          refine AW_loop (X := cx 225) (cx_ok 225) [0, 9, 19, 21] (fun vs M => ∃ i : Nat, i ≤ a.length ∧ vs = [.int n, .ints true a, .ints true c, .int i] ∧ M = []) (fun vs _ => a.length - (vs.getD 3 .any).toInt.toNat) ?_ ?_
          · exact ⟨0, Nat.zero_le _, rfl, rfl⟩
          rintro vs M ⟨i, hi, rfl, rfl⟩
          conv => whnf
          refine br_dec (fun hlt => ?_) (fun hge => ?_)
          · have hi' : i < a.length := by omega
            obtain ⟨m4, m5⟩ := m3 i hi'
            conv => whnf
            refine AW_draw (X := cx 225) (cx_ok 225) mixed (by kernel_rfl) ?_
            conv => whnf
            repeat ((first | refine ⟨by omega, ?_⟩ | refine ⟨inr (by omega), ?_⟩); conv => whnf)
            refine br_dec (fun hP => ?_) (fun hP => ?_)
            · have e4 := m4 hP
              conv => whnf
              repeat ((first | refine ⟨by omega, ?_⟩ | refine ⟨inr (by omega), ?_⟩); conv => whnf)
              refine br_ne (fun hQ => absurd e4 hQ) (fun _ => ?_)
              conv => whnf
              repeat ((first | refine ⟨by omega, ?_⟩ | refine ⟨inr (by omega), ?_⟩); conv => whnf)
              refine br_dec (fun hQ => absurd hQ (show ¬ a.getD i 0 < 0 from fun hc => absurd hc (Int.not_lt.2 hP))) (fun _ => ?_)
              conv => whnf
              refine ⟨inr (by omega), ?_⟩
              conv => whnf
              refine ⟨⟨i + 1, by omega, rfl, rfl⟩, ?_⟩
              simp [V.toInt, sel, Env.get]; omega
            · have hP' : ¬ a.getD i 0 ≥ 0 := hP
              conv => whnf
              repeat ((first | refine ⟨by omega, ?_⟩ | refine ⟨inr (by omega), ?_⟩); conv => whnf)
              refine br_dec (fun _ => ?_) (fun hQ => absurd (show a.getD i 0 < 0 by omega) hQ)
              conv => whnf
              repeat ((first | refine ⟨by omega, ?_⟩ | refine ⟨inr (by omega), ?_⟩); conv => whnf)
              refine br_dec (fun hQ => ?_) (fun _ => ?_)
              · have e5 := m5 (by omega) hQ
                conv => whnf
                repeat ((first | refine ⟨by omega, ?_⟩ | refine ⟨inr (by omega), ?_⟩); conv => whnf)
                refine br_ne (fun hQ => absurd e5 hQ) (fun _ => ?_)
                conv => whnf
                refine ⟨inr (by omega), ?_⟩
                conv => whnf
                refine ⟨⟨i + 1, by omega, rfl, rfl⟩, ?_⟩
                simp [V.toInt, sel, Env.get]; omega
              · conv => whnf
                refine ⟨inr (by omega), ?_⟩
                conv => whnf
                refine ⟨⟨i + 1, by omega, rfl, rfl⟩, ?_⟩
                simp [V.toInt, sel, Env.get]; omega
          · conv => whnf
            refine APure.to fin ?_
            conv => whnf
            exact ⟨trivial, rfl⟩
        · obtain ⟨wR, wF, w1, w2, w3⟩ := hwith h6' hI
          conv => whnf
          refine APure.to (refWith_pure v (1 + (x : Int)) (by omega)) ?_
          conv => whnf
          refine APure.to wR ?_
          conv => whnf
          refine APure.to (refWith_pure v (1 + (x : Int)) (by omega)) ?_
          conv => whnf
          refine APure.to wF ?_
          clear wR wF hwith hR1 hF1
          generalize withL v (1 + (x : Int)) = vw at *
          generalize fewL n vw = b at *
          generalize refReach n vw = rw1 at *
          conv => whnf
          refine br_dec (fun h7 => absurd h7 (by omega)) (fun _ => ?_)
          conv => whnf
          refine br_dec (fun h7 => absurd h7 (by omega)) (fun _ => ?_)
          conv => whnf
          refine AW_loop (X := cx 225) (cx_ok 225) [0, 1, 7, 9, 14, 16] (fun vs M => ∃ i : Nat, i ≤ a.length ∧ vs = [.int n, .ints false v, .int r, .ints true a, .ints true b, .int i] ∧ M = []) (fun vs _ => a.length - (vs.getD 5 .any).toInt.toNat) ?_ ?_
          · exact ⟨0, Nat.zero_le _, rfl, rfl⟩
          rintro vs M ⟨i, hi, rfl, rfl⟩
          conv => whnf
          refine br_dec (fun hlt => ?_) (fun hge => ?_)
          · have hi' : i < a.length := by omega
            have w4 := w3 i hi'
            conv => whnf
            refine AW_draw (X := cx 225) (cx_ok 225) mixed (by kernel_rfl) ?_
            conv => whnf
            repeat ((first | refine ⟨by omega, ?_⟩ | refine ⟨inr (by omega), ?_⟩); conv => whnf)
            refine br_dec (fun hP => ?_) (fun hP => ?_)
            · have w5 := w4 hP
              conv => whnf
              repeat ((first | refine ⟨by omega, ?_⟩ | refine ⟨inr (by omega), ?_⟩); conv => whnf)
              refine br_dec (fun hQ => absurd hQ (show ¬ b.getD i 0 < 0 by omega)) (fun _ => ?_)
              conv => whnf
              repeat ((first | refine ⟨by omega, ?_⟩ | refine ⟨inr (by omega), ?_⟩); conv => whnf)
              refine br_dec (fun hQ => absurd hQ (show ¬ b.getD i 0 > a.getD i 0 by omega)) (fun _ => ?_)
              conv => whnf
              refine ⟨inr (by omega), ?_⟩
              conv => whnf
              refine ⟨⟨i + 1, by omega, rfl, rfl⟩, ?_⟩
              simp [V.toInt, sel, Env.get]; omega
            · conv => whnf
              refine ⟨inr (by omega), ?_⟩
              conv => whnf
              refine ⟨⟨i + 1, by omega, rfl, rfl⟩, ?_⟩
              simp [V.toInt, sel, Env.get]; omega
          · conv => whnf
            refine br_eq (fun h6 => ?_) (fun h6 => ?_)
            · conv => whnf
              refine APure.to fin ?_
              conv => whnf
              exact ⟨trivial, rfl⟩
            have hn6 : (n : Int) < 6 := by omega
            obtain ⟨mR, mF, m1, m2, m3⟩ := hmore hn6
            conv => whnf
            refine ⟨inr (by omega), ?_⟩
            conv => whnf
            refine APure.to mR ?_
            conv => whnf
            refine ⟨inr (by omega), ?_⟩
            conv => whnf
            refine APure.to mF ?_
            clear mR mF hmore
            generalize fewL ((n : Int) + 1) v = c at *
            generalize refReach ((n : Int) + 1) v = rc at *
            conv => whnf
            refine br_dec (fun h7 => absurd h7 (by omega)) (fun _ => ?_)
            conv => whnf
            refine br_dec (fun h7 => absurd h7 (by omega)) (fun _ => ?_)
            conv => whnf
            refine AW_loop (X := cx 225) (cx_ok 225) [0, 9, 19, 21] (fun vs M => ∃ i : Nat, i ≤ a.length ∧ vs = [.int n, .ints true a, .ints true c, .int i] ∧ M = []) (fun vs _ => a.length - (vs.getD 3 .any).toInt.toNat) ?_ ?_
            · exact ⟨0, Nat.zero_le _, rfl, rfl⟩
            rintro vs M ⟨i, hi, rfl, rfl⟩
            conv => whnf
            refine br_dec (fun hlt => ?_) (fun hge => ?_)
            · have hi' : i < a.length := by omega
              obtain ⟨m4, m5⟩ := m3 i hi'
              conv => whnf
              refine AW_draw (X := cx 225) (cx_ok 225) mixed (by kernel_rfl) ?_
              conv => whnf
              repeat ((first | refine ⟨by omega, ?_⟩ | refine ⟨inr (by omega), ?_⟩); conv => whnf)
              refine br_dec (fun hP => ?_) (fun hP => ?_)
              · have e4 := m4 hP
                conv => whnf
                repeat ((first | refine ⟨by omega, ?_⟩ | refine ⟨inr (by omega), ?_⟩); conv => whnf)
                refine br_ne (fun hQ => absurd e4 hQ) (fun _ => ?_)
                conv => whnf
                repeat ((first | refine ⟨by omega, ?_⟩ | refine ⟨inr (by omega), ?_⟩); conv => whnf)
                refine br_dec (fun hQ => absurd hQ (show ¬ a.getD i 0 < 0 from fun hc => absurd hc (Int.not_lt.2 hP))) (fun _ => ?_)
                conv => whnf
                refine ⟨inr (by omega), ?_⟩
                conv => whnf
                refine ⟨⟨i + 1, by omega, rfl, rfl⟩, ?_⟩
                simp [V.toInt, sel, Env.get]; omega
              · have hP' : ¬ a.getD i 0 ≥ 0 := hP
                conv => whnf
                repeat ((first | refine ⟨by omega, ?_⟩ | refine ⟨inr (by omega), ?_⟩); conv => whnf)
                refine br_dec (fun _ => ?_) (fun hQ => absurd (show a.getD i 0 < 0 by omega) hQ)
                conv => whnf
                repeat ((first | refine ⟨by omega, ?_⟩ | refine ⟨inr (by omega), ?_⟩); conv => whnf)
                refine br_dec (fun hQ => ?_) (fun _ => ?_)
                · have e5 := m5 (by omega) hQ
                  conv => whnf
                  repeat ((first | refine ⟨by omega, ?_⟩ | refine ⟨inr (by omega), ?_⟩); conv => whnf)
                  refine br_ne (fun hQ => absurd e5 hQ) (fun _ => ?_)
                  conv => whnf
                  refine ⟨inr (by omega), ?_⟩
                  conv => whnf
                  refine ⟨⟨i + 1, by omega, rfl, rfl⟩, ?_⟩
                  simp [V.toInt, sel, Env.get]; omega
                · conv => whnf
                  refine ⟨inr (by omega), ?_⟩
                  conv => whnf
                  refine ⟨⟨i + 1, by omega, rfl, rfl⟩, ?_⟩
                  simp [V.toInt, sel, Env.get]; omega
            · conv => whnf
              refine APure.to fin ?_
              conv => whnf
              exact ⟨trivial, rfl⟩
      · conv => whnf
        refine br_eq (fun h6 => ?_) (fun h6 => ?_)
        · conv => whnf
          refine APure.to fin ?_
          conv => whnf
          exact ⟨trivial, rfl⟩
        have hn6 : (n : Int) < 6 := by omega
        obtain ⟨mR, mF, m1, m2, m3⟩ := hmore hn6
        conv => whnf
        refine ⟨inr (by omega), ?_⟩
        conv => whnf
        refine APure.to mR ?_
        conv => whnf
        refine ⟨inr (by omega), ?_⟩
        conv => whnf
        refine APure.to mF ?_
        clear mR mF hmore
        generalize fewL ((n : Int) + 1) v = c at *
        generalize refReach ((n : Int) + 1) v = rc at *
        conv => whnf
        refine br_dec (fun h7 => absurd h7 (by omega)) (fun _ => ?_)
        conv => whnf
        refine br_dec (fun h7 => absurd h7 (by omega)) (fun _ => ?_)
        conv => whnf
        refine AW_loop (X := cx 225) (cx_ok 225) [0, 9, 19, 21] (fun vs M => ∃ i : Nat, i ≤ a.length ∧ vs = [.int n, .ints true a, .ints true c, .int i] ∧ M = []) (fun vs _ => a.length - (vs.getD 3 .any).toInt.toNat) ?_ ?_
        · exact ⟨0, Nat.zero_le _, rfl, rfl⟩
        rintro vs M ⟨i, hi, rfl, rfl⟩
        conv => whnf
        refine br_dec (fun hlt => ?_) (fun hge => ?_)
        · have hi' : i < a.length := by omega
          obtain ⟨m4, m5⟩ := m3 i hi'
          conv => whnf
          refine AW_draw (X := cx 225) (cx_ok 225) mixed (by kernel_rfl) ?_
          conv => whnf
          repeat ((first | refine ⟨by omega, ?_⟩ | refine ⟨inr (by omega), ?_⟩); conv => whnf)
          refine br_dec (fun hP => ?_) (fun hP => ?_)
          · have e4 := m4 hP
            conv => whnf
            repeat ((first | refine ⟨by omega, ?_⟩ | refine ⟨inr (by omega), ?_⟩); conv => whnf)
            refine br_ne (fun hQ => absurd e4 hQ) (fun _ => ?_)
            conv => whnf
            repeat ((first | refine ⟨by omega, ?_⟩ | refine ⟨inr (by omega), ?_⟩); conv => whnf)
            refine br_dec (fun hQ => absurd hQ (show ¬ a.getD i 0 < 0 from fun hc => absurd hc (Int.not_lt.2 hP))) (fun _ => ?_)
            conv => whnf
            refine ⟨inr (by omega), ?_⟩
            conv => whnf
            refine ⟨⟨i + 1, by omega, rfl, rfl⟩, ?_⟩
            simp [V.toInt, sel, Env.get]; omega
          · have hP' : ¬ a.getD i 0 ≥ 0 := hP
            conv => whnf
            repeat ((first | refine ⟨by omega, ?_⟩ | refine ⟨inr (by omega), ?_⟩); conv => whnf)
            refine br_dec (fun _ => ?_) (fun hQ => absurd (show a.getD i 0 < 0 by omega) hQ)
            conv => whnf
            repeat ((first | refine ⟨by omega, ?_⟩ | refine ⟨inr (by omega), ?_⟩); conv => whnf)
            refine br_dec (fun hQ => ?_) (fun _ => ?_)
            · have e5 := m5 (by omega) hQ
              conv => whnf
              repeat ((first | refine ⟨by omega, ?_⟩ | refine ⟨inr (by omega), ?_⟩); conv => whnf)
              refine br_ne (fun hQ => absurd e5 hQ) (fun _ => ?_)
              conv => whnf
              refine ⟨inr (by omega), ?_⟩
              conv => whnf
              refine ⟨⟨i + 1, by omega, rfl, rfl⟩, ?_⟩
              simp [V.toInt, sel, Env.get]; omega
            · conv => whnf
              refine ⟨inr (by omega), ?_⟩
              conv => whnf
              refine ⟨⟨i + 1, by omega, rfl, rfl⟩, ?_⟩
              simp [V.toInt, sel, Env.get]; omega
        · conv => whnf
          refine APure.to fin ?_
          conv => whnf
          exact ⟨trivial, rfl⟩
    · conv => whnf
      repeat ((first | refine ⟨(show (200 : Int) ≠ 0 by omega), ?_⟩ | refine ⟨inr (by omega), ?_⟩); conv => whnf)
      rw [hx]
      refine br_dec (fun h6 => ?_) (fun h6 => ?_)
      · have h6' : v.length < 6 := by omega
        conv => whnf
        refine APure.to (refIn_pure v (1 + (x : Int))) ?_
        conv => whnf
        refine br_not (br_dec (fun hI => ?_) (fun hI => ?_))
        · conv => whnf
          refine br_eq (fun h6 => ?_) (fun h6 => ?_)
          · conv => whnf
            refine APure.to fin ?_
            conv => whnf
            exact ⟨trivial, rfl⟩
          have hn6 : (n : Int) < 6 := by omega
          obtain ⟨mR, mF, m1, m2, m3⟩ := hmore hn6
          conv => whnf
          refine ⟨inr (by omega), ?_⟩
          conv => whnf
          refine APure.to mR ?_
          conv => whnf
          refine ⟨inr (by omega), ?_⟩
          conv => whnf
          refine APure.to mF ?_
          clear mR mF hmore
          generalize fewL ((n : Int) + 1) v = c at *
          generalize refReach ((n : Int) + 1) v = rc at *
          conv => whnf
          refine br_dec (fun h7 => absurd h7 (by omega)) (fun _ => ?_)
          conv => whnf
          refine br_dec (fun h7 => absurd h7 (by omega)) (fun _ => ?_)
          conv => whnf
          refine AW_loop (X := cx 225) (cx_ok 225) [0, 9, 19, 21] (fun vs M => ∃ i : Nat, i ≤ a.length ∧ vs = [.int n, .ints true a, .ints true c, .int i] ∧ M = []) (fun vs _ => a.length - (vs.getD 3 .any).toInt.toNat) ?_ ?_
          · exact ⟨0, Nat.zero_le _, rfl, rfl⟩
          rintro vs M ⟨i, hi, rfl, rfl⟩
          conv => whnf
          refine br_dec (fun hlt => ?_) (fun hge => ?_)
          · have hi' : i < a.length := by omega
            obtain ⟨m4, m5⟩ := m3 i hi'
            conv => whnf
            refine AW_draw (X := cx 225) (cx_ok 225) mixed (by kernel_rfl) ?_
            conv => whnf
            repeat ((first | refine ⟨by omega, ?_⟩ | refine ⟨inr (by omega), ?_⟩); conv => whnf)
            refine br_dec (fun hP => ?_) (fun hP => ?_)
            · have e4 := m4 hP
              conv => whnf
              repeat ((first | refine ⟨by omega, ?_⟩ | refine ⟨inr (by omega), ?_⟩); conv => whnf)
              refine br_ne (fun hQ => absurd e4 hQ) (fun _ => ?_)
              conv => whnf
              repeat ((first | refine ⟨by omega, ?_⟩ | refine ⟨inr (by omega), ?_⟩); conv => whnf)
              refine br_dec (fun hQ => absurd hQ (show ¬ a.getD i 0 < 0 from fun hc => absurd hc (Int.not_lt.2 hP))) (fun _ => ?_)
              conv => whnf
              refine ⟨inr (by omega), ?_⟩
              conv => whnf
              refine ⟨⟨i + 1, by omega, rfl, rfl⟩, ?_⟩
              simp [V.toInt, sel, Env.get]; omega
            · have hP' : ¬ a.getD i 0 ≥ 0 := hP
              conv => whnf
              repeat ((first | refine ⟨by omega, ?_⟩ | refine ⟨inr (by omega), ?_⟩); conv => whnf)
              refine br_dec (fun _ => ?_) (fun hQ => absurd (show a.getD i 0 < 0 by omega) hQ)
              conv => whnf
              repeat ((first | refine ⟨by omega, ?_⟩ | refine ⟨inr (by omega), ?_⟩); conv => whnf)
              refine br_dec (fun hQ => ?_) (fun _ => ?_)
              · have e5 := m5 (by omega) hQ
                conv => whnf
                repeat ((first | refine ⟨by omega, ?_⟩ | refine ⟨inr (by omega), ?_⟩); conv => whnf)
                refine br_ne (fun hQ => absurd e5 hQ) (fun _ => ?_)
                conv => whnf
                refine ⟨inr (by omega), ?_⟩
                conv => whnf
                refine ⟨⟨i + 1, by omega, rfl, rfl⟩, ?_⟩
                simp [V.toInt, sel, Env.get]; omega
              · conv => whnf
                refine ⟨inr (by omega), ?_⟩
                conv => whnf
                refine ⟨⟨i + 1, by omega, rfl, rfl⟩, ?_⟩
                simp [V.toInt, sel, Env.get]; omega
          · conv => whnf
            refine APure.to fin ?_
            conv => whnf
            exact ⟨trivial, rfl⟩
        · obtain ⟨wR, wF, w1, w2, w3⟩ := hwith h6' hI
          conv => whnf
          refine APure.to (refWith_pure v (1 + (x : Int)) (by omega)) ?_
          conv => whnf
          refine APure.to wR ?_
          conv => whnf
          refine APure.to (refWith_pure v (1 + (x : Int)) (by omega)) ?_
          conv => whnf
          refine APure.to wF ?_
          clear wR wF hwith hR1 hF1
          generalize withL v (1 + (x : Int)) = vw at *
          generalize fewL n vw = b at *
          generalize refReach n vw = rw1 at *
          conv => whnf
          refine br_dec (fun h7 => absurd h7 (by omega)) (fun _ => ?_)
          conv => whnf
          refine br_dec (fun h7 => absurd h7 (by omega)) (fun _ => ?_)
          conv => whnf
          refine AW_loop (X := cx 225) (cx_ok 225) [0, 1, 7, 9, 14, 16] (fun vs M => ∃ i : Nat, i ≤ a.length ∧ vs = [.int n, .ints false v, .int r, .ints true a, .ints true b, .int i] ∧ M = []) (fun vs _ => a.length - (vs.getD 5 .any).toInt.toNat) ?_ ?_
          · exact ⟨0, Nat.zero_le _, rfl, rfl⟩
          rintro vs M ⟨i, hi, rfl, rfl⟩
          conv => whnf
          refine br_dec (fun hlt => ?_) (fun hge => ?_)
          · have hi' : i < a.length := by omega
            have w4 := w3 i hi'
            conv => whnf
            refine AW_draw (X := cx 225) (cx_ok 225) mixed (by kernel_rfl) ?_
            conv => whnf
            repeat ((first | refine ⟨by omega, ?_⟩ | refine ⟨inr (by omega), ?_⟩); conv => whnf)
            refine br_dec (fun hP => ?_) (fun hP => ?_)
            · have w5 := w4 hP
              conv => whnf
              repeat ((first | refine ⟨by omega, ?_⟩ | refine ⟨inr (by omega), ?_⟩); conv => whnf)
              refine br_dec (fun hQ => absurd hQ (show ¬ b.getD i 0 < 0 by omega)) (fun _ => ?_)
              conv => whnf
              repeat ((first | refine ⟨by omega, ?_⟩ | refine ⟨inr (by omega), ?_⟩); conv => whnf)
              refine br_dec (fun hQ => absurd hQ (show ¬ b.getD i 0 > a.getD i 0 by omega)) (fun _ => ?_)
              conv => whnf
              refine ⟨inr (by omega), ?_⟩
              conv => whnf
              refine ⟨⟨i + 1, by omega, rfl, rfl⟩, ?_⟩
              simp [V.toInt, sel, Env.get]; omega
            · conv => whnf
              refine ⟨inr (by omega), ?_⟩
              conv => whnf
              refine ⟨⟨i + 1, by omega, rfl, rfl⟩, ?_⟩
              simp [V.toInt, sel, Env.get]; omega
          · conv => whnf
            refine br_eq (fun h6 => ?_) (fun h6 => ?_)
            · conv => whnf
              refine APure.to fin ?_
              conv => whnf
              exact ⟨trivial, rfl⟩
            have hn6 : (n : Int) < 6 := by omega
            obtain ⟨mR, mF, m1, m2, m3⟩ := hmore hn6
            conv => whnf
            refine ⟨inr (by omega), ?_⟩
            conv => whnf
            refine APure.to mR ?_
            conv => whnf
            refine ⟨inr (by omega), ?_⟩
            conv => whnf
            refine APure.to mF ?_
            clear mR mF hmore
            generalize fewL ((n : Int) + 1) v = c at *
            generalize refReach ((n : Int) + 1) v = rc at *
            conv => whnf
            refine br_dec (fun h7 => absurd h7 (by omega)) (fun _ => ?_)
            conv => whnf
            refine br_dec (fun h7 => absurd h7 (by omega)) (fun _ => ?_)
            conv => whnf
            refine AW_loop (X := cx 225) (cx_ok 225) [0, 9, 19, 21] (fun vs M => ∃ i : Nat, i ≤ a.length ∧ vs = [.int n, .ints true a, .ints true c, .int i] ∧ M = []) (fun vs _ => a.length - (vs.getD 3 .any).toInt.toNat) ?_ ?_
            · exact ⟨0, Nat.zero_le _, rfl, rfl⟩
            rintro vs M ⟨i, hi, rfl, rfl⟩
            conv => whnf
            refine br_dec (fun hlt => ?_) (fun hge => ?_)
            · have hi' : i < a.length := by omega
              obtain ⟨m4, m5⟩ := m3 i hi'
              conv => whnf
              refine AW_draw (X := cx 225) (cx_ok 225) mixed (by kernel_rfl) ?_
              conv => whnf
              repeat ((first | refine ⟨by omega, ?_⟩ | refine ⟨inr (by omega), ?_⟩); conv => whnf)
              refine br_dec (fun hP => ?_) (fun hP => ?_)
              · have e4 := m4 hP
                conv => whnf
                repeat ((first | refine ⟨by omega, ?_⟩ | refine ⟨inr (by omega), ?_⟩); conv => whnf)
                refine br_ne (fun hQ => absurd e4 hQ) (fun _ => ?_)
                conv => whnf
                repeat ((first | refine ⟨by omega, ?_⟩ | refine ⟨inr (by omega), ?_⟩); conv => whnf)
                refine br_dec (fun hQ => absurd hQ (show ¬ a.getD i 0 < 0 from fun hc => absurd hc (Int.not_lt.2 hP))) (fun _ => ?_)
                conv => whnf
                refine ⟨inr (by omega), ?_⟩
                conv => whnf
                refine ⟨⟨i + 1, by omega, rfl, rfl⟩, ?_⟩
                simp [V.toInt, sel, Env.get]; omega
              · have hP' : ¬ a.getD i 0 ≥ 0 := hP
                conv => whnf
                repeat ((first | refine ⟨by omega, ?_⟩ | refine ⟨inr (by omega), ?_⟩); conv => whnf)
                refine br_dec (fun _ => ?_) (fun hQ => absurd (show a.getD i 0 < 0 by omega) hQ)
                conv => whnf
                repeat ((first | refine ⟨by omega, ?_⟩ | refine ⟨inr (by omega), ?_⟩); conv => whnf)
                refine br_dec (fun hQ => ?_) (fun _ => ?_)
                · have e5 := m5 (by omega) hQ
                  conv => whnf
                  repeat ((first | refine ⟨by omega, ?_⟩ | refine ⟨inr (by omega), ?_⟩); conv => whnf)
                  refine br_ne (fun hQ => absurd e5 hQ) (fun _ => ?_)
                  conv => whnf
                  refine ⟨inr (by omega), ?_⟩
                  conv => whnf
                  refine ⟨⟨i + 1, by omega, rfl, rfl⟩, ?_⟩
                  simp [V.toInt, sel, Env.get]; omega
                · conv => whnf
                  refine ⟨inr (by omega), ?_⟩
                  conv => whnf
                  refine ⟨⟨i + 1, by omega, rfl, rfl⟩, ?_⟩
                  simp [V.toInt, sel, Env.get]; omega
            · conv => whnf
              refine APure.to fin ?_
              conv => whnf
              exact ⟨trivial, rfl⟩
      · conv => whnf
        refine br_eq (fun h6 => ?_) (fun h6 => ?_)
        · conv => whnf
          refine APure.to fin ?_
          conv => whnf
          exact ⟨trivial, rfl⟩
        have hn6 : (n : Int) < 6 := by omega
        obtain ⟨mR, mF, m1, m2, m3⟩ := hmore hn6
        conv => whnf
        refine ⟨inr (by omega), ?_⟩
        conv => whnf
        refine APure.to mR ?_
        conv => whnf
        refine ⟨inr (by omega), ?_⟩
        conv => whnf
        refine APure.to mF ?_
        clear mR mF hmore
        generalize fewL ((n : Int) + 1) v = c at *
        generalize refReach ((n : Int) + 1) v = rc at *
        conv => whnf
        refine br_dec (fun h7 => absurd h7 (by omega)) (fun _ => ?_)
        conv => whnf
        refine br_dec (fun h7 => absurd h7 (by omega)) (fun _ => ?_)
        conv => whnf
        refine AW_loop (X := cx 225) (cx_ok 225) [0, 9, 19, 21] (fun vs M => ∃ i : Nat, i ≤ a.length ∧ vs = [.int n, .ints true a, .ints true c, .int i] ∧ M = []) (fun vs _ => a.length - (vs.getD 3 .any).toInt.toNat) ?_ ?_
        · exact ⟨0, Nat.zero_le _, rfl, rfl⟩
        rintro vs M ⟨i, hi, rfl, rfl⟩
        conv => whnf
        refine br_dec (fun hlt => ?_) (fun hge => ?_)
        · have hi' : i < a.length := by omega
          obtain ⟨m4, m5⟩ := m3 i hi'
          conv => whnf
          refine AW_draw (X := cx 225) (cx_ok 225) mixed (by kernel_rfl) ?_
          conv => whnf
          repeat ((first | refine ⟨by omega, ?_⟩ | refine ⟨inr (by omega), ?_⟩); conv => whnf)
          refine br_dec (fun hP => ?_) (fun hP => ?_)
          · have e4 := m4 hP
            conv => whnf
            repeat ((first | refine ⟨by omega, ?_⟩ | refine ⟨inr (by omega), ?_⟩); conv => whnf)
            refine br_ne (fun hQ => absurd e4 hQ) (fun _ => ?_)
            conv => whnf
            repeat ((first | refine ⟨by omega, ?_⟩ | refine ⟨inr (by omega), ?_⟩); conv => whnf)
            refine br_dec (fun hQ => absurd hQ (show ¬ a.getD i 0 < 0 from fun hc => absurd hc (Int.not_lt.2 hP))) (fun _ => ?_)
            conv => whnf
            refine ⟨inr (by omega), ?_⟩
            conv => whnf
            refine ⟨⟨i + 1, by omega, rfl, rfl⟩, ?_⟩
            simp [V.toInt, sel, Env.get]; omega
          · have hP' : ¬ a.getD i 0 ≥ 0 := hP
            conv => whnf
            repeat ((first | refine ⟨by omega, ?_⟩ | refine ⟨inr (by omega), ?_⟩); conv => whnf)
            refine br_dec (fun _ => ?_) (fun hQ => absurd (show a.getD i 0 < 0 by omega) hQ)
            conv => whnf
            repeat ((first | refine ⟨by omega, ?_⟩ | refine ⟨inr (by omega), ?_⟩); conv => whnf)
            refine br_dec (fun hQ => ?_) (fun _ => ?_)
            · have e5 := m5 (by omega) hQ
              conv => whnf
              repeat ((first | refine ⟨by omega, ?_⟩ | refine ⟨inr (by omega), ?_⟩); conv => whnf)
              refine br_ne (fun hQ => absurd e5 hQ) (fun _ => ?_)
              conv => whnf
              refine ⟨inr (by omega), ?_⟩
              conv => whnf
              refine ⟨⟨i + 1, by omega, rfl, rfl⟩, ?_⟩
              simp [V.toInt, sel, Env.get]; omega
            · conv => whnf
              refine ⟨inr (by omega), ?_⟩
              conv => whnf
              refine ⟨⟨i + 1, by omega, rfl, rfl⟩, ?_⟩
              simp [V.toInt, sel, Env.get]; omega
        · conv => whnf
          refine APure.to fin ?_
          conv => whnf
          exact ⟨trivial, rfl⟩
  · conv => whnf
    repeat ((first | refine ⟨(show (200 : Int) ≠ 0 by omega), ?_⟩ | refine ⟨inr (by omega), ?_⟩); conv => whnf)
    rw [hx]
    refine br_dec (fun h6 => ?_) (fun h6 => ?_)
    · have h6' : v.length < 6 := by omega
      conv => whnf
      refine APure.to (refIn_pure v (1 + (x : Int))) ?_
      conv => whnf
      refine br_not (br_dec (fun hI => ?_) (fun hI => ?_))
      · conv => whnf
        refine br_eq (fun h6 => ?_) (fun h6 => ?_)
        · conv => whnf
          refine APure.to fin ?_
          conv => whnf
          exact ⟨trivial, rfl⟩
        have hn6 : (n : Int) < 6 := by omega
        obtain ⟨mR, mF, m1, m2, m3⟩ := hmore hn6
        conv => whnf
        refine ⟨inr (by omega), ?_⟩
        conv => whnf
        refine APure.to mR ?_
        conv => whnf
        refine ⟨inr (by omega), ?_⟩
        conv => whnf
        refine APure.to mF ?_
        clear mR mF hmore
        generalize fewL ((n : Int) + 1) v = c at *
        generalize refReach ((n : Int) + 1) v = rc at *
        conv => whnf
        refine br_dec (fun h7 => absurd h7 (by omega)) (fun _ => ?_)
        conv => whnf
        refine br_dec (fun h7 => absurd h7 (by omega)) (fun _ => ?_)
        conv => whnf
        refine AW_loop (X := cx 225) (cx_ok 225) [0, 9, 19, 21] (fun vs M => ∃ i : Nat, i ≤ a.length ∧ vs = [.int n, .ints true a, .ints true c, .int i] ∧ M = []) (fun vs _ => a.length - (vs.getD 3 .any).toInt.toNat) ?_ ?_
        · exact ⟨0, Nat.zero_le _, rfl, rfl⟩
        rintro vs M ⟨i, hi, rfl, rfl⟩
        conv => whnf
        refine br_dec (fun hlt => ?_) (fun hge => ?_)
        · have hi' : i < a.length := by omega
          obtain ⟨m4, m5⟩ := m3 i hi'
          conv => whnf
          refine AW_draw (X := cx 225) (cx_ok 225) mixed (by kernel_rfl) ?_
          conv => whnf
          repeat ((first | refine ⟨by omega, ?_⟩ | refine ⟨inr (by omega), ?_⟩); conv => whnf)
          refine br_dec (fun hP => ?_) (fun hP => ?_)
          · have e4 := m4 hP
            conv => whnf
            repeat ((first | refine ⟨by omega, ?_⟩ | refine ⟨inr (by omega), ?_⟩); conv => whnf)
            refine br_ne (fun hQ => absurd e4 hQ) (fun _ => ?_)
            conv => whnf
            repeat ((first | refine ⟨by omega, ?_⟩ | refine ⟨inr (by omega), ?_⟩); conv => whnf)
            refine br_dec (fun hQ => absurd hQ (show ¬ a.getD i 0 < 0 from fun hc => absurd hc (Int.not_lt.2 hP))) (fun _ => ?_)
            conv => whnf
            refine ⟨inr (by omega), ?_⟩
            conv => whnf
            refine ⟨⟨i + 1, by omega, rfl, rfl⟩, ?_⟩
            simp [V.toInt, sel, Env.get]; omega
          · have hP' : ¬ a.getD i 0 ≥ 0 := hP
            conv => whnf
            repeat ((first | refine ⟨by omega, ?_⟩ | refine ⟨inr (by omega), ?_⟩); conv => whnf)
            refine br_dec (fun _ => ?_) (fun hQ => absurd (show a.getD i 0 < 0 by omega) hQ)
            conv => whnf
            repeat ((first | refine ⟨by omega, ?_⟩ | refine ⟨inr (by omega), ?_⟩); conv => whnf)
            refine br_dec (fun hQ => ?_) (fun _ => ?_)
            · have e5 := m5 (by omega) hQ
              conv => whnf
              repeat ((first | refine ⟨by omega, ?_⟩ | refine ⟨inr (by omega), ?_⟩); conv => whnf)
              refine br_ne (fun hQ => absurd e5 hQ) (fun _ => ?_)
              conv => whnf
              refine ⟨inr (by omega), ?_⟩
              conv => whnf
              refine ⟨⟨i + 1, by omega, rfl, rfl⟩, ?_⟩
              simp [V.toInt, sel, Env.get]; omega
            · conv => whnf
              refine ⟨inr (by omega), ?_⟩
              conv => whnf
              refine ⟨⟨i + 1, by omega, rfl, rfl⟩, ?_⟩
              simp [V.toInt, sel, Env.get]; omega
        · conv => whnf
          refine APure.to fin ?_
          conv => whnf
          exact ⟨trivial, rfl⟩
      · obtain ⟨wR, wF, w1, w2, w3⟩ := hwith h6' hI
        conv => whnf
        refine APure.to (refWith_pure v (1 + (x : Int)) (by omega)) ?_
        conv => whnf
        refine APure.to wR ?_
        conv => whnf
        refine APure.to (refWith_pure v (1 + (x : Int)) (by omega)) ?_
        conv => whnf
        refine APure.to wF ?_
        clear wR wF hwith hR1 hF1
        generalize withL v (1 + (x : Int)) = vw at *
        generalize fewL n vw = b at *
        generalize refReach n vw = rw1 at *
        conv => whnf
        refine br_dec (fun h7 => absurd h7 (by omega)) (fun _ => ?_)
        conv => whnf
        refine br_dec (fun h7 => absurd h7 (by omega)) (fun _ => ?_)
        conv => whnf
        refine AW_loop (X := cx 225) (cx_ok 225) [0, 1, 7, 9, 14, 16] (fun vs M => ∃ i : Nat, i ≤ a.length ∧ vs = [.int n, .ints false v, .int r, .ints true a, .ints true b, .int i] ∧ M = []) (fun vs _ => a.length - (vs.getD 5 .any).toInt.toNat) ?_ ?_
        · exact ⟨0, Nat.zero_le _, rfl, rfl⟩
        rintro vs M ⟨i, hi, rfl, rfl⟩
        conv => whnf
        refine br_dec (fun hlt => ?_) (fun hge => ?_)
        · have hi' : i < a.length := by omega
          have w4 := w3 i hi'
          conv => whnf
          refine AW_draw (X := cx 225) (cx_ok 225) mixed (by kernel_rfl) ?_
          conv => whnf
          repeat ((first | refine ⟨by omega, ?_⟩ | refine ⟨inr (by omega), ?_⟩); conv => whnf)
          refine br_dec (fun hP => ?_) (fun hP => ?_)
          · have w5 := w4 hP
            conv => whnf
            repeat ((first | refine ⟨by omega, ?_⟩ | refine ⟨inr (by omega), ?_⟩); conv => whnf)
            refine br_dec (fun hQ => absurd hQ (show ¬ b.getD i 0 < 0 by omega)) (fun _ => ?_)
            conv => whnf
            repeat ((first | refine ⟨by omega, ?_⟩ | refine ⟨inr (by omega), ?_⟩); conv => whnf)
            refine br_dec (fun hQ => absurd hQ (show ¬ b.getD i 0 > a.getD i 0 by omega)) (fun _ => ?_)
            conv => whnf
            refine ⟨inr (by omega), ?_⟩
            conv => whnf
            refine ⟨⟨i + 1, by omega, rfl, rfl⟩, ?_⟩
            simp [V.toInt, sel, Env.get]; omega
          · conv => whnf
            refine ⟨inr (by omega), ?_⟩
            conv => whnf
            refine ⟨⟨i + 1, by omega, rfl, rfl⟩, ?_⟩
            simp [V.toInt, sel, Env.get]; omega
        · conv => whnf
          refine br_eq (fun h6 => ?_) (fun h6 => ?_)
          · conv => whnf
            refine APure.to fin ?_
            conv => whnf
            exact ⟨trivial, rfl⟩
          have hn6 : (n : Int) < 6 := by omega
          obtain ⟨mR, mF, m1, m2, m3⟩ := hmore hn6
          conv => whnf
          refine ⟨inr (by omega), ?_⟩
          conv => whnf
          refine APure.to mR ?_
          conv => whnf
          refine ⟨inr (by omega), ?_⟩
          conv => whnf
          refine APure.to mF ?_
          clear mR mF hmore
          generalize fewL ((n : Int) + 1) v = c at *
          generalize refReach ((n : Int) + 1) v = rc at *
          conv => whnf
          refine br_dec (fun h7 => absurd h7 (by omega)) (fun _ => ?_)
          conv => whnf
          refine br_dec (fun h7 => absurd h7 (by omega)) (fun _ => ?_)
          conv => whnf
          refine AW_loop (X := cx 225) (cx_ok 225) [0, 9, 19, 21] (fun vs M => ∃ i : Nat, i ≤ a.length ∧ vs = [.int n, .ints true a, .ints true c, .int i] ∧ M = []) (fun vs _ => a.length - (vs.getD 3 .any).toInt.toNat) ?_ ?_
          · exact ⟨0, Nat.zero_le _, rfl, rfl⟩
          rintro vs M ⟨i, hi, rfl, rfl⟩
          conv => whnf
          refine br_dec (fun hlt => ?_) (fun hge => ?_)
          · have hi' : i < a.length := by omega
            obtain ⟨m4, m5⟩ := m3 i hi'
            conv => whnf
            refine AW_draw (X := cx 225) (cx_ok 225) mixed (by kernel_rfl) ?_
            conv => whnf
            repeat ((first | refine ⟨by omega, ?_⟩ | refine ⟨inr (by omega), ?_⟩); conv => whnf)
            refine br_dec (fun hP => ?_) (fun hP => ?_)
            · have e4 := m4 hP
              conv => whnf
              repeat ((first | refine ⟨by omega, ?_⟩ | refine ⟨inr (by omega), ?_⟩); conv => whnf)
              refine br_ne (fun hQ => absurd e4 hQ) (fun _ => ?_)
              conv => whnf
              repeat ((first | refine ⟨by omega, ?_⟩ | refine ⟨inr (by omega), ?_⟩); conv => whnf)
              refine br_dec (fun hQ => absurd hQ (show ¬ a.getD i 0 < 0 from fun hc => absurd hc (Int.not_lt.2 hP))) (fun _ => ?_)
              conv => whnf
              refine ⟨inr (by omega), ?_⟩
              conv => whnf
              refine ⟨⟨i + 1, by omega, rfl, rfl⟩, ?_⟩
              simp [V.toInt, sel, Env.get]; omega
            · have hP' : ¬ a.getD i 0 ≥ 0 := hP
              conv => whnf
              repeat ((first | refine ⟨by omega, ?_⟩ | refine ⟨inr (by omega), ?_⟩); conv => whnf)
              refine br_dec (fun _ => ?_) (fun hQ => absurd (show a.getD i 0 < 0 by omega) hQ)
              conv => whnf
              repeat ((first | refine ⟨by omega, ?_⟩ | refine ⟨inr (by omega), ?_⟩); conv => whnf)
              refine br_dec (fun hQ => ?_) (fun _ => ?_)
              · have e5 := m5 (by omega) hQ
                conv => whnf
                repeat ((first | refine ⟨by omega, ?_⟩ | refine ⟨inr (by omega), ?_⟩); conv => whnf)
                refine br_ne (fun hQ => absurd e5 hQ) (fun _ => ?_)
                conv => whnf
                refine ⟨inr (by omega), ?_⟩
                conv => whnf
                refine ⟨⟨i + 1, by omega, rfl, rfl⟩, ?_⟩
                simp [V.toInt, sel, Env.get]; omega
              · conv => whnf
                refine ⟨inr (by omega), ?_⟩
                conv => whnf
                refine ⟨⟨i + 1, by omega, rfl, rfl⟩, ?_⟩
                simp [V.toInt, sel, Env.get]; omega
          · conv => whnf
            refine APure.to fin ?_
            conv => whnf
            exact ⟨trivial, rfl⟩
    · conv => whnf
      refine br_eq (fun h6 => ?_) (fun h6 => ?_)
      · conv => whnf
        refine APure.to fin ?_
        conv => whnf
        exact ⟨trivial, rfl⟩
      have hn6 : (n : Int) < 6 := by omega
      obtain ⟨mR, mF, m1, m2, m3⟩ := hmore hn6
      conv => whnf
      refine ⟨inr (by omega), ?_⟩
      conv => whnf
      refine APure.to mR ?_
      conv => whnf
      refine ⟨inr (by omega), ?_⟩
      conv => whnf
      refine APure.to mF ?_
      clear mR mF hmore
      generalize fewL ((n : Int) + 1) v = c at *
      generalize refReach ((n : Int) + 1) v = rc at *
      conv => whnf
      refine br_dec (fun h7 => absurd h7 (by omega)) (fun _ => ?_)
      conv => whnf
      refine br_dec (fun h7 => absurd h7 (by omega)) (fun _ => ?_)
      conv => whnf
      refine AW_loop (X := cx 225) (cx_ok 225) [0, 9, 19, 21] (fun vs M => ∃ i : Nat, i ≤ a.length ∧ vs = [.int n, .ints true a, .ints true c, .int i] ∧ M = []) (fun vs _ => a.length - (vs.getD 3 .any).toInt.toNat) ?_ ?_
      · exact ⟨0, Nat.zero_le _, rfl, rfl⟩
      rintro vs M ⟨i, hi, rfl, rfl⟩
      conv => whnf
      refine br_dec (fun hlt => ?_) (fun hge => ?_)
      · have hi' : i < a.length := by omega
        obtain ⟨m4, m5⟩ := m3 i hi'
        conv => whnf
        refine AW_draw (X := cx 225) (cx_ok 225) mixed (by kernel_rfl) ?_
        conv => whnf
        repeat ((first | refine ⟨by omega, ?_⟩ | refine ⟨inr (by omega), ?_⟩); conv => whnf)
        refine br_dec (fun hP => ?_) (fun hP => ?_)
        · have e4 := m4 hP
          conv => whnf
          repeat ((first | refine ⟨by omega, ?_⟩ | refine ⟨inr (by omega), ?_⟩); conv => whnf)
          refine br_ne (fun hQ => absurd e4 hQ) (fun _ => ?_)
          conv => whnf
          repeat ((first | refine ⟨by omega, ?_⟩ | refine ⟨inr (by omega), ?_⟩); conv => whnf)
          refine br_dec (fun hQ => absurd hQ (show ¬ a.getD i 0 < 0 from fun hc => absurd hc (Int.not_lt.2 hP))) (fun _ => ?_)
          conv => whnf
          refine ⟨inr (by omega), ?_⟩
          conv => whnf
          refine ⟨⟨i + 1, by omega, rfl, rfl⟩, ?_⟩
          simp [V.toInt, sel, Env.get]; omega
        · have hP' : ¬ a.getD i 0 ≥ 0 := hP
          conv => whnf
          repeat ((first | refine ⟨by omega, ?_⟩ | refine ⟨inr (by omega), ?_⟩); conv => whnf)
          refine br_dec (fun _ => ?_) (fun hQ => absurd (show a.getD i 0 < 0 by omega) hQ)
          conv => whnf
          repeat ((first | refine ⟨by omega, ?_⟩ | refine ⟨inr (by omega), ?_⟩); conv => whnf)
          refine br_dec (fun hQ => ?_) (fun _ => ?_)
          · have e5 := m5 (by omega) hQ
            conv => whnf
            repeat ((first | refine ⟨by omega, ?_⟩ | refine ⟨inr (by omega), ?_⟩); conv => whnf)
            refine br_ne (fun hQ => absurd e5 hQ) (fun _ => ?_)
            conv => whnf
            refine ⟨inr (by omega), ?_⟩
            conv => whnf
            refine ⟨⟨i + 1, by omega, rfl, rfl⟩, ?_⟩
            simp [V.toInt, sel, Env.get]; omega
          · conv => whnf
            refine ⟨inr (by omega), ?_⟩
            conv => whnf
            refine ⟨⟨i + 1, by omega, rfl, rfl⟩, ?_⟩
            simp [V.toInt, sel, Env.get]; omega
      · conv => whnf
        refine APure.to fin ?_
        conv => whnf
        exact ⟨trivial, rfl⟩
end Go.Tri
