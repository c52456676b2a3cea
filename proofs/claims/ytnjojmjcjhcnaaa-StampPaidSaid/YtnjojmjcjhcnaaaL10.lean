/-
  LAW: StampPaid.
-/
import Derived.Test.YtnjojmjcjhcnaaaB15
import Derived.Test.YtnjojmjcjhcnaaaB16
import Derived.Test.YtnjojmjcjhcnaaaL6
namespace Go.Tri
open Go.Proofs

theorem br_xor {a b : Bool} {P Q : Prop} (h : a = b) (hq : Q) : br (!(a == b)) P Q := by
  subst h
  cases a <;> exact hq

set_option maxRecDepth 100000 in
theorem StampPaid_pure (h : Int) (v : List Int) (q : Int) (hq : (Lit.int .u16 q).wf = true) : APure Try.prog 14 [.int h, .ints false v, .lit (.int .u16 q)] (fun R => R = .bool true) := by
  refine APure_of (X := cx 231) (cx_ok 231) rfl (rs := [(.tmp 6, 4)]) Try.func14 (by decide) rfl rfl rfl (by simp [cx]) (by simp [NoFr]) ?_
  intro hlen
  have fin : APure Try.prog 16 [] (fun R => R = .bool true) := alive_pure
  have hq := wf_u16 hq
  conv => whnf
  refine br_dec (fun hl => ?_) (fun hl => ?_)
  · conv => whnf
    refine APure.to fin ?_
    conv => whnf
    exact ⟨trivial, rfl⟩
  conv => whnf
  refine APure.to (refTicket_pure h v) ?_
  conv => whnf
  refine br_ne (fun h0 => ?_) (fun h0 => ?_)
  · conv => whnf
    refine APure.to fin ?_
    conv => whnf
    exact ⟨trivial, rfl⟩
  obtain ⟨hh, hv⟩ := tickE_inv h0
  have hb := mul_bd hh hv.last
  have h1l := hv.1
  have h6l := hv.2.1
  have hll : v.getD ((v.length : Int) - 1).toNat 0 = lastV v := by unfold lastV; congr 1; omega
  obtain ⟨n, rfl⟩ : ∃ n : Nat, h = n := ⟨h.toNat, by omega⟩
  obtain ⟨x, hx, hxb⟩ := tmod_nat (a := q) (t := n * lastV v + 1) hq.1 (by omega)
  have ha0 : amtE n v x = 0 := by unfold amtE; rw [if_pos h0, if_pos (by omega)]
  have hF := Fewest_pure n v
  rw [if_pos h0, h0] at hF
  have hP := Pay_pure n v x
  rw [if_pos ha0, if_pos ha0, Int.toNat_natCast] at hP
  have hW := Ways_pure n v x
  rw [if_pos ha0, ha0, Int.toNat_natCast, Int.toNat_natCast] at hW
  have hG := Greedy_pure n v
  rw [h0, Int.toNat_natCast, bad_eq hv] at hG
  have hfl : (fewL n v).length = (n * lastV v + 1).toNat := fewL_len
  have hfx : (fewL n v).getD x 0 = (match payO n v x with
    | some l => (l.length : Int)
    | none => -1) := Few.uniq (fewL_ok (by omega) hv (by omega)) (pay_few hv x)
  have hwx : decide ((lettersL n v).getD x 0 > 0) = decide ((fewL n v).getD x 0 ≥ 0) := by
    have := has_pos (h := n) hv (a := x) (by omega)
    have h2 := letters_pos0 (h := n) hv x
    simp only [hasB, posB, decide_eq_decide] at this
    rw [decide_eq_decide]
    omega
  have hpx : posB (fewL n v) x = decide (0 ≤ (fewL n v).getD x 0) := rfl
  have hp : ∀ p, payO n v x = some p → (∀ y ∈ p, y ∈ v) ∧ (∀ i, 0 < i → i < p.length → p.getD (i - 1) 0 ≤ p.getD i 0) ∧ sumP p p.length = x ∧ p.length ≤ n := fun p e => payO_spec hv e
  have hbO := fun a => badO_some (p := badB n v (posB (fewL n v))) (k := (fewL n v).length) (a := a)
  have hbN := badO_none (p := badB n v (posB (fewL n v))) (k := (fewL n v).length)
  generalize badO (badB n v (posB (fewL n v))) (fewL n v).length = o at hG hbO hbN
  generalize (lettersL n v).getD x 0 = w at *
  conv => whnf
  refine ⟨inr (by omega), ?_⟩
  conv => whnf
  refine ⟨by omega, ?_⟩
  conv => whnf
  refine ⟨by omega, ?_⟩
  rw [hll]
  conv => whnf
  repeat ((first | refine ⟨inr (by omega), ?_⟩ | refine ⟨(show (n : Int) * lastV v + 1 ≠ 0 by omega), ?_⟩); conv => whnf)
  rw [hx]
  conv => whnf
  refine APure.to hP ?_
  conv => whnf
  refine APure.to hF ?_
  conv => whnf
  refine APure.to hW ?_
  generalize hld : fewL n v = l at *
  conv => whnf
  refine ⟨inr (by omega), ?_⟩
  conv => whnf
  refine br_ne (fun h1 => absurd h1 (by omega)) (fun _ => ?_)
  conv => whnf
  refine ⟨by omega, ?_⟩
  conv => whnf
  refine ⟨by omega, ?_⟩
  conv => whnf
  refine br_xor hwx ?_
  conv => whnf
  cases hpo : payO n v x with
  | none =>
    rw [hpo] at hfx
    have hfx : l.getD x 0 = -1 := hfx
    conv => whnf
    refine ⟨by omega, ?_⟩
    conv => whnf
    refine ⟨by omega, ?_⟩
    conv => whnf
    refine br_eq (fun _ => ?_) (fun h1 => absurd hfx h1)
    conv => whnf
    refine APure.to fin ?_
    conv => whnf
    exact ⟨trivial, rfl⟩
  | some p =>
    rw [hpo] at hfx
    have hfx : l.getD x 0 = (p.length : Int) := hfx
    obtain ⟨hp1, hp2, hp3, hp4⟩ := hp p hpo
    clear hp hP
    conv => whnf
    refine AW_loop (X := cx 231) (cx_ok 231) [0, 1, 7, 8, 9, 11, 15, 16] (fun vs M => ∃ k : Nat, k ≤ p.length ∧ vs = [.int n, .ints false v, .int (n * lastV v), .int x, .ints true p, .ints true l, .int (sumP p k), .int k] ∧ M = [])
      (fun vs _ => p.length - (vs.getD 7 .any).toInt.toNat) ?_ ?_
    · exact ⟨0, Nat.zero_le _, rfl, rfl⟩
    rintro vs M ⟨k, hk, rfl, rfl⟩
    have hsb : ∀ j, j ≤ p.length → 0 ≤ sumP p j ∧ sumP p j ≤ 200 * j := by
      intro j
      induction j with
      | zero => intro _; simp [sumP]
      | succ j ih =>
        intro hj
        have h1 := ih (by omega)
        have h2 := hv.mem _ (hp1 _ (getD_mem' (l := p) (k := j) (by omega)))
        have h3 := hv.last
        simp only [sumP]
        omega
    conv => whnf
    refine br_dec (fun hlt => ?_) (fun hge => ?_)
    · have hk' : k < p.length := by omega
      have hmem := hp1 _ (getD_mem' hk')
      have hs0 := hsb k hk
      have hs1 := hsb (k + 1) (by omega)
      have e1 : ((k : Int) - 1).toNat = k - 1 := by omega
      have e2 : sumP p k + p.getD k 0 = sumP p (k + 1) := rfl
      have next : ∀ s, s = sumP p (k + 1) → (∃ k_1 : Nat, k_1 ≤ p.length ∧ [V.int n, .ints false v, .int (n * lastV v), .int x, .ints true p, .ints true l, .int s, .int ((k : Int) + 1)] = [V.int n, .ints false v, .int (n * lastV v), .int x, .ints true p, .ints true l, .int (sumP p k_1), .int k_1] ∧ ([] : Mem) = []) := fun s hs => ⟨k + 1, by omega, by rw [hs]; rfl, rfl⟩
      conv => whnf
      refine AW_draw (X := cx 231) (cx_ok 231) mixed (by kernel_rfl) ?_
      conv => whnf
      repeat ((first | refine ⟨by omega, ?_⟩ | refine ⟨inr (by omega), ?_⟩); conv => whnf)
      have hIn : APure Try.prog 38 [.ints false v, .int (p.getD (k : Int).toNat 0)] (fun R => R = .bool true) := by
        have := refIn_pure v (p.getD k 0)
        rwa [decide_eq_true hmem] at this
      refine ⟨.bool true, hIn, ?_⟩
      conv => whnf
      refine br_dec (fun hk0 => ?_) (fun hk0 => ?_)
      · have hasc := hp2 k (by omega) hk'
        conv => whnf
        repeat ((first | refine ⟨by omega, ?_⟩ | refine ⟨inr (by omega), ?_⟩); conv => whnf)
        refine br_dec (fun h1 => absurd (show p.getD k 0 < p.getD (k - 1) 0 by rw [← e1]; exact h1) (by omega)) (fun _ => ?_)
        conv => whnf
        repeat ((first | refine ⟨by omega, ?_⟩ | refine ⟨inr (by omega), ?_⟩ | refine ⟨inr (show -9223372036854775808 ≤ sumP p k + p.getD k 0 ∧ sumP p k + p.getD k 0 ≤ 9223372036854775807 by omega), ?_⟩); conv => whnf)
        refine ⟨next _ e2, ?_⟩
        simp [V.toInt, sel, Env.get]; omega
      · conv => whnf
        repeat ((first | refine ⟨by omega, ?_⟩ | refine ⟨inr (by omega), ?_⟩ | refine ⟨inr (show -9223372036854775808 ≤ sumP p k + p.getD k 0 ∧ sumP p k + p.getD k 0 ≤ 9223372036854775807 by omega), ?_⟩); conv => whnf)
        refine ⟨next _ e2, ?_⟩
        simp [V.toInt, sel, Env.get]; omega
    · obtain rfl : k = p.length := by omega
      rw [hp3]
      conv => whnf
      refine br_ne (fun h1 => absurd rfl h1) (fun _ => ?_)
      conv => whnf
      refine ⟨by omega, ?_⟩
      conv => whnf
      refine ⟨by omega, ?_⟩
      conv => whnf
      refine br_ne (fun h1 => absurd hfx.symm h1) (fun _ => ?_)
      conv => whnf
      refine br_dec (fun h1 => absurd h1 (by omega)) (fun _ => ?_)
      conv => whnf
      have hgx : gOk n v x = decide ((greK v v.length 0 x).2 = 0 ∧ (greK v v.length 0 x).1 ≤ n) := rfl
      have hv1 : ∀ i, i < v.length → 1 ≤ v.getD i 0 := fun i hi => (hv.at hi).1
      have hpos : posB l x = true := by rw [hpx, decide_eq_true_iff]; omega
      cases o with
      | none =>
        have hgo : gOk n v x = true := by
          have := hbN rfl x (by omega)
          unfold badB at this
          rw [hpos] at this
          simpa using this
        have hG2 : APure Try.prog 32 [.int n, .ints false v] (fun R => R = tup2 (.int 0) (.int 10)) := hG
        refine APure.to hG2 ?_
        conv => whnf
        repeat ((first | refine ⟨by omega, ?_⟩ | refine ⟨inr (by omega), ?_⟩); conv => whnf)
        refine AW_loop (X := cx 231) (cx_ok 231) [0, 1, 18, 19, 20] (fun vs M => ∃ (k : Nat) (u r : Int), k ≤ v.length ∧ 0 ≤ u ∧ 0 ≤ r ∧ u + r ≤ x ∧ greK v k u r = greK v v.length 0 x ∧ vs = [.int n, .ints false v, .int u, .int r, .int ((k : Int) - 1)] ∧ M = [])
          (fun vs _ => ((vs.getD 4 .any).toInt + 1).toNat) ?_ ?_
        · exact ⟨v.length, 0, x, Nat.le_refl _, by omega, by omega, by omega, rfl, rfl, rfl⟩
        rintro vs M ⟨k, u, r, hk, hu, hr, hs, hg, rfl, rfl⟩
        conv => whnf
        refine br_dec (fun hlt => ?_) (fun hge => ?_)
        · obtain ⟨j, rfl⟩ : ∃ j, k = j + 1 := ⟨k - 1, by omega⟩
          have e1 : ((j + 1 : Nat) : Int) - 1 = j := by omega
          rw [e1]
          obtain ⟨s1, s2, s3⟩ := gre_step (hv1 j (by omega)) hr
          have hx1 := hv1 j (by omega)
          have hgk : greK v j (u + r.tdiv (v.getD j 0)) (r.tmod (v.getD j 0)) = greK v v.length 0 x := hg
          conv => whnf
          repeat ((first | refine ⟨by omega, ?_⟩ | refine ⟨(show v.getD j 0 ≠ 0 by omega), ?_⟩ | refine ⟨inr (show -9223372036854775808 ≤ r.tdiv (v.getD j 0) ∧ r.tdiv (v.getD j 0) ≤ 9223372036854775807 by omega), ?_⟩ | refine ⟨inr (show -9223372036854775808 ≤ u + r.tdiv (v.getD j 0) ∧ u + r.tdiv (v.getD j 0) ≤ 9223372036854775807 by omega), ?_⟩ | refine ⟨inr (by omega), ?_⟩); conv => whnf)
          refine ⟨⟨j, _, _, by omega, ?_, s2, ?_, hgk, rfl, rfl⟩, ?_⟩
          · omega
          · omega
          · simp [V.toInt, sel, Env.get]
        · have : k = 0 := by omega
          subst this
          rw [hgx, ← hg, decide_eq_true_iff] at hgo
          obtain ⟨hr0, hun⟩ := hgo
          have hr0 : r = 0 := hr0
          have hun : u ≤ n := hun
          conv => whnf
          refine br_eq (fun _ => ?_) (fun h1 => absurd hr0 h1)
          conv => whnf
          refine br_dec (fun _ => ?_) (fun h1 => absurd hun h1)
          conv => whnf
          refine APure.to fin ?_
          conv => whnf
          exact ⟨trivial, rfl⟩
      | some bad =>
        obtain ⟨b1, b2, b3⟩ := hbO bad rfl
        have hbp : 0 ≤ l.getD bad 0 ∧ gOk n v bad = false := by
          unfold badB posB at b2
          simpa [-List.getD_eq_getElem?_getD] using b2
        have hb0 : 1 ≤ bad := by
          rcases (by omega : bad = 0 ∨ 1 ≤ bad) with rfl | h1
          · have := hbp.2
            rw [show ((0 : Nat) : Int) = 0 from rfl, gOk_zero (by omega)] at this
            cases this
          · exact h1
        have hG2 : APure Try.prog 32 [.int n, .ints false v] (fun R => R = tup2 (.int bad) (.int 0)) := hG
        refine APure.to hG2 ?_
        conv => whnf
        refine br_dec (fun h1 => absurd h1 (by omega)) (fun _ => ?_)
        conv => whnf
        refine br_dec (fun h1 => absurd h1 (by omega)) (fun _ => ?_)
        conv => whnf
        refine ⟨by omega, ?_⟩
        conv => whnf
        refine ⟨by omega, ?_⟩
        conv => whnf
        refine br_dec (fun h1 => absurd (show l.getD bad 0 < 0 from h1) (by omega)) (fun _ => ?_)
        conv => whnf
        refine br_dec (fun h1 => ?_) (fun h1 => ?_)
        · conv => whnf
          refine APure.to fin ?_
          conv => whnf
          exact ⟨trivial, rfl⟩
        have hgo : gOk n v x = true := by
          have := b3 x (by omega)
          unfold badB at this
          rw [hpos] at this
          simpa using this
        conv => whnf
        repeat ((first | refine ⟨by omega, ?_⟩ | refine ⟨inr (by omega), ?_⟩); conv => whnf)
        refine AW_loop (X := cx 231) (cx_ok 231) [0, 1, 18, 19, 20] (fun vs M => ∃ (k : Nat) (u r : Int), k ≤ v.length ∧ 0 ≤ u ∧ 0 ≤ r ∧ u + r ≤ x ∧ greK v k u r = greK v v.length 0 x ∧ vs = [.int n, .ints false v, .int u, .int r, .int ((k : Int) - 1)] ∧ M = [])
          (fun vs _ => ((vs.getD 4 .any).toInt + 1).toNat) ?_ ?_
        · exact ⟨v.length, 0, x, Nat.le_refl _, by omega, by omega, by omega, rfl, rfl, rfl⟩
        rintro vs M ⟨k, u, r, hk, hu, hr, hs, hg, rfl, rfl⟩
        conv => whnf
        refine br_dec (fun hlt => ?_) (fun hge => ?_)
        · obtain ⟨j, rfl⟩ : ∃ j, k = j + 1 := ⟨k - 1, by omega⟩
          have e1 : ((j + 1 : Nat) : Int) - 1 = j := by omega
          rw [e1]
          obtain ⟨s1, s2, s3⟩ := gre_step (hv1 j (by omega)) hr
          have hx1 := hv1 j (by omega)
          have hgk : greK v j (u + r.tdiv (v.getD j 0)) (r.tmod (v.getD j 0)) = greK v v.length 0 x := hg
          conv => whnf
          repeat ((first | refine ⟨by omega, ?_⟩ | refine ⟨(show v.getD j 0 ≠ 0 by omega), ?_⟩ | refine ⟨inr (show -9223372036854775808 ≤ r.tdiv (v.getD j 0) ∧ r.tdiv (v.getD j 0) ≤ 9223372036854775807 by omega), ?_⟩ | refine ⟨inr (show -9223372036854775808 ≤ u + r.tdiv (v.getD j 0) ∧ u + r.tdiv (v.getD j 0) ≤ 9223372036854775807 by omega), ?_⟩ | refine ⟨inr (by omega), ?_⟩); conv => whnf)
          refine ⟨⟨j, _, _, by omega, ?_, s2, ?_, hgk, rfl, rfl⟩, ?_⟩
          · omega
          · omega
          · simp [V.toInt, sel, Env.get]
        · have : k = 0 := by omega
          subst this
          rw [hgx, ← hg, decide_eq_true_iff] at hgo
          obtain ⟨hr0, hun⟩ := hgo
          have hr0 : r = 0 := hr0
          have hun : u ≤ n := hun
          conv => whnf
          refine br_eq (fun _ => ?_) (fun h1 => absurd hr0 h1)
          conv => whnf
          refine br_dec (fun _ => ?_) (fun h1 => absurd hun h1)
          conv => whnf
          refine APure.to fin ?_
          conv => whnf
          exact ⟨trivial, rfl⟩
end Go.Tri
