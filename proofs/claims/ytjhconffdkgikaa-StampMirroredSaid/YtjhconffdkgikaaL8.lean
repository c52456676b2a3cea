/-
  LAW: StampMirrored.
-/
import Derived.Test.YtjhconffdkgikaaB14
import Derived.Test.YtjhconffdkgikaaB10
namespace Go.Tri
open Go.Proofs

theorem mirP_get (v : List Int) : ∀ {n j : Nat}, j < n → (mirP v n).getD j 0 = lastV v - v.getD (v.length - 2 - j) 0 := by
  intro n
  induction n with
  | zero => intro j hj; omega
  | succ n ih =>
    intro j hj
    simp only [mirP]
    rcases (by omega : j = n ∨ j < n) with rfl | h1
    · exact getD_snoc _ _ _ (mirP_len v j)
    · rw [getD_app (by rw [mirP_len]; exact h1), ih h1]
theorem mirL_len {v : List Int} (hv : 1 ≤ v.length) : (mirL v).length = v.length := by
  unfold mirL
  rw [List.length_append, mirP_len]
  simp only [List.length_cons, List.length_nil]
  omega
theorem mirL_get {v : List Int} {j : Nat} (hj : j < v.length - 1) : (mirL v).getD j 0 = lastV v - v.getD (v.length - 2 - j) 0 := by
  unfold mirL
  rw [getD_app (by rw [mirP_len]; exact hj), mirP_get v hj]
theorem mirL_at {v : List Int} : (mirL v).getD (v.length - 1) 0 = lastV v := by
  unfold mirL
  exact getD_snoc _ _ _ (mirP_len v _)
theorem mirL_last {v : List Int} (hv : 1 ≤ v.length) : lastV (mirL v) = lastV v := by
  rw [show lastV (mirL v) = (mirL v).getD ((mirL v).length - 1) 0 from rfl, mirL_len hv, mirL_at]
theorem lastV_gt {v : List Int} (hv : Vals v) {i : Nat} (hi : i < v.length - 1) : v.getD i 0 < lastV v := hv.2.2.lt hi (by omega)
theorem mirL_vals {v : List Int} (hv : Vals v) : Vals (mirL v) := by
  have h1 := hv.1
  have hl := hv.last
  refine ⟨by rw [mirL_len h1]; exact h1, by rw [mirL_len h1]; exact hv.2.1, ?_⟩
  rw [mirL_len h1]
  intro j hj
  rcases (by omega : j = v.length - 1 ∨ j < v.length - 1) with rfl | h2
  · rw [mirL_at]
    refine ⟨hl.1, hl.2, fun h0 => ?_⟩
    rw [mirL_get (by omega)]
    have := hv.at (i := v.length - 2 - (v.length - 1 - 1)) (by omega)
    omega
  · have g1 := lastV_gt hv (i := v.length - 2 - j) (by omega)
    have g2 := hv.at (i := v.length - 2 - j) (by omega)
    rw [mirL_get h2]
    refine ⟨by omega, by omega, fun h0 => ?_⟩
    rw [mirL_get (by omega)]
    have := hv.2.2.lt (i := v.length - 2 - j) (j := v.length - 2 - (j - 1)) (by omega) (by omega)
    omega
theorem mirL_mirL {v : List Int} (hv : Vals v) : mirL (mirL v) = v := by
  have h1 := hv.1
  have hm := mirL_vals hv
  have hml := mirL_len h1
  refine ext_getD (by rw [mirL_len hm.1, hml]) (fun j hj => ?_)
  rw [mirL_len hm.1, hml] at hj
  rcases (by omega : j = v.length - 1 ∨ j < v.length - 1) with rfl | h2
  · have := mirL_at (v := mirL v)
    rw [hml] at this
    rw [this, mirL_last h1]
    rfl
  · rw [mirL_get (by rw [hml]; exact h2), mirL_last h1, hml, mirL_get (by omega), show v.length - 2 - (v.length - 2 - j) = j from by omega]
    omega
theorem mirL_mem {v : List Int} (hv : Vals v) {x : Int} (hx : x ∈ v) : x = lastV v ∨ lastV v - x ∈ mirL v := by
  have h1 := hv.1
  obtain ⟨i, hi, rfl⟩ := mem_getD hx
  rcases (by omega : i = v.length - 1 ∨ i < v.length - 1) with rfl | h2
  · exact .inl rfl
  · refine .inr ?_
    have e := mirL_get (v := v) (j := v.length - 2 - i) (by omega)
    rw [show v.length - 2 - (v.length - 2 - i) = i from by omega] at e
    rw [← e]
    exact getD_mem' (by rw [mirL_len h1]; omega)
theorem mirL_lastmem {v : List Int} (hv : Vals v) : lastV v ∈ mirL v := by
  have h1 := hv.1
  rw [← mirL_at (v := v)]
  exact getD_mem' (by rw [mirL_len h1]; omega)

/-- Is a the sum of n numbers, each a value or 0? -/
def Sz (v : List Int) : Nat → Int → Prop
  | 0, a => a = 0
  | n + 1, a => Sz v n a ∨ ∃ x ∈ v, Sz v n (a - x)
theorem Sz_iff {v : List Int} : ∀ {n : Nat} {a : Int}, Sz v n a ↔ ∃ m, m ≤ n ∧ Sm v m a := by
  intro n
  induction n with
  | zero =>
    intro a
    constructor
    · intro h; exact ⟨0, Nat.le_refl _, h⟩
    · rintro ⟨m, hm, h⟩
      obtain rfl : m = 0 := by omega
      exact h
  | succ n ih =>
    intro a
    constructor
    · rintro (h | ⟨x, hx, h⟩)
      · obtain ⟨m, hm, h1⟩ := ih.1 h
        exact ⟨m, by omega, h1⟩
      · obtain ⟨m, hm, h1⟩ := ih.1 h
        exact ⟨m + 1, by omega, x, hx, h1⟩
    · rintro ⟨m, hm, h⟩
      match m, h with
      | 0, h => exact .inl (ih.2 ⟨0, Nat.zero_le _, h⟩)
      | m + 1, ⟨x, hx, h⟩ => exact .inr ⟨x, hx, ih.2 ⟨m, by omega, h⟩⟩
theorem Sz_mirror {v : List Int} (hv : Vals v) : ∀ {n : Nat} {a : Int}, Sz v n a → Sz (mirL v) n (n * lastV v - a) := by
  intro n
  induction n with
  | zero =>
    intro a h
    simp only [Sz] at h ⊢
    subst h
    simp
  | succ n ih =>
    intro a h
    have e : ((n + 1 : Nat) : Int) * lastV v = n * lastV v + lastV v := by rw [show ((n + 1 : Nat) : Int) = (n : Int) + 1 from rfl, Int.add_mul, Int.one_mul]
    rw [e]
    rcases h with h | ⟨x, hx, h⟩
    · refine .inr ⟨lastV v, mirL_lastmem hv, ?_⟩
      rw [show (n : Int) * lastV v + lastV v - a - lastV v = n * lastV v - a from by omega]
      exact ih h
    · have h1 := ih h
      rcases mirL_mem hv hx with rfl | h2
      · refine .inl ?_
        rw [show (n : Int) * lastV v + lastV v - a = n * lastV v - (a - lastV v) from by omega]
        exact h1
      · refine .inr ⟨_, h2, ?_⟩
        rw [show (n : Int) * lastV v + lastV v - a - (lastV v - x) = n * lastV v - (a - x) from by omega]
        exact h1
theorem few_pos {v : List Int} {h : Nat} {a f : Int} (hf : Few v h a f) : 0 ≤ f ↔ Sz v h a := by
  rw [Sz_iff]
  rcases hf with ⟨h1, h2⟩ | ⟨h1, h2, h3, _⟩
  · constructor
    · intro h; omega
    · rintro ⟨m, hm, hs⟩; exact absurd hs (h2 m (by omega))
  · exact ⟨fun _ => ⟨_, by omega, h3⟩, fun _ => h1⟩
theorem few_mirror {h : Nat} {v : List Int} (hv : Vals v) {x y : Nat} (hxy : (x : Int) + y = h * lastV v) : (0 ≤ (fewL h v).getD x 0) ↔ (0 ≤ (fewL h (mirL v)).getD y 0) := by
  have h1 := hv.1
  have hm := mirL_vals hv
  have hl := mirL_last h1
  rw [few_pos (fewL_ok (by omega) hv (by omega)), few_pos (fewL_ok (by omega) hm (by rw [hl]; omega))]
  constructor
  · intro h2
    have := Sz_mirror hv h2
    rw [show (h : Int) * lastV v - x = y from by omega] at this
    exact this
  · intro h2
    have := Sz_mirror hm h2
    rw [mirL_mirL hv, hl, show (h : Int) * lastV v - y = x from by omega] at this
    exact this

set_option maxRecDepth 100000 in
theorem StampMirrored_pure (h : Int) (v : List Int) : APure Try.prog 11 [.int h, .ints false v] (fun R => R = .bool true) := by
  refine APure_of (X := cx 105) (cx_ok 105) rfl (rs := [(.tmp 4, 4)]) Try.func11 (by decide) rfl rfl rfl (by simp [cx]) (by simp [NoFr]) ?_
  intro hlen
  have fin : APure Try.prog 16 [] (fun R => R = .bool true) := alive_pure
  conv => whnf
  refine br_dec (fun hl => ?_) (fun hl => ?_)
  · conv => whnf
    refine APure.to fin ?_
    conv => whnf
    exact ⟨trivial, rfl⟩
  conv => whnf
  refine APure.to (refTicket_pure h v) ?_
  conv => whnf
  refine br_ne (fun h0 => ?_) (fun h0 => ?_)
  · conv => whnf
    refine APure.to fin ?_
    conv => whnf
    exact ⟨trivial, rfl⟩
  obtain ⟨hh, hv⟩ := tickE_inv h0
  obtain ⟨n, rfl⟩ : ∃ n : Nat, h = n := ⟨h.toNat, by omega⟩
  have hb := mul_bd hh hv.last
  have h1l := hv.1
  have h6l := hv.2.1
  have hll : v.getD ((v.length : Int) - 1).toNat 0 = lastV v := by unfold lastV; congr 1; omega
  have hm := mirL_vals hv
  have hml := mirL_last h1l
  have hM1 := Mirrored_pure v
  rw [if_pos (valsE_ok hv), valsE_ok hv] at hM1
  have hM2 := Mirrored_pure (mirL v)
  rw [if_pos (valsE_ok hm), valsE_ok hm, mirL_mirL hv] at hM2
  have hF1 := Fewest_pure n v
  rw [if_pos h0, h0] at hF1
  have h0m : tickE n (mirL v) = 0 := by unfold tickE; rw [if_pos (by omega), valsE_ok hm]
  have hF2 := Fewest_pure n (mirL v)
  rw [if_pos h0m, h0m] at hF2
  have hl1 : (fewL n v).length = (n * lastV v + 1).toNat := fewL_len
  have hl2 : (fewL n (mirL v)).length = (n * lastV v + 1).toNat := by rw [fewL_len, hml]
  have hpos := fun x y => few_mirror (h := n) hv (x := x) (y := y)
  conv => whnf
  refine APure.to hM1 ?_
  conv => whnf
  refine APure.to hM2 ?_
  generalize mirL v = m at *
  conv => whnf
  refine APure.to (same_pure _ _) ?_
  conv => whnf
  refine br_not (br_dec (fun _ => ?_) (fun h1 => absurd rfl h1))
  conv => whnf
  refine APure.to hF1 ?_
  conv => whnf
  refine APure.to hF2 ?_
  generalize fewL n v = a at *
  generalize fewL n m = b at *
  conv => whnf
  refine ⟨inr (by omega), ?_⟩
  conv => whnf
  refine ⟨by omega, ?_⟩
  conv => whnf
  refine ⟨by omega, ?_⟩
  rw [hll]
  conv => whnf
  refine ⟨inr (by omega), ?_⟩
  conv => whnf
  refine ⟨inr (by omega), ?_⟩
  conv => whnf
  refine br_ne (fun h1 => absurd h1 (by omega)) (fun _ => ?_)
  conv => whnf
  refine br_ne (fun h1 => absurd h1 (by omega)) (fun _ => ?_)
  conv => whnf
  refine AW_loop (X := cx 105) (cx_ok 105) [9, 10, 11] (fun vs M => ∃ x : Nat, x ≤ a.length ∧ vs = [.ints true a, .ints true b, .int x] ∧ M = []) (fun vs _ => a.length - (vs.getD 2 .any).toInt.toNat) ?_ ?_
  · exact ⟨0, Nat.zero_le _, rfl, rfl⟩
  rintro vs M ⟨x, hx, rfl, rfl⟩
  conv => whnf
  refine br_dec (fun hlt => ?_) (fun hge => ?_)
  · have hx' : x < a.length := by omega
    have ey : ((b.length : Int) - 1 - x).toNat = b.length - 1 - x := by omega
    have hp := hpos x (b.length - 1 - x) (by omega)
    have hd : decide (a.getD x 0 ≥ 0) = decide (b.getD ((b.length : Int) - 1 - x).toNat 0 ≥ 0) := by
      rw [ey]
      congr 1
      exact propext hp
    conv => whnf
    refine AW_draw (X := cx 105) (cx_ok 105) mixed (by kernel_rfl) ?_
    conv => whnf
    repeat ((first | refine ⟨by omega, ?_⟩ | refine ⟨inr (by omega), ?_⟩); conv => whnf)
    refine br_mk (fun h1 => absurd h1 (by
      show ¬ (!(decide (a.getD x 0 ≥ 0) == decide (b.getD ((b.length : Int) - 1 - x).toNat 0 ≥ 0))) = true
      rw [hd]
      simp)) (fun _ => ?_)
    conv => whnf
    refine ⟨inr (by omega), ?_⟩
    conv => whnf
    refine ⟨⟨x + 1, by omega, rfl, rfl⟩, ?_⟩
    simp [V.toInt, sel, Env.get]; omega
  · conv => whnf
    refine APure.to fin ?_
    conv => whnf
    exact ⟨trivial, rfl⟩
end Go.Tri
