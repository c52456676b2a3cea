/-
  CONTRACTS: Winner, the program's.
-/
import Derived.Test.YtghkpmeonoadlaaB17
namespace Go.Tri
open Go.Proofs

@[reducible] def fA (a : List Int) : Nat → Int := fun j => a.getD j 0
def WSpec (a b : List Int) (w : Nat) : Prop := w < a.length ∧ (∀ j, j < w → toR (fA a) (fA b) ((ordR (fA a) (fA b) a.length).getD j 0) ≤ ldR (fA a) (fA b) (ordR (fA a) (fA b) a.length) j) ∧
    ldR (fA a) (fA b) (ordR (fA a) (fA b) a.length) w < toR (fA a) (fA b) ((ordR (fA a) (fA b) a.length).getD w 0)
noncomputable def wR (a b : List Int) : Nat := Classical.epsilon (WSpec a b)
theorem wR_spec {a b : List Int} (ha : Pts a) (hb : Pts b) (hl : a.length = b.length) : WSpec a b (wR a b) := Classical.epsilon_spec (lead_ends ha hb hl)
/-- What the last thing is worth; what is given of each; in lowest terms. -/
noncomputable def wDen (a b : List Int) : Int := toR (fA a) (fA b) ((ordR (fA a) (fA b) a.length).getD (wR a b) 0)
noncomputable def wNum (a b : List Int) : List Int := winN a.length (ordR (fA a) (fA b) a.length) (wDen a b) (ldR (fA a) (fA b) (ordR (fA a) (fA b) a.length) (wR a b)) (wR a b)
noncomputable def wN (a b : List Int) : List Int := lowN (wNum a b) (wDen a b)
noncomputable def wD (a b : List Int) : Int := (wDen a b).tdiv (gP (wNum a b) (wDen a b))
theorem in100_ord {a b : List Int} (ha : Pts a) (hb : Pts b) (hl : a.length = b.length) {j : Nat} (hj : j < a.length) : 0 ≤ toR (fA a) (fA b) ((ordR (fA a) (fA b) a.length).getD j 0) ∧ toR (fA a) (fA b) ((ordR (fA a) (fA b) a.length).getD j 0) ≤ 200 := by
  have hm := ordR_mem (f := fA a) (g := fA b) (n := a.length) _ (getD_memI (j := j) (by rw [ordR_len]; exact hj))
  have h1 := pts_in ha ((ordR (fA a) (fA b) a.length).getD j 0).toNat (by omega)
  have h2 := pts_in hb ((ordR (fA a) (fA b) a.length).getD j 0).toNat (by omega)
  exact ⟨Int.add_nonneg h1.1 h2.1, Int.add_le_add h1.2 h2.2⟩
theorem wNum_bd {a b : List Int} (ha : Pts a) (hb : Pts b) (hl : a.length = b.length) : 1 ≤ wDen a b ∧ wDen a b ≤ 200 ∧ (wNum a b).length = a.length ∧ ∀ j, 0 ≤ (wNum a b).getD j 0 ∧ (wNum a b).getD j 0 ≤ wDen a b := by
  obtain ⟨h1, h2, h3⟩ := wR_spec ha hb hl
  have h4 := ldR_nn h2
  have h5 := in100_ord ha hb hl h1
  have h6 : wDen a b = toR (fA a) (fA b) ((ordR (fA a) (fA b) a.length).getD (wR a b) 0) := rfl
  refine ⟨by omega, by omega, winN_len, fun j => ?_⟩
  unfold wNum
  rcases winN_or (n := a.length) (L := ordR (fA a) (fA b) a.length) (den := wDen a b) (lead := ldR (fA a) (fA b) (ordR (fA a) (fA b) a.length) (wR a b)) (w := wR a b) (j := j) with h | h | h <;> rw [h] <;> omega
theorem gP_dvd {nums : List Int} {den : Int} : gP nums den ∣ den := by
  unfold gP
  exact Int.ofNat_dvd_left.2 (Nat.gcd_dvd_left _ _)
theorem low_bd {x d g : Int} (hg : 1 ≤ g) (hx : 0 ≤ x) (hd : x ≤ d) (h2 : g ∣ d) (h1 : 1 ≤ d) : 0 ≤ x.tdiv g ∧ x.tdiv g ≤ d.tdiv g ∧ 1 ≤ d.tdiv g ∧ d.tdiv g ≤ d := by
  rw [Int.tdiv_eq_ediv_of_nonneg hx, Int.tdiv_eq_ediv_of_nonneg (by omega)]
  refine ⟨Int.ediv_nonneg hx (by omega), Int.ediv_le_ediv (by omega) hd, ?_, Int.ediv_le_self _ (by omega)⟩
  obtain ⟨c, rfl⟩ := h2
  rw [Int.mul_ediv_cancel_left _ (by omega)]
  rcases (by omega : c ≤ 0 ∨ 1 ≤ c) with h | h
  · have := Int.mul_nonpos_of_nonneg_of_nonpos (show 0 ≤ g by omega) h
    omega
  · exact h
theorem wN_bd {a b : List Int} (ha : Pts a) (hb : Pts b) (hl : a.length = b.length) : (1 ≤ wD a b ∧ wD a b ≤ 200) ∧ (wN a b).length = a.length ∧ ∀ j, j < a.length → 0 ≤ (wN a b).getD j 0 ∧ (wN a b).getD j 0 ≤ wD a b := by
  obtain ⟨h1, h2, h3, h4⟩ := wNum_bd ha hb hl
  have hg := gP_pos (nums := wNum a b) h1
  have h5 := low_bd hg (h4 0).1 (h4 0).2 gP_dvd h1
  refine ⟨⟨h5.2.2.1, Int.le_trans h5.2.2.2 h2⟩, by unfold wN; rw [lowN_len, h3], fun j hj => ?_⟩
  have h6 := low_bd hg (h4 j).1 (h4 j).2 gP_dvd h1
  unfold wN wD
  rw [lowN_get (by omega)]
  exact ⟨h6.1, h6.2.1⟩
noncomputable def wiV (a b : List Int) : V := if boE a b = 0 then tup3 (parV true (wN a b) (wD a b)) (ratP (mulA (fA a) (wN a b) a.length) (wD a b)) (.int 0) else tup3 (.agg 2 fun k => [V.emp true, V.int 0].getD k .any) (pairV 0 0) (.int (boE a b))
theorem agg2_eq {F : Nat → V} {x y : V} (h0 : F 0 = x) (h1 : F 1 = y) (h2 : ∀ q, F (q + 2) = .any) : V.agg 2 F = .agg 2 fun k => [x, y].getD k .any := congrArg (V.agg 2) (funext fun q => by
  match q with
  | 0 => exact h0
  | 1 => exact h1
  | q + 2 => exact h2 q)
theorem fr2 {F : Nat → V} (h0 : Fr (F 0)) (h1 : Fr (F 1)) : Fr (.agg 2 F) := fun q hq => by
  rcases (by omega : q = 0 ∨ q = 1) with rfl | rfl
  · exact h0
  · exact h1
theorem sub2 {F : Nat → V} {x y : V} (h0 : F 0 = x) (h1 : F 1 = y) : Sub (.agg 2 F) (.agg 2 fun k => [x, y].getD k .any) := sub_agg fun i hi => by
  rcases (by omega : i = 0 ∨ i = 1) with rfl | rfl
  · exact Sub.of h0
  · exact Sub.of h1
set_option maxRecDepth 100000 in
theorem Winner_pure (a b : List Int) : APure Try.prog 21 [.ints false a, .ints false b] (fun R => R = wiV a b) := by
  refine APure_of (X := cx 33) (cx_ok 33) rfl (rs := [(.cell 4 24, 24), (.cell 5 28, 28), (.tmp 6, 29)]) Try.func21 (by decide) rfl rfl rfl (by simp [cx]) (by simp [NoFr]) ?_
  intro hlen
  have c1 : boE a b ≠ 0 → tup3 (.agg 2 fun k => [V.emp true, V.int 0].getD k .any) (pairV 0 0) (.int (boE a b)) = wiV a b := fun h => by unfold wiV; rw [if_neg h]
  have c2 : boE a b = 0 → tup3 (parV true (wN a b) (wD a b)) (ratP (mulA (fA a) (wN a b) a.length) (wD a b)) (.int 0) = wiV a b := fun h => by unfold wiV; rw [if_pos h]
  generalize wiV a b = E at *
  ((conv => whnf); repeat (refine stepK_in ?_; (repeat (first | refine seqQ_n ?_ | refine blockQ_n ?_ | refine awp_skip ?_ | refine awp_seq ?_ | refine awp_block ?_)); (conv => whnf)))
  refine APure.to (checkBoth_pure a b) ?_
  ((conv => whnf); repeat (refine stepK_in ?_; (repeat (first | refine seqQ_n ?_ | refine blockQ_n ?_ | refine awp_skip ?_ | refine awp_seq ?_ | refine awp_block ?_)); (conv => whnf)))
  refine br_ne (fun h => ?_) (fun h => ?_)
  · ((conv => whnf); repeat (refine stepK_in ?_; (repeat (first | refine seqQ_n ?_ | refine blockQ_n ?_ | refine awp_skip ?_ | refine awp_seq ?_ | refine awp_block ?_)); (conv => whnf)))
    exact ⟨fr2 trivial trivial, fr2 trivial trivial, trivial, (Q3 (agg2_eq rfl rfl fun _ => rfl) (agg2_eq rfl rfl fun _ => rfl) rfl).trans (c1 h)⟩
  obtain ⟨ha, hb, hl⟩ := boE_inv h
  have c3 := newDeal_pure a b hl ha.2.1
  obtain ⟨w1, w2, w3⟩ := wR_spec ha hb hl
  have c4 := winner_pure ha.1 ha.2.1 (pts_in ha) (by rw [hl]; exact pts_in hb) w1 w2 w3
  obtain ⟨b1, b2, b3⟩ := wN_bd ha hb hl
  have c5 := scores_pure ha.2.1 (pts_in ha) (by rw [hl]; exact pts_in hb) b2 ⟨b1.1, by omega⟩ b3
  have c4 : APure Try.prog 51 [dealV false a.length (fA a) (fA b)] (fun R => R = parV true (wN a b) (wD a b)) := c4
  have c2 := c2 h
  generalize wN a b = N1 at *
  generalize wD a b = N2 at *
  ((conv => whnf); repeat (refine stepK_in ?_; (repeat (first | refine seqQ_n ?_ | refine blockQ_n ?_ | refine awp_skip ?_ | refine awp_seq ?_ | refine awp_block ?_)); (conv => whnf)))
  refine APure.to c3 ?_
  ((conv => whnf); repeat (refine stepK_in ?_; (repeat (first | refine seqQ_n ?_ | refine blockQ_n ?_ | refine awp_skip ?_ | refine awp_seq ?_ | refine awp_block ?_)); (conv => whnf)))
  refine APure.to (APure.arg1 subD c4) ?_
  ((conv => whnf); repeat (refine stepK_in ?_; (repeat (first | refine seqQ_n ?_ | refine blockQ_n ?_ | refine awp_skip ?_ | refine awp_seq ?_ | refine awp_block ?_)); (conv => whnf)))
  refine APure.to (APure.arg2 subD (sub2 rfl rfl) c5) ?_
  ((conv => whnf); repeat (refine stepK_in ?_; (repeat (first | refine seqQ_n ?_ | refine blockQ_n ?_ | refine awp_skip ?_ | refine awp_seq ?_ | refine awp_block ?_)); (conv => whnf)))
  refine AW_draw (X := cx 33) (cx_ok 33) mixed (by kernel_rfl) ?_
  ((conv => whnf); repeat (refine stepK_in ?_; (repeat (first | refine seqQ_n ?_ | refine blockQ_n ?_ | refine awp_skip ?_ | refine awp_seq ?_ | refine awp_block ?_)); (conv => whnf)))
  exact ⟨fr2 rfl trivial, fr2 trivial trivial, trivial, (Q3 (agg2_eq rfl rfl fun _ => rfl) (agg2_eq rfl rfl fun _ => rfl) rfl).trans c2⟩
end Go.Tri
