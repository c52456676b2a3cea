/-
 STRONG, BY PARTS, CUTS AND MENDS: one part exactly if there is no cut; the mend is empty exactly if there is none; with the streets of a list opened there is none exactly if the list is a mend.
-/
import Derived.Test.YtafibngpgllcfaaM8
import Derived.Test.YtafibngpgllcfaaB30
namespace Go.Tri
open Go.Proofs

theorem mbL_nil {s : Nat} (hs : s < 16384) : mbL s 14 = [] ↔ s = 0 := by
 refine ⟨fun h => eq0_iff.2 fun i => ?_, fun h => ?_⟩
 ·cases hb : s.testBit i with
  | false => rfl
  | true =>
   have := (mb14_mem hs (x := (i : Int))).2 ⟨i, hb, rfl⟩
   rw [h] at this
   cases this
 ·subst h
  refine List.eq_nil_iff_forall_not_mem.2 fun x hx => ?_
  obtain ⟨i, hi, _⟩ := (mb14_mem hs).1 hx
  rw [Nat.zero_testBit] at hi
  cases hi
theorem no_cut {n m : Nat} {A B : Nat → Nat} : (cutL n m A B (fullN n)).length = 0 ↔ ∀ s, cutB n m A B s = false := by
 refine ⟨fun h s => ?_, fun h => ?_⟩
 ·cases hb : cutB n m A B s with
  | false => rfl
  | true =>
   obtain ⟨j, hj, _⟩ := cutL_has hb
   omega
 ·refine Classical.byContradiction fun h0 => ?_
  obtain ⟨s, _, hs, _⟩ := cutL_nat (n := n) (m := m) (A := A) (B := B) (k := fullN n) (j := 0) (by omega)
  rw [h s] at hs
  cases hs
theorem mdR_mem {n m : Nat} {A B : Nat → Nat} (h : Qok n m A B) : ∃ s, s ∈ mdL n m A B ∧ mdR n m A B = mbL s 14 := by
 have hl := mdL_pos h
 obtain ⟨h1, _⟩ := lsR_spec ((mdL n m A B).map fun s => mbL s 14) (by intro h0; have := congrArg List.length h0; simp at this; rw [this] at hl; cases hl)
 obtain ⟨s, hs, he⟩ := List.mem_map.1 h1
 exact ⟨s, hs, he.symm⟩
theorem mdR_len {n m : Nat} {A B : Nat → Nat} (h : Qok n m A B) : (mdR n m A B).length = mdK n m A B := by
 obtain ⟨s, hs, he⟩ := mdR_mem h
 rw [he, mbL_ct]
 exact ((mdL_mem h.q.sm).1 hs).2.2
theorem mt_zero {n m : Nat} {A B : Nat → Nat} : mtS n m A B 0 = true ↔ (cutL n m A B (fullN n)).length = 0 := by
 unfold mtS mtB
 rw [allB_iff]
 refine ⟨fun h => ?_, fun h j hj => by omega⟩
 refine Classical.byContradiction fun h0 => ?_
 have := h 0 (by omega)
 rw [Nat.zero_and] at this
 cases this
theorem mdK_zero {n m : Nat} {A B : Nat → Nat} (h : Qok n m A B) : mdK n m A B = 0 ↔ (cutL n m A B (fullN n)).length = 0 := by
 have hp := Nat.two_pow_pos m
 refine ⟨fun h0 => ?_, fun h0 => ?_⟩
 ·obtain ⟨s, hs, he⟩ := mdR_mem h
  obtain ⟨h1, h2, h3⟩ := (mdL_mem h.q.sm).1 hs
  have hs14 : s < 16384 := Nat.lt_of_lt_of_le h1 (Nat.pow_le_pow_right (by decide) h.q.sm)
  have : mbL s 14 = [] := List.eq_nil_of_length_eq_zero (by rw [mbL_ct, h3, h0])
  rw [mbL_nil hs14] at this
  subst this
  exact mt_zero.1 h2
 ·have := mdK_min h.q.sm hp (mt_zero.2 h0)
  have : ct 0 14 = 0 := by decide
  omega
/-- One part exactly if all corners are in the first one. -/
theorem prS_one {n m : Nat} {A B : Nat → Nat} (h0 : (ptA n m A B 0).testBit 0 = true) : ∀ k, ((∀ j, j ≤ k → (ptA n m A B 0).testBit j = true) → prS n m A B (k + 1) = (0 ||| ptA n m A B 0, [ptA n m A B 0])) ∧ (¬ (∀ j, j ≤ k → (ptA n m A B 0).testBit j = true) → 2 ≤ (prS n m A B (k + 1)).2.length) := by
 intro k
 induction k with
 | zero =>
  refine ⟨fun _ => ?_, fun h => absurd (fun j hj => by rw [show j = 0 by omega]; exact h0) h⟩
  rw [prS, if_neg (by simp [prS])]
  rfl
 | succ k ih =>
  rw [prS]
  by_cases hk : ∀ j, j ≤ k → (ptA n m A B 0).testBit j = true
  ·rw [ih.1 hk]
   by_cases hk1 : (ptA n m A B 0).testBit (k + 1) = true
   ·rw [if_pos (by rw [Nat.zero_or]; exact hk1)]
    refine ⟨fun _ => rfl, fun h => absurd (fun j hj => ?_) h⟩
    by_cases hj1 : j = k + 1
    ·rw [hj1]; exact hk1
    ·exact hk j (by omega)
   ·rw [if_neg (by rw [Nat.zero_or]; exact hk1)]
    exact ⟨fun h => absurd (h (k + 1) (Nat.le_refl _)) hk1, fun _ => by simp⟩
  ·have h2 := ih.2 hk
   refine ⟨fun h => absurd (fun j hj => h j (by omega)) hk, fun _ => ?_⟩
   split
   ·exact h2
   ·rw [List.length_append]
    omega
theorem ptA_iff {n m : Nat} {A B : Nat → Nat} (hQ : Qn n m A B) {v i : Nat} (hv : v < n) : (ptA n m A B v).testBit i = true ↔ Way A B m v i ∧ Way B A m v i := by
 unfold ptA
 rw [Nat.testBit_and, Bool.and_eq_true, wk_iff hQ.hB hv, wk_iff hQ.hA hv]
/-- A set that no street enters has all that leads into it. -/
theorem cut_back {n m : Nat} {A B : Nat → Nat} (hQ : Qn n m A B) {s : Nat} (hs : cutB n m A B s = true) {u v : Nat} (hw : Way A B m u v) (hv : s.testBit v = true) : s.testBit u = true := by
 have hs := (cutB_iff hQ.hA hQ.hB).1 hs
 induction hw with
 | here => exact hv
 | step _ hj hA ih => exact ih (by rw [← hA]; exact hs.2.2 _ hj hv)
theorem way_rev {A B : Nat → Nat} {m u v : Nat} (h : Way B A m u v) : Way A B m v u := by
 induction h with
 | here => exact .here
 | step _ hj hA ih => exact Way.before hj rfl (by rw [hA]; exact ih)
theorem parts_one {n m : Nat} {A B : Nat → Nat} (h : Qok n m A B) : ((prS n m A B n).2.length : Int) = 1 ↔ (cutL n m A B (fullN n)).length = 0 := by
 have h2 := h.q.lo
 have hp := Nat.two_pow_pos n
 have h0 : (ptA n m A B 0).testBit 0 = true := (ptA_iff h.q (by omega)).2 ⟨.here, .here⟩
 obtain ⟨o1, o2⟩ := prS_one h0 (n - 1)
 rw [show n - 1 + 1 = n by omega] at o1 o2
 have key : (∀ j, j ≤ n - 1 → (ptA n m A B 0).testBit j = true) ↔ (cutL n m A B (fullN n)).length = 0 := by
  rw [no_cut]
  refine ⟨fun ha s => ?_, fun hc j hj => ?_⟩
  ·cases hb : cutB n m A B s with
   | false => rfl
   | true =>
    have hs := (cutB_iff h.q.hA h.q.hB).1 hb
    obtain ⟨v, hv⟩ : ∃ v, s.testBit v = true := by
     refine Classical.byContradiction fun hno => ?_
     have : s = 0 := eq0_iff.2 fun i => by
      cases hi : s.testBit i with
      | false => rfl
      | true => exact absurd ⟨i, hi⟩ hno
     omega
    have hsl : s < 2 ^ n := by have := hs.2.1; unfold fullN at this; omega
    have hvn : v < n := by
     refine Classical.byContradiction fun h' => ?_
     rw [tb_big hsl (by omega)] at hv
     cases hv
    have w0 := ((ptA_iff h.q (show 0 < n by omega)).1 (ha v (by omega))).1
    have t0 := cut_back h.q hb w0 hv
    have : s = fullN n := Nat.eq_of_testBit_eq fun i => by
     rw [fullN_tb]
     by_cases hi : i < n
     ·have w1 := way_rev ((ptA_iff h.q (show 0 < n by omega)).1 (ha i (by omega))).2
      rw [cut_back h.q hb w1 t0, decide_eq_true hi]
     ·rw [tb_big hsl (by omega), decide_eq_false hi]
    omega
  ·refine (ptA_iff h.q (by omega)).2 ⟨?_, ?_⟩
   ·refine Classical.byContradiction fun hno => ?_
    have hwl := wk_lt (A := A) h.q.hB n 0 0 hp (show 0 < n by omega)
    have tb : ∀ i, (dif (fullN n) (wk A B m n 0 0)).testBit i = true ↔ i < n ∧ ¬ Way A B m 0 i := fun i => by
     rw [dif_full_tb, Bool.and_eq_true, decide_eq_true_iff, Bool.not_eq_true', ← Bool.not_eq_true, wk_iff h.q.hB (by omega)]
    have hc1 : cutB n m A B (dif (fullN n) (wk A B m n 0 0)) = true := by
     have hne : (dif (fullN n) (wk A B m n 0 0)) ≠ 0 := fun h' => by
      have := (tb j).2 ⟨by omega, hno⟩
      rw [h', Nat.zero_testBit] at this
      cases this
     have hlt : dif (fullN n) (wk A B m n 0 0) < 2 ^ n := Nat.xor_lt_two_pow (by unfold fullN; omega) (Nat.lt_of_le_of_lt Nat.and_le_left (by unfold fullN; omega))
     have hnf : dif (fullN n) (wk A B m n 0 0) ≠ fullN n := fun h' => by
      have := ((tb 0).1 (by rw [h', fullN_tb]; exact decide_eq_true (by omega))).2
      exact this .here
     refine (cutB_iff h.q.hA h.q.hB).2 ⟨by omega, by have hfe : fullN n = 2 ^ n - 1 := rfl; omega, fun i hi hb => ?_⟩
     refine (tb _).2 ⟨h.q.hA i hi, fun hw => ((tb _).1 hb).2 (.step hw hi rfl)⟩
    rw [hc _] at hc1
    cases hc1
   ·refine Classical.byContradiction fun hno => ?_
    have hwl := wk_lt (A := B) h.q.hA n 0 0 hp (show 0 < n by omega)
    have tb : ∀ i, (wk B A m n 0 0).testBit i = true ↔ Way B A m 0 i := fun i => wk_iff h.q.hA (by omega) i
    have hc1 : cutB n m A B (wk B A m n 0 0) = true := by
     have hne : wk B A m n 0 0 ≠ 0 := fun h' => by
      have := (tb 0).2 .here
      rw [h', Nat.zero_testBit] at this
      cases this
     have hnf : wk B A m n 0 0 ≠ fullN n := fun h' => hno ((tb j).1 (by rw [h', fullN_tb]; exact decide_eq_true (by omega)))
     refine (cutB_iff h.q.hA h.q.hB).2 ⟨by omega, by have hfe : fullN n = 2 ^ n - 1 := rfl; omega, fun i hi hb => ?_⟩
     exact (tb _).2 (.step ((tb _).1 hb) hi rfl)
    rw [hc _] at hc1
    cases hc1
 constructor
 ·intro h1
  refine key.1 (Classical.byContradiction fun h3 => ?_)
  have := o2 h3
  omega
 ·intro h1
  rw [o1 (key.2 h1)]
  rfl
/-- Connected, in words. -/
theorem con_iff {n m : Nat} {A B : Nat → Nat} (hA : ∀ j, j < m → A j < n) (hB : ∀ j, j < m → B j < n) (hn : 0 < n) : conB n m A B = true ↔ ∀ i, i < n → Rch A B m true 0 i := by
 have e : conB n m A B = decide (rcN n m A B true 0 = fullN n) := by
  unfold conB rcN
  rw [if_pos rfl, Bool.eq_iff_iff, beq_iff_eq, decide_eq_true_iff]
  omega
 rw [e, decide_eq_true_iff]
 refine ⟨fun h i hi => (rcN_iff hA hB hn i).1 (by rw [h, fullN_tb]; exact decide_eq_true hi), fun h => Nat.eq_of_testBit_eq fun i => ?_⟩
 rw [fullN_tb]
 by_cases hi : i < n
 ·rw [(rcN_iff hA hB hn i).2 (h i hi), decide_eq_true hi]
 ·rw [tb_big (rcN_lt hA hB hn) (by omega), decide_eq_false hi]
theorem rch_more {A B A' B' : Nat → Nat} {m m' c i : Nat} {b : Bool} (hm : m ≤ m') (hA : ∀ j, j < m → A' j = A j) (hB : ∀ j, j < m → B' j = B j) (h : Rch A B m b c i) : Rch A' B' m' b c i := by
 induction h with
 | here => exact .here
 | @fwd u j _ hj hu ih =>
  rw [← hB j hj]
  exact .fwd ih (by omega) (by rw [hA j hj]; exact hu)
 | @bwd u j _ hj hu hb ih =>
  rw [← hA j hj]
  exact .bwd ih (by omega) (by rw [hB j hj]; exact hu) hb
/-- The quarter with a list's streets opened is right. -/
theorem bo_ok {n m : Nat} {A B : Nat → Nat} (h : Qok n m A B) {l : List Int} (hl : asB m l l.length = true) (hml : m + l.length ≤ 14) : Qok n (m + l.length) (boF m A B l) (boF m B A l) := by
 have idx : ∀ k, k < l.length → (l.getD k 0).toNat < m := fun k hk => by
  have := asP_iff.1 (allB_iff.1 hl k hk)
  omega
 have hA : ∀ j, j < m + l.length → boF m A B l j < n := fun j hj => by
  by_cases hjm : j < m
  ·rw [boF_lo hjm]; exact h.q.hA j hjm
  ·obtain ⟨k, rfl⟩ : ∃ k, j = m + k := ⟨j - m, by omega⟩
   rw [boF_hi (by omega)]; exact h.q.hB _ (idx k (by omega))
 have hB : ∀ j, j < m + l.length → boF m B A l j < n := fun j hj => by
  by_cases hjm : j < m
  ·rw [boF_lo hjm]; exact h.q.hB j hjm
  ·obtain ⟨k, rfl⟩ : ∃ k, j = m + k := ⟨j - m, by omega⟩
   rw [boF_hi (by omega)]; exact h.q.hA _ (idx k (by omega))
 refine ⟨⟨h.q.lo, h.q.hi, hml, hA, hB⟩, fun j hj => ?_, ?_, boF_cl m A B l, boF_cl m B A l⟩
 ·by_cases hjm : j < m
  ·rw [boF_lo hjm, boF_lo hjm]; exact h.ne j hjm
  ·obtain ⟨k, rfl⟩ : ∃ k, j = m + k := ⟨j - m, by omega⟩
   rw [boF_hi (by omega), boF_hi (by omega)]; exact (h.ne _ (idx k (by omega))).symm
 ·have h2 := h.q.lo
  refine (con_iff hA hB (by omega)).2 fun i hi => ?_
  exact rch_more (Nat.le_add_right _ _) (fun j hj => boF_lo hj) (fun j hj => boF_lo hj) (con_full h hi)
/-- A list is a mend exactly if there is no cut where its streets are opened. -/
theorem bo_mend {n m : Nat} {A B : Nat → Nat} (h : Qok n m A B) {l : List Int} (hl : asB m l l.length = true) (hml : m + l.length ≤ 14) : imB n m A B l = true ↔ (cutL n (m + l.length) (boF m A B l) (boF m B A l) (fullN n)).length = 0 := by
 have hq := (bo_ok h hl hml).q
 have idx : ∀ k, k < l.length → ∃ t : Nat, l.getD k 0 = t ∧ t < m := fun k hk => by
  have := asP_iff.1 (allB_iff.1 hl k hk)
  exact ⟨(l.getD k 0).toNat, by omega, by omega⟩
 rw [no_cut]
 refine ⟨fun hm s => ?_, fun hc => ?_⟩
 ·cases hb : cutB n (m + l.length) (boF m A B l) (boF m B A l) s with
  | false => rfl
  | true =>
   have hs := (cutB_iff hq.hA hq.hB).1 hb
   have hs2 : cutB n m A B s = true := (cutB_iff h.q.hA h.q.hB).2 ⟨hs.1, hs.2.1, fun j hj => by
    have := hs.2.2 j (by omega)
    rwa [boF_lo hj, boF_lo hj] at this⟩
   obtain ⟨t, j, h1, h2, h3, h4, h5⟩ := mend_meets hm hs2
   have := hs.2.2 (m + j) (by omega)
   rw [boF_hi h4, boF_hi h4, h5, Int.toNat_natCast, h2, h3] at this
   cases this rfl
 ·unfold imB
  rw [hl, Bool.true_and]
  refine allB_iff.2 fun q hq' => ?_
  obtain ⟨s, _, hs, he⟩ := cutL_nat hq'
  rw [he, Int.toNat_natCast, Bool.not_eq_true', beq_eq_false_iff_ne]
  intro h0
  have hs1 := (cutB_iff h.q.hA h.q.hB).1 hs
  have : cutB n (m + l.length) (boF m A B l) (boF m B A l) s = true := (cutB_iff hq.hA hq.hB).2 ⟨hs1.1, hs1.2.1, fun j hj => by
   by_cases hjm : j < m
   ·rw [boF_lo hjm, boF_lo hjm]; exact hs1.2.2 j hjm
   ·obtain ⟨k, rfl⟩ : ∃ k, j = m + k := ⟨j - m, by omega⟩
    obtain ⟨t, ht, htm⟩ := idx k (by omega)
    rw [boF_hi (by omega), boF_hi (by omega), ht, Int.toNat_natCast]
    intro ha
    have h1 := eq0_iff.1 h0 t
    rw [Nat.testBit_and, lvS_tb, (stO_tb l t l.length).2 ⟨k, by omega, by omega⟩, ha] at h1
    simpa [htm] using h1⟩
  rw [hc s] at this
  cases this
end Go.Tri
