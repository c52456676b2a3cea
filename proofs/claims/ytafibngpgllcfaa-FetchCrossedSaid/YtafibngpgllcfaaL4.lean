/-
 LAW: FetchCrossed.
-/
import Derived.Test.YtafibngpgllcfaaM6
import Derived.Test.YtafibngpgllcfaaB23
import Derived.Test.YtafibngpgllcfaaE1
namespace Go.Tri
open Go.Proofs

theorem nofrX {n x : Int} {m : Nat} {A B : Nat → Int} {a : List Int} : ∀ v ∈ [V.int n, stV false m A B, V.ints false a, V.lit (.int .u8 x)], NoFr v := by intro v hv; simp at hv; rcases hv with rfl | rfl | rfl | rfl; exact nofrInt; exact nofrS; rfl; trivial
set_option maxRecDepth 100000 in
theorem FetchCrossed_bad {n : Int} {m : Nat} {A B : Nat → Int} (l : List Int) (x : Int) (h : ¬ ((m ≤ 40 ∧ l.length ≤ 60) ∧ ckE n m A B = 0)) : APure Try.prog 11 [.int n, stV false m A B, .ints false l, .lit (.int .u8 x)] (fun R => R = .bool true) := by
 refine APure_of (X := cx 212) (cx_ok 212) rfl (rs := [(.tmp 8, 4)]) Try.func11 (by decide) rfl rfl rfl (by simp [cx]) (nofrX) ?_
 intro hlen
 have fin := alive_pure
 have c0 := few_pure m A B l
 have c1 := Quarter_pure n m A B
 ((conv=>whnf);repeat (refine Wa ?_;(repeat (first|refine Wb ?_|refine Wc ?_|refine Wd ?_|refine We ?_|refine Wf ?_));(conv=>whnf)))
 refine APure.to (APure.arg2 subS (Sub.refl _) c0) ?_
 ((conv=>whnf);repeat (refine Wa ?_;(repeat (first|refine Wb ?_|refine Wc ?_|refine Wd ?_|refine We ?_|refine Wf ?_));(conv=>whnf)))
 by_cases hm : m ≤ 40 ∧ l.length ≤ 60
 ·rw [decide_eq_true hm]
  ((conv=>whnf);repeat (refine Wa ?_;(repeat (first|refine Wb ?_|refine Wc ?_|refine Wd ?_|refine We ?_|refine Wf ?_));(conv=>whnf)))
  refine APure.to (APure.arg2 (Sub.refl _) subS c1) ?_
  ((conv=>whnf);repeat (refine Wa ?_;(repeat (first|refine Wb ?_|refine Wc ?_|refine Wd ?_|refine We ?_|refine Wf ?_));(conv=>whnf)))
  refine br_ne (fun _ => ?_) (fun h' => absurd ⟨hm, h'⟩ h)
  ((conv=>whnf);repeat (refine Wa ?_;(repeat (first|refine Wb ?_|refine Wc ?_|refine Wd ?_|refine We ?_|refine Wf ?_));(conv=>whnf)))
  refine APure.to fin ?_
  ((conv=>whnf);repeat (refine Wa ?_;(repeat (first|refine Wb ?_|refine Wc ?_|refine Wd ?_|refine We ?_|refine Wf ?_));(conv=>whnf)))
  exact ⟨trivial, rfl⟩
 ·rw [decide_eq_false hm]
  ((conv=>whnf);repeat (refine Wa ?_;(repeat (first|refine Wb ?_|refine Wc ?_|refine Wd ?_|refine We ?_|refine Wf ?_));(conv=>whnf)))
  refine APure.to fin ?_
  ((conv=>whnf);repeat (refine Wa ?_;(repeat (first|refine Wb ?_|refine Wc ?_|refine Wd ?_|refine We ?_|refine Wf ?_));(conv=>whnf)))
  exact ⟨trivial, rfl⟩
set_option maxRecDepth 100000 in
set_option maxHeartbeats 1600000 in
theorem FetchCrossed_good {n m : Nat} {A B : Nat → Nat} (h : Qok n m A B) (l : List Int) (hl : l.length ≤ 60) (x : Int) (hx : 0 ≤ x ∧ x ≤ 255) : APure Try.prog 11 [.int n, stV false m (fun j => A j) (fun j => B j), .ints false l, .lit (.int .u8 x)] (fun R => R = .bool true) := by
 refine APure_of (X := cx 212) (cx_ok 212) rfl (rs := [(.tmp 8, 4)]) Try.func11 (by decide) rfl rfl rfl (by simp [cx]) (nofrX) ?_
 intro hlen
 have fin := alive_pure
 have hm := h.q.sm
 have h7 := h.q.hi
 have c0 := few_pure m (fun j => A j) (fun j => B j) l
 rw [decide_eq_true (show m ≤ 40 ∧ l.length ≤ 60 by omega)] at c0
 have c1 := Quarter_pure n m (fun j => A j) (fun j => B j)
 rw [ckE_ok h] at c1
 have c2 := Smallest_pure h
 have c3 := Cuts_pure h
 have c4 := IsMend_pure h l
 have hLn : ∀ j, j < (cutL n m A B (fullN n)).length → ∃ s : Nat, s < fullN n ∧ cutB n m A B s = true ∧ (cutL n m A B (fullN n)).getD j 0 = s := fun j hj => cutL_nat hj
 have hLa := cutL_asc (n := n) (m := m) (A := A) (B := B) (fullN n)
 have hLp := cutL_pos (n := n) (m := m) (A := A) (B := B) (k := fullN n)
 have hll := cutL_len (n := n) (m := m) (A := A) (B := B) (fullN n)
 have hMd : ∀ a, imB n m A B l = true → cutB n m A B a = true → ∃ (t : Nat) (j : Nat), t < m ∧ a.testBit (A t) = true ∧ a.testBit (B t) = false ∧ j < l.length ∧ l.getD j 0 = t := fun a h1 h2 => mend_meets h1 h2
 obtain ⟨L, hLe⟩ : ∃ L, cutL n m A B (fullN n) = L := ⟨_, rfl⟩
 rw [hLe] at c2 c3 hLn hLa hLp hll
 obtain ⟨im, him⟩ : ∃ im, imB n m A B l = im := ⟨_, rfl⟩
 rw [him] at c4 hMd
 have hf := full_le h.q.hi
 by_cases h0 : L.length = 0
 ·obtain ⟨g, hg⟩ : ∃ g : Int, g = 10 := ⟨_, rfl⟩
  rw [show smV m A B L = tup3 (.int 0) (.int 0) (.int g) by rw [List.eq_nil_of_length_eq_zero h0, hg]; rfl] at c2
  ((conv=>whnf);repeat (refine Wa ?_;(repeat (first|refine Wb ?_|refine Wc ?_|refine Wd ?_|refine We ?_|refine Wf ?_));(conv=>whnf)))
  refine APure.to (APure.arg2 subS (Sub.refl _) c0) ?_
  ((conv=>whnf);repeat (refine Wa ?_;(repeat (first|refine Wb ?_|refine Wc ?_|refine Wd ?_|refine We ?_|refine Wf ?_));(conv=>whnf)))
  refine APure.to (APure.arg2 (Sub.refl _) subS c1) ?_
  ((conv=>whnf);repeat (refine Wa ?_;(repeat (first|refine Wb ?_|refine Wc ?_|refine Wd ?_|refine We ?_|refine Wf ?_));(conv=>whnf)))
  refine APure.to (APure.arg2 (Sub.refl _) subS c2) ?_
  ((conv=>whnf);repeat (refine Wa ?_;(repeat (first|refine Wb ?_|refine Wc ?_|refine Wd ?_|refine We ?_|refine Wf ?_));(conv=>whnf)))
  refine APure.to (APure.arg2 (Sub.refl _) subS c3) ?_
  ((conv=>whnf);repeat (refine Wa ?_;(repeat (first|refine Wb ?_|refine Wc ?_|refine Wd ?_|refine We ?_|refine Wf ?_));(conv=>whnf)))
  refine APure.to (APure.arg3 (Sub.refl _) subS (Sub.refl _) c4) ?_
  ((conv=>whnf);repeat (refine Wa ?_;(repeat (first|refine Wb ?_|refine Wc ?_|refine Wd ?_|refine We ?_|refine Wf ?_));(conv=>whnf)))
  rw [show ((g == 0) == decide ((L.length : Int) > 0)) = true by rw [hg, h0]; rfl]
  ((conv=>whnf);repeat (refine Wa ?_;(repeat (first|refine Wb ?_|refine Wc ?_|refine Wd ?_|refine We ?_|refine Wf ?_));(conv=>whnf)))
  refine br_ne (fun _ => ?_) (fun h => by rw [hg] at h; exact absurd h (by decide))
  ((conv=>whnf);repeat (refine Wa ?_;(repeat (first|refine Wb ?_|refine Wc ?_|refine Wd ?_|refine We ?_|refine Wf ?_));(conv=>whnf)))
  refine br_ne (fun h => absurd hg h) (fun _ => ?_)
  ((conv=>whnf);repeat (refine Wa ?_;(repeat (first|refine Wb ?_|refine Wc ?_|refine Wd ?_|refine We ?_|refine Wf ?_));(conv=>whnf)))
  refine br_ne (fun _ => ?_) (fun h => by rw [hg] at h; exact absurd h (by decide))
  ((conv=>whnf);repeat (refine Wa ?_;(repeat (first|refine Wb ?_|refine Wc ?_|refine Wd ?_|refine We ?_|refine Wf ?_));(conv=>whnf)))
  refine ⟨inr (by omega), ?_⟩
  ((conv=>whnf);repeat (refine Wa ?_;(repeat (first|refine Wb ?_|refine Wc ?_|refine Wd ?_|refine We ?_|refine Wf ?_));(conv=>whnf)))
  refine APure.to fin ?_
  ((conv=>whnf);repeat (refine Wa ?_;(repeat (first|refine Wb ?_|refine Wc ?_|refine Wd ?_|refine We ?_|refine Wf ?_));(conv=>whnf)))
  exact ⟨trivial, rfl⟩
 obtain ⟨i0, hi0, s2, s1, hmin⟩ := smF_min (m := m) (A := A) (B := B) hLp (L.length - 1) (by omega)
 rw [show L.length - 1 + 1 = L.length by omega] at hi0 s2 s1 hmin
 obtain ⟨s, _, hs1, hs2⟩ := hLn i0 hi0
 rw [show smV m A B L = tup3 (.int (szC m A B (L.getD i0 0) : Nat)) (.int s) (.int 0) by unfold smV; rw [if_neg (by rw [s2]; exact hLp i0 hi0), s1, s2, hs2]] at c2
 have c5 := Crossing_pure h s
 rw [cutZ_nat, if_pos hs1, Int.toNat_natCast] at c5
 have ix : ∀ z : Int, 0 ≤ z → ∃ i : Nat, i < L.length ∧ z.tmod L.length = i := fun z hz => by
  obtain ⟨u, rfl⟩ : ∃ u : Nat, z = u := ⟨z.toNat, by omega⟩
  exact ⟨u % L.length, Nat.mod_lt _ (by omega), rfl⟩
 obtain ⟨i, hi, hie⟩ := ix x hx.1
 obtain ⟨a, ha1, ha2, ha3⟩ := hLn i hi
 have c6 := Crossing_pure h a
 rw [cutZ_nat, if_pos ha2, Int.toNat_natCast] at c6
 have q1 : szC m A B (L.getD i0 0) = (mbL (lvS A B s m) 14).length := by unfold szC; rw [hs2, Int.toNat_natCast, mbL_ct]
 have q2 : szC m A B (L.getD i 0) = (mbL (lvS A B a m) 14).length := by unfold szC; rw [ha3, Int.toNat_natCast, mbL_ct]
 have q3 := hmin i hi
 obtain ⟨u, hu1, hu2, hu3⟩ := cut_street h hs1
 obtain ⟨_, hcs⟩ := cross_get h.q s
 obtain ⟨u', hu', _⟩ := hcs u hu1 hu2 hu3
 obtain ⟨hY, hYc⟩ := cross_get h.q a
 have hfin : im = true → ∃ i j, i < (mbL (lvS A B a m) 14).length ∧ j < l.length ∧ l.getD j 0 = (mbL (lvS A B a m) 14).getD i 0 := fun hi => by
  obtain ⟨t, j, h1, h2, h3, h4, h5⟩ := hMd a hi ha2
  obtain ⟨i, hi, he⟩ := hYc t h1 h2 h3
  exact ⟨i, j, hi, h4, by rw [h5, he]⟩
 have hYl := mbL_len (lvS A B a m) 14
 rw [q1] at c2
 obtain ⟨X, hX⟩ : ∃ X, mbL (lvS A B s m) 14 = X := ⟨_, rfl⟩
 obtain ⟨Y, hYe⟩ : ∃ Y, mbL (lvS A B a m) 14 = Y := ⟨_, rfl⟩
 rw [hX] at c2 c5 q1 hu'
 rw [hYe] at c6 q2 hY hfin hYl
 ((conv=>whnf);repeat (refine Wa ?_;(repeat (first|refine Wb ?_|refine Wc ?_|refine Wd ?_|refine We ?_|refine Wf ?_));(conv=>whnf)))
 refine APure.to (APure.arg2 subS (Sub.refl _) c0) ?_
 ((conv=>whnf);repeat (refine Wa ?_;(repeat (first|refine Wb ?_|refine Wc ?_|refine Wd ?_|refine We ?_|refine Wf ?_));(conv=>whnf)))
 refine APure.to (APure.arg2 (Sub.refl _) subS c1) ?_
 ((conv=>whnf);repeat (refine Wa ?_;(repeat (first|refine Wb ?_|refine Wc ?_|refine Wd ?_|refine We ?_|refine Wf ?_));(conv=>whnf)))
 refine APure.to (APure.arg2 (Sub.refl _) subS c2) ?_
 ((conv=>whnf);repeat (refine Wa ?_;(repeat (first|refine Wb ?_|refine Wc ?_|refine Wd ?_|refine We ?_|refine Wf ?_));(conv=>whnf)))
 refine APure.to (APure.arg2 (Sub.refl _) subS c3) ?_
 ((conv=>whnf);repeat (refine Wa ?_;(repeat (first|refine Wb ?_|refine Wc ?_|refine Wd ?_|refine We ?_|refine Wf ?_));(conv=>whnf)))
 refine APure.to (APure.arg3 (Sub.refl _) subS (Sub.refl _) c4) ?_
 ((conv=>whnf);repeat (refine Wa ?_;(repeat (first|refine Wb ?_|refine Wc ?_|refine Wd ?_|refine We ?_|refine Wf ?_));(conv=>whnf)))
 rw [show (((0 : Int) == 0) == decide ((L.length : Int) > 0)) = true by rw [decide_eq_true (show (L.length : Int) > 0 by omega)]; rfl]
 ((conv=>whnf);repeat (refine Wa ?_;(repeat (first|refine Wb ?_|refine Wc ?_|refine Wd ?_|refine We ?_|refine Wf ?_));(conv=>whnf)))
 refine ⟨inr (by omega), ?_⟩
 ((conv=>whnf);repeat (refine Wa ?_;(repeat (first|refine Wb ?_|refine Wc ?_|refine Wd ?_|refine We ?_|refine Wf ?_));(conv=>whnf)))
 refine ⟨(show (L.length : Int) ≠ 0 by omega), ?_⟩
 rw [hie]
 ((conv=>whnf);repeat (refine Wa ?_;(repeat (first|refine Wb ?_|refine Wc ?_|refine Wd ?_|refine We ?_|refine Wf ?_));(conv=>whnf)))
 repeat ((first | refine ⟨by omega, ?_⟩ | refine ⟨inr (by omega), ?_⟩ | refine eqn_self ?_ | refine ⟨ms (by omega), ?_⟩ | refine ⟨ms (by simp only [Src.n]; omega), ?_⟩ | refine ⟨msk (by omega), ?_⟩ | refine ⟨ms1, ?_⟩); ((conv=>whnf);repeat (refine Wa ?_;(repeat (first|refine Wb ?_|refine Wc ?_|refine Wd ?_|refine We ?_|refine Wf ?_));(conv=>whnf))))
 rw [Int.toNat_natCast, ha3]
 refine APure.to (APure.arg3 (Sub.refl _) subS (Sub.refl _) c5) ?_
 ((conv=>whnf);repeat (refine Wa ?_;(repeat (first|refine Wb ?_|refine Wc ?_|refine Wd ?_|refine We ?_|refine Wf ?_));(conv=>whnf)))
 refine APure.to (APure.arg3 (Sub.refl _) subS (Sub.refl _) c6) ?_
 ((conv=>whnf);repeat (refine Wa ?_;(repeat (first|refine Wb ?_|refine Wc ?_|refine Wd ?_|refine We ?_|refine Wf ?_));(conv=>whnf)))
 refine br_ne (fun h => absurd rfl h) (fun _ => ?_)
 ((conv=>whnf);repeat (refine Wa ?_;(repeat (first|refine Wb ?_|refine Wc ?_|refine Wd ?_|refine We ?_|refine Wf ?_));(conv=>whnf)))
 refine br_dec (fun h1 => absurd (show (X.length : Int) < 1 from h1) (by omega)) (fun _ => ?_)
 ((conv=>whnf);repeat (refine Wa ?_;(repeat (first|refine Wb ?_|refine Wc ?_|refine Wd ?_|refine We ?_|refine Wf ?_));(conv=>whnf)))
 refine br_dec (fun h1 => absurd (show (Y.length : Int) < X.length from h1) (by omega)) (fun _ => ?_)
 ((conv=>whnf);repeat (refine Wa ?_;(repeat (first|refine Wb ?_|refine Wc ?_|refine Wd ?_|refine We ?_|refine Wf ?_));(conv=>whnf)))
 refine br_eq (fun h1 => ?_) (fun _ => ?_)
 ·have h1 : (Y.length : Int) = X.length := h1
  ((conv=>whnf);repeat (refine Wa ?_;(repeat (first|refine Wb ?_|refine Wc ?_|refine Wd ?_|refine We ?_|refine Wf ?_));(conv=>whnf)))
  refine br_dec (fun h2 => ?_) (fun _ => ?_)
  ·have h2 : (a : Int) < s := h2
   have h3 := q3.2 (by omega)
   by_cases h4 : i0 = i
   ·rw [h4, ha3] at hs2
    omega
   ·have := hLa i0 i (by omega) hi
    omega
  ((conv=>whnf);repeat (refine Wa ?_;(repeat (first|refine Wb ?_|refine Wc ?_|refine Wd ?_|refine We ?_|refine Wf ?_));(conv=>whnf)))
  refine AW_loop (X := cx 212) (cx_ok 212) [1, 2, 14, 16, 18, 19] (fun vs M => ∃ k : Nat, k ≤ Y.length ∧ vs = [stV false m (fun j => A j) (fun j => B j), .ints false l, .bool im, .int a, .ints true Y, .int k] ∧ M = []) (fun vs _ => Y.length - (vs.getD 5 .any).toInt.toNat) ?_ ?_
  ·exact ⟨0, Nat.zero_le _, rfl, rfl⟩
  rintro vs M ⟨k, hk, rfl, rfl⟩
  ((conv=>whnf);repeat (refine Wa ?_;(repeat (first|refine Wb ?_|refine Wc ?_|refine Wd ?_|refine We ?_|refine Wf ?_));(conv=>whnf)))
  refine br_dec (fun hlt => ?_) (fun hge => ?_)
  ·have hk' : k < Y.length := by omega
   obtain ⟨t, ht, hta, htb, hte⟩ := hY k hk'
   have hAt := h.q.hA t ht
   have hBt := h.q.hB t ht
   ((conv=>whnf);repeat (refine Wa ?_;(repeat (first|refine Wb ?_|refine Wc ?_|refine Wd ?_|refine We ?_|refine Wf ?_));(conv=>whnf)))
   repeat ((first | refine ⟨by omega, ?_⟩ | refine ⟨inr (by omega), ?_⟩ | refine eqn_self ?_ | refine ⟨ms (by omega), ?_⟩ | refine ⟨ms (by simp only [Src.n]; omega), ?_⟩ | refine ⟨msk (by omega), ?_⟩ | refine ⟨ms1, ?_⟩); ((conv=>whnf);repeat (refine Wa ?_;(repeat (first|refine Wb ?_|refine Wc ?_|refine Wd ?_|refine We ?_|refine Wf ?_));(conv=>whnf))))
   rw [Int.toNat_natCast]
   refine br_dec (fun h1 => ?_) (fun _ => ?_)
   ·exact absurd (show Y.getD k 0 < 0 from h1) (by omega)
   ((conv=>whnf);repeat (refine Wa ?_;(repeat (first|refine Wb ?_|refine Wc ?_|refine Wd ?_|refine We ?_|refine Wf ?_));(conv=>whnf)))
   repeat ((first | refine ⟨by omega, ?_⟩ | refine ⟨inr (by omega), ?_⟩ | refine eqn_self ?_ | refine ⟨ms (by omega), ?_⟩ | refine ⟨ms (by simp only [Src.n]; omega), ?_⟩ | refine ⟨msk (by omega), ?_⟩ | refine ⟨ms1, ?_⟩); ((conv=>whnf);repeat (refine Wa ?_;(repeat (first|refine Wb ?_|refine Wc ?_|refine Wd ?_|refine We ?_|refine Wf ?_));(conv=>whnf))))
   rw [Int.toNat_natCast]
   refine br_dec (fun h1 => ?_) (fun _ => ?_)
   ·exact absurd (show Y.getD k 0 ≥ m from h1) (by omega)
   ((conv=>whnf);repeat (refine Wa ?_;(repeat (first|refine Wb ?_|refine Wc ?_|refine Wd ?_|refine We ?_|refine Wf ?_));(conv=>whnf)))
   repeat ((first | refine ⟨by omega, ?_⟩ | refine ⟨inr (by omega), ?_⟩ | refine eqn_self ?_ | refine ⟨ms (by omega), ?_⟩ | refine ⟨ms (by simp only [Src.n]; omega), ?_⟩ | refine ⟨msk (by omega), ?_⟩ | refine ⟨ms1, ?_⟩); ((conv=>whnf);repeat (refine Wa ?_;(repeat (first|refine Wb ?_|refine Wc ?_|refine Wd ?_|refine We ?_|refine Wf ?_));(conv=>whnf))))
   rw [Int.toNat_natCast, hte]
   refine ⟨by omega, ?_⟩
   refine ⟨(show (t : Int) < m by omega), ?_⟩
   rw [Int.toNat_natCast]
   ((conv=>whnf);repeat (refine Wa ?_;(repeat (first|refine Wb ?_|refine Wc ?_|refine Wd ?_|refine We ?_|refine Wf ?_));(conv=>whnf)))
   refine ⟨(show (0 : Int) ≤ (A t : Int) by omega), ?_⟩
   rw [show (a : Int).fdiv (2 ^ min ((fun j => (A j : Int)) t).toNat IntKind.i64.bits) = _ from shrN (s := a) (i := A t) (by omega)]
   ((conv=>whnf);repeat (refine Wa ?_;(repeat (first|refine Wb ?_|refine Wc ?_|refine Wd ?_|refine We ?_|refine Wf ?_));(conv=>whnf)))
   refine ⟨by decide, ?_⟩
   rw [tmI, hta]
   ((conv=>whnf);repeat (refine Wa ?_;(repeat (first|refine Wb ?_|refine Wc ?_|refine Wd ?_|refine We ?_|refine Wf ?_));(conv=>whnf)))
   repeat ((first | refine ⟨by omega, ?_⟩ | refine ⟨inr (by omega), ?_⟩ | refine eqn_self ?_ | refine ⟨ms (by omega), ?_⟩ | refine ⟨ms (by simp only [Src.n]; omega), ?_⟩ | refine ⟨msk (by omega), ?_⟩ | refine ⟨ms1, ?_⟩); ((conv=>whnf);repeat (refine Wa ?_;(repeat (first|refine Wb ?_|refine Wc ?_|refine Wd ?_|refine We ?_|refine Wf ?_));(conv=>whnf))))
   rw [Int.toNat_natCast, hte]
   refine ⟨by omega, ?_⟩
   refine ⟨(show (t : Int) < m by omega), ?_⟩
   rw [Int.toNat_natCast]
   ((conv=>whnf);repeat (refine Wa ?_;(repeat (first|refine Wb ?_|refine Wc ?_|refine Wd ?_|refine We ?_|refine Wf ?_));(conv=>whnf)))
   refine ⟨(show (0 : Int) ≤ (B t : Int) by omega), ?_⟩
   rw [show (a : Int).fdiv (2 ^ min ((fun j => (B j : Int)) t).toNat IntKind.i64.bits) = _ from shrN (s := a) (i := B t) (by omega)]
   ((conv=>whnf);repeat (refine Wa ?_;(repeat (first|refine Wb ?_|refine Wc ?_|refine Wd ?_|refine We ?_|refine Wf ?_));(conv=>whnf)))
   refine ⟨by decide, ?_⟩
   rw [tmI, htb]
   ((conv=>whnf);repeat (refine Wa ?_;(repeat (first|refine Wb ?_|refine Wc ?_|refine Wd ?_|refine We ?_|refine Wf ?_));(conv=>whnf)))
   refine ⟨inr (by omega), ?_⟩
   ((conv=>whnf);repeat (refine Wa ?_;(repeat (first|refine Wb ?_|refine Wc ?_|refine Wd ?_|refine We ?_|refine Wf ?_));(conv=>whnf)))
   exact ⟨⟨k + 1, hk', rfl, rfl⟩, by simp [V.toInt, sel, Env.get]; omega⟩
  ·obtain rfl : k = Y.length := by omega
   ((conv=>whnf);repeat (refine Wa ?_;(repeat (first|refine Wb ?_|refine Wc ?_|refine Wd ?_|refine We ?_|refine Wf ?_));(conv=>whnf)))
   cases im with
   | false =>
    ((conv=>whnf);repeat (refine Wa ?_;(repeat (first|refine Wb ?_|refine Wc ?_|refine Wd ?_|refine We ?_|refine Wf ?_));(conv=>whnf)))
    refine APure.to fin ?_
    ((conv=>whnf);repeat (refine Wa ?_;(repeat (first|refine Wb ?_|refine Wc ?_|refine Wd ?_|refine We ?_|refine Wf ?_));(conv=>whnf)))
    exact ⟨trivial, rfl⟩
   | true =>
    ((conv=>whnf);repeat (refine Wa ?_;(repeat (first|refine Wb ?_|refine Wc ?_|refine Wd ?_|refine We ?_|refine Wf ?_));(conv=>whnf)))
    refine AW_loop (X := cx 212) (cx_ok 212) [2, 18, 20] (fun vs M => ∃ k : Nat, k ≤ Y.length ∧ (∀ i j, i < k → j < l.length → l.getD j 0 ≠ Y.getD i 0) ∧ vs = [.ints false l, .ints true Y, .int k] ∧ M = []) (fun vs _ => Y.length - (vs.getD 2 .any).toInt.toNat) ?_ ?_
    ·exact ⟨0, Nat.zero_le _, fun i j h => absurd h (Nat.not_lt_zero _), rfl, rfl⟩
    rintro vs M ⟨k, hk, hno, rfl, rfl⟩
    ((conv=>whnf);repeat (refine Wa ?_;(repeat (first|refine Wb ?_|refine Wc ?_|refine Wd ?_|refine We ?_|refine Wf ?_));(conv=>whnf)))
    refine br_dec (fun hlt => ?_) (fun hge => ?_)
    ·have hk' : k < Y.length := by omega
     ((conv=>whnf);repeat (refine Wa ?_;(repeat (first|refine Wb ?_|refine Wc ?_|refine Wd ?_|refine We ?_|refine Wf ?_));(conv=>whnf)))
     refine AW_loop (X := cx 212) (cx_ok 212) [2, 18, 20, 21] (fun vs M => ∃ q : Nat, q ≤ l.length ∧ (∀ j, j < q → l.getD j 0 ≠ Y.getD k 0) ∧ vs = [.ints false l, .ints true Y, .int k, .int q] ∧ M = []) (fun vs _ => l.length - (vs.getD 3 .any).toInt.toNat) ?_ ?_
     ·exact ⟨0, Nat.zero_le _, fun j h => absurd h (Nat.not_lt_zero _), rfl, rfl⟩
     rintro vs M ⟨q, hq, hno2, rfl, rfl⟩
     ((conv=>whnf);repeat (refine Wa ?_;(repeat (first|refine Wb ?_|refine Wc ?_|refine Wd ?_|refine We ?_|refine Wf ?_));(conv=>whnf)))
     refine br_dec (fun hlt => ?_) (fun hge => ?_)
     ·have hq' : q < l.length := by omega
      ((conv=>whnf);repeat (refine Wa ?_;(repeat (first|refine Wb ?_|refine Wc ?_|refine Wd ?_|refine We ?_|refine Wf ?_));(conv=>whnf)))
      refine AW_draw (X := cx 212) (cx_ok 212) mixed (by kernel_rfl) ?_
      ((conv=>whnf);repeat (refine Wa ?_;(repeat (first|refine Wb ?_|refine Wc ?_|refine Wd ?_|refine We ?_|refine Wf ?_));(conv=>whnf)))
      repeat ((first | refine ⟨by omega, ?_⟩ | refine ⟨inr (by omega), ?_⟩ | refine eqn_self ?_ | refine ⟨ms (by omega), ?_⟩ | refine ⟨ms (by simp only [Src.n]; omega), ?_⟩ | refine ⟨msk (by omega), ?_⟩ | refine ⟨ms1, ?_⟩); ((conv=>whnf);repeat (refine Wa ?_;(repeat (first|refine Wb ?_|refine Wc ?_|refine Wd ?_|refine We ?_|refine Wf ?_));(conv=>whnf))))
      rw [Int.toNat_natCast, Int.toNat_natCast]
      refine br_eq (fun h1 => ?_) (fun h1 => ?_)
      ·((conv=>whnf);repeat (refine Wa ?_;(repeat (first|refine Wb ?_|refine Wc ?_|refine Wd ?_|refine We ?_|refine Wf ?_));(conv=>whnf)))
       refine APure.to fin ?_
       ((conv=>whnf);repeat (refine Wa ?_;(repeat (first|refine Wb ?_|refine Wc ?_|refine Wd ?_|refine We ?_|refine Wf ?_));(conv=>whnf)))
       exact ⟨trivial, rfl⟩
      ·have h1 : l.getD q 0 ≠ Y.getD k 0 := h1
       ((conv=>whnf);repeat (refine Wa ?_;(repeat (first|refine Wb ?_|refine Wc ?_|refine Wd ?_|refine We ?_|refine Wf ?_));(conv=>whnf)))
       refine ⟨inr (by omega), ?_⟩
       ((conv=>whnf);repeat (refine Wa ?_;(repeat (first|refine Wb ?_|refine Wc ?_|refine Wd ?_|refine We ?_|refine Wf ?_));(conv=>whnf)))
       refine ⟨⟨q + 1, hq', fun j hj => ?_, rfl, rfl⟩, by simp [V.toInt, sel, Env.get]; omega⟩
       by_cases hjq : j = q
       ·rw [hjq]; exact h1
       ·exact hno2 j (by omega)
     ·obtain rfl : q = l.length := by omega
      ((conv=>whnf);repeat (refine Wa ?_;(repeat (first|refine Wb ?_|refine Wc ?_|refine Wd ?_|refine We ?_|refine Wf ?_));(conv=>whnf)))
      refine ⟨inr (by omega), ?_⟩
      ((conv=>whnf);repeat (refine Wa ?_;(repeat (first|refine Wb ?_|refine Wc ?_|refine Wd ?_|refine We ?_|refine Wf ?_));(conv=>whnf)))
      refine ⟨⟨k + 1, hk', fun i j hi hj => ?_, rfl, rfl⟩, by simp [V.toInt, sel, Env.get]; omega⟩
      by_cases hik : i = k
      ·rw [hik]; exact hno2 j hj
      ·exact hno i j (by omega) hj
    ·obtain rfl : k = Y.length := by omega
     obtain ⟨i, j, h1, h2, h3⟩ := hfin rfl
     exact absurd h3 (hno i j h1 h2)
 ·((conv=>whnf);repeat (refine Wa ?_;(repeat (first|refine Wb ?_|refine Wc ?_|refine Wd ?_|refine We ?_|refine Wf ?_));(conv=>whnf)))
  refine AW_loop (X := cx 212) (cx_ok 212) [1, 2, 14, 16, 18, 19] (fun vs M => ∃ k : Nat, k ≤ Y.length ∧ vs = [stV false m (fun j => A j) (fun j => B j), .ints false l, .bool im, .int a, .ints true Y, .int k] ∧ M = []) (fun vs _ => Y.length - (vs.getD 5 .any).toInt.toNat) ?_ ?_
  ·exact ⟨0, Nat.zero_le _, rfl, rfl⟩
  rintro vs M ⟨k, hk, rfl, rfl⟩
  ((conv=>whnf);repeat (refine Wa ?_;(repeat (first|refine Wb ?_|refine Wc ?_|refine Wd ?_|refine We ?_|refine Wf ?_));(conv=>whnf)))
  refine br_dec (fun hlt => ?_) (fun hge => ?_)
  ·have hk' : k < Y.length := by omega
   obtain ⟨t, ht, hta, htb, hte⟩ := hY k hk'
   have hAt := h.q.hA t ht
   have hBt := h.q.hB t ht
   ((conv=>whnf);repeat (refine Wa ?_;(repeat (first|refine Wb ?_|refine Wc ?_|refine Wd ?_|refine We ?_|refine Wf ?_));(conv=>whnf)))
   repeat ((first | refine ⟨by omega, ?_⟩ | refine ⟨inr (by omega), ?_⟩ | refine eqn_self ?_ | refine ⟨ms (by omega), ?_⟩ | refine ⟨ms (by simp only [Src.n]; omega), ?_⟩ | refine ⟨msk (by omega), ?_⟩ | refine ⟨ms1, ?_⟩); ((conv=>whnf);repeat (refine Wa ?_;(repeat (first|refine Wb ?_|refine Wc ?_|refine Wd ?_|refine We ?_|refine Wf ?_));(conv=>whnf))))
   rw [Int.toNat_natCast]
   refine br_dec (fun h1 => ?_) (fun _ => ?_)
   ·exact absurd (show Y.getD k 0 < 0 from h1) (by omega)
   ((conv=>whnf);repeat (refine Wa ?_;(repeat (first|refine Wb ?_|refine Wc ?_|refine Wd ?_|refine We ?_|refine Wf ?_));(conv=>whnf)))
   repeat ((first | refine ⟨by omega, ?_⟩ | refine ⟨inr (by omega), ?_⟩ | refine eqn_self ?_ | refine ⟨ms (by omega), ?_⟩ | refine ⟨ms (by simp only [Src.n]; omega), ?_⟩ | refine ⟨msk (by omega), ?_⟩ | refine ⟨ms1, ?_⟩); ((conv=>whnf);repeat (refine Wa ?_;(repeat (first|refine Wb ?_|refine Wc ?_|refine Wd ?_|refine We ?_|refine Wf ?_));(conv=>whnf))))
   rw [Int.toNat_natCast]
   refine br_dec (fun h1 => ?_) (fun _ => ?_)
   ·exact absurd (show Y.getD k 0 ≥ m from h1) (by omega)
   ((conv=>whnf);repeat (refine Wa ?_;(repeat (first|refine Wb ?_|refine Wc ?_|refine Wd ?_|refine We ?_|refine Wf ?_));(conv=>whnf)))
   repeat ((first | refine ⟨by omega, ?_⟩ | refine ⟨inr (by omega), ?_⟩ | refine eqn_self ?_ | refine ⟨ms (by omega), ?_⟩ | refine ⟨ms (by simp only [Src.n]; omega), ?_⟩ | refine ⟨msk (by omega), ?_⟩ | refine ⟨ms1, ?_⟩); ((conv=>whnf);repeat (refine Wa ?_;(repeat (first|refine Wb ?_|refine Wc ?_|refine Wd ?_|refine We ?_|refine Wf ?_));(conv=>whnf))))
   rw [Int.toNat_natCast, hte]
   refine ⟨by omega, ?_⟩
   refine ⟨(show (t : Int) < m by omega), ?_⟩
   rw [Int.toNat_natCast]
   ((conv=>whnf);repeat (refine Wa ?_;(repeat (first|refine Wb ?_|refine Wc ?_|refine Wd ?_|refine We ?_|refine Wf ?_));(conv=>whnf)))
   refine ⟨(show (0 : Int) ≤ (A t : Int) by omega), ?_⟩
   rw [show (a : Int).fdiv (2 ^ min ((fun j => (A j : Int)) t).toNat IntKind.i64.bits) = _ from shrN (s := a) (i := A t) (by omega)]
   ((conv=>whnf);repeat (refine Wa ?_;(repeat (first|refine Wb ?_|refine Wc ?_|refine Wd ?_|refine We ?_|refine Wf ?_));(conv=>whnf)))
   refine ⟨by decide, ?_⟩
   rw [tmI, hta]
   ((conv=>whnf);repeat (refine Wa ?_;(repeat (first|refine Wb ?_|refine Wc ?_|refine Wd ?_|refine We ?_|refine Wf ?_));(conv=>whnf)))
   repeat ((first | refine ⟨by omega, ?_⟩ | refine ⟨inr (by omega), ?_⟩ | refine eqn_self ?_ | refine ⟨ms (by omega), ?_⟩ | refine ⟨ms (by simp only [Src.n]; omega), ?_⟩ | refine ⟨msk (by omega), ?_⟩ | refine ⟨ms1, ?_⟩); ((conv=>whnf);repeat (refine Wa ?_;(repeat (first|refine Wb ?_|refine Wc ?_|refine Wd ?_|refine We ?_|refine Wf ?_));(conv=>whnf))))
   rw [Int.toNat_natCast, hte]
   refine ⟨by omega, ?_⟩
   refine ⟨(show (t : Int) < m by omega), ?_⟩
   rw [Int.toNat_natCast]
   ((conv=>whnf);repeat (refine Wa ?_;(repeat (first|refine Wb ?_|refine Wc ?_|refine Wd ?_|refine We ?_|refine Wf ?_));(conv=>whnf)))
   refine ⟨(show (0 : Int) ≤ (B t : Int) by omega), ?_⟩
   rw [show (a : Int).fdiv (2 ^ min ((fun j => (B j : Int)) t).toNat IntKind.i64.bits) = _ from shrN (s := a) (i := B t) (by omega)]
   ((conv=>whnf);repeat (refine Wa ?_;(repeat (first|refine Wb ?_|refine Wc ?_|refine Wd ?_|refine We ?_|refine Wf ?_));(conv=>whnf)))
   refine ⟨by decide, ?_⟩
   rw [tmI, htb]
   ((conv=>whnf);repeat (refine Wa ?_;(repeat (first|refine Wb ?_|refine Wc ?_|refine Wd ?_|refine We ?_|refine Wf ?_));(conv=>whnf)))
   refine ⟨inr (by omega), ?_⟩
   ((conv=>whnf);repeat (refine Wa ?_;(repeat (first|refine Wb ?_|refine Wc ?_|refine Wd ?_|refine We ?_|refine Wf ?_));(conv=>whnf)))
   exact ⟨⟨k + 1, hk', rfl, rfl⟩, by simp [V.toInt, sel, Env.get]; omega⟩
  ·obtain rfl : k = Y.length := by omega
   ((conv=>whnf);repeat (refine Wa ?_;(repeat (first|refine Wb ?_|refine Wc ?_|refine Wd ?_|refine We ?_|refine Wf ?_));(conv=>whnf)))
   cases im with
   | false =>
    ((conv=>whnf);repeat (refine Wa ?_;(repeat (first|refine Wb ?_|refine Wc ?_|refine Wd ?_|refine We ?_|refine Wf ?_));(conv=>whnf)))
    refine APure.to fin ?_
    ((conv=>whnf);repeat (refine Wa ?_;(repeat (first|refine Wb ?_|refine Wc ?_|refine Wd ?_|refine We ?_|refine Wf ?_));(conv=>whnf)))
    exact ⟨trivial, rfl⟩
   | true =>
    ((conv=>whnf);repeat (refine Wa ?_;(repeat (first|refine Wb ?_|refine Wc ?_|refine Wd ?_|refine We ?_|refine Wf ?_));(conv=>whnf)))
    refine AW_loop (X := cx 212) (cx_ok 212) [2, 18, 20] (fun vs M => ∃ k : Nat, k ≤ Y.length ∧ (∀ i j, i < k → j < l.length → l.getD j 0 ≠ Y.getD i 0) ∧ vs = [.ints false l, .ints true Y, .int k] ∧ M = []) (fun vs _ => Y.length - (vs.getD 2 .any).toInt.toNat) ?_ ?_
    ·exact ⟨0, Nat.zero_le _, fun i j h => absurd h (Nat.not_lt_zero _), rfl, rfl⟩
    rintro vs M ⟨k, hk, hno, rfl, rfl⟩
    ((conv=>whnf);repeat (refine Wa ?_;(repeat (first|refine Wb ?_|refine Wc ?_|refine Wd ?_|refine We ?_|refine Wf ?_));(conv=>whnf)))
    refine br_dec (fun hlt => ?_) (fun hge => ?_)
    ·have hk' : k < Y.length := by omega
     ((conv=>whnf);repeat (refine Wa ?_;(repeat (first|refine Wb ?_|refine Wc ?_|refine Wd ?_|refine We ?_|refine Wf ?_));(conv=>whnf)))
     refine AW_loop (X := cx 212) (cx_ok 212) [2, 18, 20, 21] (fun vs M => ∃ q : Nat, q ≤ l.length ∧ (∀ j, j < q → l.getD j 0 ≠ Y.getD k 0) ∧ vs = [.ints false l, .ints true Y, .int k, .int q] ∧ M = []) (fun vs _ => l.length - (vs.getD 3 .any).toInt.toNat) ?_ ?_
     ·exact ⟨0, Nat.zero_le _, fun j h => absurd h (Nat.not_lt_zero _), rfl, rfl⟩
     rintro vs M ⟨q, hq, hno2, rfl, rfl⟩
     ((conv=>whnf);repeat (refine Wa ?_;(repeat (first|refine Wb ?_|refine Wc ?_|refine Wd ?_|refine We ?_|refine Wf ?_));(conv=>whnf)))
     refine br_dec (fun hlt => ?_) (fun hge => ?_)
     ·have hq' : q < l.length := by omega
      ((conv=>whnf);repeat (refine Wa ?_;(repeat (first|refine Wb ?_|refine Wc ?_|refine Wd ?_|refine We ?_|refine Wf ?_));(conv=>whnf)))
      refine AW_draw (X := cx 212) (cx_ok 212) mixed (by kernel_rfl) ?_
      ((conv=>whnf);repeat (refine Wa ?_;(repeat (first|refine Wb ?_|refine Wc ?_|refine Wd ?_|refine We ?_|refine Wf ?_));(conv=>whnf)))
      repeat ((first | refine ⟨by omega, ?_⟩ | refine ⟨inr (by omega), ?_⟩ | refine eqn_self ?_ | refine ⟨ms (by omega), ?_⟩ | refine ⟨ms (by simp only [Src.n]; omega), ?_⟩ | refine ⟨msk (by omega), ?_⟩ | refine ⟨ms1, ?_⟩); ((conv=>whnf);repeat (refine Wa ?_;(repeat (first|refine Wb ?_|refine Wc ?_|refine Wd ?_|refine We ?_|refine Wf ?_));(conv=>whnf))))
      rw [Int.toNat_natCast, Int.toNat_natCast]
      refine br_eq (fun h1 => ?_) (fun h1 => ?_)
      ·((conv=>whnf);repeat (refine Wa ?_;(repeat (first|refine Wb ?_|refine Wc ?_|refine Wd ?_|refine We ?_|refine Wf ?_));(conv=>whnf)))
       refine APure.to fin ?_
       ((conv=>whnf);repeat (refine Wa ?_;(repeat (first|refine Wb ?_|refine Wc ?_|refine Wd ?_|refine We ?_|refine Wf ?_));(conv=>whnf)))
       exact ⟨trivial, rfl⟩
      ·have h1 : l.getD q 0 ≠ Y.getD k 0 := h1
       ((conv=>whnf);repeat (refine Wa ?_;(repeat (first|refine Wb ?_|refine Wc ?_|refine Wd ?_|refine We ?_|refine Wf ?_));(conv=>whnf)))
       refine ⟨inr (by omega), ?_⟩
       ((conv=>whnf);repeat (refine Wa ?_;(repeat (first|refine Wb ?_|refine Wc ?_|refine Wd ?_|refine We ?_|refine Wf ?_));(conv=>whnf)))
       refine ⟨⟨q + 1, hq', fun j hj => ?_, rfl, rfl⟩, by simp [V.toInt, sel, Env.get]; omega⟩
       by_cases hjq : j = q
       ·rw [hjq]; exact h1
       ·exact hno2 j (by omega)
     ·obtain rfl : q = l.length := by omega
      ((conv=>whnf);repeat (refine Wa ?_;(repeat (first|refine Wb ?_|refine Wc ?_|refine Wd ?_|refine We ?_|refine Wf ?_));(conv=>whnf)))
      refine ⟨inr (by omega), ?_⟩
      ((conv=>whnf);repeat (refine Wa ?_;(repeat (first|refine Wb ?_|refine Wc ?_|refine Wd ?_|refine We ?_|refine Wf ?_));(conv=>whnf)))
      refine ⟨⟨k + 1, hk', fun i j hi hj => ?_, rfl, rfl⟩, by simp [V.toInt, sel, Env.get]; omega⟩
      by_cases hik : i = k
      ·rw [hik]; exact hno2 j hj
      ·exact hno i j (by omega) hj
    ·obtain rfl : k = Y.length := by omega
     obtain ⟨i, j, h1, h2, h3⟩ := hfin rfl
     exact absurd h3 (hno i j h1 h2)
theorem FetchCrossed_pure (n : Int) (m : Nat) (A B : Nat → Int) (l : List Int) (x : Int) (hx : (Lit.int .u8 x).wf = true) : APure Try.prog 11 [.int n, stV false m A B, .ints false l, .lit (.int .u8 x)] (fun R => R = .bool true) := by
 by_cases h : (m ≤ 40 ∧ l.length ≤ 60) ∧ ckE n m A B = 0
 ·obtain ⟨hn, hQ, _, _⟩ := ckE_zero h.2
  rw [hn]
  exact APure.arg4 (Sub.refl _) (subClean h.2) (Sub.refl _) (Sub.refl _) (FetchCrossed_good hQ l h.1.2 x (wf_u8 hx))
 ·exact FetchCrossed_bad l x h
end Go.Tri
