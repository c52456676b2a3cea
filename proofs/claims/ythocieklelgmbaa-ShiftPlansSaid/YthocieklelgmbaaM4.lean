/-
  WHAT IS SPARE; what a plan's size says; certificates; the best quotient.
-/
import Derived.Test.YthocieklelgmbaaB11
import Derived.Test.YthocieklelgmbaaB5
import Derived.Test.YthocieklelgmbaaB2
namespace Go.Tri
open Go.Proofs

theorem arH_hit {n : Nat} (hn : 1 ≤ n) {k x i : Nat} (hx : x < n) (hi : i < n) : arH n ((k : Int) + i) = x ↔ i = arH n ((x : Int) - k) := by
  constructor
  · intro h
    have := arH_shift hn (-(k : Int)) ((k : Int) + i)
    rw [h, show -(k : Int) + ((k : Int) + i) = (i : Int) by omega, arH_small hi] at this
    rw [show (x : Int) - k = -(k : Int) + x by omega]
    exact this.symm
  · intro h
    rw [h, arH_shift hn, show (k : Int) + ((x : Int) - k) = (x : Int) by omega, arH_small hx]
theorem hits {n long : Nat} (hn : 1 ≤ n) (hl : long ≤ n) {k x : Nat} (hx : x < n) : sm long (fun i => if arH n ((k : Int) + i) = x then (1 : Int) else 0) = if arH n ((x : Int) - k) < long then 1 else 0 := by
  by_cases h : arH n ((x : Int) - k) < long
  · rw [if_pos h, sm_one (a := arH n ((x : Int) - k)) _ h (fun i hi hne => if_neg (fun e => hne ((arH_hit hn hx (by omega)).1 e)))]
    rw [if_pos ((arH_hit hn hx (by omega)).2 rfl)]
  · rw [if_neg h]
    exact sm_zero fun i hi => if_neg fun e => h (by have := (arH_hit hn hx (by omega)).1 e; omega)
theorem spIn_get {l p S : List Int} {k : Nat} (hn : 1 ≤ l.length) (hS : S.length = l.length) (hk : k < l.length) {x : Nat} (_hx : x < l.length) :
    ∀ j, (spIn l p S k j).getD x 0 = S.getD x 0 - (if x = k then l.getD k 0 else 0) + p.getD k 0 * sm j (fun i => if arH l.length ((k : Int) + i) = x then (1 : Int) else 0) := by
  intro j
  induction j with
  | zero =>
    simp only [spIn, sm]
    rw [getD_set' _ _ _ _ (by omega)]
    by_cases h : x = k
    · subst h; rw [if_pos rfl, if_pos rfl]; omega
    · rw [if_neg h, if_neg h]; omega
  | succ j ih =>
    simp only [spIn, sm]
    have hlen := spIn_len l p S k j
    have ha := arH_lt hn ((k + j : Nat) : Int)
    rw [getD_set' _ _ _ _ (by omega)]
    rw [show ((k + j : Nat) : Int) = (k : Int) + j by omega] at *
    by_cases h : x = arH l.length ((k : Int) + j)
    · rw [if_pos h, ← h, ih, if_pos rfl, Int.mul_add, Int.mul_one]
      omega
    · rw [if_neg h, ih, if_neg (show ¬ arH l.length ((k : Int) + j) = x from fun e => h e.symm), Int.add_zero]
theorem spOut_get {l p : List Int} {long : Nat} (hn : 1 ≤ l.length) (hl : long ≤ l.length) {x : Nat} (hx : x < l.length) :
    ∀ k, k ≤ l.length → (spOut l p long k).getD x 0 = sm k (fun i => if arH l.length ((x : Int) - i) < long then p.getD i 0 else 0) - (if x < k then l.getD x 0 else 0) := by
  intro k
  induction k with
  | zero =>
    intro _
    simp [spOut, sm, List.getD, hx]
  | succ k ih =>
    intro hk
    simp only [spOut, sm]
    rw [spIn_get hn (spOut_len l p long k) (by omega) hx, hits hn hl hx, ih (by omega)]
    by_cases h : x = k
    · subst h
      rw [if_pos rfl, if_neg (show ¬ x < x by omega), if_pos (show x < x + 1 by omega)]
      by_cases hc : arH l.length ((x : Int) - x) < long
      · rw [if_pos hc, if_pos hc, Int.mul_one]; omega
      · rw [if_neg hc, if_neg hc, Int.mul_zero]; omega
    · rw [if_neg h]
      have e : (if x < k + 1 then l.getD x 0 else 0) = if x < k then l.getD x 0 else 0 := by
        by_cases h2 : x < k
        · rw [if_pos h2, if_pos (by omega)]
        · rw [if_neg h2, if_neg (by omega)]
      rw [e]
      by_cases hc : arH l.length ((x : Int) - k) < long
      · rw [if_pos hc, if_pos hc, Int.mul_one]; omega
      · rw [if_neg hc, if_neg hc, Int.mul_zero]; omega
theorem spare_cov {l p : List Int} {long : Nat} (hn : 1 ≤ l.length) (hl : long ≤ l.length) {x : Nat} (hx : x < l.length) : (spOut l p long l.length).getD x 0 = cov l.length long (fun i => p.getD i 0) x - l.getD x 0 := by
  rw [spOut_get hn hl hx _ (Nat.le_refl _), if_pos hx]
  rfl
/-- A plan is judged to be enough exactly if it is. -/
theorem enough_iff {l p : List Int} {long : Nat} (hn : 1 ≤ l.length) (hl : long ≤ l.length) (hp : isPl l.length p) : 0 ≤ minL (spOut l p long l.length) l.length ↔ IsFea l long (sumL p p.length) (fun i => p.getD i 0) := by
  rw [minL_ge _ _ _ hn]
  constructor
  · intro h
    refine ⟨fun i hi => (hp.2 i (by rw [hp.1]; exact hi)).1, by rw [hp.1, sumL_sm], fun y hy => ?_⟩
    have := h y hy
    rw [spare_cov hn hl hy] at this
    omega
  · intro h y hy
    rw [spare_cov hn hl hy]
    have := h.enough y hy
    omega

/-- The plan of a size. -/
theorem plnL_len (l : List Int) (long T : Int) : (plnL l long T).length = l.length := plL_len _ _ _ _
theorem plnL_get {l : List Int} {long T : Int} {q : Nat} (hq : q < l.length) : (plnL l long T).getD q 0 = plP l.length T (stT l long T) q := by
  unfold plnL
  rw [plL_get hq, if_pos hq]
theorem stT_val {l : List Int} {long T : Int} {q : Nat} (hq : q < 12) : stT l long T q = rdT l long T l.length q := by
  unfold stT rdF
  rw [if_pos (by omega)]
  congr 1 <;> omega
theorem plP_congr {n : Nat} {T : Int} {s s' : Nat → Int} (h : ∀ q, q < n → s q = s' q) {q : Nat} (hq : q < n) : plP n T s q = plP n T s' q := by
  unfold plP
  split
  · rw [h _ (by assumption), h q hq]
  · rw [h q hq]
theorem plnL_fea {l : List Int} {long : Nat} {T : Int} (hn : Nds l) (hl1 : 1 ≤ long) (hl : long ≤ l.length) (hT : 0 ≤ T) (h : okT l long T = true) : IsFea l long T (fun i => (plnL l long T).getD i 0) := by
  have hf := meets_fea hn.1 hl (settled_zero hn.1 hn.2.1 hl1 hl hn.wide hT h) (settled_meets hn.1 hn.2.1 h)
  have e : ∀ i, i < l.length → (plnL l long T).getD i 0 = plP l.length T (rdT l long T l.length) i := fun i hi => by
    rw [plnL_get hi]
    exact plP_congr (fun q hq => stT_val (by have := hn.2.1; omega)) hi
  refine ⟨fun i hi => by rw [e i hi]; exact hf.nn i hi, by rw [sm_congr (g := plP l.length T (rdT l long T l.length)) e]; exact hf.size, fun y hy => Int.le_trans (hf.enough y hy) (cov_mono (fun i hi => Int.le_of_eq (e i hi).symm) y)⟩
theorem plnL_pl {l : List Int} {long : Nat} {T : Int} (hn : Nds l) (hl1 : 1 ≤ long) (hl : long ≤ l.length) (hT : 0 ≤ T ∧ T ≤ 600) (h : okT l long T = true) : isPl l.length (plnL l long T) := by
  have hf := plnL_fea hn hl1 hl hT.1 h
  refine ⟨plnL_len _ _ _, fun q hq => ?_⟩
  rw [plnL_len] at hq
  have h1 := hf.nn q hq
  have h2 := sm_term hf.nn hq
  rw [hf.size] at h2
  exact ⟨h1, by omega⟩
theorem fea_ok {l : List Int} {long : Nat} {T : Int} (hn : Nds l) (hl1 : 1 ≤ long) (hl : long ≤ l.length) (hT : 0 ≤ T) : okT l long T = true ↔ (leL l long : Int) ≤ T := (fea_iff hn.1 hn.2.1 hl1 hl hn.wide hT).trans (leL_iff hn.1 hn.2.1 hl1 hl hn.wide)
/-- What Enough says of it. -/
theorem enV_plan {l : List Int} {long : Int} {T : Int} (hd : dayE l long = 0) (hT : 0 ≤ T ∧ T ≤ 600) (h : okT l long T = true) : enV l long (plnL l long T) = tup3 (.int T) (.bool true) (.int 0) := by
  obtain ⟨hn, hl1, hl2⟩ := dayE_inv hd
  obtain ⟨n, rfl⟩ : ∃ n : Nat, long = n := ⟨long.toNat, by omega⟩
  have hp := plnL_pl (l := l) (long := n) hn (by omega) (by omega) hT h
  have hf := plnL_fea (l := l) (long := n) hn (by omega) (by omega) hT.1 h
  have hsum : sumL (plnL l n T) (plnL l n T).length = T := by rw [sumL_sm, plnL_len]; exact hf.size
  have he := (enough_iff (long := n) hn.1 (by omega) hp).2 (by rw [hsum]; exact hf)
  unfold enV
  rw [if_pos hd, if_pos hp, hsum, Int.toNat_natCast, decide_eq_true he]

/-! Other needs, other lengths. -/
theorem fea_less {l l' : List Int} {long : Nat} {T : Int} (hll : l'.length = l.length) (h : ∀ y, y < l.length → l'.getD y 0 ≤ l.getD y 0) (hf : Fea l long T) : Fea l' long T := by
  obtain ⟨p, hp⟩ := hf
  exact ⟨p, fun i hi => hp.nn i (by omega), by rw [hll]; exact hp.size, fun y hy => by rw [hll] at hy ⊢; exact Int.le_trans (h y hy) (hp.enough y hy)⟩
theorem fea_longer {l : List Int} {long : Nat} {T : Int} (hf : Fea l long T) : Fea l (long + 1) T := by
  obtain ⟨p, hp⟩ := hf
  refine ⟨p, hp.nn, hp.size, fun y hy => Int.le_trans (hp.enough y hy) (sm_le fun i hi => ?_)⟩
  by_cases h : arH l.length ((y : Int) - i) < long
  · rw [if_pos h, if_pos (by omega)]; exact Int.le_refl _
  · rw [if_neg h]
    split
    · exact hp.nn i hi
    · exact Int.le_refl _
theorem fea_one_more {l : List Int} {long : Nat} {T d v : Int} {i : Nat} (hn : 1 ≤ l.length) (hl1 : 1 ≤ long) (hi : i < l.length) (hd : 0 ≤ d) (hv : v ≤ l.getD i 0 + d) (hf : Fea l long T) : Fea (l.set i v) long (T + d) := by
  obtain ⟨p, hp⟩ := hf
  have hlen : (l.set i v).length = l.length := List.length_set
  refine ⟨fun x => p x + (if x = i then d else 0), fun x hx => by have := hp.nn x (by omega); split <;> omega, ?_, fun y hy => ?_⟩
  · rw [hlen, sm_add, hp.size, sm_one (a := i) _ hi (fun x _ h => if_neg h), if_pos rfl]
  · rw [hlen] at hy ⊢
    have e : cov l.length long (fun x => p x + (if x = i then d else 0)) y = cov l.length long p y + (if arH l.length ((y : Int) - i) < long then d else 0) := by
      unfold cov
      have e1 : sm l.length (fun x => if arH l.length ((y : Int) - x) < long then p x + (if x = i then d else 0) else 0) = sm l.length (fun x => (if arH l.length ((y : Int) - x) < long then p x else 0) + (if arH l.length ((y : Int) - x) < long then (if x = i then d else 0) else 0)) := sm_congr fun x hx => by split <;> omega
      rw [e1, sm_add, sm_one (a := i) (fun x => if arH l.length ((y : Int) - x) < long then (if x = i then d else 0) else 0) hi (fun x _ h => by rw [if_neg h]; split <;> rfl), if_pos rfl]
    rw [e, getD_set' _ _ _ _ hi]
    have h1 := hp.enough y hy
    by_cases hyi : y = i
    · subst hyi
      rw [if_pos rfl, if_pos (by rw [arH_uniq (q := 0) (by omega) 0 (by omega)]; omega)]
      omega
    · rw [if_neg hyi]
      split <;> omega

/-! Certificates. -/
/-- A plan of size T for D times the needs. -/
structure Big (l : List Int) (long : Nat) (D T : Int) (p : Nat → Int) : Prop where
  nn : ∀ i, i < l.length → 0 ≤ p i
  size : sm l.length p = T
  enough : ∀ y, y < l.length → D * l.getD y 0 ≤ cov l.length long p y
theorem fea_big {l : List Int} {long b : Nat} {T : Int} : Fea (mul l b) long T ↔ ∃ p, Big l long b T p := by
  constructor
  · rintro ⟨p, hp⟩
    refine ⟨p, fun i hi => hp.nn i (by rw [mul_len]; exact hi), by have := hp.size; rwa [mul_len] at this, fun y hy => ?_⟩
    have := hp.enough y (by rw [mul_len]; exact hy)
    rw [mul_get l b hy, mul_len] at this
    rw [Int.mul_comm]
    exact this
  · rintro ⟨p, hp⟩
    refine ⟨p, fun i hi => hp.nn i (by rw [mul_len] at hi; exact hi), by rw [mul_len]; exact hp.size, fun y hy => ?_⟩
    rw [mul_len] at hy ⊢
    rw [mul_get l b hy, Int.mul_comm]
    exact hp.enough y hy
def Cert (l : List Int) (long : Nat) (S C : Int) : Prop := 1 ≤ C ∧ C ≤ long ∧ 0 ≤ S ∧ ∀ (D T : Int) (p : Nat → Int), 0 ≤ D → Big l long D T p → D * S ≤ C * T
theorem ring_big {l : List Int} {long : Nat} {T : Int} {h0 : Nat} {D S : Int} {p : Nat → Int} (hp : Big l long D S p) (hh : h0 < l.length) (_hD : 0 ≤ D) {B : Nat} (hB : 1 ≤ B) {a b : Nat} (hab : a ≤ b) {C : Int} (hC : ∀ x, x < l.length → sm b (kW (mul l B) long T h0 x) - sm a (kW (mul l B) long T h0 x) ≤ C) :
    D * (sm b (EW (mul l B) long T h0) - sm a (EW (mul l B) long T h0)) ≤ B * (C * S) := by
  obtain ⟨m, rfl⟩ : ∃ m, b = a + m := ⟨b - a, by omega⟩
  have hn : 1 ≤ l.length := by omega
  have hml := mul_len l (B : Int)
  rw [sm_split, show sm a (EW (mul l B) long T h0) + sm m (fun i => EW (mul l B) long T h0 (a + i)) - sm a (EW (mul l B) long T h0) = sm m (fun i => EW (mul l B) long T h0 (a + i)) by omega]
  have h1 : D * sm m (fun i => EW (mul l B) long T h0 (a + i)) ≤ sm m (fun i => sm l.length (fun x => B * (p x * kW (mul l B) long T h0 x (a + i)))) := by
    rw [← sm_mul]
    refine sm_le fun i hi => ?_
    have hy := arH_lt (n := (mul l B).length) (by omega) ((hW (mul l B) long T h0 (a + i) : Int) - 1)
    unfold EW
    by_cases he : eW (mul l B) long T h0 (a + i) = true
    · rw [if_pos he]
      have hy' : yW (mul l B) long T h0 (a + i) < l.length := by unfold yW; rw [hml] at hy ⊢; exact hy
      rw [mul_get l B hy', ← Int.mul_assoc, Int.mul_comm]
      rw [sm_mul]
      refine Int.mul_le_mul_of_nonneg_left (Int.le_trans (hp.enough _ hy') (Int.le_of_eq (sm_congr fun x hx => ?_))) (by omega)
      unfold kW
      rw [hml]
      by_cases hk : arH l.length ((yW (mul l B) long T h0 (a + i) : Int) - x) < long
      · rw [if_pos hk, if_pos ⟨he, hk⟩, Int.mul_one]
      · rw [if_neg hk, if_neg (fun h => hk h.2), Int.mul_zero]
    · rw [if_neg he, Int.mul_zero]
      refine sm_nn fun x hx => Int.mul_nonneg (by omega) (Int.mul_nonneg (hp.nn x hx) ?_)
      unfold kW
      split <;> decide
  rw [sm_swap] at h1
  refine Int.le_trans h1 ?_
  have e : sm l.length (fun x => sm m (fun i => B * (p x * kW (mul l B) long T h0 x (a + i)))) = B * sm l.length (fun x => p x * sm m (fun i => kW (mul l B) long T h0 x (a + i))) := by
    rw [← sm_mul]
    exact sm_congr fun x _ => by rw [sm_mul, sm_mul]
  rw [e]
  refine Int.mul_le_mul_of_nonneg_left ?_ (by omega)
  rw [← hp.size, ← sm_mul]
  refine sm_le fun x hx => ?_
  rw [Int.mul_comm]
  have := hC x hx
  rw [sm_split] at this
  exact Int.mul_le_mul_of_nonneg_right (by omega) (hp.nn x hx)
end Go.Tri
