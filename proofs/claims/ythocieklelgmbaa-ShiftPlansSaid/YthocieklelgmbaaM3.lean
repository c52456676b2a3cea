/-
  THE RING: sums that have not settled have a ring of hours that proves the size too small; so a size is right exactly if its sums settle.
-/
import Derived.Test.YthocieklelgmbaaM2
namespace Go.Tri
open Go.Proofs

theorem pigeon : ∀ (n : Nat) (f : Nat → Nat), (∀ i, i ≤ n → f i < n) → ∃ a b, a < b ∧ b ≤ n ∧ f a = f b := by
  intro n
  induction n with
  | zero => intro f h; exact absurd (h 0 (by omega)) (by omega)
  | succ n ih =>
    intro f h
    by_cases hv : ∃ i, i ≤ n ∧ f i = f (n + 1)
    · obtain ⟨i, h1, h2⟩ := hv
      exact ⟨i, n + 1, by omega, by omega, h2⟩
    · have hne : ∀ i, i ≤ n → f i ≠ f (n + 1) := fun i hi he => hv ⟨i, hi, he⟩
      obtain ⟨a, b, h1, h2, h3⟩ := ih (fun i => if f i < f (n + 1) then f i else f i - 1) (fun i hi => by
        have := h i (by omega)
        have := h (n + 1) (by omega)
        have := hne i hi
        split <;> omega)
      refine ⟨a, b, h1, by omega, ?_⟩
      have := hne a (by omega)
      have := hne b h2
      split at h3 <;> split at h3 <;> omega
theorem sm_split (f : Nat → Int) (a : Nat) : ∀ m, sm (a + m) f = sm a f + sm m (fun i => f (a + i))
  | 0 => by simp [sm]
  | m + 1 => by
    have := sm_split f a m
    rw [show a + (m + 1) = (a + m) + 1 by omega]
    simp only [sm]
    omega

section
variable (l : List Int) (long : Nat) (T : Int)

/-- Is it the need that raised the sum? The hour before on the way back. -/
def isNd (k h : Nat) : Bool := rdT l long T k h == ndT l long T (rdT l long T (k - 1)) h
def nxH (k h : Nat) : Nat := if isNd l long T k h = true then arH l.length ((h : Int) - long) else arH l.length ((h : Int) - 1)
/-- The way back from an hour: the hour at each step; whether the need raised it. -/
def hW (h0 : Nat) : Nat → Nat
  | 0 => h0
  | i + 1 => nxH l long T (l.length - i) (hW h0 i)
def eW (h0 i : Nat) : Bool := isNd l long T (l.length - i) (hW l long T h0 i)
def wW (h0 i : Nat) : Int := if eW l long T h0 i = true then long else 1
def cW (h0 i : Nat) : Int := if (hW l long T h0 i : Int) - wW l long T h0 i < 0 then 1 else 0
def yW (h0 i : Nat) : Nat := arH l.length ((hW l long T h0 i : Int) - 1)
def EW (h0 i : Nat) : Int := if eW l long T h0 i = true then l.getD (yW l long T h0 i) 0 else 0
/-- Does the element of step i lie in the shift from x? -/
def kW (h0 x i : Nat) : Int := if eW l long T h0 i = true ∧ arH l.length ((yW l long T h0 i : Int) - x) < long then 1 else 0
end

section
variable {l : List Int} {long : Nat} {T : Int} {h0 : Nat}

theorem hW_lt (hn : 1 ≤ l.length) (hh : h0 < l.length) : ∀ i, hW l long T h0 i < l.length
  | 0 => hh
  | i + 1 => by
    simp only [hW]
    unfold nxH
    split <;> exact arH_lt hn _
theorem wW_bd (hl1 : 1 ≤ long) (hl : long ≤ l.length) (i : Nat) : 1 ≤ wW l long T h0 i ∧ wW l long T h0 i ≤ l.length := by
  unfold wW
  split <;> omega
theorem hW_next (i : Nat) : hW l long T h0 (i + 1) = arH l.length ((hW l long T h0 i : Int) - wW l long T h0 i) := by
  show nxH l long T (l.length - i) (hW l long T h0 i) = _
  unfold nxH wW eW
  split
  · rfl
  · rfl
theorem hW_val (hn : 1 ≤ l.length) (hl1 : 1 ≤ long) (hl : long ≤ l.length) (hh : h0 < l.length) (i : Nat) : (hW l long T h0 (i + 1) : Int) = hW l long T h0 i - wW l long T h0 i + l.length * cW l long T h0 i := by
  have h1 := hW_lt (long := long) (T := T) hn hh i
  have h2 := wW_bd (T := T) (h0 := h0) hl1 hl i
  rw [hW_next]
  unfold cW
  split
  · next h =>
    rw [arH_uniq (q := (hW l long T h0 i - wW l long T h0 i + l.length).toNat) (by omega) (-1) (by omega)]
    omega
  · next h =>
    rw [arH_uniq (q := (hW l long T h0 i - wW l long T h0 i).toNat) (by omega) 0 (by omega)]
    omega
theorem befT_ar {n : Nat} {s : Nat → Int} {z : Int} (h1 : -(n : Int) ≤ z) (h2 : z < n) : befT n T s z = s (arH n z) - T * (if z < 0 then 1 else 0) := by
  unfold befT
  split
  · rw [arH_uniq (q := (z + n).toNat) (by omega) (-1) (by omega)]
    omega
  · rw [arH_uniq (q := z.toNat) (by omega) 0 (by omega)]
    omega

/-- What a round raised, it raised because of one of both. -/
theorem raise_by {k h : Nat} (hk : 1 ≤ k) (hh : h < l.length) (hs : rdT l long T (k - 1) h < rdT l long T k h) :
    rdT l long T k h = befT l.length T (rdT l long T (k - 1)) ((h : Int) - (if isNd l long T k h = true then (long : Int) else 1)) + (if isNd l long T k h = true then l.getD (arH l.length ((h : Int) - 1)) 0 else 0) := by
  obtain ⟨m, rfl⟩ : ∃ m, k = m + 1 := ⟨k - 1, by omega⟩
  rw [Nat.add_sub_cancel] at *
  by_cases hd : isNd l long T (m + 1) h = true
  · rw [if_pos hd, if_pos hd]
    unfold isNd at hd
    rw [Nat.add_sub_cancel] at hd
    have hd := eq_of_beq hd
    rw [hd]
    rfl
  · rw [if_neg hd, if_neg hd]
    unfold isNd at hd
    rw [Nat.add_sub_cancel] at hd
    have hd : rdT l long T (m + 1) h ≠ ndT l long T (rdT l long T m) h := fun e => hd (beq_iff_eq.2 e)
    have e : rdT l long T (m + 1) h = maxI (maxI (rdT l long T m h) (befT l.length T (rdT l long T m) ((h : Int) - 1))) (ndT l long T (rdT l long T m) h) := by
      show rsT l long T (rdT l long T m) h = _
      unfold rsT
      rw [if_pos hh]
    rw [e] at hd hs ⊢
    unfold maxI at *
    split at hd <;> split at hd <;> simp_all <;> omega
theorem strict (hn : 1 ≤ l.length) (hl1 : 1 ≤ long) (hl : long ≤ l.length) (hh : h0 < l.length) (hs : rdT l long T (l.length - 1) h0 < rdT l long T l.length h0) :
    ∀ i, i < l.length → rdT l long T (l.length - i - 1) (hW l long T h0 i) < rdT l long T (l.length - i) (hW l long T h0 i) := by
  intro i
  induction i with
  | zero => intro _; exact hs
  | succ i ih =>
    intro hi
    have h1 := ih (by omega)
    have hlt := hW_lt (long := long) (T := T) hn hh i
    have hw := wW_bd (T := T) (h0 := h0) hl1 hl i
    have hr := raise_by (k := l.length - i) (by omega) hlt h1
    obtain ⟨m, hm⟩ : ∃ m, l.length - i = m + 2 := ⟨l.length - i - 2, by omega⟩
    have hwe : (if isNd l long T (l.length - i) (hW l long T h0 i) = true then (long : Int) else 1) = wW l long T h0 i := rfl
    rw [hwe] at hr
    rw [hm] at hr h1
    rw [show l.length - (i + 1) - 1 = m by omega, show l.length - (i + 1) = m + 1 by omega, hW_next]
    rw [show m + 2 - 1 = m + 1 by omega] at hr h1
    have hge : befT l.length T (rdT l long T m) ((hW l long T h0 i : Int) - wW l long T h0 i) + (if isNd l long T (m + 2) (hW l long T h0 i) = true then l.getD (arH l.length ((hW l long T h0 i : Int) - 1)) 0 else 0) ≤ rdT l long T (m + 1) (hW l long T h0 i) := by
      show _ ≤ rsT l long T (rdT l long T m) (hW l long T h0 i)
      unfold rsT
      rw [if_pos hlt]
      have hd : eW l long T h0 i = isNd l long T (m + 2) (hW l long T h0 i) := by unfold eW; rw [hm]
      unfold wW
      rw [hd]
      by_cases hx : isNd l long T (m + 2) (hW l long T h0 i) = true
      · rw [if_pos hx, if_pos hx]
        exact le_maxI_r _ _
      · rw [if_neg hx, if_neg hx, Int.add_zero]
        exact Int.le_trans (le_maxI_r _ _) (le_maxI_l _ _)
    rw [befT_ar (by omega) (by omega)] at hr hge
    omega
/-- The sums on the way back. -/
theorem way_sum (hn : 1 ≤ l.length) (hl1 : 1 ≤ long) (hl : long ≤ l.length) (hh : h0 < l.length) (hs : rdT l long T (l.length - 1) h0 < rdT l long T l.length h0) :
    ∀ i, i ≤ l.length → rdT l long T l.length h0 - rdT l long T (l.length - i) (hW l long T h0 i) = sm i (EW l long T h0) - T * sm i (cW l long T h0) := by
  intro i
  induction i with
  | zero => intro _; simp [sm, hW]
  | succ i ih =>
    intro hi
    have h1 := ih (by omega)
    have hst := strict hn hl1 hl hh hs i (by omega)
    have hlt := hW_lt (long := long) (T := T) hn hh i
    have hw := wW_bd (T := T) (h0 := h0) hl1 hl i
    have hr := raise_by (k := l.length - i) (by omega) hlt hst
    have hwe : (if isNd l long T (l.length - i) (hW l long T h0 i) = true then (long : Int) else 1) = wW l long T h0 i := rfl
    have hEe : (if isNd l long T (l.length - i) (hW l long T h0 i) = true then l.getD (arH l.length ((hW l long T h0 i : Int) - 1)) 0 else 0) = EW l long T h0 i := rfl
    rw [hwe, hEe, befT_ar (by omega) (by omega), ← hW_next] at hr
    have hce : (if (hW l long T h0 i : Int) - wW l long T h0 i < 0 then (1 : Int) else 0) = cW l long T h0 i := rfl
    rw [hce] at hr
    simp only [sm]
    rw [show l.length - (i + 1) = l.length - i - 1 by omega, Int.mul_add]
    omega
theorem way_hour (hn : 1 ≤ l.length) (hl1 : 1 ≤ long) (hl : long ≤ l.length) (hh : h0 < l.length) : ∀ i, (hW l long T h0 i : Int) = h0 - sm i (wW l long T h0) + l.length * sm i (cW l long T h0) := by
  intro i
  induction i with
  | zero => simp [sm, hW]
  | succ i ih =>
    rw [hW_val hn hl1 hl hh, ih]
    simp only [sm]
    rw [Int.mul_add]
    omega
/-- Each hour is walked over as often as the way goes around. -/
theorem way_over (hn : 1 ≤ l.length) (hl1 : 1 ≤ long) (hl : long ≤ l.length) (hh : h0 < l.length) {x : Nat} (hx : x < l.length) {a b : Nat} (hab : a ≤ b) :
    sm b (kW l long T h0 x) - sm a (kW l long T h0 x) ≤ (sm b (cW l long T h0) - sm a (cW l long T h0)) + ((if hW l long T h0 b ≤ x then 1 else 0) - (if hW l long T h0 a ≤ x then 1 else 0)) := by
  induction b with
  | zero => rw [show a = 0 by omega]; simp
  | succ b ih =>
    rcases (by omega : a = b + 1 ∨ a ≤ b) with rfl | h1
    · simp
    · have h2 := ih h1
      have v := hW_val (T := T) hn hl1 hl hh b
      have b1 := hW_lt (long := long) (T := T) hn hh b
      have b2 := hW_lt (long := long) (T := T) hn hh (b + 1)
      have key : kW l long T h0 x b ≤ cW l long T h0 b + ((if hW l long T h0 (b + 1) ≤ x then 1 else 0) - (if hW l long T h0 b ≤ x then 1 else 0)) := by
        have hw := wW_bd (T := T) (h0 := h0) hl1 hl b
        have hc : (cW l long T h0 b = 1 ∧ (hW l long T h0 b : Int) - wW l long T h0 b < 0) ∨ (cW l long T h0 b = 0 ∧ ¬ (hW l long T h0 b : Int) - wW l long T h0 b < 0) := by
          unfold cW
          split
          · exact .inl ⟨rfl, by assumption⟩
          · exact .inr ⟨rfl, by assumption⟩
        by_cases hk : eW l long T h0 b = true ∧ arH l.length ((yW l long T h0 b : Int) - x) < long
        · have hwl : wW l long T h0 b = long := by unfold wW; rw [if_pos hk.1]
          have hy : arH l.length ((yW l long T h0 b : Int) - x) = arH l.length ((hW l long T h0 b : Int) - 1 - x) := by
            unfold yW
            exact (by have := last_hour (n := l.length) hn b1 x; exact this.symm)
          have hk2 := hk.2
          rw [hy] at hk2
          have e : kW l long T h0 x b = 1 := by unfold kW; rw [if_pos hk]
          rw [e]
          rcases (by omega : x < hW l long T h0 b ∨ hW l long T h0 b ≤ x) with hlt | hge
          · rw [arH_uniq (q := hW l long T h0 b - 1 - x) (by omega) 0 (by omega)] at hk2
            rw [if_neg (show ¬ hW l long T h0 b ≤ x by omega)]
            rcases hc with ⟨c1, c2⟩ | ⟨c1, c2⟩
            · rw [c1]; split <;> omega
            · rw [c1] at v ⊢
              rw [if_pos (by omega)]
              omega
          · rw [arH_uniq (q := hW l long T h0 b + l.length - 1 - x) (by omega) (-1) (by omega)] at hk2
            rw [if_pos hge]
            rcases hc with ⟨c1, c2⟩ | ⟨c1, c2⟩
            · rw [c1] at v ⊢
              rw [if_pos (by omega)]
              omega
            · omega
        · have e : kW l long T h0 x b = 0 := by unfold kW; rw [if_neg hk]
          rw [e]
          rcases hc with ⟨c1, c2⟩ | ⟨c1, c2⟩
          · rw [c1]; split <;> split <;> omega
          · rw [c1] at v ⊢
            split <;> split <;> omega
      simp only [sm]
      omega
/-- A RING. -/
theorem ring (hn : 1 ≤ l.length) (hl1 : 1 ≤ long) (hl : long ≤ l.length) (hh : h0 < l.length) (hs : rdT l long T (l.length - 1) h0 < rdT l long T l.length h0) {a b : Nat} (hab : a < b) (hb : b ≤ l.length) (he : hW l long T h0 a = hW l long T h0 b) :
    1 ≤ sm b (cW l long T h0) - sm a (cW l long T h0) ∧ T * (sm b (cW l long T h0) - sm a (cW l long T h0)) < sm b (EW l long T h0) - sm a (EW l long T h0) ∧
      ∀ x, x < l.length → sm b (kW l long T h0 x) - sm a (kW l long T h0 x) ≤ sm b (cW l long T h0) - sm a (cW l long T h0) := by
  refine ⟨?_, ?_, fun x hx => ?_⟩
  · have h1 := way_hour (T := T) hn hl1 hl hh a
    have h2 := way_hour (T := T) hn hl1 hl hh b
    have h3 : sm a (wW l long T h0) < sm b (wW l long T h0) := by
      obtain ⟨m, rfl⟩ : ∃ m, b = a + (m + 1) := ⟨b - a - 1, by omega⟩
      rw [sm_split]
      have hpos : 0 ≤ sm m (fun i => wW l long T h0 (a + i)) := sm_nn fun i _ => by have := (wW_bd (T := T) (h0 := h0) hl1 hl (a + i)).1; omega
      have hlast := (wW_bd (T := T) (h0 := h0) hl1 hl (a + m)).1
      simp only [sm]
      omega
    rw [he] at h1
    have h4 : (l.length : Int) * (sm b (cW l long T h0) - sm a (cW l long T h0)) = sm b (wW l long T h0) - sm a (wW l long T h0) := by
      rw [Int.mul_sub]; omega
    by_cases h5 : 0 < sm b (cW l long T h0) - sm a (cW l long T h0)
    · omega
    · have := Int.mul_le_mul_of_nonneg_left (show sm b (cW l long T h0) - sm a (cW l long T h0) ≤ 0 by omega) (show (0 : Int) ≤ l.length by omega)
      rw [Int.mul_zero] at this
      omega
  · have h1 := way_sum hn hl1 hl hh hs a (by omega)
    have h2 := way_sum hn hl1 hl hh hs b hb
    have h3 := strict hn hl1 hl hh hs a (by omega)
    have h4 := rdT_upto (l := l) (long := long) (T := T) (hW l long T h0 a) (a := l.length - b) (b := l.length - a - 1) (by omega)
    rw [← he] at h2
    rw [Int.mul_sub]
    omega
  · have := way_over (T := T) hn hl1 hl hh hx (Nat.le_of_lt hab)
    rw [he] at this
    omega

theorem Int.le_mul_of {a b c : Int} (h : a ≤ b) (hc : 0 ≤ c) : a * c ≤ b * c := Int.mul_le_mul_of_nonneg_right h hc

/-- WHAT A RING SAYS OF A PLAN. -/
theorem ring_plan {S : Int} {p : Nat → Int} (hp : IsFea l long S p) (hh : h0 < l.length) {a b : Nat} (hab : a ≤ b) {C : Int} (hC : ∀ x, x < l.length → sm b (kW l long T h0 x) - sm a (kW l long T h0 x) ≤ C) : sm b (EW l long T h0) - sm a (EW l long T h0) ≤ C * S := by
  obtain ⟨m, rfl⟩ : ∃ m, b = a + m := ⟨b - a, by omega⟩
  have hn : 1 ≤ l.length := by omega
  rw [sm_split, show sm a (EW l long T h0) + sm m (fun i => EW l long T h0 (a + i)) - sm a (EW l long T h0) = sm m (fun i => EW l long T h0 (a + i)) by omega]
  have h1 : sm m (fun i => EW l long T h0 (a + i)) ≤ sm m (fun i => sm l.length (fun x => p x * kW l long T h0 x (a + i))) := sm_le fun i hi => by
    unfold EW
    split
    · next he =>
      refine Int.le_trans (hp.enough _ (arH_lt hn _)) (Int.le_of_eq (sm_congr fun x hx => ?_))
      unfold kW
      by_cases hk : arH l.length ((yW l long T h0 (a + i) : Int) - x) < long
      · rw [if_pos hk, if_pos ⟨he, hk⟩, Int.mul_one]
      · rw [if_neg hk, if_neg (fun h => hk h.2), Int.mul_zero]
    · refine sm_nn fun x hx => Int.mul_nonneg (hp.nn x hx) ?_
      unfold kW
      split <;> decide
  rw [sm_swap] at h1
  refine Int.le_trans h1 ?_
  rw [← hp.size, ← sm_mul]
  refine sm_le fun x hx => ?_
  rw [sm_mul, Int.mul_comm]
  have := hC x hx
  rw [sm_split] at this
  exact Int.le_mul_of (by omega) (hp.nn x hx)

/-- A size is right exactly if its sums settle. -/
theorem fea_iff (hn : 1 ≤ l.length) (h12 : l.length ≤ 12) (hl1 : 1 ≤ long) (hl : long ≤ l.length) (hb : bet 0 1000 l l.length) (hT : 0 ≤ T) : okT l long T = true ↔ Fea l long T := by
  constructor
  · intro h
    exact ⟨_, meets_fea hn hl (settled_zero hn h12 hl1 hl hb hT h) (settled_meets hn h12 h)⟩
  · rintro ⟨p, hp⟩
    refine (okT_iff hn).2 fun q hq => ?_
    apply Classical.byContradiction
    intro hne
    have hup : rdT l long T (l.length - 1) q < rdT l long T l.length q := by
      have := rdT_upto (l := l) (long := long) (T := T) q (a := l.length - 1) (b := l.length) (by omega)
      omega
    have hq2 : q < l.length := by
      rcases Nat.lt_or_ge q l.length with h | h
      · exact h
      · rw [rdT_out h, rdT_out h] at hup; omega
    obtain ⟨a, b, h1, h2, h3⟩ := pigeon l.length (hW l long T q) (fun i _ => hW_lt hn hq2 i)
    obtain ⟨r1, r2, r3⟩ := ring hn hl1 hl hq2 hup h1 h2 h3
    have := ring_plan (T := T) hp hq2 (Nat.le_of_lt h1) r3
    rw [Int.mul_comm] at this
    omega
end
end Go.Tri
