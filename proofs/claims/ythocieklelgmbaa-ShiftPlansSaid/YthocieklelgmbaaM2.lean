/-
  PLANS AND THE SUMS OF A TRIAL: a plan that is enough meets all conditions; sums that have settled are one, and the least; sums that have not have a ring.
-/
import Derived.Test.YthocieklelgmbaaM1
import Derived.Test.YthocieklelgmbaaB8
namespace Go.Tri
open Go.Proofs

/-- A plan of a size that is enough. -/
structure IsFea (l : List Int) (long : Nat) (T : Int) (p : Nat → Int) : Prop where
  nn : ∀ i, i < l.length → 0 ≤ p i
  size : sm l.length p = T
  enough : ∀ y, y < l.length → l.getD y 0 ≤ cov l.length long p y
def Fea (l : List Int) (long : Nat) (T : Int) : Prop := ∃ p, IsFea l long T p

/-- What the sums have to meet. -/
def Meets (l : List Int) (long T : Int) (s : Nat → Int) : Prop := ∀ h : Nat, h < l.length → befT l.length T s ((h : Int) - 1) ≤ s h ∧ ndT l long T s h ≤ s h

/-- The plan between sums, and its differences. -/
def plP (n : Nat) (T : Int) (s : Nat → Int) (h : Nat) : Int := if h + 1 < n then s (h + 1) - s h else T - s h
theorem dif_one {n : Nat} (hn : 1 ≤ n) {T : Int} {s : Nat → Int} (h0 : s 0 = 0) {z : Int} (h1 : -(n : Int) < z) (h2 : z < n) : befT n T s z - befT n T s (z - 1) = plP n T s (arH n (z - 1)) := by
  rcases (by omega : 1 ≤ z ∨ z = 0 ∨ z < 0) with h | h | h
  · obtain ⟨m, rfl⟩ : ∃ m : Nat, z = m + 1 := ⟨(z - 1).toNat, by omega⟩
    rw [show (m : Int) + 1 - 1 = m by omega, arH_small (by omega)]
    unfold befT plP
    rw [if_neg (by omega), if_neg (by omega), if_pos (by omega)]
    congr 2
  · subst h
    rw [arH_uniq (n := n) (q := n - 1) (by omega) (-1) (by omega)]
    unfold befT plP
    rw [if_neg (by omega), if_pos (by omega), if_neg (by omega), show ((0 : Int) - 1 + n).toNat = n - 1 by omega, show (0 : Int).toNat = 0 by rfl, h0]
    omega
  · obtain ⟨m, hm⟩ : ∃ m : Nat, z + n = m + 1 := ⟨(z + n - 1).toNat, by omega⟩
    rw [arH_uniq (n := n) (q := m) (by omega) (-1) (by omega)]
    unfold befT plP
    rw [if_pos (by omega), if_pos (by omega), show (z + n).toNat = m + 1 by omega, show (z - 1 + n).toNat = m by omega, if_pos (by omega)]
    omega
theorem dif {n : Nat} (hn : 1 ≤ n) {T : Int} {s : Nat → Int} (h0 : s 0 = 0) {h : Int} (hh : 0 ≤ h ∧ h < n) : ∀ j : Nat, j ≤ n → befT n T s h - befT n T s (h - j) = sm j (fun k => plP n T s (arH n (h - 1 - k))) := by
  intro j
  induction j with
  | zero => intro _; simp [sm]
  | succ j ih =>
    intro hj
    simp only [sm]
    rw [← ih (by omega)]
    have := dif_one hn (T := T) h0 (z := h - j) (by omega) (by omega)
    rw [show h - (j : Int) - 1 = h - 1 - j by omega] at this
    rw [show h - ((j + 1 : Nat) : Int) = h - 1 - j by omega]
    omega
theorem befT_at {n : Nat} {T : Int} {s : Nat → Int} (h : Nat) : befT n T s h = s h := by
  unfold befT
  rw [if_neg (by omega)]
  rfl

/-- The sums of a plan. -/
def sig (p : Nat → Int) (h : Nat) : Int := sm h p
theorem plP_sig {n : Nat} {T : Int} {p : Nat → Int} (hT : sm n p = T) {h : Nat} (hh : h < n) : plP n T (sig p) h = p h := by
  unfold plP sig
  split
  · simp only [sm]; omega
  · obtain rfl : n = h + 1 := by omega
    rw [← hT]
    simp only [sm]
    omega
theorem last_hour {n : Nat} (hn : 1 ≤ n) {h : Nat} (_hh : h < n) : ∀ k : Int, arH n ((h : Int) - 1 - k) = arH n ((arH n ((h : Int) - 1) : Nat) - k) := fun k => by
  have := arH_shift hn (-k) ((h : Int) - 1)
  rw [show -k + ((h : Int) - 1) = (h : Int) - 1 - k by omega, show -k + ((arH n ((h : Int) - 1) : Nat) : Int) = (arH n ((h : Int) - 1) : Nat) - k by omega] at this
  exact this.symm
theorem sig_meets {l : List Int} {long : Nat} {T : Int} {p : Nat → Int} (hn : 1 ≤ l.length) (hl : long ≤ l.length) (h : IsFea l long T p) : Meets l long T (sig p) := by
  intro x hx
  have h0 : sig p 0 = 0 := rfl
  have hpl : ∀ z : Int, plP l.length T (sig p) (arH l.length z) = p (arH l.length z) := fun z => plP_sig h.size (arH_lt hn z)
  constructor
  · have := dif hn (T := T) h0 (h := x) (by omega) 1 (by omega)
    simp only [sm] at this
    rw [hpl, befT_at, Int.natCast_one] at this
    have := h.nn _ (arH_lt hn ((x : Int) - 1 - (0 : Nat)))
    omega
  · have := dif hn (T := T) h0 (h := x) (by omega) long hl
    rw [befT_at] at this
    unfold ndT
    have e := h.enough _ (arH_lt hn ((x : Int) - 1))
    rw [cov_eq hn hl] at e
    have e2 : sm long (fun k => plP l.length T (sig p) (arH l.length ((x : Int) - 1 - k))) = sm long (fun k => p (arH l.length (((arH l.length ((x : Int) - 1) : Nat) : Int) - k))) := sm_congr fun k hk => by
      rw [hpl, last_hour hn hx]
    rw [e2] at this
    omega

/-- Conversely. -/
theorem meets_fea {l : List Int} {long : Nat} {T : Int} {s : Nat → Int} (hn : 1 ≤ l.length) (hl : long ≤ l.length) (h0 : s 0 = 0) (hm : Meets l long T s) : IsFea l long T (plP l.length T s) := by
  refine ⟨fun i hi => ?_, ?_, fun y hy => ?_⟩
  · unfold plP
    split
    · next h =>
      have := (hm (i + 1) h).1
      rw [show ((i + 1 : Nat) : Int) - 1 = (i : Int) by omega, befT_at] at this
      omega
    · have := (hm 0 (by omega)).1
      unfold befT at this
      rw [if_pos (by omega), show (((0 : Nat) : Int) - 1 + l.length).toNat = i by omega, h0] at this
      omega
  · have tel : ∀ k, k < l.length → sm k (plP l.length T s) = s k := by
      intro k
      induction k with
      | zero => intro _; exact h0.symm
      | succ k ih =>
        intro hk
        simp only [sm]
        rw [ih (by omega)]
        unfold plP
        rw [if_pos hk]
        omega
    obtain ⟨m, hm'⟩ : ∃ m, l.length = m + 1 := ⟨l.length - 1, by omega⟩
    have := tel m (by omega)
    rw [hm'] at this ⊢
    simp only [sm]
    rw [this]
    unfold plP
    rw [if_neg (by omega)]
    omega
  · -- the hour behind y
    have key : ∀ h : Nat, h < l.length → arH l.length ((h : Int) - 1) = y → l.getD y 0 ≤ cov l.length long (plP l.length T s) y := by
      intro h hh he
      have h1 := (hm h hh).2
      unfold ndT at h1
      rw [he] at h1
      have h2 := dif hn (T := T) h0 (h := h) (by omega) long hl
      rw [befT_at] at h2
      rw [cov_eq hn hl]
      have e2 : sm long (fun k => plP l.length T s (arH l.length ((h : Int) - 1 - k))) = sm long (fun k => plP l.length T s (arH l.length ((y : Int) - k))) := sm_congr fun k hk => by
        rw [last_hour hn hh, he]
      rw [e2] at h2
      omega
    by_cases hy1 : y + 1 < l.length
    · exact key (y + 1) hy1 (by rw [show ((y + 1 : Nat) : Int) - 1 = (y : Int) by omega]; exact arH_small hy)
    · exact key 0 (by omega) (arH_uniq hy (-1) (by omega))

/-- The rounds stay below whatever meets the conditions. -/
theorem befT_mono {n : Nat} {T : Int} {s s' : Nat → Int} (h : ∀ q, q < n → s q ≤ s' q) {z : Int} (h1 : -(n : Int) ≤ z) (h2 : z < n) : befT n T s z ≤ befT n T s' z := by
  unfold befT
  split
  · have := h (z + n).toNat (by omega); omega
  · exact h z.toNat (by omega)
theorem maxI_le {a b c : Int} (h1 : a ≤ c) (h2 : b ≤ c) : maxI a b ≤ c := by unfold maxI; split <;> assumption
theorem le_maxI_l (a b : Int) : a ≤ maxI a b := by unfold maxI; split <;> omega
theorem le_maxI_r (a b : Int) : b ≤ maxI a b := by unfold maxI; split <;> omega
theorem rdT_below {l : List Int} {long : Nat} {T : Int} {s : Nat → Int} (hl1 : 1 ≤ long) (hl : long ≤ l.length) (hs : ∀ q, q < l.length → 0 ≤ s q) (hm : Meets l long T s) : ∀ k q, q < l.length → rdT l long T k q ≤ s q := by
  intro k
  induction k with
  | zero => intro q hq; exact hs q hq
  | succ k ih =>
    intro q hq
    simp only [rdT]
    unfold rsT
    rw [if_pos hq]
    have h1 := befT_mono (n := l.length) (T := T) (z := (q : Int) - 1) ih (by omega) (by omega)
    have h2 := befT_mono (n := l.length) (T := T) (z := (q : Int) - long) ih (by omega) (by omega)
    have := hm q hq
    refine maxI_le (maxI_le (ih q hq) (by omega)) ?_
    unfold ndT at *
    omega
theorem rdT_up {l : List Int} {long T : Int} (k q : Nat) : rdT l long T k q ≤ rdT l long T (k + 1) q := by
  simp only [rdT]
  unfold rsT
  split
  · exact Int.le_trans (le_maxI_l _ _) (le_maxI_l _ _)
  · exact Int.le_refl _
theorem rdT_upto {l : List Int} {long T : Int} (q : Nat) {a b : Nat} (h : a ≤ b) : rdT l long T a q ≤ rdT l long T b q := by
  induction b with
  | zero => rw [show a = 0 by omega]; exact Int.le_refl _
  | succ b ih =>
    rcases (by omega : a = b + 1 ∨ a ≤ b) with rfl | h1
    · exact Int.le_refl _
    · exact Int.le_trans (ih h1) (rdT_up b q)
theorem rdT_out {l : List Int} {long T : Int} {q : Nat} (hq : l.length ≤ q) : ∀ k, rdT l long T k q = 0 := by
  intro k
  induction k with
  | zero => rfl
  | succ k ih =>
    simp only [rdT]
    unfold rsT
    rw [if_neg (by omega), ih]
/-- Sums that have settled meet the conditions. -/
theorem settled_meets {l : List Int} {long : Nat} {T : Int} (hn : 1 ≤ l.length) (h12 : l.length ≤ 12) (h : okT l long T = true) : Meets l long T (rdT l long T l.length) := by
  have h := (okT_iff hn).1 h
  obtain ⟨m, hm⟩ : ∃ m, l.length = m + 1 := ⟨l.length - 1, by omega⟩
  have he : rdT l long T l.length = rdT l long T m := by
    funext q
    by_cases hq : q < 12
    · rw [h q hq, hm]; rfl
    · rw [rdT_out (by omega), rdT_out (by omega)]
  intro x hx
  have e : rdT l long T l.length x = rsT l long T (rdT l long T m) x := by rw [hm]; rfl
  rw [he]
  rw [← he, e]
  rw [← he]
  unfold rsT
  rw [if_pos hx]
  exact ⟨Int.le_trans (le_maxI_r _ _) (le_maxI_l _ _), le_maxI_r _ _⟩
theorem settled_zero {l : List Int} {long : Nat} {T : Int} (hn : 1 ≤ l.length) (h12 : l.length ≤ 12) (hl1 : 1 ≤ long) (hl : long ≤ l.length) (hb : bet 0 1000 l l.length) (hT : 0 ≤ T) (h : okT l long T = true) : rdT l long T l.length 0 = 0 := by
  have hm := settled_meets hn h12 h
  have h0 := rdT_bd (long := long) hn hb hT l.length 0
  generalize hs : rdT l long T l.length = s at *
  have hge : ∀ q, q < l.length → s 0 ≤ s q := by
    intro q
    induction q with
    | zero => intro _; exact Int.le_refl _
    | succ q ih =>
      intro hq
      have := (hm (q + 1) hq).1
      rw [show ((q + 1 : Nat) : Int) - 1 = (q : Int) by omega, befT_at] at this
      exact Int.le_trans (ih (by omega)) this
  have hbf : ∀ z : Int, befT l.length T (fun q => s q - s 0) z = befT l.length T s z - s 0 := by
    intro z
    unfold befT
    split <;> dsimp only <;> omega
  have hm2 : Meets l long T (fun q => s q - s 0) := by
    intro x hx
    have := hm x hx
    unfold ndT at *
    rw [hbf, hbf]
    dsimp only
    constructor <;> omega
  have := rdT_below hl1 hl (fun q hq => by have := hge q hq; omega) hm2 l.length 0 (by omega)
  rw [hs] at this
  omega
end Go.Tri
