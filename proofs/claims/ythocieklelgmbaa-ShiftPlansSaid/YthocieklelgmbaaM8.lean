/-
  NUMBERS FOR ARCS: raised as the arcs ask for, in as many rounds as there are numbers, they fit or none do.
-/
import Derived.Test.YthocieklelgmbaaM1
namespace Go.Tri
open Go.Proofs

section
variable (F T : Nat → Nat) (W : Nat → Int) (m : Nat)
/-- One arc; the first j arcs of a round, and whether one of them raised; the rounds. -/
def stp (f t : Nat) (w : Int) (s : Nat → Int) : Nat → Int := fun v => if v = t ∧ s f + w > s t then s f + w else s v
def rnd (s : Nat → Int) : Nat → Nat → Int
  | 0 => s
  | j + 1 => stp (F j) (T j) (W j) (rnd s j)
def chg (s : Nat → Int) : Nat → Bool
  | 0 => false
  | j + 1 => chg s j || decide (rnd F T W s j (F j) + W j > rnd F T W s j (T j))
def rds : Nat → Nat → Int
  | 0 => fun _ => 0
  | r + 1 => rnd F T W (rds r) m
def FitsA (p : Nat → Int) : Prop := ∀ j, j < m → p (F j) + W j ≤ p (T j)
end
section
variable {F T : Nat → Nat} {W : Nat → Int} {m n : Nat}
theorem rnd_up (s : Nat → Int) (v : Nat) : ∀ j, s v ≤ rnd F T W s j v := by
  intro j
  induction j with
  | zero => exact Int.le_refl _
  | succ j ih =>
    simp only [rnd]
    unfold stp
    split
    · next h => rw [h.1] at ih ⊢; omega
    · exact ih
theorem rnd_mono (s : Nat → Int) (v i : Nat) : ∀ j, i ≤ j → rnd F T W s i v ≤ rnd F T W s j v := by
  intro j
  induction j with
  | zero => intro h; rw [show i = 0 by omega]; exact Int.le_refl _
  | succ j ih =>
    intro h
    rcases (by omega : i ≤ j ∨ i = j + 1) with h1 | rfl
    · refine Int.le_trans (ih h1) ?_
      simp only [rnd]
      unfold stp
      split
      · next h => rw [h.1]; omega
      · exact Int.le_refl _
    · exact Int.le_refl _
theorem rnd_arc (s : Nat → Int) {i : Nat} (hi : i < m) : s (F i) + W i ≤ rnd F T W s m (T i) := by
  refine Int.le_trans ?_ (rnd_mono s (T i) (i + 1) m hi)
  have h1 := rnd_up (F := F) (T := T) (W := W) s (F i) i
  simp only [rnd]
  unfold stp
  split
  · omega
  · next h =>
    have : ¬ rnd F T W s i (F i) + W i > rnd F T W s i (T i) := fun g => h ⟨rfl, g⟩
    omega
theorem rnd_below {p : Nat → Int} (hT : ∀ j, j < m → F j < n ∧ T j < n) (hp : FitsA F T W m p) {s : Nat → Int} (hs : ∀ v, v < n → s v ≤ p v) : ∀ j, j ≤ m → ∀ v, v < n → rnd F T W s j v ≤ p v := by
  intro j
  induction j with
  | zero => intro _; exact hs
  | succ j ih =>
    intro hj v hv
    have h1 := ih (by omega)
    have h2 := hT j (by omega)
    have h3 := hp j (by omega)
    have h4 := h1 (F j) h2.1
    simp only [rnd]
    unfold stp
    split
    · next h => rw [h.1]; omega
    · exact h1 v hv
theorem rds_up (v : Nat) (r : Nat) : rds F T W m r v ≤ rds F T W m (r + 1) v := rnd_up _ v m
theorem rds_mono (v : Nat) {a : Nat} : ∀ b, a ≤ b → rds F T W m a v ≤ rds F T W m b v := by
  intro b
  induction b with
  | zero => intro h; rw [show a = 0 by omega]; exact Int.le_refl _
  | succ b ih =>
    intro h
    rcases (by omega : a ≤ b ∨ a = b + 1) with h1 | rfl
    · exact Int.le_trans (ih h1) (rds_up v b)
    · exact Int.le_refl _
theorem rds_nn (v r : Nat) : 0 ≤ rds F T W m r v := rds_mono (F := F) (T := T) (W := W) (m := m) v (a := 0) r (Nat.zero_le _)
theorem rds_below {p : Nat → Int} (hT : ∀ j, j < m → F j < n ∧ T j < n) (hp : FitsA F T W m p) (h0 : ∀ v, v < n → 0 ≤ p v) : ∀ r v, v < n → rds F T W m r v ≤ p v := by
  intro r
  induction r with
  | zero => exact h0
  | succ r ih => exact rnd_below hT hp ih m (Nat.le_refl _)
theorem chg_fits {s : Nat → Int} (h : chg F T W s m = false) : (∀ j, j ≤ m → rnd F T W s j = s) ∧ FitsA F T W m s := by
  have key : ∀ j, chg F T W s j = false → rnd F T W s j = s ∧ ∀ i, i < j → s (F i) + W i ≤ s (T i) := by
    intro j
    induction j with
    | zero => intro _; exact ⟨rfl, fun i hi => absurd hi (by omega)⟩
    | succ j ih =>
      intro h
      simp only [chg, Bool.or_eq_false_iff, decide_eq_false_iff_not] at h
      obtain ⟨h1, h2⟩ := ih h.1
      have h3 := h.2
      rw [h1] at h3
      refine ⟨?_, fun i hi => ?_⟩
      · simp only [rnd]
        rw [h1]
        funext v
        unfold stp
        rw [if_neg fun g => h3 g.2]
      · rcases (by omega : i < j ∨ i = j) with g | rfl
        · exact h2 i g
        · omega
  have part : ∀ j, j ≤ m → chg F T W s j = false := by
    intro j hj
    obtain ⟨d, rfl⟩ : ∃ d, m = j + d := ⟨m - j, by omega⟩
    clear key hj
    induction d with
    | zero => exact h
    | succ d ih =>
      refine ih ?_
      have h : chg F T W s (j + d + 1) = false := h
      simp only [chg, Bool.or_eq_false_iff] at h
      exact h.1
  exact ⟨fun j hj => (key j (part j hj)).1, (key m h).2⟩
theorem fits_chg {s p : Nat → Int} (hT : ∀ j, j < m → F j < n ∧ T j < n) (hp : FitsA F T W m p) (he : ∀ v, v < n → s v = p v) : chg F T W s m = false := by
  have key : ∀ j, j ≤ m → chg F T W s j = false ∧ rnd F T W s j = s := by
    intro j
    induction j with
    | zero => intro _; exact ⟨rfl, rfl⟩
    | succ j ih =>
      intro hj
      obtain ⟨h1, h2⟩ := ih (by omega)
      have h3 := hp j (by omega)
      have h4 := hT j (by omega)
      rw [← he _ h4.1, ← he _ h4.2] at h3
      constructor
      · simp only [chg, h1, h2, Bool.false_or, decide_eq_false_iff_not]
        omega
      · simp only [rnd]
        rw [h2]
        funext v
        unfold stp
        rw [if_neg fun g => by have := g.2; omega]
  exact (key m (Nat.le_refl _)).1
theorem sum_rise {a b : Nat → Int} : ∀ k : Nat, (∀ v, v < k → a v ≤ b v) → (∃ v, v < k ∧ a v < b v) → sm k a + 1 ≤ sm k b := by
  intro k
  induction k with
  | zero => rintro _ ⟨v, h, _⟩; omega
  | succ k ih =>
    rintro h ⟨v, hv, hlt⟩
    simp only [sm]
    have h1 := h k (by omega)
    rcases (by omega : v < k ∨ v = k) with g | rfl
    · have := ih (fun v hv => h v (by omega)) ⟨v, g, hlt⟩
      omega
    · have := sm_le (k := v) (f := a) (g := b) fun v hv => h v (by omega)
      omega
/-- The rounds come to rest. -/
theorem rds_rest {q : Nat → Int} (hT : ∀ j, j < m → F j < n ∧ T j < n) (hq : FitsA F T W m q) (h0 : ∀ v, v < n → 0 ≤ q v) : ∃ R, ∀ v, v < n → rds F T W m (R + 1) v = rds F T W m R v := by
  apply Classical.byContradiction
  intro hno
  have hall : ∀ r, ∃ v, v < n ∧ rds F T W m r v < rds F T W m (r + 1) v := by
    intro r
    apply Classical.byContradiction
    intro h
    refine hno ⟨r, fun v hv => ?_⟩
    have := rds_up (F := F) (T := T) (W := W) (m := m) v r
    have h2 : ¬ rds F T W m r v < rds F T W m (r + 1) v := fun g => h ⟨v, hv, g⟩
    omega
  have hsum : ∀ r : Nat, (r : Int) ≤ sm n (rds F T W m r) := by
    intro r
    induction r with
    | zero => exact sm_nn fun i _ => rds_nn i 0
    | succ r ih =>
      have := sum_rise n (fun v _ => rds_up (F := F) (T := T) (W := W) (m := m) v r) (hall r)
      omega
  have h1 := hsum ((sm n q).toNat + 1)
  have h2 := sm_le (k := n) (f := rds F T W m ((sm n q).toNat + 1)) (g := q) fun v hv => rds_below hT hq h0 _ v hv
  omega
/-- Each round settles a place, until all are. -/
theorem rds_settle {R : Nat} (hT : ∀ j, j < m → F j < n ∧ T j < n) (hR : ∀ v, v < n → rds F T W m (R + 1) v = rds F T W m R v) : ∀ v, v < n → rds F T W m n v = rds F T W m R v := by
  have hfit : FitsA F T W m (rds F T W m R) := fun j hj => by
    have h := rnd_arc (F := F) (T := T) (W := W) (rds F T W m R) hj
    have e : rnd F T W (rds F T W m R) m (T j) = rds F T W m (R + 1) (T j) := rfl
    rw [e, hR _ (hT j hj).2] at h
    exact h
  have hle : ∀ r v, v < n → rds F T W m r v ≤ rds F T W m R v := rds_below hT hfit fun v _ => rds_nn v R
  have hdrop : ∀ r, (∃ v, v < n ∧ rds F T W m r v < rds F T W m R v) → ∃ v, v < n ∧ rds F T W m r v < rds F T W m R v ∧ ¬ rds F T W m (r + 1) v < rds F T W m R v := by
    rintro r ⟨u, hu, hlt⟩
    apply Classical.byContradiction
    intro hno
    have hst : ∀ v, v < n → rds F T W m r v < rds F T W m R v → rds F T W m (r + 1) v < rds F T W m R v := fun v hv h => Classical.byContradiction fun g => hno ⟨v, hv, h, g⟩
    have hp : FitsA F T W m (fun v => if rds F T W m r v < rds F T W m R v then rds F T W m R v - 1 else rds F T W m R v) := fun j hj => by
      have h1 := hfit j hj
      have h2 := hT j hj
      have h3 := rnd_arc (F := F) (T := T) (W := W) (rds F T W m r) hj
      have e : rnd F T W (rds F T W m r) m (T j) = rds F T W m (r + 1) (T j) := rfl
      rw [e] at h3
      have h4 := hle r (F j) h2.1
      have h5 := hst (T j) h2.2
      show (if rds F T W m r (F j) < rds F T W m R (F j) then rds F T W m R (F j) - 1 else rds F T W m R (F j)) + W j ≤ if rds F T W m r (T j) < rds F T W m R (T j) then rds F T W m R (T j) - 1 else rds F T W m R (T j)
      split
      · split <;> omega
      · split
        · next g1 g2 => have := h5 g2; omega
        · omega
    have := rds_below hT hp (fun v hv => by
      have h1 := rds_nn (F := F) (T := T) (W := W) (m := m) v r
      have h2 := rds_nn (F := F) (T := T) (W := W) (m := m) v R
      show 0 ≤ if rds F T W m r v < rds F T W m R v then rds F T W m R v - 1 else rds F T W m R v
      split <;> omega) R u hu
    have this : rds F T W m R u ≤ if rds F T W m r u < rds F T W m R u then rds F T W m R u - 1 else rds F T W m R u := this
    rw [if_pos hlt] at this
    omega
  have hcount : ∀ r : Nat, sm n (fun v => if rds F T W m r v < rds F T W m R v then (1 : Int) else 0) + r ≤ n ∨ ∀ v, v < n → rds F T W m r v = rds F T W m R v := by
    intro r
    induction r with
    | zero =>
      left
      have := sm_le (k := n) (f := fun v => if rds F T W m 0 v < rds F T W m R v then (1 : Int) else 0) (g := fun _ => 1) fun v _ => by split <;> omega
      rw [sm_const] at this
      omega
    | succ r ih =>
      by_cases hex : ∃ v, v < n ∧ rds F T W m r v < rds F T W m R v
      · left
        have h1 := hdrop r hex
        obtain ⟨u, hu, g1, g2⟩ := h1
        have h3 := sum_rise (a := fun v => if rds F T W m (r + 1) v < rds F T W m R v then (1 : Int) else 0) (b := fun v => if rds F T W m r v < rds F T W m R v then (1 : Int) else 0) n (fun v _ => by
          have := rds_up (F := F) (T := T) (W := W) (m := m) v r
          show (if rds F T W m (r + 1) v < rds F T W m R v then (1 : Int) else 0) ≤ if rds F T W m r v < rds F T W m R v then (1 : Int) else 0
          split <;> split <;> omega) ⟨u, hu, by
          show (if rds F T W m (r + 1) u < rds F T W m R u then (1 : Int) else 0) < if rds F T W m r u < rds F T W m R u then (1 : Int) else 0
          rw [if_pos g1, if_neg g2]; omega⟩
        rcases ih with ih | ih
        · omega
        · obtain ⟨v, hv, g⟩ := hex
          have := ih v hv
          omega
      · right
        intro v hv
        have h1 : ¬ rds F T W m r v < rds F T W m R v := fun g => hex ⟨v, hv, g⟩
        have h2 := rds_up (F := F) (T := T) (W := W) (m := m) v r
        have h3 := hle (r + 1) v hv
        omega
  intro v hv
  rcases hcount n with h | h
  · have h1 := sm_term (k := n) (a := v) (f := fun v => if rds F T W m n v < rds F T W m R v then (1 : Int) else 0) (fun i _ => by split <;> omega) hv
    have h1 : (if rds F T W m n v < rds F T W m R v then (1 : Int) else 0) ≤ _ := h1
    have h2 := hle n v hv
    split at h1
    · omega
    · omega
  · exact h v hv
/-- Raised in rounds, the numbers fit after as many rounds as there are numbers, or none fit. -/
theorem fits_iff (hT : ∀ j, j < m → F j < n ∧ T j < n) : (∃ r, r ≤ n ∧ chg F T W (rds F T W m r) m = false) ↔ ∃ p, FitsA F T W m p := by
  constructor
  · rintro ⟨r, _, h⟩
    exact ⟨_, (chg_fits h).2⟩
  · rintro ⟨p, hp⟩
    have hc : ∀ v, v < n → 0 ≤ p v + sm n (fun v => if p v < 0 then - p v else 0) := fun v hv => by
      have := sm_term (k := n) (a := v) (f := fun v => if p v < 0 then - p v else 0) (fun i _ => by split <;> omega) hv
      have this : (if p v < 0 then - p v else 0) ≤ _ := this
      have h2 : 0 ≤ sm n (fun v => if p v < 0 then - p v else 0) := sm_nn fun i _ => by split <;> omega
      split at this <;> omega
    have hq : FitsA F T W m (fun v => p v + sm n (fun v => if p v < 0 then - p v else 0)) := fun j hj => by
      have := hp j hj
      show p (F j) + _ + W j ≤ p (T j) + _
      omega
    obtain ⟨R, hR⟩ := rds_rest hT hq hc
    have hs := rds_settle hT hR
    have hfit : FitsA F T W m (rds F T W m R) := fun j hj => by
      have h := rnd_arc (F := F) (T := T) (W := W) (rds F T W m R) hj
      have e : rnd F T W (rds F T W m R) m (T j) = rds F T W m (R + 1) (T j) := rfl
      rw [e, hR _ (hT j hj).2] at h
      exact h
    exact ⟨n, Nat.le_refl _, fits_chg hT hfit hs⟩
end
end Go.Tri
