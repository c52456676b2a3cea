/-
  ARCS OF A SIZE: numbers fit the arcs of the reference exactly if a plan of that size is enough, and begins as asked.
-/
import Derived.Test.YthocieklelgmbaaM8
import Derived.Test.YthocieklelgmbaaM4
namespace Go.Tri
open Go.Proofs

/-- An arc: from, to, at least. -/
abbrev Arc := Nat × Nat × Int
def arcB (n : Nat) (size : Int) : List Arc := [(0, n, size), (n, 0, -size)]
def arcG (B : List Int) (h : Nat) : List Arc := if h < B.length then [(h, h + 1, B.getD h 0), (h + 1, h, -(B.getD h 0))] else []
def arcN (l : List Int) (times : Int) (long : Nat) (size : Int) (h : Nat) : Arc := if long ≤ h + 1 then (h + 1 - long, h + 1, times * l.getD h 0) else (h + 1 + l.length - long, h + 1, times * l.getD h 0 - size)
def arcH (l : List Int) (times : Int) (long : Nat) (size : Int) (B : List Int) (h : Nat) : List Arc := (h, h + 1, 0) :: (arcG B h ++ [arcN l times long size h])
def arcL (l : List Int) (times : Int) (long : Nat) (size : Int) (B : List Int) : Nat → List Arc
  | 0 => arcB l.length size
  | h + 1 => arcL l times long size B h ++ arcH l times long size B h
def Fit (L : List Arc) (p : Nat → Int) : Prop := ∀ a ∈ L, p a.1 + a.2.2 ≤ p a.2.1
theorem Fit_app {L M : List Arc} {p : Nat → Int} : Fit (L ++ M) p ↔ Fit L p ∧ Fit M p := by
  unfold Fit
  constructor
  · intro h
    exact ⟨fun a ha => h a (List.mem_append.2 (.inl ha)), fun a ha => h a (List.mem_append.2 (.inr ha))⟩
  · rintro ⟨h1, h2⟩ a ha
    rcases List.mem_append.1 ha with g | g
    · exact h1 a g
    · exact h2 a g
theorem Fit_cons {a : Arc} {M : List Arc} {p : Nat → Int} : Fit (a :: M) p ↔ p a.1 + a.2.2 ≤ p a.2.1 ∧ Fit M p := by
  unfold Fit
  simp
theorem Fit_nil {p : Nat → Int} : Fit [] p := fun a ha => by simp at ha
theorem arcL_fit {l : List Int} {times : Int} {long : Nat} {size : Int} {B : List Int} {p : Nat → Int} : ∀ k, Fit (arcL l times long size B k) p ↔ Fit (arcB l.length size) p ∧ ∀ h, h < k → Fit (arcH l times long size B h) p := by
  intro k
  induction k with
  | zero => exact ⟨fun h => ⟨h, fun h hh => absurd hh (by omega)⟩, fun h => h.1⟩
  | succ k ih =>
    simp only [arcL]
    rw [Fit_app, ih]
    constructor
    · rintro ⟨⟨h1, h2⟩, h3⟩
      refine ⟨h1, fun h hh => ?_⟩
      rcases (by omega : h < k ∨ h = k) with g | rfl
      · exact h2 h g
      · exact h3
    · rintro ⟨h1, h2⟩
      exact ⟨⟨h1, fun h hh => h2 h (by omega)⟩, h2 k (by omega)⟩
theorem arcB_fit {n : Nat} {size : Int} {p : Nat → Int} : Fit (arcB n size) p ↔ p n = p 0 + size := by
  unfold arcB
  rw [Fit_cons, Fit_cons]
  constructor
  · rintro ⟨h1, h2, _⟩
    simp only at h1 h2
    omega
  · intro h
    refine ⟨?_, ?_, Fit_nil⟩ <;> (simp only; omega)
theorem arcH_fit {l : List Int} {times : Int} {long : Nat} {size : Int} {B : List Int} {p : Nat → Int} {h : Nat} : Fit (arcH l times long size B h) p ↔ p h ≤ p (h + 1) ∧ (h < B.length → p (h + 1) = p h + B.getD h 0) ∧
    (if long ≤ h + 1 then p (h + 1 - long) + times * l.getD h 0 ≤ p (h + 1) else p (h + 1 + l.length - long) + (times * l.getD h 0 - size) ≤ p (h + 1)) := by
  have hN : (p (arcN l times long size h).1 + (arcN l times long size h).2.2 ≤ p (arcN l times long size h).2.1) ↔ (if long ≤ h + 1 then p (h + 1 - long) + times * l.getD h 0 ≤ p (h + 1) else p (h + 1 + l.length - long) + (times * l.getD h 0 - size) ≤ p (h + 1)) := by
    unfold arcN
    by_cases hlo : long ≤ h + 1
    · rw [if_pos hlo, if_pos hlo]
    · rw [if_neg hlo, if_neg hlo]
  unfold arcH arcG
  rw [Fit_cons, Fit_app, Fit_cons, hN]
  constructor
  · rintro ⟨h1, h2, h3, _⟩
    refine ⟨by simpa using h1, fun hh => ?_, ?_⟩
    · rw [if_pos hh, Fit_cons, Fit_cons] at h2
      obtain ⟨g1, g2, _⟩ := h2
      simp only at g1 g2
      omega
    · exact h3
  · rintro ⟨h1, h2, h3⟩
    refine ⟨by simpa using h1, ?_, h3, Fit_nil⟩
    · split
      · next hh =>
        have := h2 hh
        rw [Fit_cons, Fit_cons]
        refine ⟨?_, ?_, Fit_nil⟩ <;> (simp only; omega)
      · exact Fit_nil
theorem arH_last {n : Nat} (hn : 1 ≤ n) : arH n (((0 : Nat) : Int) - 1) = n - 1 := arH_uniq (q := n - 1) (by omega) (-1) (by omega)
theorem arH_prev {n h : Nat} (h1 : 1 ≤ h) (hh : h < n) : arH n ((h : Int) - 1) = h - 1 := arH_uniq (q := h - 1) (by omega) 0 (by omega)
theorem arc_fea {l : List Int} {times : Int} {long : Nat} {size : Int} {B : List Int} (hn : 1 ≤ l.length) (hl1 : 1 ≤ long) (hl : long ≤ l.length) :
    (∃ p, Fit (arcL l times long size B l.length) p) ↔ ∃ q, IsFea (mul l times) long size q ∧ ∀ i, i < B.length → i < l.length → q i = B.getD i 0 := by
  have hml := mul_len l times
  constructor
  · rintro ⟨p, hp⟩
    rw [arcL_fit, arcB_fit] at hp
    obtain ⟨hb, hh⟩ := hp
    have hh := fun h hlt => arcH_fit.1 (hh h hlt)
    have hm : Meets (mul l times) long size (fun h => p h - p 0) := by
      intro h hlt
      rw [hml] at hlt
      unfold ndT
      rw [hml]
      by_cases h0 : h = 0
      · subst h0
        have g := hh (l.length - 1) (by omega)
        rw [show l.length - 1 + 1 = l.length by omega, if_pos hl] at g
        rw [arH_last hn, mul_get l times (by omega)]
        unfold befT
        rw [if_pos (by omega), if_pos (by omega), show (((0 : Nat) : Int) - 1 + l.length).toNat = l.length - 1 by omega, show (((0 : Nat) : Int) - (long : Int) + l.length).toNat = l.length - long by omega, Int.mul_comm]
        have g1 := g.1
        have g3 := g.2.2
        show p _ - p 0 - size ≤ p 0 - p 0 ∧ p _ - p 0 - size + _ ≤ p 0 - p 0
        omega
      · have g := hh (h - 1) (by omega)
        rw [show h - 1 + 1 = h by omega] at g
        rw [arH_prev (by omega) hlt, mul_get l times (by omega), Int.mul_comm]
        unfold befT
        rw [if_neg (by omega), show ((h : Int) - 1).toNat = h - 1 by omega]
        have g1 := g.1
        have g3 := g.2.2
        by_cases hlo : long ≤ h
        · rw [if_pos hlo] at g3
          rw [if_neg (by omega), show ((h : Int) - (long : Int)).toNat = h - long by omega]
          show p _ - p 0 ≤ p h - p 0 ∧ p _ - p 0 + _ ≤ p h - p 0
          omega
        · rw [if_neg hlo] at g3
          rw [if_pos (by omega), show ((h : Int) - (long : Int) + l.length).toNat = h + l.length - long by omega]
          show p _ - p 0 ≤ p h - p 0 ∧ p _ - p 0 - size + _ ≤ p h - p 0
          omega
    refine ⟨_, meets_fea (by rw [hml]; exact hn) (by rw [hml]; exact hl) (show p 0 - p 0 = 0 by omega) hm, fun i hi hin => ?_⟩
    have g := (hh i hin).2.1 hi
    rw [hml]
    unfold plP
    split
    · show p (i + 1) - p 0 - (p i - p 0) = _
      omega
    · have : i + 1 = l.length := by omega
      rw [this] at g
      show size - (p i - p 0) = _
      omega
  · rintro ⟨q, hq, hB⟩
    have hsz := hq.size
    rw [hml] at hsz
    have hm := sig_meets (by rw [hml]; exact hn) (by rw [hml]; exact hl) hq
    refine ⟨sig q, ?_⟩
    rw [arcL_fit, arcB_fit]
    refine ⟨by show sm l.length q = 0 + size; omega, fun h hlt => arcH_fit.2 ⟨?_, fun hb => ?_, ?_⟩⟩
    · have := hq.nn h (by rw [hml]; exact hlt)
      show sm h q ≤ sm h q + q h
      omega
    · have := hB h hb hlt
      show sm h q + q h = sm h q + _
      rw [this]
    · by_cases hlast : h + 1 = l.length
      · have g := (hm 0 (by rw [hml]; omega)).2
        unfold ndT befT at g
        rw [hml, arH_last hn, mul_get l times (by omega), if_pos (by omega), show (((0 : Nat) : Int) - (long : Int) + l.length).toNat = l.length - long by omega, Int.mul_comm, show l.length - 1 = h by omega] at g
        rw [if_pos (by omega), hlast]
        have e : sig q l.length = size := hsz
        have e0 : sig q 0 = 0 := rfl
        omega
      · have g := (hm (h + 1) (by rw [hml]; omega)).2
        unfold ndT at g
        rw [hml, show ((h + 1 : Nat) : Int) - 1 = (h : Int) by omega] at g
        rw [show arH l.length (h : Int) = h from arH_uniq hlt 0 (by omega), mul_get l times hlt, Int.mul_comm] at g
        unfold befT at g
        by_cases hlo : long ≤ h + 1
        · rw [if_neg (by omega), show (((h + 1 : Nat) : Int) - (long : Int)).toNat = h + 1 - long by omega] at g
          rw [if_pos hlo]
          exact g
        · rw [if_pos (by omega), show (((h + 1 : Nat) : Int) - (long : Int) + l.length).toNat = h + 1 + l.length - long by omega] at g
          rw [if_neg hlo]
          omega

/-- The arcs as functions. -/
def fA (L : List Arc) (j : Nat) : Nat := (L.getD j (0, 0, 0)).1
def tA (L : List Arc) (j : Nat) : Nat := (L.getD j (0, 0, 0)).2.1
def wA (L : List Arc) (j : Nat) : Int := (L.getD j (0, 0, 0)).2.2
theorem fit_list {L : List Arc} {p : Nat → Int} : FitsA (fA L) (tA L) (wA L) L.length p ↔ Fit L p := by
  unfold FitsA Fit fA tA wA
  constructor
  · intro h a ha
    obtain ⟨j, hj, rfl⟩ := List.getElem_of_mem ha
    have := h j hj
    rw [List.getD_eq_getElem?_getD, List.getElem?_eq_getElem hj] at this
    exact this
  · intro h j hj
    rw [List.getD_eq_getElem?_getD, List.getElem?_eq_getElem hj]
    exact h _ (List.getElem_mem hj)
/-- What is known of every arc. -/
def okA (n : Nat) (a : Arc) : Prop := a.1 < n ∧ a.2.1 < n ∧ -20000 ≤ a.2.2 ∧ a.2.2 ≤ 20000
theorem ok_list {n : Nat} {L : List Arc} (h : ∀ a ∈ L, okA n a) {j : Nat} (hj : j < L.length) : (fA L j < n ∧ tA L j < n) ∧ -20000 ≤ wA L j ∧ wA L j ≤ 20000 := by
  unfold fA tA wA
  rw [List.getD_eq_getElem?_getD, List.getElem?_eq_getElem hj]
  have := h _ (List.getElem_mem hj)
  exact ⟨⟨this.1, this.2.1⟩, this.2.2.1, this.2.2.2⟩
theorem arcL_ok {l : List Int} {times : Int} {long : Nat} {size : Int} {B : List Int} (hl1 : 1 ≤ long) (hl : long ≤ l.length) (ht : bet 0 10000 (mul l times) l.length) (hs : 0 ≤ size ∧ size ≤ 10000) (hB : bet 0 10000 B B.length) :
    ∀ k, k ≤ l.length → ∀ a ∈ arcL l times long size B k, okA (l.length + 1) a := by
  intro k
  induction k with
  | zero =>
    intro _ a ha
    simp only [arcL, arcB, List.mem_cons, List.not_mem_nil, or_false] at ha
    unfold okA
    rcases ha with rfl | rfl <;> (simp only; omega)
  | succ k ih =>
    intro hk a ha
    simp only [arcL, List.mem_append] at ha
    rcases ha with ha | ha
    · exact ih (by omega) a ha
    have hm := ht k hk
    rw [mul_get l times (by omega), Int.mul_comm] at hm
    unfold arcH arcG arcN at ha
    simp only [List.mem_cons, List.mem_append, List.not_mem_nil, or_false] at ha
    unfold okA
    rcases ha with rfl | ha | rfl
    · simp only; omega
    · split at ha
      · next hh =>
        have hb := hB k hh
        simp only [List.mem_cons, List.not_mem_nil, or_false] at ha
        rcases ha with rfl | rfl <;> (simp only; omega)
      · simp at ha
    · split <;> (simp only; omega)
theorem arcL_len {l : List Int} {times : Int} {long : Nat} {size : Int} {B : List Int} : ∀ k, (arcL l times long size B k).length ≤ 2 + 4 * k ∧ 2 ≤ (arcL l times long size B k).length := by
  intro k
  induction k with
  | zero => simp [arcL, arcB]
  | succ k ih =>
    simp only [arcL, arcH, arcG, List.length_append, List.length_cons]
    split <;> (simp only [List.length_cons, List.length_nil]; omega)
end Go.Tri
