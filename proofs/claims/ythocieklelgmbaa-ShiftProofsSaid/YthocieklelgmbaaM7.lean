/-
  PROOFS: no proof is worth more than Least; what lies on a ring is worth Least; a list that is put into order is worth the same.
-/
import Derived.Test.YthocieklelgmbaaL2
import Derived.Test.YthocieklelgmbaaB12
namespace Go.Tri
open Go.Proofs

def sL (f : Int → Int) (D : List Int) : Int := sm D.length fun i => f (D.getD i 0)
theorem sL_app (f : Int → Int) (A B : List Int) : sL f (A ++ B) = sL f A + sL f B := by
  unfold sL
  rw [List.length_append, sm_split]
  congr 1
  · exact sm_congr fun i hi => by rw [List.getD, List.getElem?_append_left hi]; rfl
  · exact sm_congr fun i hi => by rw [List.getD, List.getElem?_append_right (by omega), Nat.add_sub_cancel_left]; rfl
theorem sL_one (f : Int → Int) (x : Int) : sL f [x] = f x := by simp [sL, sm]
theorem sL_nil (f : Int → Int) : sL f [] = 0 := rfl
theorem ndL_sL (l pr : List Int) : ndL l pr pr.length = sL (fun y => l.getD y.toNat 0) pr := rfl
theorem cnL_sL (n long : Nat) (pr : List Int) (x : Nat) : cnL n long pr x pr.length = sL (fun y => if arH n (y - x) < long then 1 else 0) pr := rfl

theorem weak {l pr : List Int} {long : Nat} {T : Int} {p : Nat → Int} (hp : IsFea l long T p) (hpr : isPr l.length pr) : ndL l pr pr.length ≤ rcL l.length long pr l.length * T := by
  obtain ⟨p1, p2, p3⟩ := hpr
  have hn1 : 1 ≤ l.length := by
    rcases Nat.eq_zero_or_pos l.length with h | h
    · have := p3 0 (by omega); omega
    · exact h
  have h1 : ndL l pr pr.length ≤ sm pr.length (fun i => sm l.length (fun x => if arH l.length (pr.getD i 0 - x) < long then p x else 0)) := sm_le fun i hi => by
    have hq := p3 i hi
    have := hp.enough (pr.getD i 0).toNat (by omega)
    refine Int.le_trans this (Int.le_of_eq ?_)
    unfold cov
    rw [show (((pr.getD i 0).toNat : Nat) : Int) = pr.getD i 0 by omega]
  rw [sm_swap] at h1
  refine Int.le_trans h1 ?_
  rw [← hp.size, ← sm_mul]
  refine sm_le fun x hx => ?_
  have e : sm pr.length (fun i => if arH l.length (pr.getD i 0 - x) < long then p x else 0) = p x * cnL l.length long pr x pr.length := by
    unfold cnL
    rw [← sm_mul]
    exact sm_congr fun i _ => by
      by_cases h : arH l.length (pr.getD i 0 - x) < long
      · rw [if_pos h, if_pos h, Int.mul_one]
      · rw [if_neg h, if_neg h, Int.mul_zero]
  rw [e, Int.mul_comm]
  exact Int.mul_le_mul_of_nonneg_right (rcL_ge _ _ _ _ _ hx) (hp.nn x hx)

theorem wt_le {l : List Int} {long : Nat} {pr : List Int} (hn : Nds l) (hl1 : 1 ≤ long) (hl : long ≤ l.length) (hpr : isPr l.length pr) : 0 ≤ wtL l long pr ∧ wtL l long pr ≤ leL l long := by
  obtain ⟨p, hp⟩ := leL_fea hn.1 hn.2.1 hl1 hl hn.wide
  have hw := weak hp hpr
  have hr := rcL_pos hl1 hpr
  have hS := (ndL_bd hn.1 hn.2.2 hpr.2.2 pr.length (Nat.le_refl _)).1
  unfold wtL
  generalize rcL l.length long pr l.length = r at *
  generalize ndL l pr pr.length = S at *
  rw [Int.tdiv_eq_ediv_of_nonneg (by omega)]
  refine ⟨Int.ediv_nonneg (by omega) (by omega), ?_⟩
  have h3 : (S + r - 1) / r < leL l long + 1 := Int.ediv_lt_of_lt_mul (by omega) (by rw [Int.add_mul, Int.mul_comm]; omega)
  omega
theorem wt_eq {l : List Int} {long : Nat} {pr : List Int} (hn : Nds l) (hl1 : 1 ≤ long) (hl : long ≤ l.length) (hpr : isPr l.length pr) {C : Int} (hC : 0 ≤ C) (h0 : 1 ≤ leL l long) (hc : ∀ x, x < l.length → cnL l.length long pr x pr.length ≤ C) (hS : ((leL l long : Int) - 1) * C < ndL l pr pr.length) : wtL l long pr = leL l long := by
  obtain ⟨p, hp⟩ := leL_fea hn.1 hn.2.1 hl1 hl hn.wide
  have hw := weak hp hpr
  have hr := rcL_pos hl1 hpr
  have hS0 := (ndL_bd hn.1 hn.2.2 hpr.2.2 pr.length (Nat.le_refl _)).1
  have hrc := rcL_le l.length long pr hC l.length hc
  have h2 := Int.mul_le_mul_of_nonneg_left hrc (show 0 ≤ (leL l long : Int) - 1 by omega)
  unfold wtL
  generalize rcL l.length long pr l.length = r at *
  refine ceil_is hr hS0 (by omega) (by rw [Int.mul_comm]; exact hw)

/-! The elements on the way back. -/
section
variable (l : List Int) (long : Nat) (T : Int) (h0 : Nat)
def yL : Nat → List Int
  | 0 => []
  | i + 1 => if eW l long T h0 i = true then yL i ++ [(yW l long T h0 i : Int)] else yL i
end
section
variable {l : List Int} {long : Nat} {T : Int} {h0 : Nat}
theorem yL_len : ∀ i, (yL l long T h0 i).length ≤ i := by
  intro i
  induction i with
  | zero => exact Nat.le_refl _
  | succ i ih =>
    simp only [yL]
    split
    · rw [List.length_append]; simp; omega
    · omega
theorem yL_more {a : Nat} : ∀ m, ∃ D, yL l long T h0 (a + m) = yL l long T h0 a ++ D := by
  intro m
  induction m with
  | zero => exact ⟨[], (List.append_nil _).symm⟩
  | succ m ih =>
    obtain ⟨D, hD⟩ := ih
    rw [show a + (m + 1) = (a + m) + 1 by omega]
    simp only [yL]
    split
    · exact ⟨D ++ [(yW l long T h0 (a + m) : Int)], by rw [hD, List.append_assoc]⟩
    · exact ⟨D, hD⟩
theorem yL_cut {a b : Nat} (h : a ≤ b) : yL l long T h0 b = yL l long T h0 a ++ (yL l long T h0 b).drop (yL l long T h0 a).length := by
  obtain ⟨m, rfl⟩ : ∃ m, b = a + m := ⟨b - a, by omega⟩
  obtain ⟨D, hD⟩ := yL_more (l := l) (long := long) (T := T) (h0 := h0) (a := a) m
  rw [hD, List.drop_left]
theorem yL_sum (f : Int → Int) : ∀ i, sL f (yL l long T h0 i) = sm i (fun i => if eW l long T h0 i = true then f (yW l long T h0 i : Int) else 0) := by
  intro i
  induction i with
  | zero => rfl
  | succ i ih =>
    simp only [yL, sm]
    split
    · rw [sL_app, sL_one, ih]
    · rw [ih]; omega
theorem yL_mem (hn : 1 ≤ l.length) : ∀ i y, y ∈ yL l long T h0 i → 0 ≤ y ∧ y ≤ (l.length : Int) - 1 := by
  intro i
  induction i with
  | zero => intro y h; simp [yL] at h
  | succ i ih =>
    intro y h
    simp only [yL] at h
    split at h
    · rcases List.mem_append.1 h with h | h
      · exact ih y h
      · simp only [List.mem_singleton] at h
        have : yW l long T h0 i < l.length := arH_lt hn _
        omega
    · exact ih y h

/-- What the way says: the first hour whose sum still rose, and the first two steps at one hour. -/
structure IsRing (l : List Int) (long : Nat) (T : Int) (h0 a b : Nat) : Prop where
  hour : h0 < l.length
  rose : rdT l long T (l.length - 1) h0 < rdT l long T l.length h0
  first : ∀ q, q < h0 → rdT l long T l.length q = rdT l long T (l.length - 1) q
  ab : a < b
  bn : b ≤ l.length
  same : hW l long T h0 a = hW l long T h0 b
  new : ∀ i j, i < j → j < b → hW l long T h0 i ≠ hW l long T h0 j
def rgL (l : List Int) (long : Nat) (T : Int) (h0 a b : Nat) : List Int := (yL l long T h0 b).drop (yL l long T h0 a).length

theorem IsRing.uniq {h0' a' b' a b : Nat} (h : IsRing l long T h0 a b) (h' : IsRing l long T h0' a' b') : h0 = h0' ∧ a = a' ∧ b = b' := by
  have e0 : h0 = h0' := by
    rcases (by omega : h0 < h0' ∨ h0 = h0' ∨ h0' < h0) with g | g | g
    · have := h'.first h0 g; have := h.rose; omega
    · exact g
    · have := h.first h0' g; have := h'.rose; omega
  subst e0
  have eb : b = b' := by
    rcases (by omega : b < b' ∨ b = b' ∨ b' < b) with g | g | g
    · exact absurd h.same (h'.new a b h.ab g)
    · exact g
    · exact absurd h'.same (h.new a' b' h'.ab g)
  subst eb
  have e2 := h.same.trans h'.same.symm
  refine ⟨rfl, ?_, rfl⟩
  rcases (by omega : a < a' ∨ a = a' ∨ a' < a) with g | g | g
  · exact absurd e2 (h.new a a' g h'.ab)
  · exact g
  · exact absurd e2.symm (h.new a' a g h.ab)

/-- The way so far: at which step each hour was met. -/
structure Way (l : List Int) (long : Nat) (T : Int) (h0 i : Nat) (m : List Int) : Prop where
  i_n : i ≤ l.length
  len : m.length = l.length
  met : ∀ y, y < l.length → (m.getD y 0 = -1 ∧ ∀ j, j < i → hW l long T h0 j ≠ y) ∨ ∃ j, j < i ∧ hW l long T h0 j = y ∧ m.getD y 0 = (yL l long T h0 j).length
  new : ∀ j k, j < k → k < i → hW l long T h0 j ≠ hW l long T h0 k
theorem way_zero : Way l long T h0 0 (List.replicate l.length (-1)) := ⟨Nat.zero_le _, List.length_replicate, fun y hy => .inl ⟨by rw [List.getD, List.getElem?_replicate, if_pos hy]; rfl, fun j hj => absurd hj (by omega)⟩, fun j k _ h => absurd h (by omega)⟩
theorem way_new {i : Nat} {m : List Int} (hn : 1 ≤ l.length) (hh : h0 < l.length) (h : Way l long T h0 i m) (hm : m.getD (hW l long T h0 i) 0 < 0) : ∀ j, j < i → hW l long T h0 j ≠ hW l long T h0 i := by
  rcases h.met _ (hW_lt (long := long) (T := T) hn hh i) with h1 | ⟨j, h1, h2, h3⟩
  · exact h1.2
  · omega
theorem way_step {i : Nat} {m : List Int} (hn : 1 ≤ l.length) (hh : h0 < l.length) (h : Way l long T h0 i m) (hm : m.getD (hW l long T h0 i) 0 < 0) : i < l.length ∧ Way l long T h0 (i + 1) (m.set (hW l long T h0 i) ((yL l long T h0 i).length : Int)) := by
  have hlt := hW_lt (long := long) (T := T) hn hh i
  have hnew := way_new hn hh h hm
  have hdis : ∀ j k, j < k → k < i + 1 → hW l long T h0 j ≠ hW l long T h0 k := fun j k h1 h2 => by
    rcases (by omega : k < i ∨ k = i) with h3 | rfl
    · exact h.new j k h1 h3
    · exact hnew j h1
  have hin : i < l.length := by
    rcases (by have := h.i_n; omega : i < l.length ∨ i = l.length) with h1 | h1
    · exact h1
    · exfalso
      obtain ⟨a, b, g1, g2, g3⟩ := pigeon l.length (hW l long T h0) (fun i _ => hW_lt hn hh i)
      exact hdis a b g1 (by omega) g3
  refine ⟨hin, ⟨hin, by rw [List.length_set]; exact h.len, fun y hy => ?_, hdis⟩⟩
  rw [getD_set' _ _ _ _ (by rw [h.len]; exact hlt)]
  by_cases hy2 : y = hW l long T h0 i
  · rw [if_pos hy2]
    exact .inr ⟨i, by omega, hy2.symm, rfl⟩
  · rw [if_neg hy2]
    rcases h.met y hy with ⟨g1, g2⟩ | ⟨j, g1, g2, g3⟩
    · refine .inl ⟨g1, fun j hj => ?_⟩
      rcases (by omega : j < i ∨ j = i) with h3 | rfl
      · exact g2 j h3
      · exact fun e => hy2 e.symm
    · exact .inr ⟨j, by omega, g2, g3⟩
theorem way_end {i : Nat} {m : List Int} (hn : 1 ≤ l.length) (hh : h0 < l.length) (hs : rdT l long T (l.length - 1) h0 < rdT l long T l.length h0) (hf : ∀ q, q < h0 → rdT l long T l.length q = rdT l long T (l.length - 1) q) (h : Way l long T h0 i m) (hm : ¬ m.getD (hW l long T h0 i) 0 < 0) : ∃ a, IsRing l long T h0 a i ∧ m.getD (hW l long T h0 i) 0 = (yL l long T h0 a).length := by
  rcases h.met _ (hW_lt (long := long) (T := T) hn hh i) with h1 | ⟨j, h1, h2, h3⟩
  · omega
  · exact ⟨j, ⟨hh, hs, hf, h1, h.i_n, h2, h.new⟩, h3⟩

theorem rg_sum {a b : Nat} (hab : a < b) (f : Int → Int) : sL f (rgL l long T h0 a b) = sm b (fun i => if eW l long T h0 i = true then f (yW l long T h0 i : Int) else 0) - sm a (fun i => if eW l long T h0 i = true then f (yW l long T h0 i : Int) else 0) := by
  rw [← yL_sum, ← yL_sum, yL_cut (Nat.le_of_lt hab), sL_app]
  unfold rgL
  omega
theorem rg_need {a b : Nat} (hab : a < b) : sL (fun y => l.getD y.toNat 0) (rgL l long T h0 a b) = sm b (EW l long T h0) - sm a (EW l long T h0) := by
  rw [rg_sum hab]
  congr 1
theorem rg_count {a b x : Nat} (hab : a < b) : sL (fun y => if arH l.length (y - x) < long then 1 else 0) (rgL l long T h0 a b) = sm b (kW l long T h0 x) - sm a (kW l long T h0 x) := by
  have e : ∀ k, sm k (fun i => if eW l long T h0 i = true then (if arH l.length ((yW l long T h0 i : Int) - x) < long then (1 : Int) else 0) else 0) = sm k (kW l long T h0 x) := fun k => sm_congr fun i _ => by
    unfold kW
    by_cases h1 : eW l long T h0 i = true
    · by_cases h2 : arH l.length ((yW l long T h0 i : Int) - x) < long
      · rw [if_pos h1, if_pos h2, if_pos ⟨h1, h2⟩]
      · rw [if_pos h1, if_neg h2, if_neg fun h => h2 h.2]
    · rw [if_neg h1, if_neg fun h => h1 h.1]
  rw [rg_sum hab, e, e]

theorem rg_pos {a b : Nat} (hn : 1 ≤ l.length) (hl1 : 1 ≤ long) (hl : long ≤ l.length) (hT0 : 0 ≤ T) (hr : IsRing l long T h0 a b) : (yL l long T h0 a).length < (yL l long T h0 b).length := by
  obtain ⟨r1, r2, r3⟩ := ring hn hl1 hl hr.hour hr.rose hr.ab hr.bn hr.same
  rw [← rg_need hr.ab] at r2
  have hTC := Int.mul_nonneg hT0 (show 0 ≤ sm b (cW l long T h0) - sm a (cW l long T h0) by omega)
  rcases Nat.lt_or_ge (yL l long T h0 a).length (yL l long T h0 b).length with h | h
  · exact h
  · have e : rgL l long T h0 a b = [] := List.drop_of_length_le h
    rw [e, sL_nil] at r2
    omega
/-- A list whose sums are the ring's is a proof, worth one more than what was tried. -/
theorem rg_worth {D : List Int} {a b : Nat} (hn : Nds l) (hl1 : 1 ≤ long) (hl : long ≤ l.length) (hT : T = (leL l long : Int) - 1) (hT0 : 0 ≤ T) (hr : IsRing l long T h0 a b) (hlen : D.length = (rgL l long T h0 a b).length) (hsum : ∀ f, sL f D = sL f (rgL l long T h0 a b)) (hmem : ∀ y, y ∈ D → y ∈ rgL l long T h0 a b) : isPr l.length D ∧ wtL l long D = leL l long := by
  obtain ⟨r1, r2, r3⟩ := ring hn.1 hl1 hl hr.hour hr.rose hr.ab hr.bn hr.same
  have n12 := hn.2.1
  have hbn := hr.bn
  have hS : ndL l D D.length = sm b (EW l long T h0) - sm a (EW l long T h0) := by rw [ndL_sL, hsum, rg_need hr.ab]
  have hc : ∀ x, cnL l.length long D x D.length = sm b (kW l long T h0 x) - sm a (kW l long T h0 x) := fun x => by rw [cnL_sL, hsum, rg_count hr.ab]
  generalize sm b (cW l long T h0) - sm a (cW l long T h0) = C at *
  have hTC := Int.mul_nonneg hT0 (show 0 ≤ C by omega)
  have hpr : isPr l.length D := by
    refine ⟨?_, ?_, fun q hq => ?_⟩
    · rcases Nat.eq_zero_or_pos D.length with h | h
      · rw [h, show ndL l D 0 = 0 from rfl] at hS
        omega
      · exact h
    · have := yL_len (l := l) (long := long) (T := T) (h0 := h0) b
      rw [hlen]
      unfold rgL
      rw [List.length_drop]
      omega
    · have := yL_mem (l := l) (long := long) (T := T) (h0 := h0) hn.1 b _ (List.mem_of_mem_drop (hmem _ (getD_mem' hq)))
      exact this
  refine ⟨hpr, wt_eq hn hl1 hl hpr (C := C) (by omega) (by omega) (fun x hx => by rw [hc]; exact r3 x hx) ?_⟩
  rw [hS, ← hT]
  exact r2
end

theorem getD_app {l r : List Int} (j : Nat) : (l ++ r).getD j 0 = if j < l.length then l.getD j 0 else r.getD (j - l.length) 0 := by
  split
  · next h => simp [List.getD, List.getElem?_append_left h]
  · next h => simp [List.getD, List.getElem?_append_right (show l.length ≤ j by omega)]
theorem getD_take {l : List Int} {k j : Nat} (h : j < k) : (l.take k).getD j 0 = l.getD j 0 := by simp [List.getD, List.getElem?_take_of_lt h]
theorem getD_drop (l : List Int) (k i : Nat) : (l.drop k).getD i 0 = l.getD (k + i) 0 := by simp [List.getD]
theorem getD_setL {l : List Int} {i j : Nat} {x : Int} : (l.set i x).getD j 0 = if i = j ∧ j < l.length then x else l.getD j 0 := by
  by_cases h : i = j
  · subst h
    by_cases hl : i < l.length
    · rw [if_pos ⟨rfl, hl⟩]; simp [List.getD, hl]
    · rw [if_neg (fun h => hl h.2)]; simp [List.getD, List.getElem?_eq_none (show l.length ≤ i by omega), List.getElem?_eq_none (show (l.set i x).length ≤ i by rw [List.length_set]; omega)]
  · rw [if_neg (fun hh => h hh.1)]; simp [List.getD, List.getElem?_set_ne h]
theorem mem_getD {v : List Int} {x : Int} (hx : x ∈ v) : ∃ i, i < v.length ∧ v.getD i 0 = x := by
  obtain ⟨i, hi, e⟩ := List.mem_iff_getElem.1 hx
  exact ⟨i, hi, by simp [List.getD, hi, e]⟩

/-- q with x at the place j, and r behind. -/
def putL (q : List Int) (x : Int) (r : List Int) (j : Nat) : List Int := q.take j ++ [x] ++ q.drop j ++ r
theorem putL_len {q : List Int} {x : Int} {r : List Int} {j : Nat} (hj : j ≤ q.length) : (putL q x r j).length = q.length + 1 + r.length := by
  unfold putL
  simp only [List.length_append, List.length_take, List.length_drop, List.length_cons, List.length_nil]
  omega
theorem putL_get {q : List Int} {x : Int} {r : List Int} {j : Nat} (hj : j ≤ q.length) (i : Nat) :
    (putL q x r j).getD i 0 = if i < j then q.getD i 0 else if i = j then x else if i ≤ q.length then q.getD (i - 1) 0 else r.getD (i - q.length - 1) 0 := by
  have l1 : (q.take j).length = j := by rw [List.length_take]; omega
  have l2 : (q.take j ++ [x]).length = j + 1 := by rw [List.length_append, l1]; rfl
  have l3 : (q.take j ++ [x] ++ q.drop j).length = q.length + 1 := by rw [List.length_append, l2, List.length_drop]; omega
  unfold putL
  rw [getD_app, l3]
  by_cases h1 : i < q.length + 1
  · rw [if_pos h1, getD_app, l2]
    by_cases h2 : i < j + 1
    · rw [if_pos h2, getD_app, l1]
      by_cases h3 : i < j
      · rw [if_pos h3, if_pos h3, getD_take h3]
      · rw [if_neg h3, if_neg h3, if_pos (by omega), show i - j = 0 from by omega]; rfl
    · rw [if_neg h2, if_neg (by omega), if_neg (by omega), if_pos (by omega), getD_drop]
      congr 1
      omega
  · rw [if_neg h1, if_neg (by omega), if_neg (by omega), if_neg (by omega)]
    congr 1
theorem putL_swap {q : List Int} {x : Int} {r : List Int} {j : Nat} (hj : j + 1 ≤ q.length) : ((putL q x r (j + 1)).set (j + 1) (q.getD j 0)).set j x = putL q x r j := by
  have hl := putL_len (x := x) (r := r) (show j + 1 ≤ q.length from hj)
  have hl' := putL_len (x := x) (r := r) (show j ≤ q.length by omega)
  refine ext_getD (by rw [List.length_set, List.length_set, hl, hl']) (fun i hi => ?_)
  rw [List.length_set, List.length_set, hl] at hi
  rw [getD_setL, getD_setL, List.length_set, hl, putL_get (by omega), putL_get (by omega)]
  by_cases h1 : j = i
  · rw [if_pos (by omega), if_neg (by omega), if_pos (by omega)]
  · rw [if_neg (by omega)]
    by_cases h2 : j + 1 = i
    · rw [if_pos (by omega), if_neg (by omega), if_neg (by omega), if_pos (by omega)]
      congr 1
      omega
    · rw [if_neg (by omega)]
      by_cases h3 : i < j
      · rw [if_pos (by omega), if_pos (by omega)]
      · rw [if_neg (show ¬ i < j + 1 by omega), if_neg (show ¬ i = j + 1 by omega), if_neg (show ¬ i < j by omega), if_neg (show ¬ i = j by omega)]

/-- Where x comes to rest, going down from the place j. -/
def stopJ (lt : Int → Int → Bool) (q : List Int) (x : Int) : Nat → Nat
  | 0 => 0
  | j + 1 => if lt x (q.getD j 0) = true then stopJ lt q x j else j + 1
theorem stopJ_le (lt : Int → Int → Bool) (q : List Int) (x : Int) : ∀ j, stopJ lt q x j ≤ j := by
  intro j
  induction j with
  | zero => exact Nat.le_refl _
  | succ j ih => simp only [stopJ]; split <;> omega
def insP (lt : Int → Int → Bool) (q : List Int) (x : Int) : List Int := putL q x [] (stopJ lt q x q.length)
/-- The first k of a list, sorted. -/
def sortP (lt : Int → Int → Bool) (xs : List Int) : Nat → List Int
  | 0 => []
  | k + 1 => insP lt (sortP lt xs k) (xs.getD k 0)
theorem sortP_len (lt : Int → Int → Bool) (xs : List Int) : ∀ k, (sortP lt xs k).length = k := by
  intro k
  induction k with
  | zero => rfl
  | succ k ih => simp only [sortP, insP]; rw [putL_len (stopJ_le _ _ _ _), ih]; rfl
theorem putL_nil {q : List Int} {x : Int} {r : List Int} {j : Nat} : putL q x r j = putL q x [] j ++ r := by unfold putL; simp
theorem putL_mem {q : List Int} {x y : Int} {r : List Int} {j : Nat} : y ∈ putL q x r j ↔ y ∈ q ∨ y = x ∨ y ∈ r := by
  unfold putL
  have h : y ∈ q ↔ y ∈ q.take j ∨ y ∈ q.drop j := by rw [← List.mem_append, List.take_append_drop]
  simp only [List.mem_append, List.mem_singleton, h]
  constructor
  · rintro (((h | h) | h) | h)
    · exact .inl (.inl h)
    · exact .inr (.inl h)
    · exact .inl (.inr h)
    · exact .inr (.inr h)
  · rintro ((h | h) | h | h)
    · exact .inl (.inl (.inl h))
    · exact .inl (.inr h)
    · exact .inl (.inl (.inr h))
    · exact .inr h
theorem sortP_mem {lt : Int → Int → Bool} {xs : List Int} {y : Int} : ∀ {k}, k ≤ xs.length → y ∈ sortP lt xs k → y ∈ xs := by
  intro k
  induction k with
  | zero => intro _ h; simp [sortP] at h
  | succ k ih =>
    intro hk h
    simp only [sortP, insP] at h
    rcases putL_mem.1 h with h | h | h
    · exact ih (by omega) h
    · rw [h]; exact getD_mem' (by omega)
    · simp at h
def ltI (a b : Int) : Bool := decide (a < b)
theorem isNaN_pure (a : Int) : APure Try.prog 99 [.int a] (fun R => R = .bool false) := by
  refine APure_of (X := cx 6) (cx_ok 6) rfl (rs := [(.tmp 2, 4)]) Try.func99 (by decide) rfl rfl rfl (by simp [cx]) (by simp [NoFr]) ?_
  intro _
  ((conv => whnf); repeat (refine stepK_in ?_; (repeat (first | refine seqQ_n ?_ | refine blockQ_n ?_ | refine awp_skip ?_ | refine awp_seq ?_ | refine awp_block ?_)); (conv => whnf)))
  exact ⟨trivial, Qb (by simp)⟩
theorem Less_pure (a b : Int) : APure Try.prog 87 [.int a, .int b] (fun R => R = .bool (decide (a < b))) := by
  refine APure_of (X := cx 17) (cx_ok 17) rfl (rs := [(.tmp 4, 4)]) Try.func87 (by decide) rfl rfl rfl (by simp [cx]) (by simp [NoFr]) ?_
  intro _
  ((conv => whnf); repeat (refine stepK_in ?_; (repeat (first | refine seqQ_n ?_ | refine blockQ_n ?_ | refine awp_skip ?_ | refine awp_seq ?_ | refine awp_block ?_)); (conv => whnf)))
  refine APure.to (isNaN_pure a) ?_
  ((conv => whnf); repeat (refine stepK_in ?_; (repeat (first | refine seqQ_n ?_ | refine blockQ_n ?_ | refine awp_skip ?_ | refine awp_seq ?_ | refine awp_block ?_)); (conv => whnf)))
  exact ⟨trivial, rfl⟩
theorem sort_one {xs : List Int} (h1 : 1 ≤ xs.length) : xs = sortP ltI xs 1 ++ xs.drop 1 := by
  refine ext_getD (by rw [List.length_append, sortP_len, List.length_drop]; omega) (fun j hj => ?_)
  rw [getD_app, sortP_len]
  by_cases h : j < 1
  · rw [if_pos h, show j = 0 from by omega]; rfl
  · rw [if_neg h, getD_drop]; congr 1; omega
theorem sort_put {xs : List Int} {k : Nat} (hk' : k < xs.length) : sortP ltI xs k ++ xs.drop k = putL (sortP ltI xs k) (xs.getD k 0) (xs.drop (k + 1)) k := by
  have hql := sortP_len ltI xs k
  unfold putL
  rw [List.take_of_length_le (by omega), List.drop_of_length_le (l := sortP ltI xs k) (by omega)]
  simp only [List.append_nil, List.append_assoc]
  congr 1
  rw [List.drop_eq_getElem_cons hk']
  simp [List.getD, hk']


theorem getD_pre (P L : List Int) (i : Nat) : (P ++ L).getD (P.length + i) 0 = L.getD i 0 := by
  rw [getD_app, if_neg (by omega), Nat.add_sub_cancel_left]
theorem set_pre (P L : List Int) (i : Nat) (u : Int) : (P ++ L).set (P.length + i) u = P ++ L.set i u := by
  rw [List.set_append_right _ _ (by omega), Nat.add_sub_cancel_left]
def wrP : List FuncId := [71, 53, 54, 73, 81]

set_option maxRecDepth 100000 in
theorem insOrd (ver : Nat) (P xs : List Int) (h1 : 1 ≤ xs.length) (h2 : P.length + xs.length ≤ 1000) :
    ACM Try.prog 81 [.sl 6 ver P.length xs.length, .int 0, .int xs.length] [none, none, none, none, none, none, some ⟨3, 1, ver, .il (P ++ xs)⟩] (fun _ M' => M' = [none, none, none, none, none, none, some ⟨3, 1, ver, .il (P ++ (sortP ltI xs xs.length))⟩]) := by
  refine ACM_of (T := tab) (wr := wrP) tab_ok Try.func81 (by decide) rfl (Nat.le_of_ble_eq_true rfl) (fun nb => ?_)
  ((conv => whnf); repeat (refine stepK_in ?_; (repeat (first | refine seqQ_n ?_ | refine blockQ_n ?_ | refine awp_skip ?_ | refine awp_seq ?_ | refine awp_block ?_)); (conv => whnf)))
  refine ⟨inr (by omega), ?_⟩
  ((conv => whnf); repeat (refine stepK_in ?_; (repeat (first | refine seqQ_n ?_ | refine blockQ_n ?_ | refine awp_skip ?_ | refine awp_seq ?_ | refine awp_block ?_)); (conv => whnf)))
  refine AW_loop (X := ⟨Try.prog, tab, wrP, 49, nb, false⟩) tab_ok [0, 1, 2, 6] (fun vs M => ∃ k : Nat, 1 ≤ k ∧ k ≤ xs.length ∧ vs = [.sl 6 ver P.length xs.length, .int 0, .int xs.length, .int k] ∧ M = [none, none, none, none, none, none, some ⟨3, 1, ver, .il (P ++ (sortP ltI xs k ++ xs.drop k))⟩])
    (fun vs _ => xs.length - (vs.getD 3 .any).toInt.toNat) ?_ ?_
  · refine ⟨1, Nat.le_refl _, h1, rfl, ?_⟩
    exact congrArg (fun l => [none, none, none, none, none, none, some (⟨3, 1, ver, .il (P ++ l)⟩ : Ob)]) (sort_one h1)
  rintro vs M ⟨k, hk1, hk, rfl, rfl⟩
  ((conv => whnf); repeat (refine stepK_in ?_; (repeat (first | refine seqQ_n ?_ | refine blockQ_n ?_ | refine awp_skip ?_ | refine awp_seq ?_ | refine awp_block ?_)); (conv => whnf)))
  refine br_dec (fun hlt2 => ?_) (fun hge => ?_)
  · have hk' : k < xs.length := by omega
    have hql := sortP_len ltI xs k
    have hnx : sortP ltI xs (k + 1) = insP ltI (sortP ltI xs k) (xs.getD k 0) := rfl
    have e0 : sortP ltI xs k ++ xs.drop k = putL (sortP ltI xs k) (xs.getD k 0) (xs.drop (k + 1)) k := sort_put hk'
    rw [e0]
    generalize sortP ltI xs k = q at *
    generalize xs.getD k 0 = x at *
    ((conv => whnf); repeat (refine stepK_in ?_; (repeat (first | refine seqQ_n ?_ | refine blockQ_n ?_ | refine awp_skip ?_ | refine awp_seq ?_ | refine awp_block ?_)); (conv => whnf)))
    refine AW_loop (X := ⟨Try.prog, tab, wrP, 49, nb, false⟩) tab_ok [0, 1, 2, 6, 7] (fun vs M => ∃ j : Nat, j ≤ k ∧ stopJ ltI q x k = stopJ ltI q x j ∧ vs = [.sl 6 ver P.length xs.length, .int 0, .int xs.length, .int k, .int j] ∧ M = [none, none, none, none, none, none, some ⟨3, 1, ver, .il (P ++ (putL q x (xs.drop (k + 1)) j))⟩])
      (fun vs _ => (vs.getD 4 .any).toInt.toNat) ?_ ?_
    · exact ⟨k, Nat.le_refl _, rfl, rfl, rfl⟩
    rintro vs M ⟨j, hj, hs, rfl, rfl⟩
    have hpl := putL_len (q := q) (x := x) (r := xs.drop (k + 1)) (j := j) (by omega)
    rw [List.length_drop] at hpl
    have hpl2 : (P ++ putL q x (xs.drop (k + 1)) j).length = P.length + xs.length := by rw [List.length_append, hpl]; omega
    have fin : stopJ ltI q x j = j → putL q x (xs.drop (k + 1)) j = sortP ltI xs (k + 1) ++ xs.drop (k + 1) := fun h => by
      rw [hnx]
      unfold insP
      rw [hql, hs, h, ← putL_nil]
    ((conv => whnf); repeat (refine stepK_in ?_; (repeat (first | refine seqQ_n ?_ | refine blockQ_n ?_ | refine awp_skip ?_ | refine awp_seq ?_ | refine awp_block ?_)); (conv => whnf)))
    refine AW_draw (X := ⟨Try.prog, tab, wrP, 49, nb, false⟩) tab_ok mixed (by kernel_rfl) ?_
    ((conv => whnf); repeat (refine stepK_in ?_; (repeat (first | refine seqQ_n ?_ | refine blockQ_n ?_ | refine awp_skip ?_ | refine awp_seq ?_ | refine awp_block ?_)); (conv => whnf)))
    refine br_dec (fun hj0 => ?_) (fun hj0 => ?_)
    · obtain ⟨i, rfl⟩ : ∃ i, j = i + 1 := ⟨j - 1, by omega⟩
      have e1 : ((i + 1 : Nat) : Int) - 1 = i := by omega
      have g1 : (P ++ putL q x (xs.drop (k + 1)) (i + 1)).getD (P.length + ((i + 1 : Nat) : Int).toNat) 0 = x := by
        rw [Int.toNat_natCast, getD_pre, putL_get (by omega), if_neg (by omega), if_pos rfl]
      have g2 : (P ++ putL q x (xs.drop (k + 1)) (i + 1)).getD (P.length + (((i + 1 : Nat) : Int) - 1).toNat) 0 = q.getD i 0 := by
        rw [e1, Int.toNat_natCast, getD_pre, putL_get (by omega), if_pos (by omega)]
      ((conv => whnf); repeat (refine stepK_in ?_; (repeat (first | refine seqQ_n ?_ | refine blockQ_n ?_ | refine awp_skip ?_ | refine awp_seq ?_ | refine awp_block ?_)); (conv => whnf)))
      repeat ((first | refine eqn_self ?_ | refine ⟨by omega, ?_⟩ | refine ⟨inr (by omega), ?_⟩); ((conv => whnf); repeat (refine stepK_in ?_; (repeat (first | refine seqQ_n ?_ | refine blockQ_n ?_ | refine awp_skip ?_ | refine awp_seq ?_ | refine awp_block ?_)); (conv => whnf))))
      have hltk : ltI x (q.getD i 0) = decide (x < q.getD i 0) := rfl
      have hcall : ∀ u v : Int, u = x → v = q.getD i 0 → APure Try.prog 87 [.int u, .int v] (fun R => R = .bool (decide (x < q.getD i 0))) := fun u v hu hv => by rw [hu, hv]; exact Less_pure _ _
      refine ⟨.bool (decide (x < q.getD i 0)), ?_, ?_⟩
      · ((conv => whnf); repeat (refine stepK_in ?_; (repeat (first | refine seqQ_n ?_ | refine blockQ_n ?_ | refine awp_skip ?_ | refine awp_seq ?_ | refine awp_block ?_)); (conv => whnf)))
        exact hcall _ _ g1 g2
      ((conv => whnf); repeat (refine stepK_in ?_; (repeat (first | refine seqQ_n ?_ | refine blockQ_n ?_ | refine awp_skip ?_ | refine awp_seq ?_ | refine awp_block ?_)); (conv => whnf)))
      refine br_dec (fun hc => ?_) (fun hc => ?_)
      · have hs' : stopJ ltI q x k = stopJ ltI q x i := by
          rw [hs]
          simp only [stopJ]
          rw [hltk, if_pos (decide_eq_true hc)]
        ((conv => whnf); repeat (refine stepK_in ?_; (repeat (first | refine seqQ_n ?_ | refine blockQ_n ?_ | refine awp_skip ?_ | refine awp_seq ?_ | refine awp_block ?_)); (conv => whnf)))
        refine AW_draw (X := ⟨Try.prog, tab, wrP, 49, nb, false⟩) tab_ok mixed (by kernel_rfl) ?_
        ((conv => whnf); repeat (refine stepK_in ?_; (repeat (first | refine seqQ_n ?_ | refine blockQ_n ?_ | refine awp_skip ?_ | refine awp_seq ?_ | refine awp_block ?_)); (conv => whnf)))
        repeat ((first | refine eqn_self ?_ | refine ⟨by omega, ?_⟩ | refine ⟨inr (by omega), ?_⟩ | refine ldk (by omega) ?_); ((conv => whnf); repeat (refine stepK_in ?_; (repeat (first | refine seqQ_n ?_ | refine blockQ_n ?_ | refine awp_skip ?_ | refine awp_seq ?_ | refine awp_block ?_)); (conv => whnf))))
        refine ⟨⟨i, by omega, hs', ?_, ?_⟩, ?_⟩
        · rw [e1]; rfl
        · have hset : ∀ (p1 p2 : Nat) (u v : Int), p1 = P.length + (i + 1) → p2 = P.length + i → u = q.getD i 0 → v = x → ((P ++ putL q x (xs.drop (k + 1)) (i + 1)).set p1 u).set p2 v = P ++ putL q x (xs.drop (k + 1)) i := by
            rintro _ _ _ _ rfl rfl rfl rfl
            rw [set_pre, set_pre, putL_swap (by omega)]
          exact congrArg (fun l => [none, none, none, none, none, none, some (⟨3, 1, ver, .il l⟩ : Ob)]) (hset _ _ _ _ (by omega) (by omega) g2 g1)
        · simp [V.toInt, sel, Env.get]
      · have hs' : stopJ ltI q x (i + 1) = i + 1 := by
          simp only [stopJ]
          rw [hltk, if_neg (by rw [decide_eq_true_iff]; exact hc)]
        rw [fin hs']
        ((conv => whnf); repeat (refine stepK_in ?_; (repeat (first | refine seqQ_n ?_ | refine blockQ_n ?_ | refine awp_skip ?_ | refine awp_seq ?_ | refine awp_block ?_)); (conv => whnf)))
        refine ⟨inr (by omega), ?_⟩
        ((conv => whnf); repeat (refine stepK_in ?_; (repeat (first | refine seqQ_n ?_ | refine blockQ_n ?_ | refine awp_skip ?_ | refine awp_seq ?_ | refine awp_block ?_)); (conv => whnf)))
        refine ⟨⟨k + 1, by omega, by omega, rfl, rfl⟩, ?_⟩
        simp [V.toInt, sel, Env.get]; omega
    · have hj1 : j = 0 := by omega
      rw [fin (by rw [hj1]; rfl)]
      ((conv => whnf); repeat (refine stepK_in ?_; (repeat (first | refine seqQ_n ?_ | refine blockQ_n ?_ | refine awp_skip ?_ | refine awp_seq ?_ | refine awp_block ?_)); (conv => whnf)))
      refine ⟨inr (by omega), ?_⟩
      ((conv => whnf); repeat (refine stepK_in ?_; (repeat (first | refine seqQ_n ?_ | refine blockQ_n ?_ | refine awp_skip ?_ | refine awp_seq ?_ | refine awp_block ?_)); (conv => whnf)))
      refine ⟨⟨k + 1, by omega, by omega, rfl, rfl⟩, ?_⟩
      simp [V.toInt, sel, Env.get]; omega
  · obtain rfl : k = xs.length := by omega
    ((conv => whnf); repeat (refine stepK_in ?_; (repeat (first | refine seqQ_n ?_ | refine blockQ_n ?_ | refine awp_skip ?_ | refine awp_seq ?_ | refine awp_block ?_)); (conv => whnf)))
    refine ⟨_, rfl, ?_⟩
    simp


def okB : List FuncId := [74, 91, 90]
def cutsB (_ _ : Nat) : Option Nat := none
set_option maxRecDepth 100000 in
theorem okB_ok : okB.all (okFn Try.prog cutsB) = true := by kernel_rfl
noncomputable def evlB : Ev := ⟨Try.prog, tab, wrP, okB, [], cutsB, 500, okB_ok, [], []⟩
theorem wrap_small {n : Nat} (h : n ≤ 1000) : IntKind.u64.wrap (n : Int) = n := by
  simp [IntKind.wrap, IntKind.signed, IntKind.bits]
  omega
theorem bitsLen_eval (v : Int) (c : Int) (h : evFn evlB 12 true 74 [.lit (.int .u64 v)] [] = some (.int c, [])) : APure Try.prog 74 [.lit (.int .u64 v)] (fun R => R = .int c) :=
  APure_eval (E := evlB) tab_ok mixed (by intro q hq; cases hq) (by simp [NoFr]) h
set_option maxRecDepth 100000 in
theorem bitsLen_pure (n : Nat) (h : n ≤ 12) (v : Int) (hv : v = n) : ∃ c : Int, APure Try.prog 74 [.lit (.int .u64 v)] (fun R => R = .int c) := by
  subst hv
  rcases (by omega : n = 0 ∨ n = 1 ∨ n = 2 ∨ n = 3 ∨ n = 4 ∨ n = 5 ∨ n = 6 ∨ n = 7 ∨ n = 8 ∨ n = 9 ∨ n = 10 ∨ n = 11 ∨ n = 12) with rfl | rfl | rfl | rfl | rfl | rfl | rfl | rfl | rfl | rfl | rfl | rfl | rfl
  · exact ⟨0, bitsLen_eval 0 0 (by kernel_rfl)⟩
  · exact ⟨1, bitsLen_eval 1 1 (by kernel_rfl)⟩
  · exact ⟨2, bitsLen_eval 2 2 (by kernel_rfl)⟩
  · exact ⟨2, bitsLen_eval 3 2 (by kernel_rfl)⟩
  · exact ⟨3, bitsLen_eval 4 3 (by kernel_rfl)⟩
  · exact ⟨3, bitsLen_eval 5 3 (by kernel_rfl)⟩
  · exact ⟨3, bitsLen_eval 6 3 (by kernel_rfl)⟩
  · exact ⟨3, bitsLen_eval 7 3 (by kernel_rfl)⟩
  · exact ⟨4, bitsLen_eval 8 4 (by kernel_rfl)⟩
  · exact ⟨4, bitsLen_eval 9 4 (by kernel_rfl)⟩
  · exact ⟨4, bitsLen_eval 10 4 (by kernel_rfl)⟩
  · exact ⟨4, bitsLen_eval 11 4 (by kernel_rfl)⟩
  · exact ⟨4, bitsLen_eval 12 4 (by kernel_rfl)⟩

theorem pdqOrd (ver : Nat) (c : Int) (P xs : List Int) (h1 : 1 ≤ xs.length) (h2 : P.length + xs.length ≤ 12) :
    ACM Try.prog 73 [.sl 6 ver P.length xs.length, .int 0, .int xs.length, .int c] [none, none, none, none, none, none, some ⟨3, 1, ver, .il (P ++ xs)⟩] (fun _ M' => M' = [none, none, none, none, none, none, some ⟨3, 1, ver, .il (P ++ sortP ltI xs xs.length)⟩]) := by
  refine ACM_of (T := tab) (wr := wrP) tab_ok Try.func73 (by decide) rfl (Nat.le_of_ble_eq_true rfl) (fun nb => ?_)
  ((conv => whnf); repeat (refine stepK_in ?_; (repeat (first | refine seqQ_n ?_ | refine blockQ_n ?_ | refine awp_skip ?_ | refine awp_seq ?_ | refine awp_block ?_)); (conv => whnf)))
  refine AW_loop (X := ⟨Try.prog, tab, wrP, 134, nb, false⟩) tab_ok [0, 1, 2, 3, 8, 9] (fun vs M => vs = [.sl 6 ver P.length xs.length, .int 0, .int xs.length, .int c, .bool true, .bool true] ∧ M = [none, none, none, none, none, none, some ⟨3, 1, ver, .il (P ++ xs)⟩]) (fun _ _ => 0) ?_ ?_
  · exact ⟨rfl, rfl⟩
  rintro vs M ⟨rfl, rfl⟩
  ((conv => whnf); repeat (refine stepK_in ?_; (repeat (first | refine seqQ_n ?_ | refine blockQ_n ?_ | refine awp_skip ?_ | refine awp_seq ?_ | refine awp_block ?_)); (conv => whnf)))
  refine ⟨inr (by omega), ?_⟩
  ((conv => whnf); repeat (refine stepK_in ?_; (repeat (first | refine seqQ_n ?_ | refine blockQ_n ?_ | refine awp_skip ?_ | refine awp_seq ?_ | refine awp_block ?_)); (conv => whnf)))
  refine br_dec (fun _ => ?_) (fun h => absurd (show (xs.length : Int) - 0 ≤ 12 by omega) h)
  ((conv => whnf); repeat (refine stepK_in ?_; (repeat (first | refine seqQ_n ?_ | refine blockQ_n ?_ | refine awp_skip ?_ | refine awp_seq ?_ | refine awp_block ?_)); (conv => whnf)))
  refine (insOrd ver P xs h1 (by omega)).mono ?_
  rintro R M' rfl
  ((conv => whnf); repeat (refine stepK_in ?_; (repeat (first | refine seqQ_n ?_ | refine blockQ_n ?_ | refine awp_skip ?_ | refine awp_seq ?_ | refine awp_block ?_)); (conv => whnf)))
  exact ⟨_, rfl, rfl⟩

theorem sortI (ver : Nat) (P xs : List Int) (h1 : 1 ≤ xs.length) (h2 : P.length + xs.length ≤ 12) :
    ACM Try.prog 54 [.sl 6 ver P.length xs.length] [none, none, none, none, none, none, some ⟨3, 1, ver, .il (P ++ xs)⟩] (fun R M' => R = V.un ∧ M' = [none, none, none, none, none, none, some ⟨3, 1, ver, .il (P ++ sortP ltI xs xs.length)⟩]) := by
  refine ACM_of (T := tab) (wr := wrP) tab_ok Try.func54 (by decide) rfl (Nat.le_of_ble_eq_true rfl) (fun nb => ?_)
  obtain ⟨c, hc⟩ := bitsLen_pure xs.length (by omega) _ (wrap_small (by omega))
  ((conv => whnf); repeat (refine stepK_in ?_; (repeat (first | refine seqQ_n ?_ | refine blockQ_n ?_ | refine awp_skip ?_ | refine awp_seq ?_ | refine awp_block ?_)); (conv => whnf)))
  refine eqn_self ?_
  ((conv => whnf); repeat (refine stepK_in ?_; (repeat (first | refine seqQ_n ?_ | refine blockQ_n ?_ | refine awp_skip ?_ | refine awp_seq ?_ | refine awp_block ?_)); (conv => whnf)))
  refine APure.to hc ?_
  ((conv => whnf); repeat (refine stepK_in ?_; (repeat (first | refine seqQ_n ?_ | refine blockQ_n ?_ | refine awp_skip ?_ | refine awp_seq ?_ | refine awp_block ?_)); (conv => whnf)))
  refine (pdqOrd ver c P xs h1 (by omega)).mono ?_
  rintro R M' rfl
  ((conv => whnf); repeat (refine stepK_in ?_; (repeat (first | refine seqQ_n ?_ | refine blockQ_n ?_ | refine awp_skip ?_ | refine awp_seq ?_ | refine awp_block ?_)); (conv => whnf)))
  exact ⟨_, rfl, rfl, rfl⟩

/-- The same among others. -/
theorem sortB (o0 o1 o2 o3 o4 o5 : Option Ob) (ver : Nat) (P xs : List Int) (h1 : 1 ≤ xs.length) (h2 : P.length + xs.length ≤ 12) :
    ACM Try.prog 54 [.sl 6 ver P.length xs.length] [o0, o1, o2, o3, o4, o5, some ⟨3, 1, ver, .il (P ++ xs)⟩] (fun _ M' => M' = [o0, o1, o2, o3, o4, o5, some ⟨3, 1, ver, .il (P ++ sortP ltI xs xs.length)⟩]) := by
  refine ACM.mono (ACM_frame (fun t => Nat.beq t 6) ?ha ?hx ?hxf ?hm ?hmf (Q := fun _ M' => M' = [none, none, none, none, none, none, some ⟨3, 1, ver, .il (P ++ sortP ltI xs xs.length)⟩]) (ACM.mono (by exact sortI ver P xs h1 h2) ?hq)) ?hpost
  case ha => intro t ht; have := Nat.eq_of_beq_eq_true ht; subst this; exact Nat.lt_of_lt_of_le (Nat.lt_succ_self _) (Nat.le_refl _)
  case hx => exact ⟨rfl, trivial⟩
  case hxf => exact ⟨trivial, trivial⟩
  case hm => exact (show NamedM (fun t => Nat.beq t 6) [none, none, none, none, none, none, some ⟨3, 1, ver, .il (P ++ xs)⟩] from ⟨trivial, trivial⟩)
  case hmf => exact (show NoFrM [none, none, none, none, none, none, some ⟨3, 1, ver, .il (P ++ xs)⟩] from ⟨trivial, trivial⟩)
  case hq =>
    rintro R M' ⟨rfl, rfl⟩
    exact ⟨trivial, ⟨trivial, trivial⟩, rfl, rfl⟩
  case hpost =>
    rintro R M'' ⟨M1, rfl, rfl⟩
    rfl

end Go.Tri
