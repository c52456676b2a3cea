/-
  LAW: TurnMerged.
-/
import Derived.Test.YtjcjjakmggfmcaaC1
namespace Go.Tri
open Go.Proofs

theorem view_all (l : List Int) : (l.drop 0).take l.length = l := by simp

theorem getD_setL (l : List Int) (a i : Nat) (v : Int) (ha : a < l.length) : (l.set a v).getD i 0 = if i = a then v else l.getD i 0 := by
  simp only [List.getD, List.getElem?_set]
  by_cases h : a = i
  · subst h; simp [ha]
  · simp [h, Ne.symm h]
theorem getD_erase (l : List Int) (b i : Nat) : (l.eraseIdx b).getD i 0 = l.getD (if i < b then i else i + 1) 0 := by
  simp only [List.getD, List.getElem?_eraseIdx]
  split <;> rfl

theorem sumL_app (l m : List Int) : sumL (l ++ m) = sumL l + sumL m := by
  have : ∀ (m : List Int) (a : Int), m.foldl (· + ·) a = a + m.foldl (· + ·) 0 := by
    intro m
    induction m with
    | nil => simp
    | cons x r ih => intro a; simp only [List.foldl_cons]; rw [ih (a + x), ih (0 + x)]; omega
  unfold sumL
  rw [List.foldl_append, this]
theorem sumL_cons (x : Int) (l : List Int) : sumL (x :: l) = x + sumL l := by rw [show x :: l = [x] ++ l from rfl, sumL_app]; simp [sumL]
theorem sumL_erase (l : List Int) : ∀ b, b < l.length → sumL (l.eraseIdx b) + l.getD b 0 = sumL l := by
  induction l with
  | nil => intro b h; simp at h
  | cons x r ih =>
    intro b h
    cases b with
    | zero => simp [sumL_cons]; omega
    | succ b => rw [List.eraseIdx_cons_succ, sumL_cons, sumL_cons, List.getD_cons_succ]; have := ih b (by simpa using h); omega
theorem sumL_set (l : List Int) (v : Int) : ∀ a, a < l.length → sumL (l.set a v) + l.getD a 0 = sumL l + v := by
  induction l with
  | nil => intro b h; simp at h
  | cons x r ih =>
    intro b h
    cases b with
    | zero => simp [sumL_cons]; omega
    | succ b => rw [List.set_cons_succ, sumL_cons, sumL_cons, List.getD_cons_succ]; have := ih b (by simpa using h); omega

theorem erase_step (s : List Int) (b k : Nat) (hk : k < s.length) : (s.take (k + 1)).eraseIdx b = if k = b then (s.take k).eraseIdx b else (s.take k).eraseIdx b ++ [s.getD k 0] := by
  rw [take_succ_getD _ _ hk]
  have hl : (s.take k).length = k := by rw [List.length_take]; omega
  split
  · next h =>
    subst h
    rw [List.eraseIdx_append_of_length_le (by omega), hl, List.eraseIdx_of_length_le (l := s.take k) (by omega)]
    simp
  · next h =>
    by_cases h2 : b < k
    · rw [List.eraseIdx_append_of_lt_length (by omega)]
    · rw [List.eraseIdx_of_length_le (by simp; omega), List.eraseIdx_of_length_le (l := s.take k) (by omega)]

/-- The shares of the merged drivers. -/
def mgS (s : List Int) (a b : Nat) : List Int := (s.eraseIdx b).set a ((s.eraseIdx b).getD a 0 + s.getD b 0)
section
variable {s l : List Int} {a b : Nat}
theorem mgS_len (hb : b < s.length) : (mgS s a b).length = s.length - 1 := by unfold mgS; rw [List.length_set, List.length_eraseIdx_of_lt hb]
theorem mgS_get (hb : b < s.length) (hab : a < b) (i : Nat) : (mgS s a b).getD i 0 = if i = a then s.getD a 0 + s.getD b 0 else s.getD (if i < b then i else i + 1) 0 := by
  unfold mgS
  rw [getD_setL _ _ _ _ (by rw [List.length_eraseIdx_of_lt hb]; omega), getD_erase, getD_erase, if_pos hab]
theorem mgS_sum (hb : b < s.length) (hab : a < b) : sumL (mgS s a b) = sumL s := by
  have h1 := sumL_erase s b hb
  have h2 := sumL_set (s.eraseIdx b) ((s.eraseIdx b).getD a 0 + s.getD b 0) a (by rw [List.length_eraseIdx_of_lt hb]; omega)
  unfold mgS
  omega
theorem mem_getD {l : List Int} {x : Int} (h : x ∈ l) : ∃ i, i < l.length ∧ l.getD i 0 = x := by
  obtain ⟨i, hi, rfl⟩ := List.getElem_of_mem h
  exact ⟨i, hi, by simp [List.getD, hi]⟩
theorem mgS_shs (hs : Shs s) (hb : b < s.length) (hab : a < b) (h20 : s.getD a 0 + s.getD b 0 ≤ 20) : Shs (mgS s a b) := by
  refine ⟨by rw [mgS_len hb]; have := hs.1; omega, by rw [mgS_len hb]; omega, fun x hx => ?_⟩
  obtain ⟨i, hi, rfl⟩ := mem_getD hx
  rw [mgS_len hb] at hi
  rw [mgS_get hb hab]
  have g := fun j (hj : j < s.length) => hs.2.2 _ (getD_mem' hj)
  split
  · have h1 := g a (by omega)
    have h2 := g b hb
    omega
  · exact g _ (by split <;> omega)

theorem cnt_merge (hab : a < b) (i : Nat) : ∀ t, t ≤ l.length → cnt (l.map (mergeD a b)) t i = if i = a then cnt l t a + cnt l t b else cnt l t (if i < b then i else i + 1) := by
  intro t
  induction t with
  | zero => intro _; simp [cnt]
  | succ t ih =>
    intro ht
    have hg : (l.map (mergeD a b)).getD t 0 = mergeD a b (l.getD t 0) := by simp [List.getD, (show t < l.length by omega)]
    rw [cnt_succ _ t (by simp; omega), ih (by omega), cnt_succ l t ht, cnt_succ l t ht, cnt_succ l t ht, hg]
    generalize l.getD t 0 = x
    unfold mergeD
    repeat' split
    all_goals omega

theorem dvx_merge (hb : b < s.length) (hab : a < b) {t : Nat} (ht : t ≤ l.length) (i : Nat) : dvx (mgS s a b) (l.map (mergeD a b)) t i = if i = a then dvx s l t a + dvx s l t b else dvx s l t (if i < b then i else i + 1) := by
  unfold dvx
  rw [cnt_merge hab i t ht, mgS_sum hb hab, mgS_get hb hab]
  split
  · rw [Int.add_mul, Int.mul_add]; omega
  · rfl

theorem dv_merge (hb : b < s.length) (hab : a < b) (h0 : 0 ≤ dv s l l.length) : dv (mgS s a b) (l.map (mergeD a b)) l.length ≤ 2 * dv s l l.length := by
  refine (dv_le _).2 ⟨by omega, fun u h1 h2 i hi => ?_⟩
  rw [mgS_len hb] at hi
  rw [dvx_merge hb hab h2]
  have g := fun j (hj : j < s.length) => dv_ge (s := s) (l := l) h1 h2 hj
  split
  · have h1 := g a (by omega)
    have h2 := g b hb
    omega
  · have := g (if i < b then i else i + 1) (by split <;> omega)
    omega

theorem merge_days (hl : Dys l s.length) (hb : b < s.length) (hab : a < b) : Dys (l.map (mergeD a b)) (mgS s a b).length := by
  refine ⟨by simpa using hl.1, fun x hx => ?_⟩
  obtain ⟨y, hy, rfl⟩ := List.mem_map.1 hx
  have := hl.2 y hy
  rw [mgS_len hb]
  unfold mergeD
  repeat' split
  all_goals omega
end

theorem daysE_of {l : List Int} {n : Nat} (h : Dys l n) : daysE l n = 0 := by
  unfold daysE
  rw [if_neg (by have := h.1; omega), if_pos]
  rw [List.all_eq_true]
  intro x hx
  have := h.2 x hx
  simp; omega
theorem askedE_of {s l : List Int} (hs : Shs s) (hl : Dys l s.length) : askedE s l = 0 := by
  unfold askedE
  have : sharesE s = 0 := sharesE_of (by have := hs.1; omega) (by have := hs.2.1; omega) hs.2.2
  rw [if_pos this, daysE_of hl]
theorem mergedE_of {l : List Int} {n : Nat} (hl : Dys l n) (hn : n ≤ 8) {a b : Nat} (hb : b < n) (hab : a < b) : mergedE l a b = 0 := by
  unfold mergedE
  rw [if_neg (by have := hl.1; omega), if_pos]
  simp only [Bool.and_eq_true, decide_eq_true_eq, List.all_eq_true]
  refine ⟨⟨⟨fun x hx => ?_, by omega⟩, by omega⟩, by omega⟩
  have := hl.2 x hx
  omega
end Go.Tri
