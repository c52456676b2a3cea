/-
  COUNTS: in how many ways an amount is paid, and with how few stamps.
-/
import Derived.Test.YtnjojmjcjhcnaaaB9
namespace Go.Tri

def sumK (f : Nat → Nat) : Nat → Nat
  | 0 => 0
  | k + 1 => f k + sumK f k
/-- The lists of m stamps that sum to a. -/
def cE : Nat → List Int → Int → Nat
  | 0, _, a => if a = 0 then 1 else 0
  | m + 1, vals, a => sumK (fun k => cE m (vals.drop k) (a - vals.getD k 0)) vals.length

theorem sumK_congr {f g : Nat → Nat} : ∀ n, (∀ k, k < n → f k = g k) → sumK f n = sumK g n := by
  intro n
  induction n with
  | zero => intro _; rfl
  | succ n ih => intro h; simp only [sumK]; rw [h n (by omega), ih (fun k hk => h k (by omega))]
theorem sumK_first (f : Nat → Nat) : ∀ n, sumK f (n + 1) = f 0 + sumK (fun k => f (k + 1)) n := by
  intro n
  induction n with
  | zero => rfl
  | succ n ih =>
    rw [show sumK f (n + 1 + 1) = f (n + 1) + sumK f (n + 1) from rfl, ih]
    simp only [sumK]
    omega
theorem sumK_pos {f : Nat → Nat} : ∀ n, 0 < sumK f n ↔ ∃ k, k < n ∧ 0 < f k := by
  intro n
  induction n with
  | zero => simp [sumK]
  | succ n ih =>
    simp only [sumK]
    constructor
    · intro h
      rcases (by omega : 0 < f n ∨ 0 < sumK f n) with h1 | h1
      · exact ⟨n, by omega, h1⟩
      · obtain ⟨k, hk, h2⟩ := ih.1 h1
        exact ⟨k, by omega, h2⟩
    · rintro ⟨k, hk, h1⟩
      rcases (by omega : k = n ∨ k < n) with rfl | h2
      · omega
      · have := ih.2 ⟨k, h2, h1⟩; omega

theorem countP_flat (p : List Int × Int → Bool) (f : Nat → List (List Int × Int)) : ∀ n, ((revTo n).flatMap f).countP p = sumK (fun k => (f k).countP p) n := by
  intro n
  induction n with
  | zero => rfl
  | succ n ih => simp only [revTo, List.flatMap_cons, List.countP_append, ih, sumK]
theorem count_ext : ∀ (m : Nat) (l : List Int) (p a : Int) (vals : List Int), (ext m l p vals).countP (fun q => decide (q.2 = p + a)) = cE m vals a := by
  intro m
  induction m with
  | zero =>
    intro l p a vals
    simp only [ext, cE, List.countP_cons, List.countP_nil]
    by_cases h : a = 0
    · subst h; simp
    · rw [if_neg h]
      simp
      omega
  | succ m ih =>
    intro l p a vals
    simp only [ext, cE]
    rw [countP_flat]
    refine sumK_congr _ (fun k _ => ?_)
    have := ih (l ++ [vals.getD k 0]) (p + vals.getD k 0) (a - vals.getD k 0) (vals.drop k)
    rw [← this]
    congr 1
    funext q
    congr 1
    simp only [eq_iff_iff]
    omega

theorem cE_cons (m : Nat) (x : Int) (r : List Int) (a : Int) : cE (m + 1) (x :: r) a = cE m (x :: r) (a - x) + cE (m + 1) r a := by
  simp only [cE, List.length_cons]
  rw [sumK_first]
  simp
theorem cE_nil (m : Nat) (a : Int) : cE (m + 1) [] a = 0 := rfl
theorem cE_snoc (x : Int) : ∀ (m : Nat) (r : List Int) (a : Int), cE (m + 1) (r ++ [x]) a = cE (m + 1) r a + cE m (r ++ [x]) (a - x) := by
  intro m
  induction m with
  | zero =>
    intro r
    induction r with
    | nil =>
      intro a
      rw [List.nil_append, cE_cons, cE_nil]
      omega
    | cons y r ihr =>
      intro a
      rw [List.cons_append, cE_cons, ihr, cE_cons]
      simp only [cE]
      omega
  | succ m ihm =>
    intro r
    induction r with
    | nil =>
      intro a
      rw [List.nil_append, cE_cons, cE_nil]
      omega
    | cons y r ihr =>
      intro a
      rw [List.cons_append, cE_cons (m + 1) y (r ++ [x]) a, ihr, cE_cons (m + 1) y r a]
      have h1 := ihm (y :: r) (a - y)
      rw [List.cons_append] at h1
      rw [h1]
      have h2 := cE_cons m y (r ++ [x]) (a - x)
      rw [h2]
      have h3 : a - y - x = a - x - y := by omega
      rw [h3]
      omega
theorem cE_zero : ∀ (m : Nat) (vals : List Int) (a : Int), (∀ x ∈ vals, 1 ≤ x) → a < m → cE m vals a = 0 := by
  intro m
  induction m with
  | zero =>
    intro vals a _ ha
    simp only [cE]
    rw [if_neg (by omega)]
  | succ m ih =>
    intro vals a hv ha
    simp only [cE]
    rw [sumK_congr (g := fun _ => 0) _ (fun k hk => ih _ _ (fun x hx => hv x (List.mem_of_mem_drop hx)) (by have := hv _ (getD_mem' hk); omega))]
    have : ∀ n, sumK (fun _ => 0) n = 0 := by
      intro n
      induction n with
      | zero => rfl
      | succ n ih => simp [sumK, ih]
    exact this _

/-- The lists of fewer than n stamps that sum to a. -/
def cS (n : Nat) (vals : List Int) (a : Int) : Nat := sumK (fun m => cE m vals a) n
theorem cS_zero {n : Nat} {vals : List Int} {a : Int} (hv : ∀ x ∈ vals, 1 ≤ x) (ha : a < 0) : cS n vals a = 0 := by
  unfold cS
  rw [sumK_congr (g := fun _ => 0) _ (fun k _ => cE_zero k vals a hv (by omega))]
  have : ∀ n, sumK (fun _ => 0) n = 0 := by
    intro n
    induction n with
    | zero => rfl
    | succ n ih => simp [sumK, ih]
  exact this _
theorem sumK_add (f g : Nat → Nat) : ∀ n, sumK (fun k => f k + g k) n = sumK f n + sumK g n := by
  intro n
  induction n with
  | zero => rfl
  | succ n ih => simp only [sumK, ih]; omega
theorem cS_snoc (n : Nat) (r : List Int) (x a : Int) : cS (n + 1) (r ++ [x]) a = cS (n + 1) r a + cS n (r ++ [x]) (a - x) := by
  unfold cS
  rw [sumK_first, sumK_first]
  rw [sumK_congr (g := fun k => cE (k + 1) r a + cE k (r ++ [x]) (a - x)) _ (fun k _ => cE_snoc x k r a), sumK_add]
  simp only [cE]
  omega
theorem cS_at0 {n : Nat} {vals : List Int} (hv : ∀ x ∈ vals, 1 ≤ x) : cS (n + 1) vals 0 = 1 := by
  unfold cS
  rw [sumK_first, sumK_congr (g := fun _ => 0) _ (fun k _ => cE_zero (k + 1) vals 0 hv (by omega))]
  have : ∀ n, sumK (fun _ => 0) n = 0 := by
    intro n
    induction n with
    | zero => rfl
    | succ n ih => simp [sumK, ih]
  rw [this]
  rfl
theorem cS_nil (n : Nat) (a : Int) : cS (n + 1) [] a = if a = 0 then 1 else 0 := by
  unfold cS
  rw [sumK_first, sumK_congr (g := fun _ => 0) _ (fun k _ => cE_nil k a)]
  have : ∀ n, sumK (fun _ => 0) n = 0 := by
    intro n
    induction n with
    | zero => rfl
    | succ n ih => simp [sumK, ih]
  rw [this]
  rfl
theorem take_snoc {v : List Int} {k : Nat} (hk : k < v.length) : v.take (k + 1) = v.take k ++ [v.getD k 0] := take_succ_getD v k hk

theorem wR_eq {v : List Int} (hv : ∀ x ∈ v, 1 ≤ x) : ∀ (n m k : Nat) (a : Int), m + k ≤ n → k ≤ v.length → 0 ≤ a → wR v m k a = (cS (m + 1) (v.take k) a : Nat) := by
  have hvt : ∀ k, ∀ x ∈ v.take k, 1 ≤ x := fun k x hx => hv x (List.mem_of_mem_take hx)
  intro n
  induction n with
  | zero =>
    intro m k a hmk hk ha
    obtain rfl : m = 0 := by omega
    rw [wR]
    simp only [cS, sumK, cE]
    split <;> rfl
  | succ n ih =>
    intro m k a hmk hk ha
    match m, k with
    | 0, k =>
      rw [wR]
      simp only [cS, sumK, cE]
      split <;> rfl
    | m + 1, 0 =>
      rw [wR, List.take_zero, cS_nil]
      split <;> rfl
    | m + 1, k + 1 =>
      rw [wR]
      split
      · next h => subst h; rw [cS_at0 (hvt _)]; rfl
      · next h =>
        have i1 := ih (m + 1) k a (by omega) (by omega) ha
        rw [take_snoc (by omega), cS_snoc, i1]
        split
        · next h2 =>
          have i2 := ih m (k + 1) (a - v.getD k 0) (by omega) hk (by omega)
          rw [i2, take_snoc (by omega)]
          omega
        · next h2 =>
          have := cS_zero (n := m + 1) (hvt (k + 1)) (show a - v.getD k 0 < 0 by omega)
          rw [take_snoc (by omega)] at this
          rw [this]
          omega

theorem foldL_get (qs : List (List Int × Int)) : ∀ (w : List Int) (j : Nat), j < w.length → (foldU stepL qs w).1.getD j 0 = w.getD j 0 + (qs.countP (fun q => decide (q.2.toNat = j)) : Nat) := by
  induction qs with
  | nil => intro w j _; simp [foldU]
  | cons q r ih =>
    obtain ⟨l, p⟩ := q
    intro w j hj
    simp only [foldU, stepL, if_true]
    rw [ih _ _ (by rw [List.length_set]; exact hj), List.countP_cons]
    by_cases hp : p.toNat = j
    · subst hp
      rw [show (w.set p.toNat (w.getD p.toNat 0 + 1)).getD p.toNat 0 = w.getD p.toNat 0 + 1 from by simp [List.getD, hj]]
      simp only [decide_true, if_true]
      omega
    · rw [show (w.set p.toNat (w.getD p.toNat 0 + 1)).getD j 0 = w.getD j 0 from by simp [List.getD, List.getElem?_set_ne hp]]
      simp only [hp, decide_false, Bool.false_eq_true, if_false, Nat.add_zero]

theorem count_from {vals : List Int} (a : Int) : ∀ n j, ((List.range' j n).flatMap fun m => ext m [] 0 vals).countP (fun q => decide (q.2 = a)) = sumK (fun k => cE (j + k) vals a) n := by
  intro n
  induction n with
  | zero => intro j; rfl
  | succ n ih =>
    intro j
    rw [List.range'_succ, List.flatMap_cons, List.countP_append, ih, sumK_first]
    have := count_ext j [] 0 a vals
    simp only [Int.zero_add] at this
    rw [this]
    simp only [Nat.add_zero]
    congr 1
    refine sumK_congr _ (fun k _ => ?_)
    rw [show j + 1 + k = j + (k + 1) from by omega]

/-- THE LETTERS COUNT THE WAYS. -/
theorem letters_get {h : Nat} {v : List Int} (hv : Vals v) {a : Nat} (ha : (a : Int) ≤ h * lastV v) : (lettersL h v).getD a 0 = (cS (h + 1) v a : Nat) := by
  have hl := hv.last
  have hn : 0 ≤ (h : Int) * lastV v := Int.mul_nonneg (by omega) (by omega)
  unfold lettersL
  rw [foldL_get _ _ _ (by rw [List.length_replicate]; omega)]
  have h0 : (List.replicate (h * lastV v + 1).toNat (0 : Int)).getD a 0 = 0 := by
    simp only [List.getD, List.getElem?_replicate]
    split <;> rfl
  rw [h0, Int.zero_add]
  have hc : (allX h v).countP (fun q => decide (q.2.toNat = a)) = (allX h v).countP (fun q => decide (q.2 = (a : Int))) := by
    refine List.countP_congr (fun q hq => ?_)
    have := allX_paid (h := h) hv.mem (by omega) q hq
    simp only [decide_eq_true_eq]
    omega
  rw [hc]
  unfold allX fromX
  rw [count_from]
  simp only [Nat.sub_zero, Nat.zero_add]
  rfl

/-! ## With how few stamps -/

/-- Is a the sum of m values? -/
def Sm (v : List Int) : Nat → Int → Prop
  | 0, a => a = 0
  | m + 1, a => ∃ x ∈ v, Sm v m (a - x)
theorem Sm_ge {v : List Int} (hv : ∀ x ∈ v, 1 ≤ x) : ∀ {m : Nat} {a : Int}, Sm v m a → (m : Int) ≤ a := by
  intro m
  induction m with
  | zero => intro a h; simp only [Sm] at h; omega
  | succ m ih =>
    rintro a ⟨x, hx, h⟩
    have := ih h
    have := hv x hx
    omega
theorem Sm_mono {v v' : List Int} (h : ∀ x ∈ v, x ∈ v') : ∀ {m : Nat} {a : Int}, Sm v m a → Sm v' m a := by
  intro m
  induction m with
  | zero => exact fun h => h
  | succ m ih => rintro a ⟨x, hx, h1⟩; exact ⟨x, h x hx, ih h1⟩
theorem Sm_split {x : Int} {r : List Int} : ∀ {m : Nat} {a : Int}, Sm (x :: r) (m + 1) a → Sm (x :: r) m (a - x) ∨ Sm r (m + 1) a := by
  intro m
  induction m with
  | zero =>
    rintro a ⟨y, hy, h⟩
    rcases List.mem_cons.1 hy with rfl | hy
    · exact .inl h
    · exact .inr ⟨y, hy, h⟩
  | succ m ih =>
    rintro a ⟨y, hy, h⟩
    rcases List.mem_cons.1 hy with rfl | hy
    · exact .inl h
    · rcases ih h with h1 | h1
      · exact .inl ⟨y, List.mem_cons_of_mem _ hy, by rw [show a - x - y = a - y - x from by omega]; exact h1⟩
      · exact .inr ⟨y, hy, h1⟩
theorem cE_pos : ∀ (m : Nat) (v : List Int) (a : Int), 0 < cE m v a ↔ Sm v m a := by
  intro m
  induction m with
  | zero =>
    intro v a
    simp only [cE, Sm]
    split <;> simp_all
  | succ m ih =>
    intro v
    induction v with
    | nil =>
      intro a
      rw [cE_nil]
      constructor
      · intro h; omega
      · rintro ⟨x, hx, _⟩; cases hx
    | cons x r ihr =>
      intro a
      rw [cE_cons]
      constructor
      · intro h
        rcases (by omega : 0 < cE m (x :: r) (a - x) ∨ 0 < cE (m + 1) r a) with h1 | h1
        · exact ⟨x, List.mem_cons_self, (ih _ _).1 h1⟩
        · exact Sm_mono (fun y hy => List.mem_cons_of_mem _ hy) ((ihr a).1 h1)
      · intro h
        rcases Sm_split h with h1 | h1
        · have := (ih _ _).2 h1; omega
        · have := (ihr a).2 h1; omega
theorem cS_pos {n : Nat} {v : List Int} {a : Int} : 0 < cS n v a ↔ ∃ m, m < n ∧ Sm v m a := by
  unfold cS
  rw [sumK_pos]
  exact ⟨fun ⟨k, hk, h⟩ => ⟨k, hk, (cE_pos _ _ _).1 h⟩, fun ⟨k, hk, h⟩ => ⟨k, hk, (cE_pos _ _ _).2 h⟩⟩

/-- f is the least number of stamps for a, -1 if more than h are needed. -/
def Few (v : List Int) (h a f : Int) : Prop := (f = -1 ∧ ∀ m : Nat, (m : Int) ≤ h → ¬ Sm v m a) ∨ (0 ≤ f ∧ f ≤ h ∧ Sm v f.toNat a ∧ ∀ m : Nat, (m : Int) < f → ¬ Sm v m a)
theorem fB_at (out v : List Int) (a h : Int) : ∀ k, fB out v a h k = h + 1 ∨ ∃ i, i < k ∧ v.getD i 0 ≤ a ∧ 0 ≤ out.getD (a - v.getD i 0).toNat 0 ∧ fB out v a h k = out.getD (a - v.getD i 0).toNat 0 + 1 := by
  intro k
  induction k with
  | zero => exact .inl rfl
  | succ k ih =>
    simp only [fB]
    split
    · next hc =>
      unfold minI
      split
      · exact .inr ⟨k, by omega, hc.1, hc.2, rfl⟩
      · rcases ih with h1 | ⟨i, h1, h2⟩
        · exact .inl h1
        · exact .inr ⟨i, by omega, h2⟩
    · rcases ih with h1 | ⟨i, h1, h2⟩
      · exact .inl h1
      · exact .inr ⟨i, by omega, h2⟩
theorem fB_le (out v : List Int) (a h : Int) : ∀ k i, i < k → v.getD i 0 ≤ a → 0 ≤ out.getD (a - v.getD i 0).toNat 0 → fB out v a h k ≤ out.getD (a - v.getD i 0).toNat 0 + 1 := by
  intro k
  induction k with
  | zero => intro i hi; omega
  | succ k ih =>
    intro i hi h1 h2
    simp only [fB]
    rcases (by omega : i = k ∨ i < k) with rfl | h3
    · rw [if_pos ⟨h1, h2⟩]
      unfold minI
      split <;> omega
    · have := ih i h3 h1 h2
      split
      · unfold minI; split <;> omega
      · exact this
theorem mem_getD {v : List Int} {x : Int} (hx : x ∈ v) : ∃ i, i < v.length ∧ v.getD i 0 = x := by
  obtain ⟨i, hi, rfl⟩ := List.getElem_of_mem hx
  exact ⟨i, hi, by simp [List.getD, hi]⟩

theorem few_ok {h : Int} (hh : 0 ≤ h) {v : List Int} (hv : ∀ x ∈ v, 1 ≤ x) : ∀ (a : Nat), Few v h a (fewV h v (fewP h v a) a) := by
  intro a
  induction a using Nat.strongRecOn with
  | _ a ih =>
    have hout : ∀ b : Int, 0 ≤ b → b < a → Few v h b ((fewP h v a).getD b.toNat 0) := by
      intro b hb0 hb
      have := ih b.toNat (by omega)
      rw [← fewP_get h v (show b.toNat < a by omega)] at this
      rw [show ((b.toNat : Nat) : Int) = b from by omega] at this
      exact this
    by_cases ha : a = 0
    · subst ha
      refine .inr ⟨by simp [fewV], by simp [fewV]; exact hh, by simp [fewV, Sm], fun m hm => ?_⟩
      simp [fewV] at hm
      omega
    have use : ∀ m : Nat, (m : Int) ≤ h → Sm v m a → fB (fewP h v a) v a h v.length ≤ m := by
      intro m hm hs
      match m, hs with
      | 0, hs => simp only [Sm] at hs; omega
      | m + 1, ⟨x, hx, hs⟩ =>
        have h1 := Sm_ge hv hs
        have h2 := hv x hx
        obtain ⟨i, hi, rfl⟩ := mem_getD hx
        have hf := hout (a - v.getD i 0) (by omega) (by omega)
        rcases hf with ⟨_, hf⟩ | ⟨f1, f2, f3, f4⟩
        · exact absurd hs (hf m (by omega))
        · have h3 := fB_le (fewP h v a) v a h v.length i hi (by omega) f1
          have : ¬ ((m : Int) < (fewP h v a).getD ((a : Int) - v.getD i 0).toNat 0) := fun hc => f4 m hc hs
          omega
    unfold fewV
    rw [if_neg ha]
    split
    · next hb =>
      refine .inl ⟨rfl, fun m hm hs => ?_⟩
      have := use m hm hs
      omega
    · next hb =>
      rcases fB_at (fewP h v a) v a h v.length with h1 | ⟨i, hi, h1, h2, h3⟩
      · omega
      · have h4 := hv _ (getD_mem' hi)
        have hf := hout (a - v.getD i 0) (by omega) (by omega)
        rcases hf with ⟨hf, _⟩ | ⟨f1, f2, f3, f4⟩
        · omega
        · refine .inr ⟨by omega, by omega, ?_, fun m hm hs => ?_⟩
          · rw [h3, show ((fewP h v a).getD ((a : Int) - v.getD i 0).toNat 0 + 1).toNat = ((fewP h v a).getD ((a : Int) - v.getD i 0).toNat 0).toNat + 1 from by omega]
            exact ⟨_, getD_mem' hi, f3⟩
          · have := use m (by omega) hs
            omega

theorem fewL_get {h : Int} {v : List Int} {a : Nat} (ha : (a : Int) < h * lastV v + 1) : (fewL h v).getD a 0 = fewV h v (fewP h v a) a := fewP_get h v (by omega)
/-- The table of the fewest stamps. -/
theorem fewL_ok {h : Int} (hh : 0 ≤ h) {v : List Int} (hv : Vals v) {a : Nat} (ha : (a : Int) ≤ h * lastV v) : Few v h a ((fewL h v).getD a 0) := by
  rw [fewL_get (by omega)]
  exact few_ok hh (fun x hx => (hv.mem x hx).1) a
/-- BOTH ANSWERS SAY THE SAME OF WHAT IS PAYABLE. -/
theorem has_pos {h : Nat} {v : List Int} (hv : Vals v) {a : Nat} (ha : (a : Int) ≤ h * lastV v) : hasB (lettersL h v) a = posB (fewL h v) a := by
  unfold hasB posB
  rw [letters_get hv ha]
  have hf := fewL_ok (h := h) (by omega) hv ha
  have hc := cS_pos (n := h + 1) (v := v) (a := a)
  congr 1
  simp only [eq_iff_iff]
  rcases hf with ⟨h1, h2⟩ | ⟨h1, h2, h3, h4⟩
  · rw [h1]
    constructor
    · intro hne
      obtain ⟨m, hm, hs⟩ := hc.1 (by omega)
      exact absurd hs (h2 m (by omega))
    · intro h; omega
  · constructor
    · intro _; exact h1
    · intro _
      have := hc.2 ⟨_, by omega, h3⟩
      omega
theorem reach_eq {h : Nat} {v : List Int} (hv : Vals v) : reachP (lettersL h v) = refReach h v := by
  have hl := hv.last
  have hn : 0 ≤ (h : Int) * lastV v := Int.mul_nonneg (by omega) (by omega)
  have hll := lettersL_len h v
  have h0 : (lettersL h v).getD 0 0 ≠ 0 := by
    have e : (lettersL h v).getD 0 0 = (cS (h + 1) v 0 : Nat) := letters_get (h := h) hv (a := 0) (by omega)
    rw [cS_at0 (fun x hx => (hv.mem x hx).1)] at e
    rw [e]
    decide
  rw [reachP_rangeOf (by omega) h0]
  unfold refReach
  rw [fewL_len, hll]
  congr 1
  exact rangeOf_congr _ _ (fun a h1 h2 => has_pos hv (by omega))
theorem holes_eq {h : Nat} {v : List Int} (hv : Vals v) : hol (fun a => !hasB (lettersL h v) a) (lettersL h v).length = refHol h v := by
  unfold refHol
  rw [fewL_len, lettersL_len]
  exact hol_congr _ (fun a ha => by rw [has_pos hv (by omega)])
theorem ways_eq {h : Nat} {v : List Int} (hv : Vals v) {a : Nat} (ha : (a : Int) ≤ h * lastV v) : (lettersL h v).getD a 0 = wR v h v.length a := by
  rw [letters_get hv ha, wR_eq (fun x hx => (hv.mem x hx).1) _ h v.length a (Nat.le_refl _) (Nat.le_refl _) (by omega), List.take_length]
end Go.Tri
