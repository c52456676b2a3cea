/-
 STEPS BETWEEN RICKSHAWS: a way around that comes back to where it began is never below 0, as the assignment is the best one.
-/
import Derived.Test.YtpolaegggclhcaaM10
namespace Go.Tri
open Go.Proofs

theorem sN_add (h : Nat → Int) (i : Nat) : ∀ d, sN h (i + d) = sN h i + sN (fun k => h (i + k)) d
 | 0 => by simp [sN]
 | d + 1 => by
  show sN h (i + d) + h (i + d) = _
  rw [sN_add h i d]
  simp only [sN]
  omega
theorem sN_zero : ∀ n, sN (fun _ => 0) n = 0
 | 0 => rfl
 | n + 1 => by simp only [sN]; rw [sN_zero n]; rfl
theorem sN_sub (f g : Nat → Int) : ∀ n, sN (fun k => f k - g k) n = sN f n - sN g n
 | 0 => rfl
 | n + 1 => by simp only [sN]; rw [sN_sub f g n]; omega
/-- One number taken out of a sum. -/
theorem sN_out (g : Nat → Int) (p : Nat) : ∀ n, sN g n = sN (fun k => if k = p then 0 else g k) n + if p < n then g p else 0
 | 0 => by simp [sN]
 | n + 1 => by
  simp only [sN]
  rw [sN_out g p n]
  rcases (by omega : p < n ∨ p = n ∨ n < p) with h | h | h
  ·rw [if_pos h, if_pos (show p < n + 1 by omega), if_neg (show ¬ n = p by omega)]; omega
  ·subst h
   rw [if_neg (Nat.lt_irrefl _), if_pos (show p < p + 1 by omega), if_pos rfl]
  ·rw [if_neg (show ¬ p < n by omega), if_neg (show ¬ p < n + 1 by omega), if_neg (show ¬ n = p by omega)]
   omega
/-- A sum by other numbers of its terms. -/
theorem sN_inj {n : Nat} : ∀ (m : Nat) (v : Nat → Nat) (g : Nat → Int), (∀ i, i < m → v i < n) → (∀ i j, i < j → j < m → v i ≠ v j) → (∀ j, j < n → (∀ i, i < m → v i ≠ j) → g j = 0) → sN g n = sN (fun i => g (v i)) m
 | 0, v, g, _, _, h => by
  rw [sN_congr n fun k hk => h k hk fun i hi => absurd hi (by omega)]
  exact sN_zero n
 | m + 1, v, g, h1, h2, h3 => by
  have ih := sN_inj m v (fun k => if k = v m then 0 else g k) (fun i hi => h1 i (by omega)) (fun i j hij hj => h2 i j hij (by omega)) (fun j hj hne => by
   show (if j = v m then 0 else g j) = 0
   by_cases hjm : j = v m
   ·rw [if_pos hjm]
   ·rw [if_neg hjm]
    exact h3 j hj fun i hi => by
     rcases (by omega : i < m ∨ i = m) with h | rfl
     ·exact hne i h
     ·exact fun e => hjm e.symm)
  rw [sN_out g (v m) n, ih, if_pos (h1 m (by omega))]
  simp only [sN]
  rw [sN_congr m fun k hk => (if_neg (h2 k m hk (by omega)) : (if v k = v m then (0 : Int) else g (v k)) = g (v k))]
theorem inj_surj {n : Nat} {f : Nat → Nat} (h1 : ∀ i, i < n → f i < n) (h2 : ∀ i j, i < j → j < n → f i ≠ f j) {y : Nat} (hy : y < n) : ∃ i, i < n ∧ f i = y := by
 obtain ⟨a, b, hab, hb, e⟩ := pigeon n (fun i => if i < n then f i else y) (fun i _ => by
  show (if i < n then f i else y) < n
  split
  ·next h => exact h1 i h
  ·exact hy)
 have e : (if a < n then f a else y) = if b < n then f b else y := e
 rw [if_pos (show a < n by omega)] at e
 by_cases hbn : b < n
 ·rw [if_pos hbn] at e
  exact absurd e (h2 a b hab hbn)
 ·rw [if_neg hbn] at e
  exact ⟨a, by omega, e⟩
/-- The rickshaw of a driver; the driver of a rickshaw; a step. -/
def rkB (n : Nat) (W : Nat → List Int) (i : Nat) : Nat := ((asB n W).getD i 0).toNat
noncomputable def hoB (n : Nat) (W : Nat → List Int) (y : Nat) : Nat := Classical.epsilon fun i => i < n ∧ rkB n W i = y
noncomputable def stp (n : Nat) (W : Nat → List Int) (x y : Nat) : Int := (W (hoB n W y)).getD y 0 - (W (hoB n W y)).getD x 0
theorem rkB_is {n : Nat} (W : Nat → List Int) : (asB n W).length = n ∧ (∀ i, i < n → rkB n W i < n ∧ (asB n W).getD i 0 = (rkB n W i : Int)) ∧ ∀ i j, i < j → j < n → rkB n W i ≠ rkB n W j := by
 obtain ⟨h1, h2, h3⟩ := asg_get.1 (asB_is (n := n) W).1
 have e : ∀ i, i < n → (asB n W).getD i 0 = (rkB n W i : Int) := fun i hi => by
  have := h2 i hi
  unfold rkB
  omega
 refine ⟨h1, fun i hi => ⟨?_, e i hi⟩, fun i j hij hj h => h3 i j hij hj ?_⟩
 ·have := h2 i hi
  have := e i hi
  omega
 ·rw [e i (by omega), e j hj, h]
theorem hoB_is {n : Nat} (W : Nat → List Int) {y : Nat} (hy : y < n) : hoB n W y < n ∧ rkB n W (hoB n W y) = y := by
 obtain ⟨_, h1, h2⟩ := rkB_is (n := n) W
 exact Classical.epsilon_spec (inj_surj (f := rkB n W) (fun i hi => (h1 i hi).1) h2 hy)
theorem hoB_rk {n : Nat} (W : Nat → List Int) {i : Nat} (hi : i < n) : hoB n W (rkB n W i) = i := by
 obtain ⟨_, h1, h2⟩ := rkB_is (n := n) W
 obtain ⟨h3, h4⟩ := hoB_is W (h1 i hi).1
 rcases (by omega : hoB n W (rkB n W i) = i ∨ hoB n W (rkB n W i) < i ∨ i < hoB n W (rkB n W i)) with h | h | h
 ·exact h
 ·exact absurd h4 (h2 _ _ h hi)
 ·exact absurd h4.symm (h2 _ _ h h3)
theorem hoB_inj {n : Nat} (W : Nat → List Int) {x y : Nat} (hx : x < n) (hy : y < n) (h : hoB n W x = hoB n W y) : x = y := by
 have := (hoB_is W hx).2
 rw [h, (hoB_is W hy).2] at this
 exact this.symm
/-- What steps along v come to. -/
noncomputable def cw (n : Nat) (W : Nat → List Int) (v : Nat → Nat) (m : Nat) : Int := sN (fun i => stp n W (v i) (v (i + 1))) m
open Classical in
/-- A ring is what the assignment loses if the drivers on it exchange their rickshaws. -/
theorem ring_nn {n : Nat} {W : Nat → List Int} {v : Nat → Nat} {m : Nat} (hv : ∀ i, i ≤ m → v i < n) (hm : v m = v 0) (hinj : ∀ i j, i < j → j < m → v i ≠ v j) : 0 ≤ cw n W v m := by
 -- whoever has v (i + 1) gets v i
 obtain ⟨sg, hsg⟩ : ∃ sg : Nat → Nat, ∀ y, (∀ i, i < m → v (i + 1) = y → sg y = v i) ∧ ((∀ i, i < m → v (i + 1) ≠ y) → sg y = y) := by
  refine ⟨fun y => if h : ∃ i, i < m ∧ v (i + 1) = y then v (Classical.choose h) else y, fun y => ⟨fun i hi e => ?_, fun h => ?_⟩⟩
  ·have hex : ∃ i, i < m ∧ v (i + 1) = y := ⟨i, hi, e⟩
   show (if h : ∃ i, i < m ∧ v (i + 1) = y then v (Classical.choose h) else y) = v i
   rw [dif_pos hex]
   obtain ⟨k1, k2⟩ := Classical.choose_spec hex
   generalize Classical.choose hex = k at *
   have key : ∀ a b, a < b → b < m → v (a + 1) ≠ v (b + 1) := fun a b hab hb e2 => by
    rcases (by omega : b + 1 < m ∨ b + 1 = m) with h | h
    ·exact hinj (a + 1) (b + 1) (by omega) h e2
    ·rw [h, hm] at e2
     exact hinj 0 (a + 1) (by omega) (by omega) e2.symm
   rcases (by omega : k = i ∨ k < i ∨ i < k) with h | h | h
   ·rw [h]
   ·exact absurd (k2.trans e.symm) (key k i h hi)
   ·exact absurd (e.trans k2.symm) (key i k h k1)
  ·show (if h : ∃ i, i < m ∧ v (i + 1) = y then v (Classical.choose h) else y) = y
   rw [dif_neg]
   rintro ⟨i, hi, e⟩
   exact h i hi e
 have hon : ∀ y, (∃ i, i < m ∧ v (i + 1) = y ∧ sg y = v i) ∨ ((∀ i, i < m → v (i + 1) ≠ y) ∧ sg y = y) := fun y => by
  by_cases h : ∃ i, i < m ∧ v (i + 1) = y
  ·obtain ⟨i, hi, e⟩ := h
   exact .inl ⟨i, hi, e, (hsg y).1 i hi e⟩
  ·have h' : ∀ i, i < m → v (i + 1) ≠ y := fun i hi e => h ⟨i, hi, e⟩
   exact .inr ⟨h', (hsg y).2 h'⟩
 have hback : ∀ i, i < m → ∃ j, j < m ∧ v (j + 1) = v i := fun i hi => by
  rcases Nat.eq_zero_or_pos i with rfl | h
  ·exact ⟨m - 1, by omega, by rw [show m - 1 + 1 = m by omega, hm]⟩
  ·exact ⟨i - 1, by omega, by rw [show i - 1 + 1 = i by omega]⟩
 have slt : ∀ y, y < n → sg y < n := fun y hy => by
  rcases hon y with ⟨i, hi, _, e⟩ | ⟨_, e⟩
  ·rw [e]; exact hv i (by omega)
  ·rw [e]; exact hy
 have sinj : ∀ x y, x ≠ y → sg x ≠ sg y := fun x y hxy e => by
  rcases hon x with ⟨i, hi, ei, e1⟩ | ⟨hx, e1⟩ <;> rcases hon y with ⟨j, hj, ej, e2⟩ | ⟨hy, e2⟩
  ·rw [e1, e2] at e
   rcases (by omega : i = j ∨ i < j ∨ j < i) with h | h | h
   ·exact hxy (by rw [← ei, ← ej, h])
   ·exact hinj i j h hj e
   ·exact hinj j i h hi e.symm
  ·rw [e1, e2] at e
   obtain ⟨k, hk, ek⟩ := hback i hi
   exact hy k hk (ek.trans e)
  ·rw [e1, e2] at e
   obtain ⟨k, hk, ek⟩ := hback j hj
   exact hx k hk (ek.trans e.symm)
  ·rw [e1, e2] at e
   exact hxy e
 obtain ⟨_, r1, r2⟩ := rkB_is (n := n) W
 have hmem : lsN n (fun i => (sg (rkB n W i) : Int)) ∈ asg n n [] := asg_get.2 ⟨lsN_len _ _, fun j hj => by
  rw [lsN_get hj]
  have := slt _ (r1 j hj).1
  omega, fun i j hij hj e => by
  rw [lsN_get hj, lsN_get (by omega)] at e
  exact sinj _ _ (r2 i j hij hj) (by omega)⟩
 have hle := (asB_is (n := n) W).2 _ hmem
 rw [wrS_sN, wrS_sN] at hle
 rw [sN_congr n fun k hk => show (W k).getD ((lsN n fun i => (sg (rkB n W i) : Int)).getD k 0).toNat 0 = (W k).getD (sg (rkB n W k)) 0 by rw [lsN_get hk, Int.toNat_natCast]] at hle
 rw [sN_congr (h := fun k => (W k).getD ((asB n W).getD k 0).toNat 0) n fun k hk => show (W k).getD ((asB n W).getD k 0).toNat 0 = (W k).getD (rkB n W k) 0 from rfl] at hle
 -- by the rickshaws
 have hre : sN (fun k => (W k).getD (rkB n W k) 0 - (W k).getD (sg (rkB n W k)) 0) n = sN (fun y => stp n W (sg y) y) n := by
  rw [sN_inj (n := n) n (hoB n W) (fun k => (W k).getD (rkB n W k) 0 - (W k).getD (sg (rkB n W k)) 0) (fun i hi => (hoB_is W hi).1) (fun i j hij hj e => by
   have := hoB_inj W (by omega) hj e
   omega) (fun j hj h => absurd (hoB_rk W hj) (h _ (r1 j hj).1))]
  exact sN_congr n fun k hk => by
   show (W (hoB n W k)).getD (rkB n W (hoB n W k)) 0 - (W (hoB n W k)).getD (sg (rkB n W (hoB n W k))) 0 = _
   rw [(hoB_is W hk).2]
   rfl
 rw [sN_sub] at hre
 -- those on the ring alone
 have hring : sN (fun y => stp n W (sg y) y) n = cw n W v m := by
  rw [sN_inj (n := n) m (fun i => v (i + 1)) (fun y => stp n W (sg y) y) (fun i hi => hv _ (by omega)) (fun a b hab hb e2 => by
   have e2 : v (a + 1) = v (b + 1) := e2
   rcases (by omega : b + 1 < m ∨ b + 1 = m) with h | h
   ·exact hinj (a + 1) (b + 1) (by omega) h e2
   ·rw [h, hm] at e2
    exact hinj 0 (a + 1) (by omega) (by omega) e2.symm) (fun j hj h => by
   show stp n W (sg j) j = 0
   rw [(hsg j).2 h]
   unfold stp
   omega)]
  exact sN_congr m fun i hi => by
   show stp n W (sg (v (i + 1))) (v (i + 1)) = _
   rw [(hsg (v (i + 1))).1 i hi rfl]
 omega
/-- Any way around. -/
theorem cw_nn {n : Nat} {W : Nat → List Int} : ∀ (m : Nat) (v : Nat → Nat), (∀ i, i ≤ m → v i < n) → v m = v 0 → 0 ≤ cw n W v m := by
 intro m
 induction m using Nat.strongRecOn with
 | _ m ih =>
  intro v hv hm
  by_cases hrep : ∃ i j, i < j ∧ j < m ∧ v i = v j
  ·obtain ⟨i, j, hij, hj, e⟩ := hrep
   obtain ⟨d, rfl⟩ : ∃ d, j = i + d := ⟨j - i, by omega⟩
   obtain ⟨r, rfl⟩ : ∃ r, m = i + d + r := ⟨m - (i + d), by omega⟩
   have c1 := ih d (by omega) (fun k => v (i + k)) (fun k hk => hv _ (by omega)) (by show v (i + d) = v (i + 0); rw [← e]; rfl)
   have c2 := ih (i + r) (by omega) (fun k => if k ≤ i then v k else v (k + d)) (fun k hk => by
    show (if k ≤ i then v k else v (k + d)) < n
    split <;> exact hv _ (by omega)) (by
    show (if i + r ≤ i then v (i + r) else v (i + r + d)) = if 0 ≤ i then v 0 else v (0 + d)
    rw [if_neg (by omega), if_pos (Nat.zero_le _), ← hm, show i + r + d = i + d + r by omega])
   have e1 : cw n W v (i + d + r) = sN (fun k => stp n W (v k) (v (k + 1))) i + sN (fun k => stp n W (v (i + k)) (v (i + k + 1))) d + sN (fun k => stp n W (v (i + d + k)) (v (i + d + k + 1))) r := by
    unfold cw
    rw [sN_add, sN_add]
   have e2 : cw n W (fun k => if k ≤ i then v k else v (k + d)) (i + r) = sN (fun k => stp n W (v k) (v (k + 1))) i + sN (fun k => stp n W (v (i + d + k)) (v (i + d + k + 1))) r := by
    unfold cw
    rw [sN_add]
    congr 1
    ·exact sN_congr i fun k hk => by
      show stp n W (if k ≤ i then v k else v (k + d)) (if k + 1 ≤ i then v (k + 1) else v (k + 1 + d)) = _
      rw [if_pos (by omega), if_pos (by omega)]
    ·exact sN_congr r fun k hk => by
      show stp n W (if i + k ≤ i then v (i + k) else v (i + k + d)) (if i + k + 1 ≤ i then v (i + k + 1) else v (i + k + 1 + d)) = _
      rw [if_neg (show ¬ i + k + 1 ≤ i by omega), show i + k + 1 + d = i + d + k + 1 by omega]
      by_cases hk0 : k = 0
      ·subst hk0
       rw [if_pos (show i + 0 ≤ i by omega)]
       show stp n W (v i) _ = stp n W (v (i + d)) _
       rw [e]
      ·rw [if_neg (by omega), show i + k + d = i + d + k by omega]
   have c1 : 0 ≤ sN (fun k => stp n W (v (i + k)) (v (i + k + 1))) d := c1
   omega
  ·exact ring_nn hv hm fun i j hij hj e => hrep ⟨i, j, hij, hj, e⟩
end Go.Tri
