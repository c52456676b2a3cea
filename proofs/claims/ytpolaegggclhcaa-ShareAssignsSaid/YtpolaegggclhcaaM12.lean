/-
 THE LEAST SUMS OF STEPS: by one rickshaw after the other; what is at most every way is one table.
-/
import Derived.Test.YtpolaegggclhcaaM11
namespace Go.Tri
open Go.Proofs

/-- A way from a to b comes to u. -/
def Wlk (n : Nat) (W : Nat → List Int) (a b : Nat) (u : Int) : Prop := ∃ (m : Nat) (v : Nat → Nat), (∀ i, i ≤ m → v i < n) ∧ v 0 = a ∧ v m = b ∧ cw n W v m = u
theorem stp_self {n : Nat} {W : Nat → List Int} {x : Nat} : stp n W x x = 0 := by unfold stp; omega
theorem Wlk.step {n : Nat} {W : Nat → List Int} {a b : Nat} (ha : a < n) (hb : b < n) : Wlk n W a b (stp n W a b) := by
 refine ⟨1, fun i => if i = 0 then a else b, fun i _ => ?_, rfl, rfl, ?_⟩
 ·show (if i = 0 then a else b) < n
  split <;> assumption
 ·unfold cw
  simp only [sN]
  show 0 + stp n W (if 0 = 0 then a else b) (if 0 + 1 = 0 then a else b) = _
  rw [if_pos rfl, if_neg (by omega)]
  omega
theorem Wlk.cat {n : Nat} {W : Nat → List Int} {a b c : Nat} {u w : Int} (h1 : Wlk n W a b u) (h2 : Wlk n W b c w) : Wlk n W a c (u + w) := by
 obtain ⟨m, v, v1, v2, v3, v4⟩ := h1
 obtain ⟨k, p, p1, p2, p3, p4⟩ := h2
 refine ⟨m + k, fun i => if i ≤ m then v i else p (i - m), fun i hi => ?_, ?_, ?_, ?_⟩
 ·show (if i ≤ m then v i else p (i - m)) < n
  split
  ·exact v1 i (by assumption)
  ·exact p1 _ (by omega)
 ·show (if 0 ≤ m then v 0 else p (0 - m)) = a
  rw [if_pos (Nat.zero_le _), v2]
 ·show (if m + k ≤ m then v (m + k) else p (m + k - m)) = c
  by_cases hk : k = 0
  ·subst hk
   rw [if_pos (show m + 0 ≤ m by omega), Nat.add_zero, v3, ← p2, p3]
  ·rw [if_neg (by omega), show m + k - m = k by omega, p3]
 ·unfold cw
  rw [sN_add, ← v4, ← p4]
  unfold cw
  congr 1
  ·exact sN_congr m fun i hi => by
    show stp n W (if i ≤ m then v i else p (i - m)) (if i + 1 ≤ m then v (i + 1) else p (i + 1 - m)) = _
    rw [if_pos (by omega), if_pos (by omega)]
  ·exact sN_congr k fun i hi => by
    show stp n W (if m + i ≤ m then v (m + i) else p (m + i - m)) (if m + i + 1 ≤ m then v (m + i + 1) else p (m + i + 1 - m)) = _
    rw [if_neg (show ¬ m + i + 1 ≤ m by omega), show m + i + 1 - m = i + 1 by omega]
    by_cases hi0 : i = 0
    ·subst hi0
     rw [if_pos (show m + 0 ≤ m by omega), Nat.add_zero, v3, p2]
    ·rw [if_neg (by omega), show m + i - m = i by omega]
theorem Wlk.nn {n : Nat} {W : Nat → List Int} {a : Nat} {u : Int} (h : Wlk n W a a u) : 0 ≤ u := by
 obtain ⟨m, v, v1, v2, v3, v4⟩ := h
 rw [← v4]
 exact cw_nn m v v1 (v3.trans v2.symm)
/-- A way without a ring in it. -/
theorem walk_short {n : Nat} {W : Nat → List Int} : ∀ (m : Nat) (v : Nat → Nat), (∀ i, i ≤ m → v i < n) → ∃ (k : Nat) (p : Nat → Nat), k < n + 1 ∧ (∀ i, i ≤ k → p i < n) ∧ p 0 = v 0 ∧ p k = v m ∧ cw n W p k ≤ cw n W v m := by
 intro m
 induction m using Nat.strongRecOn with
 | _ m ih =>
  intro v hv
  by_cases hmn : m < n + 1
  ·exact ⟨m, v, hmn, hv, rfl, rfl, Int.le_refl _⟩
  obtain ⟨i, j, hij, hj, e⟩ := pigeon n v fun i hi => hv i (by omega)
  obtain ⟨d, rfl⟩ : ∃ d, j = i + d := ⟨j - i, by omega⟩
  obtain ⟨r, rfl⟩ : ∃ r, m = i + d + r := ⟨m - (i + d), by omega⟩
  have c1 := cw_nn (n := n) (W := W) d (fun k => v (i + k)) (fun k hk => hv _ (by omega)) (by show v (i + d) = v (i + 0); rw [← e]; rfl)
  obtain ⟨k, p, p1, p2, p3, p4, p5⟩ := ih (i + r) (by omega) (fun k => if k ≤ i then v k else v (k + d)) (fun k hk => by
   show (if k ≤ i then v k else v (k + d)) < n
   split <;> exact hv _ (by omega))
  refine ⟨k, p, p1, p2, ?_, ?_, ?_⟩
  ·rw [p3]
   show (if 0 ≤ i then v 0 else v (0 + d)) = v 0
   rw [if_pos (Nat.zero_le _)]
  ·rw [p4]
   show (if i + r ≤ i then v (i + r) else v (i + r + d)) = v (i + d + r)
   by_cases hr : r = 0
   ·subst hr
    rw [if_pos (show i + 0 ≤ i by omega)]
    exact e
   ·rw [if_neg (by omega), show i + r + d = i + d + r by omega]
  ·refine Int.le_trans p5 ?_
   have e1 : cw n W v (i + d + r) = sN (fun k => stp n W (v k) (v (k + 1))) i + sN (fun k => stp n W (v (i + k)) (v (i + k + 1))) d + sN (fun k => stp n W (v (i + d + k)) (v (i + d + k + 1))) r := by
    unfold cw
    rw [sN_add, sN_add]
   have e2 : cw n W (fun k => if k ≤ i then v k else v (k + d)) (i + r) = sN (fun k => stp n W (v k) (v (k + 1))) i + sN (fun k => stp n W (v (i + d + k)) (v (i + d + k + 1))) r := by
    unfold cw
    rw [sN_add]
    congr 1
    ·exact sN_congr i fun k hk => by
      show stp n W (if k ≤ i then v k else v (k + d)) (if k + 1 ≤ i then v (k + 1) else v (k + 1 + d)) = _
      rw [if_pos (by omega), if_pos (by omega)]
    ·exact sN_congr r fun k hk => by
      show stp n W (if i + k ≤ i then v (i + k) else v (i + k + d)) (if i + k + 1 ≤ i then v (i + k + 1) else v (i + k + 1 + d)) = _
      rw [if_neg (show ¬ i + k + 1 ≤ i by omega), show i + k + 1 + d = i + d + k + 1 by omega]
      by_cases hk0 : k = 0
      ·subst hk0
       rw [if_pos (show i + 0 ≤ i by omega)]
       show stp n W (v i) _ = stp n W (v (i + d)) _
       rw [e]
      ·rw [if_neg (by omega), show i + k + d = i + d + k by omega]
   have c1 : 0 ≤ sN (fun k => stp n W (v (i + k)) (v (i + k + 1))) d := c1
   omega
/-- Each number is what some way comes to, and at most a step. -/
def Base (n : Nat) (W : Nat → List Int) (D : Nat → Nat → Int) : Prop := ∀ a b, a < n → b < n → Wlk n W a b (D a b) ∧ D a b ≤ stp n W a b
theorem Base.self {n : Nat} {W : Nat → List Int} {D : Nat → Nat → Int} (h : Base n W D) {a : Nat} (ha : a < n) : D a a = 0 := by
 obtain ⟨h1, h2⟩ := h a a ha ha
 have := h1.nn
 rw [stp_self] at h2
 omega
theorem stp_bd {n : Nat} {W : Nat → List Int} (hW : Wis n W) {x y : Nat} (hx : x < n) (hy : y < n) : -1000 ≤ stp n W x y ∧ stp n W x y ≤ 1000 := by
 have h := (hW.2.2 _ (hoB_is W hy).1).2.1
 have h1 := h x hx
 have h2 := h y hy
 unfold stp
 omega
theorem Base.bd {n : Nat} {W : Nat → List Int} {D : Nat → Nat → Int} (hW : Wis n W) (h : Base n W D) {a b : Nat} (ha : a < n) (hb : b < n) : -1000 ≤ D a b ∧ D a b ≤ 1000 := by
 obtain ⟨h1, h2⟩ := h a b ha hb
 obtain ⟨h3, h4⟩ := h b a hb ha
 have := (h1.cat h3).nn
 have := (stp_bd hW ha hb).2
 have := (stp_bd hW hb ha).2
 omega
def fwS (D : Nat → Nat → Int) (x a b : Nat) : Int := minI (D a b) (D a x + D x b)
theorem minI_or (a b : Int) : (minI a b = a ∧ a ≤ b) ∨ (minI a b = b ∧ b ≤ a) := by unfold minI; split <;> omega
theorem minI_le (a b : Int) : minI a b ≤ a ∧ minI a b ≤ b := by unfold minI; split <;> omega
theorem fw_base {n : Nat} {W : Nat → List Int} {D : Nat → Nat → Int} {x : Nat} (hx : x < n) (h : Base n W D) : Base n W (fwS D x) := fun a b ha hb => by
 obtain ⟨h1, h2⟩ := h a b ha hb
 have h3 := (h a x ha hx).1.cat (h x b hx hb).1
 unfold fwS
 rcases minI_or (D a b) (D a x + D x b) with ⟨e, h4⟩ | ⟨e, h4⟩ <;> rw [e]
 ·exact ⟨h1, h2⟩
 ·exact ⟨h3, by omega⟩
def Tri (n : Nat) (D : Nat → Nat → Int) (x : Nat) : Prop := ∀ z, z < x → ∀ a b, a < n → b < n → D a b ≤ D a z + D z b
theorem fw_tri {n : Nat} {W : Nat → List Int} {D : Nat → Nat → Int} {x : Nat} (hx : x < n) (h : Base n W D) (ht : Tri n D x) : Tri n (fwS D x) (x + 1) := by
 have hxx := h.self hx
 have hcol : ∀ a, fwS D x a x = D a x := fun a => by
  unfold fwS
  have := minI_or (D a x) (D a x + D x x)
  omega
 have hrow : ∀ b, fwS D x x b = D x b := fun b => by
  unfold fwS
  have := minI_or (D x b) (D x x + D x b)
  omega
 intro z hz a b ha hb
 have g1 := minI_le (D a b) (D a x + D x b)
 rcases (by omega : z < x ∨ z = x) with hzx | rfl
 ·have t1 := ht z hzx a b ha hb
  have t2 := ht z hzx a x ha hx
  have t3 := ht z hzx x b hx hb
  have t4 := ht z hzx x x hx hx
  have u1 := minI_or (D a z) (D a x + D x z)
  have u2 := minI_or (D z b) (D z x + D x b)
  unfold fwS
  omega
 ·rw [hcol, hrow]
  unfold fwS
  omega
/-- The tables of the program. -/
noncomputable def dsM (n : Nat) (W : Nat → List Int) : Nat → Nat → Nat → Int
 | 0 => stp n W
 | x + 1 => fwS (dsM n W x) x
theorem dsM_is {n : Nat} {W : Nat → List Int} : ∀ x, x ≤ n → Base n W (dsM n W x) ∧ Tri n (dsM n W x) x
 | 0, _ => ⟨fun a b ha hb => ⟨Wlk.step ha hb, Int.le_refl _⟩, fun z hz => absurd hz (by omega)⟩
 | x + 1, h => by
  obtain ⟨h1, h2⟩ := dsM_is (n := n) (W := W) x (by omega)
  exact ⟨fw_base (by omega) h1, fw_tri (by omega) h1 h2⟩
/-- By how much one rickshaw can be dearer than another one. -/
noncomputable def drr (n : Nat) (W : Nat → List Int) : Nat → Nat → Int := dsM n W n
theorem drr_base (n : Nat) (W : Nat → List Int) : Base n W (drr n W) := (dsM_is n (Nat.le_refl _)).1
theorem drr_tri (n : Nat) (W : Nat → List Int) : Tri n (drr n W) n := (dsM_is n (Nat.le_refl _)).2
theorem tri_walk {n : Nat} {W : Nat → List Int} {D : Nat → Nat → Int} (h : Base n W D) (ht : Tri n D n) : ∀ (m : Nat) (v : Nat → Nat), (∀ i, i ≤ m → v i < n) → D (v 0) (v m) ≤ cw n W v m
 | 0, v, hv => by rw [h.self (hv 0 (Nat.le_refl _))]; exact Int.le_refl _
 | m + 1, v, hv => by
  have h1 := tri_walk h ht m v fun i hi => hv i (by omega)
  have h2 := ht (v m) (hv m (by omega)) (v 0) (v (m + 1)) (hv 0 (by omega)) (hv (m + 1) (Nat.le_refl _))
  have h3 := (h (v m) (v (m + 1)) (hv m (by omega)) (hv (m + 1) (Nat.le_refl _))).2
  unfold cw at h1 ⊢
  simp only [sN]
  omega
theorem drr_le {n : Nat} {W : Nat → List Int} {a b : Nat} {u : Int} (h : Wlk n W a b u) : drr n W a b ≤ u := by
 obtain ⟨m, v, v1, rfl, rfl, rfl⟩ := h
 exact tri_walk (drr_base n W) (drr_tri n W) m v v1
/-- What is at most every short way is the table. -/
theorem drr_short {n : Nat} {W : Nat → List Int} {D : Nat → Nat → Int} (h : Base n W D) (hs : ∀ (m : Nat) (v : Nat → Nat), m < n + 1 → (∀ i, i ≤ m → v i < n) → D (v 0) (v m) ≤ cw n W v m) {a b : Nat} (ha : a < n) (hb : b < n) : D a b = drr n W a b := by
 have h1 := drr_le (h a b ha hb).1
 obtain ⟨m, v, v1, rfl, rfl, v4⟩ := (drr_base n W a b ha hb).1
 obtain ⟨k, p, p1, p2, p3, p4, p5⟩ := walk_short (W := W) m v v1
 have h2 := hs k p p1 p2
 rw [p3, p4] at h2
 omega
end Go.Tri
