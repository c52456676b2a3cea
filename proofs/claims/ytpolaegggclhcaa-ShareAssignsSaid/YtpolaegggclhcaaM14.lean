/-
 THE LEAST SUMS BY ROUNDS.
-/
import Derived.Test.YtpolaegggclhcaaM13
namespace Go.Tri
open Go.Proofs

/-- At most every way of so many steps. -/
def Sh (n : Nat) (W : Nat → List Int) (D : Nat → Nat → Int) (r : Nat) : Prop := ∀ (m : Nat) (v : Nat → Nat), m ≤ r → (∀ i, i ≤ m → v i < n) → D (v 0) (v m) ≤ cw n W v m
def Dn (n : Nat) (W : Nat → List Int) (D : Nat → Nat → Int) (r a b : Nat) : Prop := ∀ v : Nat → Nat, (∀ i, i ≤ r + 1 → v i < n) → v 0 = a → v (r + 1) = b → D a b ≤ cw n W v (r + 1)
/-- The same by way of the rickshaws before z. -/
def Dz (n : Nat) (W : Nat → List Int) (D : Nat → Nat → Int) (r a b z : Nat) : Prop := ∀ v : Nat → Nat, (∀ i, i ≤ r + 1 → v i < n) → v 0 = a → v (r + 1) = b → v r < z → D a b ≤ cw n W v (r + 1)
theorem sh_zero {n : Nat} {W : Nat → List Int} {D : Nat → Nat → Int} (h : Base n W D) : Sh n W D 0 := fun m v hm hv => by
 obtain rfl : m = 0 := by omega
 rw [h.self (hv 0 (Nat.le_refl _))]
 exact Int.le_refl _
theorem sh_next {n : Nat} {W : Nat → List Int} {D : Nat → Nat → Int} {r : Nat} (h : Sh n W D r) (hd : ∀ a b, a < n → b < n → Dn n W D r a b) : Sh n W D (r + 1) := fun m v hm hv => by
 rcases (by omega : m ≤ r ∨ m = r + 1) with h1 | rfl
 ·exact h m v h1 hv
 ·exact hd _ _ (hv 0 (by omega)) (hv _ (Nat.le_refl _)) v hv rfl rfl
theorem dz_all {n : Nat} {W : Nat → List Int} {D : Nat → Nat → Int} {r a b : Nat} (h : Dz n W D r a b n) : Dn n W D r a b := fun v hv h0 h1 => h v hv h0 h1 (hv r (by omega))
theorem dz_all' {n : Nat} {W : Nat → List Int} {D : Nat → Nat → Int} {r a b z : Nat} (hz : z = n) (h : Dz n W D r a b z) : Dn n W D r a b := by
 subst hz
 exact dz_all h
/-- One number less. -/
def upD (D : Nat → Nat → Int) (x y z a b : Nat) : Int := if a = x ∧ b = y then minI (D x y) (D x z + D z y) else D a b
theorem upD_le {D : Nat → Nat → Int} {x y z : Nat} : ∀ a b, upD D x y z a b ≤ D a b := fun a b => by
 unfold upD
 split
 ·next h => rw [h.1, h.2]; exact (minI_le _ _).1
 ·exact Int.le_refl _
theorem up_base {n : Nat} {W : Nat → List Int} {D : Nat → Nat → Int} {x y z : Nat} (hx : x < n) (hy : y < n) (hz : z < n) (h : Base n W D) : Base n W (upD D x y z) := fun a b ha hb => by
 refine ⟨?_, Int.le_trans (upD_le a b) (h a b ha hb).2⟩
 unfold upD
 split
 ·next e =>
  rw [e.1, e.2]
  rcases minI_or (D x y) (D x z + D z y) with ⟨e2, _⟩ | ⟨e2, _⟩ <;> rw [e2]
  ·exact (h x y hx hy).1
  ·exact (h x z hx hz).1.cat (h z y hz hy).1
 ·exact (h a b ha hb).1
theorem up_sh {n : Nat} {W : Nat → List Int} {D : Nat → Nat → Int} {x y z r : Nat} (h : Sh n W D r) : Sh n W (upD D x y z) r := fun m v hm hv => Int.le_trans (upD_le _ _) (h m v hm hv)
theorem up_dn {n : Nat} {W : Nat → List Int} {D : Nat → Nat → Int} {x y z r a b : Nat} (h : Dn n W D r a b) : Dn n W (upD D x y z) r a b := fun v hv h0 h1 => Int.le_trans (upD_le _ _) (h v hv h0 h1)
theorem up_dz {n : Nat} {W : Nat → List Int} {D : Nat → Nat → Int} {x y z r : Nat} (hB : Base n W D) (hs : Sh n W D r) (h : Dz n W D r x y z) (hz : z < n) (hy : y < n) : Dz n W (upD D x y z) r x y (z + 1) := fun v hv h0 h1 hr => by
 rcases (by omega : v r < z ∨ v r = z) with h2 | h2
 ·exact Int.le_trans (upD_le _ _) (h v hv h0 h1 h2)
 ·have g1 := hs r v (Nat.le_refl _) fun i hi => hv i (by omega)
  have g2 := (hB z y hz hy).2
  have g3 : upD D x y z x y ≤ D x z + D z y := by unfold upD; rw [if_pos ⟨rfl, rfl⟩]; exact (minI_le _ _).2
  rw [h0, h2] at g1
  have e : cw n W v (r + 1) = cw n W v r + stp n W (v r) (v (r + 1)) := rfl
  rw [e, h1, h2]
  omega
theorem sh_drr {n : Nat} {W : Nat → List Int} {D : Nat → Nat → Int} (hB : Base n W D) (hs : Sh n W D n) {a b : Nat} (ha : a < n) (hb : b < n) : D a b = drr n W a b := drr_short hB (fun m v hm hv => hs m v (by omega) hv) ha hb
end Go.Tri
