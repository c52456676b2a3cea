/-
 ASSIGNMENTS OF TABLES THAT ARE RENUMBERED: the best one is worth the same.
-/
import Derived.Test.YtpolaegggclhcaaB32
namespace Go.Tri
open Go.Proofs

def sN (h : Nat → Int) : Nat → Int
 | 0 => 0
 | k + 1 => sN h k + h k
theorem sN_congr {h h' : Nat → Int} : ∀ n, (∀ k, k < n → h k = h' k) → sN h n = sN h' n
 | 0, _ => rfl
 | n + 1, e => by simp only [sN]; rw [sN_congr n fun k hk => e k (by omega), e n (by omega)]
theorem wrS_sN (W : Nat → List Int) (l : List Int) : ∀ n, wrS W l n = sN (fun k => (W k).getD (l.getD k 0).toNat 0) n
 | 0 => rfl
 | n + 1 => by simp only [wrS, sN]; rw [wrS_sN W l n]
theorem sumL_sN (l : List Int) : ∀ n, sumL l n = sN (fun k => l.getD k 0) n
 | 0 => rfl
 | n + 1 => by simp only [sumL, sN]; rw [sumL_sN l n]
theorem sN_rot {n : Nat} (h1 : 1 ≤ n) (h5 : n ≤ 5) (c : Nat) (h : Nat → Int) : sN (fun k => h ((k + c) % n)) n = sN h n := by
 obtain ⟨d, hd, e⟩ : ∃ d, d < n ∧ ∀ k, (k + c) % n = (k + d) % n := ⟨c % n, Nat.mod_lt _ h1, fun k => by rw [Nat.add_mod, Nat.add_mod k (c % n), Nat.mod_mod]⟩
 rw [sN_congr n fun k _ => congrArg h (e k)]
 rcases (by omega : n = 1 ∨ n = 2 ∨ n = 3 ∨ n = 4 ∨ n = 5) with rfl | rfl | rfl | rfl | rfl
 ·obtain rfl : d = 0 := by omega
  simp [sN]
 ·rcases (by omega : d = 0 ∨ d = 1) with rfl | rfl <;> simp [sN] <;> omega
 ·rcases (by omega : d = 0 ∨ d = 1 ∨ d = 2) with rfl | rfl | rfl <;> simp [sN] <;> omega
 ·rcases (by omega : d = 0 ∨ d = 1 ∨ d = 2 ∨ d = 3) with rfl | rfl | rfl | rfl <;> simp [sN] <;> omega
 ·rcases (by omega : d = 0 ∨ d = 1 ∨ d = 2 ∨ d = 3 ∨ d = 4) with rfl | rfl | rfl | rfl | rfl <;> simp [sN] <;> omega
/-- The column that comes to the place k. -/
def tau (n c k : Nat) : Nat := (k * (n - 1) + c) % n
theorem tau_lt {n c k : Nat} (h1 : 1 ≤ n) : tau n c k < n := Nat.mod_lt _ h1
theorem tau_tau {n c k : Nat} (h1 : 1 ≤ n) (h5 : n ≤ 5) (hk : k < n) : tau n c (tau n c k) = k := by
 unfold tau
 rcases (by omega : n = 1 ∨ n = 2 ∨ n = 3 ∨ n = 4 ∨ n = 5) with rfl | rfl | rfl | rfl | rfl <;> simp <;> omega
theorem sN_tau {n : Nat} (h1 : 1 ≤ n) (h5 : n ≤ 5) (c : Nat) (h : Nat → Int) : sN (fun k => h (tau n c k)) n = sN h n := by
 obtain ⟨d, hd, e⟩ : ∃ d, d < n ∧ ∀ k, tau n c k = tau n d k := ⟨c % n, Nat.mod_lt _ h1, fun k => (Nat.add_mod_mod _ _ _).symm⟩
 rw [sN_congr n fun k _ => congrArg h (e k)]
 unfold tau
 rcases (by omega : n = 1 ∨ n = 2 ∨ n = 3 ∨ n = 4 ∨ n = 5) with rfl | rfl | rfl | rfl | rfl
 ·obtain rfl : d = 0 := by omega
  simp [sN]
 ·rcases (by omega : d = 0 ∨ d = 1) with rfl | rfl <;> simp [sN] <;> omega
 ·rcases (by omega : d = 0 ∨ d = 1 ∨ d = 2) with rfl | rfl | rfl <;> simp [sN] <;> omega
 ·rcases (by omega : d = 0 ∨ d = 1 ∨ d = 2 ∨ d = 3) with rfl | rfl | rfl | rfl <;> simp [sN] <;> omega
 ·rcases (by omega : d = 0 ∨ d = 1 ∨ d = 2 ∨ d = 3 ∨ d = 4) with rfl | rfl | rfl | rfl | rfl <;> simp [sN] <;> omega
/-- A list by its numbers. -/
def lsN (n : Nat) (f : Nat → Int) : List Int := (List.range n).map f
theorem lsN_len (n : Nat) (f : Nat → Int) : (lsN n f).length = n := by simp [lsN]
theorem lsN_get {n j : Nat} {f : Nat → Int} (h : j < n) : (lsN n f).getD j 0 = f j := by simp [lsN, List.getD, h]
theorem asg_get {n : Nat} {l : List Int} : l ∈ asg n n [] ↔ l.length = n ∧ (∀ j, j < n → 0 ≤ l.getD j 0 ∧ l.getD j 0 < n) ∧ ∀ i j, i < j → j < n → l.getD i 0 ≠ l.getD j 0 := by
 have hg : ∀ j (hj : j < l.length), l.getD j 0 = l[j] := fun j hj => by simp [List.getD, List.getElem?_eq_getElem hj]
 rw [asg_all]
 constructor
 ·rintro ⟨h1, h2, h3⟩
  refine ⟨h1, fun j hj => ?_, fun i j hij hj => ?_⟩
  ·rw [hg j (by omega)]
   exact h2 _ (List.getElem_mem _)
  ·rw [hg i (by omega), hg j (by omega)]
   exact List.pairwise_iff_getElem.1 h3 i j (by omega) (by omega) hij
 ·rintro ⟨h1, h2, h3⟩
  refine ⟨h1, fun x hx => ?_, List.pairwise_iff_getElem.2 fun i j hi hj hij => ?_⟩
  ·obtain ⟨j, hj, rfl⟩ := List.getElem_of_mem hx
   rw [← hg j hj]
   exact h2 j (by omega)
  ·rw [← hg i hi, ← hg j hj]
   exact h3 i j hij (by omega)
theorem best_eq {n : Nat} {W V : Nat → List Int} (h : ∀ q ∈ asg n n [], ∃ p ∈ asg n n [], wrS W p n = wrS V q n) (h' : ∀ p ∈ asg n n [], ∃ q ∈ asg n n [], wrS V q n = wrS W p n) : wrS V (asB n V) n = wrS W (asB n W) n := by
 obtain ⟨a1, a2⟩ := asB_is (n := n) W
 obtain ⟨b1, b2⟩ := asB_is (n := n) V
 obtain ⟨p, hp, e⟩ := h _ b1
 obtain ⟨q, hq, e'⟩ := h' _ a1
 have := a2 p hp
 have := b2 q hq
 omega
/-- Rows renumbered. -/
theorem best_rows {n : Nat} (h1 : 1 ≤ n) (h5 : n ≤ 5) (W : Nat → List Int) (c : Nat) : wrS (fun j => W ((j + c) % n)) (asB n fun j => W ((j + c) % n)) n = wrS W (asB n W) n := by
 have hf : ∀ k, (k + c) % n < n := fun k => Nat.mod_lt _ h1
 have hinj : ∀ i j, i < j → j < n → (i + c) % n ≠ (j + c) % n := fun i j hij hj => by
  rcases (by omega : n = 1 ∨ n = 2 ∨ n = 3 ∨ n = 4 ∨ n = 5) with rfl | rfl | rfl | rfl | rfl <;> omega
 obtain ⟨g, hg⟩ : ∃ g : Nat → Nat, (∀ j, g j < n) ∧ (∀ k, k < n → g ((k + c) % n) = k) ∧ ∀ i j, i < j → j < n → g i ≠ g j := ⟨fun j => (j + (n - c % n)) % n, fun j => Nat.mod_lt _ h1, fun k hk => by
  show ((k + c) % n + (n - c % n)) % n = k
  rcases (by omega : n = 1 ∨ n = 2 ∨ n = 3 ∨ n = 4 ∨ n = 5) with rfl | rfl | rfl | rfl | rfl <;> omega, fun i j hij hj => by
  show (i + (n - c % n)) % n ≠ (j + (n - c % n)) % n
  rcases (by omega : n = 1 ∨ n = 2 ∨ n = 3 ∨ n = 4 ∨ n = 5) with rfl | rfl | rfl | rfl | rfl <;> omega⟩
 obtain ⟨g1, g2, g3⟩ := hg
 refine best_eq (fun q hq => ?_) (fun p hp => ?_)
 ·obtain ⟨q1, q2, q3⟩ := asg_get.1 hq
  refine ⟨lsN n fun j => q.getD (g j) 0, asg_get.2 ⟨lsN_len _ _, fun j hj => ?_, fun i j hij hj => ?_⟩, ?_⟩
  ·rw [lsN_get hj]; exact q2 _ (g1 j)
  ·rw [lsN_get hj, lsN_get (by omega)]
   have := g3 i j hij hj
   rcases (by omega : g i < g j ∨ g j < g i) with h | h
   ·exact q3 _ _ h (g1 j)
   ·exact fun e => q3 _ _ h (g1 i) e.symm
  ·rw [wrS_sN, wrS_sN, ← sN_rot h1 h5 c]
   refine sN_congr n fun k hk => ?_
   show (W ((k + c) % n)).getD ((lsN n fun j => q.getD (g j) 0).getD ((k + c) % n) 0).toNat 0 = _
   rw [lsN_get (hf k), g2 k hk]
 ·obtain ⟨p1, p2, p3⟩ := asg_get.1 hp
  refine ⟨lsN n fun k => p.getD ((k + c) % n) 0, asg_get.2 ⟨lsN_len _ _, fun j hj => ?_, fun i j hij hj => ?_⟩, ?_⟩
  ·rw [lsN_get hj]; exact p2 _ (hf j)
  ·rw [lsN_get hj, lsN_get (by omega)]
   have := hinj i j hij hj
   rcases (by omega : (i + c) % n < (j + c) % n ∨ (j + c) % n < (i + c) % n) with h | h
   ·exact p3 _ _ h (hf j)
   ·exact fun e => p3 _ _ h (hf i) e.symm
  ·rw [wrS_sN, wrS_sN, ← sN_rot h1 h5 c (fun k => (W k).getD (p.getD k 0).toNat 0)]
   refine sN_congr n fun k hk => ?_
   show (W ((k + c) % n)).getD ((lsN n fun k => p.getD ((k + c) % n) 0).getD k 0).toNat 0 = _
   rw [lsN_get hk]
/-- Columns renumbered. -/
def colN (n c : Nat) (W : Nat → List Int) (i : Nat) : List Int := lsN n fun k => (W i).getD (tau n c k) 0
theorem best_cols {n : Nat} (h1 : 1 ≤ n) (h5 : n ≤ 5) (W : Nat → List Int) (c : Nat) : wrS (colN n c W) (asB n (colN n c W)) n = wrS W (asB n W) n := by
 have key : ∀ q ∈ asg n n [], (lsN n fun j => (tau n c (q.getD j 0).toNat : Int)) ∈ asg n n [] := fun q hq => by
  obtain ⟨q1, q2, q3⟩ := asg_get.1 hq
  refine asg_get.2 ⟨lsN_len _ _, fun j hj => ?_, fun i j hij hj e => ?_⟩
  ·rw [lsN_get hj]
   have := tau_lt (c := c) (k := (q.getD j 0).toNat) h1
   omega
  ·rw [lsN_get hj, lsN_get (by omega)] at e
   have hi := q2 i (by omega)
   have hj2 := q2 j hj
   have e1 := tau_tau (c := c) h1 h5 (show (q.getD i 0).toNat < n by omega)
   have e2 := tau_tau (c := c) h1 h5 (show (q.getD j 0).toNat < n by omega)
   have e3 : tau n c (q.getD i 0).toNat = tau n c (q.getD j 0).toNat := by omega
   rw [e3, e2] at e1
   exact q3 i j hij hj (by omega)
 refine best_eq (fun q hq => ⟨_, key q hq, ?_⟩) (fun p hp => ⟨_, key p hp, ?_⟩)
 ·obtain ⟨q1, q2, q3⟩ := asg_get.1 hq
  rw [wrS_sN, wrS_sN]
  refine sN_congr n fun k hk => ?_
  have := q2 k hk
  show (W k).getD ((lsN n fun j => (tau n c (q.getD j 0).toNat : Int)).getD k 0).toNat 0 = (colN n c W k).getD (q.getD k 0).toNat 0
  unfold colN
  rw [lsN_get hk, lsN_get (by omega), Int.toNat_natCast]
 ·obtain ⟨q1, q2, q3⟩ := asg_get.1 hp
  rw [wrS_sN, wrS_sN]
  refine sN_congr n fun k hk => ?_
  have := q2 k hk
  show (colN n c W k).getD ((lsN n fun j => (tau n c (p.getD j 0).toNat : Int)).getD k 0).toNat 0 = (W k).getD (p.getD k 0).toNat 0
  unfold colN
  rw [lsN_get hk, Int.toNat_natCast, lsN_get (tau_lt h1), tau_tau h1 h5 (by omega)]
theorem wis_rows {n : Nat} {W : Nat → List Int} (hW : Wis n W) (c : Nat) : Wis n fun j => W ((j + c) % n) := by
 obtain ⟨h1, h5, h⟩ := hW
 refine ⟨h1, h5, fun i hi => ?_⟩
 obtain ⟨a1, a2, a3⟩ := h ((i + c) % n) (Nat.mod_lt _ h1)
 exact ⟨a1, a2, by rw [a3]; exact (h ((0 + c) % n) (Nat.mod_lt _ h1)).2.2.symm⟩
theorem wis_cols {n : Nat} {W : Nat → List Int} (hW : Wis n W) (c : Nat) : Wis n (colN n c W) := by
 obtain ⟨h1, h5, h⟩ := hW
 have hs : ∀ i, sumL (colN n c W i) n = sumL (W i) n := fun i => by
  rw [sumL_sN, sumL_sN, ← sN_tau h1 h5 c (fun k => (W i).getD k 0)]
  exact sN_congr n fun k hk => by unfold colN; rw [lsN_get hk]
 refine ⟨h1, h5, fun i hi => ⟨lsN_len _ _, fun j hj => ?_, ?_⟩⟩
 ·unfold colN
  rw [lsN_get hj]
  exact (h i hi).2.1 _ (tau_lt h1)
 ·rw [hs, hs]
  exact (h i hi).2.2
/-- An assignment that is tried. -/
def diag (n c : Nat) : List Int := lsN n fun i => (((i + c) % n : Nat) : Int)
theorem diag_le {n : Nat} (h1 : 1 ≤ n) (h5 : n ≤ 5) (W : Nat → List Int) (c : Nat) : sN (fun i => (W i).getD ((i + c) % n) 0) n ≤ wrS W (asB n W) n := by
 have hm : diag n c ∈ asg n n [] := asg_get.2 ⟨lsN_len _ _, fun j hj => by
  unfold diag
  rw [lsN_get hj]
  have := Nat.mod_lt (j + c) h1
  omega, fun i j hij hj e => by
  unfold diag at e
  rw [lsN_get hj, lsN_get (by omega)] at e
  rcases (by omega : n = 1 ∨ n = 2 ∨ n = 3 ∨ n = 4 ∨ n = 5) with rfl | rfl | rfl | rfl | rfl <;> omega⟩
 have h := (asB_is (n := n) W).2 _ hm
 rw [wrS_sN] at h
 refine Int.le_trans (Int.le_of_eq (sN_congr n fun k hk => ?_)) h
 show _ = (W k).getD ((diag n c).getD k 0).toNat 0
 unfold diag
 rw [lsN_get hk, Int.toNat_natCast]
end Go.Tri
