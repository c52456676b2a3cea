/-
  CONTRACTS: sorted; the winner's order.
-/
import Derived.Test.YtghkpmeonoadlaaB13
namespace Go.Tri
open Go.Proofs

/-- The things in the winner's order. -/
def ordR (f g : Nat → Int) (n : Nat) : List Int := sortP (ltR f g) (idx n) n
theorem idx_mem {n : Nat} : ∀ y ∈ idx n, 0 ≤ y ∧ y < n := fun y hy => by
  obtain ⟨j, hj, rfl⟩ := memI_at hy
  rw [idx_len] at hj
  rw [idx_get hj]
  omega
theorem ordR_len (f g : Nat → Int) (n : Nat) : (ordR f g n).length = n := sortP_len _ _ _
theorem ordR_mem {f g : Nat → Int} {n : Nat} : ∀ y ∈ ordR f g n, 0 ≤ y ∧ y < n := fun y hy => idx_mem y (sortP_mem (by rw [idx_len]; exact Nat.le_refl _) hy)
theorem ACM.arg2 {P : Program} {f : FuncId} {x y x' y' : V} {M : Mem} {Q : V → Mem → Prop} {nb0 : Option Nat} (h0 : Sub x x') (h1 : Sub y y') (hy : ACM P f [x', y'] M Q nb0) : ACM P f [x, y] M Q nb0 := by
  unfold ACM at hy ⊢
  refine ⟨hy.1, fun nb base φ w args hn hm hs ha => hy.2 nb base φ w args hn hm hs (fun i => ?_)⟩
  match i with
  | 0 => exact h0 _ _ _ _ (ha 0)
  | 1 => exact h1 _ _ _ _ (ha 1)
  | i + 2 => exact ha (i + 2)
set_option maxRecDepth 100000 in
theorem sorted_pure {n : Nat} {f g : Nat → Int} (h1 : 1 ≤ n) (h8 : n ≤ 8) (hf : in100 n f) (hg : in100 n g) : APure Try.prog 76 [.ints false (idx n), ratC n f g, cmpR] (fun R => R = .ints true (ordR f g n)) := by
  refine APure_of (X := ⟨Try.prog, tab, wrS, 34, 0, false⟩) tab_ok rfl (rs := [(.tmp 6, 22)]) Try.func76 (by decide) rfl rfl rfl (by simp) (nofr3 (show NoFr (.ints false (idx n)) from rfl) nofrRC (show NoFr cmpR from fun _ => trivial)) ?_
  intro hlen
  have c1 := sortStable_cm hf hg (idx n) idx_mem (by rw [idx_len]; exact h1) (by rw [idx_len]; exact h8)
  rw [idx_len] at c1
  have hol : sortP (ltR f g) (idx n) n = ordR f g n := rfl
  rw [hol] at c1
  have hln := ordR_len f g n
  ((conv => whnf); repeat (refine stepK_in ?_; (repeat (first | refine seqQ_n ?_ | refine blockQ_n ?_ | refine awp_skip ?_ | refine awp_seq ?_ | refine awp_block ?_)); (conv => whnf)))
  refine (rankR_cm (f := f) (g := g) h1 h8).mono ?_
  rintro R M' ⟨rfl, rfl⟩
  ((conv => whnf); repeat (refine stepK_in ?_; (repeat (first | refine seqQ_n ?_ | refine blockQ_n ?_ | refine awp_skip ?_ | refine awp_seq ?_ | refine awp_block ?_)); (conv => whnf)))
  refine (ACM.arg2 (Sub.refl _) (sub_clo fun i hi => by have hi : i < 1 := hi; rw [show i = 0 by omega]; exact Sub.refl _) c1).mono ?_
  rintro R M' rfl
  generalize ordR f g n = L at *
  ((conv => whnf); repeat (refine stepK_in ?_; (repeat (first | refine seqQ_n ?_ | refine blockQ_n ?_ | refine awp_skip ?_ | refine awp_seq ?_ | refine awp_block ?_)); (conv => whnf)))
  refine ⟨(show (0 : Int) ≤ (n : Int) by omega), ?_⟩
  refine ⟨Int.le_refl _, ?_⟩
  refine ⟨(show (8 : Int) * (n : Int) ≤ 140737488355328 by omega), ?_⟩
  rw [Int.toNat_natCast]
  ((conv => whnf); repeat (refine stepK_in ?_; (repeat (first | refine seqQ_n ?_ | refine blockQ_n ?_ | refine awp_skip ?_ | refine awp_seq ?_ | refine awp_block ?_)); (conv => whnf)))
  refine AW_loopA (X := ⟨Try.prog, tab, wrS, 34, 0, false⟩) tab_ok [8, 20, 21, 22] (fun t => Nat.blt t 3) (fun vs M => ∃ (k : Nat) (Z : List Int), k ≤ n ∧ Z.length = n ∧ (∀ j, j < k → Z.getD j 0 = L.getD j 0) ∧ vs = [.sl 2 0 0 n, .sl 1 0 0 n, .int n, .int k] ∧ M = [some boxC, some (lsO f g n L), some ⟨3, 1, 0, .il Z⟩])
    (fun vs _ => n - (vs.getD 3 .any).toInt.toNat) (fun t ht => by have : t < 3 := ht; simp; omega) ?_ ?_
  · exact same0 ⟨0, _, Nat.zero_le _, List.length_replicate, fun j hj => absurd hj (by omega), rfl, rfl⟩
  rintro vs M ⟨k, Z, hk, hZ, hz, rfl, rfl⟩
  ((conv => whnf); repeat (refine stepK_in ?_; (repeat (first | refine seqQ_n ?_ | refine blockQ_n ?_ | refine awp_skip ?_ | refine awp_seq ?_ | refine awp_block ?_)); (conv => whnf)))
  refine br_dec (fun hlt => ?_) (fun hge => ?_)
  · have hk' : k < n := by omega
    ((conv => whnf); repeat (refine stepK_in ?_; (repeat (first | refine seqQ_n ?_ | refine blockQ_n ?_ | refine awp_skip ?_ | refine awp_seq ?_ | refine awp_block ?_)); (conv => whnf)))
    repeat ((first | refine ⟨(show (0 : Int) ≤ (k : Int) by omega), ?_⟩ | refine ⟨(show (k : Int) < (n : Int) by omega), ?_⟩ | refine ⟨inr (by omega), ?_⟩); ((conv => whnf); repeat (refine stepK_in ?_; (repeat (first | refine seqQ_n ?_ | refine blockQ_n ?_ | refine awp_skip ?_ | refine awp_seq ?_ | refine awp_block ?_)); (conv => whnf))))
    refine ⟨⟨by repeat (first | exact trivial | exact rfl | exact fun _ => trivial | exact fun _ _ => trivial | exact fun _ _ _ => trivial | exact fun _ _ _ _ => trivial | refine And.intro ?_ ?_), ⟨namedBC, fun _ _ _ _ => namedTF, trivial, trivial⟩⟩, memA1 [some boxC, some (lsO f g n L), some ⟨3, 1, 0, .il (Z.set k (L.getD k 0))⟩] ⟨ObSub.refl _, ObSub.refl _, ObSub.ii (by rw [Nat.zero_add]; rfl), trivial⟩ ⟨⟨k + 1, _, hk', by rw [List.length_set, hZ], fun j hj => ?_, rfl, rfl⟩, ?_⟩⟩
    · rcases (by omega : j < k ∨ j = k) with h | rfl
      · rw [← hz j h]
        simp only [List.getD, List.getElem?_set_ne (show k ≠ j by omega)]
      · simp [List.getD, hZ, hk']
    · simp [V.toInt, sel, Env.get]; omega
  · obtain rfl : k = n := by omega
    ((conv => whnf); repeat (refine stepK_in ?_; (repeat (first | refine seqQ_n ?_ | refine blockQ_n ?_ | refine awp_skip ?_ | refine awp_seq ?_ | refine awp_block ?_)); (conv => whnf)))
    refine ⟨rfl, Ql ?_⟩
    refine ext_getD (by simp [hZ, hln]) fun j hj => ?_
    have hj : j < k := by simpa [hZ] using hj
    rw [← hz j hj]
    simp [List.getD, hZ, hj]
end Go.Tri
