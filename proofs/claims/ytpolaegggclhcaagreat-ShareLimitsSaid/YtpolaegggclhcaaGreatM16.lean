/-
 SORTED ASSIGNMENTS: a list, sorted, is 0, 1 .. exactly if it is an assignment.
-/
import Derived.Test.YtpolaegggclhcaaGreatB32
import Derived.Test.YtpolaegggclhcaaGreatM1
namespace Go.Tri
open Go.Proofs

def ltI (a b : Int) : Bool := decide (a < b)
theorem putL_perm {q : List Int} {x : Int} {j : Nat} : (putL q x [] j).Perm (x :: q) := by
 unfold putL
 simp only [List.append_nil, List.append_assoc, List.singleton_append]
 have h := List.perm_middle (a := x) (l₁ := q.take j) (l₂ := q.drop j)
 rwa [List.take_append_drop] at h
theorem take_snoc {l : List Int} {k : Nat} (h : k < l.length) : l.take (k + 1) = l.take k ++ [l.getD k 0] := by
 rw [List.take_succ_eq_append_getElem h]
 simp [List.getD, h]
theorem sortP_perm (lt : Int → Int → Bool) (xs : List Int) : ∀ k, k ≤ xs.length → (sortP lt xs k).Perm (xs.take k) := by
 intro k
 induction k with
 | zero => intro _; simp [sortP]
 | succ k ih =>
  intro hk
  rw [take_snoc (by omega)]
  simp only [sortP, insP]
  refine putL_perm.trans ?_
  refine (List.Perm.cons _ (ih (by omega))).trans ?_
  exact (List.perm_append_singleton _ _).symm
theorem idxL_nodup (n : Nat) : (idxL n).Nodup := by
 unfold idxL
 refine List.Pairwise.map _ ?_ List.nodup_range
 intro a b h h2
 exact h (by omega)
theorem sort_all : ∀ n : Nat, n ≤ 5 → ∀ l ∈ asg n n [], sortP ltI l n = idxL n := by
 intro n hn
 rcases (by omega : n = 0 ∨ n = 1 ∨ n = 2 ∨ n = 3 ∨ n = 4 ∨ n = 5) with rfl | rfl | rfl | rfl | rfl | rfl <;> decide +kernel
theorem asg_sort {n : Nat} {l : List Int} (hn : n ≤ 5) (hl : l.length = n) : sortP ltI l l.length = idxL n ↔ l ∈ asg n n [] := by
 constructor
 ·intro h
  have hp := sortP_perm ltI l l.length (Nat.le_refl _)
  rw [h, List.take_length] at hp
  refine asg_all.2 ⟨hl, fun x hx => idxL_mem (hp.mem_iff.2 hx), hp.nodup (idxL_nodup n)⟩
 ·intro h
  rw [hl]
  exact sort_all n hn l h
end Go.Tri
