/-
 ARGUMENTS OF STAGE 8: wishes that came in, as the framework reads them.
-/
import Derived.Test.YtpolaegggclhcaaP1
import Derived.Deep.Matrix
namespace Go.Tri
open Go.ChangeShapes Go.WideShapes Go.RowKit Go.Deep Go.Joins
variable {H : Type} {enc : TypeId × Value → H} {P : Program} {w : World}

/-- Rows of ints that came in. -/
@[reducible] def tabV (n : Nat) (w : Nat → List Int) : V := .seq false 1 n fun j _ => .ints false (w j)
theorem rep_table {t e q : TypeId} {a : Option Addr} {len cap : Nat} {d : DataW H} {p : List MemPlace} (ht : P.underlying t = some (.slice e)) (he : P.underlying e = some (.slice q)) (hq : P.underlying q = some (.int .i64)) (ce : P.cellsOf e = 1) (cq : P.cellsOf q = 1)
  (h : DataW.Trod enc P w 0 (fun _ => true) true t (.slice a len cap) d p) :
  ∃ T : Nat → List Int, Rep (fun _ => none) 0 w (tabV len T) (.slice a len cap) ∧ ∀ j, j < len → ∀ n ∈ T j, -9223372036854775808 ≤ n ∧ n ≤ 9223372036854775807 := by
 obtain ⟨fuel, hf⟩ := h
 rcases open_int_rows ht he hq ce cq hf with ⟨hcs, _⟩ | ⟨x, l, c, A, L, C, Z, hcs, _, hl, hm, _, hr⟩
 ·simp [Value.cells] at hcs
  obtain ⟨rfl, rfl, rfl⟩ := hcs
  exact ⟨fun _ => [], ⟨none, 0, rfl, Nat.le_refl _, Nat.zero_le _, by decide, fun h => absurd h (by simp)⟩, fun j hj => absurd hj (by simp)⟩
 ·simp [Value.cells] at hcs
  obtain ⟨rfl, rfl, rfl⟩ := hcs
  have hrow : ∀ j, j < len → (A j = none ∧ L j = 0 ∧ C j = 0 ∧ Z j = []) ∨ ∃ x, A j = some x ∧ L j ≤ C j ∧ C j ≤ maxLen ∧ (Z j).length = C j ∧ (∀ i, i < (Z j).length → w.cell? (x.add i) = some (.int .i64 ((Z j).getD i 0))) ∧ ∀ n ∈ Z j, (Lit.int .i64 n).wf = true := fun j hj => by
   obtain ⟨_, r1, r2, r3, r4, r5, r6⟩ := hr j (by omega)
   cases hA : A j with
   | none =>
    have hc := r5 hA
    exact .inl ⟨rfl, by omega, hc, List.length_eq_zero_iff.1 (by omega)⟩
   | some y => exact .inr ⟨y, rfl, r1, r2, r3, fun i hi => (r6 y hA).2 i (by omega), r4⟩
  refine ⟨fun j => (Z j).take (L j), ⟨some x, cap, rfl, hl, hm, by decide, fun hp => ?_⟩, fun j hj => wf_row (hrow j hj)⟩
  have h0 := (hr 0 (by omega)).1
  obtain ⟨b, off, sp⟩ := x
  have hsp : sp = none := World.cell?_spot h0
  subst hsp
  refine ⟨b, off, rfl, fun t r h => (nomatch h), fun h => (nomatch h), fun j o hj ho => ?_⟩
  obtain rfl : o = 0 := by omega
  have e : (⟨b, off, none⟩ : Addr).add j = ⟨b, off + (j * 1 + 0), none⟩ := by unfold Addr.add; split <;> simp_all
  have h1 := (hr j (by omega)).1
  rw [e] at h1
  exact ⟨_, h1, rfl, rep_row (hrow j hj)⟩
end Go.Tri
