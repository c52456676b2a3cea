/-
  FROM A FUNCTION'S CONTRACT TO A LAW'S WALK.
-/
import Derived.Test.YtciefpkelgjboaaA19
import Derived.Below
namespace Go.Tri
variable {lo : Nat}
open Go.RowKit

theorem rep_row {w : World} {a : Option Addr} {len cap : Nat} {zs : List Int} (h : (a = none ∧ len = 0 ∧ cap = 0 ∧ zs = []) ∨
    ∃ x, a = some x ∧ len ≤ cap ∧ cap ≤ maxLen ∧ zs.length = cap ∧ (∀ i, i < zs.length → w.cell? (x.add i) = some (.int .i64 (zs.getD i 0))) ∧ ∀ n ∈ zs, (Lit.int .i64 n).wf = true) :
    Rep (fun _ => none) 0 w (.ints false (zs.take len)) (.slice a len cap) := by
  rcases h with ⟨rfl, rfl, rfl, rfl⟩ | ⟨x, rfl, h1, h2, h3, h4, _⟩
  · exact ⟨none, 0, rfl, Nat.le_refl _, Nat.zero_le _, fun h => absurd h (by simp)⟩
  · have hl : (zs.take len).length = len := by rw [List.length_take]; omega
    refine ⟨some x, cap, by rw [hl], by omega, h2, fun hp => ?_⟩
    have h0 := h4 0 (by omega)
    obtain ⟨b, off, sp⟩ := x
    have hsp : sp = none := World.cell?_spot h0
    subst hsp
    refine ⟨b, off, rfl, fun t r h => (nomatch h), fun h => (nomatch h), fun j hj => ?_⟩
    have := h4 j (by omega)
    rw [show (zs.take len).getD j 0 = zs.getD j 0 from by simp only [List.getD, List.getElem?_take]; rw [if_pos (by omega)]]
    have e : (⟨b, off, none⟩ : Addr).add j = ⟨b, off + j, none⟩ := by unfold Addr.add; split <;> simp_all
    rw [e] at this
    exact this

theorem wf_row {w : World} {a : Option Addr} {len cap : Nat} {zs : List Int} (h : (a = none ∧ len = 0 ∧ cap = 0 ∧ zs = []) ∨
    ∃ x, a = some x ∧ len ≤ cap ∧ cap ≤ maxLen ∧ zs.length = cap ∧ (∀ i, i < zs.length → w.cell? (x.add i) = some (.int .i64 (zs.getD i 0))) ∧ ∀ n ∈ zs, (Lit.int .i64 n).wf = true) :
    ∀ n ∈ zs.take len, -9223372036854775808 ≤ n ∧ n ≤ 9223372036854775807 := by
  intro n hn
  rcases h with ⟨rfl, rfl, rfl, rfl⟩ | ⟨x, rfl, h1, h2, h3, h4, h5⟩
  · simp at hn
  · have := h5 n (List.mem_of_mem_take hn)
    simp [Lit.wf, IntKind.min, IntKind.max, IntKind.signed, IntKind.bits] at this
    omega

/-- The arguments, one by one. -/
def Reps (w : World) : List V → List Value → Prop
  | [], [] => True
  | x :: xs, v :: vs => Rep (fun _ => none) 0 w x v ∧ Reps w xs vs
  | _, _ => False

theorem Reps.len {w : World} : ∀ {xs : List V} {vs : List Value}, Reps w xs vs → vs.length = xs.length
  | [], [], _ => rfl
  | _ :: _, _ :: _, h => by simp [Reps.len h.2]
  | [], _ :: _, h => h.elim
  | _ :: _, [], h => h.elim

theorem rep_nth {w : World} : ∀ {xs : List V} {vs : List Value}, Reps w xs vs → ∀ i, Rep (fun _ => none) 0 w (xs.getD i .any) (vs.toArray.getD i undef)
  | [], [], _, i => by simp; trivial
  | x :: xs, v :: vs, h, 0 => by simpa [Array.getD] using h.1
  | x :: xs, v :: vs, h, i + 1 => by have := rep_nth h.2 i; simpa [Array.getD_eq_getD_getElem?] using this
  | [], _ :: _, h, _ => h.elim
  | _ :: _, [], h, _ => h.elim

theorem APure.law {P : Program} {f : FuncId} {xs : List V} (h : APure P f xs (fun R => R = .bool true)) {w : World} {vs : List Value} (hr : Reps w xs vs) :
    Calls P f vs.toArray w fun e w' => e = .returned (.bool true) ∧ Below w.heap.size w w' := by
  unfold APure at h
  refine (h.2 w vs.toArray (by simp [hr.len]) (rep_nth hr)).mono fun e w' hq => ?_
  obtain ⟨v, R, rfl, rfl, _, hv, he⟩ := hq
  have hv : v = .bool true := hv
  subst hv
  exact ⟨rfl, he.os, he.tape, he.output, he.size, fun k hk => he.block k hk (fun t r h => (nomatch h))⟩

end Go.Tri
