/-
 ARGUMENTS OF STAGE 8: parts that came in, as the framework reads them.
-/
import Derived.Test.YtpolaegggclhcaaB15
import Derived.Lib.SmallJoins
import Derived.ChangeSlices
namespace Go.Tri
open Go.ChangeShapes Go.WideShapes Go.RowKit Go.Deep Go.Joins
variable {H : Type} {enc : TypeId × Value → H} {P : Program} {w : World}

theorem rep_parts {r : Reach} {b0 : Nat} {t ts ti : TypeId} {f0 f1 : Field} {v : Value} {d : DataW H} {p : List MemPlace} (hs : P.underlying t = some (.struct #[f0, f1])) (hone : oneCellFields P #[f0, f1] = true) (hC : P.cellsOf t = 2)
  (t0 : f0.type = ts) (t1 : f1.type = ti) (us : P.underlying ts = some (.slice ti)) (ci : P.cellsOf ti = 1) (i0 : P.underlying ti = some (.int .i64)) (hv : Value.okWide P w r b0 t v) (h : DataW.Trod enc P w 0 (fun _ => true) true t v d p) :
  ∃ (a : Option Addr) (len cap : Nat) (z : List Int) (den : Int), v = .agg #[.slice a len cap, .int .i64 den] ∧ Rep (fun _ => none) 0 w (parV false (z.take len) den) v ∧ (Lit.int .i64 den).wf = true := by
 obtain ⟨c0, c1, y0, y1, m, rfl, _, _, hy0, hy1⟩ := open_agg2 hs hone hC hv h
 rw [t0] at hy0
 rw [t1] at hy1
 obtain ⟨s, e1, _, ws⟩ := DataW.trod_int i0 hy1
 simp at e1
 subst e1
 rcases open_ints us i0 ci hy0 with ⟨hcs, _⟩ | ⟨x, l, c, zs, hcs, _, hl, hm, hz, _, hcell, hwz⟩
 ·simp at hcs
  subst hcs
  refine ⟨none, 0, 0, [], s, rfl, ⟨_, rfl, rfl, fun i hi => ?_⟩, ws⟩
  match i, hi with
  | 0, _ => exact ⟨_, rfl, rfl, rep_row (.inl ⟨rfl, rfl, rfl, rfl⟩)⟩
  | 1, _ => exact ⟨_, rfl, rfl, rfl⟩
 ·simp at hcs
  subst hcs
  refine ⟨some x, l, c, zs, s, rfl, ⟨_, rfl, rfl, fun i hi => ?_⟩, ws⟩
  match i, hi with
  | 0, _ => exact ⟨_, rfl, rfl, rep_row (.inr ⟨_, rfl, hl, hm, by simpa using hz, hcell, hwz⟩)⟩
  | 1, _ => exact ⟨_, rfl, rfl, rfl⟩
end Go.Tri
