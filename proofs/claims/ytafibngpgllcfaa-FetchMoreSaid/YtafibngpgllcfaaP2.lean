/-
 ARGUMENTS: a slice of pairs that came in, its length told; a pair that came in.
-/
import Derived.Test.YtafibngpgllcfaaB2
import Derived.Deep.SlicePairs
import Derived.Lib.SmallJoins
namespace Go.Tri
open Go.ChangeShapes Go.WideShapes Go.RowKit Go.Deep Go.Joins
variable {H : Type} {enc : TypeId × Value → H} {P : Program} {w : World}

theorem rep_ridesN {t e ti : TypeId} {f0 f1 : Field} {a : Option Addr} {len cap : Nat} {d : DataW H} {p : List MemPlace} (ht : P.underlying t = some (.slice e)) (he : P.underlying e = some (.struct #[f0, f1]))
  (ce : P.cellsOf e = 2) (o0 : f0.offset = 0) (o1 : f1.offset = 1) (t0 : f0.type = ti) (t1 : f1.type = ti) (c0 : P.cellsOf ti = 1) (i0 : P.underlying ti = some (.int .i64))
  (h : DataW.Trod enc P w 0 (fun _ => true) true t (.slice a len cap) d p) :
  ∃ F T : Nat → Int, Rep (fun _ => none) 0 w (stV false len F T) (.slice a len cap) ∧ (len = 0 ∨ ∃ el sp, d = .slice el sp ∧ el.length = len) ∧ ∀ j, j < len → (Lit.int .i64 (F j)).wf = true ∧ (Lit.int .i64 (T j)).wf = true := by
 obtain ⟨fuel, hf⟩ := h
 rcases open_slice_pairs ht he ce o0 o1 (by rw [t0]; exact c0) (by rw [t1]; exact c0) hf with ⟨hcs, _⟩ | ⟨x, l, c, m, n, V0, V1, D0, D1, P0, P1, hcs, _, hl, hm, hmm, hdx, hc⟩
 ·simp [Value.cells] at hcs
  obtain ⟨rfl, rfl, rfl⟩ := hcs
  exact ⟨fun _ => 0, fun _ => 0, ⟨none, 0, rfl, Nat.le_refl _, Nat.zero_le _, by decide, fun h => absurd h (by simp)⟩, .inl rfl, fun j hj => absurd hj (by simp)⟩
 ·simp [Value.cells] at hcs
  obtain ⟨rfl, rfl, rfl⟩ := hcs
  have hlm : len ≤ m := by rw [hmm]; split <;> omega
  have hx : ∀ j, ∃ q : Int × Int, j < len → w.cell? (x.add (j * 2)) = some (.int .i64 q.1) ∧ w.cell? (x.add (j * 2 + 1)) = some (.int .i64 q.2) ∧ (Lit.int .i64 q.1).wf = true ∧ (Lit.int .i64 q.2).wf = true := by
   intro j
   by_cases hj : j < len
   ·obtain ⟨h1, h2, h3, h4⟩ := hc j (by omega)
    rw [t0] at h3
    rw [t1] at h4
    obtain ⟨u, e0, _, wu⟩ := DataW.trod_int i0 h3
    obtain ⟨v, e1, _, wv⟩ := DataW.trod_int i0 h4
    simp at e0 e1
    exact ⟨(u, v), fun _ => ⟨by rw [h1, e0], by rw [h2, e1], wu, wv⟩⟩
   ·exact ⟨(0, 0), fun h => absurd h hj⟩
  obtain ⟨q, hq⟩ := Classical.axiomOfChoice hx
  refine ⟨fun j => (q j).1, fun j => (q j).2, ?_, .inr ⟨_, _, (Prod.mk.inj hdx).1, by simp⟩, fun j hj => ⟨(hq j hj).2.2.1, (hq j hj).2.2.2⟩⟩
  refine ⟨some x, cap, rfl, hl, hm, by decide, fun hp => ?_⟩
  have h0 := (hq 0 hp).1
  obtain ⟨b, off, sp⟩ := x
  have hsp : sp = none := World.cell?_spot h0
  subst hsp
  refine ⟨b, off, rfl, fun t r h => (nomatch h), fun h => (nomatch h), fun j o hj ho => ?_⟩
  have e : ∀ i, (⟨b, off, none⟩ : Addr).add i = ⟨b, off + i, none⟩ := fun i => by unfold Addr.add; split <;> simp_all
  obtain ⟨g0, g1, _⟩ := hq j hj
  rw [e] at g0 g1
  match o, ho with
  | 0, _ => exact ⟨_, g0, rfl, rfl⟩
  | 1, _ => exact ⟨_, g1, rfl, rfl⟩

theorem rep_pair {r : Reach} {b0 : Nat} {t ti : TypeId} {f0 f1 : Field} {v : Value} {d : DataW H} {p : List MemPlace} {base : Nat} {spare : Nat → Bool} {held : Bool} (hs : P.underlying t = some (.struct #[f0, f1])) (hone : oneCellFields P #[f0, f1] = true) (hC : P.cellsOf t = 2)
  (t0 : f0.type = ti) (t1 : f1.type = ti) (i0 : P.underlying ti = some (.int .i64)) (hv : Value.okWide P w r b0 t v) (h : DataW.Trod enc P w base spare held t v d p) :
  ∃ u s : Int, v = .agg #[.int .i64 u, .int .i64 s] ∧ Rep (fun _ => none) 0 w (prV u s) v ∧ (Lit.int .i64 u).wf = true ∧ (Lit.int .i64 s).wf = true := by
 obtain ⟨c0, c1, y0, y1, m, rfl, _, _, hy0, hy1⟩ := open_agg2 hs hone hC hv h
 rw [t0] at hy0
 rw [t1] at hy1
 obtain ⟨u, e0, _, wu⟩ := DataW.trod_int i0 hy0
 obtain ⟨s, e1, _, ws⟩ := DataW.trod_int i0 hy1
 simp at e0 e1
 subst e0 e1
 refine ⟨u, s, rfl, ⟨_, rfl, rfl, fun i hi => ?_⟩, wu, ws⟩
 match i, hi with
 | 0, _ => exact ⟨_, rfl, rfl, rfl⟩
 | 1, _ => exact ⟨_, rfl, rfl, rfl⟩
end Go.Tri
