/-
  SOUNDNESS, SECOND PART: the operations.
-/
import Derived.Test.YtciefpkelgjboaaA4
namespace Go.Tri
variable {lo : Nat}
open Go.RowKit

def convD (P : Program) (t : TypeId) : TD := match P.underlying t with
  | some (.int k) => .int k
  | some .bool => .bool
  | some .string => .string
  | some (.slice e) => .slice e
  | some (.struct fs) => .struct (fs.toList.map fun f => (f.type, f.offset))
  | some (.array n e) => .array n e
  | some (.pointer e) => .pointer e
  | some (.func _ _ _) => .func
  | some (.interface _) => .iface
  | _ => .other

/-- '==' on the struct goes by its fields. -/
def eqT (P : Program) (t : TypeId) : Bool := match P.underlying t with
  | some (.struct fs) => !P.eqGuardType P.depth t && !P.stoodInHeld t && fs.toList.all fun f => f.name != "_"
  | some (.array _ _) => !P.eqGuardType P.depth t
  | _ => false

def mkRow (P : Program) (t : TypeId) : TI := match P.info? t with
  | some i => match i.zero with
    | some z => bif Nat.beq z.cells.size i.size && z.cells.all Value.oneCell' then ⟨convD P t, i.size, i.bytes, z.cells.toList, eqT P t⟩ else ⟨.other, 0, 0, [], false⟩
    | none => ⟨.other, 0, 0, [], false⟩
  | none => ⟨.other, 0, 0, [], false⟩

/-- The table is the program's. -/
def TabOk (P : Program) (T : Tab) : Prop := ∀ t, (T.row t).d = .other ∨ T.row t = mkRow P t

theorem TabOk.of (P : Program) (T : Tab) (h : T = (List.range T.length).map (mkRow P)) : TabOk P T := by
  intro t
  by_cases ht : t < T.length
  · right
    rw [h]
    simp [Tab.row, List.getD, ht]
  · left
    simp [Tab.row, List.getD, List.getElem?_eq_none (Nat.le_of_not_lt ht)]

theorem addr_add (b off n : Nat) : (⟨b, off, none⟩ : Addr).add n = ⟨b, off + n, none⟩ := by
  unfold Addr.add
  split
  · next h => subst h; rfl
  · rfl

section
variable {P : Program} {T : Tab}

structure RowIs (P : Program) (r : TI) (t : TypeId) (i : TypeInfo) (z : Value) : Prop where
  info : P.info? t = some i
  zero : i.zero = some z
  d : r.d = convD P t
  sz : r.sz = i.size
  bs : r.bs = i.bytes
  zs : r.zero = z.cells.toList
  zsz : z.cells.size = i.size
  one : ∀ c ∈ z.cells, c.oneCell' = true
  eq : r.eq = eqT P t

theorem TabOk.is (h : TabOk P T) {t : TypeId} (hd : (T.row t).d ≠ .other) : ∃ i z, RowIs P (T.row t) t i z := by
  have h1 := (h t).resolve_left hd
  unfold mkRow at h1
  cases hi : P.info? t with
  | none => rw [hi] at h1; rw [h1] at hd; exact absurd rfl hd
  | some i =>
    rw [hi] at h1
    simp only at h1
    cases hz : i.zero with
    | none => rw [hz] at h1; simp only at h1; rw [h1] at hd; exact absurd rfl hd
    | some z =>
      rw [hz] at h1
      simp only at h1
      cases hb : (Nat.beq z.cells.size i.size && z.cells.all Value.oneCell') with
      | false => rw [hb] at h1; rw [h1] at hd; exact absurd rfl hd
      | true =>
        rw [hb] at h1
        simp only [cond_true] at h1
        simp only [Bool.and_eq_true] at hb
        exact ⟨i, z, hi, hz, by rw [h1], by rw [h1], by rw [h1], by rw [h1], Nat.eq_of_beq_eq_true hb.1, fun c hc => Array.all_eq_true_iff_forall_mem.1 hb.2 c hc, by rw [h1]⟩

theorem und_slice {t e : TypeId} (h : convD P t = .slice e) : P.underlying t = some (.slice e) := by
  unfold convD at h
  split at h <;> cases h
  assumption
theorem und_string {t : TypeId} (h : convD P t = .string) : P.underlying t = some .string := by
  unfold convD at h
  split at h <;> first | assumption | cases h
theorem und_int {t : TypeId} {k : IntKind} (h : convD P t = .int k) : P.underlying t = some (.int k) := by
  unfold convD at h
  split at h <;> cases h
  assumption
theorem und_struct {t : TypeId} {fs : List (Nat × Nat)} (h : convD P t = .struct fs) : ∃ f, P.underlying t = some (.struct f) ∧ f.toList.map (fun f => (f.type, f.offset)) = fs := by
  unfold convD at h
  split at h <;> cases h
  exact ⟨_, by assumption, rfl⟩
theorem und_array {t e : TypeId} {n : Nat} (h : convD P t = .array n e) : P.underlying t = some (.array n e) := by
  unfold convD at h
  split at h <;> cases h
  assumption

/-- What 'isAgg' of the model says. -/
theorem run_isAgg {t : TypeId} {i : TypeInfo} {z : Value} (hr : RowIs P (T.row t) t i z) (hd : (T.row t).d ≠ .other) (w : World) : (isAgg t).run P w = .ok (isAggT (T.row t)) w := by
  have hdd := hr.d
  unfold isAgg isAggT
  cases hc : (T.row t).d with
  | other => exact absurd hc hd
  | int k => rw [hc] at hdd; simp [run_underlying (und_int hdd.symm)]
  | bool =>
    rw [hc] at hdd
    have : P.underlying t = some .bool := by unfold convD at hdd; split at hdd <;> cases hdd; assumption
    simp [run_underlying this]
  | string =>
    rw [hc] at hdd
    have : P.underlying t = some .string := by unfold convD at hdd; split at hdd <;> cases hdd; assumption
    simp [run_underlying this]
  | slice e => rw [hc] at hdd; simp [run_underlying (und_slice hdd.symm)]
  | struct fs =>
    rw [hc] at hdd
    obtain ⟨f, hf, _⟩ := und_struct hdd.symm
    simp [run_underlying hf]
  | array n e => rw [hc] at hdd; simp [run_underlying (und_array hdd.symm)]
  | pointer e =>
    rw [hc] at hdd
    have : P.underlying t = some (.pointer e) := by unfold convD at hdd; split at hdd <;> cases hdd; assumption
    simp [run_underlying this]
  | func =>
    rw [hc] at hdd
    have : ∃ a b c, P.underlying t = some (.func a b c) := by unfold convD at hdd; split at hdd <;> cases hdd; exact ⟨_, _, _, by assumption⟩
    obtain ⟨a, b, c, hf⟩ := this
    simp [run_underlying hf]
  | iface =>
    rw [hc] at hdd
    have : ∃ a, P.underlying t = some (.interface a) := by unfold convD at hdd; split at hdd <;> cases hdd; exact ⟨_, by assumption⟩
    obtain ⟨a, hf⟩ := this
    simp [run_underlying hf]

theorem run_loadVar_agg {t : TypeId} {i : TypeInfo} (hi : P.info? t = some i) (w : World) (b off : Nat) (cs : List Value) (hl : cs.length = i.size)
    (ha : (isAgg t).run P w = .ok true w) (h : ∀ j u, cs[j]? = some u → w.cell? ⟨b, off + j, none⟩ = some u) :
    (loadVar t ⟨b, off, none⟩).run P w = .ok (.agg cs.toArray) w := by
  have hc := run_loadCells_list (P := P) w ⟨b, off, none⟩ cs (fun j u hj => by rw [addr_add]; exact h j u hj)
  rw [hl] at hc
  simp [loadVar, ha, sizeOf, typeInfo, hi, hc]

theorem run_loadVar_leaf {t : TypeId} (w : World) (a : Addr) (u : Value) (ha : (isAgg t).run P w = .ok false w) (h : w.cell? a = some u) : (loadVar t a).run P w = .ok u w := by
  simp [loadVar, ha, run_load, h]

/-- The cells of a piece, as a list. -/
theorem cells_list {φ : Phi} {base : Nat} {w : World} {b off m : Nat} {g : Nat → V} (h : ∀ k, k < m → ∃ c, w.cell? ⟨b, off + k, none⟩ = some c ∧ c.oneCell' = true ∧ Rep φ base w (g k) c) :
    ∃ cs : List Value, cs.length = m ∧ (∀ j u, cs[j]? = some u → w.cell? ⟨b, off + j, none⟩ = some u) ∧ (∀ k, k < m → ∃ c, cs[k]? = some c ∧ c.oneCell' = true ∧ Rep φ base w (g k) c) := by
  refine ⟨(List.range m).map fun k => (w.cell? ⟨b, off + k, none⟩).getD undef, by simp, fun j u hj => ?_, fun k hk => ?_⟩
  · have hjm : j < m := by
      have := (List.getElem?_eq_some_iff.1 hj).1
      simpa using this
    obtain ⟨c, e, _⟩ := h j hjm
    simp only [List.getElem?_map, List.getElem?_range hjm, Option.map_some, Option.some.injEq, e, Option.getD_some] at hj
    rw [e, hj]
  · obtain ⟨c, e1, e2, e3⟩ := h k hk
    exact ⟨c, by simp [hk, e1], e2, e3⟩

theorem knownT_ne {i : TI} (h : knownT i = true) : i.d ≠ .other := by
  intro e
  simp [knownT, e] at h

structure RunsTo (P : Program) (nb base nm : Nat) (φ : Phi) (w : World) (v : V) (M' : Mem) (r : Result Next) : Prop where
  ex : ∃ cv w' φ', (r = .ok (.value cv) w' ∨ (r = .ok .skip w' ∧ cv = undef)) ∧ Step nb base nm φ w v M' cv w' φ'

theorem loadV_ok (hT : TabOk P T) {nb base : Nat} {φ : Phi} {w : World} {M : Mem} (hm : MemRel nb base φ w M) {t : TypeId} {x v : V} {cx : Value} {p : Obl} (hx : Rep φ base w x cx)
    (h : loadV T M t x = some (p, v)) (hp : p.holds) : ∃ cv, (Instr.loadAt t cx).run P w = .ok cv w ∧ Rep φ base w v cv := by
  have hk : knownT (T.row t) = true := by
    cases hk : knownT (T.row t) with
    | true => rfl
    | false => simp [loadV, hk] at h
  have hd := knownT_ne hk
  simp only [loadV, hk, cond_true] at h
  obtain ⟨i, z, hr⟩ := hT.is hd
  have hag := run_isAgg hr hd w
  cases x with
  | ptr n ver i' o =>
    obtain ⟨r, hrr, _, hle, hv⟩ := hx
    obtain ⟨ob, ho, hrel⟩ := hm.obj n r hrr
    simp only [loadV', ho] at h
    cases ha : isAggT (T.row t) with
    | true =>
      simp only [ha, cond_true] at h
      · simp only [Option.some.injEq, Prod.mk.injEq] at h
        obtain ⟨rfl, rfl⟩ := h
        obtain ⟨hver, hb⟩ := ldaO_holds.1 hp
        obtain ⟨rfl, hi⟩ := hv (by rw [← hrel.ver, hver])
        have hbb : o + (T.row t).sz ≤ r.sz := by rw [← hrel.sz]; exact hb
        obtain ⟨cs, q1, q2, q3⟩ := cells_list (φ := φ) (base := base) (w := w) (b := r.g) (off := i' * r.sz + o) (m := (T.row t).sz) (g := fun k => ob.c.f i' (o + k)) (fun k hk => by
          obtain ⟨c, e1, e2, e3⟩ := hrel.cell hi (show o + k < r.sz by omega)
          exact ⟨c, by rw [Nat.add_assoc]; exact e1, e2, e3⟩)
        have := run_loadVar_agg (P := P) hr.info w r.g (i' * r.sz + o) cs (by rw [q1, hr.sz]) (by rw [hag, ha]) q2
        refine ⟨_, by simpa [Instr.loadAt, Instr.sureAddr] using this, cs.toArray, rfl, by simp [q1], fun k hk => ?_⟩
        obtain ⟨c, e1, e2, e3⟩ := q3 k hk
        exact ⟨c, by simpa using e1, e2, e3⟩
    | false =>
      simp only [ha, cond_false] at h
      simp only [Option.some.injEq, Prod.mk.injEq] at h
      obtain ⟨rfl, rfl⟩ := h
      obtain ⟨hver, hb⟩ := ldO_holds.1 hp
      obtain ⟨rfl, hi⟩ := hv (by rw [← hrel.ver, hver])
      have hbb : o < r.sz := by rw [← hrel.sz]; exact hb
      obtain ⟨c, e1, e2, e3⟩ := hrel.cell hi hbb
      have := run_loadVar_leaf (P := P) (t := t) w ⟨r.g, i' * r.sz + o, none⟩ c (by rw [hag, ha]) e1
      exact ⟨c, by simpa [Instr.loadAt, Instr.sureAddr] using this, e3⟩
  | at_ sz g o =>
    obtain ⟨b, off, rfl, h0, h1, h2⟩ := hx
    simp only [loadV'] at h
    cases ha : isAggT (T.row t) with
    | true =>
      simp only [ha, cond_true] at h
      · simp only [Option.some.injEq, Prod.mk.injEq] at h
        obtain ⟨rfl, rfl⟩ := h
        have hbb : o + (T.row t).sz ≤ sz := leO_holds.1 hp
        obtain ⟨cs, q1, q2, q3⟩ := cells_list (φ := φ) (base := base) (w := w) (b := b) (off := off + o) (m := (T.row t).sz) (g := fun k => g (o + k)) (fun k hk => by
          obtain ⟨c, e1, e2, e3⟩ := h2 (o + k) (by omega)
          exact ⟨c, by rw [Nat.add_assoc]; exact e1, e2, e3⟩)
        have := run_loadVar_agg (P := P) hr.info w b (off + o) cs (by rw [q1, hr.sz]) (by rw [hag, ha]) q2
        refine ⟨_, by simpa [Instr.loadAt, Instr.sureAddr] using this, cs.toArray, rfl, by simp [q1], fun k hk => ?_⟩
        obtain ⟨c, e1, e2, e3⟩ := q3 k hk
        exact ⟨c, by simpa using e1, e2, e3⟩
    | false =>
      simp only [ha, cond_false] at h
      simp only [Option.some.injEq, Prod.mk.injEq] at h
      obtain ⟨rfl, rfl⟩ := h
      have hbb : o < sz := ltO_holds.1 hp
      obtain ⟨c, e1, e2, e3⟩ := h2 o hbb
      have := run_loadVar_leaf (P := P) (t := t) w ⟨b, off + o, none⟩ c (by rw [hag, ha]) e1
      exact ⟨c, by simpa [Instr.loadAt, Instr.sureAddr] using this, e3⟩
  | _ => simp [loadV'] at h

end
end Go.Tri
