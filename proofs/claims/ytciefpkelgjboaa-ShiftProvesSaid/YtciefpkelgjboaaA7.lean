/-
  SOUNDNESS, FOURTH PART: every operation without a call.
-/
import Derived.Test.YtciefpkelgjboaaA6
import Derived.Laws.StructEq
import Derived.Laws.Cover3
namespace Go.Tri
variable {lo : Nat}
open Go.RowKit

section
variable {P : Program} {T : Tab}

/-- The run of an operation, as the evaluator foresees it. -/
def Runs (nb base nm : Nat) (φ : Phi) (w : World) (v : V) (M' : Mem) (r : Result Next) : Prop :=
  ∃ cv w' φ', (r = .ok (.value cv) w' ∨ (r = .ok .skip w' ∧ cv = undef)) ∧ Step nb base nm φ w v M' cv w' φ'

theorem Runs.val {nb base nm : Nat} {φ : Phi} {w : World} {v : V} {M : Mem} {s : Sem Value} {cv : Value} (hm : MemRel nb base φ w M) (hr : s.run P w = .ok cv w) (h : Rep φ base w v cv) :
    Runs nb base nm φ w v M ((do pure (.value (← s)) : Sem Next).run P w) :=
  ⟨cv, w, φ, .inl (by simp [hr]), Step.same hm h⟩

theorem aBin_ok {op : BinOp} {x y v : Value} {p : Obl} (h : aBin op x y = some (p, v)) (hp : p.holds) (t : TypeId) (w : World) : (binOp op t x y).run P w = .ok v w := by
  cases x with
  | int k a =>
    cases y with
    | int k' b =>
      simp only [aBin] at h
      cases hk : (k == k') with
      | false => simp [hk] at h
      | true =>
        simp only [hk, cond_true] at h
        have hkk : k = k' := by simpa using hk
        subst hkk
        have har : ∀ r : Int, (arith k r).1.holds → (arith k r).2 = .int k (k.wrap r) := by
          intro r hr
          cases k <;> try rfl
          simp only [arith, Obl.holds] at hr ⊢
          unfold InR at hr
          rw [show IntKind.i64.wrap r = r from IntWalk.i64_in r ⟨hr.1, hr.2⟩]
        cases op <;> simp only [Option.some.injEq, Prod.mk.injEq, reduceCtorEq] at h
        case add =>
          have h1 : (arith k (a + b)).1 = p := by rw [h]
          have h2 : (arith k (a + b)).2 = v := by rw [h]
          simp [binOp, Op.intArith, ← har (a + b) (by rw [h1]; exact hp), h2]
        case sub =>
          have h1 : (arith k (a - b)).1 = p := by rw [h]
          have h2 : (arith k (a - b)).2 = v := by rw [h]
          simp [binOp, Op.intArith, ← har (a - b) (by rw [h1]; exact hp), h2]
        case mul =>
          have h1 : (arith k (a * b)).1 = p := by rw [h]
          have h2 : (arith k (a * b)).2 = v := by rw [h]
          simp [binOp, Op.intArith, ← har (a * b) (by rw [h1]; exact hp), h2]
        case quo =>
          obtain ⟨rfl, h2⟩ := h
          obtain ⟨hb, hh⟩ := hp
          have hb : b ≠ 0 := hb
          simp [binOp, Op.intDiv, hb, ← har (a.tdiv b) hh, h2]
        case rem =>
          obtain ⟨rfl, rfl⟩ := h
          have hb : b ≠ 0 := hp
          simp [binOp, Op.intDiv, hb]
        all_goals
          obtain ⟨rfl, rfl⟩ := h
          simp [binOp, Op.intCmp]
    | _ => simp [aBin] at h
  | _ => simp [aBin] at h

/-- '==' on two values that are no two nil interfaces and no two structs asks nothing. -/
theorem eqGuard_lit (op : BinOp) (t : TypeId) (x y : Operand) {a b : Value} {p : Obl} {v : Value} (h : aBin op a b = some (p, v)) (w : World) : (eqGuard op t x y a b).run P w = .ok () w := by
  cases a with
  | int k n =>
    cases b with
    | int k' m => cases op <;> rfl
    | _ => simp [aBin] at h
  | _ => simp [aBin] at h

theorem zero_cells {t : TypeId} {i : TypeInfo} {z : Value} (hr : RowIs P (T.row t) t i z) (hz : z.cells.size = i.size) (k : Nat) (hk : k < i.size) : z.cells[k]? = some ((T.row t).zero.getD k undef) := by
  rw [hr.zs]
  simp [List.getD, hk, hz]

theorem alloc_ok (hT : TabOk P T) {nb base nm : Nat} {φ : Phi} {w : World} {M : Mem} (hm : MemRel nb base φ w M) (hn : φ nm = none) {t : TypeId} (hk : knownT (T.row t) = true) (hp : 0 < (T.row t).sz) :
    ∃ a w' φ', (Instr.alloc t true (.tuple #[])).run P w = .ok a w' ∧ Step nb base nm φ w (.ptr nm 0 0 0) (M.put nm ⟨t, (T.row t).sz, 0, newCon (T.row t)⟩) a w' φ' := by
  obtain ⟨i, z, hr⟩ := hT.is (knownT_ne hk)
  have hone : (newCon (T.row t)).n = 1 := by unfold newCon; split <;> rfl
  have hs := step_new (hC := Con.isC_of_n (by show 0 < (newCon (T.row t)).n; omega)) (hkc := fun h => by have h : (newCon (T.row t)).kc = true := h; unfold newCon at h; split at h <;> cases h) hm hn t z.cells 1 (T.row t).sz ⟨t, (T.row t).sz, 0, newCon (T.row t)⟩ hp (by simp only [hone]; exact Nat.le_refl 1) (by decide) rfl rfl rfl (by rw [hr.zsz, hr.sz, Nat.one_mul]) (by
    intro j k hj hk
    simp only [hone] at hj
    have hj : j = 0 := by omega
    subst hj
    rw [Nat.zero_mul, Nat.zero_add]
    have e := zero_cells hr hr.zsz k (by rw [← hr.sz]; exact hk)
    refine ⟨_, e, hr.one _ (Array.mem_of_getElem? e), ?_⟩
    have hcon : (newCon (T.row t)).f 0 k = constV ((T.row t).zero.getD k undef) := by
      have hlen : k < (T.row t).zero.length := by rw [hr.zs]; simpa [hr.zsz, ← hr.sz] using hk
      unfold newCon
      split
      · rfl
      · simp [Con.f, List.getD, hlen]
    simp only [hcon]
    exact Rep.constV φ base w _)
  refine ⟨.pointer (some ⟨w.heap.size, 0, none⟩), _, _, ?_, hs.1, ?_, hs.2.1, hs.2.2⟩
  · simp [Instr.alloc, zeroValue, typeInfo, hr.info, hr.zero, newVar, newRow]
  · exact ⟨_, Phi.upd_same _ _ _, rfl, Nat.le_refl _, fun _ => ⟨by simp, by simp only [hone]; omega⟩⟩

theorem box_agg_ok {nb base nm : Nat} {φ : Phi} {w : World} {M : Mem} (hm : MemRel nb base φ w M) (hn : φ nm = none) (t : TypeId) {n : Nat} {g : Nat → V} {c : Value} (hc : Rep φ base w (.agg n g) c) (hp : 0 < n) :
    ∃ a w' φ', (Instr.box t c).run P w = .ok a w' ∧ Step nb base nm φ w (.ptr nm 0 0 0) (M.put nm ⟨t, n, 0, .one ((List.range n).map g)⟩) a w' φ' := by
  obtain ⟨cs, rfl, h1, h2⟩ := hc
  have hs := step_new hm hn t cs 1 n ⟨t, n, 0, .one ((List.range n).map g)⟩ hp (Nat.le_refl 1) (by decide) rfl rfl rfl (by omega) (by
    intro j k hj hk
    have hj : j = 0 := by simp only [Con.n] at hj; omega
    subst hj
    rw [Nat.zero_mul, Nat.zero_add]
    obtain ⟨c, e1, e2, e3⟩ := h2 k hk
    refine ⟨c, e1, e2, ?_⟩
    simpa [Con.f, List.getD, hk] using e3)
  refine ⟨.pointer (some ⟨w.heap.size, 0, none⟩), _, _, ?_, hs.1, ?_, hs.2.1, hs.2.2⟩
  · simp [Instr.box, newVar, newRow, Value.cells]
  · exact ⟨_, Phi.upd_same _ _ _, rfl, Nat.le_refl _, fun _ => ⟨by simp, by simp [Con.n]⟩⟩

theorem box_arr_ok {nb base nm : Nat} {φ : Phi} {w : World} {M : Mem} (hm : MemRel nb base φ w M) (hn : φ nm = none) (t : TypeId) {n : Nat} {g : Nat → V} {c : Value} (hc : Rep φ base w (.agg n g) c) (hp : 0 < n) :
    ∃ a w' φ', (Instr.box t c).run P w = .ok a w' ∧ Step nb base nm φ w (.ptr nm 0 0 0) (M.put nm ⟨t, n, 0, .cv 1 fun _ k => g k⟩) a w' φ' := by
  obtain ⟨cs, rfl, h1, h2⟩ := hc
  have hs := step_new hm hn t cs 1 n ⟨t, n, 0, .cv 1 fun _ k => g k⟩ hp (Nat.le_refl 1) (by decide) rfl rfl rfl (by omega) (by
    intro j k hj hk
    have hj : j = 0 := by simp only [Con.n] at hj; omega
    subst hj
    rw [Nat.zero_mul, Nat.zero_add]
    obtain ⟨c, e1, e2, e3⟩ := h2 k hk
    exact ⟨c, e1, e2, e3⟩)
  refine ⟨.pointer (some ⟨w.heap.size, 0, none⟩), _, _, ?_, hs.1, ?_, hs.2.1, hs.2.2⟩
  · simp [Instr.box, newVar, newRow, Value.cells]
  · exact ⟨_, Phi.upd_same _ _ _, rfl, Nat.le_refl _, fun _ => ⟨by simp, by simp [Con.n]⟩⟩

theorem cells_one {c : Value} (h : c.oneCell' = true) : c.cells = #[c] := by
  cases c <;> first | rfl | cases h

theorem box_leaf_ok {nb base nm : Nat} {φ : Phi} {w : World} {M : Mem} (hm : MemRel nb base φ w M) (hn : φ nm = none) (t : TypeId) {x : V} {c : Value} (hc : Rep φ base w x c) (hl : x.leaf = true) :
    ∃ a w' φ', (Instr.box t c).run P w = .ok a w' ∧ Step nb base nm φ w (.ptr nm 0 0 0) (M.put nm ⟨t, 1, 0, .one [x]⟩) a w' φ' := by
  have h1 := leaf_one hl hc
  have hs := step_new hm hn t #[c] 1 1 ⟨t, 1, 0, .one [x]⟩ (by omega) (Nat.le_refl 1) (by decide) rfl rfl rfl rfl (by
    intro j k hj hk
    have hj : j = 0 := by simp only [Con.n] at hj; omega
    have hk : k = 0 := by omega
    subst hj hk
    exact ⟨c, rfl, h1, by simpa [Con.f] using hc⟩)
  refine ⟨.pointer (some ⟨w.heap.size, 0, none⟩), _, _, ?_, hs.1, ?_, hs.2.1, hs.2.2⟩
  · simp [Instr.box, newVar, newRow, cells_one h1]
  · exact ⟨_, Phi.upd_same _ _ _, rfl, Nat.le_refl _, fun _ => ⟨by simp, by simp [Con.n]⟩⟩

/-! ### struct literals -/

def writeCells (cells : Array Value) (off : Nat) (vs : Array Value) : Array Value := vs.zipIdx.foldl (fun cs (c, j) => cs.setIfInBounds (off + j) c) cells

theorem fold_write (off : Nat) (l : List Value) : ∀ (s : Nat) (cells : Array Value),
    ((l.zipIdx s).foldl (fun cs (c, j) => cs.setIfInBounds (off + j) c) cells).size = cells.size ∧
    ∀ k, ((l.zipIdx s).foldl (fun cs (c, j) => cs.setIfInBounds (off + j) c) cells)[k]? =
      if off + s ≤ k ∧ k < off + s + l.length ∧ k < cells.size then l[k - (off + s)]? else cells[k]? := by
  induction l with
  | nil => intro s cells; refine ⟨rfl, fun k => ?_⟩; rw [if_neg (by simp; omega)]; rfl
  | cons x l ih =>
    intro s cells
    simp only [List.zipIdx_cons, List.foldl_cons, List.length_cons]
    obtain ⟨h1, h2⟩ := ih (s + 1) (cells.setIfInBounds (off + s) x)
    refine ⟨by rw [h1]; simp, fun k => ?_⟩
    rw [h2]
    simp only [Array.size_setIfInBounds]
    by_cases hk : off + s = k
    · subst hk
      rw [if_neg (by omega)]
      by_cases hs : off + s < cells.size
      · rw [if_pos (by omega)]
        simp [hs]
      · rw [if_neg (by omega)]
        simp [hs]
    · rw [Array.getElem?_setIfInBounds_ne hk]
      by_cases hc : off + (s + 1) ≤ k ∧ k < off + (s + 1) + l.length ∧ k < cells.size
      · rw [if_pos hc, if_pos (by omega), show k - (off + s) = (k - (off + (s + 1))) + 1 from by omega]
        rfl
      · rw [if_neg hc, if_neg (by omega)]

theorem writeCells_size (cells : Array Value) (off : Nat) (vs : Array Value) : (writeCells cells off vs).size = cells.size := by
  unfold writeCells
  rw [← Array.foldl_toList, Array.toList_zipIdx]
  exact (fold_write off vs.toList 0 cells).1

theorem writeCells_get (cells : Array Value) (off : Nat) (vs : Array Value) (k : Nat) : (writeCells cells off vs)[k]? = if off ≤ k ∧ k < off + vs.size ∧ k < cells.size then vs[k - off]? else cells[k]? := by
  unfold writeCells
  rw [← Array.foldl_toList, Array.toList_zipIdx]
  have := (fold_write off vs.toList 0 cells).2 k
  simp only [Nat.add_zero, Array.length_toList, Array.getElem?_toList] at this
  exact this

theorem fold_setAt (off : Nat) (g : Nat → V) (n : Nat) (l : List V) :
    ((List.range n).foldl (fun l k => l.set (off + k) (g k)) l).length = l.length ∧
    ∀ k, k < l.length → ((List.range n).foldl (fun l k => l.set (off + k) (g k)) l).getD k .any = if off ≤ k ∧ k < off + n then g (k - off) else l.getD k .any := by
  induction n with
  | zero => refine ⟨rfl, fun k _ => ?_⟩; rw [if_neg (by omega)]; rfl
  | succ n ih =>
    obtain ⟨h1, h2⟩ := ih
    simp only [List.range_succ, List.foldl_append, List.foldl_cons, List.foldl_nil]
    refine ⟨by simpa using h1, fun k hk => ?_⟩
    by_cases hkn : off + n = k
    · subst hkn
      rw [if_pos (by omega), show off + n - off = n from by omega]
      simp [List.getD, h1, hk]
    · have := h2 k hk
      simp only [List.getD, List.getElem?_set_ne hkn] at this ⊢
      rw [this]
      by_cases hc : off ≤ k ∧ k < off + n
      · rw [if_pos hc, if_pos (by omega)]
      · rw [if_neg hc, if_neg (by omega)]

theorem setAt_get (l : List V) (off : Nat) (x : V) (k : Nat) (hk : k < l.length) : (setAt l off x).length = l.length ∧
    (setAt l off x).getD k .any = match x with
      | .agg n g => if off ≤ k ∧ k < off + n then g (k - off) else l.getD k .any
      | x => if k = off then x else l.getD k .any := by
  cases x with
  | agg n g => exact ⟨(fold_setAt off g n l).1, (fold_setAt off g n l).2 k hk⟩
  | _ =>
    refine ⟨by simp [setAt], ?_⟩
    simp only [setAt]
    by_cases h : k = off
    · subst h
      simp [List.getD, hk]
    · simp only [if_neg h]
      simp [List.getD, List.getElem?_set_ne (Ne.symm h)]

/-- The cells of a struct in the making. -/
def Made (φ : Phi) (base : Nat) (w : World) (n : Nat) (l : List V) (cells : Array Value) : Prop :=
  l.length = n ∧ cells.size = n ∧ ∀ k, k < n → ∃ c, cells[k]? = some c ∧ c.oneCell' = true ∧ Rep φ base w (l.getD k .any) c

def PartSz (n off sz : Nat) : V → Prop
  | .agg m _ => m = sz ∧ off + m ≤ n
  | x => x.leaf = true ∧ sz = 1 ∧ off < n

theorem PartSz.of {n off sz : Nat} {x : V} (h : (match x with
    | .agg m _ => Nat.beq m sz && Nat.ble (off + m) n
    | v => v.leaf && Nat.beq sz 1 && Nat.blt off n) = true) : PartSz n off sz x := by
  cases x with
  | agg m g =>
    simp only [Bool.and_eq_true] at h
    exact ⟨Nat.eq_of_beq_eq_true h.1, Nat.le_of_ble_eq_true h.2⟩
  | _ =>
    simp only [Bool.and_eq_true] at h
    exact ⟨h.1.1, Nat.eq_of_beq_eq_true h.1.2, by simpa using h.2⟩

theorem Made.write {φ : Phi} {base : Nat} {w : World} {n : Nat} {l : List V} {cells : Array Value} (h : Made φ base w n l cells) {x : V} {cx : Value} (hx : Rep φ base w x cx) {off sz : Nat}
    (hsz : PartSz n off sz x) :
    Made φ base w n (setAt l off x) (writeCells cells off cx.cells) ∧ cx.cells.size = sz ∧ off + cx.cells.size ≤ n := by
  obtain ⟨h1, h2, h3⟩ := h
  have hlen : ∀ y : V, (setAt l off y).length = l.length := by
    intro y
    cases y with
    | agg m g => exact (fold_setAt off g m l).1
    | _ => simp [setAt]
  by_cases hag : ∃ m g, x = .agg m g
  · obtain ⟨m, g, rfl⟩ := hag
    have hsz : m = sz ∧ off + m ≤ n := hsz
    obtain ⟨cs, rfl, q1, q2⟩ := hx
    refine ⟨⟨by rw [hlen, h1], by rw [writeCells_size, h2], fun k hk => ?_⟩, by simp [Value.cells, q1, hsz.1], by simp only [Value.cells]; omega⟩
    rw [show (Value.agg cs).cells = cs from rfl, writeCells_get, (setAt_get l off _ k (by omega)).2]
    simp only
    by_cases hc : off ≤ k ∧ k < off + m
    · rw [if_pos hc, if_pos (by omega)]
      exact q2 (k - off) (by omega)
    · rw [if_neg hc, if_neg (by omega)]
      exact h3 k hk
  · have hs : x.leaf = true ∧ sz = 1 ∧ off < n := by
      cases x with
      | agg m g => exact absurd ⟨m, g, rfl⟩ hag
      | _ => exact hsz
    have hset : ∀ k, k < l.length → (setAt l off x).getD k .any = if k = off then x else l.getD k .any := by
      intro k hk
      have := (setAt_get l off x k hk).2
      cases x with
      | agg m g => exact absurd ⟨m, g, rfl⟩ hag
      | _ => exact this
    have ho := leaf_one hs.1 hx
    rw [cells_one ho]
    refine ⟨⟨by rw [hlen, h1], by rw [writeCells_size, h2], fun k hk => ?_⟩, by simp [hs.2.1], by simp; omega⟩
    rw [writeCells_get, hset k (by omega)]
    simp only [List.size_toArray, List.length_cons, List.length_nil, Nat.zero_add]
    by_cases hc : k = off
    · subst hc
      rw [if_pos (by omega), if_pos rfl]
      exact ⟨cx, by simp, ho, hx⟩
    · rw [if_neg (by omega), if_neg hc]
      exact h3 k hk

theorem fill_cons (place : Nat → Option (Nat × Nat)) (cells : Array Value) (i : Nat) (v : Value) (rest : List (Nat × Value)) (off size : Nat) (hp : place i = some (off, size)) (h1 : v.cells.size = size)
    (h2 : off + v.cells.size ≤ cells.size) : Instr.fill place cells ((i, v) :: rest) = Instr.fill place (writeCells cells off v.cells) rest := by
  have hb : (v.cells.size != size || decide (off + v.cells.size > cells.size)) = false := by simp [h1]; omega
  simp only [Instr.fill, hp, writeCells]
  rw [if_neg (by simp [h1]; omega)]

theorem fill_parts {φ : Phi} {base : Nat} {w : World} (fs : List (Nat × Nat)) (_hT : TabOk P T) (n : Nat) (place : Nat → Option (Nat × Nat)) (ev : Operand → V) (ρ : Operand → Value) (hev : ∀ x, Rep φ base w (ev x) (ρ x))
    (hplace : ∀ i, i < fs.length → knownT (T.row (fs.getD i (0, 0)).1) = true → place i = some ((fs.getD i (0, 0)).2, (T.row (fs.getD i (0, 0)).1).sz)) :
    ∀ (parts : List (Nat × Operand)) (l : List V) (cells : Array Value), Made φ base w n l cells → (parts.all fun (i, x) => partOk T fs n i (ev x)) = true →
      ∃ cells', Instr.fill place cells (parts.map fun (i, x) => (i, ρ x)) = some cells' ∧ Made φ base w n (parts.foldl (fun l (i, x) => setAt l (fs.getD i (0, 0)).2 (ev x)) l) cells' := by
  intro parts
  induction parts with
  | nil => intro l cells h _; exact ⟨cells, rfl, h⟩
  | cons p rest ih =>
    obtain ⟨i, x⟩ := p
    intro l cells h hall
    simp only [List.all_cons, Bool.and_eq_true] at hall
    obtain ⟨hok, hrest⟩ := hall
    simp only [partOk, Bool.and_eq_true] at hok
    obtain ⟨⟨hi, hk⟩, hv⟩ := hok
    have hi : i < fs.length := by simpa using hi
    obtain ⟨q1, q2, q3⟩ := h.write (hev x) (off := (fs.getD i (0, 0)).2) (sz := (T.row (fs.getD i (0, 0)).1).sz) (PartSz.of hv)
    obtain ⟨cells', e1, e2⟩ := ih _ _ q1 hrest
    refine ⟨cells', ?_, e2⟩
    rw [List.map_cons, fill_cons place cells i (ρ x) _ _ _ (hplace i hi hk) q2 (by rw [h.2.1]; exact q3)]
    exact e1

theorem places_ok (hT : TabOk P T) : ∀ (f : List Field), (f.all fun q => knownT (T.row q.type)) = true →
    f.mapM (fun f => (P.info? f.type).map fun i => (f.offset, i.size)) = some (f.map fun f => (f.offset, (T.row f.type).sz)) := by
  intro f
  induction f with
  | nil => intro _; rfl
  | cons x f ih =>
    intro h
    simp only [List.all_cons, Bool.and_eq_true] at h
    obtain ⟨i, z, hr⟩ := hT.is (knownT_ne h.1)
    simp [List.mapM_cons, ih h.2, hr.info, hr.sz]

theorem build_ok (hT : TabOk P T) {φ : Phi} {base : Nat} {w : World} {t : TypeId} {fs : List (Nat × Nat)} (hd : (T.row t).d = .struct fs) (ev : Operand → V) (ρ : Operand → Value) (hev : ∀ x, Rep φ base w (ev x) (ρ x))
    (parts : Array (Nat × Operand)) (hall : (fs.all (fun q => knownT (T.row q.1)) && parts.toList.all (fun (i, x) => partOk T fs (T.row t).sz i (ev x))) = true) :
    ∃ cv, (Instr.build t (parts.map fun (i, x) => (i, ρ x))).run P w = .ok cv w ∧
      Rep φ base w (.agg (T.row t).sz fun k => (parts.toList.foldl (fun l (i, x) => setAt l (fs.getD i (0, 0)).2 (ev x)) ((T.row t).zero.map constV)).getD k .any) cv := by
  simp only [Bool.and_eq_true] at hall
  obtain ⟨hk, hp⟩ := hall
  obtain ⟨i, z, hr⟩ := hT.is (by rw [hd]; exact fun h => nomatch h)
  obtain ⟨f, hf, hfs⟩ := und_struct (hr.d.symm.trans hd)
  have hall : (f.toList.all fun q => knownT (T.row q.type)) = true := by
    rw [← hfs, List.all_map] at hk
    exact hk
  have hpl := places_ok hT f.toList hall
  have hget : ∀ j, j < fs.length → (fs.getD j (0, 0)) = ((f.toList.map fun f => (f.type, f.offset)).getD j (0, 0)) := fun j _ => by rw [hfs]
  have hmade : Made φ base w (T.row t).sz ((T.row t).zero.map constV) z.cells := by
    refine ⟨by rw [List.length_map, hr.zs, Array.length_toList, hr.zsz, hr.sz], by rw [hr.zsz, hr.sz], fun k hk => ?_⟩
    have e := zero_cells hr hr.zsz k (by rw [← hr.sz]; exact hk)
    have hlen : k < (T.row t).zero.length := by rw [hr.zs]; simpa [hr.zsz, ← hr.sz] using hk
    refine ⟨_, e, hr.one _ (Array.mem_of_getElem? e), ?_⟩
    simp only [List.getD, List.getElem?_map, List.getElem?_eq_getElem hlen, Option.map_some, Option.getD_some]
    exact Rep.constV φ base w _
  obtain ⟨cells', e1, e2⟩ := fill_parts (P := P) fs hT (T.row t).sz (fun x => (f.toList.map fun f => (f.offset, (T.row f.type).sz)).toArray[x]?) ev ρ hev (fun j hj _ => by
    have hj' : j < f.toList.length := by rw [← hfs] at hj; simpa using hj
    have hj2 : j < f.size := by simpa using hj'
    rw [← hfs]
    simp [List.getD, Array.getElem?_eq_getElem hj2]) parts.toList _ _ hmade hp
  refine ⟨.agg cells', run_build w t _ cells' ?_, cells', rfl, e2.2.1, e2.2.2⟩
  unfold Program.built
  rw [hr.info, hf]
  simp only [hr.zero, hpl]
  rw [Array.toList_map]
  exact e1

theorem fieldAt_ok (hT : TabOk P T) {w : World} {s : TypeId} {fs : List (Nat × Nat)} (hd : (T.row s).d = .struct fs) {f : Nat} (hf : f < fs.length) (hk : knownT (T.row (fs.getD f (0, 0)).1) = true) (hp : 0 < (T.row (fs.getD f (0, 0)).1).sz) {b off : Nat} :
    (Instr.fieldAt s (.pointer (some ⟨b, off, none⟩)) f).run P w = .ok (.pointer (some ⟨b, off + (fs.getD f (0, 0)).2, none⟩)) w := by
  obtain ⟨i, z, hr⟩ := hT.is (by rw [hd]; exact fun h => nomatch h)
  obtain ⟨g, hg, hfs⟩ := und_struct (hr.d.symm.trans hd)
  have hlen : f < g.size := by rw [← hfs] at hf; simpa using hf
  have e : g[f]? = some g[f] := Array.getElem?_eq_getElem hlen
  have e2 : fs.getD f (0, 0) = (g[f].type, g[f].offset) := by rw [← hfs]; simp [List.getD, hlen]
  rw [e2] at hk hp ⊢
  obtain ⟨i', z', hr'⟩ := hT.is (knownT_ne hk)
  have hpos : ¬ i'.size = 0 := by intro h0; rw [← hr'.sz] at h0; omega
  simp [Instr.fieldAt, run_underlying hg, e, Instr.sureAddr, fieldPlace, sizeOf, typeInfo, hr'.info, hpos, addr_add]

theorem run_part_leaf (hT : TabOk P T) {w : World} {t : TypeId} (hk : knownT (T.row t) = true) (ha : isAggT (T.row t) = false) (cs : Array Value) (off : Nat) {v : Value} (hv : cs[off]? = some v) :
    (part t cs off).run P w = .ok v w := by
  obtain ⟨i, z, hr⟩ := hT.is (knownT_ne hk)
  simp [part, run_isAgg hr (knownT_ne hk) w, ha, hv]

theorem run_part_agg (hT : TabOk P T) {w : World} {t : TypeId} (hk : knownT (T.row t) = true) (ha : isAggT (T.row t) = true) (cs : Array Value) (off : Nat) :
    (part t cs off).run P w = .ok (.agg (cs.extract off (off + (T.row t).sz))) w := by
  obtain ⟨i, z, hr⟩ := hT.is (knownT_ne hk)
  simp [part, run_isAgg hr (knownT_ne hk) w, ha, sizeOf, typeInfo, hr.info, hr.sz]

/-! ### two values -/

theorem eqFs_ok (hT : TabOk P T) {φ : Phi} {base : Nat} {w : World} {f g : Nat → V} {xs ys : Array Value} (d : Nat) : ∀ (fl : List Field) (i : Nat) (b : Bool), (fl.all fun q => q.name != "_") = true →
    (∀ j, j < i + fl.length → ∃ c, xs[j]? = some c ∧ Rep φ base w (f j) c) → (∀ j, j < i + fl.length → ∃ c, ys[j]? = some c ∧ Rep φ base w (g j) c) →
    eqFs T f g i (fl.map fun f => (f.type, f.offset)) = some b → (Op.eqFields (d + 1) xs ys fl).run P w = .ok b w := by
  intro fl
  induction fl with
  | nil =>
    intro i b _ _ _ h
    simp only [List.map_nil, eqFs, Option.some.injEq] at h
    subst h
    simp [Op.eqFields]
  | cons q fl ih =>
    intro i b hn hx hy h
    simp only [List.all_cons, Bool.and_eq_true] at hn
    simp only [List.map_cons, eqFs] at h
    cases ho : Nat.beq q.offset i with
    | false => rw [ho] at h; cases h
    | true =>
      have ho' : q.offset = i := Nat.eq_of_beq_eq_true ho
      rw [ho] at h
      simp only [cond_true] at h
      cases h1 : eqLit (T.row q.type).d (f i) (g i) with
      | none => rw [h1] at h; cases h
      | some a =>
        cases h2 : eqFs T f g (i + 1) (fl.map fun f => (f.type, f.offset)) with
        | none => rw [h1, h2] at h; cases h
        | some a' =>
          rw [h1, h2] at h
          simp only [Option.some.injEq] at h
          subst h
          obtain ⟨cx, x1, x2⟩ := hx i (by simp)
          obtain ⟨cy, y1, y2⟩ := hy i (by simp)
          have hrest := ih (i + 1) a' hn.2 (fun j hj => hx j (by simp only [List.length_cons]; omega)) (fun j hj => hy j (by simp only [List.length_cons]; omega)) h2
          have hparts : knownT (T.row q.type) = true ∧ isAggT (T.row q.type) = false ∧ (Op.equalIn (d + 1) q.type cx cy).run P w = .ok a w := by
            unfold eqLit at h1
            split at h1
            · next k0 k a0 k' b0 hd hfx hgy =>
              rw [hfx] at x2
              rw [hgy] at y2
              have x2 : cx = .int k a0 := x2
              have y2 : cy = .int k' b0 := y2
              subst x2 y2
              cases hk : (k == k') with
              | false => rw [hk] at h1; cases h1
              | true =>
                rw [hk] at h1
                simp only [cond_true, Option.some.injEq] at h1
                have hkk : k = k' := by simpa using hk
                subst hkk h1
                obtain ⟨ti, z, hr⟩ := hT.is (t := q.type) (by rw [hd]; exact fun h => nomatch h)
                refine ⟨by unfold knownT; rw [hd], by unfold isAggT; rw [hd], ?_⟩
                exact run_equalIn_int w d q.type k k0 a0 b0 (und_int (hr.d.symm.trans hd))
            · next a0 b0 hd hfx hgy =>
              rw [hfx] at x2
              rw [hgy] at y2
              have x2 : cx = .bool a0 := x2
              have y2 : cy = .bool b0 := y2
              subst x2 y2
              simp only [Option.some.injEq] at h1
              subst h1
              obtain ⟨ti, z, hr⟩ := hT.is (t := q.type) (by rw [hd]; exact fun h => nomatch h)
              refine ⟨by unfold knownT; rw [hd], by unfold isAggT; rw [hd], ?_⟩
              have hdd := hr.d.symm.trans hd
              have : P.underlying q.type = some .bool := by unfold convD at hdd; split at hdd <;> cases hdd; assumption
              exact run_equalIn_bool' w d q.type a0 b0 this
            · cases h1
          obtain ⟨hk, ha, he⟩ := hparts
          have hne : q.name ≠ "_" := by simpa using hn.1
          simp only [Op.eqFields, if_pos hne, Sem.run_bind, ho', run_part_leaf hT hk ha xs i x1, run_part_leaf hT hk ha ys i y1, Result.andThen_ok, he]
          cases a with
          | false => simp
          | true => simp [hrest]

theorem eqLit_ok (hT : TabOk P T) {φ : Phi} {base : Nat} {w : World} {x y : V} {cx cy : Value} (hx : Rep φ base w x cx) (hy : Rep φ base w y cy) {t : TypeId} {a : Bool} (h : eqLit (T.row t).d x y = some a) (d : Nat) :
    knownT (T.row t) = true ∧ isAggT (T.row t) = false ∧ (Op.equalIn (d + 1) t cx cy).run P w = .ok a w := by
  unfold eqLit at h
  split at h
  · next k0 k a0 k' b0 hd =>
    have x2 : cx = .int k a0 := hx
    have y2 : cy = .int k' b0 := hy
    subst x2 y2
    cases hk : (k == k') with
    | false => rw [hk] at h; cases h
    | true =>
      rw [hk] at h
      simp only [cond_true, Option.some.injEq] at h
      have hkk : k = k' := by simpa using hk
      subst hkk h
      obtain ⟨ti, z, hr⟩ := hT.is (t := t) (by rw [hd]; exact fun h => nomatch h)
      exact ⟨by unfold knownT; rw [hd], by unfold isAggT; rw [hd], run_equalIn_int w d t k k0 a0 b0 (und_int (hr.d.symm.trans hd))⟩
  · next a0 b0 hd =>
    have x2 : cx = .bool a0 := hx
    have y2 : cy = .bool b0 := hy
    subst x2 y2
    simp only [Option.some.injEq] at h
    subst h
    obtain ⟨ti, z, hr⟩ := hT.is (t := t) (by rw [hd]; exact fun h => nomatch h)
    refine ⟨by unfold knownT; rw [hd], by unfold isAggT; rw [hd], ?_⟩
    have hdd := hr.d.symm.trans hd
    have : P.underlying t = some .bool := by unfold convD at hdd; split at hdd <;> cases hdd; assumption
    exact run_equalIn_bool' w d t a0 b0 this
  · cases h
theorem eqAr_ok (hT : TabOk P T) {φ : Phi} {base : Nat} {w : World} {f g : Nat → V} {xs ys : Array Value} (d : Nat) {e : TypeId} : ∀ (n i : Nat) (b : Bool),
    (∀ j, j < i + n → ∃ c, xs[j]? = some c ∧ Rep φ base w (f j) c) → (∀ j, j < i + n → ∃ c, ys[j]? = some c ∧ Rep φ base w (g j) c) →
    eqAr (T.row e).d f g i n = some b → (Op.eqItems (d + 1) e 1 xs ys (List.range' i n)).run P w = .ok b w := by
  intro n
  induction n with
  | zero =>
    intro i b _ _ h
    simp only [eqAr, Option.some.injEq] at h
    subst h
    simp [Op.eqItems]
  | succ n ih =>
    intro i b hx hy h
    simp only [eqAr] at h
    cases h1 : eqLit (T.row e).d (f i) (g i) with
    | none => rw [h1] at h; cases h
    | some a =>
      cases h2 : eqAr (T.row e).d f g (i + 1) n with
      | none => rw [h1, h2] at h; cases h
      | some a' =>
        rw [h1, h2] at h
        simp only [Option.some.injEq] at h
        subst h
        obtain ⟨cx, x1, x2⟩ := hx i (by omega)
        obtain ⟨cy, y1, y2⟩ := hy i (by omega)
        have hrest := ih (i + 1) a' (fun j hj => hx j (by omega)) (fun j hj => hy j (by omega)) h2
        obtain ⟨hk, ha, he⟩ := eqLit_ok hT x2 y2 h1 d
        simp only [List.range'_succ, Op.eqItems, Sem.run_bind, Nat.mul_one, run_part_leaf hT hk ha xs i x1, run_part_leaf hT hk ha ys i y1, Result.andThen_ok, he]
        cases a with
        | false => simp
        | true => simpa using hrest

theorem aggEq_ok (hT : TabOk P T) {φ : Phi} {base : Nat} {w : World} {t n m : Nat} {f g : Nat → V} {cx cy : Value} {b : Bool} (hx : Rep φ base w (.agg n f) cx) (hy : Rep φ base w (.agg m g) cy) (h : aggEq T t n m f g = some b) :
    ∃ xs ys, cx = .agg xs ∧ cy = .agg ys ∧ P.eqGuardType P.depth t = false ∧ (Op.equalIn 10000 t (.agg xs) (.agg ys)).run P w = .ok b w := by
  unfold aggEq at h
  split at h
  · next fs hd =>
    cases hc : ((T.row t).eq && Nat.beq n fs.length && Nat.beq m fs.length) with
    | false => rw [hc] at h; cases h
    | true =>
      rw [hc] at h
      simp only [cond_true] at h
      simp only [Bool.and_eq_true] at hc
      obtain ⟨⟨hq, hn⟩, hm⟩ := hc
      have hn := Nat.eq_of_beq_eq_true hn
      have hm := Nat.eq_of_beq_eq_true hm
      obtain ⟨ti, z, hr⟩ := hT.is (t := t) (by rw [hd]; exact fun h => nomatch h)
      obtain ⟨fl, hf, hfs⟩ := und_struct (hr.d.symm.trans hd)
      have he := hr.eq
      rw [hq] at he
      unfold eqT at he
      rw [hf] at he
      simp only at he
      have he := he.symm
      simp only [Bool.and_eq_true, Bool.not_eq_true'] at he
      obtain ⟨xs, rfl, x1, x2⟩ := hx
      obtain ⟨ys, rfl, y1, y2⟩ := hy
      have hfl : P.fieldsOf t = fl := by simp [Program.fieldsOf, hf]
      refine ⟨xs, ys, rfl, rfl, he.1.1, ?_⟩
      rw [run_equalIn_agg w 9999 t xs ys (by rw [hfl]; exact hf) he.1.2, hfl]
      have hlen : fs.length = fl.toList.length := by rw [← hfs, List.length_map]
      refine eqFs_ok (φ := φ) (base := base) hT 9998 fl.toList 0 b he.2 (fun j hj => ?_) (fun j hj => ?_) (by rw [hfs]; exact h)
      · obtain ⟨c, e1, e2, e3⟩ := x2 j (by omega)
        exact ⟨c, e1, e3⟩
      · obtain ⟨c, e1, e2, e3⟩ := y2 j (by omega)
        exact ⟨c, e1, e3⟩
  · next l e hd =>
    cases hc : ((T.row t).eq && Nat.beq n l && Nat.beq m l && Nat.beq (T.row e).sz 1 && knownT (T.row e)) with
    | false => rw [hc] at h; cases h
    | true =>
      rw [hc] at h
      simp only [cond_true] at h
      simp only [Bool.and_eq_true] at hc
      obtain ⟨⟨⟨⟨hq, hn⟩, hm⟩, hsz⟩, hkn⟩ := hc
      have hn := Nat.eq_of_beq_eq_true hn
      have hm := Nat.eq_of_beq_eq_true hm
      have hsz := Nat.eq_of_beq_eq_true hsz
      obtain ⟨ti, z, hr⟩ := hT.is (t := t) (by rw [hd]; exact fun h => nomatch h)
      have hu := und_array (hr.d.symm.trans hd)
      have he := hr.eq
      rw [hq] at he
      unfold eqT at he
      rw [hu] at he
      simp only at he
      have he := he.symm
      simp only [Bool.not_eq_true'] at he
      obtain ⟨xs, rfl, x1, x2⟩ := hx
      obtain ⟨ys, rfl, y1, y2⟩ := hy
      refine ⟨xs, ys, rfl, rfl, he, ?_⟩
      · obtain ⟨ie, ze, hre⟩ := hT.is (t := e) (knownT_ne hkn)
        rw [run_equalIn_array w 9999 xs ys hu hre.info, show P.cellsOf e = 1 by rw [← hsz, hre.sz]; simp [Program.cellsOf, hre.info], List.range_eq_range']
        refine eqAr_ok (φ := φ) (base := base) hT 9998 l 0 b (fun j hj => ?_) (fun j hj => ?_) h
        · obtain ⟨c, e1, e2, e3⟩ := x2 j (by omega)
          exact ⟨c, e1, e3⟩
        · obtain ⟨c, e1, e2, e3⟩ := y2 j (by omega)
          exact ⟨c, e1, e3⟩
  · cases h

theorem binV_ok (hT : TabOk P T) {φ : Phi} {base : Nat} {w : World} {op : BinOp} {t : TypeId} {X Y : V} {cx cy : Value} (hx : Rep φ base w X cx) (hy : Rep φ base w Y cy) (x y : Operand) {p : Obl} {v : V} (h : binV T op t X Y = some (p, v)) (hp : p.holds) :
    ∃ cv, ((do eqGuard op t x y cx cy; binOp op t cx cy) : Sem Value).run P w = .ok cv w ∧ Rep φ base w v cv := by
  unfold binV at h
  split at h
  · next a b =>
    have hx : cx = a := hx
    have hy : cy = b := hy
    subst hx hy
    split at h
    · next p1 v1 hb =>
      simp only [Option.some.injEq, Prod.mk.injEq] at h
      obtain ⟨rfl, rfl⟩ := h
      exact ⟨v1, by simp [eqGuard_lit op t x y hb, aBin_ok hb hp], rfl⟩
    · split at h
      · next p1 v1 hb =>
        simp only [Option.some.injEq, Prod.mk.injEq] at h
        obtain ⟨rfl, rfl⟩ := h
        unfold aMore at hb
        split at hb
        · next k a k' b _ =>
          simp only [Option.some.injEq, Prod.mk.injEq] at hb
          obtain ⟨rfl, rfl⟩ := hb
          have hp : (0 : Int) ≤ b := hp
          exact ⟨_, by simp [eqGuard, binOp, Op.shift, Int.not_lt.2 hp], rfl⟩
        · next k a k' b _ =>
          simp only [Option.some.injEq, Prod.mk.injEq] at hb
          obtain ⟨rfl, rfl⟩ := hb
          have hp : (0 : Int) ≤ b := hp
          exact ⟨_, by simp [eqGuard, binOp, Op.shift, Int.not_lt.2 hp], rfl⟩
        · next k a k' b _ =>
          cases hk : (k == k') with
          | false => rw [hk] at hb; cases hb
          | true =>
            rw [hk] at hb
            simp only [cond_true, Option.some.injEq, Prod.mk.injEq] at hb
            obtain ⟨rfl, rfl⟩ := hb
            have hk := eq_of_beq hk
            subst hk
            exact ⟨_, by simp [eqGuard, binOp, Op.intBits]; first | rfl | simp [bitI], rfl⟩
        · next k a k' b _ =>
          cases hk : (k == k') with
          | false => rw [hk] at hb; cases hb
          | true =>
            rw [hk] at hb
            simp only [cond_true, Option.some.injEq, Prod.mk.injEq] at hb
            obtain ⟨rfl, rfl⟩ := hb
            have hk := eq_of_beq hk
            subst hk
            exact ⟨_, by simp [eqGuard, binOp, Op.intBits]; first | rfl | simp [bitI], rfl⟩
        · next k a k' b _ =>
          cases hk : (k == k') with
          | false => rw [hk] at hb; cases hb
          | true =>
            rw [hk] at hb
            simp only [cond_true, Option.some.injEq, Prod.mk.injEq] at hb
            obtain ⟨rfl, rfl⟩ := hb
            have hk := eq_of_beq hk
            subst hk
            exact ⟨_, by simp [eqGuard, binOp, Op.intBits]; first | rfl | simp [bitI], rfl⟩
        · next k a k' b _ =>
          cases hk : (k == k') with
          | false => rw [hk] at hb; cases hb
          | true =>
            rw [hk] at hb
            simp only [cond_true, Option.some.injEq, Prod.mk.injEq] at hb
            obtain ⟨rfl, rfl⟩ := hb
            have hk := eq_of_beq hk
            subst hk
            exact ⟨_, by simp [eqGuard, binOp, Op.intBits]; first | rfl | simp [bitI], rfl⟩
        · next a b _ =>
          split at hb
          · next hd =>
            simp only [Option.some.injEq, Prod.mk.injEq] at hb
            obtain ⟨rfl, rfl⟩ := hb
            obtain ⟨ti, z, hr⟩ := hT.is (t := t) (by rw [hd]; exact fun h => nomatch h)
            have hdd := hr.d.symm.trans hd
            have hu : P.underlying t = some .bool := by unfold convD at hdd; split at hdd <;> cases hdd; assumption
            exact ⟨_, by simp [eqGuard, binOp, run_equal_bool w t a b hu], rfl⟩
          · cases hb
        · next a b _ =>
          split at hb
          · next hd =>
            simp only [Option.some.injEq, Prod.mk.injEq] at hb
            obtain ⟨rfl, rfl⟩ := hb
            obtain ⟨ti, z, hr⟩ := hT.is (t := t) (by rw [hd]; exact fun h => nomatch h)
            have hdd := hr.d.symm.trans hd
            have hu : P.underlying t = some .bool := by unfold convD at hdd; split at hdd <;> cases hdd; assumption
            exact ⟨_, by simp [eqGuard, binOp, run_equal_bool w t a b hu], rfl⟩
          · cases hb
        · cases hb
      · cases h
  · next n f m g =>
    split at h
    · split at h
      · next b hb =>
        simp only [Option.some.injEq, Prod.mk.injEq] at h
        obtain ⟨rfl, rfl⟩ := h
        obtain ⟨xs, ys, rfl, rfl, h1, h2⟩ := aggEq_ok hT hx hy hb
        exact ⟨.bool b, by simp [run_eqGuard_agg w _ t x y xs ys h1, run_eql_struct, h2], rfl⟩
      · cases h
    · split at h
      · next b hb =>
        simp only [Option.some.injEq, Prod.mk.injEq] at h
        obtain ⟨rfl, rfl⟩ := h
        obtain ⟨xs, ys, rfl, rfl, h1, h2⟩ := aggEq_ok hT hx hy hb
        exact ⟨.bool (!b), by simp [run_eqGuard_agg w _ t x y xs ys h1, run_neq_struct, h2], rfl⟩
      · cases h
    · cases h
  · cases h

theorem nilV_ok (hT : TabOk P T) {nb base : Nat} {φ : Phi} {w : World} {M : Mem} (hm : MemRel nb base φ w M) {op : BinOp} {t : TypeId} {X : V} {cx : Value} {ρ : Operand → Value} (hρ : ∀ v, ρ (.const v) = v) (hx : Rep φ base w X cx) (x : Operand) {y : Operand} (hy : isNilC y = true)
    {p : Obl} {v : V} (h : nilV T op t M X = some (p, v)) (hp : p.holds) :
    ∃ cv, ((do eqGuard op t x y cx (ρ y); binOp op t cx (ρ y)) : Sem Value).run P w = .ok cv w ∧ Rep φ base w v cv := by
  have hyy : ρ y = .slice none 0 0 := by
    unfold isNilC at hy
    split at hy
    · exact hρ _
    · cases hy
  rw [hyy]
  unfold nilV at h
  split at h
  · next e hd hq =>
    cases hb : isNilV X with
    | false => rw [hb] at h; cases h
    | true =>
      rw [hb] at h
      simp only [cond_true] at h
      have hcx : cx = .slice none 0 0 := by
        cases X with
        | emp nl =>
          obtain ⟨A, rfl, hA⟩ := hx
          rw [hA hb]
        | _ => cases hb
      obtain ⟨ti, z, hr⟩ := hT.is (t := t) (by rw [hd]; exact fun h => nomatch h)
      have hu := und_slice (hr.d.symm.trans hd)
      split at h
      · simp only [Option.some.injEq, Prod.mk.injEq] at h
        obtain ⟨rfl, rfl⟩ := h
        subst hcx
        exact ⟨.bool true, by simp [eqGuard, binOp, run_equal_slice_nil w t e none 0 0 hu], rfl⟩
      · simp only [Option.some.injEq, Prod.mk.injEq] at h
        obtain ⟨rfl, rfl⟩ := h
        subst hcx
        exact ⟨.bool false, by simp [eqGuard, binOp, run_equal_slice_nil w t e none 0 0 hu], rfl⟩
      · cases h
  · next e q hd hq =>
    have hs : q.holds → ∃ A l c, cx = .slice (some A) l c := by
      intro hq'
      cases X with
      | sl nm ver off len =>
        simp only [nonEmpty] at hq
        obtain ⟨r, hr, _, _, hv⟩ := hx
        obtain ⟨o, ho, hrel⟩ := hm.obj _ r hr
        rw [ho] at hq
        simp only [Option.some.injEq] at hq
        subst hq
        obtain ⟨h1, h2⟩ := hq'
        have h1 := eqnO_holds.1 h1
        have h2 : (0 : Int) < len := h2
        obtain ⟨g1, A, g2, g3⟩ := hv (by rw [← hrel.ver]; exact h1.symm)
        have := g3 (by have := hrel.le; omega)
        subst this
        exact ⟨_, _, _, g2⟩
      | ints fr xs =>
        cases xs with
        | nil => cases hq
        | cons y r =>
          obtain ⟨A, cap, rfl, _, _, g⟩ := hx
          obtain ⟨b, off, rfl, _⟩ := g (by simp)
          exact ⟨_, _, _, rfl⟩
      | seq fr sz n f =>
        simp only [nonEmpty, Option.some.injEq] at hq
        subst hq
        have h2 : (0 : Int) < n := hq'
        obtain ⟨A, cap, rfl, _, _, _, g⟩ := hx
        obtain ⟨b, off, rfl, _⟩ := g (by omega)
        exact ⟨_, _, _, rfl⟩
      | _ => cases hq
    obtain ⟨ti, z, hr⟩ := hT.is (t := t) (by rw [hd]; exact fun h => nomatch h)
    have hu := und_slice (hr.d.symm.trans hd)
    split at h
    · simp only [Option.some.injEq, Prod.mk.injEq] at h
      obtain ⟨rfl, rfl⟩ := h
      obtain ⟨A, l, c, rfl⟩ := hs hp
      exact ⟨.bool false, by simp [eqGuard, binOp, run_equal_slice_nil w t e (some A) l c hu], rfl⟩
    · simp only [Option.some.injEq, Prod.mk.injEq] at h
      obtain ⟨rfl, rfl⟩ := h
      obtain ⟨A, l, c, rfl⟩ := hs hp
      exact ⟨.bool true, by simp [eqGuard, binOp, run_equal_slice_nil w t e (some A) l c hu], rfl⟩
    · cases h
  · cases h

/-- 'x == nil' of a slice that may be nil or not. -/
theorem nilAny_ok (hT : TabOk P T) {base : Nat} {φ : Phi} {w : World} {op : BinOp} {t : TypeId} {X : V} {cx : Value} {ρ : Operand → Value} (hρ : ∀ v, ρ (.const v) = v) (hx : Rep φ base w X cx) (x : Operand) {y : Operand} (hy : isNilC y = true)
    (hs : isSliceT (T.row t) = true) (ho : isEqB op = true) (hm : mayNil X = true) : ∃ b, ((do eqGuard op t x y cx (ρ y); binOp op t cx (ρ y)) : Sem Value).run P w = .ok (.bool b) w := by
  have hyy : ρ y = .slice none 0 0 := by
    unfold isNilC at hy
    split at hy
    · exact hρ _
    · cases hy
  rw [hyy]
  have hcx : ∃ A l c, cx = .slice A l c := by
    cases X with
    | ints fr xs => obtain ⟨A, cap, rfl, _⟩ := hx; exact ⟨_, _, _, rfl⟩
    | emp nl => obtain ⟨A, rfl, _⟩ := hx; exact ⟨_, _, _, rfl⟩
    | _ => cases hm
  cases hd : (T.row t).d with
  | slice e =>
    obtain ⟨ti, z, hr⟩ := hT.is (t := t) (by rw [hd]; exact fun h => nomatch h)
    have hu := und_slice (hr.d.symm.trans hd)
    obtain ⟨A, l, c, rfl⟩ := hcx
    have he := run_equal_slice_nil w t e A l c hu
    cases op with
    | eql => exact ⟨_, by simp [eqGuard, binOp, he]; rfl⟩
    | neq => exact ⟨_, by simp [eqGuard, binOp, he]; rfl⟩
    | _ => cases ho
  | _ => unfold isSliceT at hs; rw [hd] at hs; cases hs

/-! ### addresses of elements, cuts -/

theorem indexV_ok (hT : TabOk P T) {nb base : Nat} {φ : Phi} {w : World} {M : Mem} (hm : MemRel nb base φ w M) {t : TypeId} {x v : V} {cx : Value} {k : IntKind} {i : Int} {p : Obl} (hx : Rep φ base w x cx) (h : indexV T M t x i = some (p, v)) (hp : p.holds) :
    ∃ cv, (Instr.indexAt t cx (.int k i)).run P w = .ok cv w ∧ Rep φ base w v cv := by
  cases hd : (T.row t).d with
  | slice e =>
    obtain ⟨it, z, hr⟩ := hT.is (by rw [hd]; exact fun h => nomatch h)
    have hu := und_slice (hr.d.symm.trans hd)
    simp only [indexV, hd] at h
    cases hke : knownT (T.row e) with
    | false => simp [hke] at h
    | true =>
      simp only [hke, cond_true] at h
      obtain ⟨ie, ze, hre⟩ := hT.is (knownT_ne hke)
      cases x with
      | ints fr xs =>
        simp only at h
        cases hz : Nat.beq (T.row e).sz 1 with
        | false => simp [hz] at h
        | true =>
          simp only [hz, cond_true, Option.some.injEq, Prod.mk.injEq] at h
          obtain ⟨rfl, rfl⟩ := h
          have hz : ie.size = 1 := by rw [← hre.sz]; exact Nat.eq_of_beq_eq_true hz
          obtain ⟨h0, h1⟩ := hp
          have h0 : 0 ≤ i := h0
          have h1 : i < (xs.length : Int) := h1
          obtain ⟨A, cap, rfl, h2, h3, h4⟩ := hx
          obtain ⟨b, off, rfl, g1, g2, g3⟩ := h4 (by omega)
          refine ⟨.pointer (some ⟨b, off + i.toNat, none⟩), ?_, b, off + i.toNat, by simp, ?_, g1, fun k hk => ?_⟩
          · simp [Instr.indexAt, asIntOf, run_underlying hu, h0, h1, sizeOf, typeInfo, hre.info, hz, addr_add]
          · exact World.block_lt_of_cell? w _ (g3 i.toNat (by omega))
          · have hk : k = 0 := by omega
            subst hk
            exact ⟨_, g3 i.toNat (by omega), rfl, rfl⟩
      | seq fr sz n f =>
        simp only at h
        cases hz : Nat.beq sz (T.row e).sz with
        | false => simp [hz] at h
        | true =>
          simp only [hz, cond_true, Option.some.injEq, Prod.mk.injEq] at h
          obtain ⟨rfl, rfl⟩ := h
          have hz : ie.size = sz := by rw [← hre.sz]; exact (Nat.eq_of_beq_eq_true hz).symm
          obtain ⟨h0, h1⟩ := hp
          have h0 : 0 ≤ i := h0
          have h1 : i < (n : Int) := h1
          obtain ⟨A, cap, rfl, h2, h3, hpos, h4⟩ := hx
          obtain ⟨b, off, rfl, g1, g2, g3⟩ := h4 (by omega)
          refine ⟨.pointer (some ⟨b, off + i.toNat * sz, none⟩), ?_, b, off + i.toNat * sz, by simp, ?_, g1, fun k hk => ?_⟩
          · simp [Instr.indexAt, asIntOf, run_underlying hu, h0, h1, sizeOf, typeInfo, hre.info, hz, addr_add]
          · obtain ⟨c, e1, _⟩ := g3 i.toNat 0 (by omega) hpos
            exact World.block_lt_of_cell? w _ e1
          · obtain ⟨c, e1, e2, e3⟩ := g3 i.toNat k (by omega) hk
            exact ⟨c, by rw [Nat.add_assoc]; exact e1, e2, e3⟩
      | sl nm ver off len =>
        obtain ⟨r, hrr, _, hle, hv⟩ := hx
        obtain ⟨ob, ho, hrel⟩ := hm.obj nm r hrr
        simp only [ho] at h
        cases hz : Nat.beq ob.sz (T.row e).sz with
        | false => simp [hz] at h
        | true =>
          simp only [hz, cond_true, Option.some.injEq, Prod.mk.injEq] at h
          obtain ⟨rfl, rfl⟩ := h
          have hz : ie.size = r.sz := by rw [← hre.sz, ← hrel.sz]; exact (Nat.eq_of_beq_eq_true hz).symm
          obtain ⟨hver, h0, h1⟩ := hp
          have hver := eqnO_holds.1 hver
          have h0 : 0 ≤ i := h0
          have h1 : i < (len : Int) := h1
          obtain ⟨g1, A, rfl, g2⟩ := hv (by rw [← hrel.ver, hver])
          have hcap := hrel.le
          obtain rfl := g2 (by omega)
          refine ⟨.pointer (some ⟨r.g, (off + i.toNat) * r.sz, none⟩), ?_, r, hrr, rfl, hle, fun _ => ⟨by simp, by omega⟩⟩
          simp [Instr.indexAt, asIntOf, run_underlying hu, h0, h1, sizeOf, typeInfo, hre.info, hz, addr_add, Nat.add_mul]
      | _ => simp at h
  | array n e =>
    obtain ⟨it, z, hr⟩ := hT.is (by rw [hd]; exact fun h => nomatch h)
    have hu := und_array (hr.d.symm.trans hd)
    simp only [indexV, hd] at h
    cases hke : knownT (T.row e) with
    | false => simp [hke] at h
    | true =>
      simp only [hke, cond_true] at h
      obtain ⟨ie, ze, hre⟩ := hT.is (knownT_ne hke)
      cases x with
      | ptr nm ver i0 o =>
        obtain ⟨r, hrr, _, hle, hv⟩ := hx
        obtain ⟨ob, ho, hrel⟩ := hm.obj nm r hrr
        simp only [ho, Option.some.injEq, Prod.mk.injEq] at h
        obtain ⟨rfl, rfl⟩ := h
        obtain ⟨hver, h0, h1⟩ := hp
        have hver := eqnO_holds.1 hver
        have h0 : 0 ≤ i := h0
        have h1 : i < (n : Int) := h1
        obtain ⟨rfl, hi⟩ := hv (by rw [← hrel.ver, hver])
        refine ⟨.pointer (some ⟨r.g, i0 * r.sz + o + i.toNat * ie.size, none⟩), ?_, r, hrr, rfl, hle, fun _ => ⟨by rw [hre.sz, Nat.add_assoc], hi⟩⟩
        simp [Instr.indexAt, Instr.sureAddr, asIntOf, run_underlying hu, h0, h1, sizeOf, typeInfo, hre.info, addr_add]
      | at_ sz g o =>
        obtain ⟨b, off, rfl, g0, g1, g2⟩ := hx
        simp only [Option.some.injEq, Prod.mk.injEq] at h
        obtain ⟨rfl, rfl⟩ := h
        obtain ⟨h0, h1⟩ := hp
        have h0 : 0 ≤ i := h0
        have h1 : i < (n : Int) := h1
        refine ⟨.pointer (some ⟨b, off + o + i.toNat * ie.size, none⟩), ?_, b, off, by rw [hre.sz, Nat.add_assoc], g0, g1, g2⟩
        simp [Instr.indexAt, Instr.sureAddr, asIntOf, run_underlying hu, h0, h1, sizeOf, typeInfo, hre.info, addr_add]
      | _ => simp at h
  | _ => simp [indexV, hd] at h

theorem opt_eval {ev : Operand → V} {ρ : Operand → Value} {φ : Phi} {base : Nat} {w : World} (hev : ∀ x, Rep φ base w (ev x) (ρ x)) {x : Option Operand} {y : Option Int} (h : optInt ev x = some y) :
    (x = none ∧ y = none) ∨ ∃ o k i, x = some o ∧ y = some i ∧ ρ o = .int k i := by
  cases x with
  | none => simp only [optInt, Option.some.injEq] at h; exact .inl ⟨rfl, h.symm⟩
  | some o =>
    simp only [optInt] at h
    have := hev o
    cases hx : ev o with
    | lit v =>
      rw [hx] at h this
      cases v with
      | int k i => simp only [Option.some.injEq] at h; exact .inr ⟨o, k, i, rfl, h.symm, this⟩
      | _ => simp at h
    | _ => rw [hx] at h; simp at h

theorem run_slice_opt {t e : TypeId} {ie : TypeInfo} (hu : P.underlying t = some (.slice e)) (hi : P.info? e = some ie) (w : World) (A : Option Addr) (len cap : Nat) (lo hi : Option Value) (l h : Nat)
    (hlo : (lo = none ∧ l = 0) ∨ ∃ k, lo = some (.int k (l : Int))) (hhi : (hi = none ∧ h = len) ∨ ∃ k, hi = some (.int k (h : Int))) (h1 : l ≤ h) (h2 : h ≤ cap) :
    (Instr.sliceAt t (.slice A len cap) lo hi none).run P w = .ok (.slice (if cap = l then A else A.map (·.add (l * ie.size))) (h - l) (cap - l)) w := by
  have c1 : (h : Int) ≤ (cap : Int) := by omega
  have c2 : (l : Int) ≤ (h : Int) := by omega
  rcases hlo with ⟨rfl, rfl⟩ | ⟨kl, rfl⟩ <;> rcases hhi with ⟨rfl, rfl⟩ | ⟨kh, rfl⟩ <;>
    simp [Instr.sliceAt, Instr.slice, Instr.sliceBounds, Instr.sliceBound, asIntOf, run_underlying hu, sizeOf, typeInfo, hi, h1, h2]

theorem sliceV_ok (hT : TabOk P T) {nb base : Nat} {φ : Phi} {w : World} {M : Mem} (hm : MemRel nb base φ w M) {t e : TypeId} (hd : (T.row t).d = .slice e) (hke : knownT (T.row e) = true) {x v : V} {cx : Value}
    {ev : Operand → V} {ρ : Operand → Value} (hev : ∀ x, Rep φ base w (ev x) (ρ x)) {lo hi : Option Operand} {l h : Option Int} (hl : optInt ev lo = some l) (hh : optInt ev hi = some h) {p : Obl}
    (hx : Rep φ base w x cx) (hs : sliceV M (T.row e).sz x l h = some (p, v)) (hp : p.holds) :
    ∃ cv, (Instr.sliceAt t cx (lo.map ρ) (hi.map ρ) none).run P w = .ok cv w ∧ Rep φ base w v cv := by
  obtain ⟨it, z, hr⟩ := hT.is (by rw [hd]; exact fun h => nomatch h)
  have hu := und_slice (hr.d.symm.trans hd)
  obtain ⟨ie, ze, hre⟩ := hT.is (knownT_ne hke)
  have LO : ∀ n : Int, 0 ≤ l.getD 0 → ((lo.map ρ = none ∧ (l.getD 0).toNat = 0) ∨ ∃ k, lo.map ρ = some (.int k (((l.getD 0).toNat : Nat) : Int))) := by
    intro _ h0
    rcases opt_eval hev hl with ⟨rfl, rfl⟩ | ⟨o, k, i, rfl, rfl, hρ⟩
    · exact .inl ⟨rfl, rfl⟩
    · refine .inr ⟨k, ?_⟩
      simp only [Option.getD_some] at h0 ⊢
      rw [Int.toNat_of_nonneg h0]
      simp [hρ]
  have HI : ∀ len : Nat, 0 ≤ h.getD len → ((hi.map ρ = none ∧ (h.getD len).toNat = len) ∨ ∃ k, hi.map ρ = some (.int k (((h.getD len).toNat : Nat) : Int))) := by
    intro len h0
    rcases opt_eval hev hh with ⟨rfl, rfl⟩ | ⟨o, k, i, rfl, rfl, hρ⟩
    · exact .inl ⟨rfl, by simp⟩
    · refine .inr ⟨k, ?_⟩
      simp only [Option.getD_some] at h0 ⊢
      rw [Int.toNat_of_nonneg h0]
      simp [hρ]
  cases x with
  | ints fr xs =>
    simp only [sliceV] at hs
    cases hz : Nat.beq (T.row e).sz 1 with
    | false => simp [hz] at hs
    | true =>
      simp only [hz, cond_true, Option.some.injEq, Prod.mk.injEq] at hs
      obtain ⟨rfl, rfl⟩ := hs
      have hz : ie.size = 1 := by rw [← hre.sz]; exact Nat.eq_of_beq_eq_true hz
      obtain ⟨p1, p2, p3⟩ := hp
      have p1 : 0 ≤ l.getD 0 := p1
      have p2 : l.getD 0 ≤ h.getD xs.length := p2
      have p3 : h.getD xs.length ≤ (xs.length : Int) := p3
      obtain ⟨A, cap, rfl, h2, h3, h4⟩ := hx
      have hrun := run_slice_opt (P := P) hu hre.info w A xs.length cap (lo.map ρ) (hi.map ρ) (l.getD 0).toNat (h.getD xs.length).toNat (LO 0 p1) (HI xs.length (by omega)) (by omega) (by omega)
      refine ⟨_, hrun, ?_⟩
      have hlen : ((xs.drop (l.getD 0).toNat).take ((h.getD xs.length).toNat - (l.getD 0).toNat)).length = (h.getD xs.length).toNat - (l.getD 0).toNat := by
        rw [List.length_take, List.length_drop]; omega
      refine ⟨_, _, by rw [hlen], by rw [hlen]; omega, by omega, fun hn => ?_⟩
      rw [hlen] at hn
      obtain ⟨b, off, rfl, g1, g2, g3⟩ := h4 (by omega)
      rw [if_neg (by omega)]
      refine ⟨b, off + (l.getD 0).toNat, by simp [hz, addr_add], g1, g2, fun j hj => ?_⟩
      rw [hlen] at hj
      rw [Nat.add_assoc, g3 _ (by omega)]
      simp [List.getD, List.getElem?_take_of_lt hj]
  | seq fr sz n f =>
    simp only [sliceV] at hs
    cases hz : Nat.beq sz (T.row e).sz with
    | false => simp [hz] at hs
    | true =>
      simp only [hz, cond_true, Option.some.injEq, Prod.mk.injEq] at hs
      obtain ⟨rfl, rfl⟩ := hs
      have hz1 := Nat.eq_of_beq_eq_true hz
      have hz : ie.size = sz := by rw [← hre.sz]; exact hz1.symm
      obtain ⟨p1, p2, p3⟩ := hp
      have p1 : 0 ≤ l.getD 0 := p1
      have p2 : l.getD 0 ≤ h.getD n := p2
      have p3 : h.getD n ≤ (n : Int) := p3
      obtain ⟨A, cap, rfl, h2, h3, hpos, h4⟩ := hx
      have hrun := run_slice_opt (P := P) hu hre.info w A n cap (lo.map ρ) (hi.map ρ) (l.getD 0).toNat (h.getD n).toNat (LO 0 p1) (HI n (by omega)) (by omega) (by omega)
      refine ⟨_, hrun, ?_⟩
      refine ⟨_, _, rfl, by omega, by omega, by rw [← hz1]; exact hpos, fun hn => ?_⟩
      obtain ⟨b, off, rfl, g1, g2, g3⟩ := h4 (by omega)
      rw [if_neg (by omega)]
      refine ⟨b, off + (l.getD 0).toNat * sz, by simp [hz, addr_add], g1, g2, fun j o hj ho => ?_⟩
      obtain ⟨c, e1, e2, e3⟩ := g3 ((l.getD 0).toNat + j) o (by omega) (by rw [hz1]; exact ho)
      refine ⟨c, ?_, e2, e3⟩
      rw [← e1, ← hz1, Nat.add_mul]
      simp only [Nat.add_assoc]
  | sl nm ver off len =>
    obtain ⟨r, hrr, _, hle, hv⟩ := hx
    obtain ⟨ob, ho, hrel⟩ := hm.obj nm r hrr
    simp only [sliceV, ho] at hs
    cases hz : Nat.beq ob.sz (T.row e).sz with
    | false => simp [hz] at hs
    | true =>
      simp only [hz, cond_true, Option.some.injEq, Prod.mk.injEq] at hs
      obtain ⟨rfl, rfl⟩ := hs
      have hz : ie.size = r.sz := by rw [← hre.sz, ← hrel.sz]; exact (Nat.eq_of_beq_eq_true hz).symm
      obtain ⟨hver, p1, p2, p3⟩ := hp
      have hver := eqnO_holds.1 hver
      have p1 : 0 ≤ l.getD 0 := p1
      have p2 : l.getD 0 ≤ h.getD len := p2
      have p3 : h.getD len ≤ (len : Int) := p3
      obtain ⟨g1, A, rfl, g2⟩ := hv (by rw [← hrel.ver, hver])
      have hcap := hrel.le
      have hrun := run_slice_opt (P := P) hu hre.info w A len (r.cap - off) (lo.map ρ) (hi.map ρ) (l.getD 0).toNat (h.getD len).toNat (LO 0 p1) (HI len (by omega)) (by omega) (by omega)
      refine ⟨_, hrun, r, hrr, rfl, hle, fun _ => ⟨by omega, ?_⟩⟩
      by_cases hc : r.cap - off = (l.getD 0).toNat
      · rw [if_pos hc]
        exact ⟨A, by congr 1; omega, fun hlt => absurd hlt (by omega)⟩
      · rw [if_neg hc]
        obtain rfl := g2 (by omega)
        refine ⟨some ⟨r.g, off * r.sz + (l.getD 0).toNat * r.sz, none⟩, ?_, fun _ => by rw [Nat.add_mul]⟩
        simp only [Option.map_some, hz, addr_add]
        congr 1
        omega
  | emp nl =>
    simp only [sliceV, Option.some.injEq, Prod.mk.injEq] at hs
    obtain ⟨rfl, rfl⟩ := hs
    obtain ⟨p1, p2, p3⟩ := hp
    have p1 : 0 ≤ l.getD 0 := p1
    have p2 : l.getD 0 ≤ h.getD 0 := p2
    have p3 : h.getD 0 ≤ 0 := p3
    obtain ⟨A, rfl, hnl⟩ := hx
    have hrun := run_slice_opt (P := P) hu hre.info w A 0 0 (lo.map ρ) (hi.map ρ) (l.getD 0).toNat (h.getD (0 : Nat)).toNat (LO 0 p1) (HI 0 (by simp; omega)) (by simp; omega) (by simp; omega)
    refine ⟨_, hrun, ?_⟩
    have e1 : (h.getD (0 : Nat)).toNat - (l.getD 0).toNat = 0 := by simp; omega
    have e2 : 0 - (l.getD 0).toNat = 0 := by omega
    rw [e1, e2]
    exact ⟨_, rfl, fun h => by rw [hnl h]; simp⟩
  | _ => simp [sliceV] at hs

/-- A slice of an array that nobody writes to. -/
theorem sliceArr_ok (hT : TabOk P T) {base : Nat} {φ : Phi} {w : World} {t e n : Nat} (hd : (T.row t).d = .array n e) (hke : knownT (T.row e) = true) (hsz : (T.row e).sz = 1) {g : Nat → V} {cx : Value}
    (hx : Rep φ base w (.at_ n g 0) cx) (hn : n ≤ 1000) (hg : (List.range n).all (fun k => (g k).isI64) = true)
    {ev : Operand → V} {ρ : Operand → Value} (hev : ∀ x, Rep φ base w (ev x) (ρ x)) {lo hi : Option Operand} {l h : Option Int} (hl : optInt ev lo = some l) (hh : optInt ev hi = some h)
    (p1 : 0 ≤ l.getD 0) (p2 : l.getD 0 ≤ h.getD n) (p3 : h.getD n ≤ n) :
    ∃ cv, (Instr.sliceAt t cx (lo.map ρ) (hi.map ρ) none).run P w = .ok cv w ∧ Rep φ base w (.ints false ((List.range ((h.getD n).toNat - (l.getD 0).toNat)).map fun j => (g ((l.getD 0).toNat + j)).toInt)) cv := by
  obtain ⟨it, z, hr⟩ := hT.is (by rw [hd]; exact fun h => nomatch h)
  have hu := und_array (hr.d.symm.trans hd)
  obtain ⟨ie, ze, hre⟩ := hT.is (knownT_ne hke)
  have hie : ie.size = 1 := by rw [← hre.sz]; exact hsz
  have LO : ((lo.map ρ = none ∧ (l.getD 0).toNat = 0) ∨ ∃ k, lo.map ρ = some (.int k (((l.getD 0).toNat : Nat) : Int))) := by
    rcases opt_eval hev hl with ⟨rfl, rfl⟩ | ⟨o, k, i, rfl, rfl, hρ⟩
    · exact .inl ⟨rfl, rfl⟩
    · refine .inr ⟨k, ?_⟩
      simp only [Option.getD_some] at p1 ⊢
      rw [Int.toNat_of_nonneg p1]
      simp [hρ]
  have HI : ((hi.map ρ = none ∧ (h.getD n).toNat = n) ∨ ∃ k, hi.map ρ = some (.int k (((h.getD n).toNat : Nat) : Int))) := by
    rcases opt_eval hev hh with ⟨rfl, rfl⟩ | ⟨o, k, i, rfl, rfl, hρ⟩
    · exact .inl ⟨rfl, by simp⟩
    · refine .inr ⟨k, ?_⟩
      have p4 : 0 ≤ i := by simp only [Option.getD_some] at p1 p2; omega
      simp only [Option.getD_some]
      rw [Int.toNat_of_nonneg p4]
      simp [hρ]
  generalize hla : (l.getD 0).toNat = a at *
  generalize hlb : (h.getD n).toNat = b at *
  have c1 : a ≤ b := by omega
  have c2 : b ≤ n := by omega
  have c3 : (b : Int) ≤ (n : Int) := by omega
  have c4 : (a : Int) ≤ (b : Int) := by omega
  obtain ⟨bk, off, rfl, g0, g1, g2⟩ := hx
  refine ⟨.slice (some (if n = a then ⟨bk, off + 0, none⟩ else ⟨bk, off + a, none⟩)) (b - a) (n - a), ?_, ?_⟩
  · rcases LO with ⟨e1, e2⟩ | ⟨kl, e1⟩ <;> rcases HI with ⟨f1, f2⟩ | ⟨kh, f1⟩ <;> rw [e1, f1] <;>
      simp_all [Instr.sliceAt, Instr.sureAddr, Instr.sliceBounds, Instr.sliceBound, asIntOf, run_underlying hu, sizeOf, typeInfo, hre.info, addr_add]
  · have hlen : ((List.range (b - a)).map fun j => (g (a + j)).toInt).length = b - a := by simp
    refine ⟨_, _, by rw [hlen], by rw [hlen]; omega, by have : maxLen = 9223372036854775807 := by decide
                                                        omega, fun hp => ?_⟩
    rw [hlen] at hp
    rw [if_neg (by omega)]
    refine ⟨bk, off + a, rfl, g1, fun h => (nomatch h), fun j hj => ?_⟩
    rw [hlen] at hj
    obtain ⟨c, e1, e2, e3⟩ := g2 (a + j) (by omega)
    have hi := List.all_eq_true.1 hg (a + j) (by simp; omega)
    rw [isI64_eq hi] at e3
    have e3 : c = .int .i64 (g (a + j)).toInt := e3
    rw [Nat.add_assoc, e1, e3]
    simp [List.getD, hj]

/-- 'xs[:h:h]'. -/
theorem slice3_ok (hT : TabOk P T) {base : Nat} {φ : Phi} {w : World} {t e : TypeId} (hd : (T.row t).d = .slice e) (hke : knownT (T.row e) = true) (_hsz : (T.row e).sz = 1) {fr : Bool} {xs : List Int} {cx : Value} (hx : Rep φ base w (.ints fr xs) cx)
    {kh km : IntKind} {h m : Int} (h1 : 0 ≤ h) (h2 : h ≤ m) (h3 : m ≤ h) (h4 : h ≤ xs.length) :
    ∃ cv, (Instr.sliceAt t cx none (some (.int kh h)) (some (.int km m))).run P w = .ok cv w ∧ Rep φ base w (.full (xs.take h.toNat)) cv := by
  obtain ⟨it, z, hr⟩ := hT.is (by rw [hd]; exact fun h => nomatch h)
  have hu := und_slice (hr.d.symm.trans hd)
  obtain ⟨ie, ze, hre⟩ := hT.is (knownT_ne hke)
  obtain rfl : m = h := by omega
  obtain ⟨n, rfl⟩ : ∃ n : Nat, m = n := ⟨m.toNat, by omega⟩
  obtain ⟨A, cap, rfl, g2, g3, g4⟩ := hx
  have hn : n ≤ xs.length := by omega
  have hl : (xs.take n).length = n := by rw [List.length_take]; omega
  rw [Int.toNat_natCast]
  have c1 : n ≤ cap := by omega
  refine ⟨.slice (if n = 0 then A else A.map (·.add (0 * ie.size))) n n, ?_, ?_⟩
  · simp [Instr.sliceAt, Instr.slice, Instr.sliceBounds, Instr.sliceBound, asIntOf, run_underlying hu, sizeOf, typeInfo, hre.info, c1]
  · refine ⟨_, by rw [hl], by omega, fun h0 => ?_⟩
    rw [hl] at h0
    obtain ⟨b, off, rfl, k1, _, k3⟩ := g4 (by omega)
    rw [if_neg (by omega)]
    refine ⟨b, off, by simp [addr_add], k1, fun j hj => ?_⟩
    rw [hl] at hj
    rw [k3 j (by omega)]
    simp [List.getD, List.getElem?_take_of_lt hj]

end
end Go.Tri
