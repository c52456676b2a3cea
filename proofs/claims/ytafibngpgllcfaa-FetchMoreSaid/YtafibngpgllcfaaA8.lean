/-
  SOUNDNESS, FOURTH PART: every operation without a call.
-/
import Derived.Laws.StructEq
import Derived.Laws.Cover3
import Derived.Test.YtafibngpgllcfaaA6
namespace Go.Tri
variable {lo : Nat}
open Go.RowKit

section
variable {P : Program} {T : Tab}

/-- The run of an operation, as the evaluator foresees it. -/
def Runs (nb base nm : Nat) (φ : Phi) (w : World) (v : V) (M' : Mem) (r : Result Next) : Prop :=
  ∃ cv w' φ', (r = .ok (.value cv) w' ∨ (r = .ok .skip w' ∧ cv = undef)) ∧ Step nb base nm φ w v M' cv w' φ'

theorem Runs.val {nb base nm : Nat} {φ : Phi} {w : World} {v : V} {M : Mem} {s : Sem Value} {cv : Value} (hm : MemRel nb base φ w M) (hr : s.run P w = .ok cv w) (h : Rep φ base w v cv) :
    Runs nb base nm φ w v M ((do pure (.value (← s)) : Sem Next).run P w) :=
  ⟨cv, w, φ, .inl (by simp [hr]), Step.same hm h⟩

theorem aBin_ok {op : BinOp} {x y v : Value} {p : Obl} (h : aBin op x y = some (p, v)) (hp : p.holds) (t : TypeId) (w : World) : (binOp op t x y).run P w = .ok v w := by
  cases x with
  | int k a =>
    cases y with
    | int k' b =>
      simp only [aBin] at h
      cases hk : (k == k') with
      | false => simp [hk] at h
      | true =>
        simp only [hk, cond_true] at h
        have hkk : k = k' := by simpa using hk
        subst hkk
        have har : ∀ r : Int, (arith k r).1.holds → (arith k r).2 = .int k (k.wrap r) := by
          intro r hr
          cases k <;> try rfl
          simp only [arith, Obl.holds] at hr ⊢
          unfold InR at hr
          rw [show IntKind.i64.wrap r = r from IntWalk.i64_in r ⟨hr.1, hr.2⟩]
        cases op <;> simp only [Option.some.injEq, Prod.mk.injEq, reduceCtorEq] at h
        case add =>
          have h1 : (arith k (a + b)).1 = p := by rw [h]
          have h2 : (arith k (a + b)).2 = v := by rw [h]
          simp [binOp, Op.intArith, ← har (a + b) (by rw [h1]; exact hp), h2]
        case sub =>
          have h1 : (arith k (a - b)).1 = p := by rw [h]
          have h2 : (arith k (a - b)).2 = v := by rw [h]
          simp [binOp, Op.intArith, ← har (a - b) (by rw [h1]; exact hp), h2]
        case mul =>
          have h1 : (arith k (a * b)).1 = p := by rw [h]
          have h2 : (arith k (a * b)).2 = v := by rw [h]
          simp [binOp, Op.intArith, ← har (a * b) (by rw [h1]; exact hp), h2]
        case quo =>
          obtain ⟨rfl, h2⟩ := h
          obtain ⟨hb, hh⟩ := hp
          have hb : b ≠ 0 := hb
          simp [binOp, Op.intDiv, hb, ← har (a.tdiv b) hh, h2]
        case rem =>
          obtain ⟨rfl, rfl⟩ := h
          have hb : b ≠ 0 := hp
          simp [binOp, Op.intDiv, hb]
        all_goals
          obtain ⟨rfl, rfl⟩ := h
          simp [binOp, Op.intCmp]
    | _ => simp [aBin] at h
  | _ => simp [aBin] at h

/-- '==' on two values that are no two nil interfaces and no two structs asks nothing. -/
theorem eqGuard_lit (op : BinOp) (t : TypeId) (x y : Operand) {a b : Value} {p : Obl} {v : Value} (h : aBin op a b = some (p, v)) (w : World) : (eqGuard op t x y a b).run P w = .ok () w := by
  cases a with
  | int k n =>
    cases b with
    | int k' m => cases op <;> rfl
    | _ => simp [aBin] at h
  | _ => simp [aBin] at h

theorem zero_cells {t : TypeId} {i : TypeInfo} {z : Value} (hr : RowIs P (T.row t) t i z) (hz : z.cells.size = i.size) (k : Nat) (hk : k < i.size) : z.cells[k]? = some ((T.row t).zero.getD k undef) := by
  rw [hr.zs]
  simp [List.getD, hk, hz]

theorem alloc_ok (hT : TabOk P T) {nb base nm : Nat} {φ : Phi} {w : World} {M : Mem} (hm : MemRel nb base φ w M) (hn : φ nm = none) {t : TypeId} (hk : knownT (T.row t) = true) (hp : 0 < (T.row t).sz) :
    ∃ a w' φ', (Instr.alloc t true (.tuple #[])).run P w = .ok a w' ∧ Step nb base nm φ w (.ptr nm 0 0 0) (M.put nm ⟨t, (T.row t).sz, 0, newCon (T.row t)⟩) a w' φ' := by
  obtain ⟨i, z, hr⟩ := hT.is (knownT_ne hk)
  have hone : (newCon (T.row t)).n = 1 := by unfold newCon; split <;> rfl
  have hs := step_new (hC := Con.isC_of_n (by show 0 < (newCon (T.row t)).n; omega)) (hkc := fun h => by have h : (newCon (T.row t)).kc = true := h; unfold newCon at h; split at h <;> cases h) hm hn t z.cells 1 (T.row t).sz ⟨t, (T.row t).sz, 0, newCon (T.row t)⟩ hp (by simp only [hone]; exact Nat.le_refl 1) (by decide) rfl rfl rfl (by rw [hr.zsz, hr.sz, Nat.one_mul]) (by
    intro j k hj hk
    simp only [hone] at hj
    have hj : j = 0 := by omega
    subst hj
    rw [Nat.zero_mul, Nat.zero_add]
    have e := zero_cells hr hr.zsz k (by rw [← hr.sz]; exact hk)
    refine ⟨_, e, hr.one _ (Array.mem_of_getElem? e), ?_⟩
    have hcon : (newCon (T.row t)).f 0 k = constV ((T.row t).zero.getD k undef) := by
      have hlen : k < (T.row t).zero.length := by rw [hr.zs]; simpa [hr.zsz, ← hr.sz] using hk
      unfold newCon
      split
      · rfl
      · simp [Con.f, List.getD, hlen]
    simp only [hcon]
    exact Rep.constV φ base w _)
  refine ⟨.pointer (some ⟨w.heap.size, 0, none⟩), _, _, ?_, hs.1, ?_, hs.2.1, hs.2.2⟩
  · simp [Instr.alloc, zeroValue, typeInfo, hr.info, hr.zero, newVar, newRow]
  · exact ⟨_, Phi.upd_same _ _ _, rfl, Nat.le_refl _, fun _ => ⟨by simp, by simp only [hone]; omega⟩⟩

theorem box_agg_ok {nb base nm : Nat} {φ : Phi} {w : World} {M : Mem} (hm : MemRel nb base φ w M) (hn : φ nm = none) (t : TypeId) {n : Nat} {g : Nat → V} {c : Value} (hc : Rep φ base w (.agg n g) c) (hp : 0 < n) :
    ∃ a w' φ', (Instr.box t c).run P w = .ok a w' ∧ Step nb base nm φ w (.ptr nm 0 0 0) (M.put nm ⟨t, n, 0, .one ((List.range n).map g)⟩) a w' φ' := by
  obtain ⟨cs, rfl, h1, h2⟩ := hc
  have hs := step_new hm hn t cs 1 n ⟨t, n, 0, .one ((List.range n).map g)⟩ hp (Nat.le_refl 1) (by decide) rfl rfl rfl (by omega) (by
    intro j k hj hk
    have hj : j = 0 := by simp only [Con.n] at hj; omega
    subst hj
    rw [Nat.zero_mul, Nat.zero_add]
    obtain ⟨c, e1, e2, e3⟩ := h2 k hk
    refine ⟨c, e1, e2, ?_⟩
    simpa [Con.f, List.getD, hk] using e3)
  refine ⟨.pointer (some ⟨w.heap.size, 0, none⟩), _, _, ?_, hs.1, ?_, hs.2.1, hs.2.2⟩
  · simp [Instr.box, newVar, newRow, Value.cells]
  · exact ⟨_, Phi.upd_same _ _ _, rfl, Nat.le_refl _, fun _ => ⟨by simp, by simp [Con.n]⟩⟩

theorem box_arr_ok {nb base nm : Nat} {φ : Phi} {w : World} {M : Mem} (hm : MemRel nb base φ w M) (hn : φ nm = none) (t : TypeId) {n : Nat} {g : Nat → V} {c : Value} (hc : Rep φ base w (.agg n g) c) (hp : 0 < n) :
    ∃ a w' φ', (Instr.box t c).run P w = .ok a w' ∧ Step nb base nm φ w (.ptr nm 0 0 0) (M.put nm ⟨t, n, 0, .cv 1 fun _ k => g k⟩) a w' φ' := by
  obtain ⟨cs, rfl, h1, h2⟩ := hc
  have hs := step_new hm hn t cs 1 n ⟨t, n, 0, .cv 1 fun _ k => g k⟩ hp (Nat.le_refl 1) (by decide) rfl rfl rfl (by omega) (by
    intro j k hj hk
    have hj : j = 0 := by simp only [Con.n] at hj; omega
    subst hj
    rw [Nat.zero_mul, Nat.zero_add]
    obtain ⟨c, e1, e2, e3⟩ := h2 k hk
    exact ⟨c, e1, e2, e3⟩)
  refine ⟨.pointer (some ⟨w.heap.size, 0, none⟩), _, _, ?_, hs.1, ?_, hs.2.1, hs.2.2⟩
  · simp [Instr.box, newVar, newRow, Value.cells]
  · exact ⟨_, Phi.upd_same _ _ _, rfl, Nat.le_refl _, fun _ => ⟨by simp, by simp [Con.n]⟩⟩

theorem cells_one {c : Value} (h : c.oneCell' = true) : c.cells = #[c] := by
  cases c <;> first | rfl | cases h

theorem box_leaf_ok {nb base nm : Nat} {φ : Phi} {w : World} {M : Mem} (hm : MemRel nb base φ w M) (hn : φ nm = none) (t : TypeId) {x : V} {c : Value} (hc : Rep φ base w x c) (hl : x.leaf = true) :
    ∃ a w' φ', (Instr.box t c).run P w = .ok a w' ∧ Step nb base nm φ w (.ptr nm 0 0 0) (M.put nm ⟨t, 1, 0, .one [x]⟩) a w' φ' := by
  have h1 := leaf_one hl hc
  have hs := step_new hm hn t #[c] 1 1 ⟨t, 1, 0, .one [x]⟩ (by omega) (Nat.le_refl 1) (by decide) rfl rfl rfl rfl (by
    intro j k hj hk
    have hj : j = 0 := by simp only [Con.n] at hj; omega
    have hk : k = 0 := by omega
    subst hj hk
    exact ⟨c, rfl, h1, by simpa [Con.f] using hc⟩)
  refine ⟨.pointer (some ⟨w.heap.size, 0, none⟩), _, _, ?_, hs.1, ?_, hs.2.1, hs.2.2⟩
  · simp [Instr.box, newVar, newRow, cells_one h1]
  · exact ⟨_, Phi.upd_same _ _ _, rfl, Nat.le_refl _, fun _ => ⟨by simp, by simp [Con.n]⟩⟩

/-! ### struct literals -/

def writeCells (cells : Array Value) (off : Nat) (vs : Array Value) : Array Value := vs.zipIdx.foldl (fun cs (c, j) => cs.setIfInBounds (off + j) c) cells

theorem fold_write (off : Nat) (l : List Value) : ∀ (s : Nat) (cells : Array Value),
    ((l.zipIdx s).foldl (fun cs (c, j) => cs.setIfInBounds (off + j) c) cells).size = cells.size ∧
    ∀ k, ((l.zipIdx s).foldl (fun cs (c, j) => cs.setIfInBounds (off + j) c) cells)[k]? =
      if off + s ≤ k ∧ k < off + s + l.length ∧ k < cells.size then l[k - (off + s)]? else cells[k]? := by
  induction l with
  | nil => intro s cells; refine ⟨rfl, fun k => ?_⟩; rw [if_neg (by simp; omega)]; rfl
  | cons x l ih =>
    intro s cells
    simp only [List.zipIdx_cons, List.foldl_cons, List.length_cons]
    obtain ⟨h1, h2⟩ := ih (s + 1) (cells.setIfInBounds (off + s) x)
    refine ⟨by rw [h1]; simp, fun k => ?_⟩
    rw [h2]
    simp only [Array.size_setIfInBounds]
    by_cases hk : off + s = k
    · subst hk
      rw [if_neg (by omega)]
      by_cases hs : off + s < cells.size
      · rw [if_pos (by omega)]
        simp [hs]
      · rw [if_neg (by omega)]
        simp [hs]
    · rw [Array.getElem?_setIfInBounds_ne hk]
      by_cases hc : off + (s + 1) ≤ k ∧ k < off + (s + 1) + l.length ∧ k < cells.size
      · rw [if_pos hc, if_pos (by omega), show k - (off + s) = (k - (off + (s + 1))) + 1 from by omega]
        rfl
      · rw [if_neg hc, if_neg (by omega)]

theorem writeCells_size (cells : Array Value) (off : Nat) (vs : Array Value) : (writeCells cells off vs).size = cells.size := by
  unfold writeCells
  rw [← Array.foldl_toList, Array.toList_zipIdx]
  exact (fold_write off vs.toList 0 cells).1

theorem writeCells_get (cells : Array Value) (off : Nat) (vs : Array Value) (k : Nat) : (writeCells cells off vs)[k]? = if off ≤ k ∧ k < off + vs.size ∧ k < cells.size then vs[k - off]? else cells[k]? := by
  unfold writeCells
  rw [← Array.foldl_toList, Array.toList_zipIdx]
  have := (fold_write off vs.toList 0 cells).2 k
  simp only [Nat.add_zero, Array.length_toList, Array.getElem?_toList] at this
  exact this

theorem fold_setAt (off : Nat) (g : Nat → V) (n : Nat) (l : List V) :
    ((List.range n).foldl (fun l k => l.set (off + k) (g k)) l).length = l.length ∧
    ∀ k, k < l.length → ((List.range n).foldl (fun l k => l.set (off + k) (g k)) l).getD k .any = if off ≤ k ∧ k < off + n then g (k - off) else l.getD k .any := by
  induction n with
  | zero => refine ⟨rfl, fun k _ => ?_⟩; rw [if_neg (by omega)]; rfl
  | succ n ih =>
    obtain ⟨h1, h2⟩ := ih
    simp only [List.range_succ, List.foldl_append, List.foldl_cons, List.foldl_nil]
    refine ⟨by simpa using h1, fun k hk => ?_⟩
    by_cases hkn : off + n = k
    · subst hkn
      rw [if_pos (by omega), show off + n - off = n from by omega]
      simp [List.getD, h1, hk]
    · have := h2 k hk
      simp only [List.getD, List.getElem?_set_ne hkn] at this ⊢
      rw [this]
      by_cases hc : off ≤ k ∧ k < off + n
      · rw [if_pos hc, if_pos (by omega)]
      · rw [if_neg hc, if_neg (by omega)]

theorem setAt_get (l : List V) (off : Nat) (x : V) (k : Nat) (hk : k < l.length) : (setAt l off x).length = l.length ∧
    (setAt l off x).getD k .any = match x with
      | .agg n g => if off ≤ k ∧ k < off + n then g (k - off) else l.getD k .any
      | x => if k = off then x else l.getD k .any := by
  cases x with
  | agg n g => exact ⟨(fold_setAt off g n l).1, (fold_setAt off g n l).2 k hk⟩
  | _ =>
    refine ⟨by simp [setAt], ?_⟩
    simp only [setAt]
    by_cases h : k = off
    · subst h
      simp [List.getD, hk]
    · simp only [if_neg h]
      simp [List.getD, List.getElem?_set_ne (Ne.symm h)]

/-- The cells of a struct in the making. -/
def Made (φ : Phi) (base : Nat) (w : World) (n : Nat) (l : List V) (cells : Array Value) : Prop :=
  l.length = n ∧ cells.size = n ∧ ∀ k, k < n → ∃ c, cells[k]? = some c ∧ c.oneCell' = true ∧ Rep φ base w (l.getD k .any) c

def PartSz (n off sz : Nat) : V → Prop
  | .agg m _ => m = sz ∧ off + m ≤ n
  | x => x.leaf = true ∧ sz = 1 ∧ off < n

theorem PartSz.of {n off sz : Nat} {x : V} (h : (match x with
    | .agg m _ => Nat.beq m sz && Nat.ble (off + m) n
    | v => v.leaf && Nat.beq sz 1 && Nat.blt off n) = true) : PartSz n off sz x := by
  cases x with
  | agg m g =>
    simp only [Bool.and_eq_true] at h
    exact ⟨Nat.eq_of_beq_eq_true h.1, Nat.le_of_ble_eq_true h.2⟩
  | _ =>
    simp only [Bool.and_eq_true] at h
    exact ⟨h.1.1, Nat.eq_of_beq_eq_true h.1.2, by simpa using h.2⟩

theorem Made.write {φ : Phi} {base : Nat} {w : World} {n : Nat} {l : List V} {cells : Array Value} (h : Made φ base w n l cells) {x : V} {cx : Value} (hx : Rep φ base w x cx) {off sz : Nat}
    (hsz : PartSz n off sz x) :
    Made φ base w n (setAt l off x) (writeCells cells off cx.cells) ∧ cx.cells.size = sz ∧ off + cx.cells.size ≤ n := by
  obtain ⟨h1, h2, h3⟩ := h
  have hlen : ∀ y : V, (setAt l off y).length = l.length := by
    intro y
    cases y with
    | agg m g => exact (fold_setAt off g m l).1
    | _ => simp [setAt]
  by_cases hag : ∃ m g, x = .agg m g
  · obtain ⟨m, g, rfl⟩ := hag
    have hsz : m = sz ∧ off + m ≤ n := hsz
    obtain ⟨cs, rfl, q1, q2⟩ := hx
    refine ⟨⟨by rw [hlen, h1], by rw [writeCells_size, h2], fun k hk => ?_⟩, by simp [Value.cells, q1, hsz.1], by simp only [Value.cells]; omega⟩
    rw [show (Value.agg cs).cells = cs from rfl, writeCells_get, (setAt_get l off _ k (by omega)).2]
    simp only
    by_cases hc : off ≤ k ∧ k < off + m
    · rw [if_pos hc, if_pos (by omega)]
      exact q2 (k - off) (by omega)
    · rw [if_neg hc, if_neg (by omega)]
      exact h3 k hk
  · have hs : x.leaf = true ∧ sz = 1 ∧ off < n := by
      cases x with
      | agg m g => exact absurd ⟨m, g, rfl⟩ hag
      | _ => exact hsz
    have hset : ∀ k, k < l.length → (setAt l off x).getD k .any = if k = off then x else l.getD k .any := by
      intro k hk
      have := (setAt_get l off x k hk).2
      cases x with
      | agg m g => exact absurd ⟨m, g, rfl⟩ hag
      | _ => exact this
    have ho := leaf_one hs.1 hx
    rw [cells_one ho]
    refine ⟨⟨by rw [hlen, h1], by rw [writeCells_size, h2], fun k hk => ?_⟩, by simp [hs.2.1], by simp; omega⟩
    rw [writeCells_get, hset k (by omega)]
    simp only [List.size_toArray, List.length_cons, List.length_nil, Nat.zero_add]
    by_cases hc : k = off
    · subst hc
      rw [if_pos (by omega), if_pos rfl]
      exact ⟨cx, by simp, ho, hx⟩
    · rw [if_neg (by omega), if_neg hc]
      exact h3 k hk

theorem fill_cons (place : Nat → Option (Nat × Nat)) (cells : Array Value) (i : Nat) (v : Value) (rest : List (Nat × Value)) (off size : Nat) (hp : place i = some (off, size)) (h1 : v.cells.size = size)
    (h2 : off + v.cells.size ≤ cells.size) : Instr.fill place cells ((i, v) :: rest) = Instr.fill place (writeCells cells off v.cells) rest := by
  have hb : (v.cells.size != size || decide (off + v.cells.size > cells.size)) = false := by simp [h1]; omega
  simp only [Instr.fill, hp, writeCells]
  rw [if_neg (by simp [h1]; omega)]

theorem fill_parts {φ : Phi} {base : Nat} {w : World} (fs : List (Nat × Nat)) (_hT : TabOk P T) (n : Nat) (place : Nat → Option (Nat × Nat)) (ev : Operand → V) (ρ : Operand → Value) (hev : ∀ x, Rep φ base w (ev x) (ρ x))
    (hplace : ∀ i, i < fs.length → knownT (T.row (fs.getD i (0, 0)).1) = true → place i = some ((fs.getD i (0, 0)).2, (T.row (fs.getD i (0, 0)).1).sz)) :
    ∀ (parts : List (Nat × Operand)) (l : List V) (cells : Array Value), Made φ base w n l cells → (parts.all fun (i, x) => partOk T fs n i (ev x)) = true →
      ∃ cells', Instr.fill place cells (parts.map fun (i, x) => (i, ρ x)) = some cells' ∧ Made φ base w n (parts.foldl (fun l (i, x) => setAt l (fs.getD i (0, 0)).2 (ev x)) l) cells' := by
  intro parts
  induction parts with
  | nil => intro l cells h _; exact ⟨cells, rfl, h⟩
  | cons p rest ih =>
    obtain ⟨i, x⟩ := p
    intro l cells h hall
    simp only [List.all_cons, Bool.and_eq_true] at hall
    obtain ⟨hok, hrest⟩ := hall
    simp only [partOk, Bool.and_eq_true] at hok
    obtain ⟨⟨hi, hk⟩, hv⟩ := hok
    have hi : i < fs.length := by simpa using hi
    obtain ⟨q1, q2, q3⟩ := h.write (hev x) (off := (fs.getD i (0, 0)).2) (sz := (T.row (fs.getD i (0, 0)).1).sz) (PartSz.of hv)
    obtain ⟨cells', e1, e2⟩ := ih _ _ q1 hrest
    refine ⟨cells', ?_, e2⟩
    rw [List.map_cons, fill_cons place cells i (ρ x) _ _ _ (hplace i hi hk) q2 (by rw [h.2.1]; exact q3)]
    exact e1

theorem places_ok (hT : TabOk P T) : ∀ (f : List Field), (f.all fun q => knownT (T.row q.type)) = true →
    f.mapM (fun f => (P.info? f.type).map fun i => (f.offset, i.size)) = some (f.map fun f => (f.offset, (T.row f.type).sz)) := by
  intro f
  induction f with
  | nil => intro _; rfl
  | cons x f ih =>
    intro h
    simp only [List.all_cons, Bool.and_eq_true] at h
    obtain ⟨i, z, hr⟩ := hT.is (knownT_ne h.1)
    simp [List.mapM_cons, ih h.2, hr.info, hr.sz]

theorem build_ok (hT : TabOk P T) {φ : Phi} {base : Nat} {w : World} {t : TypeId} {fs : List (Nat × Nat)} (hd : (T.row t).d = .struct fs) (ev : Operand → V) (ρ : Operand → Value) (hev : ∀ x, Rep φ base w (ev x) (ρ x))
    (parts : Array (Nat × Operand)) (hall : (fs.all (fun q => knownT (T.row q.1)) && parts.toList.all (fun (i, x) => partOk T fs (T.row t).sz i (ev x))) = true) :
    ∃ cv, (Instr.build t (parts.map fun (i, x) => (i, ρ x))).run P w = .ok cv w ∧
      Rep φ base w (.agg (T.row t).sz fun k => (parts.toList.foldl (fun l (i, x) => setAt l (fs.getD i (0, 0)).2 (ev x)) ((T.row t).zero.map constV)).getD k .any) cv := by
  simp only [Bool.and_eq_true] at hall
  obtain ⟨hk, hp⟩ := hall
  obtain ⟨i, z, hr⟩ := hT.is (by rw [hd]; exact fun h => nomatch h)
  obtain ⟨f, hf, hfs⟩ := und_struct (hr.d.symm.trans hd)
  have hall : (f.toList.all fun q => knownT (T.row q.type)) = true := by
    rw [← hfs, List.all_map] at hk
    exact hk
  have hpl := places_ok hT f.toList hall
  have hget : ∀ j, j < fs.length → (fs.getD j (0, 0)) = ((f.toList.map fun f => (f.type, f.offset)).getD j (0, 0)) := fun j _ => by rw [hfs]
  have hmade : Made φ base w (T.row t).sz ((T.row t).zero.map constV) z.cells := by
    refine ⟨by rw [List.length_map, hr.zs, Array.length_toList, hr.zsz, hr.sz], by rw [hr.zsz, hr.sz], fun k hk => ?_⟩
    have e := zero_cells hr hr.zsz k (by rw [← hr.sz]; exact hk)
    have hlen : k < (T.row t).zero.length := by rw [hr.zs]; simpa [hr.zsz, ← hr.sz] using hk
    refine ⟨_, e, hr.one _ (Array.mem_of_getElem? e), ?_⟩
    simp only [List.getD, List.getElem?_map, List.getElem?_eq_getElem hlen, Option.map_some, Option.getD_some]
    exact Rep.constV φ base w _
  obtain ⟨cells', e1, e2⟩ := fill_parts (P := P) fs hT (T.row t).sz (fun x => (f.toList.map fun f => (f.offset, (T.row f.type).sz)).toArray[x]?) ev ρ hev (fun j hj _ => by
    have hj' : j < f.toList.length := by rw [← hfs] at hj; simpa using hj
    have hj2 : j < f.size := by simpa using hj'
    rw [← hfs]
    simp [List.getD, Array.getElem?_eq_getElem hj2]) parts.toList _ _ hmade hp
  refine ⟨.agg cells', run_build w t _ cells' ?_, cells', rfl, e2.2.1, e2.2.2⟩
  unfold Program.built
  rw [hr.info, hf]
  simp only [hr.zero, hpl]
  rw [Array.toList_map]
  exact e1

theorem fieldAt_ok (hT : TabOk P T) {w : World} {s : TypeId} {fs : List (Nat × Nat)} (hd : (T.row s).d = .struct fs) {f : Nat} (hf : f < fs.length) (hk : knownT (T.row (fs.getD f (0, 0)).1) = true) (hp : 0 < (T.row (fs.getD f (0, 0)).1).sz) {b off : Nat} :
    (Instr.fieldAt s (.pointer (some ⟨b, off, none⟩)) f).run P w = .ok (.pointer (some ⟨b, off + (fs.getD f (0, 0)).2, none⟩)) w := by
  obtain ⟨i, z, hr⟩ := hT.is (by rw [hd]; exact fun h => nomatch h)
  obtain ⟨g, hg, hfs⟩ := und_struct (hr.d.symm.trans hd)
  have hlen : f < g.size := by rw [← hfs] at hf; simpa using hf
  have e : g[f]? = some g[f] := Array.getElem?_eq_getElem hlen
  have e2 : fs.getD f (0, 0) = (g[f].type, g[f].offset) := by rw [← hfs]; simp [List.getD, hlen]
  rw [e2] at hk hp ⊢
  obtain ⟨i', z', hr'⟩ := hT.is (knownT_ne hk)
  have hpos : ¬ i'.size = 0 := by intro h0; rw [← hr'.sz] at h0; omega
  simp [Instr.fieldAt, run_underlying hg, e, Instr.sureAddr, fieldPlace, sizeOf, typeInfo, hr'.info, hpos, addr_add]

theorem run_part_leaf (hT : TabOk P T) {w : World} {t : TypeId} (hk : knownT (T.row t) = true) (ha : isAggT (T.row t) = false) (cs : Array Value) (off : Nat) {v : Value} (hv : cs[off]? = some v) :
    (part t cs off).run P w = .ok v w := by
  obtain ⟨i, z, hr⟩ := hT.is (knownT_ne hk)
  simp [part, run_isAgg hr (knownT_ne hk) w, ha, hv]

theorem run_part_agg (hT : TabOk P T) {w : World} {t : TypeId} (hk : knownT (T.row t) = true) (ha : isAggT (T.row t) = true) (cs : Array Value) (off : Nat) :
    (part t cs off).run P w = .ok (.agg (cs.extract off (off + (T.row t).sz))) w := by
  obtain ⟨i, z, hr⟩ := hT.is (knownT_ne hk)
  simp [part, run_isAgg hr (knownT_ne hk) w, ha, sizeOf, typeInfo, hr.info, hr.sz]

/-! ### two values -/

theorem eqFs_ok (hT : TabOk P T) {φ : Phi} {base : Nat} {w : World} {f g : Nat → V} {xs ys : Array Value} (d : Nat) : ∀ (fl : List Field) (i : Nat) (b : Bool), (fl.all fun q => q.name != "_") = true →
    (∀ j, j < i + fl.length → ∃ c, xs[j]? = some c ∧ Rep φ base w (f j) c) → (∀ j, j < i + fl.length → ∃ c, ys[j]? = some c ∧ Rep φ base w (g j) c) →
    eqFs T f g i (fl.map fun f => (f.type, f.offset)) = some b → (Op.eqFields (d + 1) xs ys fl).run P w = .ok b w := by
  intro fl
  induction fl with
  | nil =>
    intro i b _ _ _ h
    simp only [List.map_nil, eqFs, Option.some.injEq] at h
    subst h
    simp [Op.eqFields]
  | cons q fl ih =>
    intro i b hn hx hy h
    simp only [List.all_cons, Bool.and_eq_true] at hn
    simp only [List.map_cons, eqFs] at h
    cases ho : Nat.beq q.offset i with
    | false => rw [ho] at h; cases h
    | true =>
      have ho' : q.offset = i := Nat.eq_of_beq_eq_true ho
      rw [ho] at h
      simp only [cond_true] at h
      cases h1 : eqLit (T.row q.type).d (f i) (g i) with
      | none => rw [h1] at h; cases h
      | some a =>
        cases h2 : eqFs T f g (i + 1) (fl.map fun f => (f.type, f.offset)) with
        | none => rw [h1, h2] at h; cases h
        | some a' =>
          rw [h1, h2] at h
          simp only [Option.some.injEq] at h
          subst h
          obtain ⟨cx, x1, x2⟩ := hx i (by simp)
          obtain ⟨cy, y1, y2⟩ := hy i (by simp)
          have hrest := ih (i + 1) a' hn.2 (fun j hj => hx j (by simp only [List.length_cons]; omega)) (fun j hj => hy j (by simp only [List.length_cons]; omega)) h2
          have hparts : knownT (T.row q.type) = true ∧ isAggT (T.row q.type) = false ∧ (Op.equalIn (d + 1) q.type cx cy).run P w = .ok a w := by
            unfold eqLit at h1
            split at h1
            · next k0 k a0 k' b0 hd hfx hgy =>
              rw [hfx] at x2
              rw [hgy] at y2
              have x2 : cx = .int k a0 := x2
              have y2 : cy = .int k' b0 := y2
              subst x2 y2
              cases hk : (k == k') with
              | false => rw [hk] at h1; cases h1
              | true =>
                rw [hk] at h1
                simp only [cond_true, Option.some.injEq] at h1
                have hkk : k = k' := by simpa using hk
                subst hkk h1
                obtain ⟨ti, z, hr⟩ := hT.is (t := q.type) (by rw [hd]; exact fun h => nomatch h)
                refine ⟨by unfold knownT; rw [hd], by unfold isAggT; rw [hd], ?_⟩
                exact run_equalIn_int w d q.type k k0 a0 b0 (und_int (hr.d.symm.trans hd))
            · next a0 b0 hd hfx hgy =>
              rw [hfx] at x2
              rw [hgy] at y2
              have x2 : cx = .bool a0 := x2
              have y2 : cy = .bool b0 := y2
              subst x2 y2
              simp only [Option.some.injEq] at h1
              subst h1
              obtain ⟨ti, z, hr⟩ := hT.is (t := q.type) (by rw [hd]; exact fun h => nomatch h)
              refine ⟨by unfold knownT; rw [hd], by unfold isAggT; rw [hd], ?_⟩
              have hdd := hr.d.symm.trans hd
              have : P.underlying q.type = some .bool := by unfold convD at hdd; split at hdd <;> cases hdd; assumption
              exact run_equalIn_bool' w d q.type a0 b0 this
            · cases h1
          obtain ⟨hk, ha, he⟩ := hparts
          have hne : q.name ≠ "_" := by simpa using hn.1
          simp only [Op.eqFields, if_pos hne, Sem.run_bind, ho', run_part_leaf hT hk ha xs i x1, run_part_leaf hT hk ha ys i y1, Result.andThen_ok, he]
          cases a with
          | false => simp
          | true => simp [hrest]

theorem eqLit_ok (hT : TabOk P T) {φ : Phi} {base : Nat} {w : World} {x y : V} {cx cy : Value} (hx : Rep φ base w x cx) (hy : Rep φ base w y cy) {t : TypeId} {a : Bool} (h : eqLit (T.row t).d x y = some a) (d : Nat) :
    knownT (T.row t) = true ∧ isAggT (T.row t) = false ∧ (Op.equalIn (d + 1) t cx cy).run P w = .ok a w := by
  unfold eqLit at h
  split at h
  · next k0 k a0 k' b0 hd =>
    have x2 : cx = .int k a0 := hx
    have y2 : cy = .int k' b0 := hy
    subst x2 y2
    cases hk : (k == k') with
    | false => rw [hk] at h; cases h
    | true =>
      rw [hk] at h
      simp only [cond_true, Option.some.injEq] at h
      have hkk : k = k' := by simpa using hk
      subst hkk h
      obtain ⟨ti, z, hr⟩ := hT.is (t := t) (by rw [hd]; exact fun h => nomatch h)
      exact ⟨by unfold knownT; rw [hd], by unfold isAggT; rw [hd], run_equalIn_int w d t k k0 a0 b0 (und_int (hr.d.symm.trans hd))⟩
  · next a0 b0 hd =>
    have x2 : cx = .bool a0 := hx
    have y2 : cy = .bool b0 := hy
    subst x2 y2
    simp only [Option.some.injEq] at h
    subst h
    obtain ⟨ti, z, hr⟩ := hT.is (t := t) (by rw [hd]; exact fun h => nomatch h)
    refine ⟨by unfold knownT; rw [hd], by unfold isAggT; rw [hd], ?_⟩
    have hdd := hr.d.symm.trans hd
    have : P.underlying t = some .bool := by unfold convD at hdd; split at hdd <;> cases hdd; assumption
    exact run_equalIn_bool' w d t a0 b0 this
  · cases h
theorem eqAr_ok (hT : TabOk P T) {φ : Phi} {base : Nat} {w : World} {f g : Nat → V} {xs ys : Array Value} (d : Nat) {e : TypeId} : ∀ (n i : Nat) (b : Bool),
    (∀ j, j < i + n → ∃ c, xs[j]? = some c ∧ Rep φ base w (f j) c) → (∀ j, j < i + n → ∃ c, ys[j]? = some c ∧ Rep φ base w (g j) c) →
    eqAr (T.row e).d f g i n = some b → (Op.eqItems (d + 1) e 1 xs ys (List.range' i n)).run P w = .ok b w := by
  intro n
  induction n with
  | zero =>
    intro i b _ _ h
    simp only [eqAr, Option.some.injEq] at h
    subst h
    simp [Op.eqItems]
  | succ n ih =>
    intro i b hx hy h
    simp only [eqAr] at h
    cases h1 : eqLit (T.row e).d (f i) (g i) with
    | none => rw [h1] at h; cases h
    | some a =>
      cases h2 : eqAr (T.row e).d f g (i + 1) n with
      | none => rw [h1, h2] at h; cases h
      | some a' =>
        rw [h1, h2] at h
        simp only [Option.some.injEq] at h
        subst h
        obtain ⟨cx, x1, x2⟩ := hx i (by omega)
        obtain ⟨cy, y1, y2⟩ := hy i (by omega)
        have hrest := ih (i + 1) a' (fun j hj => hx j (by omega)) (fun j hj => hy j (by omega)) h2
        obtain ⟨hk, ha, he⟩ := eqLit_ok hT x2 y2 h1 d
        simp only [List.range'_succ, Op.eqItems, Sem.run_bind, Nat.mul_one, run_part_leaf hT hk ha xs i x1, run_part_leaf hT hk ha ys i y1, Result.andThen_ok, he]
        cases a with
        | false => simp
        | true => simpa using hrest

theorem aggEq_ok (hT : TabOk P T) {φ : Phi} {base : Nat} {w : World} {t n m : Nat} {f g : Nat → V} {cx cy : Value} {b : Bool} (hx : Rep φ base w (.agg n f) cx) (hy : Rep φ base w (.agg m g) cy) (h : aggEq T t n m f g = some b) :
    ∃ xs ys, cx = .agg xs ∧ cy = .agg ys ∧ P.eqGuardType P.depth t = false ∧ (Op.equalIn 10000 t (.agg xs) (.agg ys)).run P w = .ok b w := by
  unfold aggEq at h
  split at h
  · next fs hd =>
    cases hc : ((T.row t).eq && Nat.beq n fs.length && Nat.beq m fs.length) with
    | false => rw [hc] at h; cases h
    | true =>
      rw [hc] at h
      simp only [cond_true] at h
      simp only [Bool.and_eq_true] at hc
      obtain ⟨⟨hq, hn⟩, hm⟩ := hc
      have hn := Nat.eq_of_beq_eq_true hn
      have hm := Nat.eq_of_beq_eq_true hm
      obtain ⟨ti, z, hr⟩ := hT.is (t := t) (by rw [hd]; exact fun h => nomatch h)
      obtain ⟨fl, hf, hfs⟩ := und_struct (hr.d.symm.trans hd)
      have he := hr.eq
      rw [hq] at he
      unfold eqT at he
      rw [hf] at he
      simp only at he
      have he := he.symm
      simp only [Bool.and_eq_true, Bool.not_eq_true'] at he
      obtain ⟨xs, rfl, x1, x2⟩ := hx
      obtain ⟨ys, rfl, y1, y2⟩ := hy
      have hfl : P.fieldsOf t = fl := by simp [Program.fieldsOf, hf]
      refine ⟨xs, ys, rfl, rfl, he.1.1, ?_⟩
      rw [run_equalIn_agg w 9999 t xs ys (by rw [hfl]; exact hf) he.1.2, hfl]
      have hlen : fs.length = fl.toList.length := by rw [← hfs, List.length_map]
      refine eqFs_ok (φ := φ) (base := base) hT 9998 fl.toList 0 b he.2 (fun j hj => ?_) (fun j hj => ?_) (by rw [hfs]; exact h)
      · obtain ⟨c, e1, e2, e3⟩ := x2 j (by omega)
        exact ⟨c, e1, e3⟩
      · obtain ⟨c, e1, e2, e3⟩ := y2 j (by omega)
        exact ⟨c, e1, e3⟩
  · next l e hd =>
    cases hc : ((T.row t).eq && Nat.beq n l && Nat.beq m l && Nat.beq (T.row e).sz 1 && knownT (T.row e)) with
    | false => rw [hc] at h; cases h
    | true =>
      rw [hc] at h
      simp only [cond_true] at h
      simp only [Bool.and_eq_true] at hc
      obtain ⟨⟨⟨⟨hq, hn⟩, hm⟩, hsz⟩, hkn⟩ := hc
      have hn := Nat.eq_of_beq_eq_true hn
      have hm := Nat.eq_of_beq_eq_true hm
      have hsz := Nat.eq_of_beq_eq_true hsz
      obtain ⟨ti, z, hr⟩ := hT.is (t := t) (by rw [hd]; exact fun h => nomatch h)
      have hu := und_array (hr.d.symm.trans hd)
      have he := hr.eq
      rw [hq] at he
      unfold eqT at he
      rw [hu] at he
      simp only at he
      have he := he.symm
      simp only [Bool.not_eq_true'] at he
      obtain ⟨xs, rfl, x1, x2⟩ := hx
      obtain ⟨ys, rfl, y1, y2⟩ := hy
      refine ⟨xs, ys, rfl, rfl, he, ?_⟩
      · obtain ⟨ie, ze, hre⟩ := hT.is (t := e) (knownT_ne hkn)
        rw [run_equalIn_array w 9999 xs ys hu hre.info, show P.cellsOf e = 1 by rw [← hsz, hre.sz]; simp [Program.cellsOf, hre.info], List.range_eq_range']
        refine eqAr_ok (φ := φ) (base := base) hT 9998 l 0 b (fun j hj => ?_) (fun j hj => ?_) h
        · obtain ⟨c, e1, e2, e3⟩ := x2 j (by omega)
          exact ⟨c, e1, e3⟩
        · obtain ⟨c, e1, e2, e3⟩ := y2 j (by omega)
          exact ⟨c, e1, e3⟩
  · cases h

theorem binV_ok (hT : TabOk P T) {φ : Phi} {base : Nat} {w : World} {op : BinOp} {t : TypeId} {X Y : V} {cx cy : Value} (hx : Rep φ base w X cx) (hy : Rep φ base w Y cy) (x y : Operand) {p : Obl} {v : V} (h : binV T op t X Y = some (p, v)) (hp : p.holds) :
    ∃ cv, ((do eqGuard op t x y cx cy; binOp op t cx cy) : Sem Value).run P w = .ok cv w ∧ Rep φ base w v cv := by
  unfold binV at h
  split at h
  · next a b =>
    have hx : cx = a := hx
    have hy : cy = b := hy
    subst hx hy
    split at h
    · next p1 v1 hb =>
      simp only [Option.some.injEq, Prod.mk.injEq] at h
      obtain ⟨rfl, rfl⟩ := h
      exact ⟨v1, by simp [eqGuard_lit op t x y hb, aBin_ok hb hp], rfl⟩
    · split at h
      · next p1 v1 hb =>
        simp only [Option.some.injEq, Prod.mk.injEq] at h
        obtain ⟨rfl, rfl⟩ := h
        unfold aMore at hb
        split at hb
        · next k a k' b _ =>
          simp only [Option.some.injEq, Prod.mk.injEq] at hb
          obtain ⟨rfl, rfl⟩ := hb
          have hp : (0 : Int) ≤ b := hp
          exact ⟨_, by simp [eqGuard, binOp, Op.shift, Int.not_lt.2 hp], rfl⟩
        · next k a k' b _ =>
          simp only [Option.some.injEq, Prod.mk.injEq] at hb
          obtain ⟨rfl, rfl⟩ := hb
          have hp : (0 : Int) ≤ b := hp
          exact ⟨_, by simp [eqGuard, binOp, Op.shift, Int.not_lt.2 hp], rfl⟩
        · next k a k' b _ =>
          cases hk : (k == k') with
          | false => rw [hk] at hb; cases hb
          | true =>
            rw [hk] at hb
            simp only [cond_true, Option.some.injEq, Prod.mk.injEq] at hb
            obtain ⟨rfl, rfl⟩ := hb
            have hk := eq_of_beq hk
            subst hk
            exact ⟨_, by simp [eqGuard, binOp, Op.intBits]; first | rfl | simp [bitI], rfl⟩
        · next k a k' b _ =>
          cases hk : (k == k') with
          | false => rw [hk] at hb; cases hb
          | true =>
            rw [hk] at hb
            simp only [cond_true, Option.some.injEq, Prod.mk.injEq] at hb
            obtain ⟨rfl, rfl⟩ := hb
            have hk := eq_of_beq hk
            subst hk
            exact ⟨_, by simp [eqGuard, binOp, Op.intBits]; first | rfl | simp [bitI], rfl⟩
        · next k a k' b _ =>
          cases hk : (k == k') with
          | false => rw [hk] at hb; cases hb
          | true =>
            rw [hk] at hb
            simp only [cond_true, Option.some.injEq, Prod.mk.injEq] at hb
            obtain ⟨rfl, rfl⟩ := hb
            have hk := eq_of_beq hk
            subst hk
            exact ⟨_, by simp [eqGuard, binOp, Op.intBits]; first | rfl | simp [bitI], rfl⟩
        · next k a k' b _ =>
          cases hk : (k == k') with
          | false => rw [hk] at hb; cases hb
          | true =>
            rw [hk] at hb
            simp only [cond_true, Option.some.injEq, Prod.mk.injEq] at hb
            obtain ⟨rfl, rfl⟩ := hb
            have hk := eq_of_beq hk
            subst hk
            exact ⟨_, by simp [eqGuard, binOp, Op.intBits]; first | rfl | simp [bitI], rfl⟩
        · next a b _ =>
          split at hb
          · next hd =>
            simp only [Option.some.injEq, Prod.mk.injEq] at hb
            obtain ⟨rfl, rfl⟩ := hb
            obtain ⟨ti, z, hr⟩ := hT.is (t := t) (by rw [hd]; exact fun h => nomatch h)
            have hdd := hr.d.symm.trans hd
            have hu : P.underlying t = some .bool := by unfold convD at hdd; split at hdd <;> cases hdd; assumption
            exact ⟨_, by simp [eqGuard, binOp, run_equal_bool w t a b hu], rfl⟩
          · cases hb
        · next a b _ =>
          split at hb
          · next hd =>
            simp only [Option.some.injEq, Prod.mk.injEq] at hb
            obtain ⟨rfl, rfl⟩ := hb
            obtain ⟨ti, z, hr⟩ := hT.is (t := t) (by rw [hd]; exact fun h => nomatch h)
            have hdd := hr.d.symm.trans hd
            have hu : P.underlying t = some .bool := by unfold convD at hdd; split at hdd <;> cases hdd; assumption
            exact ⟨_, by simp [eqGuard, binOp, run_equal_bool w t a b hu], rfl⟩
          · cases hb
        · cases hb
      · cases h
  · next n f m g =>
    split at h
    · split at h
      · next b hb =>
        simp only [Option.some.injEq, Prod.mk.injEq] at h
        obtain ⟨rfl, rfl⟩ := h
        obtain ⟨xs, ys, rfl, rfl, h1, h2⟩ := aggEq_ok hT hx hy hb
        exact ⟨.bool b, by simp [run_eqGuard_agg w _ t x y xs ys h1, run_eql_struct, h2], rfl⟩
      · cases h
    · split at h
      · next b hb =>
        simp only [Option.some.injEq, Prod.mk.injEq] at h
        obtain ⟨rfl, rfl⟩ := h
        obtain ⟨xs, ys, rfl, rfl, h1, h2⟩ := aggEq_ok hT hx hy hb
        exact ⟨.bool (!b), by simp [run_eqGuard_agg w _ t x y xs ys h1, run_neq_struct, h2], rfl⟩
      · cases h
    · cases h
  · cases h

theorem nilV_ok (hT : TabOk P T) {nb base : Nat} {φ : Phi} {w : World} {M : Mem} (hm : MemRel nb base φ w M) {op : BinOp} {t : TypeId} {X : V} {cx : Value} {ρ : Operand → Value} (hρ : ∀ v, ρ (.const v) = v) (hx : Rep φ base w X cx) (x : Operand) {y : Operand} (hy : isNilC y = true)
    {p : Obl} {v : V} (h : nilV T op t M X = some (p, v)) (hp : p.holds) :
    ∃ cv, ((do eqGuard op t x y cx (ρ y); binOp op t cx (ρ y)) : Sem Value).run P w = .ok cv w ∧ Rep φ base w v cv := by
  have hyy : ρ y = .slice none 0 0 := by
    unfold isNilC at hy
    split at hy
    · exact hρ _
    · cases hy
  rw [hyy]
  unfold nilV at h
  split at h
  · next e hd hq =>
    cases hb : isNilV X with
    | false => rw [hb] at h; cases h
    | true =>
      rw [hb] at h
      simp only [cond_true] at h
      have hcx : cx = .slice none 0 0 := by
        cases X with
        | emp nl =>
          obtain ⟨A, rfl, hA⟩ := hx
          rw [hA hb]
        | _ => cases hb
      obtain ⟨ti, z, hr⟩ := hT.is (t := t) (by rw [hd]; exact fun h => nomatch h)
      have hu := und_slice (hr.d.symm.trans hd)
      split at h
      · simp only [Option.some.injEq, Prod.mk.injEq] at h
        obtain ⟨rfl, rfl⟩ := h
        subst hcx
        exact ⟨.bool true, by simp [eqGuard, binOp, run_equal_slice_nil w t e none 0 0 hu], rfl⟩
      · simp only [Option.some.injEq, Prod.mk.injEq] at h
        obtain ⟨rfl, rfl⟩ := h
        subst hcx
        exact ⟨.bool false, by simp [eqGuard, binOp, run_equal_slice_nil w t e none 0 0 hu], rfl⟩
      · cases h
  · next e q hd hq =>
    have hs : q.holds → ∃ A l c, cx = .slice (some A) l c := by
      intro hq'
      cases X with
      | sl nm ver off len =>
        simp only [nonEmpty] at hq
        obtain ⟨r, hr, _, _, hv⟩ := hx
        obtain ⟨o, ho, hrel⟩ := hm.obj _ r hr
        rw [ho] at hq
        simp only [Option.some.injEq] at hq
        subst hq
        obtain ⟨h1, h2⟩ := hq'
        have h1 := eqnO_holds.1 h1
        have h2 : (0 : Int) < len := h2
        obtain ⟨g1, A, g2, g3⟩ := hv (by rw [← hrel.ver]; exact h1.symm)
        have := g3 (by have := hrel.le; omega)
        subst this
        exact ⟨_, _, _, g2⟩
      | ints fr xs =>
        cases xs with
        | nil => cases hq
        | cons y r =>
          obtain ⟨A, cap, rfl, _, _, g⟩ := hx
          obtain ⟨b, off, rfl, _⟩ := g (by simp)
          exact ⟨_, _, _, rfl⟩
      | seq fr sz n f =>
        simp only [nonEmpty, Option.some.injEq] at hq
        subst hq
        have h2 : (0 : Int) < n := hq'
        obtain ⟨A, cap, rfl, _, _, _, g⟩ := hx
        obtain ⟨b, off, rfl, _⟩ := g (by omega)
        exact ⟨_, _, _, rfl⟩
      | _ => cases hq
    obtain ⟨ti, z, hr⟩ := hT.is (t := t) (by rw [hd]; exact fun h => nomatch h)
    have hu := und_slice (hr.d.symm.trans hd)
    split at h
    · simp only [Option.some.injEq, Prod.mk.injEq] at h
      obtain ⟨rfl, rfl⟩ := h
      obtain ⟨A, l, c, rfl⟩ := hs hp
      exact ⟨.bool false, by simp [eqGuard, binOp, run_equal_slice_nil w t e (some A) l c hu], rfl⟩
    · simp only [Option.some.injEq, Prod.mk.injEq] at h
      obtain ⟨rfl, rfl⟩ := h
      obtain ⟨A, l, c, rfl⟩ := hs hp
      exact ⟨.bool true, by simp [eqGuard, binOp, run_equal_slice_nil w t e (some A) l c hu], rfl⟩
    · cases h
  · cases h

/-- 'x == nil' of a slice that may be nil or not. -/
theorem nilAny_ok (hT : TabOk P T) {base : Nat} {φ : Phi} {w : World} {op : BinOp} {t : TypeId} {X : V} {cx : Value} {ρ : Operand → Value} (hρ : ∀ v, ρ (.const v) = v) (hx : Rep φ base w X cx) (x : Operand) {y : Operand} (hy : isNilC y = true)
    (hs : isSliceT (T.row t) = true) (ho : isEqB op = true) (hm : mayNil X = true) : ∃ b, ((do eqGuard op t x y cx (ρ y); binOp op t cx (ρ y)) : Sem Value).run P w = .ok (.bool b) w := by
  have hyy : ρ y = .slice none 0 0 := by
    unfold isNilC at hy
    split at hy
    · exact hρ _
    · cases hy
  rw [hyy]
  have hcx : ∃ A l c, cx = .slice A l c := by
    cases X with
    | ints fr xs => obtain ⟨A, cap, rfl, _⟩ := hx; exact ⟨_, _, _, rfl⟩
    | emp nl => obtain ⟨A, rfl, _⟩ := hx; exact ⟨_, _, _, rfl⟩
    | _ => cases hm
  cases hd : (T.row t).d with
  | slice e =>
    obtain ⟨ti, z, hr⟩ := hT.is (t := t) (by rw [hd]; exact fun h => nomatch h)
    have hu := und_slice (hr.d.symm.trans hd)
    obtain ⟨A, l, c, rfl⟩ := hcx
    have he := run_equal_slice_nil w t e A l c hu
    cases op with
    | eql => exact ⟨_, by simp [eqGuard, binOp, he]; rfl⟩
    | neq => exact ⟨_, by simp [eqGuard, binOp, he]; rfl⟩
    | _ => cases ho
  | _ => unfold isSliceT at hs; rw [hd] at hs; cases hs

/-! ### addresses of elements, cuts -/

theorem indexV_ok (hT : TabOk P T) {nb base : Nat} {φ : Phi} {w : World} {M : Mem} (hm : MemRel nb base φ w M) {t : TypeId} {x v : V} {cx : Value} {k : IntKind} {i : Int} {p : Obl} (hx : Rep φ base w x cx) (h : indexV T M t x i = some (p, v)) (hp : p.holds) :
    ∃ cv, (Instr.indexAt t cx (.int k i)).run P w = .ok cv w ∧ Rep φ base w v cv := by
  cases hd : (T.row t).d with
  | slice e =>
    obtain ⟨it, z, hr⟩ := hT.is (by rw [hd]; exact fun h => nomatch h)
    have hu := und_slice (hr.d.symm.trans hd)
    simp only [indexV, hd] at h
    cases hke : knownT (T.row e) with
    | false => simp [hke] at h
    | true =>
      simp only [hke, cond_true] at h
      obtain ⟨ie, ze, hre⟩ := hT.is (knownT_ne hke)
      cases x with
      | ints fr xs =>
        simp only at h
        cases hz : Nat.beq (T.row e).sz 1 with
        | false => simp [hz] at h
        | true =>
          simp only [hz, cond_true, Option.some.injEq, Prod.mk.injEq] at h
          obtain ⟨rfl, rfl⟩ := h
          have hz : ie.size = 1 := by rw [← hre.sz]; exact Nat.eq_of_beq_eq_true hz
          obtain ⟨h0, h1⟩ := hp
          have h0 : 0 ≤ i := h0
          have h1 : i < (xs.length : Int) := h1
          obtain ⟨A, cap, rfl, h2, h3, h4⟩ := hx
          obtain ⟨b, off, rfl, g1, g2, g3⟩ := h4 (by omega)
          refine ⟨.pointer (some ⟨b, off + i.toNat, none⟩), ?_, b, off + i.toNat, by simp, ?_, g1, fun k hk => ?_⟩
          · simp [Instr.indexAt, asIntOf, run_underlying hu, h0, h1, sizeOf, typeInfo, hre.info, hz, addr_add]
          · exact World.block_lt_of_cell? w _ (g3 i.toNat (by omega))
          · have hk : k = 0 := by omega
            subst hk
            exact ⟨_, g3 i.toNat (by omega), rfl, rfl⟩
      | seq fr sz n f =>
        simp only at h
        cases hz : Nat.beq sz (T.row e).sz with
        | false => simp [hz] at h
        | true =>
          simp only [hz, cond_true, Option.some.injEq, Prod.mk.injEq] at h
          obtain ⟨rfl, rfl⟩ := h
          have hz : ie.size = sz := by rw [← hre.sz]; exact (Nat.eq_of_beq_eq_true hz).symm
          obtain ⟨h0, h1⟩ := hp
          have h0 : 0 ≤ i := h0
          have h1 : i < (n : Int) := h1
          obtain ⟨A, cap, rfl, h2, h3, hpos, h4⟩ := hx
          obtain ⟨b, off, rfl, g1, g2, g3⟩ := h4 (by omega)
          refine ⟨.pointer (some ⟨b, off + i.toNat * sz, none⟩), ?_, b, off + i.toNat * sz, by simp, ?_, g1, fun k hk => ?_⟩
          · simp [Instr.indexAt, asIntOf, run_underlying hu, h0, h1, sizeOf, typeInfo, hre.info, hz, addr_add]
          · obtain ⟨c, e1, _⟩ := g3 i.toNat 0 (by omega) hpos
            exact World.block_lt_of_cell? w _ e1
          · obtain ⟨c, e1, e2, e3⟩ := g3 i.toNat k (by omega) hk
            exact ⟨c, by rw [Nat.add_assoc]; exact e1, e2, e3⟩
      | sl nm ver off len =>
        obtain ⟨r, hrr, _, hle, hv⟩ := hx
        obtain ⟨ob, ho, hrel⟩ := hm.obj nm r hrr
        simp only [ho] at h
        cases hz : Nat.beq ob.sz (T.row e).sz with
        | false => simp [hz] at h
        | true =>
          simp only [hz, cond_true, Option.some.injEq, Prod.mk.injEq] at h
          obtain ⟨rfl, rfl⟩ := h
          have hz : ie.size = r.sz := by rw [← hre.sz, ← hrel.sz]; exact (Nat.eq_of_beq_eq_true hz).symm
          obtain ⟨hver, h0, h1⟩ := hp
          have hver := eqnO_holds.1 hver
          have h0 : 0 ≤ i := h0
          have h1 : i < (len : Int) := h1
          obtain ⟨g1, A, rfl, g2⟩ := hv (by rw [← hrel.ver, hver])
          have hcap := hrel.le
          obtain rfl := g2 (by omega)
          refine ⟨.pointer (some ⟨r.g, (off + i.toNat) * r.sz, none⟩), ?_, r, hrr, rfl, hle, fun _ => ⟨by simp, by omega⟩⟩
          simp [Instr.indexAt, asIntOf, run_underlying hu, h0, h1, sizeOf, typeInfo, hre.info, hz, addr_add, Nat.add_mul]
      | _ => simp at h
  | array n e =>
    obtain ⟨it, z, hr⟩ := hT.is (by rw [hd]; exact fun h => nomatch h)
    have hu := und_array (hr.d.symm.trans hd)
    simp only [indexV, hd] at h
    cases hke : knownT (T.row e) with
    | false => simp [hke] at h
    | true =>
      simp only [hke, cond_true] at h
      obtain ⟨ie, ze, hre⟩ := hT.is (knownT_ne hke)
      cases x with
      | ptr nm ver i0 o =>
        obtain ⟨r, hrr, _, hle, hv⟩ := hx
        obtain ⟨ob, ho, hrel⟩ := hm.obj nm r hrr
        simp only [ho, Option.some.injEq, Prod.mk.injEq] at h
        obtain ⟨rfl, rfl⟩ := h
        obtain ⟨hver, h0, h1⟩ := hp
        have hver := eqnO_holds.1 hver
        have h0 : 0 ≤ i := h0
        have h1 : i < (n : Int) := h1
        obtain ⟨rfl, hi⟩ := hv (by rw [← hrel.ver, hver])
        refine ⟨.pointer (some ⟨r.g, i0 * r.sz + o + i.toNat * ie.size, none⟩), ?_, r, hrr, rfl, hle, fun _ => ⟨by rw [hre.sz, Nat.add_assoc], hi⟩⟩
        simp [Instr.indexAt, Instr.sureAddr, asIntOf, run_underlying hu, h0, h1, sizeOf, typeInfo, hre.info, addr_add]
      | at_ sz g o =>
        obtain ⟨b, off, rfl, g0, g1, g2⟩ := hx
        simp only [Option.some.injEq, Prod.mk.injEq] at h
        obtain ⟨rfl, rfl⟩ := h
        obtain ⟨h0, h1⟩ := hp
        have h0 : 0 ≤ i := h0
        have h1 : i < (n : Int) := h1
        refine ⟨.pointer (some ⟨b, off + o + i.toNat * ie.size, none⟩), ?_, b, off, by rw [hre.sz, Nat.add_assoc], g0, g1, g2⟩
        simp [Instr.indexAt, Instr.sureAddr, asIntOf, run_underlying hu, h0, h1, sizeOf, typeInfo, hre.info, addr_add]
      | _ => simp at h
  | _ => simp [indexV, hd] at h

theorem opt_eval {ev : Operand → V} {ρ : Operand → Value} {φ : Phi} {base : Nat} {w : World} (hev : ∀ x, Rep φ base w (ev x) (ρ x)) {x : Option Operand} {y : Option Int} (h : optInt ev x = some y) :
    (x = none ∧ y = none) ∨ ∃ o k i, x = some o ∧ y = some i ∧ ρ o = .int k i := by
  cases x with
  | none => simp only [optInt, Option.some.injEq] at h; exact .inl ⟨rfl, h.symm⟩
  | some o =>
    simp only [optInt] at h
    have := hev o
    cases hx : ev o with
    | lit v =>
      rw [hx] at h this
      cases v with
      | int k i => simp only [Option.some.injEq] at h; exact .inr ⟨o, k, i, rfl, h.symm, this⟩
      | _ => simp at h
    | _ => rw [hx] at h; simp at h

theorem run_slice_opt {t e : TypeId} {ie : TypeInfo} (hu : P.underlying t = some (.slice e)) (hi : P.info? e = some ie) (w : World) (A : Option Addr) (len cap : Nat) (lo hi : Option Value) (l h : Nat)
    (hlo : (lo = none ∧ l = 0) ∨ ∃ k, lo = some (.int k (l : Int))) (hhi : (hi = none ∧ h = len) ∨ ∃ k, hi = some (.int k (h : Int))) (h1 : l ≤ h) (h2 : h ≤ cap) :
    (Instr.sliceAt t (.slice A len cap) lo hi none).run P w = .ok (.slice (if cap = l then A else A.map (·.add (l * ie.size))) (h - l) (cap - l)) w := by
  have c1 : (h : Int) ≤ (cap : Int) := by omega
  have c2 : (l : Int) ≤ (h : Int) := by omega
  rcases hlo with ⟨rfl, rfl⟩ | ⟨kl, rfl⟩ <;> rcases hhi with ⟨rfl, rfl⟩ | ⟨kh, rfl⟩ <;>
    simp [Instr.sliceAt, Instr.slice, Instr.sliceBounds, Instr.sliceBound, asIntOf, run_underlying hu, sizeOf, typeInfo, hi, h1, h2]

theorem sliceV_ok (hT : TabOk P T) {nb base : Nat} {φ : Phi} {w : World} {M : Mem} (hm : MemRel nb base φ w M) {t e : TypeId} (hd : (T.row t).d = .slice e) (hke : knownT (T.row e) = true) {x v : V} {cx : Value}
    {ev : Operand → V} {ρ : Operand → Value} (hev : ∀ x, Rep φ base w (ev x) (ρ x)) {lo hi : Option Operand} {l h : Option Int} (hl : optInt ev lo = some l) (hh : optInt ev hi = some h) {p : Obl}
    (hx : Rep φ base w x cx) (hs : sliceV M (T.row e).sz x l h = some (p, v)) (hp : p.holds) :
    ∃ cv, (Instr.sliceAt t cx (lo.map ρ) (hi.map ρ) none).run P w = .ok cv w ∧ Rep φ base w v cv := by
  obtain ⟨it, z, hr⟩ := hT.is (by rw [hd]; exact fun h => nomatch h)
  have hu := und_slice (hr.d.symm.trans hd)
  obtain ⟨ie, ze, hre⟩ := hT.is (knownT_ne hke)
  have LO : ∀ n : Int, 0 ≤ l.getD 0 → ((lo.map ρ = none ∧ (l.getD 0).toNat = 0) ∨ ∃ k, lo.map ρ = some (.int k (((l.getD 0).toNat : Nat) : Int))) := by
    intro _ h0
    rcases opt_eval hev hl with ⟨rfl, rfl⟩ | ⟨o, k, i, rfl, rfl, hρ⟩
    · exact .inl ⟨rfl, rfl⟩
    · refine .inr ⟨k, ?_⟩
      simp only [Option.getD_some] at h0 ⊢
      rw [Int.toNat_of_nonneg h0]
      simp [hρ]
  have HI : ∀ len : Nat, 0 ≤ h.getD len → ((hi.map ρ = none ∧ (h.getD len).toNat = len) ∨ ∃ k, hi.map ρ = some (.int k (((h.getD len).toNat : Nat) : Int))) := by
    intro len h0
    rcases opt_eval hev hh with ⟨rfl, rfl⟩ | ⟨o, k, i, rfl, rfl, hρ⟩
    · exact .inl ⟨rfl, by simp⟩
    · refine .inr ⟨k, ?_⟩
      simp only [Option.getD_some] at h0 ⊢
      rw [Int.toNat_of_nonneg h0]
      simp [hρ]
  cases x with
  | ints fr xs =>
    simp only [sliceV] at hs
    cases hz : Nat.beq (T.row e).sz 1 with
    | false => simp [hz] at hs
    | true =>
      simp only [hz, cond_true, Option.some.injEq, Prod.mk.injEq] at hs
      obtain ⟨rfl, rfl⟩ := hs
      have hz : ie.size = 1 := by rw [← hre.sz]; exact Nat.eq_of_beq_eq_true hz
      obtain ⟨p1, p2, p3⟩ := hp
      have p1 : 0 ≤ l.getD 0 := p1
      have p2 : l.getD 0 ≤ h.getD xs.length := p2
      have p3 : h.getD xs.length ≤ (xs.length : Int) := p3
      obtain ⟨A, cap, rfl, h2, h3, h4⟩ := hx
      have hrun := run_slice_opt (P := P) hu hre.info w A xs.length cap (lo.map ρ) (hi.map ρ) (l.getD 0).toNat (h.getD xs.length).toNat (LO 0 p1) (HI xs.length (by omega)) (by omega) (by omega)
      refine ⟨_, hrun, ?_⟩
      have hlen : ((xs.drop (l.getD 0).toNat).take ((h.getD xs.length).toNat - (l.getD 0).toNat)).length = (h.getD xs.length).toNat - (l.getD 0).toNat := by
        rw [List.length_take, List.length_drop]; omega
      refine ⟨_, _, by rw [hlen], by rw [hlen]; omega, by omega, fun hn => ?_⟩
      rw [hlen] at hn
      obtain ⟨b, off, rfl, g1, g2, g3⟩ := h4 (by omega)
      rw [if_neg (by omega)]
      refine ⟨b, off + (l.getD 0).toNat, by simp [hz, addr_add], g1, g2, fun j hj => ?_⟩
      rw [hlen] at hj
      rw [Nat.add_assoc, g3 _ (by omega)]
      simp [List.getD, List.getElem?_take_of_lt hj]
  | seq fr sz n f =>
    simp only [sliceV] at hs
    cases hz : Nat.beq sz (T.row e).sz with
    | false => simp [hz] at hs
    | true =>
      simp only [hz, cond_true, Option.some.injEq, Prod.mk.injEq] at hs
      obtain ⟨rfl, rfl⟩ := hs
      have hz1 := Nat.eq_of_beq_eq_true hz
      have hz : ie.size = sz := by rw [← hre.sz]; exact hz1.symm
      obtain ⟨p1, p2, p3⟩ := hp
      have p1 : 0 ≤ l.getD 0 := p1
      have p2 : l.getD 0 ≤ h.getD n := p2
      have p3 : h.getD n ≤ (n : Int) := p3
      obtain ⟨A, cap, rfl, h2, h3, hpos, h4⟩ := hx
      have hrun := run_slice_opt (P := P) hu hre.info w A n cap (lo.map ρ) (hi.map ρ) (l.getD 0).toNat (h.getD n).toNat (LO 0 p1) (HI n (by omega)) (by omega) (by omega)
      refine ⟨_, hrun, ?_⟩
      refine ⟨_, _, rfl, by omega, by omega, by rw [← hz1]; exact hpos, fun hn => ?_⟩
      obtain ⟨b, off, rfl, g1, g2, g3⟩ := h4 (by omega)
      rw [if_neg (by omega)]
      refine ⟨b, off + (l.getD 0).toNat * sz, by simp [hz, addr_add], g1, g2, fun j o hj ho => ?_⟩
      obtain ⟨c, e1, e2, e3⟩ := g3 ((l.getD 0).toNat + j) o (by omega) (by rw [hz1]; exact ho)
      refine ⟨c, ?_, e2, e3⟩
      rw [← e1, ← hz1, Nat.add_mul]
      simp only [Nat.add_assoc]
  | sl nm ver off len =>
    obtain ⟨r, hrr, _, hle, hv⟩ := hx
    obtain ⟨ob, ho, hrel⟩ := hm.obj nm r hrr
    simp only [sliceV, ho] at hs
    cases hz : Nat.beq ob.sz (T.row e).sz with
    | false => simp [hz] at hs
    | true =>
      simp only [hz, cond_true, Option.some.injEq, Prod.mk.injEq] at hs
      obtain ⟨rfl, rfl⟩ := hs
      have hz : ie.size = r.sz := by rw [← hre.sz, ← hrel.sz]; exact (Nat.eq_of_beq_eq_true hz).symm
      obtain ⟨hver, p1, p2, p3⟩ := hp
      have hver := eqnO_holds.1 hver
      have p1 : 0 ≤ l.getD 0 := p1
      have p2 : l.getD 0 ≤ h.getD len := p2
      have p3 : h.getD len ≤ (len : Int) := p3
      obtain ⟨g1, A, rfl, g2⟩ := hv (by rw [← hrel.ver, hver])
      have hcap := hrel.le
      have hrun := run_slice_opt (P := P) hu hre.info w A len (r.cap - off) (lo.map ρ) (hi.map ρ) (l.getD 0).toNat (h.getD len).toNat (LO 0 p1) (HI len (by omega)) (by omega) (by omega)
      refine ⟨_, hrun, r, hrr, rfl, hle, fun _ => ⟨by omega, ?_⟩⟩
      by_cases hc : r.cap - off = (l.getD 0).toNat
      · rw [if_pos hc]
        exact ⟨A, by congr 1; omega, fun hlt => absurd hlt (by omega)⟩
      · rw [if_neg hc]
        obtain rfl := g2 (by omega)
        refine ⟨some ⟨r.g, off * r.sz + (l.getD 0).toNat * r.sz, none⟩, ?_, fun _ => by rw [Nat.add_mul]⟩
        simp only [Option.map_some, hz, addr_add]
        congr 1
        omega
  | emp nl =>
    simp only [sliceV, Option.some.injEq, Prod.mk.injEq] at hs
    obtain ⟨rfl, rfl⟩ := hs
    obtain ⟨p1, p2, p3⟩ := hp
    have p1 : 0 ≤ l.getD 0 := p1
    have p2 : l.getD 0 ≤ h.getD 0 := p2
    have p3 : h.getD 0 ≤ 0 := p3
    obtain ⟨A, rfl, hnl⟩ := hx
    have hrun := run_slice_opt (P := P) hu hre.info w A 0 0 (lo.map ρ) (hi.map ρ) (l.getD 0).toNat (h.getD (0 : Nat)).toNat (LO 0 p1) (HI 0 (by simp; omega)) (by simp; omega) (by simp; omega)
    refine ⟨_, hrun, ?_⟩
    have e1 : (h.getD (0 : Nat)).toNat - (l.getD 0).toNat = 0 := by simp; omega
    have e2 : 0 - (l.getD 0).toNat = 0 := by omega
    rw [e1, e2]
    exact ⟨_, rfl, fun h => by rw [hnl h]; simp⟩
  | _ => simp [sliceV] at hs

/-- A slice of an array that nobody writes to. -/
theorem sliceArr_ok (hT : TabOk P T) {base : Nat} {φ : Phi} {w : World} {t e n : Nat} (hd : (T.row t).d = .array n e) (hke : knownT (T.row e) = true) (hsz : (T.row e).sz = 1) {g : Nat → V} {cx : Value}
    (hx : Rep φ base w (.at_ n g 0) cx) (hn : n ≤ 1000) (hg : (List.range n).all (fun k => (g k).isI64) = true)
    {ev : Operand → V} {ρ : Operand → Value} (hev : ∀ x, Rep φ base w (ev x) (ρ x)) {lo hi : Option Operand} {l h : Option Int} (hl : optInt ev lo = some l) (hh : optInt ev hi = some h)
    (p1 : 0 ≤ l.getD 0) (p2 : l.getD 0 ≤ h.getD n) (p3 : h.getD n ≤ n) :
    ∃ cv, (Instr.sliceAt t cx (lo.map ρ) (hi.map ρ) none).run P w = .ok cv w ∧ Rep φ base w (.ints false ((List.range ((h.getD n).toNat - (l.getD 0).toNat)).map fun j => (g ((l.getD 0).toNat + j)).toInt)) cv := by
  obtain ⟨it, z, hr⟩ := hT.is (by rw [hd]; exact fun h => nomatch h)
  have hu := und_array (hr.d.symm.trans hd)
  obtain ⟨ie, ze, hre⟩ := hT.is (knownT_ne hke)
  have hie : ie.size = 1 := by rw [← hre.sz]; exact hsz
  have LO : ((lo.map ρ = none ∧ (l.getD 0).toNat = 0) ∨ ∃ k, lo.map ρ = some (.int k (((l.getD 0).toNat : Nat) : Int))) := by
    rcases opt_eval hev hl with ⟨rfl, rfl⟩ | ⟨o, k, i, rfl, rfl, hρ⟩
    · exact .inl ⟨rfl, rfl⟩
    · refine .inr ⟨k, ?_⟩
      simp only [Option.getD_some] at p1 ⊢
      rw [Int.toNat_of_nonneg p1]
      simp [hρ]
  have HI : ((hi.map ρ = none ∧ (h.getD n).toNat = n) ∨ ∃ k, hi.map ρ = some (.int k (((h.getD n).toNat : Nat) : Int))) := by
    rcases opt_eval hev hh with ⟨rfl, rfl⟩ | ⟨o, k, i, rfl, rfl, hρ⟩
    · exact .inl ⟨rfl, by simp⟩
    · refine .inr ⟨k, ?_⟩
      have p4 : 0 ≤ i := by simp only [Option.getD_some] at p1 p2; omega
      simp only [Option.getD_some]
      rw [Int.toNat_of_nonneg p4]
      simp [hρ]
  generalize hla : (l.getD 0).toNat = a at *
  generalize hlb : (h.getD n).toNat = b at *
  have c1 : a ≤ b := by omega
  have c2 : b ≤ n := by omega
  have c3 : (b : Int) ≤ (n : Int) := by omega
  have c4 : (a : Int) ≤ (b : Int) := by omega
  obtain ⟨bk, off, rfl, g0, g1, g2⟩ := hx
  refine ⟨.slice (some (if n = a then ⟨bk, off + 0, none⟩ else ⟨bk, off + a, none⟩)) (b - a) (n - a), ?_, ?_⟩
  · rcases LO with ⟨e1, e2⟩ | ⟨kl, e1⟩ <;> rcases HI with ⟨f1, f2⟩ | ⟨kh, f1⟩ <;> rw [e1, f1] <;>
      simp_all [Instr.sliceAt, Instr.sureAddr, Instr.sliceBounds, Instr.sliceBound, asIntOf, run_underlying hu, sizeOf, typeInfo, hre.info, addr_add]
  · have hlen : ((List.range (b - a)).map fun j => (g (a + j)).toInt).length = b - a := by simp
    refine ⟨_, _, by rw [hlen], by rw [hlen]; omega, by have : maxLen = 9223372036854775807 := by decide
                                                        omega, fun hp => ?_⟩
    rw [hlen] at hp
    rw [if_neg (by omega)]
    refine ⟨bk, off + a, rfl, g1, fun h => (nomatch h), fun j hj => ?_⟩
    rw [hlen] at hj
    obtain ⟨c, e1, e2, e3⟩ := g2 (a + j) (by omega)
    have hi := List.all_eq_true.1 hg (a + j) (by simp; omega)
    rw [isI64_eq hi] at e3
    have e3 : c = .int .i64 (g (a + j)).toInt := e3
    rw [Nat.add_assoc, e1, e3]
    simp [List.getD, hj]

/-- 'xs[:h:h]'. -/
theorem slice3_ok (hT : TabOk P T) {base : Nat} {φ : Phi} {w : World} {t e : TypeId} (hd : (T.row t).d = .slice e) (hke : knownT (T.row e) = true) (_hsz : (T.row e).sz = 1) {fr : Bool} {xs : List Int} {cx : Value} (hx : Rep φ base w (.ints fr xs) cx)
    {kh km : IntKind} {h m : Int} (h1 : 0 ≤ h) (h2 : h ≤ m) (h3 : m ≤ h) (h4 : h ≤ xs.length) :
    ∃ cv, (Instr.sliceAt t cx none (some (.int kh h)) (some (.int km m))).run P w = .ok cv w ∧ Rep φ base w (.full (xs.take h.toNat)) cv := by
  obtain ⟨it, z, hr⟩ := hT.is (by rw [hd]; exact fun h => nomatch h)
  have hu := und_slice (hr.d.symm.trans hd)
  obtain ⟨ie, ze, hre⟩ := hT.is (knownT_ne hke)
  obtain rfl : m = h := by omega
  obtain ⟨n, rfl⟩ : ∃ n : Nat, m = n := ⟨m.toNat, by omega⟩
  obtain ⟨A, cap, rfl, g2, g3, g4⟩ := hx
  have hn : n ≤ xs.length := by omega
  have hl : (xs.take n).length = n := by rw [List.length_take]; omega
  rw [Int.toNat_natCast]
  have c1 : n ≤ cap := by omega
  refine ⟨.slice (if n = 0 then A else A.map (·.add (0 * ie.size))) n n, ?_, ?_⟩
  · simp [Instr.sliceAt, Instr.slice, Instr.sliceBounds, Instr.sliceBound, asIntOf, run_underlying hu, sizeOf, typeInfo, hre.info, c1]
  · refine ⟨_, by rw [hl], by omega, fun h0 => ?_⟩
    rw [hl] at h0
    obtain ⟨b, off, rfl, k1, _, k3⟩ := g4 (by omega)
    rw [if_neg (by omega)]
    refine ⟨b, off, by simp [addr_add], k1, fun j hj => ?_⟩
    rw [hl] at hj
    rw [k3 j (by omega)]
    simp [List.getD, List.getElem?_take_of_lt hj]

end
end Go.Tri

/-
  SOUNDNESS, FIFTH PART: make, slice literals; every operation without a call in one theorem.
-/
namespace Go.Tri
variable {lo : Nat}
open Go.RowKit

section
variable {P : Program} {T : Tab}

theorem madeCon_isC (i : TI) (n : Nat) : (madeCon i n).isC = true := by
  unfold madeCon
  split <;> rfl
theorem madeCon_kc (i : TI) (n : Nat) : (madeCon i n).kc = false := by
  unfold madeCon
  split <;> rfl
theorem madeCon_n (i : TI) (n : Nat) : (madeCon i n).n = n := by
  unfold madeCon
  split <;> simp [Con.n]

theorem madeCon_f (i : TI) (n j k : Nat) (hj : j < n) (hk : k < i.zero.length) : (madeCon i n).f j k = constV (i.zero.getD k undef) := by
  unfold madeCon
  split
  · next h =>
    rw [h] at hk ⊢
    have : k = 0 := by simpa using hk
    subst this
    simp [Con.f, hj, List.getD, constV]
  · next h =>
    rw [h] at hk ⊢
    have : k = 0 := by simpa using hk
    subst this
    simp [Con.f, hj, List.getD, constV]
  · rfl

theorem maxLen_val : maxLen = 9223372036854775807 := by decide

theorem makeSlice_con (hT : TabOk P T) {nb base nm : Nat} {φ : Phi} {w : World} {M : Mem} (hm : MemRel nb base φ w M) (hn : φ nm = none) {t e : TypeId} (hd : (T.row t).d = .slice e) (hke : knownT (T.row e) = true)
    (hsz : 0 < (T.row e).sz) (hbs : 0 < (T.row e).bs) {kl kc : IntKind} {l c : Int} (h0 : 0 ≤ l) (h1 : l ≤ c) (h2 : ((T.row e).bs : Int) * c ≤ 140737488355328)
    {con : Con} (hcn1 : l.toNat ≤ con.n) (hcn2 : con.n ≤ c.toNat) (hcf : ∀ j k, j < con.n → k < (T.row e).zero.length → con.f j k = constV ((T.row e).zero.getD k undef)) (hcC : con.isC = true) (hck : con.kc = true → c.toNat = con.n) :
    ∃ cv w' φ', (Instr.makeSlice t (.int kl l) (.int kc c)).run P w = .ok cv w' ∧ Step nb base nm φ w (.sl nm 0 0 l.toNat) (M.put nm ⟨e, (T.row e).sz, 0, con⟩) cv w' φ' := by
  obtain ⟨it, z, hr⟩ := hT.is (by rw [hd]; exact fun h => nomatch h)
  have hu := und_slice (hr.d.symm.trans hd)
  obtain ⟨ie, ze, hre⟩ := hT.is (knownT_ne hke)
  have hc : c ≤ 140737488355328 := by
    have : c ≤ ((T.row e).bs : Int) * c := by
      have hb : (1 : Int) ≤ ((T.row e).bs : Int) := by omega
      have := Int.mul_le_mul_of_nonneg_right hb (show 0 ≤ c by omega)
      omega
    omega
  have hrun := run_make (P := P) w t e ie ze hu hre.info hre.zero kl kc l c h0 h1 (by rw [← hre.bs]; omega) (by omega)
  have hs := step_new (hC := hcC) (hkc := hck) hm hn e (madeCells ze.cells (c.toNat * ie.size)) c.toNat (T.row e).sz ⟨e, (T.row e).sz, 0, con⟩ hsz hcn2 (by rw [maxLen_val]; omega) rfl rfl rfl
    (by rw [size_madeCells, hre.sz]) (by
      intro j k hj hk
      have hlen : k < (T.row e).zero.length := by rw [hre.zs]; simpa [hre.zsz, ← hre.sz] using hk
      have e1 := zero_cells hre hre.zsz k (by rw [← hre.sz]; exact hk)
      refine ⟨(T.row e).zero.getD k undef, ?_, hre.one _ (Array.mem_of_getElem? e1), ?_⟩
      · have hlt : j * (T.row e).sz + k < c.toNat * ie.size := by
          rw [← hre.sz]
          have hj : j < con.n := hj
          calc j * (T.row e).sz + k < j * (T.row e).sz + (T.row e).sz := by omega
            _ = (j + 1) * (T.row e).sz := by rw [Nat.succ_mul]
            _ ≤ c.toNat * (T.row e).sz := Nat.mul_le_mul_right _ (by omega)
        have hmod : (j * (T.row e).sz + k) % ze.cells.size = k := by
          rw [hre.zsz, ← hre.sz, Nat.mul_comm, Nat.mul_add_mod, Nat.mod_eq_of_lt hk]
        simp only [madeCells, Array.getElem?_map, Array.getElem?_range, if_pos hlt, Option.map_some, hmod]
        have hks : k < ze.cells.size := by rw [hre.zsz, ← hre.sz]; exact hk
        rw [getElem!_pos ze.cells k hks]
        rw [← e1, Array.getElem?_eq_getElem hks]
      · rw [show (⟨e, (T.row e).sz, 0, con⟩ : Ob).c.f j k = constV ((T.row e).zero.getD k undef) from hcf _ _ hj hlen]
        exact Rep.constV φ base w _)
  refine ⟨_, _, _, hrun, hs.1, ?_, hs.2.1, hs.2.2⟩
  refine ⟨_, Phi.upd_same _ _ _, rfl, Nat.le_refl _, fun _ => ⟨by show 0 + l.toNat ≤ con.n; omega, some ⟨w.heap.size, 0, none⟩, by simp, fun _ => by simp⟩⟩

theorem makeSlice_ok (hT : TabOk P T) {nb base nm : Nat} {φ : Phi} {w : World} {M : Mem} (hm : MemRel nb base φ w M) (hn : φ nm = none) {t e : TypeId} (hd : (T.row t).d = .slice e) (hke : knownT (T.row e) = true)
    (hsz : 0 < (T.row e).sz) (hbs : 0 < (T.row e).bs) {kl kc : IntKind} {l c : Int} (h0 : 0 ≤ l) (h1 : l ≤ c) (h2 : ((T.row e).bs : Int) * c ≤ 140737488355328) (b : Bool) :
    ∃ cv w' φ', (Instr.makeSlice t (.int kl l) (.int kc c)).run P w = .ok cv w' ∧ Step nb base nm φ w (.sl nm 0 0 l.toNat) (M.put nm ⟨e, (T.row e).sz, 0, bif b then madeCon (T.row e) l.toNat else madeKil (T.row e) l.toNat c.toNat⟩) cv w' φ' := by
  have plain := makeSlice_con (P := P) hT hm hn hd hke hsz hbs (kl := kl) (kc := kc) h0 h1 h2 (con := madeCon (T.row e) l.toNat) (by rw [madeCon_n]; omega) (by rw [madeCon_n]; omega) (fun j k hj hk => madeCon_f _ _ _ _ (by rw [madeCon_n] at hj; exact hj) hk) (madeCon_isC _ _) (fun h => by rw [madeCon_kc] at h; cases h)
  cases b with
  | true => exact plain
  | false =>
    simp only [cond_false]
    unfold madeKil
    split
    · next hz =>
      refine makeSlice_con (P := P) hT hm hn hd hke hsz hbs (kl := kl) (kc := kc) h0 h1 h2 (con := .kil (List.replicate c.toNat 0)) (by simp only [Con.n, List.length_replicate]; omega) (by simp [Con.n]) (fun j k hj hk => ?_) rfl (fun _ => by simp [Con.n])
      rw [hz] at hk ⊢
      simp only [Con.n, List.length_replicate] at hj
      have hk0 : k = 0 := by simp at hk; exact hk
      subst hk0
      simp [Con.f, hj, List.getD, constV]
    · exact plain

theorem fill_row : ∀ (vs : List Value) (s : Nat) (cells : Array Value), (∀ v ∈ vs, v.oneCell' = true) → s + vs.length ≤ cells.size →
    ∃ cells', Instr.fill (fun i => some (i * 1, 1)) cells ((List.range' s vs.length).zip vs) = some cells' ∧ cells'.size = cells.size ∧
      ∀ k, cells'[k]? = if s ≤ k ∧ k < s + vs.length then vs[k - s]? else cells[k]? := by
  intro vs
  induction vs with
  | nil => intro s cells _ _; exact ⟨cells, rfl, rfl, fun k => by rw [if_neg (by simp only [List.length_nil]; omega)]⟩
  | cons v vs ih =>
    intro s cells h1 h2
    have hv := cells_one (h1 v (by simp))
    simp only [List.length_cons] at h2
    obtain ⟨cells', e1, e2, e3⟩ := ih (s + 1) (writeCells cells (s * 1) v.cells) (fun u hu => h1 u (by simp [hu])) (by rw [writeCells_size]; omega)
    refine ⟨cells', ?_, by rw [e2, writeCells_size], fun k => ?_⟩
    · rw [List.length_cons, List.range'_succ, List.zip_cons_cons, fill_cons _ cells s v _ (s * 1) 1 rfl (by rw [hv]; rfl) (by rw [hv]; simp; omega)]
      exact e1
    · rw [e3, writeCells_get, hv]
      simp only [List.size_toArray, List.length_cons, List.length_nil, Nat.zero_add, Nat.mul_one]
      by_cases hk : k = s
      · subst hk
        rw [if_neg (by omega), if_pos (by omega), if_pos (by omega)]
        simp
      · by_cases hc : s + 1 ≤ k ∧ k < s + 1 + vs.length
        · rw [if_pos hc, if_pos (by omega), show k - s = (k - (s + 1)) + 1 from by omega]
          rfl
        · rw [if_neg hc, if_neg (by omega), if_neg (by omega)]

theorem run_buildSlice {t e : TypeId} {ie : TypeInfo} {ze : Value} (hu : P.underlying t = some (.slice e)) (hi : P.info? e = some ie) (hz : ie.zero = some ze) (hp : 0 < ie.size) (w : World) (n : Nat) (hn : n * ie.size ≤ 16777216) (h0 : 0 < n)
    (parts : Array (Nat × Value)) (cells : Array Value) (hf : Instr.fill (fun i => some (i * ie.size, ie.size)) ((Array.range (n * ie.size)).map (ze.cells[· % ze.cells.size]!)) parts.toList = some cells) :
    (Instr.buildSlice t n parts).run P w = .ok (.slice (some ⟨w.heap.size, 0, none⟩) n n) (w.alloc (.cells cells e)) := by
  have h1 : ¬ (16777216 < n * ie.size) := by omega
  have h2 : ¬ (n * ie.size = 0) := fun h => by rcases Nat.mul_eq_zero.1 h with h | h <;> omega
  simp [Instr.buildSlice, run_underlying hu, sizeOf, typeInfo, hi, zeroValue, hz, h1, h2, hf, newRow]

theorem run_buildSlice_none {t e : TypeId} {ie : TypeInfo} (hu : P.underlying t = some (.slice e)) (hi : P.info? e = some ie) (w : World) :
    (Instr.buildSlice t 0 #[]).run P w = .ok (.slice (some ⟨w.heap.size, 0, none⟩) 0 0) (w.alloc (.cells #[] e)) := by
  have h0 : Array.range 0 = #[] := rfl
  simp [Instr.buildSlice, run_underlying hu, sizeOf, typeInfo, hi, Instr.fill, newRow, h0]

/-- An allocation that is not named. -/
theorem evo_alloc (w : World) (φ : Phi) (o : Obj) : Evo w φ (w.alloc o) φ :=
  ⟨rfl, rfl, rfl, by simp, fun _ hb _ => heap_alloc_old w _ hb, fun t r ht hp _ hn => hn t r ht hp rfl, fun _ r h => ⟨r, h, rfl, rfl, Nat.le_refl _, fun _ => rfl⟩, (by first | exact Nat.le_refl _ | exact Nat.le_succ _)⟩

theorem MemRel.evo {nb base : Nat} {φ : Phi} {w w' : World} {M : Mem} (h : MemRel nb base φ w M) (hv : Evo w φ w' φ) (hb : ∀ t r, φ t = some r → 0 < r.cap → w'.heap[r.g]? = w.heap[r.g]?) : MemRel nb base φ w' M :=
  ⟨fun t r ht => by obtain ⟨o, h1, h2⟩ := h.obj t r ht; exact ⟨o, h1, h2.evo hv (hb t r ht)⟩, h.inj, h.own, Nat.le_trans h.le hv.size⟩

/-- A slice literal of one element. -/
theorem buildSlice_one (hT : TabOk P T) {nb base nm : Nat} {φ : Phi} {w : World} {M : Mem} (hm : MemRel nb base φ w M) (hn : φ nm = none) {t e : TypeId} (hd : (T.row t).d = .slice e) (hke : knownT (T.row e) = true)
    (hsz : 0 < (T.row e).sz) (hmax : (T.row e).sz ≤ 16777216) {cx : Value} (hc : cx.cells.size = (T.row e).sz) (con : Con) (hcn : con.n = 1)
    (hcells : ∀ k, k < (T.row e).sz → ∃ c, cx.cells[k]? = some c ∧ c.oneCell' = true ∧ Rep φ base w (con.f 0 k) c) :
    ∃ cv w' φ', (Instr.buildSlice t 1 #[(0, cx)]).run P w = .ok cv w' ∧ Step nb base nm φ w (.sl nm 0 0 1) (M.put nm ⟨e, (T.row e).sz, 0, con⟩) cv w' φ' := by
  obtain ⟨it, z, hr⟩ := hT.is (by rw [hd]; exact fun h => nomatch h)
  have hu := und_slice (hr.d.symm.trans hd)
  obtain ⟨ie, ze, hre⟩ := hT.is (knownT_ne hke)
  have hfill : Instr.fill (fun i => some (i * ie.size, ie.size)) ((Array.range (1 * ie.size)).map (ze.cells[· % ze.cells.size]!)) [(0, cx)] = some (writeCells ((Array.range (1 * ie.size)).map (ze.cells[· % ze.cells.size]!)) (0 * ie.size) cx.cells) := by
    rw [fill_cons _ _ 0 cx [] (0 * ie.size) ie.size rfl (by rw [hc, hre.sz]) (by simp [hc, hre.sz])]
    rfl
  have hrun := run_buildSlice (P := P) hu hre.info hre.zero (by rw [← hre.sz]; exact hsz) w 1 (by rw [← hre.sz]; omega) (by omega) #[(0, cx)] _ hfill
  have hs := step_new (hC := Con.isC_of_n (by show 0 < con.n; omega)) (hkc := fun _ => hcn.symm) hm hn e (writeCells ((Array.range (1 * ie.size)).map (ze.cells[· % ze.cells.size]!)) (0 * ie.size) cx.cells) 1 (T.row e).sz ⟨e, (T.row e).sz, 0, con⟩ hsz (by simp only [hcn]; exact Nat.le_refl 1) (by decide) rfl rfl rfl
    (by rw [writeCells_size, hre.sz]; simp) (by
      intro j k hj hk
      simp only [hcn] at hj
      have : j = 0 := by omega
      subst this
      obtain ⟨c, e1, e2, e3⟩ := hcells k hk
      refine ⟨c, ?_, e2, e3⟩
      rw [writeCells_get, if_pos (by simp only [hc, Array.size_map, Array.size_range, ← hre.sz]; omega)]
      simpa using e1)
  exact ⟨_, _, _, hrun, hs.1, ⟨_, Phi.upd_same _ _ _, rfl, Nat.le_refl _, fun _ => ⟨by simp only [hcn]; omega, some ⟨w.heap.size, 0, none⟩, by simp, fun _ => by simp⟩⟩, hs.2.1, hs.2.2⟩

/-- A slice literal of several elements of one cell. -/
theorem buildSlice_row (hT : TabOk P T) {nb base nm : Nat} {φ : Phi} {w : World} {M : Mem} (hm : MemRel nb base φ w M) (hn : φ nm = none) {t e : TypeId} (hd : (T.row t).d = .slice e) (hke : knownT (T.row e) = true)
    (hsz : (T.row e).sz = 1) (vs : List Value) (h0 : 0 < vs.length) (hmax : vs.length ≤ 1000) (con : Con) (hcn : con.n = vs.length)
    (hcells : ∀ j, j < vs.length → ∃ c, vs[j]? = some c ∧ c.oneCell' = true ∧ Rep φ base w (con.f j 0) c) :
    ∃ cv w' φ', (Instr.buildSlice t vs.length ((List.range vs.length).zip vs).toArray).run P w = .ok cv w' ∧ Step nb base nm φ w (.sl nm 0 0 vs.length) (M.put nm ⟨e, 1, 0, con⟩) cv w' φ' := by
  obtain ⟨it, z, hr⟩ := hT.is (by rw [hd]; exact fun h => nomatch h)
  have hu := und_slice (hr.d.symm.trans hd)
  obtain ⟨ie, ze, hre⟩ := hT.is (knownT_ne hke)
  have h1 : ie.size = 1 := by rw [← hre.sz]; exact hsz
  obtain ⟨cells', f1, f2, f3⟩ := fill_row vs 0 ((Array.range (vs.length * 1)).map (ze.cells[· % ze.cells.size]!)) (fun v hv => by
    obtain ⟨j, hj, rfl⟩ := List.getElem_of_mem hv
    obtain ⟨c, e1, e2, _⟩ := hcells j hj
    rw [List.getElem?_eq_getElem hj] at e1
    cases e1
    exact e2) (by simp)
  have hfill : Instr.fill (fun i => some (i * ie.size, ie.size)) ((Array.range (vs.length * ie.size)).map (ze.cells[· % ze.cells.size]!)) ((List.range vs.length).zip vs).toArray.toList = some cells' := by
    rw [h1, List.range_eq_range']
    exact f1
  have hrun := run_buildSlice (P := P) hu hre.info hre.zero (by omega) w vs.length (by rw [h1]; omega) h0 _ _ hfill
  have hs := step_new (hC := Con.isC_of_n (by show 0 < con.n; omega)) (hkc := fun _ => hcn.symm) hm hn e cells' vs.length 1 ⟨e, 1, 0, con⟩ (by omega) (by simp only [hcn]; exact Nat.le_refl _) (by rw [maxLen_val]; omega) rfl rfl rfl
    (by rw [f2]; simp) (by
      intro j k hj hk
      simp only [hcn] at hj
      have : k = 0 := by omega
      subst this
      obtain ⟨c, e1, e2, e3⟩ := hcells j hj
      refine ⟨c, ?_, e2, e3⟩
      rw [f3, if_pos (by omega)]
      simpa using e1)
  exact ⟨_, _, _, hrun, hs.1, ⟨_, Phi.upd_same _ _ _, rfl, Nat.le_refl _, fun _ => ⟨by simp only [hcn]; omega, some ⟨w.heap.size, 0, none⟩, by simp, fun _ => by simp⟩⟩, hs.2.1, hs.2.2⟩

theorem fill_rows (sz : Nat) : ∀ (vs : List Value) (s : Nat) (cells : Array Value), (∀ v ∈ vs, v.cells.size = sz) → (s + vs.length) * sz ≤ cells.size →
    ∃ cells', Instr.fill (fun i => some (i * sz, sz)) cells ((List.range' s vs.length).zip vs) = some cells' ∧ cells'.size = cells.size ∧
      ∀ j k, k < sz → j < vs.length → ∃ v, vs[j]? = some v ∧ cells'[(s + j) * sz + k]? = v.cells[k]? := by
  intro vs
  induction vs with
  | nil => intro s cells _ _; exact ⟨cells, rfl, rfl, fun j k _ hj => absurd hj (by simp)⟩
  | cons v vs ih =>
    intro s cells h1 h2
    have hv := h1 v (by simp)
    simp only [List.length_cons] at h2
    have h3 : (s + 1 + vs.length) * sz ≤ cells.size := by rw [show s + 1 + vs.length = s + (vs.length + 1) from by omega]; exact h2
    have h4 : s * sz + sz ≤ cells.size := by
      have : (s + 1) * sz ≤ (s + 1 + vs.length) * sz := Nat.mul_le_mul_right _ (by omega)
      rw [Nat.add_mul, Nat.one_mul] at this
      omega
    have keep : ∀ (vs : List Value) (s : Nat) (cells cells' : Array Value), (∀ v ∈ vs, v.cells.size = sz) → (s + vs.length) * sz ≤ cells.size → Instr.fill (fun i => some (i * sz, sz)) cells ((List.range' s vs.length).zip vs) = some cells' → ∀ k, k < s * sz → cells'[k]? = cells[k]? := by
      intro vs
      induction vs with
      | nil => intro s cells cells' _ _ h k _; simp [Instr.fill] at h; rw [h]
      | cons v vs ih =>
        intro s cells cells' h1 h2 h k hk
        have hv := h1 v (by simp)
        simp only [List.length_cons] at h2
        have h3 : (s + 1 + vs.length) * sz ≤ cells.size := by rw [show s + 1 + vs.length = s + (vs.length + 1) from by omega]; exact h2
        have h4 : s * sz + sz ≤ cells.size := by
          have : (s + 1) * sz ≤ (s + 1 + vs.length) * sz := Nat.mul_le_mul_right _ (by omega)
          rw [Nat.add_mul, Nat.one_mul] at this
          omega
        rw [List.length_cons, List.range'_succ, List.zip_cons_cons, fill_cons _ cells s v _ (s * sz) sz rfl hv (by rw [hv]; exact h4)] at h
        have := ih (s + 1) _ cells' (fun u hu => h1 u (by simp [hu])) (by rw [writeCells_size]; exact h3) h k (by rw [Nat.add_mul, Nat.one_mul]; omega)
        rw [this, writeCells_get, if_neg (by omega)]
    obtain ⟨cells', e1, e2, e3⟩ := ih (s + 1) (writeCells cells (s * sz) v.cells) (fun u hu => h1 u (by simp [hu])) (by rw [writeCells_size]; exact h3)
    refine ⟨cells', ?_, by rw [e2, writeCells_size], fun j k hk hj => ?_⟩
    · rw [List.length_cons, List.range'_succ, List.zip_cons_cons, fill_cons _ cells s v _ (s * sz) sz rfl hv (by rw [hv]; exact h4)]
      exact e1
    · cases j with
      | zero =>
        refine ⟨v, rfl, ?_⟩
        rw [Nat.add_zero, keep vs (s + 1) _ cells' (fun u hu => h1 u (by simp [hu])) (by rw [writeCells_size]; exact h3) e1 _ (by rw [Nat.add_mul, Nat.one_mul]; omega), writeCells_get, if_pos (by rw [hv]; omega)]
        congr 1
        omega
      | succ j =>
        obtain ⟨u, g1, g2⟩ := e3 j k hk (by simpa using hj)
        exact ⟨u, by simpa using g1, by rw [← g2, show s + (j + 1) = s + 1 + j from by omega]⟩

/-- A slice literal of several structs. -/
theorem buildSlice_rows (hT : TabOk P T) {nb base nm : Nat} {φ : Phi} {w : World} {M : Mem} (hm : MemRel nb base φ w M) (hn : φ nm = none) {t e : TypeId} (hd : (T.row t).d = .slice e) (hke : knownT (T.row e) = true)
    (hsz : 0 < (T.row e).sz) (hszm : (T.row e).sz ≤ 1000) (vs : List Value) (h0 : 0 < vs.length) (hmax : vs.length ≤ 1000) (con : Con) (hcn : con.n = vs.length) (hvs : ∀ v ∈ vs, v.cells.size = (T.row e).sz)
    (hcells : ∀ j k v, vs[j]? = some v → k < (T.row e).sz → ∃ c, v.cells[k]? = some c ∧ c.oneCell' = true ∧ Rep φ base w (con.f j k) c) :
    ∃ cv w' φ', (Instr.buildSlice t vs.length ((List.range vs.length).zip vs).toArray).run P w = .ok cv w' ∧ Step nb base nm φ w (.sl nm 0 0 vs.length) (M.put nm ⟨e, (T.row e).sz, 0, con⟩) cv w' φ' := by
  obtain ⟨it, z, hr⟩ := hT.is (by rw [hd]; exact fun h => nomatch h)
  have hu := und_slice (hr.d.symm.trans hd)
  obtain ⟨ie, ze, hre⟩ := hT.is (knownT_ne hke)
  have hes := hre.sz
  obtain ⟨cells', f1, f2, f3⟩ := fill_rows (T.row e).sz vs 0 ((Array.range (vs.length * (T.row e).sz)).map (ze.cells[· % ze.cells.size]!)) hvs (by simp)
  have hfill : Instr.fill (fun i => some (i * ie.size, ie.size)) ((Array.range (vs.length * ie.size)).map (ze.cells[· % ze.cells.size]!)) ((List.range vs.length).zip vs).toArray.toList = some cells' := by
    rw [← hes, List.range_eq_range']
    exact f1
  have hbig : vs.length * ie.size ≤ 16777216 := by rw [← hes]; exact Nat.le_trans (Nat.mul_le_mul hmax hszm) (by decide)
  have hrun := run_buildSlice (P := P) hu hre.info hre.zero (by omega) w vs.length hbig h0 _ _ hfill
  have hs := step_new (hC := Con.isC_of_n (by show 0 < con.n; omega)) (hkc := fun _ => hcn.symm) hm hn e cells' vs.length (T.row e).sz ⟨e, (T.row e).sz, 0, con⟩ hsz (by simp only [hcn]; exact Nat.le_refl _) (by rw [maxLen_val]; omega) rfl rfl rfl
    (by rw [f2]; simp) (by
      intro j k hj hk
      simp only [hcn] at hj
      obtain ⟨v, g1, g2⟩ := f3 j k hk hj
      obtain ⟨c, e1, e2, e3⟩ := hcells j k v g1 hk
      refine ⟨c, ?_, e2, e3⟩
      rw [Nat.zero_add] at g2
      rw [g2, e1])
  exact ⟨_, _, _, hrun, hs.1, ⟨_, Phi.upd_same _ _ _, rfl, Nat.le_refl _, fun _ => ⟨by simp only [hcn]; omega, some ⟨w.heap.size, 0, none⟩, by simp, fun _ => by simp⟩⟩, hs.2.1, hs.2.2⟩

theorem allI64_get {l : List V} (h : l.all V.isI64 = true) (j : Nat) (hj : j < l.length) : l.getD j .any = .int ((l.map V.toInt).getD j 0) := by
  have := List.all_eq_true.1 h (l[j]) (List.getElem_mem hj)
  simp only [List.getD, List.getElem?_map, List.getElem?_eq_getElem hj, Option.map_some, Option.getD_some]
  exact isI64_eq this

theorem buildSlice_ok (hT : TabOk P T) {nb base nm : Nat} {φ : Phi} {w : World} {M M' : Mem} (hm : MemRel nb base φ w M) (hn : φ nm = none) {ev : Operand → V} {ρ : Operand → Value} (hev : ∀ x, Rep φ base w (ev x) (ρ x))
    {t n : Nat} {parts : Array (Nat × Operand)} {p : Obl} {v : V} (h : aop T nm (.buildSlice t n parts) ev M = some (p, v, M')) (hp : p.holds) :
    Runs nb base nm φ w v M' ((do pure (Next.value (← Instr.buildSlice t n (parts.map fun (i, x) => (i, ρ x)))) : Sem Next).run P w) := by
  simp only [aop] at h
  cases hd : (T.row t).d with
  | slice e =>
    obtain ⟨it, z, hr⟩ := hT.is (t := t) (by rw [hd]; exact fun h => nomatch h)
    have hu := und_slice (hr.d.symm.trans hd)
    simp only [hd] at h
    cases hke : knownT (T.row e) with
    | false => rw [hke] at h; cases h
    | true =>
      obtain ⟨ie, ze, hre⟩ := hT.is (knownT_ne hke)
      rw [hke] at h
      simp only [cond_true] at h
      cases hb : (Nat.beq n 0 && parts.isEmpty) with
      | true =>
        rw [hb] at h
        simp only [cond_true, Option.some.injEq, Prod.mk.injEq] at h
        obtain ⟨rfl, rfl, rfl⟩ := h
        simp only [Bool.and_eq_true] at hb
        have h0 : n = 0 := Nat.eq_of_beq_eq_true hb.1
        have h1 : parts = #[] := by simpa using hb.2
        subst h0 h1
        have hrun := run_buildSlice_none (P := P) hu hre.info w
        have hevo := evo_alloc w φ (.cells #[] e)
        refine ⟨_, w.alloc (.cells #[] e), φ, .inl (by simp [hrun]; rfl), hm.evo hevo (fun t r ht hp => heap_alloc_old w _ (hm.lt ht hp)), ⟨_, rfl, fun h => nomatch h⟩, hevo, fun t r h => .inl ⟨r, h⟩⟩
      | false =>
        rw [hb] at h
        simp only [cond_false] at h
        have hrow : ∀ ps : List (Nat × Operand), parts.toList = ps → (bif Nat.beq (ps.map fun p => ev p.2).length n && Nat.beq (T.row e).sz 1 && Nat.blt 0 n && Nat.ble n 1000 && (ps.map fun p => ev p.2).all V.leaf && (ps.map (·.1) == List.range n) then
            (bif (ps.map fun p => ev p.2).all V.isI64 then some (Obl.tt, V.sl nm 0 0 n, M.put nm ⟨e, 1, 0, .kil ((ps.map fun p => ev p.2).map V.toInt)⟩)
            else some (.tt, .sl nm 0 0 n, M.put nm ⟨e, 1, 0, .cv n fun j _ => (ps.map fun p => ev p.2).getD j .any⟩))
            else bif Nat.beq (ps.map fun p => ev p.2).length n && Nat.blt 0 (T.row e).sz && Nat.ble (T.row e).sz 1000 && Nat.blt 0 n && Nat.ble n 1000 && (ps.map fun p => ev p.2).all (V.isAgg (T.row e).sz) && (ps.map (·.1) == List.range n) then
              some (.tt, .sl nm 0 0 n, M.put nm ⟨e, (T.row e).sz, 0, .cv n fun j k => ((ps.map fun p => ev p.2).getD j .any).cellAt k⟩) else none) = some (p, v, M') →
            Runs nb base nm φ w v M' ((do pure (Next.value (← Instr.buildSlice t n (parts.map fun (i, x) => (i, ρ x)))) : Sem Next).run P w) := by
          intro ps hps h
          cases hc : (Nat.beq (ps.map fun p => ev p.2).length n && Nat.beq (T.row e).sz 1 && Nat.blt 0 n && Nat.ble n 1000 && (ps.map fun p => ev p.2).all V.leaf && (ps.map (·.1) == List.range n)) with
          | false =>
            rw [hc] at h
            simp only [cond_false] at h
            cases hc2 : (Nat.beq (ps.map fun p => ev p.2).length n && Nat.blt 0 (T.row e).sz && Nat.ble (T.row e).sz 1000 && Nat.blt 0 n && Nat.ble n 1000 && (ps.map fun p => ev p.2).all (V.isAgg (T.row e).sz) && (ps.map (·.1) == List.range n)) with
            | false => rw [hc2] at h; cases h
            | true =>
              rw [hc2] at h
              simp only [cond_true, Option.some.injEq, Prod.mk.injEq] at h
              obtain ⟨rfl, rfl, rfl⟩ := h
              simp only [Bool.and_eq_true] at hc2
              obtain ⟨⟨⟨⟨⟨⟨c1, c2⟩, c7⟩, c3⟩, c4⟩, c5⟩, c6⟩ := hc2
              have c1 : ps.length = n := by have := Nat.eq_of_beq_eq_true c1; simpa using this
              have c2 : 0 < (T.row e).sz := by simpa using c2
              have c7 := Nat.le_of_ble_eq_true c7
              have c3 : 0 < n := by simpa using c3
              have c4 := Nat.le_of_ble_eq_true c4
              have c6 : ps.map (·.1) = List.range n := by simpa using c6
              have harr : parts.map (fun (i, x) => (i, ρ x)) = ((List.range (ps.map fun p => ρ p.2).length).zip (ps.map fun p => ρ p.2)).toArray := by
                apply Array.toList_inj.1
                rw [Array.toList_map, hps, List.length_map, c1, ← c6]
                simp [List.zip_map']
              have hlen : (ps.map fun p => ρ p.2).length = n := by simp [c1]
              have hag : ∀ q ∈ ps, ∃ g, ev q.2 = .agg (T.row e).sz g := fun q hq => by
                have := List.all_eq_true.1 c5 (ev q.2) (List.mem_map.2 ⟨q, hq, rfl⟩)
                cases hx : ev q.2 with
                | agg m g => rw [hx] at this; exact ⟨g, by rw [Nat.eq_of_beq_eq_true this]⟩
                | _ => rw [hx] at this; cases this
              have hcs : ∀ q ∈ ps, ∃ cs : Array Value, ρ q.2 = .agg cs ∧ cs.size = (T.row e).sz ∧ ∀ i, i < (T.row e).sz → ∃ c, cs[i]? = some c ∧ c.oneCell' = true ∧ Rep φ base w ((ev q.2).cellAt i) c := fun q hq => by
                obtain ⟨g, hg⟩ := hag q hq
                have := hev q.2
                rw [hg] at this ⊢
                exact this
              obtain ⟨cv, w', φ', r1, r2⟩ := buildSlice_rows (P := P) hT hm hn hd hke c2 c7 (ps.map fun p => ρ p.2) (by omega) (by omega) (.cv n fun j k => ((ps.map fun p => ev p.2).getD j .any).cellAt k) (by rw [hlen]; rfl) (fun u hu => by
                obtain ⟨q, hq, rfl⟩ := List.mem_map.1 hu
                obtain ⟨cs, h1, h2, _⟩ := hcs q hq
                rw [h1]; exact h2) (fun j k u hu hk => by
                rw [List.getElem?_map] at hu
                cases hj : ps[j]? with
                | none => rw [hj] at hu; cases hu
                | some q =>
                  rw [hj] at hu
                  simp only [Option.map_some, Option.some.injEq] at hu
                  subst hu
                  obtain ⟨cs, h1, h2, h3⟩ := hcs q (List.mem_of_getElem? hj)
                  obtain ⟨c, g1, g2, g3⟩ := h3 k hk
                  refine ⟨c, by rw [h1]; exact g1, g2, ?_⟩
                  show Rep φ base w (((ps.map fun p => ev p.2).getD j .any).cellAt k) c
                  rw [show (ps.map fun p => ev p.2).getD j .any = ev q.2 from by simp [List.getD, hj]]
                  exact g3)
              rw [hlen] at r1 r2
              exact ⟨cv, w', φ', .inl (by rw [harr, hlen]; simp [r1]), r2⟩
          | true =>
            rw [hc] at h
            simp only [cond_true] at h
            simp only [Bool.and_eq_true] at hc
            obtain ⟨⟨⟨⟨⟨c1, c2⟩, c3⟩, c4⟩, c5⟩, c6⟩ := hc
            have c1 : ps.length = n := by have := Nat.eq_of_beq_eq_true c1; simpa using this
            have c2 := Nat.eq_of_beq_eq_true c2
            have c3 : 0 < n := by simpa using c3
            have c4 := Nat.le_of_ble_eq_true c4
            have c6 : ps.map (·.1) = List.range n := by simpa using c6
            have harr : parts.map (fun (i, x) => (i, ρ x)) = ((List.range (ps.map fun p => ρ p.2).length).zip (ps.map fun p => ρ p.2)).toArray := by
              apply Array.toList_inj.1
              rw [Array.toList_map, hps, List.length_map, c1, ← c6]
              simp [List.zip_map']
            have hlen : (ps.map fun p => ρ p.2).length = n := by simp [c1]
            have run : ∀ con : Con, con.n = n → (∀ j, j < n → con.f j 0 = (ps.map fun p => ev p.2).getD j .any) →
                Runs nb base nm φ w (.sl nm 0 0 n) (M.put nm ⟨e, 1, 0, con⟩) ((do pure (Next.value (← Instr.buildSlice t n (parts.map fun (i, x) => (i, ρ x)))) : Sem Next).run P w) := by
              intro con hcn hcf
              obtain ⟨cv, w', φ', r1, r2⟩ := buildSlice_row (P := P) hT hm hn hd hke c2 (ps.map fun p => ρ p.2) (by omega) (by omega) con (by rw [hcn, hlen]) (fun j hj => by
                rw [hlen] at hj
                have hj' : j < ps.length := by omega
                have hl := List.all_eq_true.1 c5 (ev ps[j].2) (List.mem_map.2 ⟨ps[j], List.getElem_mem hj', rfl⟩)
                refine ⟨ρ ps[j].2, by simp [hj'], leaf_one hl (hev _), ?_⟩
                rw [hcf j hj]
                simpa [List.getD, hj'] using hev ps[j].2)
              rw [hlen] at r1 r2
              exact ⟨cv, w', φ', .inl (by rw [harr, hlen]; simp [r1]), r2⟩
            cases hi : (ps.map fun p => ev p.2).all V.isI64 with
            | true =>
              rw [hi] at h
              simp only [cond_true, Option.some.injEq, Prod.mk.injEq] at h
              obtain ⟨rfl, rfl, rfl⟩ := h
              refine run _ (by simp [Con.n, c1]) (fun j hj => ?_)
              rw [allI64_get hi j (by simp; omega)]
              rfl
            | false =>
              rw [hi] at h
              simp only [cond_false, Option.some.injEq, Prod.mk.injEq] at h
              obtain ⟨rfl, rfl, rfl⟩ := h
              exact run _ rfl (fun j hj => rfl)
        split at h
        · next x hpx =>
          cases hc : Nat.beq n 1 with
          | false => rw [hc] at h; cases h
          | true =>
            rw [hc] at h
            simp only [cond_true] at h
            have hn1 := Nat.eq_of_beq_eq_true hc
            subst hn1
            have harr : parts.map (fun (i, x) => (i, ρ x)) = #[(0, ρ x)] := by
              apply Array.toList_inj.1
              rw [Array.toList_map, hpx]
              rfl
            rw [harr]
            have hx := hev x
            have one : ∀ con : Con, con.n = 1 → (T.row e).sz = 1 → (ev x).leaf = true → con.f 0 0 = ev x →
                Runs nb base nm φ w (.sl nm 0 0 1) (M.put nm ⟨e, 1, 0, con⟩) ((do pure (Next.value (← Instr.buildSlice t 1 #[(0, ρ x)])) : Sem Next).run P w) := by
              intro con hcn hsz hl hcf
              have h1 := leaf_one hl hx
              obtain ⟨cv, w', φ', r1, r2⟩ := buildSlice_one (P := P) hT hm hn hd hke (by omega) (by omega) (cx := ρ x) (by rw [cells_one h1, hsz]; rfl) con hcn (fun k hk => by
                have : k = 0 := by omega
                subst this
                exact ⟨ρ x, by rw [cells_one h1]; rfl, h1, by rw [hcf]; exact hx⟩)
              rw [hsz] at r2
              exact ⟨cv, w', φ', .inl (by simp [r1]), r2⟩
            by_cases hag : ∃ m g, ev x = .agg m g
            · obtain ⟨m, g, hg⟩ := hag
              rw [hg] at h hx
              simp only at h
              cases hc2 : (Nat.beq m (T.row e).sz && Nat.blt 0 m && Nat.ble m 1000) with
              | false => rw [hc2] at h; cases h
              | true =>
                rw [hc2] at h
                simp only [cond_true, Option.some.injEq, Prod.mk.injEq] at h
                obtain ⟨rfl, rfl, rfl⟩ := h
                simp only [Bool.and_eq_true] at hc2
                have d1 := Nat.eq_of_beq_eq_true hc2.1.1
                have d2 : 0 < m := by simpa using hc2.1.2
                have d3 := Nat.le_of_ble_eq_true hc2.2
                obtain ⟨cs, hv, q1, q2⟩ := hx
                obtain ⟨cv, w', φ', r1, r2⟩ := buildSlice_one (P := P) hT hm hn hd hke (by omega) (by omega) (cx := ρ x) (by rw [hv]; simp [Value.cells, q1, d1]) (.cv 1 fun _ k => g k) rfl (fun k hk => by
                  rw [hv]
                  exact q2 k (by omega))
                rw [← d1] at r2
                exact ⟨cv, w', φ', .inl (by simp [r1]), r2⟩
            · have h' : (bif (ev x).leaf && Nat.beq (T.row e).sz 1 then some (Obl.tt, V.sl nm 0 0 1, M.put nm ⟨e, 1, 0, bif (ev x).isI64 then .kil [(ev x).toInt] else bif (ev x).isBool then .bl [(ev x).toBool] else .cv 1 fun _ _ => ev x⟩) else none) = some (p, v, M') := by
                cases hxx : ev x with
                | agg n g => exact absurd ⟨n, g, hxx⟩ hag
                | _ => rw [hxx] at h; exact h
              cases hc2 : ((ev x).leaf && Nat.beq (T.row e).sz 1) with
              | false => rw [hc2] at h'; cases h'
              | true =>
                rw [hc2] at h'
                simp only [cond_true, Option.some.injEq, Prod.mk.injEq] at h'
                obtain ⟨rfl, rfl, rfl⟩ := h'
                simp only [Bool.and_eq_true] at hc2
                refine one _ ?_ (Nat.eq_of_beq_eq_true hc2.2) hc2.1 ?_
                · cases (ev x).isI64 <;> cases (ev x).isBool <;> rfl
                · cases hi : (ev x).isI64 with
                  | true => exact (isI64_eq hi).symm
                  | false =>
                    cases hbb : (ev x).isBool with
                    | true => exact (isBool_eq hbb).symm
                    | false => rfl
        · exact hrow _ rfl h
  | _ => simp [hd] at h

/-- EVERY OPERATION WITHOUT A CALL runs as the evaluator foresees. -/
theorem aop_ok (hT : TabOk P T) {nb base nm : Nat} {φ : Phi} {w : World} {M M' : Mem} (hm : MemRel nb base φ w M) (hn : φ nm = none) {o : Oper} {ev : Operand → V} {ρ : Operand → Value} (hev : ∀ x, Rep φ base w (ev x) (ρ x)) (hρ : ∀ v, ρ (.const v) = v)
    {p : Obl} {v : V} (hc : ∀ c, o.op ≠ .call c) (h : aop T nm o.op ev M = some (p, v, M')) (hp : p.holds) : Runs nb base nm φ w v M' ((execOp ρ o).run P w) := by
  unfold execOp
  cases ho : o.op with
  | move x =>
    simp only [ho, aop, Option.some.injEq, Prod.mk.injEq] at h
    obtain ⟨rfl, rfl, rfl⟩ := h
    exact ⟨_, w, φ, .inl rfl, Step.same hm (hev x)⟩
  | assign x =>
    simp only [ho, aop, Option.some.injEq, Prod.mk.injEq] at h
    obtain ⟨rfl, rfl, rfl⟩ := h
    exact ⟨_, w, φ, .inl rfl, Step.same hm (hev x)⟩
  | pick c a b =>
    simp only [ho, aop] at h
    have hcv := hev c
    cases hcc : ev c with
    | lit u =>
      rw [hcc] at h hcv
      have hcv : ρ c = u := hcv
      cases u with
      | bool t =>
        cases t with
        | true =>
          simp only [Option.some.injEq, Prod.mk.injEq] at h
          obtain ⟨rfl, rfl, rfl⟩ := h
          exact ⟨_, w, φ, .inl (by simp [hcv, asBool]), Step.same hm (hev a)⟩
        | false =>
          simp only [Option.some.injEq, Prod.mk.injEq] at h
          obtain ⟨rfl, rfl, rfl⟩ := h
          exact ⟨_, w, φ, .inl (by simp [hcv, asBool]), Step.same hm (hev b)⟩
      | _ => simp at h
    | _ => rw [hcc] at h; simp at h
  | alloc t =>
    simp only [ho, aop] at h
    cases hb : (knownT (T.row t) && Nat.blt 0 (T.row t).sz) with
    | false => simp [hb] at h
    | true =>
      simp only [hb, cond_true, Option.some.injEq, Prod.mk.injEq] at h
      obtain ⟨rfl, rfl, rfl⟩ := h
      simp only [Bool.and_eq_true] at hb
      obtain ⟨a, w', φ', h1, h2⟩ := alloc_ok hT hm hn hb.1 (by simpa using hb.2)
      exact ⟨a, w', φ', .inl (by simp [h1]), h2⟩
  | box t x =>
    simp only [ho, aop] at h
    have hx := hev x
    by_cases hag : ∃ n g, ev x = .agg n g
    · obtain ⟨n, g, hg⟩ := hag
      rw [hg] at h hx
      simp only at h
      cases hb : Nat.blt 0 n with
      | false => simp [hb] at h
      | true =>
        simp only [hb, cond_true, Option.some.injEq, Prod.mk.injEq] at h
        obtain ⟨rfl, rfl, rfl⟩ := h
        cases har : isArrT (T.row t) with
        | true =>
          obtain ⟨a, w', φ', h1, h2⟩ := box_arr_ok (P := P) hm hn t hx (by simpa using hb)
          exact ⟨a, w', φ', .inl (by simp [h1]), h2⟩
        | false =>
          obtain ⟨a, w', φ', h1, h2⟩ := box_agg_ok (P := P) hm hn t hx (by simpa using hb)
          exact ⟨a, w', φ', .inl (by simp [h1]), h2⟩
    · have h' : (bif (ev x).leaf then some (Obl.tt, V.ptr nm 0 0 0, M.put nm ⟨t, 1, 0, .one [ev x]⟩) else none) = some (p, v, M') := by
        cases hxx : ev x with
        | agg n g => exact absurd ⟨n, g, hxx⟩ hag
        | _ => rw [hxx] at h; exact h
      cases hb : (ev x).leaf with
      | false => simp [hb] at h'
      | true =>
        simp only [hb, cond_true, Option.some.injEq, Prod.mk.injEq] at h'
        obtain ⟨rfl, rfl, rfl⟩ := h'
        obtain ⟨a, w', φ', h1, h2⟩ := box_leaf_ok (P := P) hm hn t hx hb
        exact ⟨a, w', φ', .inl (by simp [h1]), h2⟩
  | build t parts =>
    simp only [ho, aop] at h
    cases hd : (T.row t).d with
    | struct fs =>
      simp only [hd] at h
      cases hb : (fs.all (fun q => knownT (T.row q.1)) && parts.toList.all (fun (i, x) => partOk T fs (T.row t).sz i (ev x))) with
      | false => rw [hb] at h; cases h
      | true =>
        rw [hb] at h
        simp only [cond_true, Option.some.injEq, Prod.mk.injEq] at h
        obtain ⟨rfl, rfl, rfl⟩ := h
        obtain ⟨cv, h1, h2⟩ := build_ok (w := w) hT hd ev ρ hev parts hb
        exact Runs.val hm h1 h2
    | _ => simp [hd] at h
  | buildSlice t n parts =>
    simp only [ho, aop] at h
    exact buildSlice_ok hT hm hn hev h hp
  | load t x =>
    simp only [ho, aop] at h
    cases hl : loadV T M t (ev x) with
    | none => simp [hl] at h
    | some q =>
      obtain ⟨p', v'⟩ := q
      simp only [hl, Option.some.injEq, Prod.mk.injEq] at h
      obtain ⟨rfl, rfl, rfl⟩ := h
      obtain ⟨cv, h1, h2⟩ := loadV_ok (P := P) hT hm (hev x) hl hp
      exact Runs.val hm h1 h2
  | store t x y =>
    simp only [ho, aop] at h
    obtain ⟨w', φ', h1, h2⟩ := storeV_ok (P := P) (nm := nm) hT hm (hev x) (hev y) h hp
    exact ⟨undef, w', φ', .inr ⟨by simp [h1], rfl⟩, h2⟩
  | nilCheck x =>
    simp only [ho, aop] at h
    have hx := hev x
    cases hxx : ev x with
    | ptr a b c d =>
      rw [hxx] at h hx
      obtain ⟨r, hrr, h1c, hle, hv⟩ := hx
      obtain ⟨ob, hob, hrel⟩ := hm.obj a r hrr
      simp only [hob, Option.some.injEq, Prod.mk.injEq] at h
      obtain ⟨rfl, rfl, rfl⟩ := h
      have hver := eqnO_holds.1 hp
      obtain ⟨hv1, hv2⟩ := hv (by rw [← hrel.ver, hver])
      exact ⟨ρ x, w, φ, .inl (by simp [hv1]), Step.same hm ⟨r, hrr, h1c, hle, hv⟩⟩
    | at_ a b c =>
      rw [hxx] at h hx
      simp only [Option.some.injEq, Prod.mk.injEq] at h
      obtain ⟨rfl, rfl, rfl⟩ := h
      obtain ⟨b', off, hv, rest⟩ := hx
      exact ⟨ρ x, w, φ, .inl (by simp [hv]), Step.same hm ⟨b', off, hv, rest⟩⟩
    | clo f n g =>
      rw [hxx] at h hx
      simp only [Option.some.injEq, Prod.mk.injEq] at h
      obtain ⟨rfl, rfl, rfl⟩ := h
      obtain ⟨cs, hv, rest⟩ := hx
      exact ⟨ρ x, w, φ, .inl (by simp [hv]), Step.same hm ⟨cs, hv, rest⟩⟩
    | bnd f n g =>
      rw [hxx] at h hx
      simp only [Option.some.injEq, Prod.mk.injEq] at h
      obtain ⟨rfl, rfl, rfl⟩ := h
      obtain ⟨cs, hv, rest⟩ := hx
      exact ⟨ρ x, w, φ, .inl (by simp [hv]), Step.same hm ⟨cs, hv, rest⟩⟩
    | _ => rw [hxx] at h; simp at h
  | binOp op t x y t2 =>
    simp only [ho, aop] at h
    cases hnl : isNilC y with
    | true =>
      rw [hnl] at h
      simp only [cond_true] at h
      cases hb : nilV T op t M (ev x) with
      | none => rw [hb] at h; cases h
      | some q =>
        obtain ⟨p', v'⟩ := q
        rw [hb] at h
        simp only [Option.some.injEq, Prod.mk.injEq] at h
        obtain ⟨rfl, rfl, rfl⟩ := h
        obtain ⟨cv, h1, h2⟩ := nilV_ok hT hm hρ (hev x) x hnl hb hp
        exact Runs.val hm h1 h2
    | false =>
      rw [hnl] at h
      simp only [cond_false] at h
      cases hb : binV T op t (ev x) (ev y) with
      | none => rw [hb] at h; cases h
      | some q =>
        obtain ⟨p', v'⟩ := q
        rw [hb] at h
        simp only [Option.some.injEq, Prod.mk.injEq] at h
        obtain ⟨rfl, rfl, rfl⟩ := h
        obtain ⟨cv, h1, h2⟩ := binV_ok hT (hev x) (hev y) x y hb hp
        exact Runs.val hm h1 h2
  | unOp op t x =>
    simp only [ho, aop] at h
    have hx := hev x
    cases op with
    | neg =>
      cases hxx : ev x with
      | lit a =>
        rw [hxx] at h hx
        have hx : ρ x = a := hx
        cases a with
        | int k n =>
          cases k with
          | i64 =>
            simp only [Option.some.injEq, Prod.mk.injEq] at h
            obtain ⟨rfl, rfl, rfl⟩ := h
            have hp : InR (-n) := hp
            unfold InR at hp
            refine ⟨.int .i64 (-n), w, φ, .inl ?_, Step.same hm rfl⟩
            have : IntKind.i64.wrap (-n) = -n := IntWalk.i64_in (-n) ⟨hp.1, hp.2⟩
            simp [hx, Op.unary, Op.intArith, this]
          | _ => simp at h
        | _ => simp at h
      | _ => rw [hxx] at h; simp at h
    | not =>
      cases hxx : ev x with
      | lit a =>
        rw [hxx] at h hx
        have hx : ρ x = a := hx
        cases a with
        | bool b =>
          simp only [Option.some.injEq, Prod.mk.injEq] at h
          obtain ⟨rfl, rfl, rfl⟩ := h
          exact ⟨.bool (!b), w, φ, .inl (by simp [hx, Op.unary]), Step.same hm rfl⟩
        | _ => simp at h
      | _ => rw [hxx] at h; simp at h
    | _ => simp at h
  | convert s d x =>
    simp only [ho, aop] at h
    have hx := hev x
    cases hd : (T.row d).d with
    | int k =>
      cases hxx : ev x with
      | lit a =>
        rw [hxx] at hx
        have hx : ρ x = a := hx
        cases a with
        | int k' n =>
          obtain ⟨it, z, hr⟩ := hT.is (t := d) (by rw [hd]; exact fun h => nomatch h)
          have hu := und_int (hr.d.symm.trans hd)
          cases hks : knownT (T.row s) with
          | false => rw [hd, hxx, hks] at h; cases k <;> cases h
          | true =>
            obtain ⟨is, zs, hrs⟩ := hT.is (knownT_ne hks)
            have hus : ∃ ds, P.underlying s = some ds := by
              cases hq : P.underlying s with
              | some ds => exact ⟨ds, rfl⟩
              | none =>
                have := hrs.d
                unfold convD at this
                rw [hq] at this
                exact absurd this (knownT_ne hks)
            obtain ⟨ds, hus⟩ := hus
            have hrun : (convert s d (.int k' n)).run P w = .ok (.int k (k.wrap n)) w := by
              simp [convert, run_underlying hu, run_underlying hus, Conv.intToInt]
            have key : ∀ q : Obl × V, q.2 = .lit (.int k (k.wrap n)) → some (q.1, q.2, M) = some (p, v, M') → Runs nb base nm φ w v M' ((do pure (Next.value (← convert s d (ρ x))) : Sem Next).run P w) := by
              intro q hq he
              simp only [Option.some.injEq, Prod.mk.injEq] at he
              obtain ⟨_, rfl, rfl⟩ := he
              rw [hx, hq]
              exact Runs.val hm hrun rfl
            rw [hd, hxx, hks] at h
            cases k with
            | i64 =>
              simp only [Option.some.injEq, Prod.mk.injEq] at h
              obtain ⟨rfl, rfl, rfl⟩ := h
              have hp : InR n := hp
              unfold InR at hp
              have hw : IntKind.i64.wrap n = n := IntWalk.i64_in n ⟨hp.1, hp.2⟩
              exact key (.inr n, .int n) (by rw [hw]) rfl
            | _ => exact key (.tt, .lit (.int _ _)) rfl h
        | _ => rw [hd, hxx] at h; cases k <;> simp at h
      | _ => rw [hd, hxx] at h; cases k <;> simp at h
    | _ => simp [hd] at h
  | makeFunc fn first captured =>
    cases fn with
    | func f =>
      simp only [ho, aop] at h
      cases hb : first.isEmpty with
      | false =>
        rw [hb] at h
        simp only [cond_false] at h
        cases hb2 : captured.isEmpty with
        | false => rw [hb2] at h; cases h
        | true =>
          rw [hb2] at h
          simp only [cond_true, Option.some.injEq, Prod.mk.injEq] at h
          obtain ⟨rfl, rfl, rfl⟩ := h
          have hf : captured = #[] := by simpa using hb2
          subst hf
          show Runs nb base nm φ w _ _ ((do pure (Next.value (← Instr.makeFunc (.func f) (first.map ρ) (#[].map ρ))) : Sem Next).run P w)
          refine Runs.val (cv := .func (.func f) (first.map ρ) #[]) hm (by simp [Instr.makeFunc]) ⟨_, rfl, by simp, fun i hi => ?_⟩
          refine ⟨ρ first[i], by simp [Array.getElem?_eq_getElem hi], ?_⟩
          simpa [List.getD, hi] using hev first[i]
      | true =>
        rw [hb] at h
        simp only [cond_true, Option.some.injEq, Prod.mk.injEq] at h
        obtain ⟨rfl, rfl, rfl⟩ := h
        have hf : first = #[] := by simpa using hb
        subst hf
        show Runs nb base nm φ w _ _ ((do pure (Next.value (← Instr.makeFunc (.func f) (#[].map ρ) (captured.map ρ))) : Sem Next).run P w)
        refine Runs.val (cv := .func (.func f) #[] (captured.map ρ)) hm (by simp [Instr.makeFunc]) ⟨_, rfl, by simp, fun i hi => ?_⟩
        refine ⟨ρ captured[i], by simp [Array.getElem?_eq_getElem hi], ?_⟩
        simpa [List.getD, hi] using hev captured[i]
    | _ => simp [ho, aop] at h
  | makeInterface t x =>
    simp only [ho, aop] at h
    cases hk : concT (T.row t) with
    | false => rw [hk] at h; cases h
    | true =>
      rw [hk] at h
      simp only [cond_true, Option.some.injEq, Prod.mk.injEq] at h
      obtain ⟨rfl, rfl, rfl⟩ := h
      have hd : (T.row t).d ≠ .other := fun e => by simp [concT, e] at hk
      obtain ⟨i, z, hr⟩ := hT.is (t := t) hd
      have hd2 : (T.row t).d ≠ .iface := fun e => by simp [concT, e] at hk
      rw [hr.d] at hd hd2
      show Runs nb base nm φ w _ _ ((do pure (Next.value (← Instr.makeInterface t (ρ x))) : Sem Next).run P w)
      refine Runs.val (cv := .iface t (ρ x)) hm ?_ ⟨_, rfl, hev x⟩
      unfold convD at hd hd2
      cases hu : P.underlying t with
      | none => rw [hu] at hd; exact absurd rfl hd
      | some d =>
        cases d <;> first | (simp [Instr.makeInterface, run_underlying hu]; done) | (rw [hu] at hd; exact absurd rfl hd) | (rw [hu] at hd2; exact absurd rfl hd2)
  | makeSlice t l c =>
    simp only [ho, aop] at h
    have hl := hev l
    have hcc := hev c
    cases hd : (T.row t).d with
    | slice e =>
      cases hll : ev l with
      | lit a =>
        cases a with
        | int kl l' =>
          cases hccc : ev c with
          | lit a =>
            cases a with
            | int kc c' =>
              rw [hd, hll, hccc] at h
              rw [hll] at hl
              rw [hccc] at hcc
              have hl : ρ l = .int kl l' := hl
              have hcc : ρ c = .int kc c' := hcc
              simp only at h
              cases hb : (knownT (T.row e) && Nat.blt 0 (T.row e).sz && Nat.blt 0 (T.row e).bs) with
              | false => rw [hb] at h; cases h
              | true =>
                rw [hb] at h
                simp only [cond_true, Option.some.injEq, Prod.mk.injEq] at h
                obtain ⟨rfl, rfl, rfl⟩ := h
                simp only [Bool.and_eq_true] at hb
                obtain ⟨h0, h1, h2⟩ := hp
                obtain ⟨cv, w', φ', q1, q2⟩ := makeSlice_ok (P := P) hT hm hn hd hb.1.1 (by simpa using hb.1.2) (by simpa using hb.2) (kl := kl) (kc := kc) h0 h1 h2 (sameOp l c)
                exact ⟨cv, w', φ', .inl (by simp [hl, hcc, q1]), q2⟩
            | _ => rw [hd, hll, hccc] at h; simp at h
          | _ => rw [hd, hll, hccc] at h; simp at h
        | _ => rw [hd, hll] at h; simp at h
      | _ => rw [hd, hll] at h; simp at h
    | _ => simp [hd] at h
  | slice t x lo hi mx =>
    simp only [ho, aop] at h
    cases hd : (T.row t).d with
    | slice e =>
      cases mx with
      | some m =>
        cases hl : optInt ev lo with
        | none => simp [hd, hl] at h
        | some l =>
          cases hh : optInt ev hi with
          | none => simp [hd, hl, hh] at h
          | some hh' =>
            cases l with
            | some _ => simp [hd, hl, hh] at h
            | none =>
              cases hh' with
              | none => simp [hd, hl, hh] at h
              | some hv =>
                simp only [hd, hl, hh] at h
                cases hk : (knownT (T.row e) && Nat.beq (T.row e).sz 1) with
                | false => rw [hk] at h; cases h
                | true =>
                  rw [hk] at h
                  simp only [cond_true] at h
                  simp only [Bool.and_eq_true] at hk
                  split at h
                  · next fr xs k mv hxx hyy =>
                    simp only [Option.some.injEq, Prod.mk.injEq] at h
                    obtain ⟨rfl, rfl, rfl⟩ := h
                    obtain ⟨p1, p2, p3, p4⟩ := hp
                    have hx := hev x
                    have hy := hev m
                    rw [hxx] at hx
                    rw [hyy] at hy
                    have hy : ρ m = .int k mv := hy
                    rcases opt_eval hev hl with ⟨rfl, _⟩ | ⟨o1, k1, i1, _, h1, _⟩
                    · rcases opt_eval hev hh with ⟨_, h2⟩ | ⟨o2, k2, i2, rfl, h2, hρ⟩
                      · cases h2
                      · cases h2
                        obtain ⟨cv, q1, q2⟩ := slice3_ok (P := P) hT hd hk.1 (Nat.eq_of_beq_eq_true hk.2) hx (kh := k2) (km := k) p1 p2 p3 p4
                        refine Runs.val hm ?_ q2
                        simp only [Option.map_none, Option.map_some, hρ, hy]
                        exact q1
                    · cases h1
                  · cases h
      | none =>
        cases hl : optInt ev lo with
        | none => simp [hd, hl] at h
        | some l =>
          cases hh : optInt ev hi with
          | none => simp [hd, hl, hh] at h
          | some hh' =>
            simp only [hd, hl, hh] at h
            cases hk : knownT (T.row e) with
            | false => rw [hk] at h; cases h
            | true =>
              rw [hk] at h
              simp only [cond_true] at h
              cases hs : sliceV M (T.row e).sz (ev x) l hh' with
              | none => rw [hs] at h; cases h
              | some q =>
                obtain ⟨p', v'⟩ := q
                rw [hs] at h
                simp only [Option.some.injEq, Prod.mk.injEq] at h
                obtain ⟨rfl, rfl, rfl⟩ := h
                obtain ⟨cv, h1, h2⟩ := sliceV_ok (P := P) hT hm hd hk hev hl hh (hev x) hs hp
                exact Runs.val hm h1 h2
    | array n e =>
      cases mx with
      | some m => simp [hd] at h
      | none =>
        cases hl : optInt ev lo with
        | none => simp [hd, hl] at h
        | some l =>
          cases hh : optInt ev hi with
          | none => simp [hd, hl, hh] at h
          | some hh' =>
            simp only [hd, hl, hh] at h
            cases hk : (knownT (T.row e) && Nat.beq (T.row e).sz 1) with
            | false => rw [hk] at h; cases h
            | true =>
              rw [hk] at h
              simp only [cond_true] at h
              simp only [Bool.and_eq_true] at hk
              have hx := hev x
              cases hxx : ev x with
              | at_ sz g o =>
                rw [hxx] at h hx
                simp only at h
                cases hc : (Nat.beq sz n && Nat.beq o 0 && Nat.ble n 1000 && (List.range n).all (fun k => (g k).isI64)) with
                | false => rw [hc] at h; cases h
                | true =>
                  rw [hc] at h
                  simp only [cond_true, Option.some.injEq, Prod.mk.injEq] at h
                  obtain ⟨rfl, rfl, rfl⟩ := h
                  simp only [Bool.and_eq_true] at hc
                  have e1 := Nat.eq_of_beq_eq_true hc.1.1.1
                  have e2 := Nat.eq_of_beq_eq_true hc.1.1.2
                  subst e1 e2
                  obtain ⟨p1, p2, p3⟩ := hp
                  obtain ⟨cv, h1, h2⟩ := sliceArr_ok (P := P) hT hd hk.1 (Nat.eq_of_beq_eq_true hk.2) hx (Nat.le_of_ble_eq_true hc.1.2) hc.2 hev hl hh p1 p2 p3
                  exact Runs.val hm h1 h2
              | _ => rw [hxx] at h; cases h
    | _ => simp [hd] at h
  | fieldAddr s x f =>
    simp only [ho, aop] at h
    have hx := hev x
    cases hd : (T.row s).d with
    | struct fs =>
      simp only [hd] at h
      cases hb : (Nat.blt f fs.length && knownT (T.row (fs.getD f (0, 0)).1) && Nat.blt 0 (T.row (fs.getD f (0, 0)).1).sz) with
      | false => rw [hb] at h; cases h
      | true =>
        rw [hb] at h
        simp only [cond_true] at h
        simp only [Bool.and_eq_true] at hb
        obtain ⟨⟨b1, b2⟩, b3⟩ := hb
        have b1 : f < fs.length := by simpa using b1
        have b3 : 0 < (T.row (fs.getD f (0, 0)).1).sz := by simpa using b3
        cases hxx : ev x with
        | ptr n ver i o' =>
          rw [hxx] at h hx
          obtain ⟨r, hrr, h1c, hle, hv⟩ := hx
          obtain ⟨ob, hob, hrel⟩ := hm.obj n r hrr
          simp only [hob, Option.some.injEq, Prod.mk.injEq] at h
          obtain ⟨rfl, rfl, rfl⟩ := h
          have hver := eqnO_holds.1 hp
          obtain ⟨hv1, hv2⟩ := hv (by rw [← hrel.ver, hver])
          show Runs nb base nm φ w _ _ ((do pure (Next.value (← Instr.fieldAt s (ρ x) f)) : Sem Next).run P w)
          rw [hv1]
          refine Runs.val hm (fieldAt_ok hT hd b1 b2 b3) ⟨r, hrr, rfl, hle, fun _ => ⟨by rw [Nat.add_assoc], hv2⟩⟩
        | at_ sz g o' =>
          rw [hxx] at h hx
          simp only [Option.some.injEq, Prod.mk.injEq] at h
          obtain ⟨rfl, rfl, rfl⟩ := h
          obtain ⟨b', off, hv, rest⟩ := hx
          show Runs nb base nm φ w _ _ ((do pure (Next.value (← Instr.fieldAt s (ρ x) f)) : Sem Next).run P w)
          rw [hv]
          exact Runs.val hm (fieldAt_ok hT hd b1 b2 b3) ⟨b', off, by rw [Nat.add_assoc], rest⟩
        | _ => rw [hxx] at h; simp at h
    | _ => simp [hd] at h
  | field t x f =>
    simp only [ho, aop] at h
    have hx := hev x
    cases hd : (T.row t).d with
    | struct fs =>
      cases hxx : ev x with
      | agg n g =>
        rw [hd, hxx] at h
        rw [hxx] at hx
        obtain ⟨cs, hv, q1, q2⟩ := hx
        simp only at h
        cases hb : (Nat.blt f fs.length && knownT (T.row (fs.getD f (0, 0)).1) && Nat.ble ((fs.getD f (0, 0)).2 + (T.row (fs.getD f (0, 0)).1).sz) n) with
        | false => rw [hb] at h; cases h
        | true =>
          rw [hb] at h
          simp only [cond_true] at h
          simp only [Bool.and_eq_true] at hb
          obtain ⟨⟨b1, b2⟩, b3⟩ := hb
          have b1 : f < fs.length := by simpa using b1
          have b3 := Nat.le_of_ble_eq_true b3
          obtain ⟨it, z, hr⟩ := hT.is (t := t) (by rw [hd]; exact fun h => nomatch h)
          obtain ⟨g', hg, hfs⟩ := und_struct (hr.d.symm.trans hd)
          have hlen : f < g'.size := by rw [← hfs] at b1; simpa using b1
          have e1 : g'[f]? = some g'[f] := Array.getElem?_eq_getElem hlen
          have e2 : fs.getD f (0, 0) = (g'[f].type, g'[f].offset) := by rw [← hfs]; simp [List.getD, hlen]
          rw [e2] at h b2 b3
          simp only at h b2 b3
          show Runs nb base nm φ w _ _ ((do pure (Next.value (← Instr.field t (ρ x) f)) : Sem Next).run P w)
          have hfr : ∀ cv, (part g'[f].type cs g'[f].offset).run P w = .ok cv w → (Instr.field t (ρ x) f).run P w = .ok cv w := by
            intro cv hcv
            rw [hv]
            simp [Instr.field, run_underlying hg, e1, asAgg, hcv]
          cases ha : isAggT (T.row g'[f].type) with
          | true =>
            rw [ha] at h
            simp only [cond_true, Option.some.injEq, Prod.mk.injEq] at h
            obtain ⟨rfl, rfl, rfl⟩ := h
            refine Runs.val hm (hfr _ (run_part_agg hT b2 ha cs _)) ⟨_, rfl, by simp; omega, fun k hk => ?_⟩
            obtain ⟨c, z1, z2, z3⟩ := q2 (g'[f].offset + k) (by omega)
            refine ⟨c, ?_, z2, z3⟩
            rw [Array.getElem?_extract]
            rw [if_pos (by omega)]
            exact z1
          | false =>
            rw [ha] at h
            simp only [cond_false] at h
            cases hz : Nat.beq (T.row g'[f].type).sz 1 with
            | false => rw [hz] at h; cases h
            | true =>
              rw [hz] at h
              simp only [cond_true, Option.some.injEq, Prod.mk.injEq] at h
              obtain ⟨rfl, rfl, rfl⟩ := h
              have hz := Nat.eq_of_beq_eq_true hz
              obtain ⟨c, z1, z2, z3⟩ := q2 g'[f].offset (by omega)
              exact Runs.val hm (hfr _ (run_part_leaf hT b2 ha cs _ z1)) z3
      | _ => rw [hd, hxx] at h; simp at h
    | _ => simp [hd] at h
  | indexAddr t x i =>
    simp only [ho, aop] at h
    have hi := hev i
    cases hii : ev i with
    | lit a =>
      cases a with
      | int k n =>
        rw [hii] at h hi
        have hi : ρ i = .int k n := hi
        simp only at h
        cases hs : indexV T M t (ev x) n with
        | none => rw [hs] at h; cases h
        | some q =>
          obtain ⟨p', v'⟩ := q
          rw [hs] at h
          simp only [Option.some.injEq, Prod.mk.injEq] at h
          obtain ⟨rfl, rfl, rfl⟩ := h
          obtain ⟨cv, h1, h2⟩ := indexV_ok (P := P) hT hm (k := k) (hev x) hs hp
          show Runs nb base nm φ w _ _ ((do pure (Next.value (← Instr.indexAt t (ρ x) (ρ i))) : Sem Next).run P w)
          rw [hi]
          exact Runs.val hm h1 h2
      | _ => rw [hii] at h; simp at h
    | _ => rw [hii] at h; simp at h
  | index t x i =>
    simp only [ho, aop] at h
    split at h
    · next s k iv hd hxx hii =>
      simp only [Option.some.injEq, Prod.mk.injEq] at h
      obtain ⟨rfl, rfl, rfl⟩ := h
      obtain ⟨p1, p2⟩ := hp
      have p1 : 0 ≤ iv := p1
      have p2 : iv < (s.size : Int) := p2
      have hx := hev x
      have hy := hev i
      rw [hxx] at hx
      rw [hii] at hy
      have hx : ρ x = .string s := hx
      have hy : ρ i = .int k iv := hy
      obtain ⟨it, z, hr⟩ := hT.is (t := t) (by rw [hd]; exact fun h => nomatch h)
      have hu := und_string (hr.d.symm.trans hd)
      refine Runs.val (cv := .int .u8 ((s[iv.toNat]'(by omega)).toNat : Int)) hm ?_ ?_
      · rw [hx, hy, run_index_string _ _ _ _ _ hu, dif_pos ⟨p1, p2⟩]
      · show Value.int .u8 _ = _
        congr 2
        have h3 : iv.toNat < s.data.size := by have : s.size = s.data.size := rfl; omega
        simp only [Array.getD, h3, dif_pos]
        rfl
    · cases h
  | extract x i =>
    simp only [ho, aop] at h
    have hx := hev x
    cases hxx : ev x with
    | tup n g =>
      rw [hxx] at h hx
      obtain ⟨cs, hv, h1, h2⟩ := hx
      simp only at h
      cases hb : Nat.blt i n with
      | false => rw [hb] at h; cases h
      | true =>
        rw [hb] at h
        simp only [cond_true, Option.some.injEq, Prod.mk.injEq] at h
        obtain ⟨rfl, rfl, rfl⟩ := h
        obtain ⟨c, e1, e2⟩ := h2 i (by simpa using hb)
        show Runs nb base nm φ w _ _ ((do pure (Next.value (← Instr.extract (ρ x) i)) : Sem Next).run P w)
        refine Runs.val (cv := c) hm ?_ e2
        rw [hv]
        simp [Instr.extract, e1]
    | _ => rw [hxx] at h; simp at h
  | call c => exact absurd ho (hc c)
  | _ => simp [ho, aop] at h

end
end Go.Tri
