/-
  WHAT IS CHECKED OF A CODE AHEAD: operations, orders, cuts.
-/
import Derived.WalkKit
import Derived.ProofKit
import Derived.RangeFuncOwn
import Derived.OrdersIn
import Derived.Sort.LoopGhostIn
import Derived.Laws.CopyRow
import Derived.ChangeKeysEq
import Derived.Lib.AppendZeros
namespace Go.Tri

def isNilC : Operand → Bool
  | .const (.slice none 0 0) => true
  | _ => false
def dstOk (nt : Nat) (o : Oper) : Bool := match o.dst with
  | some d => Nat.blt d nt
  | none => true

/-- Does it look at memory? -/
def isRd : Op → Bool
  | .binOp _ _ _ y _ => isNilC y
  | .move _ | .assign _ | .pick .. | .alloc _ | .box .. | .build .. | .buildSlice .. | .unOp .. | .convert .. | .makeFunc .. | .makeInterface .. | .makeSlice .. | .field .. | .extract .. | .index .. => false
  | _ => true
/-- Does it write to what was there? -/
def isLoud : Op → Bool
  | .store .. => true
  | .call c => match c.callee with
    | .builtin .append => true
    | .builtin .copy => true
    | _ => false
  | _ => false

/-- It looks at one object: its operand's. -/
def isLd : Op → Bool
  | .load .. | .slice .. | .indexAddr .. | .fieldAddr .. => true
  | _ => false
/-- It writes to one object that its result, or its first operand, names: an append, a store. -/
def isApp : Op → Bool
  | .store .. => true
  | .call c => match c.callee with
    | .builtin .append => true
    | _ => false
  | _ => false

def mention (ops : Array Oper) (o : Oper) : List Tmp :=
  o.dst.toList ++ (o.op.operands.toList.filterMap fun | .tmp t => some t | _ => none) ++ (match o.guard with
    | some (g, _) => ((ops[g]?).bind (·.dst)).toList
    | none => [])

def befStep (acc : List Nat) (o : Oper) : Nat := o.after.toList.foldl (fun s e => bif Region.binds .any e && Nat.blt e.on acc.length then s ||| 2 ^ e.on ||| acc.getD e.on 0 else s) 0
def befs (ops : Array Oper) : List Nat := ops.toList.foldl (fun acc o => acc ++ [befStep acc o]) []

def touches (ops : Array Oper) (a b : Oper) : Bool := (match a.dst with | some d => (mention ops b).contains d | none => false) || (isLoud a.op && isRd b.op && !(isApp a.op && isLd b.op))
def conflicts (ops : Array Oper) (a b : Oper) : Bool := touches ops a b || touches ops b a

/-- Does one wait for the other? -/
def bef (ops : Array Oper) (k i : Nat) : Bool := bif Nat.blt k i then ((befs ops).getD i 0).testBit k else ((befs ops).getD k 0).testBit i
/-- A look at one object that an append is not held apart from. -/
def wkL (ops : Array Oper) (i : Nat) : Bool := (match ops[i]? with | some o => isLd o.op | none => false) &&
  (List.range ops.size).any fun k => (match ops[k]? with | some a => isApp a.op | none => false) && !bef ops k i

def drawOk (nt : Nat) (ops : Array Oper) : Bool :=
  ops.toList.all (dstOk nt) && ((List.range ops.size).all fun i => match ops[i]? with | some o => o.after.all fun e => !Region.binds .any e || Nat.blt e.on i | none => true) && (List.range ops.size).all fun i => (List.range i).all fun k =>
    !(match ops[k]?, ops[i]? with | some a, some b => conflicts ops a b | _, _ => false) || ((befs ops).getD i 0).testBit k

/-- The operation at c waits for all before it; each behind it waits for the one before. -/
def cutOk (nt : Nat) (ops : Array Oper) (c : Nat) : Bool :=
  drawOk nt (ops.extract 0 c) && ops.toList.all (dstOk nt) && Nat.ble c ops.size &&
  ((List.range ops.size).all fun i => match ops[i]? with | some o => o.after.all fun e => !Region.binds .any e || Nat.blt e.on i | none => true) &&
  ((List.range c).all fun j => ((befs ops).getD c 0).testBit j) &&
  ((List.range ops.size).all fun i => Nat.ble i c || ((befs ops).getD i 0).testBit (i - 1)) &&
  ((List.range c).all fun i => match ops[i]? with | some o => (match o.guard with | some (j, _) => Nat.blt j c | none => true) | none => true)

/-- What is checked of a code ahead; 'cut': where a region that draws is cut. -/
def codeOk (nt : Nat) (cut : Nat → Option Nat) : Code → Bool
  | .seq a b => codeOk nt cut a && codeOk nt cut b
  | .cond _ a b => codeOk nt cut a && codeOk nt cut b
  | .block _ a => codeOk nt cut a
  | .loop a => codeOk nt cut a
  | .rangeFunc _ ps a b => ps.toList.all (fun p => Nat.blt p nt) && codeOk nt cut a && codeOk nt cut b
  | .region id ops draw => bif draw then (match cut id with
    | some c => Nat.blt c ops.size && cutOk nt ops c
    | none => drawOk nt ops) else ops.toList.all (dstOk nt)
  | _ => true

/-- Where a loop's own regions are cut, and that they have been checked. -/
structure LoopInf (nt : Nat) (ps : Array Tmp) (as bd : Code) where
  cut : Nat → Option Nat
  ok : Option (PLift (ps.toList.all (fun p => Nat.blt p nt) = true ∧ codeOk nt cut as = true ∧ codeOk nt cut bd = true))

end Go.Tri

/-
  A FRAMEWORK OF MY OWN: abstract values over the model's worlds. Values, the reading of a value in a world, what a step keeps.
-/
namespace Go.Tri

/-- Abstract values: an exact value; an immutable slice by its cells (fr: in memory of the call's own); a slice into a named object at a version; a pointer into one; a pointer into immutable cells; a struct or array; several results; a closure; a slice without room; nothing known; ints, of which the room is as long. -/
inductive V where
  | lit (v : Value)
  | ints (fr : Bool) (xs : List Int)
  | seq (fr : Bool) (sz n : Nat) (f : Nat → Nat → V)
  | sl (t ver off len : Nat)
  | ptr (t ver i o : Nat)
  | at_ (sz : Nat) (g : Nat → V) (o : Nat)
  | agg (n : Nat) (g : Nat → V)
  | tup (n : Nat) (g : Nat → V)
  | clo (fn : FuncId) (n : Nat) (g : Nat → V)
  | emp (nil : Bool)
  | any
  | yld (t : Nat)
  | ifc (ty : TypeId) (x : V)
  | bnd (fn : FuncId) (n : Nat) (g : Nat → V)
  | full (xs : List Int)
  | mp (t : Nat)

@[reducible] def V.int (n : Int) : V := .lit (.int .i64 n)
@[reducible] def V.bool (b : Bool) : V := .lit (.bool b)
/-- What a skipped operation leaves. -/
@[reducible] def V.un : V := .lit (.tuple #[])

/-- Where an object lies: its block, its room, how many elements, cells an element, the element type. -/
structure Row where
  g : Nat
  cap : Nat
  n : Nat
  sz : Nat
  e : TypeId
  ver : Nat

abbrev Phi := Nat → Option Row
def notLive (φ : Phi) (b : Nat) : Prop := ∀ t r, φ t = some r → 0 < r.cap → r.g ≠ b

def Rep (φ : Phi) (base : Nat) (w : World) : V → Value → Prop
  | .lit u, v => v = u
  | .ints fr xs, v => ∃ A cap, v = .slice A xs.length cap ∧ xs.length ≤ cap ∧ cap ≤ maxLen ∧ (0 < xs.length → ∃ b off, A = some ⟨b, off, none⟩ ∧ notLive φ b ∧ (fr = true → base ≤ b) ∧
      ∀ j, j < xs.length → w.cell? ⟨b, off + j, none⟩ = some (.int .i64 (xs.getD j 0)))
  | .seq fr sz n f, v => ∃ A cap, v = .slice A n cap ∧ n ≤ cap ∧ cap ≤ maxLen ∧ 0 < sz ∧ (0 < n → ∃ b off, A = some ⟨b, off, none⟩ ∧ notLive φ b ∧ (fr = true → base ≤ b) ∧
      ∀ j o, j < n → o < sz → ∃ c, w.cell? ⟨b, off + (j * sz + o), none⟩ = some c ∧ c.oneCell' = true ∧ Rep φ base w (f j o) c)
  | .sl t ver off len, v => ∃ r, φ t = some r ∧ v.oneCell' = true ∧ ver ≤ r.ver ∧ (r.ver = ver → off + len ≤ r.n ∧ ∃ A, v = .slice A len (r.cap - off) ∧ (off < r.cap → A = some ⟨r.g, off * r.sz, none⟩))
  | .ptr t ver i o, v => ∃ r, φ t = some r ∧ v.oneCell' = true ∧ ver ≤ r.ver ∧ (r.ver = ver → v = .pointer (some ⟨r.g, i * r.sz + o, none⟩) ∧ i < r.n)
  | .at_ sz g o, v => ∃ b off, v = .pointer (some ⟨b, off + o, none⟩) ∧ b < w.heap.size ∧ notLive φ b ∧
      ∀ k, k < sz → ∃ c, w.cell? ⟨b, off + k, none⟩ = some c ∧ c.oneCell' = true ∧ Rep φ base w (g k) c
  | .agg n g, v => ∃ cs : Array Value, v = .agg cs ∧ cs.size = n ∧ ∀ i, i < n → ∃ c, cs[i]? = some c ∧ c.oneCell' = true ∧ Rep φ base w (g i) c
  | .tup n g, v => ∃ cs : Array Value, v = .tuple cs ∧ cs.size = n ∧ ∀ i, i < n → ∃ c, cs[i]? = some c ∧ Rep φ base w (g i) c
  | .clo fn n g, v => ∃ cs : Array Value, v = .func (.func fn) #[] cs ∧ cs.size = n ∧ ∀ i, i < n → ∃ c, cs[i]? = some c ∧ Rep φ base w (g i) c
  | .emp nl, v => ∃ A, v = .slice A 0 0 ∧ (nl = true → A = none)
  | .any, _ => True
  | .yld t, v => ∃ r, φ t = some r ∧ v.oneCell' = true ∧ (r.ver = 0 → 0 < r.cap ∧ v = .func (.yield r.g) #[] #[])
  | .mp t, v => ∃ r, φ t = some r ∧ v.oneCell' = true ∧ (r.ver = 0 → 0 < r.cap ∧ v = .map (some r.g))
  | .ifc ty x, v => ∃ u, v = .iface ty u ∧ Rep φ base w x u
  | .bnd fn n g, v => ∃ cs : Array Value, v = .func (.func fn) cs #[] ∧ cs.size = n ∧ ∀ i, i < n → ∃ c, cs[i]? = some c ∧ Rep φ base w (g i) c
  | .full xs, v => ∃ A, v = .slice A xs.length xs.length ∧ xs.length ≤ maxLen ∧ (0 < xs.length → ∃ b off, A = some ⟨b, off, none⟩ ∧ notLive φ b ∧ ∀ j, j < xs.length → w.cell? ⟨b, off + j, none⟩ = some (.int .i64 (xs.getD j 0)))

/-- What a step of the world keeps. -/
structure Evo (w : World) (φ : Phi) (w' : World) (φ' : Phi) : Prop where
  os : w'.os = w.os
  tape : w'.tape = w.tape
  output : w'.output = w.output
  size : w.heap.size ≤ w'.heap.size
  block : ∀ b, b < w.heap.size → notLive φ b → w'.heap[b]? = w.heap[b]?
  live : ∀ t r, φ' t = some r → 0 < r.cap → r.g < w.heap.size → ¬ notLive φ r.g
  names : ∀ t r, φ t = some r → ∃ r', φ' t = some r' ∧ r'.sz = r.sz ∧ r'.e = r.e ∧ r.ver ≤ r'.ver ∧ (r'.ver = r.ver → r' = r)
  drawn : w.drawn ≤ w'.drawn := by first | exact Nat.le_refl _ | exact Nat.le_succ _

theorem Evo.refl (w : World) (φ : Phi) : Evo w φ w φ :=
  ⟨rfl, rfl, rfl, Nat.le_refl _, fun _ _ _ => rfl, fun t r h hc _ hn => hn t r h hc rfl, fun _ r h => ⟨r, h, rfl, rfl, Nat.le_refl _, fun _ => rfl⟩, (by first | exact Nat.le_refl _ | exact Nat.le_succ _)⟩

theorem Evo.notLive_keep {w w' : World} {φ φ' : Phi} (h : Evo w φ w' φ') {b : Nat} (hb : b < w.heap.size) (hn : notLive φ b) : notLive φ' b := by
  intro t r ht hc he
  subst he
  exact h.live t r ht hc hb hn

theorem Evo.trans {w w₁ w₂ : World} {φ φ₁ φ₂ : Phi} (h : Evo w φ w₁ φ₁) (k : Evo w₁ φ₁ w₂ φ₂) : Evo w φ w₂ φ₂ where
  os := k.os.trans h.os
  tape := k.tape.trans h.tape
  output := k.output.trans h.output
  size := Nat.le_trans h.size k.size
  block b hb hn := (k.block b (Nat.lt_of_lt_of_le hb h.size) (h.notLive_keep hb hn)).trans (h.block b hb hn)
  live t r ht hc hb hn := k.live t r ht hc (Nat.lt_of_lt_of_le hb h.size) (h.notLive_keep hb hn)
  drawn := Nat.le_trans h.drawn k.drawn
  names t r ht := by
    obtain ⟨r₁, h1, h2, h3, h4, h5⟩ := h.names t r ht
    obtain ⟨r₂, k1, k2, k3, k4, k5⟩ := k.names t r₁ h1
    refine ⟨r₂, k1, k2.trans h2, k3.trans h3, Nat.le_trans h4 k4, fun he => ?_⟩
    have e1 : r₁.ver = r.ver := by omega
    have e2 : r₂.ver = r₁.ver := by omega
    rw [k5 e2, h5 e1]

theorem Evo.cell {w w' : World} {φ φ' : Phi} (h : Evo w φ w' φ') {b off : Nat} {c : Value} (hn : notLive φ b) (hc : w.cell? ⟨b, off, none⟩ = some c) :
    w'.cell? ⟨b, off, none⟩ = some c ∧ notLive φ' b := by
  have hb : b < w.heap.size := World.block_lt_of_cell? w _ hc
  exact ⟨(World.cell?_of_block (a := ⟨b, off, none⟩) (h.block b hb hn)).trans hc, h.notLive_keep hb hn⟩

theorem Rep.evo {w w' : World} {φ φ' : Phi} {base : Nat} (h : Evo w φ w' φ') : ∀ {x : V} {v : Value}, Rep φ base w x v → Rep φ' base w' x v := by
  intro x
  induction x with
  | lit u => exact fun hr => hr
  | ints fr xs =>
    rintro v ⟨A, cap, rfl, h1, h2, h4⟩
    refine ⟨A, cap, rfl, h1, h2, fun hn => ?_⟩
    obtain ⟨b, off, rfl, g1, g2, g3⟩ := h4 hn
    exact ⟨b, off, rfl, (h.cell g1 (g3 0 hn)).2, g2, fun j hj => (h.cell g1 (g3 j hj)).1⟩
  | seq fr sz n f ih =>
    rintro v ⟨A, cap, rfl, h1, h2, h3, h4⟩
    refine ⟨A, cap, rfl, h1, h2, h3, fun hn => ?_⟩
    obtain ⟨b, off, rfl, g1, g2, g3⟩ := h4 hn
    obtain ⟨c0, e0, _, _⟩ := g3 0 0 hn h3
    refine ⟨b, off, rfl, (h.cell g1 e0).2, g2, fun j o hj ho => ?_⟩
    obtain ⟨c, e1, e2, e3⟩ := g3 j o hj ho
    exact ⟨c, (h.cell g1 e1).1, e2, ih j o e3⟩
  | sl t ver off len =>
    rintro v ⟨r, hr, h1c, hle, hv⟩
    obtain ⟨r', h1, h2, h3, h4, h5⟩ := h.names t r hr
    refine ⟨r', h1, h1c, Nat.le_trans hle h4, fun he => ?_⟩
    by_cases hrn : r.ver = ver
    · have : r' = r := h5 (by omega)
      subst this
      exact hv hrn
    · omega
  | ptr t ver i o =>
    rintro v ⟨r, hr, h1c, hle, hv⟩
    obtain ⟨r', h1, h2, h3, h4, h5⟩ := h.names t r hr
    refine ⟨r', h1, h1c, Nat.le_trans hle h4, fun he => ?_⟩
    by_cases hrn : r.ver = ver
    · have : r' = r := h5 (by omega)
      subst this
      exact hv hrn
    · omega
  | at_ sz g o ih =>
    rintro v ⟨b, off, rfl, h0, h1, h2⟩
    refine ⟨b, off, rfl, Nat.lt_of_lt_of_le h0 h.size, h.notLive_keep h0 h1, fun k hk => ?_⟩
    · obtain ⟨c, e1, e2, e3⟩ := h2 k hk
      exact ⟨c, (h.cell h1 e1).1, e2, ih k e3⟩
  | agg n g ih =>
    rintro v ⟨cs, rfl, h1, h2⟩
    exact ⟨cs, rfl, h1, fun i hi => by obtain ⟨c, e1, e2, e3⟩ := h2 i hi; exact ⟨c, e1, e2, ih i e3⟩⟩
  | tup n g ih =>
    rintro v ⟨cs, rfl, h1, h2⟩
    exact ⟨cs, rfl, h1, fun i hi => by obtain ⟨c, e1, e2⟩ := h2 i hi; exact ⟨c, e1, ih i e2⟩⟩
  | clo fn n g ih =>
    rintro v ⟨cs, rfl, h1, h2⟩
    exact ⟨cs, rfl, h1, fun i hi => by obtain ⟨c, e1, e2⟩ := h2 i hi; exact ⟨c, e1, ih i e2⟩⟩
  | emp => exact fun hr => hr
  | any => exact fun _ => trivial
  | yld t =>
    rintro v ⟨r, hr, h1c, hv⟩
    obtain ⟨r', h1, h2, h3, h4, h5⟩ := h.names t r hr
    refine ⟨r', h1, h1c, fun he => ?_⟩
    have : r' = r := h5 (by omega)
    subst this
    exact hv he
  | mp t =>
    rintro v ⟨r, hr, h1c, hv⟩
    obtain ⟨r', h1, h2, h3, h4, h5⟩ := h.names t r hr
    refine ⟨r', h1, h1c, fun he => ?_⟩
    have : r' = r := h5 (by omega)
    subst this
    exact hv he
  | ifc ty x ih =>
    rintro v ⟨u, rfl, h1⟩
    exact ⟨u, rfl, ih h1⟩
  | bnd fn n g ih =>
    rintro v ⟨cs, rfl, h1, h2⟩
    exact ⟨cs, rfl, h1, fun i hi => by obtain ⟨c, e1, e2⟩ := h2 i hi; exact ⟨c, e1, ih i e2⟩⟩
  | full xs =>
    rintro v ⟨A, rfl, h1, h4⟩
    refine ⟨A, rfl, h1, fun hn => ?_⟩
    obtain ⟨b, off, rfl, g1, g3⟩ := h4 hn
    exact ⟨b, off, rfl, (h.cell g1 (g3 0 hn)).2, fun j hj => (h.cell g1 (g3 j hj)).1⟩

/-! ## Objects, memory, frames -/

/-- An object's content: a row of ints, of bools; elements by their cells; one element by its cells. -/
inductive Con where
  | il (xs : List Int)
  | bl (xs : List Bool)
  | ci (n : Nat) (f : Nat → Nat → Int)
  | cv (n : Nat) (f : Nat → Nat → V)
  | one (cs : List V)
  | kil (xs : List Int)
  | loop (st : LoopState) (pend : Option Code) (e : List (Nat × V)) (nt : Nat) (ps : Array Tmp) (assign body : Code) (inf : LoopInf nt ps assign body)
  | mpi (es : List (Int × Int))

def Con.n : Con → Nat
  | .il xs => xs.length
  | .bl xs => xs.length
  | .ci n _ => n
  | .cv n _ => n
  | .one _ => 1
  | .kil xs => xs.length
  | .loop .. => 0
  | .mpi _ => 0

/-- Its block holds cells. -/
def Con.isC : Con → Bool
  | .loop .. => false
  | .mpi _ => false
  | _ => true

/-- All the room that there is holds known cells. -/
def Con.kc : Con → Bool
  | .kil _ => true
  | _ => false

def Con.f : Con → Nat → Nat → V
  | .il xs, j, _ => .int (xs.getD j 0)
  | .bl xs, j, _ => .bool (xs.getD j false)
  | .ci _ f, j, o => .int (f j o)
  | .cv _ f, j, o => f j o
  | .one cs, _, o => cs.getD o .any
  | .kil xs, j, _ => .int (xs.getD j 0)
  | .loop .., _, _ => .any
  | .mpi _, _, _ => .any

abbrev Env := List (Nat × V)
def Env.get : Env → Nat → V
  | [], _ => .any
  | (i, x) :: e, j => if i = j then x else Env.get e j

/-- The record of a loop over a function, as it lies in memory. -/
structure LoopIs (φ : Phi) (base : Nat) (w : World) (g : Nat) (st : LoopState) (pend : Option Code) (e : Env) (nt : Nat) (ps : Array Tmp) (assign body : Code) (L : Loop) : Prop where
  at_ : w.heap[g]? = some (.loop L)
  st : L.state = st
  pend : L.pending = pend
  ps : L.params = ps
  assign : L.assign = assign
  body : L.body = body
  size : L.tmps.size = nt
  slots : ∀ i, Rep φ base w (Env.get e i) (L.tmps.getD i undef)

/-- A map's entries. -/
def MapIs (es : List (Int × Int)) (A : List MapEntry) : Prop := A.map (fun e => (e.key, e.val)) = es.map fun q => (Value.int .i64 q.1, Value.int .i64 q.2)

/-- What an object's block holds where that is no cells. -/
def Con.Spec (φ : Phi) (base : Nat) (w : World) (r : Row) : Con → Prop
  | .loop st pend e nt ps assign body _ => 0 < r.cap ∧ r.ver = 0 ∧ ∃ L, LoopIs φ base w r.g st pend e nt ps assign body L
  | .kil _ => r.cap = r.n
  | .mpi es => 0 < r.cap ∧ r.ver = 0 ∧ ∃ A clock, w.heap[r.g]? = some (.map A clock) ∧ MapIs es A.toList
  | _ => True

theorem Con.isC_of_n {c : Con} (h : 0 < c.n) : c.isC = true := by
  cases c with
  | loop => simp only [Con.n] at h; omega
  | mpi => simp only [Con.n] at h; omega
  | _ => rfl
theorem Con.Spec_of {φ : Phi} {base : Nat} {w : World} {r : Row} {c : Con} (h : c.isC = true) (hk : c.kc = true → r.cap = r.n) : c.Spec φ base w r := by
  cases c with
  | loop => cases h
  | mpi => cases h
  | kil => exact hk rfl
  | _ => exact trivial
theorem Con.Spec_evo {φ φ' : Phi} {base : Nat} {w w' : World} {r : Row} {c : Con} (hv : Evo w φ w' φ') (hb : 0 < r.cap → w'.heap[r.g]? = w.heap[r.g]?) (h : c.Spec φ base w r) : c.Spec φ' base w' r := by
  cases c with
  | loop st pend e nt ps as bd inf =>
    obtain ⟨h1, h2, L, g1, g2, g3, g4, g5, g6, g7, g8⟩ := h
    exact ⟨h1, h2, L, (hb h1).trans g1, g2, g3, g4, g5, g6, g7, fun i => Rep.evo hv (g8 i)⟩
  | kil => exact h
  | mpi es =>
    obtain ⟨h1, h2, A, c, g1, g2⟩ := h
    exact ⟨h1, h2, A, c, (hb h1).trans g1, g2⟩
  | _ => exact trivial

structure Ob where
  e : TypeId
  sz : Nat
  ver : Nat
  c : Con

abbrev Mem := List (Option Ob)
def Mem.get (M : Mem) (t : Nat) : Option Ob := M.getD t none

/-- Row r of the world holds object o. -/
structure ORel (φ : Phi) (base : Nat) (w : World) (r : Row) (o : Ob) : Prop where
  n : o.c.n = r.n
  ver : o.ver = r.ver
  sz : o.sz = r.sz
  e : o.e = r.e
  pos : 0 < r.sz
  le : r.n ≤ r.cap
  max : r.cap ≤ maxLen
  dom : 0 < r.cap → r.g < w.heap.size
  spec : o.c.Spec φ base w r
  row : o.c.isC = true → 0 < r.cap → ∃ cur, w.heap[r.g]? = some (.cells cur r.e (0, 0)) ∧ cur.size = r.cap * r.sz ∧
    ∀ j k, j < r.n → k < r.sz → ∃ c, cur[j * r.sz + k]? = some c ∧ c.oneCell' = true ∧ Rep φ base w (o.c.f j k) c

structure MemRel (nb base : Nat) (φ : Phi) (w : World) (M : Mem) : Prop where
  obj : ∀ t r, φ t = some r → ∃ o, M.get t = some o ∧ ORel φ base w r o
  inj : ∀ t t' r r', φ t = some r → φ t' = some r' → 0 < r.cap → 0 < r'.cap → r.g = r'.g → t = t'
  own : ∀ t r, φ t = some r → nb ≤ t → 0 < r.cap → base ≤ r.g
  le : base ≤ w.heap.size

/-- The mark of a loop over a function among the calls that are put off. -/
@[reducible] def markD (D : Nat) : Deferred := { target := .collected D, args := #[] }

/-- The calls that are put off: marks alone, each with its own block, which holds none; all blocks from 'lo' on. -/
def Dfr (lo : Nat) (φ : Phi) (w : World) : List Deferred → Prop
  | [] => True
  | d :: r => (∃ D, d = markD D ∧ lo ≤ D ∧ w.heap[D]? = some (.deferred (some [])) ∧ notLive φ D ∧ ∀ d' ∈ r, d' ≠ markD D) ∧ Dfr lo φ w r

theorem Dfr.evo {lo : Nat} {φ φ' : Phi} {w w' : World} (hv : Evo w φ w' φ') : ∀ {ds : List Deferred}, Dfr lo φ w ds → Dfr lo φ' w' ds
  | [], _ => trivial
  | d :: r, ⟨⟨D, h1, h2, h3, h4, h5⟩, h6⟩ => by
    have hlt : D < w.heap.size := (Array.getElem?_eq_some_iff.1 h3).1
    exact ⟨⟨D, h1, h2, (hv.block D hlt h4).trans h3, hv.notLive_keep hlt h4, h5⟩, Dfr.evo hv h6⟩

structure St (lo nt nb base : Nat) (φ : Phi) (w : World) (M : Mem) (e : Env) (a : Act) : Prop where
  mem : MemRel nb base φ w M
  dfr : Dfr lo φ w a.defers
  low : lo ≤ w.heap.size
  size : a.tmps.size = nt
  slots : ∀ i, Rep φ base w (Env.get e i) (a.tmps.getD i undef)

theorem MemRel.lt {nb base : Nat} {φ : Phi} {w : World} {M : Mem} (h : MemRel nb base φ w M) {t : Nat} {r : Row} (ht : φ t = some r) (hp : 0 < r.cap) : r.g < w.heap.size := by
  obtain ⟨o, _, ho⟩ := h.obj t r ht
  exact ho.dom hp

theorem MemRel.fresh {nb base : Nat} {φ : Phi} {w : World} {M : Mem} (h : MemRel nb base φ w M) {b : Nat} (hb : w.heap.size ≤ b) : notLive φ b := by
  intro t r ht hp he
  have := h.lt ht hp
  omega

theorem St.evo {lo nt nb base : Nat} {φ φ' : Phi} {w w' : World} {M M' : Mem} {e : Env} {a : Act} (h : St lo nt nb base φ w M e a) (hv : Evo w φ w' φ') (hm : MemRel nb base φ' w' M') : St lo nt nb base φ' w' M' e a :=
  ⟨hm, h.dfr.evo hv, Nat.le_trans h.low hv.size, h.size, fun i => Rep.evo hv (h.slots i)⟩

/-- A cell of a row, as the world reads it. -/
theorem ORel.cell {φ : Phi} {base : Nat} {w : World} {r : Row} {o : Ob} (h : ORel φ base w r o) {j k : Nat} (hj : j < r.n) (hk : k < r.sz) :
    ∃ c, w.cell? ⟨r.g, j * r.sz + k, none⟩ = some c ∧ c.oneCell' = true ∧ Rep φ base w (o.c.f j k) c := by
  obtain ⟨cur, h1, h2, h3⟩ := h.row (Con.isC_of_n (by have := h.n; omega)) (by have := h.le; omega)
  obtain ⟨c, e1, e2, e3⟩ := h3 j k hj hk
  exact ⟨c, by rw [cell_of_row w r.g _ cur r.e (0, 0) h1]; exact e1, e2, e3⟩

theorem ORel.isC {φ : Phi} {base : Nat} {w : World} {r : Row} {o : Ob} (h : ORel φ base w r o) (hn : 0 < r.n) : o.c.isC = true := Con.isC_of_n (by have := h.n; omega)

theorem ORel.frozen {φ : Phi} {base : Nat} {w : World} {r : Row} {o : Ob} (h : ORel φ base w r o) (hp : 0 < r.cap) (k : Nat) : w.frozen? ⟨r.g, k, none⟩ = false := by
  by_cases hC : o.c.isC = false
  · have hs := h.spec
    cases hc : o.c with
    | loop st pend e nt ps as bd inf =>
      rw [hc] at hs
      obtain ⟨_, _, L, hL⟩ := hs
      simp [World.frozen?, hL.at_]
    | mpi es =>
      rw [hc] at hs
      obtain ⟨_, _, A, c, hA, _⟩ := hs
      simp [World.frozen?, hA]
    | _ => rw [hc] at hC; cases hC
  have hC : o.c.isC = true := by simpa using hC
  obtain ⟨cur, h1, _⟩ := h.row hC hp
  exact frozen_of_row w r.g k cur r.e h1

end Go.Tri

/-
  THE ABSTRACT EVALUATOR: operations, regions, code: a Prop by recursion on the code, so that 'whnf' walks it.
-/
namespace Go.Tri

inductive TD where
  | int (k : IntKind)
  | bool
  | string
  | slice (e : Nat)
  | struct (fs : List (Nat × Nat))
  | array (n e : Nat)
  | pointer (e : Nat)
  | func
  | iface
  | map (k e : Nat)
  | other

/-- A type's row: what it is, cells, bytes, the zero value's cells. -/
structure TI where
  d : TD
  sz : Nat
  bs : Nat
  zero : List Value
  eq : Bool

abbrev Tab := List TI
def Tab.row (T : Tab) (t : Nat) : TI := T.getD t ⟨.other, 0, 0, [], false⟩

/-- What is left to show, as data. -/
inductive Obl where
  | tt
  | inr (x : Int)
  | le (a b : Int)
  | lt (a b : Int)
  | ne (a b : Int)
  | eqn (a b : Nat)
  | and (p q : Obl)

@[irreducible] def InR (x : Int) : Prop := -9223372036854775808 ≤ x ∧ x ≤ 9223372036854775807

def Obl.holds : Obl → Prop
  | .tt => True
  | .inr x => InR x
  | .le a b => a ≤ b
  | .lt a b => a < b
  | .ne a b => a ≠ b
  | .eqn a b => a = b
  | .and p q => p.holds ∧ q.holds

def Obl.req : Obl → Prop → Prop
  | .tt, K => K
  | .inr x, K => InR x ∧ K
  | .le a b, K => a ≤ b ∧ K
  | .lt a b, K => a < b ∧ K
  | .ne a b, K => a ≠ b ∧ K
  | .eqn a b, K => a = b ∧ K
  | .and p q, K => p.req (q.req K)

/-- Two versions are one: nothing is asked where both are numerals. -/
def eqnO (a b : Nat) : Obl := bif Nat.beq a b then .tt else .eqn a b

theorem eqnO_holds {a b : Nat} : (eqnO a b).holds ↔ a = b := by
  unfold eqnO
  cases h : Nat.beq a b with
  | true => simp only [cond_true, Obl.holds, true_iff]; exact Nat.eq_of_beq_eq_true h
  | false => rfl

/-- A cell's place in an object: nothing more is asked where both are numerals. -/
def ltO (a b : Nat) : Obl := bif Nat.blt a b then .tt else .lt a b
theorem ltO_holds {a b : Nat} : (ltO a b).holds ↔ a < b := by
  unfold ltO
  cases h : Nat.blt a b with
  | true => simp only [cond_true, Obl.holds, true_iff]; simpa using h
  | false => simp only [cond_false, Obl.holds]; omega
def ldO (ver ver' o sz : Nat) : Obl := bif Nat.blt o sz then eqnO ver ver' else .and (eqnO ver ver') (.lt o sz)
theorem ldO_holds {ver ver' o sz : Nat} : (ldO ver ver' o sz).holds ↔ ver = ver' ∧ o < sz := by
  unfold ldO
  cases h : Nat.blt o sz with
  | true => simp only [cond_true, eqnO_holds]; exact ⟨fun q => ⟨q, by simpa using h⟩, fun q => q.1⟩
  | false => simp only [cond_false, Obl.holds, eqnO_holds]; omega

/-- Several cells from a place on; a whole array. -/
def ldaO (ver ver' m sz : Nat) : Obl := bif Nat.ble m sz then eqnO ver ver' else .and (eqnO ver ver') (.le m sz)
theorem ldaO_holds {ver ver' m sz : Nat} : (ldaO ver ver' m sz).holds ↔ ver = ver' ∧ m ≤ sz := by
  unfold ldaO
  cases h : Nat.ble m sz with
  | true => simp only [cond_true, eqnO_holds]; exact ⟨fun q => ⟨q, Nat.le_of_ble_eq_true h⟩, fun q => q.1⟩
  | false => simp only [cond_false, Obl.holds, eqnO_holds]; omega
def leO (a b : Nat) : Obl := bif Nat.ble a b then .tt else .le a b
theorem leO_holds {a b : Nat} : (leO a b).holds ↔ a ≤ b := by
  unfold leO
  cases h : Nat.ble a b with
  | true => simp only [cond_true, Obl.holds, true_iff]; exact Nat.le_of_ble_eq_true h
  | false => simp only [cond_false, Obl.holds]; omega

theorem Obl.req_iff (p : Obl) (K : Prop) : p.req K ↔ p.holds ∧ K := by
  induction p generalizing K with
  | and p q ihp ihq => simp only [Obl.req, Obl.holds, ihp, ihq, and_assoc]
  | tt => simp [Obl.req, Obl.holds]
  | _ => rfl

def constV : Value → V
  | .slice none 0 0 => .emp true
  | v => .lit v

def evA (e : Env) : Operand → V
  | .tmp t => Env.get e t
  | .const v => constV v
  | .global g => .lit (.pointer (some ⟨g, 0, none⟩))
  | .func f => .clo f 0 fun _ => .any

def V.toInt : V → Int
  | .lit (.int _ x) => x
  | _ => 0
def V.toBool : V → Bool
  | .lit (.bool b) => b
  | _ => false
def V.isI64 : V → Bool
  | .lit (.int .i64 _) => true
  | _ => false
def V.isBool : V → Bool
  | .lit (.bool _) => true
  | _ => false
/-- One cell. -/
def V.leaf : V → Bool
  | .lit v => v.oneCell'
  | .ints .. | .seq .. | .sl .. | .ptr .. | .at_ .. | .clo .. | .emp .. | .yld .. | .ifc .. | .bnd .. | .full .. | .mp .. => true
  | _ => false

def arith (k : IntKind) (r : Int) : Obl × Value := match k with
  | .i64 => (.inr r, .int .i64 r)
  | k => (.tt, .int k (k.wrap r))

def aBin (op : BinOp) (x y : Value) : Option (Obl × Value) :=
  match x, y with
  | .int k a, .int k' b =>
    bif k == k' then
      match op with
      | .add => some (arith k (a + b))
      | .sub => some (arith k (a - b))
      | .mul => some (arith k (a * b))
      | .quo => some (.and (.ne b 0) (arith k (a.tdiv b)).1, (arith k (a.tdiv b)).2)
      | .rem => some (.ne b 0, .int k (a.tmod b))
      | .eql => some (.tt, .bool (a == b))
      | .neq => some (.tt, .bool (a != b))
      | .lss => some (.tt, .bool (decide (a < b)))
      | .leq => some (.tt, .bool (decide (a ≤ b)))
      | .gtr => some (.tt, .bool (decide (a > b)))
      | .geq => some (.tt, .bool (decide (a ≥ b)))
      | _ => none
    else none
  | _, _ => none

/-- '&', '|', '^', '&^'. -/
def bitI (op : BinOp) (k : IntKind) (a b : Int) : Int := match op with
  | .and => k.wrap (BitVec.ofInt k.bits a &&& BitVec.ofInt k.bits b).toNat
  | .or => k.wrap (BitVec.ofInt k.bits a ||| BitVec.ofInt k.bits b).toNat
  | .xor => k.wrap (BitVec.ofInt k.bits a ^^^ BitVec.ofInt k.bits b).toNat
  | .andNot => k.wrap (BitVec.ofInt k.bits a &&& ~~~BitVec.ofInt k.bits b).toNat
  | _ => 0

/-- Shifts; bits; bools. -/
def aMore (d : TD) (op : BinOp) (x y : Value) : Option (Obl × Value) :=
  match op, x, y with
  | .shl, .int k a, .int _ b => some (.le 0 b, .int k (k.wrap (a * 2 ^ (min b.toNat k.bits))))
  | .shr, .int k a, .int _ b => some (.le 0 b, .int k (a.fdiv (2 ^ (min b.toNat k.bits))))
  | .and, .int k a, .int k' b => bif k == k' then some (.tt, .int k (bitI .and k a b)) else none
  | .or, .int k a, .int k' b => bif k == k' then some (.tt, .int k (bitI .or k a b)) else none
  | .xor, .int k a, .int k' b => bif k == k' then some (.tt, .int k (bitI .xor k a b)) else none
  | .andNot, .int k a, .int k' b => bif k == k' then some (.tt, .int k (bitI .andNot k a b)) else none
  | .eql, .bool a, .bool b => (match d with
    | .bool => some (.tt, .bool (a == b))
    | _ => none)
  | .neq, .bool a, .bool b => (match d with
    | .bool => some (.tt, .bool (!(a == b)))
    | _ => none)
  | _, _, _ => none

def eqLit (d : TD) (x y : V) : Option Bool := match d, x, y with
  | .int _, .lit (.int k a), .lit (.int k' b) => bif k == k' then some (a == b) else none
  | .bool, .lit (.bool a), .lit (.bool b) => some (a == b)
  | _, _, _ => none

def eqFs (T : Tab) (f g : Nat → V) : Nat → List (Nat × Nat) → Option Bool
  | _, [] => some true
  | i, (t, o) :: r => bif Nat.beq o i then (match eqLit (T.row t).d (f i) (g i), eqFs T f g (i + 1) r with
    | some a, some b => some (a && b)
    | _, _ => none) else none

def knownT (i : TI) : Bool := match i.d with
  | .other => false
  | _ => true

/-- '==' on two arrays of one-cell elements. -/
def eqAr (d : TD) (f g : Nat → V) : Nat → Nat → Option Bool
  | _, 0 => some true
  | i, n + 1 => match eqLit d (f i) (g i), eqAr d f g (i + 1) n with
    | some a, some b => some (a && b)
    | _, _ => none

/-- '==' on two structs of one-cell fields. -/
def aggEq (T : Tab) (t n m : Nat) (f g : Nat → V) : Option Bool := match (T.row t).d with
  | .struct fs => bif (T.row t).eq && Nat.beq n fs.length && Nat.beq m fs.length then eqFs T f g 0 fs else none
  | .array l e => bif (T.row t).eq && Nat.beq n l && Nat.beq m l && Nat.beq (T.row e).sz 1 && knownT (T.row e) then eqAr (T.row e).d f g 0 l else none
  | _ => none

def binV (T : Tab) (op : BinOp) (t : Nat) (x y : V) : Option (Obl × V) := match x, y with
  | .lit a, .lit b => (match aBin op a b with
    | some (p, v) => some (p, .lit v)
    | none => match aMore (T.row t).d op a b with
      | some (p, v) => some (p, .lit v)
      | none => none)
  | .agg n f, .agg m g => (match op with
    | .eql => (match aggEq T t n m f g with
      | some b => some (.tt, .bool b)
      | none => none)
    | .neq => (match aggEq T t n m f g with
      | some b => some (.tt, .bool (!b))
      | none => none)
    | _ => none)
  | _, _ => none

def Mem.put (M : Mem) (t : Nat) (o : Ob) : Mem := match M, t with
  | [], 0 => [some o]
  | [], t + 1 => none :: Mem.put [] t o
  | _ :: r, 0 => some o :: r
  | x :: r, t + 1 => x :: Mem.put r t o

/-! 'x == nil' of a slice with elements. -/
def nonEmpty (M : Mem) : V → Option Obl
  | .sl n ver _ len => match M.get n with
    | some ob => some (.and (eqnO ver ob.ver) (.lt 0 len))
    | none => none
  | .ints _ xs => (match xs with
    | [] => none
    | y :: r => some (.lt 0 (y :: r).length))
  | .seq _ _ n _ => some (.lt 0 n)
  | _ => none
/-- A slice without elements of which it is not known whether it is nil. -/
def mayNil : V → Bool
  | .ints _ xs => (match xs with
    | [] => true
    | _ :: _ => false)
  | .emp nl => !nl
  | _ => false
def isSliceT (i : TI) : Bool := match i.d with
  | .slice _ => true
  | _ => false
def isEqB : BinOp → Bool
  | .eql | .neq => true
  | _ => false
def isNilV : V → Bool
  | .emp nl => nl
  | _ => false
def nilV (T : Tab) (op : BinOp) (t : Nat) (M : Mem) (x : V) : Option (Obl × V) := match (T.row t).d, nonEmpty M x with
  | .slice _, none => bif isNilV x then (match op with
    | .eql => some (.tt, .bool true)
    | .neq => some (.tt, .bool false)
    | _ => none) else none
  | .slice _, some p => (match op with
    | .eql => some (p, .bool false)
    | .neq => some (p, .bool true)
    | _ => none)
  | _, _ => none

/-- The content of a new variable, by its type's row. -/
def newCon (i : TI) : Con := match i.d with
  | .array _ _ => .cv 1 fun _ k => constV (i.zero.getD k undef)
  | _ => .one (i.zero.map constV)

def isAggT (i : TI) : Bool := match i.d with
  | .struct _ | .array _ _ => true
  | _ => false

/-- A type that a value in an interface may have. -/
def concT (i : TI) : Bool := match i.d with
  | .other => false
  | .iface => false
  | _ => true

/-- What lies at a pointer, as a value of the type. -/
def loadV' (T : Tab) (M : Mem) (t : Nat) : V → Option (Obl × V)
  | .ptr n ver i o => match M.get n with
    | some ob => bif isAggT (T.row t) then
        some (ldaO ver ob.ver (o + (T.row t).sz) ob.sz, .agg (T.row t).sz fun k => ob.c.f i (o + k))
      else some (ldO ver ob.ver o ob.sz, ob.c.f i o)
    | none => none
  | .at_ sz g o => bif isAggT (T.row t) then
      some (leO (o + (T.row t).sz) sz, .agg (T.row t).sz fun k => g (o + k))
    else some (ltO o sz, g o)
  | _ => none

def loadV (T : Tab) (M : Mem) (t : Nat) (x : V) : Option (Obl × V) := bif knownT (T.row t) then loadV' T M t x else none

/-- One cell of a content written. -/
def Con.set (c : Con) (sz i o : Nat) (v : V) : Option Con := match c with
  | .il xs => bif v.isI64 && Nat.beq o 0 && Nat.beq sz 1 then some (.il (xs.set i v.toInt)) else none
  | .bl xs => bif v.isBool && Nat.beq o 0 && Nat.beq sz 1 then some (.bl (xs.set i v.toBool)) else none
  | .ci n f => bif v.isI64 then some (.ci n fun j k => if j = i ∧ k = o then v.toInt else f j k) else none
  | .cv n f => bif v.leaf then some (.cv n fun j k => if j = i ∧ k = o then v else f j k) else none
  | .one cs => bif v.leaf && Nat.blt o cs.length then some (.one (cs.set o v)) else none
  | .kil xs => bif v.isI64 && Nat.beq o 0 && Nat.beq sz 1 then some (.kil (xs.set i v.toInt)) else none
  | .loop .. => none
  | .mpi _ => none

def storeCellsV (c : Con) (sz i o : Nat) (g : Nat → V) : Nat → Option Con
  | 0 => some c
  | n + 1 => match storeCellsV c sz i o g n with
    | some c' => c'.set sz i (o + n) (g n)
    | none => none

def isArrT (i : TI) : Bool := match i.d with
  | .array _ _ => true
  | _ => false
def Con.isCv : Con → Bool
  | .cv _ _ => true
  | _ => false
/-- A whole array written from a place on. -/
def setArr (c : Con) (sz i o m : Nat) (g : Nat → V) : Con := bif Nat.beq m sz && Nat.beq c.n 1 && Nat.beq i 0 && Nat.beq o 0 then .cv 1 fun _ k => g k
  else .cv c.n fun j k => if j = i ∧ o ≤ k ∧ k < o + m then g (k - o) else c.f j k

def storeV (T : Tab) (M : Mem) (t : Nat) (p x : V) : Option (Obl × V × Mem) := bif knownT (T.row t) then (match p with
  | .ptr n ver i o => match M.get n with
    | some ob =>
      bif isAggT (T.row t) then
        match x with
        | .agg m g => bif isArrT (T.row t) && ob.c.isCv then (bif Nat.beq m (T.row t).sz then some (ldaO ver ob.ver (o + m) ob.sz, .any, M.put n { ob with c := setArr ob.c ob.sz i o m g }) else none)
          else bif Nat.beq m (T.row t).sz && Nat.ble (o + m) ob.sz then
            (match storeCellsV ob.c ob.sz i o g m with | some c' => some (eqnO ver ob.ver, .any, M.put n { ob with c := c' }) | none => none) else none
        | _ => none
      else bif Nat.beq (T.row t).sz 1 then
        (match ob.c.set ob.sz i o x with | some c' => some (ldO ver ob.ver o ob.sz, .any, M.put n { ob with c := c' }) | none => none) else none
    | none => none
  | _ => none) else none

def lenV (M : Mem) : V → Option (Obl × Int)
  | .ints _ xs => some (.tt, (xs.length : Int))
  | .seq _ _ n _ => some (.tt, (n : Int))
  | .sl nm ver _ len => match M.get nm with
    | some ob => some (eqnO ver ob.ver, (len : Int))
    | none => none
  | .emp _ => some (.tt, 0)
  | _ => none

/-- The address of an element. -/
def indexV (T : Tab) (M : Mem) (t : Nat) (x : V) (i : Int) : Option (Obl × V) := match (T.row t).d with
  | .slice e => bif knownT (T.row e) then (match x with
    | .ints _ xs => bif Nat.beq (T.row e).sz 1 then some (.and (.le 0 i) (.lt i xs.length), .at_ 1 (fun _ => .int (xs.getD i.toNat 0)) 0) else none
    | .seq _ sz n f => bif Nat.beq sz (T.row e).sz then some (.and (.le 0 i) (.lt i n), .at_ sz (fun k => f i.toNat k) 0) else none
    | .sl nm ver off len => match M.get nm with
      | some ob => bif Nat.beq ob.sz (T.row e).sz then some (.and (eqnO ver ob.ver) (.and (.le 0 i) (.lt i len)), .ptr nm ver (off + i.toNat) 0) else none
      | none => none
    | _ => none) else none
  | .array n e => bif knownT (T.row e) then (match x with
    | .ptr nm ver i0 o => match M.get nm with
      | some ob => some (.and (eqnO ver ob.ver) (.and (.le 0 i) (.lt i n)), .ptr nm ver i0 (o + i.toNat * (T.row e).sz))
      | none => none
    | .at_ sz g o => some (.and (.le 0 i) (.lt i n), .at_ sz g (o + i.toNat * (T.row e).sz))
    | _ => none) else none
  | _ => none

def sliceV (M : Mem) (sz : Nat) (x : V) (lo hi : Option Int) : Option (Obl × V) := match x with
  | .ints fr xs => bif Nat.beq sz 1 then
      some (.and (.le 0 (lo.getD 0)) (.and (.le (lo.getD 0) (hi.getD xs.length)) (.le (hi.getD xs.length) xs.length)), .ints fr ((xs.drop (lo.getD 0).toNat).take ((hi.getD xs.length).toNat - (lo.getD 0).toNat))) else none
  | .seq fr s n f => bif Nat.beq s sz then
      some (.and (.le 0 (lo.getD 0)) (.and (.le (lo.getD 0) (hi.getD n)) (.le (hi.getD n) n)), .seq fr sz ((hi.getD n).toNat - (lo.getD 0).toNat) fun j k => f ((lo.getD 0).toNat + j) k) else none
  | .sl nm ver off len => match M.get nm with
    | some ob => bif Nat.beq ob.sz sz then
        some (.and (eqnO ver ob.ver) (.and (.le 0 (lo.getD 0)) (.and (.le (lo.getD 0) (hi.getD len)) (.le (hi.getD len) len))), .sl nm ver (off + (lo.getD 0).toNat) ((hi.getD len).toNat - (lo.getD 0).toNat)) else none
    | none => none
  | .emp nl => some (.and (.le 0 (lo.getD 0)) (.and (.le (lo.getD 0) (hi.getD 0)) (.le (hi.getD 0) 0)), .emp nl)
  | _ => none

def optInt (ev : Operand → V) : Option Operand → Option (Option Int)
  | none => some none
  | some x => match ev x with
    | .lit (.int _ i) => some (some i)
    | _ => none

def setAt (l : List V) (o : Nat) (x : V) : List V := match x with
  | .agg n g => (List.range n).foldl (fun l k => l.set (o + k) (g k)) l
  | x => l.set o x

def partOk (T : Tab) (fs : List (Nat × Nat)) (tot i : Nat) (v : V) : Bool :=
  Nat.blt i fs.length && knownT (T.row (fs.getD i (0, 0)).1) && (match v with
    | .agg n _ => Nat.beq n (T.row (fs.getD i (0, 0)).1).sz && Nat.ble ((fs.getD i (0, 0)).2 + n) tot
    | v => v.leaf && Nat.beq (T.row (fs.getD i (0, 0)).1).sz 1 && Nat.blt (fs.getD i (0, 0)).2 tot)

def madeCon (i : TI) (n : Nat) : Con := match i.zero with
  | [.int .i64 0] => .il (List.replicate n 0)
  | [.bool false] => .bl (List.replicate n false)
  | z => .cv n fun _ k => constV (z.getD k undef)

/-- More room than elements: of ints it is known. -/
def madeKil (i : TI) (n m : Nat) : Con := match i.zero with
  | [.int .i64 0] => .kil (List.replicate m 0)
  | _ => madeCon i n

def sameOp : Operand → Operand → Bool
  | .tmp a, .tmp b => Nat.beq a b
  | .const (.int _ a), .const (.int _ b) => a == b
  | _, _ => false

/-- A struct of so many cells; its cells. -/
def V.isAgg (m : Nat) : V → Bool
  | .agg n _ => Nat.beq n m
  | _ => false
def V.cellAt : V → Nat → V
  | .agg _ g, k => g k
  | v, _ => v

/-- An operation without a call. 'nm': the name of what it makes. -/
def aop (T : Tab) (nm : Nat) (o : Op) (ev : Operand → V) (M : Mem) : Option (Obl × V × Mem) := match o with
  | .move x => some (.tt, ev x, M)
  | .assign x => some (.tt, ev x, M)
  | .pick c a b => match ev c with
    | .lit (.bool true) => some (.tt, ev a, M)
    | .lit (.bool false) => some (.tt, ev b, M)
    | _ => none
  | .alloc t => bif knownT (T.row t) && Nat.blt 0 (T.row t).sz then some (.tt, .ptr nm 0 0 0, M.put nm ⟨t, (T.row t).sz, 0, newCon (T.row t)⟩) else none
  | .box t x => match ev x with
    | .agg n g => bif Nat.blt 0 n then some (.tt, .ptr nm 0 0 0, M.put nm ⟨t, n, 0, bif isArrT (T.row t) then .cv 1 fun _ k => g k else .one ((List.range n).map g)⟩) else none
    | v => bif v.leaf then some (.tt, .ptr nm 0 0 0, M.put nm ⟨t, 1, 0, .one [v]⟩) else none
  | .build t parts => match (T.row t).d with
    | .struct fs =>
      bif fs.all (fun q => knownT (T.row q.1)) && parts.toList.all (fun (i, x) => partOk T fs (T.row t).sz i (ev x)) then
        some (.tt, .agg (T.row t).sz fun k => (parts.toList.foldl (fun l (i, x) => setAt l (fs.getD i (0, 0)).2 (ev x)) ((T.row t).zero.map constV)).getD k .any, M) else none
    | _ => none
  | .buildSlice t n parts => match (T.row t).d with
    | .slice e => bif knownT (T.row e) then
      (bif Nat.beq n 0 && parts.isEmpty then some (.tt, .emp false, M) else
      match parts.toList with
      | [(0, x)] => bif Nat.beq n 1 then (match ev x with
        | .agg m g => bif Nat.beq m (T.row e).sz && Nat.blt 0 m && Nat.ble m 1000 then some (.tt, .sl nm 0 0 1, M.put nm ⟨e, m, 0, .cv 1 fun _ k => g k⟩) else none
        | v => bif v.leaf && Nat.beq (T.row e).sz 1 then some (.tt, .sl nm 0 0 1, M.put nm ⟨e, 1, 0, bif v.isI64 then .kil [v.toInt] else bif v.isBool then .bl [v.toBool] else .cv 1 fun _ _ => v⟩) else none) else none
      | ps =>
        bif Nat.beq (ps.map fun p => ev p.2).length n && Nat.beq (T.row e).sz 1 && Nat.blt 0 n && Nat.ble n 1000 && (ps.map fun p => ev p.2).all V.leaf && (ps.map (·.1) == List.range n) then
          (bif (ps.map fun p => ev p.2).all V.isI64 then some (.tt, .sl nm 0 0 n, M.put nm ⟨e, 1, 0, .kil ((ps.map fun p => ev p.2).map V.toInt)⟩)
          else some (.tt, .sl nm 0 0 n, M.put nm ⟨e, 1, 0, .cv n fun j _ => (ps.map fun p => ev p.2).getD j .any⟩))
        else bif Nat.beq (ps.map fun p => ev p.2).length n && Nat.blt 0 (T.row e).sz && Nat.ble (T.row e).sz 1000 && Nat.blt 0 n && Nat.ble n 1000 && (ps.map fun p => ev p.2).all (V.isAgg (T.row e).sz) && (ps.map (·.1) == List.range n) then
          some (.tt, .sl nm 0 0 n, M.put nm ⟨e, (T.row e).sz, 0, .cv n fun j k => ((ps.map fun p => ev p.2).getD j .any).cellAt k⟩)
        else none) else none
    | _ => none
  | .load t x => match loadV T M t (ev x) with
    | some (p, v) => some (p, v, M)
    | none => none
  | .store t x y => storeV T M t (ev x) (ev y)
  | .nilCheck x => match ev x with
    | .ptr a b c d => (match M.get a with
      | some ob => some (eqnO b ob.ver, .ptr a b c d, M)
      | none => none)
    | .at_ a b c => some (.tt, .at_ a b c, M)
    | .clo f n g => some (.tt, .clo f n g, M)
    | .bnd f n g => some (.tt, .bnd f n g, M)
    | _ => none
  | .binOp op t x y _ => bif isNilC y then (match nilV T op t M (ev x) with
      | some (p, v) => some (p, v, M)
      | none => none)
    else match binV T op t (ev x) (ev y) with
      | some (p, v) => some (p, v, M)
      | none => none
  | .unOp op _ x => match op, ev x with
    | .neg, .lit (.int .i64 a) => some (.inr (-a), .int (-a), M)
    | .not, .lit (.bool b) => some (.tt, .bool (!b), M)
    | _, _ => none
  | .convert s d x => match (T.row d).d, ev x, knownT (T.row s) with
    | .int .i64, .lit (.int _ a), true => some (.inr a, .int a, M)
    | .int k, .lit (.int _ a), true => some (.tt, .lit (.int k (k.wrap a)), M)
    | _, _, _ => none
  | .makeFunc (.func fn) first captured => bif first.isEmpty then some (.tt, .clo fn captured.size fun i => (captured.toList.map ev).getD i .any, M)
    else bif captured.isEmpty then some (.tt, .bnd fn first.size fun i => (first.toList.map ev).getD i .any, M) else none
  | .makeInterface t x => bif concT (T.row t) then some (.tt, .ifc t (ev x), M) else none
  | .makeSlice t lo co => match (T.row t).d, ev lo, ev co with
    | .slice e, .lit (.int _ l), .lit (.int _ c) =>
      bif knownT (T.row e) && Nat.blt 0 (T.row e).sz && Nat.blt 0 (T.row e).bs then
        some (.and (.le 0 l) (.and (.le l c) (.le ((T.row e).bs * c) 140737488355328)), .sl nm 0 0 l.toNat,
          M.put nm ⟨e, (T.row e).sz, 0, bif sameOp lo co then madeCon (T.row e) l.toNat else madeKil (T.row e) l.toNat c.toNat⟩)
      else none
    | _, _, _ => none
  | .slice t x lo hi mx => match (T.row t).d, mx, optInt ev lo, optInt ev hi with
    | .slice e, none, some lo, some hi => bif knownT (T.row e) then (match sliceV M (T.row e).sz (ev x) lo hi with
      | some (p, v) => some (p, v, M)
      | none => none) else none
    | .slice e, some y, some none, some (some hi) => bif knownT (T.row e) && Nat.beq (T.row e).sz 1 then (match ev x, ev y with
      | .ints _ xs, .lit (.int _ m) => some (.and (.le 0 hi) (.and (.le hi m) (.and (.le m hi) (.le hi xs.length))), .full (xs.take hi.toNat), M)
      | _, _ => none) else none
    | .array n e, none, some lo, some hi => bif knownT (T.row e) && Nat.beq (T.row e).sz 1 then (match ev x with
      | .at_ sz g o => bif Nat.beq sz n && Nat.beq o 0 && Nat.ble n 1000 && (List.range n).all (fun k => (g k).isI64) then
          some (.and (.le 0 (lo.getD 0)) (.and (.le (lo.getD 0) (hi.getD n)) (.le (hi.getD n) n)), .ints false ((List.range ((hi.getD n).toNat - (lo.getD 0).toNat)).map fun j => (g ((lo.getD 0).toNat + j)).toInt), M) else none
      | _ => none) else none
    | _, _, _, _ => none
  | .fieldAddr s x f => match (T.row s).d with
    | .struct fs => bif Nat.blt f fs.length && knownT (T.row (fs.getD f (0, 0)).1) && Nat.blt 0 (T.row (fs.getD f (0, 0)).1).sz then (match ev x with
      | .ptr n ver i o => (match M.get n with
        | some ob => some (eqnO ver ob.ver, .ptr n ver i (o + (fs.getD f (0, 0)).2), M)
        | none => none)
      | .at_ sz g o => some (.tt, .at_ sz g (o + (fs.getD f (0, 0)).2), M)
      | _ => none) else none
    | _ => none
  | .field t x f => match (T.row t).d, ev x with
    | .struct fs, .agg n g => bif Nat.blt f fs.length && knownT (T.row (fs.getD f (0, 0)).1) && Nat.ble ((fs.getD f (0, 0)).2 + (T.row (fs.getD f (0, 0)).1).sz) n then
        (bif isAggT (T.row (fs.getD f (0, 0)).1) then some (.tt, .agg (T.row (fs.getD f (0, 0)).1).sz fun k => g ((fs.getD f (0, 0)).2 + k), M)
         else bif Nat.beq (T.row (fs.getD f (0, 0)).1).sz 1 then some (.tt, g (fs.getD f (0, 0)).2, M) else none)
      else none
    | _, _ => none
  | .indexAddr t x i => match ev i with
    | .lit (.int _ i) => match indexV T M t (ev x) i with
      | some (p, v) => some (p, v, M)
      | none => none
    | _ => none
  | .extract x i => match ev x with
    | .tup n g => bif Nat.blt i n then some (.tt, g i, M) else none
    | _ => none
  | .index t x i => match (T.row t).d, ev x, ev i with
    | .string, .lit (.string s), .lit (.int _ i) => some (.and (.le 0 i) (.lt i s.size), .lit (.int .u8 ((s.data.getD i.toNat 0).toNat : Int)), M)
    | _, _, _ => none
  | _ => none

/-- What is appended: ints, or cells by element. -/
inductive Src where
  | ints (xs : List Int)
  | cells (n : Nat) (f : Nat → Nat → V)

def Src.n : Src → Nat
  | .ints xs => xs.length
  | .cells n _ => n
def Src.f : Src → Nat → Nat → V
  | .ints xs, j, _ => .int (xs.getD j 0)
  | .cells _ f, j, o => f j o

def srcV (M : Mem) (sz : Nat) (int : Bool) : V → Option (Obl × Src)
  | .ints _ xs => bif Nat.beq sz 1 then some (.tt, .ints xs) else none
  | .seq _ s n f => bif Nat.beq s sz then some (.tt, .cells n f) else none
  | .sl nm ver off len => match M.get nm with
    | some ob => bif Nat.beq ob.sz sz then (match ob.c with
      | .il xs => some (eqnO ver ob.ver, .ints ((xs.drop off).take len))
      | .kil xs => some (eqnO ver ob.ver, .ints ((xs.drop off).take len))
      | c => some (eqnO ver ob.ver, .cells len fun j k => c.f (off + j) k)) else none
    | none => none
  | .emp _ => some (.tt, bif int then .ints [] else .cells 0 fun _ _ => .any)
  | _ => none

def maxI (x y : Int) : Int := if y > x then y else x
def minI (x y : Int) : Int := if y < x then y else x

def aBuiltin (T : Tab) (b : Builtin) (ts : List TypeId) (args : List V) (M : Mem) : Option (Obl × V × Mem) := match b, args, ts with
  | .len, [x], [t] => match (T.row t).d with
    | .slice _ => (match lenV M x with
      | some (p, n) => some (p, .int n, M)
      | none => none)
    | .string => (match x with
      | .lit (.string s) => some (.tt, .int (s.size : Int), M)
      | _ => none)
    | _ => none
  | .cap, [.emp _], [t] => match (T.row t).d with
    | .slice _ => some (.tt, .int 0, M)
    | _ => none
  | .max, [.lit (.int .i64 x), .lit (.int .i64 y)], _ => some (.tt, .int (maxI x y), M)
  | .max, [.lit (.int .i64 x), .lit (.int .i64 y), .lit (.int .i64 z)], _ => some (.tt, .int (maxI (maxI x y) z), M)
  | .min, [.lit (.int .i64 x), .lit (.int .i64 y)], _ => some (.tt, .int (minI x y), M)
  | _, _, _ => none

def srcCon : Src → Con
  | .ints xs => .il xs
  | .cells n f => .cv n f

/-- The content behind an append onto the first 'len' elements. -/
def appCon (c : Con) (len : Nat) : Src → Option Con
  | .ints ys => match c with
    | .il xs => some (.il (xs.take len ++ ys))
    | _ => none
  | .cells m g => match c with
    | .cv _ f => some (.cv (len + m) fun j k => if j < len then f j k else g (j - len) k)
    | _ => none

/-- The content behind an append within room that is known. -/
def kilApp (c : Con) (sz off len : Nat) : Src → Option Con
  | .ints ys => match c with
    | .kil xs => bif Nat.beq sz 1 && Nat.beq off 0 && Nat.blt 0 xs.length && Nat.ble (len + ys.length) xs.length then some (.kil (xs.take len ++ ys ++ xs.drop (len + ys.length))) else none
    | _ => none
  | _ => none

/-- What an append beyond room that is known makes anew. -/
def kilNew (c : Con) (sz off len : Nat) : Src → Option Con
  | .ints ys => match c with
    | .kil xs => bif Nat.beq sz 1 && Nat.beq off 0 && Nat.blt xs.length (len + ys.length) then some (.il (xs.take len ++ ys)) else none
    | _ => none
  | _ => none

def isI64T (i : TI) : Bool := match i.d with
  | .int .i64 => true
  | _ => false

/-- 'append(s, x...)': onto an object, onto a slice without room. -/
def aAppend (T : Tab) (nm e : Nat) (s x : V) (M : Mem) : Option (Obl × V × Mem) :=
  bif knownT (T.row e) && Nat.blt 0 (T.row e).sz && Nat.blt 0 (T.row e).bs then
    (match srcV M (T.row e).sz (isI64T (T.row e)) x with
    | some (p, src) => match s with
      | .emp _ => some (.and p (.le ((T.row e).bs * src.n) 140737488355328), .sl nm 0 0 src.n, M.put nm ⟨e, (T.row e).sz, 0, srcCon src⟩)
      | .sl t ver off len => match M.get t with
        | some ob => bif Nat.beq ob.sz (T.row e).sz && Nat.beq ob.e e then
            (match kilApp ob.c (T.row e).sz off len src with
            | some c => some (.and p (.and (eqnO ver ob.ver) (.le ((T.row e).bs * (len + src.n)) 140737488355328)), .sl t ver 0 (len + src.n), M.put t { ob with c := c })
            | none => match kilNew ob.c (T.row e).sz off len src with
            | some c => some (.and p (.and (eqnO ver ob.ver) (.le ((T.row e).bs * (len + src.n)) 140737488355328)), .sl nm 0 0 (len + src.n), M.put nm ⟨e, (T.row e).sz, 0, c⟩)
            | none => match appCon ob.c len src with
            | some c => some (.and p (.and (eqnO ver ob.ver) (.and (eqnO off 0) (.le ((T.row e).bs * (len + src.n)) 140737488355328))), .sl t (ver + 1) 0 (len + src.n), M.put t { ob with ver := ver + 1, c := c })
            | none => none) else none
        | none => none
      | _ => none
    | none => none) else none

def isZ64 (i : TI) : Bool := match i.zero with
  | [.int .i64 0] => true
  | _ => false
/-- 'append([]int(nil), make([]int, n)...)'. -/
def aMake (T : Tab) (nm t t' : Nat) (s x : V) (M : Mem) : Option (Obl × V × Mem) := match (T.row t).d, (T.row t').d, s, x with
  | .slice e, .int _, .emp true, .lit (.int .i64 n) => bif knownT (T.row e) && Nat.blt 0 (T.row e).sz && Nat.blt 0 (T.row e).bs then
      some (.and (.lt 0 n) (.le ((T.row e).bs * n) 140737488355328), .sl nm 0 0 n.toNat, M.put nm ⟨e, (T.row e).sz, 0, madeCon (T.row e) n.toNat⟩) else none
  | _, _, _, _ => none

/-- 'append(s, x...)' onto ints of which the room is as long: a new row. -/
def fullApp (T : Tab) (e : Nat) (ys : List Int) (x : V) (M : Mem) : Option (Obl × V) :=
  bif knownT (T.row e) && Nat.beq (T.row e).sz 1 && Nat.blt 0 (T.row e).bs && isI64T (T.row e) then (match srcV M 1 true x with
    | some (p, .ints zs) => some (.and p (.and (.lt 0 zs.length) (.le ((T.row e).bs * (ys.length + zs.length)) 140737488355328)), .ints true (ys ++ zs))
    | _ => none) else none
def V.isFull : V → Option (List Int)
  | .full ys => some ys
  | _ => none

/-- The content behind a copy onto the elements from 'off' on. -/
def cpyCon (c : Con) (off : Nat) (ys : List Int) : Option Con := match c with
  | .il xs => some (.il (xs.take off ++ ys ++ xs.drop (off + ys.length)))
  | .kil xs => some (.kil (xs.take off ++ ys ++ xs.drop (off + ys.length)))
  | _ => none
/-- 'copy(s, x)' of ints, onto some room. -/
def aCopy (T : Tab) (e : TypeId) (s x : V) (M : Mem) : Option (Obl × V × Mem) :=
  bif knownT (T.row e) && Nat.beq (T.row e).sz 1 then (match s with
    | .sl t ver off len => match M.get t with
      | some ob => bif Nat.beq ob.sz 1 then (match srcV M (T.row e).sz true x with
        | some (p, .ints ys) => (match cpyCon ob.c off (ys.take len) with
          | some c => some (.and p (.and (eqnO ver ob.ver) (.lt 0 len)), .int ((ys.take len).length : Int), M.put t { ob with c := c })
          | none => none)
        | _ => none) else none
      | none => none
    | _ => none) else none

/-! Maps from int to int. -/
def isMapI (T : Tab) (t : Nat) : Bool := match (T.row t).d with
  | .map k e => (match (T.row k).d, (T.row e).d with
    | .int .i64, .int .i64 => true
    | _, _ => false)
  | _ => false
def lookM : List (Int × Int) → Int → Option Int
  | [], _ => none
  | (k, v) :: r, x => bif x == k then some v else lookM r x
def putM : List (Int × Int) → Int → Int → List (Int × Int)
  | [], x, y => [(x, y)]
  | (k, v) :: r, x, y => bif x == k then (x, y) :: r else (k, v) :: putM r x y
def lookV (es : List (Int × Int)) (k : Int) : Bool → V
  | true => .tup 2 fun q => match q with
    | 0 => .int ((lookM es k).getD 0)
    | _ => .bool (lookM es k).isSome
  | false => .int ((lookM es k).getD 0)
def aMap (T : Tab) (nm : Nat) (o : Op) (ev : Operand → V) (M : Mem) : Option (V × Mem) := match o with
  | .makeMap t none => bif isMapI T t then some (.mp nm, M.put nm ⟨t, 1, 0, .mpi []⟩) else none
  | .lookup t x i ok => (match ev x, ev i with
    | .mp n, .lit (.int .i64 k) => (match M.get n with
      | some ⟨_, _, _, .mpi es⟩ => bif isMapI T t then some (lookV es k ok, M) else none
      | _ => none)
    | _, _ => none)
  | .mapUpdate t m k x => (match ev m, ev k, ev x with
    | .mp n, .lit (.int .i64 k), .lit (.int .i64 y) => (match M.get n with
      | some ⟨e, s, ver, .mpi es⟩ => bif isMapI T t then some (.any, M.put n ⟨e, s, ver, .mpi (putM es k y)⟩) else none
      | _ => none)
    | _, _, _ => none)
  | _ => none

end Go.Tri

/-
  THE ABSTRACT EVALUATOR OVER CODE.
-/
namespace Go.Tri

/-- An object's window as an immutable slice; F: what its cells become. -/
def view (fr : Bool) (ob : Ob) (off len : Nat) (F : V → V) : V := match ob.c with
  | .il xs => bif Nat.beq ob.sz 1 then .ints fr ((xs.drop off).take len) else .any
  | .kil xs => bif Nat.beq ob.sz 1 then .ints fr ((xs.drop off).take len) else .any
  | c => .seq fr ob.sz len fun j k => F (c.f (off + j) k)

/-- The reading of a value as an immutable one: names are looked up; at a depth, with their versions. -/
def byvalN (M : Mem) : Nat → V → V
  | 0, _ => .any
  | d + 1, x => match x with
    | .lit u => .lit u
    | .ints _ xs => .ints false xs
    | .seq _ sz n f => .seq false sz n fun j k => byvalN M d (f j k)
    | .sl t ver off len => match M.get t with
      | some ob => bif Nat.beq ver ob.ver then view false ob off len (byvalN M d) else .any
      | none => .any
    | .ptr t ver i o => match M.get t with
      | some ob => bif Nat.beq ver ob.ver then .at_ ob.sz (fun k => byvalN M d (ob.c.f i k)) o else .any
      | none => .any
    | .at_ sz g o => .at_ sz (fun k => byvalN M d (g k)) o
    | .agg n g => .agg n fun k => byvalN M d (g k)
    | .tup n g => .tup n fun k => byvalN M d (g k)
    | .clo f n g => .clo f n fun k => byvalN M d (g k)
    | .emp nl => .emp nl
    | .any => .any
    | .yld _ => .any
    | .mp _ => .any
    | .ifc ty x => .ifc ty (byvalN M d x)
    | .bnd f n g => .bnd f n fun k => byvalN M d (g k)
    | .full xs => .ints false xs

/-- The same at the top, where the versions are asked for. -/
def byval (M : Mem) (d : Nat) (x : V) : V := match x with
  | .sl t _ off len => match M.get t with
    | some ob => view false ob off len (byvalN M d)
    | none => .any
  | .ptr t _ i o => match M.get t with
    | some ob => .at_ ob.sz (fun k => byvalN M d (ob.c.f i k)) o
    | none => .any
  | x => byvalN M (d + 1) x

/-- The versions that the reading leans on. -/
def verOk (M : Mem) : V → Obl
  | .sl t ver _ _ => match M.get t with
    | some ob => eqnO ver ob.ver
    | none => .tt
  | .ptr t ver _ _ => match M.get t with
    | some ob => eqnO ver ob.ver
    | none => .tt
  | _ => .tt

def verOks (M : Mem) : List V → Obl
  | [] => .tt
  | x :: r => .and (verOk M x) (verOks M r)

/-- An empty slice of ints, as a list. -/
def asInts (T : Tab) (t : Nat) (x : V) : V := match x with
  | .emp nl => match (T.row t).d with
    | .slice e => match (T.row e).d with
      | .int .i64 => .ints true []
      | _ => .emp nl
    | _ => .emp nl
  | x => x

/-- All in memory of the call's own. -/
def Fr : V → Prop
  | .lit _ => True
  | .ints fr _ => fr = true
  | .seq fr sz n f => fr = true ∧ ∀ j k, j < n → k < sz → Fr (f j k)
  | .agg n g => ∀ k, k < n → Fr (g k)
  | .tup n g => ∀ k, k < n → Fr (g k)
  | .clo _ n _ => n = 0
  | .emp _ => True
  | .any => True
  | .ifc _ x => Fr x
  | _ => False

/-- A function with a body of its own. -/
def FnOk (P : Program) (f : FuncId) : Prop := ∃ fn, P.funcs[f]? = some fn ∧ (fn.name == "runtime.NumGoroutine") = false ∧ fn.body.isNone = false

/-- Every machine, in a frame of this make. -/
@[reducible] def FZ (ro : Option Nat) : Fence := { Fence.wide with round := ro }

/-- WHAT A FUNCTION THAT LEAVES ALL OLD MEMORY ALONE COMES TO. -/
@[irreducible] def APure (P : Program) (f : FuncId) (xs : List V) (Q : V → Prop) : Prop := FnOk P f ∧
  ∀ (w : World) (args : Array Value), args.size = xs.length → (∀ i, Rep (fun _ => none) 0 w (xs.getD i .any) (args.getD i undef)) →
    Calls P f args w fun e w' => ∃ v R, e = .returned v ∧ Q R ∧ Fr R ∧ Rep (fun _ => none) w.heap.size w' R v ∧ Evo w (fun _ => none) w' (fun _ => none)

def goodX : Exit → Prop
  | .panic _ | .outgrown => False
  | _ => True

/-- The code's meaning over abstract states ('rd': it may stand in a round of a loop over a function). -/
@[irreducible] def AW (P : Program) (nt nb : Nat) (rd : Bool) (c : Code) (Q : Exit → Env → Mem → Prop) (e : Env) (M : Mem) : Prop :=
  ∀ (ro : Option Nat) (lo base : Nat) (φ : Phi) (w : World) (a : Act), (rd = false → ro = none) → St lo nt nb base φ w M e a →
    c.wpIn (FZ ro) 0 P (fun x a' w' => goodX x ∧ ∃ e' M' φ', Q x e' M' ∧ St lo nt nb base φ' w' M' e' a' ∧ Evo w φ w' φ') a w

/-- A call that may write to named objects ('nb': of what is called at this first name of its own alone; none: at any). -/
@[irreducible] def ACM (P : Program) (f : FuncId) (xs : List V) (M : Mem) (Q : V → Mem → Prop) (nb0 : Option Nat := none) : Prop := FnOk P f ∧
  ∀ (nb base : Nat) (φ : Phi) (w : World) (args : Array Value), (∀ k, nb0 = some k → nb = k) → MemRel nb base φ w M → args.size = xs.length → (∀ i, Rep φ base w (xs.getD i .any) (args.getD i undef)) →
    Calls P f args w fun e w' => ∃ v R M' φ', e = .returned v ∧ Q R M' ∧ MemRel nb base φ' w' M' ∧ Rep φ' base w' R v ∧ Evo w φ w' φ'

/-- A call that makes memory alone, and may hand back what it was handed. -/
@[irreducible] def AImm (P : Program) (f : FuncId) (xs : List V) (Q : V → Prop) : Prop := FnOk P f ∧
  ∀ (nb base : Nat) (φ : Phi) (w : World) (M : Mem) (args : Array Value), MemRel nb base φ w M → args.size = xs.length → (∀ i, Rep φ base w (xs.getD i .any) (args.getD i undef)) →
    Calls P f args w fun e w' => ∃ v R, e = .returned v ∧ Q R ∧ MemRel nb base φ w' M ∧ Rep φ base w' R v ∧ Evo w φ w' φ

/-- A CALL OF A LOOP's OWN yield: one round of it. -/
@[irreducible] def YW (P : Program) (t : Nat) (xs : List V) (M : Mem) (Q : V → Mem → Prop) : Prop :=
  ∀ (nb base : Nat) (φ : Phi) (w : World) (args : Array Value) (r : Row), φ t = some r → MemRel nb base φ w M → args.size = xs.length → (∀ i, Rep φ base w (xs.getD i .any) (args.getD i undef)) →
    r.ver = 0 ∧ ∃ f tmps assign body, (Instr.yield r.g args).run P w = .ok (.round r.g f tmps assign body) w ∧
      RoundIn Fence.wide 0 P r.g f tmps assign body w fun e w' => ∃ v R M' φ', e = .returned v ∧ Q R M' ∧ MemRel nb base φ' w' M' ∧ Rep φ' base w' R v ∧ Evo w φ w' φ'

/-- A method of a type, by its name: a function that takes the value itself. -/
@[irreducible] def MethodIs (P : Program) (ty : TypeId) (m : String) (f : FuncId) : Prop := ∀ (v : Value) (w : World), (method (P.types.size + Made.depth) ty v m).run P w = .ok (f, v) w

def br : Bool → Prop → Prop → Prop
  | true, p, _ => p
  | false, _, q => q

def forceV (v : V) (K : V → Prop) : Prop := match v with
  | .lit u => (match u with
    | .int k n => K (.lit (.int k n))
    | .bool b => K (.lit (.bool b))
    | u => K (.lit u))
  | .ints fr xs => K (.ints fr xs)
  | .seq fr sz n f => K (.seq fr sz n f)
  | .sl t ver off len => K (.sl t ver off len)
  | .ptr t ver i o => K (.ptr t ver i o)
  | .at_ sz g o => K (.at_ sz g o)
  | .agg n g => K (.agg n g)
  | .tup n g => K (.tup n g)
  | .clo f n g => K (.clo f n g)
  | .emp nl => K (.emp nl)
  | .any => K .any
  | .yld t => K (.yld t)
  | .mp t => K (.mp t)
  | .ifc ty x => K (.ifc ty x)
  | .bnd f n g => K (.bnd f n g)
  | .full xs => K (.full xs)

theorem forceV_eq (v : V) (K : V → Prop) : forceV v K = K v := by
  cases v with
  | lit u => cases u <;> rfl
  | _ => rfl

/-! Memories and names are made literal as they are made. -/
def forceNP (n : Nat) (K : Nat → Prop) : Prop := match n with
  | 0 => K 0
  | m + 1 => forceNP m fun m => K (m + 1)
def forceM (M : Mem) (K : Mem → Prop) : Prop := match M with
  | [] => K []
  | o :: r => forceM r fun r => K (o :: r)
def mkOp : Op → Bool
  | .alloc .. | .box .. | .buildSlice .. | .makeSlice .. | .makeMap .. => true
  | .call c => (match c.callee with
    | .builtin .append => true
    | _ => false)
  | _ => false
def memOp : Op → Bool
  | .store .. => true
  | .mapUpdate .. => true
  | .call c => (match c.callee with
    | .builtin .append => true
    | .builtin .copy => true
    | _ => false)
  | o => mkOp o
def forceNo (o : Op) (n : Nat) (K : Nat → Prop) : Prop := bif mkOp o then forceNP n K else K n
def forceMo (o : Op) (M : Mem) (K : Mem → Prop) : Prop := bif memOp o then forceM M K else K M
theorem forceNP_eq : ∀ (n : Nat) (K : Nat → Prop), forceNP n K = K n
  | 0, _ => rfl
  | m + 1, K => by simp only [forceNP]; exact forceNP_eq m _
theorem forceM_eq : ∀ (M : Mem) (K : Mem → Prop), forceM M K = K M
  | [], _ => rfl
  | o :: r, K => by simp only [forceM]; exact forceM_eq r _
theorem forceNo_eq (o : Op) (n : Nat) (K : Nat → Prop) : forceNo o n K = K n := by
  unfold forceNo
  cases mkOp o
  · rfl
  · exact forceNP_eq n K
theorem forceMo_eq (o : Op) (M : Mem) (K : Mem → Prop) : forceMo o M K = K M := by
  unfold forceMo
  cases memOp o
  · rfl
  · exact forceM_eq M K

/-- What is fixed for a function's walk: the program, the types, the functions that write to what they are handed, the temporaries. -/
structure Cx where
  P : Program
  T : Tab
  wr : List FuncId
  nt : Nat
  nb : Nat
  rd : Bool := false

def callV (X : Cx) (f : FuncId) (ts : List TypeId) (xs : List V) (M : Mem) (K : V → Mem → Prop) : Prop :=
  bif X.wr.contains f then ACM X.P f xs M K (some X.nb)
  else (verOks M xs).req (APure X.P f ((xs.zip ts).map fun (x, t) => byval M 4 (asInts X.T t x)) fun R => K R M)

/-- Which function a call comes to, and with what. -/
def calleeW (P : Program) (ev : Operand → V) (c : Call) (K : FuncId → List TypeId → List V → Prop) : Prop := match c.callee with
  | .value f => match ev f with
    | .clo f n g => bif Nat.beq c.args.size c.argTypes.size then K f (c.argTypes.toList ++ List.replicate n 0) (c.args.toList.map ev ++ (List.range n).map g) else False
    | .bnd f n g => bif Nat.beq c.args.size c.argTypes.size then K f (List.replicate n 0 ++ c.argTypes.toList) ((List.range n).map g ++ c.args.toList.map ev) else False
    | _ => False
  | .invoke r m => match ev r with
    | .ifc ty x => bif Nat.beq c.args.size c.argTypes.size then (∃ f, MethodIs P ty m f ∧ K f (0 :: c.argTypes.toList) (x :: c.args.toList.map ev)) else False
    | _ => False
  | .builtin _ => False

/-- One operation, whose guard lets it run. -/
def opW (X : Cx) (nm : Nat) (o : Oper) (e : Env) (M : Mem) (K : V → Mem → Prop) : Prop := match o.op with
  | .call c => match c.callee with
    | .builtin .append => match c.args.toList, c.argTypes.toList with
      | [s, x], [t, t'] => bif Nat.beq t t' then (match (X.T.row t).d with
        | .slice el => (match (evA e s).isFull with
          | some ys => (match fullApp X.T el ys (evA e x) M with
            | some (p, v) => p.req (forceV v fun v => K v M)
            | none => False)
          | none => match aAppend X.T nm el (evA e s) (evA e x) M with
            | some (p, v, M') => p.req (forceV v fun v => K v M')
            | none => False)
        | _ => False) else (match aMake X.T nm t t' (evA e s) (evA e x) M with
          | some (p, v, M') => p.req (forceV v fun v => K v M')
          | none => False)
      | _, _ => False
    | .builtin .copy => match c.args.toList, c.argTypes.toList with
      | [s, x], [t, _] => (match (X.T.row t).d with
        | .slice el => match aCopy X.T el (evA e s) (evA e x) M with
          | some (p, v, M') => p.req (forceV v fun v => K v M')
          | none => False
        | _ => False)
      | _, _ => False
    | .builtin b => match aBuiltin X.T b c.argTypes.toList (c.args.toList.map (evA e)) M with
      | some (p, v, M') => p.req (forceV v fun v => K v M')
      | none => False
    | .value f => match evA e f with
      | .yld t => YW X.P t (c.args.toList.map (evA e)) M K
      | _ => calleeW X.P (evA e) c fun f ts xs => callV X f ts xs M K
    | .invoke _ _ => calleeW X.P (evA e) c fun f ts xs => callV X f ts xs M K
  | .binOp op t x y t2 => match aop X.T nm (.binOp op t x y t2) (evA e) M with
    | some (p, v, M') => p.req (forceV v fun v => K v M')
    | none => bif isNilC y && isSliceT (X.T.row t) && isEqB op && mayNil (evA e x) then K (.bool true) M ∧ K (.bool false) M else False
  | op => match aop X.T nm op (evA e) M with
    | some (p, v, M') => p.req (forceV v fun v => K v M')
    | none => match aMap X.T nm op (evA e) M with
      | some (v, M') => forceV v fun v => K v M'
      | none => False

/-- Which way a guard goes; the slot that it looks at is then known. -/
def guardW (ops : Array Oper) (o : Oper) (e : Env) (run : Env → Prop) (skip : Env → Prop) : Prop := match o.guard with
  | none => run e
  | some (j, want) => match (ops[j]?).bind (·.dst) with
    | none => skip e
    | some d => match Env.get e d with
      | .lit (.bool b) => br b (bif want then run ((d, .bool true) :: e) else skip ((d, .bool true) :: e)) (bif want then skip ((d, .bool false) :: e) else run ((d, .bool false) :: e))
      | .lit (.tuple _) => skip e
      | _ => False

def opsW (X : Cx) (ops : Array Oper) : List Oper → Env → Mem → (Env → Mem → Prop) → Prop
  | [], e, M, K => K e M
  | o :: r, e, M, K => match o.dst with
    | none => guardW ops o e (fun e => forceNo o.op M.length fun nm => opW X nm o e M fun _ M' => forceMo o.op M' fun M' => opsW X ops r e M' K) (fun e => opsW X ops r e M K)
    | some d => guardW ops o e (fun e => forceNo o.op M.length fun nm => opW X nm o e M fun v M' => forceMo o.op M' fun M' => opsW X ops r ((d, v) :: e) M' K) (fun e => opsW X ops r ((d, .un) :: e) M K)

/-- The next piece of code: a walk in one go stops here, so that the kernel sees it as it stands. -/
structure stepK (K : Env → Mem → Prop) (e : Env) (M : Mem) : Prop where
  out : K e M
theorem stepK_in {K : Env → Mem → Prop} {e : Env} {M : Mem} (h : K e M) : stepK K e M := ⟨h⟩
def seqQ (K : Env → Mem → Prop) (Q : Exit → Env → Mem → Prop) : Exit → Env → Mem → Prop
  | .normal, e, M => stepK K e M
  | x, e, M => Q x e M

def blockQ (id : Nat) (Q : Exit → Env → Mem → Prop) : Exit → Env → Mem → Prop
  | .exit id', e, M => bif Nat.beq id' id then Q .normal e M else Q (.exit id') e M
  | x, e, M => Q x e M

/-- THE WALK'S OWN PROP: by recursion on the code; a loop, and a region that draws, stand as what they mean. -/
def awp (X : Cx) : Code → (Exit → Env → Mem → Prop) → Env → Mem → Prop
  | .skip, Q, e, M => Q .normal e M
  | .label _, Q, e, M => Q .normal e M
  | .ret, Q, e, M => Q .ret e M
  | .exit id, Q, e, M => Q (.exit id) e M
  | .seq a b, Q, e, M => awp X a (seqQ (awp X b Q) Q) e M
  | .cond c a b, Q, e, M => match evA e c with
    | .lit (.bool t) => br t (awp X a Q e M) (awp X b Q e M)
    | _ => False
  | .block id a, Q, e, M => awp X a (blockQ id Q) e M
  | .region id ops draw, Q, e, M => bif draw then AW X.P X.nt X.nb X.rd (.region id ops true) Q e M
    else bif ops.toList.all (dstOk X.nt) then opsW X ops ops.toList e M (Q .normal) else False
  | c, Q, e, M => AW X.P X.nt X.nb X.rd c Q e M

def sel (keys : List Nat) (e : Env) : List V := keys.map (Env.get e)

def loopQ (keys : List Nat) (I : List V → Mem → Prop) (mu : List V → Mem → Nat) (n : Nat) (Q : Exit → Env → Mem → Prop) : Exit → Env → Mem → Prop
  | .normal, e, M => I (sel keys e) M ∧ mu (sel keys e) M < n
  | x, e, M => Q x e M

def resV (T : Tab) (e : Env) (M : Mem) : ResultVar → Option (Obl × V)
  | .tmp t => some (.tt, Env.get e t)
  | .cell a t => loadV T M t (Env.get e a)

/-- What is returned, read as an immutable value in memory of the call's own. -/
def ownvalN (M : Mem) : Nat → V → V
  | 0, _ => .any
  | d + 1, x => match x with
    | .lit u => .lit u
    | .ints fr xs => .ints fr xs
    | .seq fr sz n f => .seq fr sz n fun j k => ownvalN M d (f j k)
    | .sl t ver off len => match M.get t with
      | some ob => bif Nat.beq ver ob.ver then view true ob off len (ownvalN M d) else .any
      | none => .any
    | .agg n g => .agg n fun k => ownvalN M d (g k)
    | .tup n g => .tup n fun k => ownvalN M d (g k)
    | .emp nl => .emp nl
    | .ifc ty x => .ifc ty (ownvalN M d x)
    | _ => .any

def ownval (M : Mem) (d : Nat) (x : V) : V := match x with
  | .sl t _ off len => match M.get t with
    | some ob => view true ob off len (ownvalN M d)
    | none => .any
  | x => ownvalN M (d + 1) x

/-- The results of a function: one, or several. -/
def retK (T : Tab) (rs : List (ResultVar × TypeId)) (e : Env) (M : Mem) (Q : V → Prop) : Prop :=
  match rs with
  | [] => Q V.un
  | [(r, t)] => match resV T e M r with
    | some (p, v) => p.req ((verOk M v).req (Fr (asInts T t (ownval M 4 v)) ∧ Q (asInts T t (ownval M 4 v))))
    | none => False
  | [(r, t), (r', t')] => match resV T e M r, resV T e M r' with
    | some (p, v), some (p', v') => p.req (p'.req ((verOk M v).req ((verOk M v').req (Fr (asInts T t (ownval M 4 v)) ∧ Fr (asInts T t' (ownval M 4 v')) ∧
        Q (.tup 2 fun k => match k with | 0 => asInts T t (ownval M 4 v) | _ => asInts T t' (ownval M 4 v'))))))
    | _, _ => False
  | [(r, t), (r', t'), (r2, t2)] => match resV T e M r, resV T e M r', resV T e M r2 with
    | some (p, v), some (p', v'), some (p2, v2) => p.req (p'.req (p2.req ((verOk M v).req ((verOk M v').req ((verOk M v2).req (Fr (asInts T t (ownval M 4 v)) ∧ Fr (asInts T t' (ownval M 4 v')) ∧ Fr (asInts T t2 (ownval M 4 v2)) ∧
        Q (.tup 3 fun k => match k with | 0 => asInts T t (ownval M 4 v) | 1 => asInts T t' (ownval M 4 v') | _ => asInts T t2 (ownval M 4 v2))))))))
    | _, _, _ => False
  | _ => False

def retQ (T : Tab) (rs : List (ResultVar × TypeId)) (Q : V → Prop) : Exit → Env → Mem → Prop
  | .normal, e, M => retK T rs e M Q
  | .ret, e, M => retK T rs e M Q
  | _, _, _ => False

end Go.Tri

/-
  SOUNDNESS, FIRST PART: memory steps (a new object, a store), operands.
-/
namespace Go.Tri
variable {lo : Nat}

theorem Mem.get_put_same (M : Mem) (t : Nat) (o : Ob) : (M.put t o).get t = some o := by
  induction t generalizing M with
  | zero => cases M <;> simp [Mem.put, Mem.get]
  | succ t ih =>
    cases M with
    | nil => have := ih []; simpa [Mem.put, Mem.get] using this
    | cons x r => have := ih r; simpa [Mem.put, Mem.get] using this

theorem Mem.get_put_other (M : Mem) {t s : Nat} (h : s ≠ t) (o : Ob) : (M.put t o).get s = M.get s := by
  induction t generalizing M s with
  | zero =>
    cases s with
    | zero => exact absurd rfl h
    | succ s => cases M <;> simp [Mem.put, Mem.get]
  | succ t ih =>
    cases s with
    | zero => cases M <;> simp [Mem.put, Mem.get]
    | succ s =>
      have hs : s ≠ t := fun e => h (by rw [e])
      cases M with
      | nil => have := ih [] hs; simpa [Mem.put, Mem.get] using this
      | cons x r => have := ih r hs; simpa [Mem.put, Mem.get] using this

def Phi.upd (φ : Phi) (t : Nat) (r : Row) : Phi := fun s => if s = t then some r else φ s

theorem Phi.upd_same (φ : Phi) (t : Nat) (r : Row) : φ.upd t r t = some r := by simp [Phi.upd]
theorem Phi.upd_other (φ : Phi) {t s : Nat} (r : Row) (h : s ≠ t) : φ.upd t r s = φ s := by simp [Phi.upd, h]

theorem ORel.evo {φ φ' : Phi} {base : Nat} {w w' : World} {r : Row} {o : Ob} (h : ORel φ base w r o) (hv : Evo w φ w' φ') (hb : 0 < r.cap → w'.heap[r.g]? = w.heap[r.g]?) : ORel φ' base w' r o := by
  obtain ⟨h1, h2, h3, h4, h5, h6, h7, h8, h9, hrow⟩ := h
  refine ⟨h1, h2, h3, h4, h5, h6, h7, fun hp => Nat.lt_of_lt_of_le (h8 hp) hv.size, Con.Spec_evo hv hb h9, fun hC hp => ?_⟩
  obtain ⟨cur, g1, g2, g3⟩ := hrow hC hp
  refine ⟨cur, (hb hp).trans g1, g2, fun j k hj hk => ?_⟩
  obtain ⟨c, e1, e2, e3⟩ := g3 j k hj hk
  exact ⟨c, e1, e2, Rep.evo hv e3⟩

/-- What an operation comes to. -/
structure Step (nb base nm : Nat) (φ : Phi) (w : World) (v : V) (M' : Mem) (cv : Value) (w' : World) (φ' : Phi) : Prop where
  mem : MemRel nb base φ' w' M'
  rep : Rep φ' base w' v cv
  evo : Evo w φ w' φ'
  dom : ∀ t r, φ' t = some r → (∃ r0, φ t = some r0) ∨ t = nm

theorem Step.same {nb base nm : Nat} {φ : Phi} {w : World} {M : Mem} {v : V} {cv : Value} (hm : MemRel nb base φ w M) (hr : Rep φ base w v cv) : Step nb base nm φ w v M cv w φ :=
  ⟨hm, hr, Evo.refl w φ, fun _ r h => .inl ⟨r, h⟩⟩

/-- A NEW OBJECT. -/
theorem step_new {nb base nm : Nat} {φ : Phi} {w : World} {M : Mem} (hm : MemRel nb base φ w M) (hn : φ nm = none) (e : TypeId) (cur : Array Value) (cap sz : Nat) (o : Ob)
    (hpos : 0 < sz) (hle : o.c.n ≤ cap) (hmax : cap ≤ maxLen) (hsz : o.sz = sz) (he : o.e = e) (hver : o.ver = 0) (hcur : cur.size = cap * sz)
    (hc : ∀ j k, j < o.c.n → k < sz → ∃ c, cur[j * sz + k]? = some c ∧ c.oneCell' = true ∧ Rep φ base w (o.c.f j k) c)
    (hC : o.c.isC = true := by first | rfl | (simp only []; split <;> rfl) | (apply Con.isC_of_n; omega)) (hkc : o.c.kc = true → cap = o.c.n := by first | exact fun h => nomatch h | (simp only []; split <;> exact fun h => nomatch h)) :
    MemRel nb base (φ.upd nm ⟨w.heap.size, cap, o.c.n, sz, e, 0⟩) (w.alloc (.cells cur e)) (M.put nm o) ∧ Evo w φ (w.alloc (.cells cur e)) (φ.upd nm ⟨w.heap.size, cap, o.c.n, sz, e, 0⟩) ∧
      (∀ t r, φ.upd nm ⟨w.heap.size, cap, o.c.n, sz, e, 0⟩ t = some r → (∃ r0, φ t = some r0) ∨ t = nm) := by
  have hevo : Evo w φ (w.alloc (.cells cur e)) (φ.upd nm ⟨w.heap.size, cap, o.c.n, sz, e, 0⟩) := by
    refine ⟨rfl, rfl, rfl, by simp, fun b hb _ => heap_alloc_old w _ hb, fun t r ht hcp hlt hnl => ?_, fun t r ht => ?_, (by first | exact Nat.le_refl _ | exact Nat.le_succ _)⟩
    · by_cases h : t = nm
      · subst h
        rw [Phi.upd_same] at ht
        cases ht
        exact absurd hlt (by simp)
      · rw [Phi.upd_other _ _ h] at ht
        exact hnl t r ht hcp rfl
    · have h : t ≠ nm := fun h => by subst h; rw [hn] at ht; cases ht
      exact ⟨r, by rw [Phi.upd_other _ _ h]; exact ht, rfl, rfl, Nat.le_refl _, fun _ => rfl⟩
  refine ⟨⟨fun t r ht => ?_, fun t t' r r' ht ht' hp hp' hg => ?_, fun t r ht hnb hp => ?_, by have := hm.le; simp; omega⟩, hevo, fun t r ht => ?_⟩
  · by_cases h : t = nm
    · subst h
      rw [Phi.upd_same] at ht
      cases ht
      refine ⟨o, Mem.get_put_same M t o, rfl, hver, hsz, he, hpos, hle, hmax, fun _ => by simp, Con.Spec_of hC hkc, fun _ _ => ⟨cur, heap_alloc_new w _, hcur, fun j k hj hk => ?_⟩⟩
      obtain ⟨c, e1, e2, e3⟩ := hc j k hj hk
      exact ⟨c, e1, e2, Rep.evo hevo e3⟩
    · rw [Phi.upd_other _ _ h] at ht
      obtain ⟨o', h1, h2⟩ := hm.obj t r ht
      exact ⟨o', by rw [Mem.get_put_other M h]; exact h1, h2.evo hevo (fun hp => heap_alloc_old w _ (hm.lt ht hp))⟩
  · by_cases h : t = nm <;> by_cases h' : t' = nm
    · rw [h, h']
    · subst h
      rw [Phi.upd_same] at ht
      rw [Phi.upd_other _ _ h'] at ht'
      cases ht
      have := hm.lt ht' hp'
      simp only at hg
      omega
    · subst h'
      rw [Phi.upd_same] at ht'
      rw [Phi.upd_other _ _ h] at ht
      cases ht'
      have := hm.lt ht hp
      simp only at hg
      omega
    · rw [Phi.upd_other _ _ h] at ht
      rw [Phi.upd_other _ _ h'] at ht'
      exact hm.inj t t' r r' ht ht' hp hp' hg
  · by_cases h : t = nm
    · subst h
      rw [Phi.upd_same] at ht
      cases ht
      exact hm.le
    · rw [Phi.upd_other _ _ h] at ht
      exact hm.own t r ht hnb hp
  · by_cases h : t = nm
    · exact .inr h
    · rw [Phi.upd_other _ _ h] at ht
      exact .inl ⟨r, ht⟩

/-- ONE CELL OF AN OBJECT WRITTEN. -/
theorem step_set {nb base : Nat} {φ : Phi} {w : World} {M : Mem} (hm : MemRel nb base φ w M) {t : Nat} {r : Row} {o : Ob} (ht : φ t = some r) (ho : M.get t = some o) {i k : Nat} (hi : i < r.n) (hk : k < r.sz)
    {x : V} {c : Value} (hx : Rep φ base w x c) (h1 : c.oneCell' = true) (c' : Con) (hn : c'.n = o.c.n) (hkc : c'.kc = o.c.kc)
    (hc : ∀ j l, j < r.n → l < r.sz → (j = i ∧ l = k → c'.f j l = x) ∧ (¬(j = i ∧ l = k) → c'.f j l = o.c.f j l)) :
    MemRel nb base φ (w.setCell ⟨r.g, i * r.sz + k, none⟩ c) (M.put t { o with c := c' }) ∧ Evo w φ (w.setCell ⟨r.g, i * r.sz + k, none⟩ c) φ := by
  have hcp : 0 < r.cap := by
    obtain ⟨o', g1, g2⟩ := hm.obj t r ht
    have := g2.le
    omega
  have hevo : Evo w φ (w.setCell ⟨r.g, i * r.sz + k, none⟩ c) φ := by
    refine ⟨rfl, rfl, rfl, by simp, fun b _ hnl => heap_setCell_other w _ b c (fun e => hnl t r ht hcp e.symm), fun t r ht hcp _ hnl => hnl t r ht hcp rfl, fun t r ht => ⟨r, ht, rfl, rfl, Nat.le_refl _, fun _ => rfl⟩, (by first | exact Nat.le_refl _ | exact Nat.le_succ _)⟩
  refine ⟨⟨fun s r' hs => ?_, hm.inj, hm.own, by simpa using hm.le⟩, hevo⟩
  by_cases h : s = t
  · subst h
    rw [ht] at hs
    cases hs
    obtain ⟨o', g1, g2⟩ := hm.obj s r ht
    rw [ho] at g1
    cases g1
    obtain ⟨k1, k2, k3, k4, k5, k6, k7, k8, k9, krow⟩ := g2
    obtain ⟨cur, q1, q2, q3⟩ := krow (Con.isC_of_n (by omega)) hcp
    have hin : i * r.sz + k < cur.size := by
      rw [q2]
      calc i * r.sz + k < i * r.sz + r.sz := by omega
        _ = (i + 1) * r.sz := by rw [Nat.succ_mul]
        _ ≤ r.cap * r.sz := Nat.mul_le_mul_right _ (by omega)
    refine ⟨_, Mem.get_put_same M s _, hn.trans k1, k2, k3, k4, k5, k6, k7, fun hp => by simpa using k8 hp, Con.Spec_of (Con.isC_of_n (by show 0 < c'.n; omega)) (fun h => by
      have h : o.c.kc = true := by rw [← hkc]; exact h
      cases hoc : o.c with
      | kil => rw [hoc] at k9; exact k9
      | _ => rw [hoc] at h; cases h), fun _ _ => ⟨cur.setIfInBounds (i * r.sz + k) c, ?_, by simpa using q2, fun j l hj hl => ?_⟩⟩
    · exact heap_setCell_same w r.g (i * r.sz + k) cur r.e c q1
    · obtain ⟨c0, e1, e2, e3⟩ := q3 j l hj hl
      by_cases hjl : j = i ∧ l = k
      · obtain ⟨rfl, rfl⟩ := hjl
        refine ⟨c, by simp [hin], h1, ?_⟩
        rw [show ({ o with c := c' } : Ob).c.f j l = x from (hc j l hj hl).1 ⟨rfl, rfl⟩]
        exact Rep.evo hevo hx
      · have hne : i * r.sz + k ≠ j * r.sz + l := by
          intro he
          have a1 : (i * r.sz + k) / r.sz = i := by rw [Nat.mul_comm, Nat.mul_add_div k5, Nat.div_eq_of_lt hk]; rfl
          have a2 : (j * r.sz + l) / r.sz = j := by rw [Nat.mul_comm, Nat.mul_add_div k5, Nat.div_eq_of_lt hl]; rfl
          have e : i = j := by rw [← a1, ← a2, he]
          subst e
          exact hjl ⟨rfl, by omega⟩
        refine ⟨c0, by rw [Array.getElem?_setIfInBounds_ne hne]; exact e1, e2, ?_⟩
        rw [show ({ o with c := c' } : Ob).c.f j l = o.c.f j l from (hc j l hj hl).2 hjl]
        exact Rep.evo hevo e3
  · obtain ⟨o', g1, g2⟩ := hm.obj s r' hs
    refine ⟨o', by rw [Mem.get_put_other M h]; exact g1, g2.evo hevo (fun hp => heap_setCell_other w _ _ c (fun e => h (hm.inj s t r' r hs ht hp hcp e)))⟩

/-! ## Operands -/

theorem Rep.constV (φ : Phi) (base : Nat) (w : World) (v : Value) : Rep φ base w (constV v) v := by
  unfold Tri.constV
  split
  · exact ⟨none, rfl, fun _ => rfl⟩
  · rfl

theorem St.eval {nt nb base : Nat} {φ : Phi} {w : World} {M : Mem} {e : Env} {a : Act} (h : St lo nt nb base φ w M e a) (x : Operand) : Rep φ base w (evA e x) (a.eval x) := by
  cases x with
  | tmp t => exact h.slots t
  | const v => exact Rep.constV φ base w v
  | global g => rfl
  | func f => exact ⟨#[], rfl, rfl, fun i hi => absurd hi (by omega)⟩

theorem St.put {nt nb base nm : Nat} {φ φ' : Phi} {w w' : World} {M M' : Mem} {e : Env} {a : Act} {v : V} {cv : Value} (h : St lo nt nb base φ w M e a) (hs : Step nb base nm φ w v M' cv w' φ') (d : Tmp) (hd : d < nt) :
    St lo nt nb base φ' w' M' ((d, v) :: e) (a.put (some d) cv) := by
  refine ⟨hs.mem, h.dfr.evo hs.evo, Nat.le_trans h.low hs.evo.size, by simp [Act.put, h.size], fun i => ?_⟩
  by_cases hi : d = i
  · subst hi
    simp only [Env.get, if_true, Act.put]
    rw [show (a.tmps.setIfInBounds d cv).getD d undef = cv from by simp [Array.getD, h.size, hd]]
    exact hs.rep
  · simp only [Env.get, if_neg hi, Act.put]
    rw [show (a.tmps.setIfInBounds d cv).getD i undef = a.tmps.getD i undef from by
      simp only [Array.getD, Array.size_setIfInBounds]
      split
      · rw [Array.getInternal_eq_getElem, Array.getElem_setIfInBounds_ne _ hi]; rfl
      · rfl]
    exact Rep.evo hs.evo (h.slots i)

theorem St.put_none {nt nb base nm : Nat} {φ φ' : Phi} {w w' : World} {M M' : Mem} {e : Env} {a : Act} {v : V} {cv : Value} (h : St lo nt nb base φ w M e a) (hs : Step nb base nm φ w v M' cv w' φ') :
    St lo nt nb base φ' w' M' e (a.put none cv) := h.evo hs.evo hs.mem

end Go.Tri

/-
  SOUNDNESS, SECOND PART: the operations.
-/
namespace Go.Tri
variable {lo : Nat}
open Go.RowKit

def convD (P : Program) (t : TypeId) : TD := match P.underlying t with
  | some (.int k) => .int k
  | some .bool => .bool
  | some .string => .string
  | some (.slice e) => .slice e
  | some (.struct fs) => .struct (fs.toList.map fun f => (f.type, f.offset))
  | some (.array n e) => .array n e
  | some (.pointer e) => .pointer e
  | some (.func _ _ _) => .func
  | some (.interface _) => .iface
  | some (.map k e) => .map k e
  | _ => .other

/-- '==' on the struct goes by its fields. -/
def eqT (P : Program) (t : TypeId) : Bool := match P.underlying t with
  | some (.struct fs) => !P.eqGuardType P.depth t && !P.stoodInHeld t && fs.toList.all fun f => f.name != "_"
  | some (.array _ _) => !P.eqGuardType P.depth t
  | _ => false

def zOk : TD → Value → Bool
  | .int k, .int k' n => k == k' && n == 0
  | .int _, _ => false
  | _, _ => true
def mkRow (P : Program) (t : TypeId) : TI := match P.info? t with
  | some i => match i.zero with
    | some z => bif Nat.beq z.cells.size i.size && z.cells.all Value.oneCell' && zOk (convD P t) z then ⟨convD P t, i.size, i.bytes, z.cells.toList, eqT P t⟩ else ⟨.other, 0, 0, [], false⟩
    | none => ⟨.other, 0, 0, [], false⟩
  | none => ⟨.other, 0, 0, [], false⟩

/-- The table is the program's. -/
def TabOk (P : Program) (T : Tab) : Prop := ∀ t, (T.row t).d = .other ∨ T.row t = mkRow P t

theorem TabOk.of (P : Program) (T : Tab) (h : T = (List.range T.length).map (mkRow P)) : TabOk P T := by
  intro t
  by_cases ht : t < T.length
  · right
    rw [h]
    simp [Tab.row, List.getD, ht]
  · left
    simp [Tab.row, List.getD, List.getElem?_eq_none (Nat.le_of_not_lt ht)]

theorem addr_add (b off n : Nat) : (⟨b, off, none⟩ : Addr).add n = ⟨b, off + n, none⟩ := by
  unfold Addr.add
  split
  · next h => subst h; rfl
  · rfl

section
variable {P : Program} {T : Tab}

structure RowIs (P : Program) (r : TI) (t : TypeId) (i : TypeInfo) (z : Value) : Prop where
  info : P.info? t = some i
  zero : i.zero = some z
  d : r.d = convD P t
  sz : r.sz = i.size
  bs : r.bs = i.bytes
  zs : r.zero = z.cells.toList
  zsz : z.cells.size = i.size
  one : ∀ c ∈ z.cells, c.oneCell' = true
  eq : r.eq = eqT P t
  zint : ∀ k, convD P t = .int k → z = .int k 0

theorem TabOk.is (h : TabOk P T) {t : TypeId} (hd : (T.row t).d ≠ .other) : ∃ i z, RowIs P (T.row t) t i z := by
  have h1 := (h t).resolve_left hd
  unfold mkRow at h1
  cases hi : P.info? t with
  | none => rw [hi] at h1; rw [h1] at hd; exact absurd rfl hd
  | some i =>
    rw [hi] at h1
    simp only at h1
    cases hz : i.zero with
    | none => rw [hz] at h1; simp only at h1; rw [h1] at hd; exact absurd rfl hd
    | some z =>
      rw [hz] at h1
      simp only at h1
      cases hb : (Nat.beq z.cells.size i.size && z.cells.all Value.oneCell' && zOk (convD P t) z) with
      | false => rw [hb] at h1; rw [h1] at hd; exact absurd rfl hd
      | true =>
        rw [hb] at h1
        simp only [cond_true] at h1
        simp only [Bool.and_eq_true] at hb
        exact ⟨i, z, hi, hz, by rw [h1], by rw [h1], by rw [h1], by rw [h1], Nat.eq_of_beq_eq_true hb.1.1, fun c hc => Array.all_eq_true_iff_forall_mem.1 hb.1.2 c hc, by rw [h1], fun k hk => by
          have h2 := hb.2
          rw [hk] at h2
          cases z with
          | int k' n =>
            simp only [zOk, Bool.and_eq_true, beq_iff_eq] at h2
            rw [h2.1, h2.2]
          | _ => cases h2⟩

theorem und_map {t k e : TypeId} (h : convD P t = .map k e) : P.underlying t = some (.map k e) := by
  unfold convD at h
  split at h <;> cases h
  assumption

theorem und_slice {t e : TypeId} (h : convD P t = .slice e) : P.underlying t = some (.slice e) := by
  unfold convD at h
  split at h <;> cases h
  assumption
theorem und_string {t : TypeId} (h : convD P t = .string) : P.underlying t = some .string := by
  unfold convD at h
  split at h <;> first | assumption | cases h
theorem und_int {t : TypeId} {k : IntKind} (h : convD P t = .int k) : P.underlying t = some (.int k) := by
  unfold convD at h
  split at h <;> cases h
  assumption
theorem und_struct {t : TypeId} {fs : List (Nat × Nat)} (h : convD P t = .struct fs) : ∃ f, P.underlying t = some (.struct f) ∧ f.toList.map (fun f => (f.type, f.offset)) = fs := by
  unfold convD at h
  split at h <;> cases h
  exact ⟨_, by assumption, rfl⟩
theorem und_array {t e : TypeId} {n : Nat} (h : convD P t = .array n e) : P.underlying t = some (.array n e) := by
  unfold convD at h
  split at h <;> cases h
  assumption

/-- What 'isAgg' of the model says. -/
theorem run_isAgg {t : TypeId} {i : TypeInfo} {z : Value} (hr : RowIs P (T.row t) t i z) (hd : (T.row t).d ≠ .other) (w : World) : (isAgg t).run P w = .ok (isAggT (T.row t)) w := by
  have hdd := hr.d
  unfold isAgg isAggT
  cases hc : (T.row t).d with
  | other => exact absurd hc hd
  | int k => rw [hc] at hdd; simp [run_underlying (und_int hdd.symm)]
  | bool =>
    rw [hc] at hdd
    have : P.underlying t = some .bool := by unfold convD at hdd; split at hdd <;> cases hdd; assumption
    simp [run_underlying this]
  | string =>
    rw [hc] at hdd
    have : P.underlying t = some .string := by unfold convD at hdd; split at hdd <;> cases hdd; assumption
    simp [run_underlying this]
  | slice e => rw [hc] at hdd; simp [run_underlying (und_slice hdd.symm)]
  | struct fs =>
    rw [hc] at hdd
    obtain ⟨f, hf, _⟩ := und_struct hdd.symm
    simp [run_underlying hf]
  | array n e => rw [hc] at hdd; simp [run_underlying (und_array hdd.symm)]
  | map k e => rw [hc] at hdd; simp [run_underlying (und_map hdd.symm)]
  | pointer e =>
    rw [hc] at hdd
    have : P.underlying t = some (.pointer e) := by unfold convD at hdd; split at hdd <;> cases hdd; assumption
    simp [run_underlying this]
  | func =>
    rw [hc] at hdd
    have : ∃ a b c, P.underlying t = some (.func a b c) := by unfold convD at hdd; split at hdd <;> cases hdd; exact ⟨_, _, _, by assumption⟩
    obtain ⟨a, b, c, hf⟩ := this
    simp [run_underlying hf]
  | iface =>
    rw [hc] at hdd
    have : ∃ a, P.underlying t = some (.interface a) := by unfold convD at hdd; split at hdd <;> cases hdd; exact ⟨_, by assumption⟩
    obtain ⟨a, hf⟩ := this
    simp [run_underlying hf]

theorem run_loadVar_agg {t : TypeId} {i : TypeInfo} (hi : P.info? t = some i) (w : World) (b off : Nat) (cs : List Value) (hl : cs.length = i.size)
    (ha : (isAgg t).run P w = .ok true w) (h : ∀ j u, cs[j]? = some u → w.cell? ⟨b, off + j, none⟩ = some u) :
    (loadVar t ⟨b, off, none⟩).run P w = .ok (.agg cs.toArray) w := by
  have hc := run_loadCells_list (P := P) w ⟨b, off, none⟩ cs (fun j u hj => by rw [addr_add]; exact h j u hj)
  rw [hl] at hc
  simp [loadVar, ha, sizeOf, typeInfo, hi, hc]

theorem run_loadVar_leaf {t : TypeId} (w : World) (a : Addr) (u : Value) (ha : (isAgg t).run P w = .ok false w) (h : w.cell? a = some u) : (loadVar t a).run P w = .ok u w := by
  simp [loadVar, ha, run_load, h]

/-- The cells of a piece, as a list. -/
theorem cells_list {φ : Phi} {base : Nat} {w : World} {b off m : Nat} {g : Nat → V} (h : ∀ k, k < m → ∃ c, w.cell? ⟨b, off + k, none⟩ = some c ∧ c.oneCell' = true ∧ Rep φ base w (g k) c) :
    ∃ cs : List Value, cs.length = m ∧ (∀ j u, cs[j]? = some u → w.cell? ⟨b, off + j, none⟩ = some u) ∧ (∀ k, k < m → ∃ c, cs[k]? = some c ∧ c.oneCell' = true ∧ Rep φ base w (g k) c) := by
  refine ⟨(List.range m).map fun k => (w.cell? ⟨b, off + k, none⟩).getD undef, by simp, fun j u hj => ?_, fun k hk => ?_⟩
  · have hjm : j < m := by
      have := (List.getElem?_eq_some_iff.1 hj).1
      simpa using this
    obtain ⟨c, e, _⟩ := h j hjm
    simp only [List.getElem?_map, List.getElem?_range hjm, Option.map_some, Option.some.injEq, e, Option.getD_some] at hj
    rw [e, hj]
  · obtain ⟨c, e1, e2, e3⟩ := h k hk
    exact ⟨c, by simp [hk, e1], e2, e3⟩

theorem knownT_ne {i : TI} (h : knownT i = true) : i.d ≠ .other := by
  intro e
  simp [knownT, e] at h

structure RunsTo (P : Program) (nb base nm : Nat) (φ : Phi) (w : World) (v : V) (M' : Mem) (r : Result Next) : Prop where
  ex : ∃ cv w' φ', (r = .ok (.value cv) w' ∨ (r = .ok .skip w' ∧ cv = undef)) ∧ Step nb base nm φ w v M' cv w' φ'

theorem loadV_ok (hT : TabOk P T) {nb base : Nat} {φ : Phi} {w : World} {M : Mem} (hm : MemRel nb base φ w M) {t : TypeId} {x v : V} {cx : Value} {p : Obl} (hx : Rep φ base w x cx)
    (h : loadV T M t x = some (p, v)) (hp : p.holds) : ∃ cv, (Instr.loadAt t cx).run P w = .ok cv w ∧ Rep φ base w v cv := by
  have hk : knownT (T.row t) = true := by
    cases hk : knownT (T.row t) with
    | true => rfl
    | false => simp [loadV, hk] at h
  have hd := knownT_ne hk
  simp only [loadV, hk, cond_true] at h
  obtain ⟨i, z, hr⟩ := hT.is hd
  have hag := run_isAgg hr hd w
  cases x with
  | ptr n ver i' o =>
    obtain ⟨r, hrr, _, hle, hv⟩ := hx
    obtain ⟨ob, ho, hrel⟩ := hm.obj n r hrr
    simp only [loadV', ho] at h
    cases ha : isAggT (T.row t) with
    | true =>
      simp only [ha, cond_true] at h
      · simp only [Option.some.injEq, Prod.mk.injEq] at h
        obtain ⟨rfl, rfl⟩ := h
        obtain ⟨hver, hb⟩ := ldaO_holds.1 hp
        obtain ⟨rfl, hi⟩ := hv (by rw [← hrel.ver, hver])
        have hbb : o + (T.row t).sz ≤ r.sz := by rw [← hrel.sz]; exact hb
        obtain ⟨cs, q1, q2, q3⟩ := cells_list (φ := φ) (base := base) (w := w) (b := r.g) (off := i' * r.sz + o) (m := (T.row t).sz) (g := fun k => ob.c.f i' (o + k)) (fun k hk => by
          obtain ⟨c, e1, e2, e3⟩ := hrel.cell hi (show o + k < r.sz by omega)
          exact ⟨c, by rw [Nat.add_assoc]; exact e1, e2, e3⟩)
        have := run_loadVar_agg (P := P) hr.info w r.g (i' * r.sz + o) cs (by rw [q1, hr.sz]) (by rw [hag, ha]) q2
        refine ⟨_, by simpa [Instr.loadAt, Instr.sureAddr] using this, cs.toArray, rfl, by simp [q1], fun k hk => ?_⟩
        obtain ⟨c, e1, e2, e3⟩ := q3 k hk
        exact ⟨c, by simpa using e1, e2, e3⟩
    | false =>
      simp only [ha, cond_false] at h
      simp only [Option.some.injEq, Prod.mk.injEq] at h
      obtain ⟨rfl, rfl⟩ := h
      obtain ⟨hver, hb⟩ := ldO_holds.1 hp
      obtain ⟨rfl, hi⟩ := hv (by rw [← hrel.ver, hver])
      have hbb : o < r.sz := by rw [← hrel.sz]; exact hb
      obtain ⟨c, e1, e2, e3⟩ := hrel.cell hi hbb
      have := run_loadVar_leaf (P := P) (t := t) w ⟨r.g, i' * r.sz + o, none⟩ c (by rw [hag, ha]) e1
      exact ⟨c, by simpa [Instr.loadAt, Instr.sureAddr] using this, e3⟩
  | at_ sz g o =>
    obtain ⟨b, off, rfl, h0, h1, h2⟩ := hx
    simp only [loadV'] at h
    cases ha : isAggT (T.row t) with
    | true =>
      simp only [ha, cond_true] at h
      · simp only [Option.some.injEq, Prod.mk.injEq] at h
        obtain ⟨rfl, rfl⟩ := h
        have hbb : o + (T.row t).sz ≤ sz := leO_holds.1 hp
        obtain ⟨cs, q1, q2, q3⟩ := cells_list (φ := φ) (base := base) (w := w) (b := b) (off := off + o) (m := (T.row t).sz) (g := fun k => g (o + k)) (fun k hk => by
          obtain ⟨c, e1, e2, e3⟩ := h2 (o + k) (by omega)
          exact ⟨c, by rw [Nat.add_assoc]; exact e1, e2, e3⟩)
        have := run_loadVar_agg (P := P) hr.info w b (off + o) cs (by rw [q1, hr.sz]) (by rw [hag, ha]) q2
        refine ⟨_, by simpa [Instr.loadAt, Instr.sureAddr] using this, cs.toArray, rfl, by simp [q1], fun k hk => ?_⟩
        obtain ⟨c, e1, e2, e3⟩ := q3 k hk
        exact ⟨c, by simpa using e1, e2, e3⟩
    | false =>
      simp only [ha, cond_false] at h
      simp only [Option.some.injEq, Prod.mk.injEq] at h
      obtain ⟨rfl, rfl⟩ := h
      have hbb : o < sz := ltO_holds.1 hp
      obtain ⟨c, e1, e2, e3⟩ := h2 o hbb
      have := run_loadVar_leaf (P := P) (t := t) w ⟨b, off + o, none⟩ c (by rw [hag, ha]) e1
      exact ⟨c, by simpa [Instr.loadAt, Instr.sureAddr] using this, e3⟩
  | _ => simp [loadV'] at h

end
end Go.Tri

/-
  SOUNDNESS, THIRD PART: stores and what makes memory.
-/
namespace Go.Tri
variable {lo : Nat}
open Go.RowKit

theorem leaf_one {φ : Phi} {base : Nat} {w : World} {x : V} {c : Value} (hl : x.leaf = true) (h : Rep φ base w x c) : c.oneCell' = true := by
  cases x with
  | lit v => cases h; exact hl
  | ints fr xs => obtain ⟨A, cap, rfl, _⟩ := h; rfl
  | seq fr sz n f => obtain ⟨A, cap, rfl, _⟩ := h; rfl
  | sl t ver off len => obtain ⟨r, _, h1, _⟩ := h; exact h1
  | ptr t ver i o => obtain ⟨r, _, h1, _⟩ := h; exact h1
  | at_ sz g o => obtain ⟨b, off, rfl, _⟩ := h; rfl
  | clo f n g => obtain ⟨cs, rfl, _⟩ := h; rfl
  | emp nl => obtain ⟨A, rfl, _⟩ := h; rfl
  | agg n g => cases hl
  | tup n g => cases hl
  | any => cases hl
  | yld t => obtain ⟨r, _, h1, _⟩ := h; exact h1
  | mp t => obtain ⟨r, _, h1, _⟩ := h; exact h1
  | ifc ty x => obtain ⟨u, rfl, _⟩ := h; rfl
  | bnd f n g => obtain ⟨cs, rfl, _⟩ := h; rfl
  | full xs => obtain ⟨A, rfl, _⟩ := h; rfl

theorem isI64_eq {x : V} (h : x.isI64 = true) : x = .int x.toInt := by
  cases x with
  | lit v => cases v with
    | int k n => cases k <;> first | rfl | cases h
    | _ => cases h
  | _ => cases h
theorem isBool_eq {x : V} (h : x.isBool = true) : x = .bool x.toBool := by
  cases x with
  | lit v => cases v with
    | bool b => rfl
    | _ => cases h
  | _ => cases h

theorem bif_some {α : Type} {b : Bool} {x : Option α} {y : α} (h : (bif b then x else none) = some y) : x = some y := by cases b <;> first | exact h | cases h

theorem Con.set_kc {c c' : Con} {sz i o : Nat} {v : V} (h : c.set sz i o v = some c') : c'.kc = c.kc := by
  cases c <;> simp only [Con.set] at h
  case loop => cases h
  case mpi => cases h
  all_goals
    have h := bif_some h
    cases h
    rfl

theorem Con.set_ok {c c' : Con} {sz i o : Nat} {v : V} (h : c.set sz i o v = some c') (hi : i < c.n) :
    c'.n = c.n ∧ v.leaf = true ∧ ∀ j l, j < c.n → l < sz → (j = i ∧ l = o → c'.f j l = v) ∧ (¬(j = i ∧ l = o) → c'.f j l = c.f j l) := by
  cases c with
  | loop => cases h
  | mpi => cases h
  | kil xs =>
    simp only [Con.set] at h
    cases hb : (v.isI64 && Nat.beq o 0 && Nat.beq sz 1) with
    | false => rw [hb] at h; cases h
    | true =>
      rw [hb] at h
      simp only [cond_true, Option.some.injEq] at h
      subst h
      simp only [Bool.and_eq_true] at hb
      obtain ⟨⟨h1, h2⟩, h3⟩ := hb
      have h2 : o = 0 := Nat.eq_of_beq_eq_true h2
      have h3 : sz = 1 := Nat.eq_of_beq_eq_true h3
      subst h2 h3
      have hv := isI64_eq h1
      simp only [Con.n] at hi
      refine ⟨by simp [Con.n], by rw [hv]; rfl, fun j l hj hl => ⟨fun ⟨e, _⟩ => ?_, fun hne => ?_⟩⟩
      · subst e
        simp only [Con.f]
        rw [show (xs.set j v.toInt).getD j 0 = v.toInt from by simp [List.getD, hi]]
        exact hv.symm
      · have : j ≠ i := fun e => hne ⟨e, by omega⟩
        simp only [Con.f]
        rw [show (xs.set i v.toInt).getD j 0 = xs.getD j 0 from by simp [List.getD, List.getElem?_set_ne (Ne.symm this)]]
  | il xs =>
    simp only [Con.set] at h
    cases hb : (v.isI64 && Nat.beq o 0 && Nat.beq sz 1) with
    | false => rw [hb] at h; cases h
    | true =>
      rw [hb] at h
      simp only [cond_true, Option.some.injEq] at h
      subst h
      simp only [Bool.and_eq_true] at hb
      obtain ⟨⟨h1, h2⟩, h3⟩ := hb
      have h2 : o = 0 := Nat.eq_of_beq_eq_true h2
      have h3 : sz = 1 := Nat.eq_of_beq_eq_true h3
      subst h2 h3
      have hv := isI64_eq h1
      simp only [Con.n] at hi
      refine ⟨by simp [Con.n], by rw [hv]; rfl, fun j l hj hl => ⟨fun ⟨e, _⟩ => ?_, fun hne => ?_⟩⟩
      · subst e
        simp only [Con.f]
        rw [show (xs.set j v.toInt).getD j 0 = v.toInt from by simp [List.getD, hi]]
        exact hv.symm
      · have : j ≠ i := fun e => hne ⟨e, by omega⟩
        simp only [Con.f]
        rw [show (xs.set i v.toInt).getD j 0 = xs.getD j 0 from by simp [List.getD, List.getElem?_set_ne (Ne.symm this)]]
  | bl xs =>
    simp only [Con.set] at h
    cases hb : (v.isBool && Nat.beq o 0 && Nat.beq sz 1) with
    | false => rw [hb] at h; cases h
    | true =>
      rw [hb] at h
      simp only [cond_true, Option.some.injEq] at h
      subst h
      simp only [Bool.and_eq_true] at hb
      obtain ⟨⟨h1, h2⟩, h3⟩ := hb
      have h2 : o = 0 := Nat.eq_of_beq_eq_true h2
      have h3 : sz = 1 := Nat.eq_of_beq_eq_true h3
      subst h2 h3
      have hv := isBool_eq h1
      simp only [Con.n] at hi
      refine ⟨by simp [Con.n], by rw [hv]; rfl, fun j l hj hl => ⟨fun ⟨e, _⟩ => ?_, fun hne => ?_⟩⟩
      · subst e
        simp only [Con.f]
        rw [show (xs.set j v.toBool).getD j false = v.toBool from by simp [List.getD, hi]]
        exact hv.symm
      · have : j ≠ i := fun e => hne ⟨e, by omega⟩
        simp only [Con.f]
        rw [show (xs.set i v.toBool).getD j false = xs.getD j false from by simp [List.getD, List.getElem?_set_ne (Ne.symm this)]]
  | ci n f =>
    simp only [Con.set] at h
    cases hb : v.isI64 with
    | false => rw [hb] at h; cases h
    | true =>
      rw [hb] at h
      simp only [cond_true, Option.some.injEq] at h
      subst h
      have hv := isI64_eq hb
      refine ⟨rfl, by rw [hv]; rfl, fun j l _ _ => ⟨fun e => ?_, fun e => ?_⟩⟩
      · simp only [Con.f, if_pos e]; exact hv.symm
      · simp only [Con.f, if_neg e]
  | cv n f =>
    simp only [Con.set] at h
    cases hb : v.leaf with
    | false => rw [hb] at h; cases h
    | true =>
      rw [hb] at h
      simp only [cond_true, Option.some.injEq] at h
      subst h
      refine ⟨rfl, rfl, fun j l _ _ => ⟨fun e => ?_, fun e => ?_⟩⟩
      · simp only [Con.f, if_pos e]
      · simp only [Con.f, if_neg e]
  | one cs =>
    simp only [Con.set] at h
    cases hb : (v.leaf && Nat.blt o cs.length) with
    | false => rw [hb] at h; cases h
    | true =>
      rw [hb] at h
      simp only [cond_true, Option.some.injEq] at h
      subst h
      simp only [Bool.and_eq_true] at hb
      have h2 : o < cs.length := by simpa using hb.2
      simp only [Con.n] at hi
      refine ⟨rfl, hb.1, fun j l hj _ => ⟨fun ⟨_, e⟩ => ?_, fun hne => ?_⟩⟩
      · subst e
        simp only [Con.f]
        simp [List.getD, h2]
      · simp only [Con.n] at hj
        have : l ≠ o := fun e => hne ⟨by omega, e⟩
        simp only [Con.f]
        simp [List.getD, List.getElem?_set_ne (Ne.symm this)]

section
variable {P : Program} {T : Tab}

theorem run_storeCells_snoc (a : Addr) (l : List Value) (x : Value) (i : Nat) (w : World) :
    (storeCells a (l ++ [x]) i).run P w = ((storeCells a l i).run P w).andThen fun _ w' => (store (a.add (i + l.length)) x).run P w' := by
  induction l generalizing i w with
  | nil => simp [storeCells]
  | cons y l ih =>
    simp only [List.cons_append, storeCells, Sem.run_bind, ih, List.length_cons]
    cases (store (a.add i) y).run P w with
    | ok u w1 => simp only [Result.andThen_ok]; rw [show i + 1 + l.length = i + (l.length + 1) from by omega]
    | halt h w1 => rfl

/-- SEVERAL CELLS OF AN OBJECT WRITTEN. -/
theorem storeCells_ok {nb base : Nat} {φ : Phi} {t : Nat} {r : Row} {g : Nat → V} {i o : Nat} (ht : φ t = some r) (hi : i < r.n) :
    ∀ (n : Nat) (w : World) (M : Mem) (ob : Ob) (c' : Con) (cs : List Value), MemRel nb base φ w M → M.get t = some ob → cs.length = n → o + n ≤ r.sz →
      (∀ k, k < n → ∃ c, cs[k]? = some c ∧ c.oneCell' = true ∧ Rep φ base w (g k) c) → storeCellsV ob.c ob.sz i o g n = some c' →
      ∃ w', (storeCells ⟨r.g, i * r.sz + o, none⟩ cs).run P w = .ok () w' ∧ MemRel nb base φ w' (M.put t { ob with c := c' }) ∧ Evo w φ w' φ ∧ c'.n = ob.c.n := by
  intro n
  induction n with
  | zero =>
    intro w M ob c' cs hm ho hl _ _ hc
    simp only [storeCellsV, Option.some.injEq] at hc
    subst hc
    have : cs = [] := List.eq_nil_of_length_eq_zero hl
    subst this
    refine ⟨w, rfl, ?_, Evo.refl w φ, rfl⟩
    refine ⟨fun s r' hs => ?_, hm.inj, hm.own, hm.le⟩
    by_cases h : s = t
    · subst h
      obtain ⟨o', g1, g2⟩ := hm.obj s r' hs
      rw [ho] at g1
      cases g1
      exact ⟨_, Mem.get_put_same M s _, g2⟩
    · rw [Mem.get_put_other M h]
      exact hm.obj s r' hs
  | succ n ih =>
    intro w M ob c' cs hm ho hl hsz hrep hc
    simp only [storeCellsV] at hc
    cases h1 : storeCellsV ob.c ob.sz i o g n with
    | none => rw [h1] at hc; cases hc
    | some c1 =>
      rw [h1] at hc
      simp only at hc
      obtain ⟨x, hx1, hx2, hx3⟩ := hrep n (by omega)
      have hcs : cs = cs.take n ++ [x] := by
        apply List.ext_getElem?
        intro j
        rcases Nat.lt_trichotomy j n with hj | hj | hj
        · rw [List.getElem?_append_left (by simp; omega), List.getElem?_take_of_lt hj]
        · subst hj; rw [hx1, List.getElem?_append_right (by simp; omega)]; simp [hl]
        · rw [List.getElem?_eq_none (by omega), List.getElem?_eq_none (by simp; omega)]
      obtain ⟨w1, r1, m1, e1, n1⟩ := ih w M ob c1 (cs.take n) hm ho (by simp [hl]) (by omega) (fun k hk => by
        obtain ⟨c, a1, a2, a3⟩ := hrep k (by omega)
        exact ⟨c, by rw [List.getElem?_take_of_lt hk]; exact a1, a2, a3⟩) h1
      obtain ⟨ob0, q1, q2⟩ := m1.obj t r ht
      rw [Mem.get_put_same] at q1
      cases q1
      have hin : i < c1.n := by have := q2.n; simp only at this; omega
      obtain ⟨s1, s2, s3⟩ := Con.set_ok hc hin
      have hszz : ob.sz = r.sz := q2.sz
      obtain ⟨cell, y1, y2, _⟩ := q2.cell hi (show o + n < r.sz by omega)
      have hst := step_set m1 ht (Mem.get_put_same M t _) hi (show o + n < r.sz by omega) (Rep.evo e1 hx3) hx2 c' (by simpa using s1) (Con.set_kc hc) (fun j l hj hl => by
        have := s3 j l (by have := q2.n; simp only at this; omega) (by rw [hszz]; exact hl)
        exact this)
      refine ⟨_, ?_, ?_, e1.trans hst.2, s1.trans n1⟩
      · rw [hcs, run_storeCells_snoc, r1]
        simp only [Result.andThen_ok, List.length_take, hl, Nat.zero_add, addr_add]
        rw [show min n (n + 1) = n from by omega, Nat.add_assoc, run_store P w1 _ x .plain hx2, y1]
        simp only [q2.frozen (by have := q2.le; omega)]
        rfl
      · have := hst.1
        refine ⟨fun s r' hs => ?_, this.inj, this.own, this.le⟩
        obtain ⟨o', z1, z2⟩ := this.obj s r' hs
        by_cases h : s = t
        · subst h
          rw [Mem.get_put_same] at z1
          cases z1
          exact ⟨_, Mem.get_put_same M s _, z2⟩
        · rw [Mem.get_put_other _ h, Mem.get_put_other _ h] at z1
          exact ⟨o', by rw [Mem.get_put_other _ h]; exact z1, z2⟩

/-- The same for a content that is known after each cell. -/
theorem storeArr_ok {nb base : Nat} {φ : Phi} {t : Nat} {r : Row} {g : Nat → V} {i o : Nat} (ht : φ t = some r) (hi : i < r.n) {c0 : Con} (hcv : c0.isCv = true) :
    ∀ (n : Nat) (w : World) (M : Mem) (ob : Ob) (cs : List Value), ob.c = c0 → MemRel nb base φ w M → M.get t = some ob → cs.length = n → o + n ≤ r.sz →
      (∀ k, k < n → ∃ c, cs[k]? = some c ∧ c.oneCell' = true ∧ Rep φ base w (g k) c) →
      ∃ w', (storeCells ⟨r.g, i * r.sz + o, none⟩ cs).run P w = .ok () w' ∧ MemRel nb base φ w' (M.put t { ob with c := .cv c0.n fun j k => if j = i ∧ o ≤ k ∧ k < o + n then g (k - o) else c0.f j k }) ∧ Evo w φ w' φ := by
  intro n
  induction n with
  | zero =>
    intro w M ob cs hob hm ho hl _ _
    have : cs = [] := List.eq_nil_of_length_eq_zero hl
    subst this
    refine ⟨w, rfl, ?_, Evo.refl w φ⟩
    have hc : (Con.cv c0.n fun j k => if j = i ∧ o ≤ k ∧ k < o + 0 then g (k - o) else c0.f j k) = c0 := by
      cases c0 with
      | cv m f =>
        simp only [Con.n, Con.f]
        congr 1
        funext j k
        rw [if_neg (by omega)]
      | _ => cases hcv
    rw [hc, ← hob]
    refine ⟨fun s r' hs => ?_, hm.inj, hm.own, hm.le⟩
    by_cases h : s = t
    · subst h
      obtain ⟨o', g1, g2⟩ := hm.obj s r' hs
      rw [ho] at g1
      cases g1
      exact ⟨_, Mem.get_put_same M s _, g2⟩
    · rw [Mem.get_put_other M h]
      exact hm.obj s r' hs
  | succ n ih =>
    intro w M ob cs hob hm ho hl hsz hrep
    obtain ⟨x, hx1, hx2, hx3⟩ := hrep n (by omega)
    have hcs : cs = cs.take n ++ [x] := by
      apply List.ext_getElem?
      intro j
      rcases Nat.lt_trichotomy j n with hj | hj | hj
      · rw [List.getElem?_append_left (by simp; omega), List.getElem?_take_of_lt hj]
      · subst hj; rw [hx1, List.getElem?_append_right (by simp; omega)]; simp [hl]
      · rw [List.getElem?_eq_none (by omega), List.getElem?_eq_none (by simp; omega)]
    obtain ⟨w1, r1, m1, e1⟩ := ih w M ob (cs.take n) hob hm ho (by simp [hl]) (by omega) (fun k hk => by
      obtain ⟨c, a1, a2, a3⟩ := hrep k (by omega)
      exact ⟨c, by rw [List.getElem?_take_of_lt hk]; exact a1, a2, a3⟩)
    obtain ⟨ob0, q1, q2⟩ := m1.obj t r ht
    rw [Mem.get_put_same] at q1
    cases q1
    obtain ⟨cell, y1, y2, _⟩ := q2.cell hi (show o + n < r.sz by omega)
    have hst := step_set m1 ht (Mem.get_put_same M t _) hi (show o + n < r.sz by omega) (Rep.evo e1 hx3) hx2 (.cv c0.n fun j k => if j = i ∧ o ≤ k ∧ k < o + (n + 1) then g (k - o) else c0.f j k) rfl rfl (fun j l hj hl => by
      simp only [Con.f]
      refine ⟨fun ⟨h1, h2⟩ => ?_, fun hne => ?_⟩
      · rw [if_pos (by omega)]; congr 1; omega
      · by_cases hh : j = i ∧ o ≤ l ∧ l < o + n
        · rw [if_pos hh, if_pos (by omega)]
        · rw [if_neg hh, if_neg (by omega)])
    refine ⟨_, ?_, ?_, e1.trans hst.2⟩
    · rw [hcs, run_storeCells_snoc, r1]
      simp only [Result.andThen_ok, List.length_take, hl, Nat.zero_add, addr_add]
      rw [show min n (n + 1) = n from by omega, Nat.add_assoc, run_store P w1 _ x .plain hx2, y1]
      simp only [q2.frozen (by have := q2.le; omega)]
      rfl
    · have := hst.1
      refine ⟨fun s r' hs => ?_, this.inj, this.own, this.le⟩
      obtain ⟨o', z1, z2⟩ := this.obj s r' hs
      by_cases h : s = t
      · subst h
        rw [Mem.get_put_same] at z1
        cases z1
        exact ⟨_, Mem.get_put_same M s _, z2⟩
      · rw [Mem.get_put_other _ h, Mem.get_put_other _ h] at z1
        exact ⟨o', by rw [Mem.get_put_other _ h]; exact z1, z2⟩

theorem setArr_n (c : Con) (sz i o m : Nat) (g : Nat → V) : (setArr c sz i o m g).n = c.n := by
  unfold setArr
  cases h : (Nat.beq m sz && Nat.beq c.n 1 && Nat.beq i 0 && Nat.beq o 0) with
  | true => simp only [Bool.and_eq_true] at h; simp only [cond_true, Con.n]; exact (Nat.eq_of_beq_eq_true h.1.1.2).symm
  | false => rfl
theorem setArr_f (c : Con) (sz i o m : Nat) (g : Nat → V) (j k : Nat) (hj : j < c.n) (hk : k < sz) : (setArr c sz i o m g).f j k = if j = i ∧ o ≤ k ∧ k < o + m then g (k - o) else c.f j k := by
  unfold setArr
  cases h : (Nat.beq m sz && Nat.beq c.n 1 && Nat.beq i 0 && Nat.beq o 0) with
  | true =>
    simp only [Bool.and_eq_true] at h
    have h4 := Nat.eq_of_beq_eq_true h.1.1.1
    have h1 := Nat.eq_of_beq_eq_true h.1.1.2
    have h2 := Nat.eq_of_beq_eq_true h.1.2
    have h3 := Nat.eq_of_beq_eq_true h.2
    simp only [cond_true, Con.f]
    rw [if_pos (by omega)]
    congr 1
    omega
  | false => rfl
theorem setArr_isC (c : Con) (sz i o m : Nat) (g : Nat → V) : (setArr c sz i o m g).isC = true := by
  unfold setArr
  cases (Nat.beq m sz && Nat.beq c.n 1 && Nat.beq i 0 && Nat.beq o 0) <;> rfl
theorem setArr_kc (c : Con) (sz i o m : Nat) (g : Nat → V) : (setArr c sz i o m g).kc = false := by
  unfold setArr
  cases (Nat.beq m sz && Nat.beq c.n 1 && Nat.beq i 0 && Nat.beq o 0) <;> rfl
/-- A content that reads alike. -/
theorem MemRel.recon {nb base : Nat} {φ : Phi} {w : World} {M : Mem} {t : Nat} {ob : Ob} {c c' : Con} (h : MemRel nb base φ w (M.put t { ob with c := c })) (hn : c'.n = c.n) (hC : c.isC = true) (hC' : c'.isC = true) (hk' : c'.kc = false)
    (hf : ∀ j k, j < c.n → k < ob.sz → c'.f j k = c.f j k) : MemRel nb base φ w (M.put t { ob with c := c' }) := by
  refine ⟨fun s r hs => ?_, h.inj, h.own, h.le⟩
  obtain ⟨o, g1, g2⟩ := h.obj s r hs
  by_cases he : s = t
  · subst he
    rw [Mem.get_put_same] at g1
    cases g1
    refine ⟨_, Mem.get_put_same M s _, by rw [← g2.n]; exact hn, g2.ver, g2.sz, g2.e, g2.pos, g2.le, g2.max, g2.dom, Con.Spec_of hC' (fun h => by rw [hk'] at h; cases h), fun _ hp => ?_⟩
    obtain ⟨cur, q1, q2, q3⟩ := g2.row hC hp
    refine ⟨cur, q1, q2, fun j k hj hk => ?_⟩
    obtain ⟨x, e1, e2, e3⟩ := q3 j k hj hk
    exact ⟨x, e1, e2, by rw [show ({ ob with c := c' } : Ob).c.f j k = c.f j k from hf j k (by have := g2.n; simp only at this; omega) (by have := g2.sz; simp only at this; omega)]; exact e3⟩
  · rw [Mem.get_put_other _ he] at g1
    exact ⟨o, by rw [Mem.get_put_other _ he]; exact g1, g2⟩

theorem storeV_ok (hT : TabOk P T) {nb base nm : Nat} {φ : Phi} {w : World} {M M' : Mem} (hm : MemRel nb base φ w M) {t : TypeId} {x y v : V} {cx cy : Value} {p : Obl} (hx : Rep φ base w x cx) (hy : Rep φ base w y cy)
    (h : storeV T M t x y = some (p, v, M')) (hp : p.holds) : ∃ w' φ', (Instr.storeAt t cx cy).run P w = .ok () w' ∧ Step nb base nm φ w v M' undef w' φ' := by
  have hk : knownT (T.row t) = true := by
    cases hk : knownT (T.row t) with
    | true => rfl
    | false => simp [storeV, hk] at h
  have hd := knownT_ne hk
  simp only [storeV, hk, cond_true] at h
  obtain ⟨i, z, hr⟩ := hT.is hd
  cases x with
  | ptr n ver i' o =>
    obtain ⟨r, hrr, _, hle, hv⟩ := hx
    obtain ⟨ob, ho, hrel⟩ := hm.obj n r hrr
    simp only [ho] at h
    cases ha : isAggT (T.row t) with
    | true =>
      simp only [ha, cond_true] at h
      cases y with
      | agg m g =>
        simp only at h
        cases har : (isArrT (T.row t) && ob.c.isCv) with
        | true =>
          simp only [har, cond_true] at h
          cases hb : Nat.beq m (T.row t).sz with
          | false => simp [hb] at h
          | true =>
            simp only [hb, cond_true, Option.some.injEq, Prod.mk.injEq] at h
            obtain ⟨rfl, rfl, rfl⟩ := h
            have hb1 : m = (T.row t).sz := Nat.eq_of_beq_eq_true hb
            obtain ⟨hver, hb2⟩ := ldaO_holds.1 hp
            obtain ⟨rfl, hi⟩ := hv (by rw [← hrel.ver, hver])
            obtain ⟨cs, rfl, hcs, hcr⟩ := hy
            simp only [Bool.and_eq_true] at har
            obtain ⟨w', q1, q2, q3⟩ := storeArr_ok (P := P) hrr hi har.2 m w M ob cs.toList rfl hm ho (by simpa using hcs) (by rw [← hrel.sz]; exact hb2) (fun k hk => by
              obtain ⟨c, a1, a2, a3⟩ := hcr k hk
              exact ⟨c, by simpa using a1, a2, a3⟩)
            refine ⟨w', φ, ?_, q2.recon (setArr_n ..) rfl (setArr_isC ..) (setArr_kc ..) (fun j k hj hk => setArr_f _ _ _ _ _ _ j k hj hk), trivial, q3, fun t r h => .inl ⟨r, h⟩⟩
            have hsz : cs.size = i.size := by rw [hcs, hb1, hr.sz]
            simp [Instr.storeAt, Instr.sureAddr, storeVar, sizeOf, typeInfo, hr.info, Value.cells, hsz, q1]
        | false =>
        simp only [har, cond_false] at h
        cases hb : (Nat.beq m (T.row t).sz && Nat.ble (o + m) ob.sz) with
        | false => simp [hb] at h
        | true =>
          simp only [hb, cond_true] at h
          cases hc : storeCellsV ob.c ob.sz i' o g m with
          | none => simp [hc] at h
          | some c' =>
            simp only [hc, Option.some.injEq, Prod.mk.injEq] at h
            obtain ⟨rfl, rfl, rfl⟩ := h
            simp only [Bool.and_eq_true] at hb
            have hb1 : m = (T.row t).sz := Nat.eq_of_beq_eq_true hb.1
            have hb2 : o + m ≤ ob.sz := Nat.le_of_ble_eq_true hb.2
            have hver : ver = ob.ver := eqnO_holds.1 hp
            obtain ⟨rfl, hi⟩ := hv (by rw [← hrel.ver, hver])
            obtain ⟨cs, rfl, hcs, hcr⟩ := hy
            obtain ⟨w', q1, q2, q3, _⟩ := storeCells_ok (P := P) hrr hi m w M ob c' cs.toList hm ho (by simpa using hcs) (by rw [← hrel.sz]; exact hb2) (fun k hk => by
              obtain ⟨c, a1, a2, a3⟩ := hcr k hk
              exact ⟨c, by simpa using a1, a2, a3⟩) hc
            refine ⟨w', φ, ?_, q2, trivial, q3, fun t r h => .inl ⟨r, h⟩⟩
            have hsz : cs.size = i.size := by rw [hcs, hb1, hr.sz]
            simp [Instr.storeAt, Instr.sureAddr, storeVar, sizeOf, typeInfo, hr.info, Value.cells, hsz, q1]
      | _ => simp at h
    | false =>
      simp only [ha, cond_false] at h
      cases hb : Nat.beq (T.row t).sz 1 with
      | false => simp [hb] at h
      | true =>
        simp only [hb, cond_true] at h
        cases hc : ob.c.set ob.sz i' o y with
        | none => simp [hc] at h
        | some c' =>
          simp only [hc, Option.some.injEq, Prod.mk.injEq] at h
          obtain ⟨rfl, rfl, rfl⟩ := h
          have hb2 : (T.row t).sz = 1 := Nat.eq_of_beq_eq_true hb
          obtain ⟨hver, hb1⟩ := ldO_holds.1 hp
          obtain ⟨rfl, hi⟩ := hv (by rw [← hrel.ver, hver])
          obtain ⟨s1, s2, s3⟩ := Con.set_ok hc (by rw [hrel.n]; exact hi)
          have hl := leaf_one s2 hy
          obtain ⟨cell, y1, y2, _⟩ := hrel.cell hi (show o < r.sz by rw [← hrel.sz]; exact hb1)
          have hst := step_set hm hrr ho hi (show o < r.sz by rw [← hrel.sz]; exact hb1) hy hl c' s1 (Con.set_kc hc) (fun j l hj hl => s3 j l (by rw [hrel.n]; exact hj) (by rw [hrel.sz]; exact hl))
          refine ⟨_, φ, ?_, hst.1, trivial, hst.2, fun t r h => .inl ⟨r, h⟩⟩
          have hone : cy.cells = #[cy] := by
            cases cy <;> first | rfl | cases hl
          have hsz : i.size = 1 := by rw [← hr.sz]; exact hb2
          simp only [Instr.storeAt, Instr.sureAddr, storeVar, sizeOf, typeInfo, Sem.run_bind, Sem.run_pure, Result.andThen_ok, run_program, hr.info, hone, hsz]
          simp only [List.size_toArray, List.length_cons, List.length_nil, Nat.zero_add, ne_eq, not_true_eq_false, if_false, storeCells, Sem.run_bind, Sem.run_pure]
          rw [addr_add, Nat.add_zero, run_store P w _ cy .plain hl, y1]
          simp only [hrel.frozen (by have := hrel.le; omega)]
          rfl
  | _ => simp at h

end
end Go.Tri
