/-
  A FRAMEWORK OF MY OWN: abstract values over the model's worlds. Values, the reading of a value in a world, what a step keeps.
-/
import Derived.Test.YtciefpkelgjboaaA0
namespace Go.Tri

/-- Abstract values: an exact value; an immutable slice by its cells (fr: in memory of the call's own); a slice into a named object at a version; a pointer into one; a pointer into immutable cells; a struct or array; several results; a closure; a slice without room; nothing known; ints, of which the room is as long. -/
inductive V where
  | lit (v : Value)
  | ints (fr : Bool) (xs : List Int)
  | seq (fr : Bool) (sz n : Nat) (f : Nat → Nat → V)
  | sl (t ver off len : Nat)
  | ptr (t ver i o : Nat)
  | at_ (sz : Nat) (g : Nat → V) (o : Nat)
  | agg (n : Nat) (g : Nat → V)
  | tup (n : Nat) (g : Nat → V)
  | clo (fn : FuncId) (n : Nat) (g : Nat → V)
  | emp (nil : Bool)
  | any
  | yld (t : Nat)
  | ifc (ty : TypeId) (x : V)
  | bnd (fn : FuncId) (n : Nat) (g : Nat → V)
  | full (xs : List Int)

@[reducible] def V.int (n : Int) : V := .lit (.int .i64 n)
@[reducible] def V.bool (b : Bool) : V := .lit (.bool b)
/-- What a skipped operation leaves. -/
@[reducible] def V.un : V := .lit (.tuple #[])

/-- Where an object lies: its block, its room, how many elements, cells an element, the element type. -/
structure Row where
  g : Nat
  cap : Nat
  n : Nat
  sz : Nat
  e : TypeId
  ver : Nat

abbrev Phi := Nat → Option Row
def notLive (φ : Phi) (b : Nat) : Prop := ∀ t r, φ t = some r → 0 < r.cap → r.g ≠ b

def Rep (φ : Phi) (base : Nat) (w : World) : V → Value → Prop
  | .lit u, v => v = u
  | .ints fr xs, v => ∃ A cap, v = .slice A xs.length cap ∧ xs.length ≤ cap ∧ cap ≤ maxLen ∧ (0 < xs.length → ∃ b off, A = some ⟨b, off, none⟩ ∧ notLive φ b ∧ (fr = true → base ≤ b) ∧
      ∀ j, j < xs.length → w.cell? ⟨b, off + j, none⟩ = some (.int .i64 (xs.getD j 0)))
  | .seq fr sz n f, v => ∃ A cap, v = .slice A n cap ∧ n ≤ cap ∧ cap ≤ maxLen ∧ 0 < sz ∧ (0 < n → ∃ b off, A = some ⟨b, off, none⟩ ∧ notLive φ b ∧ (fr = true → base ≤ b) ∧
      ∀ j o, j < n → o < sz → ∃ c, w.cell? ⟨b, off + (j * sz + o), none⟩ = some c ∧ c.oneCell' = true ∧ Rep φ base w (f j o) c)
  | .sl t ver off len, v => ∃ r, φ t = some r ∧ v.oneCell' = true ∧ ver ≤ r.ver ∧ (r.ver = ver → off + len ≤ r.n ∧ ∃ A, v = .slice A len (r.cap - off) ∧ (off < r.cap → A = some ⟨r.g, off * r.sz, none⟩))
  | .ptr t ver i o, v => ∃ r, φ t = some r ∧ v.oneCell' = true ∧ ver ≤ r.ver ∧ (r.ver = ver → v = .pointer (some ⟨r.g, i * r.sz + o, none⟩) ∧ i < r.n)
  | .at_ sz g o, v => ∃ b off, v = .pointer (some ⟨b, off + o, none⟩) ∧ b < w.heap.size ∧ notLive φ b ∧
      ∀ k, k < sz → ∃ c, w.cell? ⟨b, off + k, none⟩ = some c ∧ c.oneCell' = true ∧ Rep φ base w (g k) c
  | .agg n g, v => ∃ cs : Array Value, v = .agg cs ∧ cs.size = n ∧ ∀ i, i < n → ∃ c, cs[i]? = some c ∧ c.oneCell' = true ∧ Rep φ base w (g i) c
  | .tup n g, v => ∃ cs : Array Value, v = .tuple cs ∧ cs.size = n ∧ ∀ i, i < n → ∃ c, cs[i]? = some c ∧ Rep φ base w (g i) c
  | .clo fn n g, v => ∃ cs : Array Value, v = .func (.func fn) #[] cs ∧ cs.size = n ∧ ∀ i, i < n → ∃ c, cs[i]? = some c ∧ Rep φ base w (g i) c
  | .emp nl, v => ∃ A, v = .slice A 0 0 ∧ (nl = true → A = none)
  | .any, _ => True
  | .yld t, v => ∃ r, φ t = some r ∧ v.oneCell' = true ∧ (r.ver = 0 → 0 < r.cap ∧ v = .func (.yield r.g) #[] #[])
  | .ifc ty x, v => ∃ u, v = .iface ty u ∧ Rep φ base w x u
  | .bnd fn n g, v => ∃ cs : Array Value, v = .func (.func fn) cs #[] ∧ cs.size = n ∧ ∀ i, i < n → ∃ c, cs[i]? = some c ∧ Rep φ base w (g i) c
  | .full xs, v => ∃ A, v = .slice A xs.length xs.length ∧ xs.length ≤ maxLen ∧ (0 < xs.length → ∃ b off, A = some ⟨b, off, none⟩ ∧ notLive φ b ∧ ∀ j, j < xs.length → w.cell? ⟨b, off + j, none⟩ = some (.int .i64 (xs.getD j 0)))

/-- What a step of the world keeps. -/
structure Evo (w : World) (φ : Phi) (w' : World) (φ' : Phi) : Prop where
  os : w'.os = w.os
  tape : w'.tape = w.tape
  output : w'.output = w.output
  size : w.heap.size ≤ w'.heap.size
  block : ∀ b, b < w.heap.size → notLive φ b → w'.heap[b]? = w.heap[b]?
  live : ∀ t r, φ' t = some r → 0 < r.cap → r.g < w.heap.size → ¬ notLive φ r.g
  names : ∀ t r, φ t = some r → ∃ r', φ' t = some r' ∧ r'.sz = r.sz ∧ r'.e = r.e ∧ r.ver ≤ r'.ver ∧ (r'.ver = r.ver → r' = r)

theorem Evo.refl (w : World) (φ : Phi) : Evo w φ w φ :=
  ⟨rfl, rfl, rfl, Nat.le_refl _, fun _ _ _ => rfl, fun t r h hc _ hn => hn t r h hc rfl, fun _ r h => ⟨r, h, rfl, rfl, Nat.le_refl _, fun _ => rfl⟩⟩

theorem Evo.notLive_keep {w w' : World} {φ φ' : Phi} (h : Evo w φ w' φ') {b : Nat} (hb : b < w.heap.size) (hn : notLive φ b) : notLive φ' b := by
  intro t r ht hc he
  subst he
  exact h.live t r ht hc hb hn

theorem Evo.trans {w w₁ w₂ : World} {φ φ₁ φ₂ : Phi} (h : Evo w φ w₁ φ₁) (k : Evo w₁ φ₁ w₂ φ₂) : Evo w φ w₂ φ₂ where
  os := k.os.trans h.os
  tape := k.tape.trans h.tape
  output := k.output.trans h.output
  size := Nat.le_trans h.size k.size
  block b hb hn := (k.block b (Nat.lt_of_lt_of_le hb h.size) (h.notLive_keep hb hn)).trans (h.block b hb hn)
  live t r ht hc hb hn := k.live t r ht hc (Nat.lt_of_lt_of_le hb h.size) (h.notLive_keep hb hn)
  names t r ht := by
    obtain ⟨r₁, h1, h2, h3, h4, h5⟩ := h.names t r ht
    obtain ⟨r₂, k1, k2, k3, k4, k5⟩ := k.names t r₁ h1
    refine ⟨r₂, k1, k2.trans h2, k3.trans h3, Nat.le_trans h4 k4, fun he => ?_⟩
    have e1 : r₁.ver = r.ver := by omega
    have e2 : r₂.ver = r₁.ver := by omega
    rw [k5 e2, h5 e1]

theorem Evo.cell {w w' : World} {φ φ' : Phi} (h : Evo w φ w' φ') {b off : Nat} {c : Value} (hn : notLive φ b) (hc : w.cell? ⟨b, off, none⟩ = some c) :
    w'.cell? ⟨b, off, none⟩ = some c ∧ notLive φ' b := by
  have hb : b < w.heap.size := World.block_lt_of_cell? w _ hc
  exact ⟨(World.cell?_of_block (a := ⟨b, off, none⟩) (h.block b hb hn)).trans hc, h.notLive_keep hb hn⟩

theorem Rep.evo {w w' : World} {φ φ' : Phi} {base : Nat} (h : Evo w φ w' φ') : ∀ {x : V} {v : Value}, Rep φ base w x v → Rep φ' base w' x v := by
  intro x
  induction x with
  | lit u => exact fun hr => hr
  | ints fr xs =>
    rintro v ⟨A, cap, rfl, h1, h2, h4⟩
    refine ⟨A, cap, rfl, h1, h2, fun hn => ?_⟩
    obtain ⟨b, off, rfl, g1, g2, g3⟩ := h4 hn
    exact ⟨b, off, rfl, (h.cell g1 (g3 0 hn)).2, g2, fun j hj => (h.cell g1 (g3 j hj)).1⟩
  | seq fr sz n f ih =>
    rintro v ⟨A, cap, rfl, h1, h2, h3, h4⟩
    refine ⟨A, cap, rfl, h1, h2, h3, fun hn => ?_⟩
    obtain ⟨b, off, rfl, g1, g2, g3⟩ := h4 hn
    obtain ⟨c0, e0, _, _⟩ := g3 0 0 hn h3
    refine ⟨b, off, rfl, (h.cell g1 e0).2, g2, fun j o hj ho => ?_⟩
    obtain ⟨c, e1, e2, e3⟩ := g3 j o hj ho
    exact ⟨c, (h.cell g1 e1).1, e2, ih j o e3⟩
  | sl t ver off len =>
    rintro v ⟨r, hr, h1c, hle, hv⟩
    obtain ⟨r', h1, h2, h3, h4, h5⟩ := h.names t r hr
    refine ⟨r', h1, h1c, Nat.le_trans hle h4, fun he => ?_⟩
    by_cases hrn : r.ver = ver
    · have : r' = r := h5 (by omega)
      subst this
      exact hv hrn
    · omega
  | ptr t ver i o =>
    rintro v ⟨r, hr, h1c, hle, hv⟩
    obtain ⟨r', h1, h2, h3, h4, h5⟩ := h.names t r hr
    refine ⟨r', h1, h1c, Nat.le_trans hle h4, fun he => ?_⟩
    by_cases hrn : r.ver = ver
    · have : r' = r := h5 (by omega)
      subst this
      exact hv hrn
    · omega
  | at_ sz g o ih =>
    rintro v ⟨b, off, rfl, h0, h1, h2⟩
    refine ⟨b, off, rfl, Nat.lt_of_lt_of_le h0 h.size, h.notLive_keep h0 h1, fun k hk => ?_⟩
    · obtain ⟨c, e1, e2, e3⟩ := h2 k hk
      exact ⟨c, (h.cell h1 e1).1, e2, ih k e3⟩
  | agg n g ih =>
    rintro v ⟨cs, rfl, h1, h2⟩
    exact ⟨cs, rfl, h1, fun i hi => by obtain ⟨c, e1, e2, e3⟩ := h2 i hi; exact ⟨c, e1, e2, ih i e3⟩⟩
  | tup n g ih =>
    rintro v ⟨cs, rfl, h1, h2⟩
    exact ⟨cs, rfl, h1, fun i hi => by obtain ⟨c, e1, e2⟩ := h2 i hi; exact ⟨c, e1, ih i e2⟩⟩
  | clo fn n g ih =>
    rintro v ⟨cs, rfl, h1, h2⟩
    exact ⟨cs, rfl, h1, fun i hi => by obtain ⟨c, e1, e2⟩ := h2 i hi; exact ⟨c, e1, ih i e2⟩⟩
  | emp => exact fun hr => hr
  | any => exact fun _ => trivial
  | yld t =>
    rintro v ⟨r, hr, h1c, hv⟩
    obtain ⟨r', h1, h2, h3, h4, h5⟩ := h.names t r hr
    refine ⟨r', h1, h1c, fun he => ?_⟩
    have : r' = r := h5 (by omega)
    subst this
    exact hv he
  | ifc ty x ih =>
    rintro v ⟨u, rfl, h1⟩
    exact ⟨u, rfl, ih h1⟩
  | bnd fn n g ih =>
    rintro v ⟨cs, rfl, h1, h2⟩
    exact ⟨cs, rfl, h1, fun i hi => by obtain ⟨c, e1, e2⟩ := h2 i hi; exact ⟨c, e1, ih i e2⟩⟩
  | full xs =>
    rintro v ⟨A, rfl, h1, h4⟩
    refine ⟨A, rfl, h1, fun hn => ?_⟩
    obtain ⟨b, off, rfl, g1, g3⟩ := h4 hn
    exact ⟨b, off, rfl, (h.cell g1 (g3 0 hn)).2, fun j hj => (h.cell g1 (g3 j hj)).1⟩

/-! ## Objects, memory, frames -/

/-- An object's content: a row of ints, of bools; elements by their cells; one element by its cells. -/
inductive Con where
  | il (xs : List Int)
  | bl (xs : List Bool)
  | ci (n : Nat) (f : Nat → Nat → Int)
  | cv (n : Nat) (f : Nat → Nat → V)
  | one (cs : List V)
  | kil (xs : List Int)
  | loop (st : LoopState) (pend : Option Code) (e : List (Nat × V)) (nt : Nat) (ps : Array Tmp) (assign body : Code) (inf : LoopInf nt ps assign body)

def Con.n : Con → Nat
  | .il xs => xs.length
  | .bl xs => xs.length
  | .ci n _ => n
  | .cv n _ => n
  | .one _ => 1
  | .kil xs => xs.length
  | .loop .. => 0

/-- Its block holds cells. -/
def Con.isC : Con → Bool
  | .loop .. => false
  | _ => true

/-- All the room that there is holds known cells. -/
def Con.kc : Con → Bool
  | .kil _ => true
  | _ => false

def Con.f : Con → Nat → Nat → V
  | .il xs, j, _ => .int (xs.getD j 0)
  | .bl xs, j, _ => .bool (xs.getD j false)
  | .ci _ f, j, o => .int (f j o)
  | .cv _ f, j, o => f j o
  | .one cs, _, o => cs.getD o .any
  | .kil xs, j, _ => .int (xs.getD j 0)
  | .loop .., _, _ => .any

abbrev Env := List (Nat × V)
def Env.get : Env → Nat → V
  | [], _ => .any
  | (i, x) :: e, j => if i = j then x else Env.get e j

/-- The record of a loop over a function, as it lies in memory. -/
structure LoopIs (φ : Phi) (base : Nat) (w : World) (g : Nat) (st : LoopState) (pend : Option Code) (e : Env) (nt : Nat) (ps : Array Tmp) (assign body : Code) (L : Loop) : Prop where
  at_ : w.heap[g]? = some (.loop L)
  st : L.state = st
  pend : L.pending = pend
  ps : L.params = ps
  assign : L.assign = assign
  body : L.body = body
  size : L.tmps.size = nt
  slots : ∀ i, Rep φ base w (Env.get e i) (L.tmps.getD i undef)

/-- What an object's block holds where that is no cells. -/
def Con.Spec (φ : Phi) (base : Nat) (w : World) (r : Row) : Con → Prop
  | .loop st pend e nt ps assign body _ => 0 < r.cap ∧ r.ver = 0 ∧ ∃ L, LoopIs φ base w r.g st pend e nt ps assign body L
  | .kil _ => r.cap = r.n
  | _ => True

theorem Con.isC_of_n {c : Con} (h : 0 < c.n) : c.isC = true := by
  cases c with
  | loop => simp only [Con.n] at h; omega
  | _ => rfl
theorem Con.Spec_of {φ : Phi} {base : Nat} {w : World} {r : Row} {c : Con} (h : c.isC = true) (hk : c.kc = true → r.cap = r.n) : c.Spec φ base w r := by
  cases c with
  | loop => cases h
  | kil => exact hk rfl
  | _ => exact trivial
theorem Con.Spec_evo {φ φ' : Phi} {base : Nat} {w w' : World} {r : Row} {c : Con} (hv : Evo w φ w' φ') (hb : 0 < r.cap → w'.heap[r.g]? = w.heap[r.g]?) (h : c.Spec φ base w r) : c.Spec φ' base w' r := by
  cases c with
  | loop st pend e nt ps as bd inf =>
    obtain ⟨h1, h2, L, g1, g2, g3, g4, g5, g6, g7, g8⟩ := h
    exact ⟨h1, h2, L, (hb h1).trans g1, g2, g3, g4, g5, g6, g7, fun i => Rep.evo hv (g8 i)⟩
  | kil => exact h
  | _ => exact trivial

structure Ob where
  e : TypeId
  sz : Nat
  ver : Nat
  c : Con

abbrev Mem := List (Option Ob)
def Mem.get (M : Mem) (t : Nat) : Option Ob := M.getD t none

/-- Row r of the world holds object o. -/
structure ORel (φ : Phi) (base : Nat) (w : World) (r : Row) (o : Ob) : Prop where
  n : o.c.n = r.n
  ver : o.ver = r.ver
  sz : o.sz = r.sz
  e : o.e = r.e
  pos : 0 < r.sz
  le : r.n ≤ r.cap
  max : r.cap ≤ maxLen
  dom : 0 < r.cap → r.g < w.heap.size
  spec : o.c.Spec φ base w r
  row : o.c.isC = true → 0 < r.cap → ∃ cur, w.heap[r.g]? = some (.cells cur r.e (0, 0)) ∧ cur.size = r.cap * r.sz ∧
    ∀ j k, j < r.n → k < r.sz → ∃ c, cur[j * r.sz + k]? = some c ∧ c.oneCell' = true ∧ Rep φ base w (o.c.f j k) c

structure MemRel (nb base : Nat) (φ : Phi) (w : World) (M : Mem) : Prop where
  obj : ∀ t r, φ t = some r → ∃ o, M.get t = some o ∧ ORel φ base w r o
  inj : ∀ t t' r r', φ t = some r → φ t' = some r' → 0 < r.cap → 0 < r'.cap → r.g = r'.g → t = t'
  own : ∀ t r, φ t = some r → nb ≤ t → 0 < r.cap → base ≤ r.g
  le : base ≤ w.heap.size

/-- The mark of a loop over a function among the calls that are put off. -/
@[reducible] def markD (D : Nat) : Deferred := { target := .collected D, args := #[] }

/-- The calls that are put off: marks alone, each with its own block, which holds none; all blocks from 'lo' on. -/
def Dfr (lo : Nat) (φ : Phi) (w : World) : List Deferred → Prop
  | [] => True
  | d :: r => (∃ D, d = markD D ∧ lo ≤ D ∧ w.heap[D]? = some (.deferred (some [])) ∧ notLive φ D ∧ ∀ d' ∈ r, d' ≠ markD D) ∧ Dfr lo φ w r

theorem Dfr.evo {lo : Nat} {φ φ' : Phi} {w w' : World} (hv : Evo w φ w' φ') : ∀ {ds : List Deferred}, Dfr lo φ w ds → Dfr lo φ' w' ds
  | [], _ => trivial
  | d :: r, ⟨⟨D, h1, h2, h3, h4, h5⟩, h6⟩ => by
    have hlt : D < w.heap.size := (Array.getElem?_eq_some_iff.1 h3).1
    exact ⟨⟨D, h1, h2, (hv.block D hlt h4).trans h3, hv.notLive_keep hlt h4, h5⟩, Dfr.evo hv h6⟩

structure St (lo nt nb base : Nat) (φ : Phi) (w : World) (M : Mem) (e : Env) (a : Act) : Prop where
  mem : MemRel nb base φ w M
  dfr : Dfr lo φ w a.defers
  low : lo ≤ w.heap.size
  size : a.tmps.size = nt
  slots : ∀ i, Rep φ base w (Env.get e i) (a.tmps.getD i undef)

theorem MemRel.lt {nb base : Nat} {φ : Phi} {w : World} {M : Mem} (h : MemRel nb base φ w M) {t : Nat} {r : Row} (ht : φ t = some r) (hp : 0 < r.cap) : r.g < w.heap.size := by
  obtain ⟨o, _, ho⟩ := h.obj t r ht
  exact ho.dom hp

theorem MemRel.fresh {nb base : Nat} {φ : Phi} {w : World} {M : Mem} (h : MemRel nb base φ w M) {b : Nat} (hb : w.heap.size ≤ b) : notLive φ b := by
  intro t r ht hp he
  have := h.lt ht hp
  omega

theorem St.evo {lo nt nb base : Nat} {φ φ' : Phi} {w w' : World} {M M' : Mem} {e : Env} {a : Act} (h : St lo nt nb base φ w M e a) (hv : Evo w φ w' φ') (hm : MemRel nb base φ' w' M') : St lo nt nb base φ' w' M' e a :=
  ⟨hm, h.dfr.evo hv, Nat.le_trans h.low hv.size, h.size, fun i => Rep.evo hv (h.slots i)⟩

/-- A cell of a row, as the world reads it. -/
theorem ORel.cell {φ : Phi} {base : Nat} {w : World} {r : Row} {o : Ob} (h : ORel φ base w r o) {j k : Nat} (hj : j < r.n) (hk : k < r.sz) :
    ∃ c, w.cell? ⟨r.g, j * r.sz + k, none⟩ = some c ∧ c.oneCell' = true ∧ Rep φ base w (o.c.f j k) c := by
  obtain ⟨cur, h1, h2, h3⟩ := h.row (Con.isC_of_n (by have := h.n; omega)) (by have := h.le; omega)
  obtain ⟨c, e1, e2, e3⟩ := h3 j k hj hk
  exact ⟨c, by rw [cell_of_row w r.g _ cur r.e (0, 0) h1]; exact e1, e2, e3⟩

theorem ORel.isC {φ : Phi} {base : Nat} {w : World} {r : Row} {o : Ob} (h : ORel φ base w r o) (hn : 0 < r.n) : o.c.isC = true := Con.isC_of_n (by have := h.n; omega)

theorem ORel.frozen {φ : Phi} {base : Nat} {w : World} {r : Row} {o : Ob} (h : ORel φ base w r o) (hp : 0 < r.cap) (k : Nat) : w.frozen? ⟨r.g, k, none⟩ = false := by
  by_cases hC : o.c.isC = false
  · have hs := h.spec
    cases hc : o.c with
    | loop st pend e nt ps as bd inf =>
      rw [hc] at hs
      obtain ⟨_, _, L, hL⟩ := hs
      simp [World.frozen?, hL.at_]
    | _ => rw [hc] at hC; cases hC
  have hC : o.c.isC = true := by simpa using hC
  obtain ⟨cur, h1, _⟩ := h.row hC hp
  exact frozen_of_row w r.g k cur r.e h1

end Go.Tri
