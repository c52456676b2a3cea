/-
  VALUES AND MEMORIES THAT READ ALIKE; a loop whose rounds end alike; arguments that read alike.
-/
import Derived.Test.YtafibngpgllcfaaA23
namespace Go.Tri
variable {lo : Nat}

/-- What reads as x reads as y. -/
def Sub (x y : V) : Prop := ∀ φ base w v, Rep φ base w x v → Rep φ base w y v
theorem Sub.refl (x : V) : Sub x x := fun _ _ _ _ h => h
theorem Sub.of {x y : V} (h : x = y) : Sub x y := h ▸ Sub.refl x
theorem sub_any (x : V) : Sub x .any := fun _ _ _ _ _ => trivial
theorem sub_agg {n : Nat} {g g' : Nat → V} (h : ∀ i, i < n → Sub (g i) (g' i)) : Sub (.agg n g) (.agg n g') := by
  rintro φ base w v ⟨cs, h1, h2, h3⟩
  exact ⟨cs, h1, h2, fun i hi => by obtain ⟨c, e1, e2, e3⟩ := h3 i hi; exact ⟨c, e1, e2, h i hi _ _ _ _ e3⟩⟩
theorem sub_tup {n : Nat} {g g' : Nat → V} (h : ∀ i, i < n → Sub (g i) (g' i)) : Sub (.tup n g) (.tup n g') := by
  rintro φ base w v ⟨cs, h1, h2, h3⟩
  exact ⟨cs, h1, h2, fun i hi => by obtain ⟨c, e1, e3⟩ := h3 i hi; exact ⟨c, e1, h i hi _ _ _ _ e3⟩⟩
theorem sub_clo {f n : Nat} {g g' : Nat → V} (h : ∀ i, i < n → Sub (g i) (g' i)) : Sub (.clo f n g) (.clo f n g') := by
  rintro φ base w v ⟨cs, h1, h2, h3⟩
  exact ⟨cs, h1, h2, fun i hi => by obtain ⟨c, e1, e3⟩ := h3 i hi; exact ⟨c, e1, h i hi _ _ _ _ e3⟩⟩
theorem sub_at {sz o : Nat} {g g' : Nat → V} (h : ∀ i, i < sz → Sub (g i) (g' i)) : Sub (.at_ sz g o) (.at_ sz g' o) := by
  rintro φ base w v ⟨b, off, h1, h2, h3, h4⟩
  exact ⟨b, off, h1, h2, h3, fun k hk => by obtain ⟨c, e1, e2, e3⟩ := h4 k hk; exact ⟨c, e1, e2, h k hk _ _ _ _ e3⟩⟩
theorem sub_seq {fr : Bool} {sz n : Nat} {f f' : Nat → Nat → V} (h : ∀ j k, j < n → k < sz → Sub (f j k) (f' j k)) : Sub (.seq fr sz n f) (.seq fr sz n f') := by
  rintro φ base w v ⟨A, cap, h1, h2, h3, h4, h5⟩
  refine ⟨A, cap, h1, h2, h3, h4, fun hn => ?_⟩
  obtain ⟨b, off, e1, e2, e3, e4⟩ := h5 hn
  exact ⟨b, off, e1, e2, e3, fun j o hj ho => by obtain ⟨c, g1, g2, g3⟩ := e4 j o hj ho; exact ⟨c, g1, g2, h j o hj ho _ _ _ _ g3⟩⟩
/-- An empty slice of any kind. -/
theorem sub_seq0 {nl : Bool} {sz : Nat} (hsz : 0 < sz) {f : Nat → Nat → V} (fr : Bool) : Sub (.emp nl) (.seq fr sz 0 f) := by
  rintro φ base w v ⟨A, rfl, _⟩
  exact ⟨A, 0, rfl, Nat.le_refl _, Nat.zero_le _, hsz, fun h => absurd h (by omega)⟩

theorem APure.args {P : Program} {f : FuncId} {xs ys : List V} {Q : V → Prop} (hl : xs.length = ys.length) (h : ∀ i, Sub (xs.getD i .any) (ys.getD i .any)) (hy : APure P f ys Q) : APure P f xs Q := by
  unfold APure at hy ⊢
  exact ⟨hy.1, fun w args h1 h2 => hy.2 w args (by omega) (fun i => h i _ _ _ _ (h2 i))⟩
theorem APure.arg1 {P : Program} {f : FuncId} {x y : V} {Q : V → Prop} (h : Sub x y) (hy : APure P f [y] Q) : APure P f [x] Q :=
  APure.args (xs := [x]) (ys := [y]) rfl (fun i => match i with
    | 0 => h
    | _ + 1 => Sub.refl _) hy
theorem APure.arg2 {P : Program} {f : FuncId} {x y x' y' : V} {Q : V → Prop} (h : Sub x y) (h' : Sub x' y') (hy : APure P f [y, y'] Q) : APure P f [x, x'] Q :=
  APure.args (xs := [x, x']) (ys := [y, y']) rfl (fun i => match i with
    | 0 => h
    | 1 => h'
    | _ + 2 => Sub.refl _) hy
theorem APure.arg3 {P : Program} {f : FuncId} {x y x' y' x2 y2 : V} {Q : V → Prop} (h : Sub x y) (h' : Sub x' y') (h2 : Sub x2 y2) (hy : APure P f [y, y', y2] Q) : APure P f [x, x', x2] Q :=
  APure.args (xs := [x, x', x2]) (ys := [y, y', y2]) rfl (fun i => match i with
    | 0 => h
    | 1 => h'
    | 2 => h2
    | _ + 3 => Sub.refl _) hy
theorem APure.arg4 {P : Program} {f : FuncId} {x y x' y' x2 y2 x3 y3 : V} {Q : V → Prop} (h : Sub x y) (h' : Sub x' y') (h2 : Sub x2 y2) (h3 : Sub x3 y3) (hy : APure P f [y, y', y2, y3] Q) : APure P f [x, x', x2, x3] Q :=
  APure.args (xs := [x, x', x2, x3]) (ys := [y, y', y2, y3]) rfl (fun i => match i with
    | 0 => h
    | 1 => h'
    | 2 => h2
    | 3 => h3
    | _ + 4 => Sub.refl _) hy

def SubL : List V → List V → Prop
  | [], [] => True
  | x :: xs, y :: ys => Sub x y ∧ SubL xs ys
  | _, _ => False

theorem SubL.zip : ∀ (keys : List Nat) {xs ys : List V}, SubL xs ys → ∀ i, Sub (Env.get (keys.zip xs) i) (Env.get (keys.zip ys) i)
  | [], _, _, _, _ => Sub.refl _
  | k :: keys, [], [], _, _ => Sub.refl _
  | k :: keys, x :: xs, y :: ys, h, i => by
    simp only [List.zip_cons_cons, Env.get]
    split
    · exact h.1
    · exact SubL.zip keys h.2 i
  | _ :: _, [], _ :: _, h, _ => h.elim
  | _ :: _, _ :: _, [], h, _ => h.elim

theorem SubL.refl : ∀ xs : List V, SubL xs xs
  | [] => trivial
  | x :: xs => ⟨Sub.refl x, SubL.refl xs⟩

/-- What is no cells, whole. -/
def Con.rest : Con → Option Con
  | .loop st pend e nt ps as bd inf => some (.loop st pend e nt ps as bd inf)
  | .mpi es => some (.mpi es)
  | _ => none
theorem Con.rest_isC {c : Con} (h : c.isC = true) : c.rest = none := by cases c <;> first | rfl | cases h
theorem Con.rest_eq {c d : Con} (h : d.rest = c.rest) (hc : c.isC = false) : d = c := by
  have h1 : c.rest = some c := by cases c <;> first | rfl | cases hc
  rw [h1] at h
  cases d <;> first | exact Option.some.inj h | cases h

/-- Objects that read alike. -/
def ObSub (o o' : Ob) : Prop := o'.e = o.e ∧ o'.sz = o.sz ∧ o'.ver = o.ver ∧ o'.c.n = o.c.n ∧ (o'.c.rest = o.c.rest ∧ o'.c.kc = o.c.kc) ∧ ∀ j k, j < o.c.n → k < o.sz → Sub (o.c.f j k) (o'.c.f j k)
theorem ObSub.refl (o : Ob) : ObSub o o := ⟨rfl, rfl, rfl, rfl, ⟨rfl, rfl⟩, fun _ _ _ _ => Sub.refl _⟩
theorem ObSub.of {o o' : Ob} (h : o = o') : ObSub o o' := h ▸ ObSub.refl o

theorem ObSub.ci {e sz ver n : Nat} {f : Nat → Nat → V} {g : Nat → Nat → Int} (h : ∀ j k, j < n → k < sz → f j k = .int (g j k)) : ObSub ⟨e, sz, ver, .cv n f⟩ ⟨e, sz, ver, .ci n g⟩ := ⟨rfl, rfl, rfl, rfl, ⟨rfl, rfl⟩, fun j k hj hk => Sub.of (h j k hj hk)⟩
theorem ObSub.cc {e sz ver n : Nat} {f g : Nat → Nat → Int} (h : ∀ j k, j < n → k < sz → f j k = g j k) : ObSub ⟨e, sz, ver, .ci n f⟩ ⟨e, sz, ver, .ci n g⟩ := ⟨rfl, rfl, rfl, rfl, ⟨rfl, rfl⟩, fun j k hj hk => Sub.of (congrArg V.int (h j k hj hk))⟩
theorem ObSub.ii {e sz ver : Nat} {f g : List Int} (h : f = g) : ObSub ⟨e, sz, ver, .il f⟩ ⟨e, sz, ver, .il g⟩ := by subst h; exact ObSub.refl _

def MSub : Mem → Mem → Prop
  | [], _ => True
  | none :: r, _ :: r' => MSub r r'
  | none :: r, [] => MSub r []
  | some o :: r, some o' :: r' => ObSub o o' ∧ MSub r r'
  | some _ :: _, _ => False

theorem MSub.refl : ∀ M : Mem, MSub M M
  | [] => trivial
  | none :: r => MSub.refl r
  | some o :: r => ⟨ObSub.refl o, MSub.refl r⟩

theorem same0 {vs : List V} {M : Mem} {I : List V → Mem → Prop} (h : I vs M) : ∃ vs' M', SubL vs vs' ∧ MSub M M' ∧ I vs' M' := ⟨vs, M, SubL.refl vs, MSub.refl M, h⟩
theorem same1 {vs : List V} {M : Mem} {I : List V → Mem → Prop} {mu : List V → Mem → Nat} {n : Nat} (h : I vs M ∧ mu vs M < n) : ∃ vs' M', SubL vs vs' ∧ MSub M M' ∧ I vs' M' ∧ mu vs' M' < n := ⟨vs, M, SubL.refl vs, MSub.refl M, h⟩
/-- The values as they are, another memory that reads alike. -/
theorem memA0 {vs : List V} {M : Mem} {I : List V → Mem → Prop} (M' : Mem) (hm : MSub M M') (h : I vs M') : ∃ vs' M', SubL vs vs' ∧ MSub M M' ∧ I vs' M' := ⟨vs, M', SubL.refl vs, hm, h⟩
theorem memA1 {vs : List V} {M : Mem} {I : List V → Mem → Prop} {mu : List V → Mem → Nat} {n : Nat} (M' : Mem) (hm : MSub M M') (h : I vs M' ∧ mu vs M' < n) : ∃ vs' M', SubL vs vs' ∧ MSub M M' ∧ I vs' M' ∧ mu vs' M' < n := ⟨vs, M', SubL.refl vs, hm, h⟩

theorem MSub.get : ∀ {M M' : Mem}, MSub M M' → ∀ t o, M.get t = some o → ∃ o', M'.get t = some o' ∧ ObSub o o'
  | [], _, _, t, o, h => by simp [Mem.get, List.getD] at h
  | none :: r, x :: r', hm, t, o, h => by
    cases t with
    | zero => simp [Mem.get] at h
    | succ t => exact MSub.get (M := r) (M' := r') hm t o (by simpa [Mem.get] using h)
  | none :: r, [], hm, t, o, h => by
    cases t with
    | zero => simp [Mem.get] at h
    | succ t =>
      obtain ⟨o', h1, _⟩ := MSub.get (M := r) (M' := []) hm t o (by simpa [Mem.get] using h)
      simp [Mem.get, List.getD] at h1
  | some x :: r, some y :: r', hm, t, o, h => by
    cases t with
    | zero => simp [Mem.get] at h; subst h; exact ⟨y, by simp [Mem.get], hm.1⟩
    | succ t =>
      obtain ⟨o', h1, h2⟩ := MSub.get (M := r) (M' := r') hm.2 t o (by simpa [Mem.get] using h)
      exact ⟨o', by simpa [Mem.get] using h1, h2⟩
  | some _ :: _, none :: _, hm, _, _, _ => hm.elim
  | some _ :: _, [], hm, _, _, _ => hm.elim

theorem MemRel.sub {nb base : Nat} {φ : Phi} {w : World} {M M' : Mem} (h : MemRel nb base φ w M) (hs : MSub M M') : MemRel nb base φ w M' := by
  refine ⟨fun t r ht => ?_, h.inj, h.own, h.le⟩
  obtain ⟨o, h1, h2⟩ := h.obj t r ht
  obtain ⟨o', h3, e1, e2, e3, e4, ⟨e6, e7⟩, e5⟩ := hs.get t o h1
  refine ⟨o', h3, by rw [e4]; exact h2.n, by rw [e3]; exact h2.ver, by rw [e2]; exact h2.sz, by rw [e1]; exact h2.e, h2.pos, h2.le, h2.max, h2.dom, ?_, fun hC' hp => ?_⟩
  · by_cases hC : o.c.isC = true
    · refine Con.Spec_of ?_ (fun hk => by
        rw [e7] at hk
        have hsp := h2.spec
        cases hc : o.c with
        | kil => rw [hc] at hsp; exact hsp
        | _ => rw [hc] at hk; cases hk)
      have h1 : o'.c.rest = none := by rw [e6, Con.rest_isC hC]
      cases hc : o'.c with
      | loop => rw [hc] at h1; cases h1
      | mpi => rw [hc] at h1; cases h1
      | _ => rfl
    · rw [Con.rest_eq e6 (by simpa using hC)]
      exact h2.spec
  have hC : o.c.isC = true := by
    have h1 : o.c.rest = none := by rw [← e6, Con.rest_isC hC']
    cases hc : o.c with
    | loop => rw [hc] at h1; cases h1
    | mpi => rw [hc] at h1; cases h1
    | _ => rfl
  obtain ⟨cur, g1, g2, g3⟩ := h2.row hC hp
  refine ⟨cur, g1, g2, fun j k hj hk => ?_⟩
  obtain ⟨c, k1, k2, k3⟩ := g3 j k hj hk
  exact ⟨c, k1, k2, e5 j k (by rw [h2.n]; exact hj) (by rw [h2.sz]; exact hk) _ _ _ _ k3⟩

theorem St.sub {nt nb base : Nat} {φ : Phi} {w : World} {M M' : Mem} {keys : List Nat} {vs vs' : List V} {a : Act} (h : St lo nt nb base φ w M (keys.zip vs) a) (hv : SubL vs vs') (hm : MSub M M') : St lo nt nb base φ w M' (keys.zip vs') a :=
  ⟨h.mem.sub hm, h.dfr, h.low, h.size, fun i => hv.zip keys i _ _ _ _ (h.slots i)⟩

def loopQA (keys : List Nat) (kp : Nat → Bool) (I : List V → Mem → Prop) (mu : List V → Mem → Nat) (n : Nat) (Q : Exit → Env → Mem → Prop) : Exit → Env → Mem → Prop
  | .normal, e, M => (NamedL kp (sel keys e) ∧ NamedM kp (maskM kp 0 M)) ∧ ∃ vs M', SubL (sel keys e) vs ∧ MSub (maskM kp 0 M) M' ∧ I vs M' ∧ mu vs M' < n
  | x, e, M => Q x e M

section
variable {X : Cx}
theorem AW_loopA (hT : TabOk X.P X.T) (keys : List Nat) (kp : Nat → Bool) (I : List V → Mem → Prop) (mu : List V → Mem → Nat) {c : Code} {Q : Exit → Env → Mem → Prop} {e : Env} {M : Mem} (hk : ∀ t, t < M.length → kp t = true)
    (h0 : ∃ vs M', SubL (sel keys e) vs ∧ MSub M M' ∧ I vs M')
    (round : ∀ vs M', I vs M' → awp X c (loopQA keys kp I mu (mu vs M') Q) (keys.zip vs) M') : AW X.P X.nt X.nb X.rd (.loop c) Q e M := by
  rw [AW_def]
  intro ro lo base φ w a hro hst
  have hdom : ∀ t r, φ t = some r → kp t = true := by
    intro t r ht
    obtain ⟨o, ho, _⟩ := hst.mem.obj t r ht
    refine hk t ?_
    rcases Nat.lt_or_ge t M.length with h | h
    · exact h
    · simp [Mem.get, List.getD, List.getElem?_eq_none h] at ho
  obtain ⟨vs0, M0, s1, s2, hI0⟩ := h0
  refine wpIn_loop_ghost (fun n a' w' => ∃ vs M' φ', mu vs M' = n ∧ I vs M' ∧ St lo X.nt X.nb base φ' w' M' (keys.zip vs) a' ∧ Evo w φ w' φ') (mu vs0 M0)
    ⟨_, M0, φ, rfl, hI0, (hst.sel keys).sub s1 s2, Evo.refl w φ⟩ ?_
  rintro n a' w' ⟨vs, M', φ', rfl, hI, hst', hv⟩
  refine wpIn_mono (awp_ok hT hro c _ base φ' w' M' _ a' hst' (round vs M' hI)) ?_
  rintro x a₁ w₁ ⟨hx, e₁, M₁, φ₁, hq, hst₁, hv₁⟩
  cases x with
  | normal =>
    obtain ⟨hn, vs2, M2, t1, t2, hI2, hmu⟩ := hq
    exact ⟨_, hmu, _, _, _, rfl, hI2, ((hst₁.sel keys).mask hn.1 hn.2).sub t1 t2, (hv.trans hv₁).restr hdom⟩
  | panic c => exact hx.elim
  | outgrown => exact hx.elim
  | _ => exact ⟨trivial, e₁, M₁, φ₁, hq, hst₁, hv.trans hv₁⟩
end
end Go.Tri

/-
  WHAT A CALL DOES NOT SEE: a contract over the first names of a memory holds over the whole of it. And loops over functions whose record keeps few slots.
-/
namespace Go.Tri
variable {lo : Nat}
open Go.RowKit

/-- Names that are kept, and no immutable memory but fresh one. -/
def Flat (kp : Nat → Bool) : V → Prop
  | .ints fr _ => fr = true
  | .seq fr sz n f => fr = true ∧ ∀ j k, j < n → k < sz → Flat kp (f j k)
  | .at_ _ _ _ => False
  | .full _ => False
  | .sl t _ _ _ => kp t = true
  | .ptr t _ _ _ => kp t = true
  | .yld t => kp t = true
  | .mp t => kp t = true
  | .agg n g => ∀ k, k < n → Flat kp (g k)
  | .tup n g => ∀ k, k < n → Flat kp (g k)
  | .clo _ n g => ∀ k, k < n → Flat kp (g k)
  | .bnd _ n g => ∀ k, k < n → Flat kp (g k)
  | .ifc _ x => Flat kp x
  | _ => True
def FlatE (kp : Nat → Bool) : Env → Prop
  | [] => True
  | (_, v) :: r => Flat kp v ∧ FlatE kp r
def FlatL (kp : Nat → Bool) : List V → Prop
  | [] => True
  | v :: r => Flat kp v ∧ FlatL kp r
def FlatC (kp : Nat → Bool) (sz : Nat) : Con → Prop
  | .cv n f => ∀ j k, j < n → k < sz → Flat kp (f j k)
  | .one cs => FlatL kp cs
  | .loop _ _ e _ _ _ _ _ => FlatE kp e
  | _ => True
def FlatM (kp : Nat → Bool) : Mem → Prop
  | [] => True
  | some ob :: r => FlatC kp ob.sz ob.c ∧ FlatM kp r
  | none :: r => FlatM kp r

theorem Flat.named {kp : Nat → Bool} : ∀ {x : V}, Flat kp x → Named kp x := by
  intro x
  induction x with
  | agg n g ih => exact fun h k hk => ih k (h k hk)
  | tup n g ih => exact fun h k hk => ih k (h k hk)
  | clo f n g ih => exact fun h k hk => ih k (h k hk)
  | bnd f n g ih => exact fun h k hk => ih k (h k hk)
  | ifc ty x ih => exact fun h => ih h
  | seq fr sz n f ih => exact fun h j k hj hk => ih j k (h.2 j k hj hk)
  | at_ => exact fun h => h.elim
  | full => exact fun _ => trivial
  | sl => exact fun h => h
  | ptr => exact fun h => h
  | yld => exact fun h => h
  | mp => exact fun h => h
  | _ => exact fun _ => trivial

theorem FlatE.named {kp : Nat → Bool} : ∀ {e : Env}, FlatE kp e → NamedE kp e
  | [], _ => trivial
  | (_, _) :: _, h => ⟨h.1.named, FlatE.named h.2⟩
theorem FlatL.named {kp : Nat → Bool} : ∀ {e : List V}, FlatL kp e → NamedL kp e
  | [], _ => trivial
  | _ :: _, h => ⟨h.1.named, FlatL.named h.2⟩
theorem FlatC.named {kp : Nat → Bool} {sz : Nat} {c : Con} (h : FlatC kp sz c) : NamedC kp sz c := by
  cases c with
  | cv n f => exact fun j k hj hk => (h j k hj hk).named
  | one cs => exact FlatL.named h
  | loop => exact FlatE.named h
  | _ => exact trivial
theorem FlatM.named {kp : Nat → Bool} : ∀ {M : Mem}, FlatM kp M → NamedM kp M
  | [], _ => trivial
  | some _ :: _, h => ⟨h.1.named, FlatM.named h.2⟩
  | none :: r, h => FlatM.named (M := r) h

theorem FlatE.get {kp : Nat → Bool} : ∀ {e : Env}, FlatE kp e → ∀ i, Flat kp (Env.get e i)
  | [], _, i => trivial
  | (j, v) :: r, h, i => by
    simp only [Env.get]
    split
    · exact h.1
    · exact FlatE.get h.2 i
theorem FlatL.get {kp : Nat → Bool} : ∀ {vs : List V}, FlatL kp vs → ∀ i, Flat kp (vs.getD i .any)
  | [], _, i => by simp [Flat]
  | v :: r, h, 0 => by simpa using h.1
  | v :: r, h, i + 1 => by have := FlatL.get h.2 i; simpa using this
theorem FlatC.f {kp : Nat → Bool} {sz : Nat} {c : Con} (h : FlatC kp sz c) (j k : Nat) (hj : j < c.n) (hk : k < sz) : Flat kp (c.f j k) := by
  cases c with
  | cv n f => exact h j k hj hk
  | one cs => exact FlatL.get h k
  | loop => exact trivial
  | _ => exact trivial
theorem FlatM.get {kp : Nat → Bool} : ∀ {M : Mem}, FlatM kp M → ∀ t ob, M.get t = some ob → FlatC kp ob.sz ob.c
  | [], _, t, ob, h => by simp [Mem.get, List.getD] at h
  | some ob :: r, h, 0, ob', he => by simp [Mem.get] at he; subst he; exact h.1
  | none :: r, h, 0, ob', he => by simp [Mem.get] at he
  | some ob :: r, h, t + 1, ob', he => FlatM.get h.2 t ob' (by simpa [Mem.get] using he)
  | none :: r, h, t + 1, ob', he => FlatM.get (M := r) h t ob' (by simpa [Mem.get] using he)

/-- What a call leaves of the names that it sees, and the others as they were. -/
def joinK (kp : Nat → Bool) : Nat → Mem → Mem → Mem
  | _, _, [] => []
  | i, [], o :: r => (bif kp i then none else o) :: joinK kp (i + 1) [] r
  | i, x :: M, o :: r => (bif kp i then x else o) :: joinK kp (i + 1) M r

theorem joinK_get (kp : Nat → Bool) : ∀ (B : Mem) (i : Nat) (M : Mem) (t : Nat), t < B.length → (joinK kp i M B).get t = if kp (i + t) = true then M.get t else B.get t
  | [], _, _, t, h => by simp at h
  | o :: r, i, [], 0, _ => by cases hk : kp i <;> simp [joinK, Mem.get, List.getD, hk]
  | o :: r, i, x :: M, 0, _ => by cases hk : kp i <;> simp [joinK, Mem.get, hk]
  | o :: r, i, [], t + 1, h => by
    have := joinK_get kp r (i + 1) [] t (by simpa using h)
    simp only [joinK, Mem.get, List.getD_cons_succ] at this ⊢
    rw [this, show i + 1 + t = i + (t + 1) from by omega]
    simp [List.getD]
  | o :: r, i, x :: M, t + 1, h => by
    have := joinK_get kp r (i + 1) M t (by simpa using h)
    simp only [joinK, Mem.get, List.getD_cons_succ] at this ⊢
    rw [this, show i + 1 + t = i + (t + 1) from by omega]

theorem get_lt {M : Mem} {t : Nat} {o : Ob} (h : M.get t = some o) : t < M.length := by
  rcases Nat.lt_or_ge t M.length with h' | h'
  · exact h'
  · simp [Mem.get, List.getD, List.getElem?_eq_none h'] at h

theorem Rep_graft {kp : Nat → Bool} {φ φ' : Phi} {b0 base : Nat} {w : World} (h : ∀ t, kp t = true → φ' t = φ t) (hb : b0 ≤ base) (hn : ∀ b, base ≤ b → notLive φ b → notLive φ' b) :
    ∀ {x : V} {v : Value}, Flat kp x → Rep φ base w x v → Rep φ' b0 w x v := by
  intro x
  induction x with
  | lit u => exact fun _ hr => hr
  | ints fr xs =>
    rintro v hf ⟨A, cap, rfl, h1, h2, h4⟩
    refine ⟨A, cap, rfl, h1, h2, fun hp => ?_⟩
    obtain ⟨b, off, rfl, g1, g2, g3⟩ := h4 hp
    exact ⟨b, off, rfl, hn b (g2 hf) g1, fun hq => Nat.le_trans hb (g2 hq), g3⟩
  | seq fr sz n f ih =>
    rintro v hf ⟨A, cap, rfl, h1, h2, h3, h4⟩
    refine ⟨A, cap, rfl, h1, h2, h3, fun hp => ?_⟩
    obtain ⟨b, off, rfl, g1, g2, g3⟩ := h4 hp
    refine ⟨b, off, rfl, hn b (g2 hf.1) g1, fun hq => Nat.le_trans hb (g2 hq), fun j o hj ho => ?_⟩
    obtain ⟨c, e1, e2, e3⟩ := g3 j o hj ho
    exact ⟨c, e1, e2, ih j o (hf.2 j o hj ho) e3⟩
  | at_ => exact fun hf => hf.elim
  | sl t ver off len =>
    rintro v hf ⟨r, hr, hx⟩
    exact ⟨r, by rw [h t hf]; exact hr, hx⟩
  | ptr t ver i o =>
    rintro v hf ⟨r, hr, hx⟩
    exact ⟨r, by rw [h t hf]; exact hr, hx⟩
  | yld t =>
    rintro v hf ⟨r, hr, hx⟩
    exact ⟨r, by rw [h t hf]; exact hr, hx⟩
  | mp t =>
    rintro v hf ⟨r, hr, hx⟩
    exact ⟨r, by rw [h t hf]; exact hr, hx⟩
  | agg n g ih =>
    rintro v hf ⟨cs, rfl, h1, h2⟩
    exact ⟨cs, rfl, h1, fun i hi => by obtain ⟨c, e1, e2, e3⟩ := h2 i hi; exact ⟨c, e1, e2, ih i (hf i hi) e3⟩⟩
  | tup n g ih =>
    rintro v hf ⟨cs, rfl, h1, h2⟩
    exact ⟨cs, rfl, h1, fun i hi => by obtain ⟨c, e1, e3⟩ := h2 i hi; exact ⟨c, e1, ih i (hf i hi) e3⟩⟩
  | clo f n g ih =>
    rintro v hf ⟨cs, rfl, h1, h2⟩
    exact ⟨cs, rfl, h1, fun i hi => by obtain ⟨c, e1, e3⟩ := h2 i hi; exact ⟨c, e1, ih i (hf i hi) e3⟩⟩
  | bnd f n g ih =>
    rintro v hf ⟨cs, rfl, h1, h2⟩
    exact ⟨cs, rfl, h1, fun i hi => by obtain ⟨c, e1, e3⟩ := h2 i hi; exact ⟨c, e1, ih i (hf i hi) e3⟩⟩
  | ifc ty x ih =>
    rintro v hf ⟨u, rfl, h1⟩
    exact ⟨u, rfl, ih hf h1⟩
  | emp => exact fun _ hr => hr
  | full => exact fun hf => hf.elim
  | any => exact fun _ _ => trivial

theorem ORel_graft {kp : Nat → Bool} {φ φ' : Phi} {b0 base : Nat} {w : World} {r : Row} {o : Ob} (h : ∀ t, kp t = true → φ' t = φ t) (hb : b0 ≤ base) (hn : ∀ b, base ≤ b → notLive φ b → notLive φ' b) (hf : FlatC kp o.sz o.c) (ho : ORel φ base w r o) : ORel φ' b0 w r o := by
  refine ⟨ho.n, ho.ver, ho.sz, ho.e, ho.pos, ho.le, ho.max, ho.dom, ?_, fun hC hp => ?_⟩
  · have hs := ho.spec
    cases hc : o.c with
    | loop st pend e nt ps as bd inf =>
      rw [hc] at hs hf
      obtain ⟨k1, k2, L, g1, g2, g3, g4, g5, g6, g7, g8⟩ := hs
      exact ⟨k1, k2, L, g1, g2, g3, g4, g5, g6, g7, fun i => Rep_graft h hb hn (FlatE.get hf i) (g8 i)⟩
    | kil => rw [hc] at hs; exact hs
    | mpi => rw [hc] at hs; exact hs
    | _ => exact trivial
  · obtain ⟨cur, e1, e2, e3⟩ := ho.row hC hp
    refine ⟨cur, e1, e2, fun j k hj hk => ?_⟩
    obtain ⟨c, f1, f2, f3⟩ := e3 j k hj hk
    exact ⟨c, f1, f2, Rep_graft h hb hn (hf.f j k (by rw [ho.n]; exact hj) (by rw [ho.sz]; exact hk)) f3⟩

/-- Nothing in it is called fresh. -/
def NoFrE : Env → Prop
  | [] => True
  | (_, v) :: r => NoFr v ∧ NoFrE r
def NoFrL : List V → Prop
  | [] => True
  | v :: r => NoFr v ∧ NoFrL r
def NoFrC : Con → Prop
  | .cv _ f => ∀ j k, NoFr (f j k)
  | .one cs => NoFrL cs
  | .loop _ _ e _ _ _ _ _ => NoFrE e
  | _ => True
def NoFrM : Mem → Prop
  | [] => True
  | some ob :: r => NoFrC ob.c ∧ NoFrM r
  | none :: r => NoFrM r
theorem NoFrE.get : ∀ {e : Env}, NoFrE e → ∀ i, NoFr (Env.get e i)
  | [], _, i => trivial
  | (j, v) :: r, h, i => by
    simp only [Env.get]
    split
    · exact h.1
    · exact NoFrE.get h.2 i
theorem NoFrL.get : ∀ {vs : List V}, NoFrL vs → ∀ i, NoFr (vs.getD i .any)
  | [], _, i => by simp [NoFr]
  | v :: r, h, 0 => by simpa using h.1
  | v :: r, h, i + 1 => by have := NoFrL.get h.2 i; simpa using this
theorem NoFrM.get : ∀ {M : Mem}, NoFrM M → ∀ t ob, M.get t = some ob → NoFrC ob.c
  | [], _, t, ob, h => by simp [Mem.get, List.getD] at h
  | some ob :: r, h, 0, ob', he => by simp [Mem.get] at he; subst he; exact h.1
  | none :: r, h, 0, ob', he => by simp [Mem.get] at he
  | some ob :: r, h, t + 1, ob', he => NoFrM.get h.2 t ob' (by simpa [Mem.get] using he)
  | none :: r, h, t + 1, ob', he => NoFrM.get (M := r) h t ob' (by simpa [Mem.get] using he)
theorem NoFrC.f {c : Con} (h : NoFrC c) (j k : Nat) : NoFr (c.f j k) := by
  cases c with
  | cv n f => exact h j k
  | one cs => exact NoFrL.get h k
  | _ => exact trivial
theorem ORel_base {φ : Phi} {b0 base : Nat} {w : World} {r : Row} {o : Ob} (hf : NoFrC o.c) (ho : ORel φ base w r o) : ORel φ b0 w r o := by
  refine ⟨ho.n, ho.ver, ho.sz, ho.e, ho.pos, ho.le, ho.max, ho.dom, ?_, fun hC hp => ?_⟩
  · have hs := ho.spec
    cases hc : o.c with
    | loop st pend e nt ps as bd inf =>
      rw [hc] at hs hf
      obtain ⟨k1, k2, L, g1, g2, g3, g4, g5, g6, g7, g8⟩ := hs
      exact ⟨k1, k2, L, g1, g2, g3, g4, g5, g6, g7, fun i => Rep_base (NoFrE.get hf i) (g8 i)⟩
    | kil => rw [hc] at hs; exact hs
    | mpi => rw [hc] at hs; exact hs
    | _ => exact trivial
  · obtain ⟨cur, e1, e2, e3⟩ := ho.row hC hp
    refine ⟨cur, e1, e2, fun j k hj hk => ?_⟩
    obtain ⟨c, f1, f2, f3⟩ := e3 j k hj hk
    exact ⟨c, f1, f2, Rep_base (hf.f j k) f3⟩

/-- The versions of the names that are kept. -/
def vers : Mem → List Nat
  | [] => []
  | some ob :: r => ob.ver :: vers r
  | none :: r => 0 :: vers r
theorem vers_get : ∀ {M : Mem} {t : Nat} {o : Ob}, M.get t = some o → (vers M)[t]? = some o.ver
  | [], t, o, h => by simp [Mem.get, List.getD] at h
  | some ob :: r, 0, o, h => by simp [Mem.get] at h; subst h; rfl
  | none :: r, 0, o, h => by simp [Mem.get] at h
  | some ob :: r, t + 1, o, h => by simpa [vers] using vers_get (M := r) (t := t) (by simpa [Mem.get] using h)
  | none :: r, t + 1, o, h => by simpa [vers] using vers_get (M := r) (t := t) (by simpa [Mem.get] using h)

/-- A CALL over some names holds over all: what it doesn't see stays. -/
theorem ACM_frame {P : Program} {f : FuncId} {xs : List V} {B : Mem} {Q : V → Mem → Prop} (kp : Nat → Bool) (hkp : ∀ t, kp t = true → t < B.length) (hx : NamedL kp xs) (hxf : NoFrL xs) (hM : NamedM kp (maskM kp 0 B)) (hMf : NoFrM (maskM kp 0 B))
    (h : ACM P f xs (maskM kp 0 B) (fun R M' => Flat kp R ∧ FlatM kp (maskM kp 0 M') ∧ vers (maskM kp 0 M') = vers (maskM kp 0 B) ∧ Q R (maskM kp 0 M'))) :
    ACM P f xs B (fun R M'' => ∃ M', Q R M' ∧ M'' = joinK kp 0 M' B) := by
  unfold ACM at h ⊢
  refine ⟨h.1, fun nb base φ w args _ hm hs ha => ?_⟩
  have hmr : MemRel nb base (restr kp φ) w (maskM kp 0 B) := hm.mask hM
  have hms : MemRel B.length w.heap.size (restr kp φ) w (maskM kp 0 B) := by
    refine ⟨fun t r ht => ?_, hmr.inj, fun t r ht hb _ => ?_, Nat.le_refl _⟩
    · obtain ⟨o, h1, h2⟩ := hmr.obj t r ht
      exact ⟨o, h1, ORel_base (hMf.get t o h1) h2⟩
    · exfalso
      unfold restr at ht
      split at ht
      · next hk => have := hkp t hk; omega
      · cases ht
  refine (h.2 B.length w.heap.size (restr kp φ) w args (fun _ h => nomatch h) hms hs (fun i => Rep_base (NoFrL.get hxf i) (Rep_restr (NamedL.get hx i) (ha i)))).mono ?_
  rintro e w' ⟨v, R, M', φ', rfl, ⟨hR, hMfl, hver, hQ⟩, hm', hr, hev⟩
  obtain ⟨φ2, hφ2⟩ : ∃ φ2 : Phi, φ2 = fun t => if kp t = true then φ' t else φ t := ⟨_, rfl⟩
  have e1 : ∀ t, kp t = true → φ2 t = φ' t := fun t ht => by rw [hφ2]; exact if_pos ht
  have e2 : ∀ t, ¬ kp t = true → φ2 t = φ t := fun t ht => by rw [hφ2]; exact if_neg ht
  have er : ∀ t, kp t = true → restr kp φ t = φ t := fun t ht => if_pos ht
  have erm : ∀ t, kp t = true → φ2 t = restr kp φ' t := fun t ht => by rw [e1 t ht]; exact (if_pos ht).symm
  have hevo : Evo w φ w' φ2 := by
    refine ⟨hev.os, hev.tape, hev.output, hev.size, fun b hb hnl => hev.block b hb (notLive_restr hnl), fun t r ht hp hlt hnl => ?_, fun t r ht => ?_, hev.drawn⟩
    · by_cases hk : kp t = true
      · rw [e1 t hk] at ht
        exact hev.live t r ht hp hlt (notLive_restr hnl)
      · rw [e2 t hk] at ht
        exact hnl t r ht hp rfl
    · by_cases hk : kp t = true
      · rw [e1 t hk]
        exact hev.names t r (by rw [er t hk]; exact ht)
      · exact ⟨r, by rw [e2 t hk]; exact ht, rfl, rfl, Nat.le_refl _, fun _ => rfl⟩
  -- blocks that are not seen
  have hhid : ∀ t r, ¬ kp t = true → φ t = some r → 0 < r.cap → notLive (restr kp φ) r.g := by
    intro t r hk ht hp t' r' ht' hp' he
    unfold restr at ht'
    split at ht'
    · next hk' =>
      have := hm.inj t' t r' r ht' ht hp' hp he
      subst this
      exact hk hk'
    · cases ht'
  have hmk : MemRel B.length w.heap.size (restr kp φ') w' (maskM kp 0 M') := hm'.mask hMfl.named
  have hn : ∀ b, w.heap.size ≤ b → notLive (restr kp φ') b → notLive φ2 b := by
    intro b hb hnl t r ht hp he
    by_cases hk : kp t = true
    · exact hnl t r (by rw [← erm t hk]; exact ht) hp he
    · rw [e2 t hk] at ht
      have := hm.lt ht hp
      omega
  have hn' : ∀ b, w.heap.size ≤ b → notLive φ' b → notLive φ2 b := fun b hb hnl => hn b hb (notLive_restr hnl)
  have hlen : ∀ t r, φ2 t = some r → t < B.length := by
    intro t r ht
    by_cases hk : kp t = true
    · exact hkp t hk
    · rw [e2 t hk] at ht
      obtain ⟨o, h1, _⟩ := hm.obj t r ht
      exact get_lt h1
  refine ⟨v, R, joinK kp 0 (maskM kp 0 M') B, φ2, rfl, ⟨_, hQ, rfl⟩, ⟨fun t r ht => ?_, fun t t' r r' ht ht' hp hp' hg => ?_, fun t r ht hb hp => ?_, Nat.le_trans hm.le hev.size⟩, Rep_graft (kp := kp) e1 hm.le hn' hR hr, hevo⟩
  · rw [joinK_get kp B 0 _ t (hlen t r ht), Nat.zero_add]
    by_cases hk : kp t = true
    · rw [if_pos hk]
      rw [erm t hk] at ht
      obtain ⟨o, h1, h2⟩ := hmk.obj t r ht
      exact ⟨o, h1, ORel_graft erm hm.le hn (hMfl.get t o h1) h2⟩
    · rw [if_neg hk]
      rw [e2 t hk] at ht
      obtain ⟨o, h1, h2⟩ := hm.obj t r ht
      exact ⟨o, h1, h2.evo hevo (fun hp => hev.block _ (h2.dom hp) (hhid t r hk ht hp))⟩
  · by_cases hk : kp t = true <;> by_cases hk' : kp t' = true
    · rw [e1 t hk] at ht
      rw [e1 t' hk'] at ht'
      exact hm'.inj t t' r r' ht ht' hp hp' hg
    · exfalso
      rw [e1 t hk] at ht
      rw [e2 t' hk'] at ht'
      have hd := (hm.obj t' r' ht').choose_spec.2.dom hp'
      exact hev.live t r ht hp (by rw [hg]; exact hd) (by rw [hg]; exact hhid t' r' hk' ht' hp')
    · exfalso
      rw [e2 t hk] at ht
      rw [e1 t' hk'] at ht'
      have hd := (hm.obj t r ht).choose_spec.2.dom hp
      exact hev.live t' r' ht' hp' (by rw [← hg]; exact hd) (by rw [← hg]; exact hhid t r hk ht hp)
    · rw [e2 t hk] at ht
      rw [e2 t' hk'] at ht'
      exact hm.inj t t' r r' ht ht' hp hp' hg
  · by_cases hk : kp t = true
    · -- the version is as before, and so is the row, where the name was there before
      rw [erm t hk] at ht
      obtain ⟨o, h1, h2⟩ := hmk.obj t r ht
      by_cases hq : ∃ r0, φ t = some r0
      · obtain ⟨r0, hr0⟩ := hq
        have hr0' : restr kp φ t = some r0 := by rw [er t hk]; exact hr0
        obtain ⟨o0, g1, g2⟩ := hmr.obj t r0 hr0'
        obtain ⟨r1, k1, _, _, _, k5⟩ := hev.names t r0 hr0'
        have hrr : r1 = r := by
          have : restr kp φ' t = some r1 := by rw [← erm t hk, e1 t hk]; exact k1
          rw [this] at ht
          exact Option.some.inj ht
        subst hrr
        have v1 := vers_get h1
        rw [hver, vers_get g1] at v1
        have : r1.ver = r0.ver := by rw [← h2.ver, ← g2.ver]; exact (Option.some.inj v1).symm
        rw [k5 this] at hp ⊢
        exact hm.own t r0 hr0 hb hp
      · rcases Nat.lt_or_ge r.g w.heap.size with hlt | hge
        · exfalso
          -- a new name in an old block: it is that of another one that is seen
          have hk1 : φ' t = some r := by rw [← e1 t hk, erm t hk]; exact ht
          refine hev.live t r hk1 hp hlt fun t1 r1 ht1 hp1 he1 => ?_
          have hk1' : kp t1 = true := by
            unfold restr at ht1
            split at ht1
            · assumption
            · cases ht1
          obtain ⟨o1, g1, g2⟩ := hmr.obj t1 r1 ht1
          obtain ⟨r2, k1, _, _, _, k5⟩ := hev.names t1 r1 ht1
          have hr2 : restr kp φ' t1 = some r2 := by rw [← erm t1 hk1', e1 t1 hk1']; exact k1
          obtain ⟨o2, f1, f2⟩ := hmk.obj t1 r2 hr2
          have v1 := vers_get f1
          rw [hver, vers_get g1] at v1
          have : r2.ver = r1.ver := by rw [← f2.ver, ← g2.ver]; exact (Option.some.inj v1).symm
          have hr21 := k5 this
          subst hr21
          have := hm'.inj t t1 r r2 hk1 k1 hp hp1 he1.symm
          subst this
          rw [er t hk1'] at ht1
          exact hq ⟨_, ht1⟩
        · exact Nat.le_trans hm.le hge
    · rw [e2 t hk] at ht
      exact hm.own t r ht hb hp

/-- A CALL; behind it only what was there ahead of it is kept. -/
theorem ACM_maskQ {P : Program} {f : FuncId} {xs : List V} {M : Mem} {kp : Nat → Bool} {Q : V → Mem → Prop} {nb0 : Option Nat} (hk : ∀ t, t < M.length → kp t = true)
    (h : ACM P f xs M (fun R M' => Named kp R ∧ NamedM kp (maskM kp 0 M') ∧ Q R (maskM kp 0 M')) nb0) : ACM P f xs M Q nb0 := by
  unfold ACM at h ⊢
  refine ⟨h.1, fun nb base φ w args hnb hm hs ha => ?_⟩
  refine (h.2 nb base φ w args hnb hm hs ha).mono ?_
  rintro e w' ⟨v, R, M', φ', rfl, ⟨hR, hM, hQ⟩, h2, h3, h4⟩
  refine ⟨v, R, _, restr kp φ', rfl, hQ, h2.mask hM, Rep_restr hR h3, h4.restr fun t r ht => ?_⟩
  obtain ⟨o, ho, _⟩ := hm.obj t r ht
  refine hk t ?_
  rcases Nat.lt_or_ge t M.length with h | h
  · exact h
  · simp [Mem.get, List.getD, List.getElem?_eq_none h] at ho

/-- 'for .. := range g { .. }', outside all rounds; the record keeps some slots alone. -/
theorem AW_rangeK {X : Cx} (hrd : X.rd = false) {g : Operand} {ps : Array Tmp} {as bd : Code} {Q : Exit → Env → Mem → Prop} {e : Env} {M : Mem} {f n : Nat} {cap : Nat → V} (inf : LoopInf X.nt ps as bd) (e0 : Env) (he0 : ∀ i, Env.get e0 i = Env.get e i ∨ Env.get e0 i = .any) (hg : evA e g = .clo f n cap)
    (h : ACM X.P f (.yld M.length :: (List.range n).map cap) (M.put M.length (loopOb .ready none e0 X.nt ps as bd inf)) (fun _ M' => rangeQ M.length e Q M')) :
    AW X.P X.nt X.nb X.rd (.rangeFunc g ps as bd) Q e M := by
  rw [AW_def]
  intro ro lo base φ w a hro hst
  have hro := hro hrd
  subst hro
  have hnm : φ M.length = none := by
    cases hq : φ M.length with
    | none => rfl
    | some r =>
      obtain ⟨o', h1, _⟩ := hst.mem.obj _ r hq
      simp [Mem.get, List.getD] at h1
  have hgv := hst.eval g
  rw [hg] at hgv
  obtain ⟨cs, hv, hcs1, hcs2⟩ := hgv
  unfold ACM at h
  obtain ⟨hfn, hcall⟩ := h
  refine wpIn_rangeFunc ?_
  intro fn _
  have hevD : Evo w φ (w.alloc (.deferred (some []))) φ := evo_alloc w φ _
  have hmD : MemRel X.nb base φ (w.alloc (.deferred (some []))) M := hst.mem.evo hevD (fun t r ht hp => heap_alloc_old w _ (hst.mem.lt ht hp))
  obtain ⟨L, hLd⟩ : ∃ L : Loop, L = { state := .ready, pending := none, fn := fn, tmps := a.tmps, params := ps, assign := as, body := bd, defers := w.heap.size } := ⟨_, rfl⟩
  have hL1 : L.state = .ready := by rw [hLd]
  have hL2 : L.pending = none := by rw [hLd]
  have hL3 : L.params = ps := by rw [hLd]
  have hL4 : L.assign = as := by rw [hLd]
  have hL5 : L.body = bd := by rw [hLd]
  have hL6 : L.tmps = a.tmps := by rw [hLd]
  obtain ⟨hm1, hev1⟩ := new_loop (nt := X.nt) hmD hnm (e := e0) ps as bd inf L hL1 hL2 hL3 hL4 hL5 (by rw [hL6]; exact hst.size) (fun i => by rw [hL6]; exact Rep.evo hevD ((he0 i).elim (fun h => by rw [h]; exact hst.slots i) (fun h => by rw [h]; exact trivial)))
  have hsz : (w.alloc (.deferred (some []))).heap.size = w.heap.size + 1 := by simp
  rw [hsz] at hm1 hev1
  obtain ⟨w1, hw1⟩ : ∃ w1, (w.alloc (.deferred (some []))).alloc (.loop L) = w1 := ⟨_, rfl⟩
  rw [hw1] at hm1 hev1
  have hw01 : Evo w φ w1 (φ.upd M.length ⟨w.heap.size + 1, 1, 0, 1, 0, 0⟩) := hevD.trans hev1
  have hD1 : w1.heap[w.heap.size]? = some (.deferred (some [])) := by
    rw [← hw1]
    exact (heap_alloc_old _ _ (by simp)).trans (World.alloc_heap_new w _)
  have hnlD : notLive (φ.upd M.length ⟨w.heap.size + 1, 1, 0, 1, 0, 0⟩) w.heap.size := by
    intro t r ht hp e
    by_cases h : t = M.length
    · subst h
      rw [Phi.upd_same] at ht
      cases ht
      simp only at e
      omega
    · rw [Phi.upd_other _ _ h] at ht
      have := hst.mem.lt ht hp
      omega
  have hcall := hcall X.nb base _ w1 (#[.func (.yield (w.heap.size + 1)) #[] #[]] ++ cs) (fun _ h => nomatch h) hm1 (by simp [hcs1]; omega) (fun i => by
    cases i with
    | zero =>
      rw [show (#[Value.func (.yield (w.heap.size + 1)) #[] #[]] ++ cs).getD 0 undef = Value.func (.yield (w.heap.size + 1)) #[] #[] from by simp [Array.getD]]
      exact ⟨_, Phi.upd_same _ _ _, rfl, fun _ => ⟨Nat.le_refl _, rfl⟩⟩
    | succ i =>
      by_cases hi : i < n
      · obtain ⟨u, q1, q2⟩ := hcs2 i hi
        rw [show (#[Value.func (.yield (w.heap.size + 1)) #[] #[]] ++ cs).getD (i + 1) undef = u from by
          rw [Array.getD_eq_getD_getElem?, Array.getElem?_append_right (by simp)]
          simp [q1]]
        rw [show (V.yld M.length :: (List.range n).map cap).getD (i + 1) .any = cap i from by simp [List.getD, hi]]
        exact Rep.evo hw01 q2
      · rw [show (V.yld M.length :: (List.range n).map cap).getD (i + 1) .any = .any from by
          simp only [List.getD]
          rw [List.getElem?_eq_none (by simp; omega)]
          rfl]
        trivial)
  refine ⟨w.heap.size + 1, [markD w.heap.size], w1, { target := .fn (.func f) cs, args := #[.func (.yield (w.heap.size + 1)) #[] #[]] }, w1, f, #[.func (.yield (w.heap.size + 1)) #[] #[]] ++ cs, w1, ?_, ?_, fun _ _ => trivial, ?_, (fun h => nomatch h), ?_⟩
  · rw [← hw1, hLd]
    exact run_enterLoop_outer _ _ _ _ _
  · simp only [resolve]
    rw [hv]
    simp [Deferred.ofValue, Act.eval]
  · simp only [invoke]
    exact run_callFunc hfn _ w1
  · refine callsIn_FZ (ro := none) (hcall.mono ?_)
    rintro e' w3 ⟨v, R, M', φ', rfl, ⟨st, pend, hst', e3, nt3, ps3, as3, bd3, inf3, ho, hq⟩, hm3, _, hev3⟩
    have ht3 := hev3.row hm3 (Phi.upd_same φ M.length _) rfl ho rfl
    obtain ⟨_, _, L3, hL3, hs3⟩ := step_loop hm3 ht3 ho
    obtain ⟨hm4, hev4⟩ := hs3 .exhausted pend
    have hend := run_endLoop (P := X.P) hL3.at_ (by rw [hL3.st]; exact hst')
    have e4 : ({ L3 with state := .exhausted, pending := pend } : Loop) = { L3 with state := .exhausted } := by rw [← hL3.pend]
    rw [e4] at hm4 hev4
    obtain ⟨w4, hw4⟩ : ∃ w4, w3.putObj (w.heap.size + 1) (.loop { L3 with state := .exhausted }) = w4 := ⟨_, rfl⟩
    replace hend : (Instr.endLoop (w.heap.size + 1)).run X.P w3 = .ok L3.pending w4 := by rw [← hw4]; exact hend
    replace hm4 : MemRel X.nb base φ' w4 (M'.put M.length (loopOb .exhausted pend e3 nt3 ps3 as3 bd3 inf3)) := by rw [← hw4]; exact hm4
    replace hev4 : Evo w3 φ' w4 φ' := by rw [← hw4]; exact hev4
    rw [hL3.pend] at hend
    have hevA : Evo w φ w4 φ' := (hw01.trans hev3).trans hev4
    have hst4 : St lo X.nt X.nb base φ' w4 (M'.put M.length (loopOb .exhausted pend e3 nt3 ps3 as3 bd3 inf3)) e { a with defers := [markD w.heap.size] ++ a.defers } := by
      refine ⟨hm4, ⟨⟨w.heap.size, rfl, hst.low, ?_, ?_, fun d' hd' he => ?_⟩, hst.dfr.evo hevA⟩, Nat.le_trans hst.low hevA.size, hst.size, fun i => Rep.evo hevA (hst.slots i)⟩
      · have hlt1 : w.heap.size < w1.heap.size := (Array.getElem?_eq_some_iff.1 hD1).1
        rw [(hev3.trans hev4).block _ hlt1 hnlD]
        exact hD1
      · have hlt1 : w.heap.size < w1.heap.size := (Array.getElem?_eq_some_iff.1 hD1).1
        exact (hev3.trans hev4).notLive_keep hlt1 hnlD
      · have : ∀ ds : List Deferred, Dfr lo φ w ds → ∀ d ∈ ds, d ≠ markD w.heap.size := by
          intro ds
          induction ds with
          | nil => intro _ d hd; cases hd
          | cons d0 r ih =>
            rintro ⟨⟨D, q1, q2, q3, q4, q5⟩, q6⟩ d hd
            rcases List.mem_cons.1 hd with rfl | hd
            · intro h
              rw [q1] at h
              have : D < w.heap.size := (Array.getElem?_eq_some_iff.1 q3).1
              cases h
              omega
            · exact ih q6 d hd
        exact this _ hst.dfr d' hd' he
    refine ⟨pend, _, hend, ?_⟩
    cases pend with
    | none => exact ⟨trivial, e, _, φ', hq, hst4, hevA⟩
    | some c =>
      cases c with
      | ret => exact wpIn_ret ⟨trivial, e, _, φ', hq, hst4, hevA⟩
      | exit id => exact wpIn_exit ⟨trivial, e, _, φ', hq, hst4, hevA⟩
      | _ => exact hq.elim

theorem keys_any (keys : List Nat) (e : Env) (i : Nat) : Env.get (keys.zip (sel keys e)) i = Env.get e i ∨ Env.get (keys.zip (sel keys e)) i = .any := by
  induction keys with
  | nil => exact .inr rfl
  | cons k r ih =>
    simp only [sel, List.map_cons, List.zip_cons_cons, Env.get]
    by_cases h : k = i
    · subst h; rw [if_pos rfl]; exact .inl rfl
    · rw [if_neg h]; exact ih

end Go.Tri

/-
  LOOPS OVER FUNCTIONS, the record as an unknown; appends within known room, of unknown length; steps over memories that are not known.
-/
namespace Go.Tri
variable {lo : Nat}
open Go.RowKit

/-- What is known of a loop's record. -/
structure LpOk (lp : LoopState → Option Code → Ob) (e : Env) : Prop where
  ver : ∀ st pd, (lp st pd).ver = 0
  named : ∀ st pd kp, NamedE kp e → NamedC kp (lp st pd).sz (lp st pd).c
  flat : ∀ st pd kp, FlatE kp e → FlatC kp (lp st pd).sz (lp st pd).c
  nofr : ∀ st pd, NoFrE e → NoFrC (lp st pd).c

def rndL (lp : LoopState → Option Code → Ob) (t : Nat) (K : V → Mem → Prop) : Exit → Env → Mem → Prop
  | .normal, _, M => M.get t = some (lp .busy none) ∧ K (.bool true) (M.put t (lp .ready none))
  | .ret, _, M => M.get t = some (lp .busy none) ∧ K (.bool false) (M.put t (lp .done (some .ret)))
  | .exit id, _, M => M.get t = some (lp .busy none) ∧ K (.bool false) (M.put t (lp .done (some (.exit id))))
  | _, _, _ => False
def asnL (X : Cx) (lp : LoopState → Option Code → Ob) (t : Nat) (bd : Code) (K : V → Mem → Prop) : Exit → Env → Mem → Prop
  | .normal, e1, M => M.get t = some (lp .ready none) ∧ awp X bd (rndL lp t K) e1 (M.put t (lp .busy none))
  | _, _, _ => False
def rangeL (lp : LoopState → Option Code → Ob) (t : Nat) (e : Env) (Q : Exit → Env → Mem → Prop) (M : Mem) : Prop :=
  ∃ st pend, st ≠ .busy ∧ M.get t = some (lp st pend) ∧ (match pend with
    | none => Q .normal e (M.put t (lp .exhausted none))
    | some .ret => Q .ret e (M.put t (lp .exhausted (some .ret)))
    | some (.exit id) => Q (.exit id) e (M.put t (lp .exhausted (some (.exit id))))
    | _ => False)

/-- As asnQ. -/
def asnA (P : Program) (nt nb t : Nat) (bd : Code) (K : V → Mem → Prop) : Exit → Env → Mem → Prop
  | .normal, e1, M => LoopAt M t .ready none fun o => AW P nt nb true bd (rndQ t K) e1 (M.put t (o .busy none))
  | _, _, _ => False

/-- A ROUND, from the loop's own code. -/
theorem YW_of' {P : Program} {t : Nat} {xs : List V} {M : Mem} {e : Env} {nt : Nat} {ps : Array Tmp} {as bd : Code} {inf : LoopInf nt ps as bd} (ho : M.get t = some (loopOb .ready none e nt ps as bd inf)) (hps : xs.length = ps.size) (hpt : ps.toList.all (fun p => Nat.blt p nt) = true)
    {K : V → Mem → Prop} (h : ∀ nb, AW P nt nb true as (asnA P nt nb t bd K) (putArgs (ps.toList.zip xs) e) M) : YW P t xs M K := by
  unfold YW
  intro nb base φ w args r ht hm hs hargs
  obtain ⟨k1, k2, L, hL, _⟩ := step_loop hm ht ho
  have hy := run_yield (P := P) (args := args) hL.at_ (by rw [hs, hps, hL.ps])
  refine ⟨k2, L.fn, _, L.assign, L.body, hy, roundIn_of_wpIn trivial ?_⟩
  rw [hL.assign, hL.body, hL.ps]
  have hfold : (ps.zip args).foldl (fun tmps (p, a) => tmps.setIfInBounds p a) L.tmps = (ps.toList.zip args.toList).foldl (fun tmps (p, a) => tmps.setIfInBounds p a) L.tmps := by
    rw [← Array.foldl_toList, Array.toList_zip]
  rw [hfold]
  obtain ⟨q1, q2⟩ := putArgs_ok ps.toList xs args.toList e L.tmps (by simpa using hps) (by simp; omega) (fun p hp => by
    have := List.all_eq_true.1 hpt p hp
    rw [hL.size]
    simpa using this) (fun i => by
      have := hargs i
      rw [show args.toList.getD i undef = args.getD i undef from by simp [Array.getD_eq_getD_getElem?, List.getD]]
      exact this) hL.slots
  have hst : St 0 nt nb base φ w M (putArgs (ps.toList.zip xs) e) { tmps := (ps.toList.zip args.toList).foldl (fun tmps (p, a) => tmps.setIfInBounds p a) L.tmps, defers := [] } :=
    ⟨hm, trivial, Nat.zero_le _, by rw [q1, hL.size], q2⟩
  refine wpIn_mono (AW_def.1 (h nb) (some r.g) 0 base φ w _ (fun h => nomatch h) hst) ?_
  rintro x a1 w1 ⟨hx, e1, M1, φ1, hq, hst1, hv1⟩
  cases x with
  | normal =>
    obtain ⟨e', nt', ps', as', bd', inf', ho1, hb⟩ := hq
    have ht1 := hv1.row hst1.mem ht k2 ho1 rfl
    obtain ⟨_, _, L1, hL1, hs1⟩ := step_loop hst1.mem ht1 ho1
    obtain ⟨hm2, hv2⟩ := hs1 .busy none
    refine ⟨_, run_beginRound hL1.at_ hL1.st, ?_⟩
    have hst2 := hst1.evo hv2 hm2
    have e1' : ({ L1 with state := .busy, pending := none } : Loop) = { L1 with state := .busy } := by rw [← hL1.pend]
    rw [e1'] at hst2 hv2
    refine wpIn_mono (AW_def.1 hb (some r.g) 0 base φ1 _ _ (fun h => nomatch h) hst2) ?_
    rintro x a3 w3 ⟨hx, e3, M3, φ3, hq, hst3, hv3⟩
    have hv13 : Evo w φ w3 φ3 := (hv1.trans hv2).trans hv3
    have fin : ∀ (jump : Option Code) (b : Bool), b = jump.isNone → LoopAt M3 t .busy none (fun o => K (.bool b) (M3.put t (o (if b then .ready else .done) jump))) →
        ∃ v w', (Instr.endRound r.g jump).run P w3 = .ok v w' ∧ ∃ v' R M' φ', Ending.returned v = .returned v' ∧ K R M' ∧ MemRel nb base φ' w' M' ∧ Rep φ' base w' R v' ∧ Evo w φ w' φ' := by
      rintro jump b hb ⟨e4, nt4, ps4, as4, bd4, inf4, ho3, hK⟩
      have ht3 := hv13.row hst3.mem ht k2 ho3 rfl
      obtain ⟨_, _, L3, hL3, hs3⟩ := step_loop hst3.mem ht3 ho3
      obtain ⟨hm4, hv4⟩ := hs3 (if b then .ready else .done) jump
      have hr := run_endRound (P := P) jump hL3.at_
      rw [← hb] at hr
      exact ⟨_, _, hr, _, .bool b, _, φ3, rfl, hK, hm4, rfl, hv13.trans hv4⟩
    cases x with
    | normal => exact fin none true rfl hq
    | ret => exact fin (some .ret) false rfl hq
    | exit id => exact fin (some (.exit id)) false rfl hq
    | goto l => exact hq.elim
    | panic c => exact hx.elim
    | outgrown => exact hx.elim
  | panic c => exact hx.elim
  | outgrown => exact hx.elim
  | ret => exact hq.elim
  | exit id => exact hq.elim
  | goto l => exact hq.elim

/-- 'for .. := range g { .. }', the loop's record unknown. -/
theorem AW_rangeL {X : Cx} (hT : TabOk X.P X.T) (hrd : X.rd = false) {g : Operand} {ps : Array Tmp} {as bd : Code} {Q : Exit → Env → Mem → Prop} {e : Env} {M : Mem} {f n : Nat} {cap : Nat → V} (keys : List Nat) (hg : evA e g = .clo f n cap) (hpt : ps.toList.all (fun p => Nat.blt p X.nt) = true)
    (h : ∀ lp : LoopState → Option Code → Ob, LpOk lp (keys.zip (sel keys e)) →
      (∀ xs M' K, M'.get M.length = some (lp .ready none) → xs.length = ps.size → (∀ nb, AW X.P X.nt nb true as (asnL ⟨X.P, X.T, X.wr, X.nt, nb, true⟩ lp M.length bd K) (putArgs (ps.toList.zip xs) (keys.zip (sel keys e))) M') → YW X.P M.length xs M' K) →
      ACM X.P f (.yld M.length :: (List.range n).map cap) (M.put M.length (lp .ready none)) (fun _ M' => rangeL lp M.length e Q M')) :
    AW X.P X.nt X.nb X.rd (.rangeFunc g ps as bd) Q e M := by
  have inf : LoopInf X.nt ps as bd := ⟨fun _ => none, none⟩
  refine AW_rangeK hrd inf (keys.zip (sel keys e)) (keys_any keys e) hg ((h (fun st pd => loopOb st pd (keys.zip (sel keys e)) X.nt ps as bd inf) ⟨fun _ _ => rfl, fun _ _ _ h => h, fun _ _ _ h => h, fun _ _ h => h⟩ ?_).mono ?_)
  · intro xs M' K ho hps ha
    refine YW_of' ho hps hpt fun nb => ?_
    refine AW_mono ?_ (ha nb)
    rintro x e1 M1 hq
    cases x with
    | normal =>
      refine ⟨_, _, _, _, _, _, hq.1, ?_⟩
      refine AW_mono ?_ (AW_of_awp (X := ⟨X.P, X.T, X.wr, X.nt, nb, true⟩) hT hq.2)
      rintro x e2 M2 hq2
      cases x with
      | normal => exact ⟨_, _, _, _, _, _, hq2.1, hq2.2⟩
      | ret => exact ⟨_, _, _, _, _, _, hq2.1, hq2.2⟩
      | exit id => exact ⟨_, _, _, _, _, _, hq2.1, hq2.2⟩
      | _ => exact hq2.elim
    | _ => exact hq.elim
  · rintro R M' ⟨st, pend, hst, hg, hq⟩
    refine ⟨st, pend, hst, _, _, _, _, _, _, hg, ?_⟩
    cases pend with
    | none => exact hq
    | some c =>
      cases c with
      | ret => exact hq
      | exit id => exact hq
      | _ => exact hq.elim

theorem stepO {o : Option (Obl × V × Mem)} {p : Obl} {v : V} {M' : Mem} {K : V → Mem → Prop} (h : o = some (p, v, M')) (hk : p.req (forceV v fun v => K v M')) : (match (generalizing := false) o with
    | some (p, v, M') => p.req (forceV v fun v => K v M')
    | none => False) := by rw [h]; exact hk
theorem aop_load {T : Tab} {nm t : Nat} {x : Operand} {ev : Operand → V} {M : Mem} {n ver i o : Nat} {ob : Ob} {p : Obl} {v : V} (hx : ev x = .ptr n ver i o) (h : M.get n = some ob)
    (hv : (bif knownT (T.row t) then (bif isAggT (T.row t) then
        some (ldaO ver ob.ver (o + (T.row t).sz) ob.sz, V.agg (T.row t).sz fun k => ob.c.f i (o + k))
      else some (ldO ver ob.ver o ob.sz, ob.c.f i o)) else none) = some (p, v)) : aop T nm (.load t x) ev M = some (p, v, M) := by
  simp only [aop, hx, loadV, loadV', h]
  rw [hv]

/-- An append within room that is known. -/
theorem aApp_kil {T : Tab} {nm e t len : Nat} {M : Mem} {ts ys : List Int} {x : V} {p : Obl} (hT : (knownT (T.row e) && Nat.blt 0 (T.row e).sz && Nat.blt 0 (T.row e).bs) = true) (hs : (T.row e).sz = 1)
    (hx : srcV M (T.row e).sz (isI64T (T.row e)) x = some (p, .ints ys)) (hM : M.get t = some ⟨e, 1, 0, .kil ts⟩) (h0 : 0 < ts.length) (hl : len + ys.length ≤ ts.length) :
    aAppend T nm e (.sl t 0 0 len) x M = some (.and p (.and .tt (.le ((T.row e).bs * (len + ys.length)) 140737488355328)), .sl t 0 0 (len + ys.length), M.put t ⟨e, 1, 0, .kil (ts.take len ++ ys ++ ts.drop (len + ys.length))⟩) := by
  unfold aAppend
  rw [hT, hx]
  simp only [cond_true, hM, hs, Nat.beq_refl, Bool.and_self, kilApp, Src.n]
  rw [show Nat.blt 0 ts.length = true from by rw [Nat.blt_eq]; exact h0, show Nat.ble (len + ys.length) ts.length = true from Nat.ble_eq_true_of_le hl]
  rfl

/-- The first n names. -/
def cutN (n : Nat) : Nat → Bool := fun t => Nat.blt t n
theorem cutN_iff {n t : Nat} : cutN n t = true ↔ t < n := by unfold cutN; rw [Nat.blt_eq]

theorem Flat.up {kp kp' : Nat → Bool} (h : ∀ t, kp t = true → kp' t = true) : ∀ {x : V}, Flat kp x → Flat kp' x := by
  intro x
  induction x with
  | ints fr xs => exact fun h => h
  | seq fr sz n f ih => exact fun h => ⟨h.1, fun j k hj hk => ih j k (h.2 j k hj hk)⟩
  | at_ => exact fun h => h.elim
  | full => exact fun h => h.elim
  | sl => exact fun hf => h _ hf
  | ptr => exact fun hf => h _ hf
  | yld => exact fun hf => h _ hf
  | mp => exact fun hf => h _ hf
  | agg n g ih => exact fun hf k hk => ih k (hf k hk)
  | tup n g ih => exact fun hf k hk => ih k (hf k hk)
  | clo f n g ih => exact fun hf k hk => ih k (hf k hk)
  | bnd f n g ih => exact fun hf k hk => ih k (hf k hk)
  | ifc ty x ih => exact fun hf => ih hf
  | _ => exact fun _ => trivial
theorem FlatE.up {kp kp' : Nat → Bool} (h : ∀ t, kp t = true → kp' t = true) : ∀ {e : Env}, FlatE kp e → FlatE kp' e
  | [], _ => trivial
  | (_, _) :: _, hf => ⟨hf.1.up h, FlatE.up h hf.2⟩
theorem FlatL.up {kp kp' : Nat → Bool} (h : ∀ t, kp t = true → kp' t = true) : ∀ {e : List V}, FlatL kp e → FlatL kp' e
  | [], _ => trivial
  | _ :: _, hf => ⟨hf.1.up h, FlatL.up h hf.2⟩
theorem FlatC.up {kp kp' : Nat → Bool} (h : ∀ t, kp t = true → kp' t = true) {sz : Nat} {c : Con} (hf : FlatC kp sz c) : FlatC kp' sz c := by
  cases c with
  | cv n f => exact fun j k hj hk => (hf j k hj hk).up h
  | one cs => exact FlatL.up h hf
  | loop => exact FlatE.up h hf
  | _ => exact trivial

/-- A ROUND; behind it only what was there ahead of it is kept. -/
theorem YW_maskQ {P : Program} {t : Nat} {xs : List V} {M : Mem} {kp : Nat → Bool} {Q : V → Mem → Prop} (hk : ∀ t, t < M.length → kp t = true)
    (h : YW P t xs M (fun R M' => Named kp R ∧ NamedM kp (maskM kp 0 M') ∧ Q R (maskM kp 0 M'))) : YW P t xs M Q := by
  unfold YW at h ⊢
  intro nb base φ w args r hr hm hs ha
  obtain ⟨h1, f, tmps, assign, body, h2, h3⟩ := h nb base φ w args r hr hm hs ha
  refine ⟨h1, f, tmps, assign, body, h2, h3.mono ?_⟩
  rintro e w' ⟨v, R, M', φ', rfl, ⟨hR, hM, hQ⟩, h5, h6, h7⟩
  refine ⟨v, R, _, restr kp φ', rfl, hQ, h5.mask hM, Rep_restr hR h6, h7.restr fun t r ht => ?_⟩
  obtain ⟨o, ho, _⟩ := hm.obj t r ht
  exact hk t (get_lt ho)
end Go.Tri

/-
  CALLS THAT MAKE MEMORY ALONE; what is handed over as it is from then on.
-/
namespace Go.Tri
open Go.RowKit

theorem notLive_sub {φ φ' : Phi} (hs : ∀ t r, φ t = some r → φ' t = some r) {b : Nat} (h : notLive φ' b) : notLive φ b := fun t r ht hp => h t r (hs t r ht) hp

/-- What holds over more names holds over those that it tells of. -/
theorem Rep_sub {φ φ' : Phi} {base : Nat} {w w' : World} (hs : ∀ t r, φ t = some r → φ' t = some r) : ∀ {x : V} {v v' : Value}, Rep φ base w x v → Rep φ' base w' x v' → Rep φ base w' x v' := by
  have name : ∀ {t : Nat} {r r' : Row}, φ t = some r → φ' t = some r' → r' = r := fun h h' => by rw [hs _ _ h] at h'; exact (Option.some.inj h').symm
  intro x
  induction x with
  | lit u => exact fun _ h => h
  | ints fr xs =>
    rintro v v' _ ⟨A, cap, rfl, h1, h2, h3⟩
    refine ⟨A, cap, rfl, h1, h2, fun hn => ?_⟩
    obtain ⟨b, off, rfl, g1, g2, g3⟩ := h3 hn
    exact ⟨b, off, rfl, notLive_sub hs g1, g2, g3⟩
  | full xs =>
    rintro v v' _ ⟨A, rfl, h1, h3⟩
    refine ⟨A, rfl, h1, fun hn => ?_⟩
    obtain ⟨b, off, rfl, g1, g3⟩ := h3 hn
    exact ⟨b, off, rfl, notLive_sub hs g1, g3⟩
  | seq fr sz n f ih =>
    rintro v v' ⟨_, _, _, _, _, _, k4⟩ ⟨A, cap, rfl, h1, h2, h3, h4⟩
    refine ⟨A, cap, rfl, h1, h2, h3, fun hn => ?_⟩
    obtain ⟨b, off, rfl, g1, g2, g3⟩ := h4 hn
    obtain ⟨_, _, _, _, _, q3⟩ := k4 hn
    refine ⟨b, off, rfl, notLive_sub hs g1, g2, fun j o hj ho => ?_⟩
    obtain ⟨c, e1, e2, e3⟩ := g3 j o hj ho
    obtain ⟨c', _, _, f3⟩ := q3 j o hj ho
    exact ⟨c, e1, e2, ih j o f3 e3⟩
  | sl t ver off len =>
    rintro v v' ⟨r, hr, _⟩ ⟨r', hr', h⟩
    obtain rfl := name hr hr'
    exact ⟨_, hr, h⟩
  | ptr t ver i o =>
    rintro v v' ⟨r, hr, _⟩ ⟨r', hr', h⟩
    obtain rfl := name hr hr'
    exact ⟨_, hr, h⟩
  | yld t =>
    rintro v v' ⟨r, hr, _⟩ ⟨r', hr', h⟩
    obtain rfl := name hr hr'
    exact ⟨_, hr, h⟩
  | mp t =>
    rintro v v' ⟨r, hr, _⟩ ⟨r', hr', h⟩
    obtain rfl := name hr hr'
    exact ⟨_, hr, h⟩
  | at_ sz g o ih =>
    rintro v v' ⟨_, _, _, _, _, k⟩ ⟨b, off, rfl, h0, h1, h2⟩
    refine ⟨b, off, rfl, h0, notLive_sub hs h1, fun j hj => ?_⟩
    obtain ⟨c, e1, e2, e3⟩ := h2 j hj
    obtain ⟨_, _, _, f3⟩ := k j hj
    exact ⟨c, e1, e2, ih j f3 e3⟩
  | agg n g ih =>
    rintro v v' ⟨_, _, _, k⟩ ⟨cs, rfl, h1, h2⟩
    exact ⟨cs, rfl, h1, fun i hi => by obtain ⟨c, e1, e2, e3⟩ := h2 i hi; obtain ⟨_, _, _, f3⟩ := k i hi; exact ⟨c, e1, e2, ih i f3 e3⟩⟩
  | tup n g ih =>
    rintro v v' ⟨_, _, _, k⟩ ⟨cs, rfl, h1, h2⟩
    exact ⟨cs, rfl, h1, fun i hi => by obtain ⟨c, e1, e3⟩ := h2 i hi; obtain ⟨_, _, f3⟩ := k i hi; exact ⟨c, e1, ih i f3 e3⟩⟩
  | clo f n g ih =>
    rintro v v' ⟨_, _, _, k⟩ ⟨cs, rfl, h1, h2⟩
    exact ⟨cs, rfl, h1, fun i hi => by obtain ⟨c, e1, e3⟩ := h2 i hi; obtain ⟨_, _, f3⟩ := k i hi; exact ⟨c, e1, ih i f3 e3⟩⟩
  | bnd f n g ih =>
    rintro v v' ⟨_, _, _, k⟩ ⟨cs, rfl, h1, h2⟩
    exact ⟨cs, rfl, h1, fun i hi => by obtain ⟨c, e1, e3⟩ := h2 i hi; obtain ⟨_, _, f3⟩ := k i hi; exact ⟨c, e1, ih i f3 e3⟩⟩
  | emp nl => exact fun _ h => h
  | any => exact fun _ _ => trivial
  | ifc ty x ih =>
    rintro v v' ⟨u, _, k⟩ ⟨u', rfl, h⟩
    exact ⟨u', rfl, ih k h⟩

theorem ORel_sub {φ φ' : Phi} {base : Nat} {w w' : World} (hs : ∀ t r, φ t = some r → φ' t = some r) {r : Row} {o : Ob} (h : ORel φ base w r o) (h' : ORel φ' base w' r o) : ORel φ base w' r o := by
  refine ⟨h'.n, h'.ver, h'.sz, h'.e, h'.pos, h'.le, h'.max, h'.dom, ?_, fun hC hp => ?_⟩
  · have s := h.spec
    have s' := h'.spec
    cases hc : o.c with
    | loop st pend e nt ps as bd inf =>
      rw [hc] at s s'
      obtain ⟨_, _, L0, l0⟩ := s
      obtain ⟨k1, k2, L, g1, g2, g3, g4, g5, g6, g7, g8⟩ := s'
      exact ⟨k1, k2, L, g1, g2, g3, g4, g5, g6, g7, fun i => Rep_sub hs (l0.slots i) (g8 i)⟩
    | kil => rw [hc] at s'; exact s'
    | mpi => rw [hc] at s'; exact s'
    | _ => exact trivial
  · obtain ⟨cur, e1, e2, e3⟩ := h'.row hC hp
    obtain ⟨_, _, _, d3⟩ := h.row hC hp
    refine ⟨cur, e1, e2, fun j k hj hk => ?_⟩
    obtain ⟨c, f1, f2, f3⟩ := e3 j k hj hk
    obtain ⟨_, _, _, g3⟩ := d3 j k hj hk
    exact ⟨c, f1, f2, Rep_sub hs g3 f3⟩

/-- A call that leaves all names as they were, over any memory. -/
theorem AImm_of {P : Program} {f : FuncId} {xs : List V} {R0 : V} (hR : ∀ kp, Named kp R0) (h : ∀ M, ACM P f xs M (fun R M' => R = R0 ∧ ∀ t, t < M.length → M'.get t = M.get t)) : AImm P f xs (fun R => R = R0) := by
  have h0 := h []
  unfold ACM at h0
  unfold AImm
  refine ⟨h0.1, fun nb base φ w M args hm hs ha => ?_⟩
  have h1 := h M
  unfold ACM at h1
  refine (h1.2 nb base φ w args (fun _ h => nomatch h) hm hs ha).mono ?_
  rintro e w' ⟨v, R, M', φ', rfl, ⟨rfl, hM⟩, hm', hr, hev⟩
  have hsub : ∀ t r, φ t = some r → φ' t = some r := by
    intro t r ht
    obtain ⟨o, ho, hrel⟩ := hm.obj t r ht
    obtain ⟨r', h2, _, _, _, h5⟩ := hev.names t r ht
    obtain ⟨o', ho', hrel'⟩ := hm'.obj t r' h2
    rw [hM t (get_lt ho), ho] at ho'
    cases ho'
    rw [h5 (by rw [← hrel'.ver, hrel.ver])] at h2
    exact h2
  have hrs : restr (fun t => (φ t).isSome) φ' = φ := by
    funext t
    unfold restr
    cases ht : φ t with
    | none => simp [ht]
    | some r => simp only [ht, Option.isSome_some, if_true]; exact hsub t r ht
  refine ⟨v, R, rfl, rfl, ⟨fun t r ht => ?_, fun t t' r r' ht ht' hp hp' hg => hm.inj t t' r r' ht ht' hp hp' hg, fun t r ht hb hp => hm.own t r ht hb hp, Nat.le_trans hm.le hev.size⟩, ?_, ?_⟩
  · obtain ⟨o, ho, hrel⟩ := hm.obj t r ht
    obtain ⟨o', ho', hrel'⟩ := hm'.obj t r (hsub t r ht)
    rw [hM t (get_lt ho), ho] at ho'
    cases ho'
    exact ⟨o, ho, ORel_sub hsub hrel hrel'⟩
  · have := Rep_restr (kp := fun t => (φ t).isSome) (hR _) hr
    rwa [hrs] at this
  · have := hev.restr (kp := fun t => (φ t).isSome) (fun t r ht => by simp [ht])
    rwa [hrs] at this

theorem AImm.acm {P : Program} {f : FuncId} {xs : List V} {Q : V → Prop} {M : Mem} {nb0 : Option Nat} (h : AImm P f xs Q) : ACM P f xs M (fun R M' => Q R ∧ M' = M) nb0 := by
  unfold AImm at h
  unfold ACM
  refine ⟨h.1, fun nb base φ w args _ hm hs ha => (h.2 nb base φ w M args hm hs ha).mono ?_⟩
  rintro e w' ⟨v, R, he, hq, h1, h2, h3⟩
  exact ⟨v, R, M, φ, he, ⟨hq, rfl⟩, h1, h2, h3⟩
/-- .. and goes on with what it hands back. -/
theorem AImm.to {P : Program} {f : FuncId} {xs : List V} {r : V} {M : Mem} {Q : V → Mem → Prop} {nb0 : Option Nat} (h : AImm P f xs (fun R => R = r)) (hq : Q r M) : ACM P f xs M Q nb0 :=
  (h.acm (nb0 := nb0)).mono fun R M' hR => by obtain ⟨rfl, rfl⟩ := hR; exact hq

theorem AImm.arg1 {P : Program} {f : FuncId} {x y : V} {Q : V → Prop} (h : Sub x y) (hy : AImm P f [y] Q) : AImm P f [x] Q :=
  AImm.args (xs := [x]) (ys := [y]) rfl (fun i => match i with
    | 0 => h
    | _ + 1 => Sub.refl _) hy
theorem AImm.arg2 {P : Program} {f : FuncId} {x y x' y' : V} {Q : V → Prop} (h : Sub x y) (h' : Sub x' y') (hy : AImm P f [y, y'] Q) : AImm P f [x, x'] Q :=
  AImm.args (xs := [x, x']) (ys := [y, y']) rfl (fun i => match i with
    | 0 => h
    | 1 => h'
    | _ + 2 => Sub.refl _) hy

/-- An object that is handed over whole, and that nobody writes to from then on. -/
theorem ACM_freeze {P : Program} {f : FuncId} {xs : List V} {M : Mem} {Q : V → Mem → Prop} {nb i t ver len : Nat} {e : TypeId} {c : Con} {ys : List Int} (hi : i < xs.length) (hx : xs.getD i .any = .sl t ver 0 len) (hM : M.get t = some ⟨e, 1, ver, c⟩)
    (hc : c = .il ys ∨ c = .kil ys) (hl : len = ys.length) (hn : nb ≤ t) (h : ACM P f (xs.set i (.ints true ys)) (M.put t ⟨e, 1, ver + 1, .il []⟩) Q (some nb)) : ACM P f xs M Q (some nb) := by
  unfold ACM at h ⊢
  refine ⟨h.1, fun nb' base φ w args hnb hm hs ha => ?_⟩
  obtain rfl := hnb nb rfl
  have hai := ha i
  rw [hx] at hai
  obtain ⟨r, hr, _, _, hv⟩ := hai
  obtain ⟨o, ho, hrel⟩ := hm.obj t r hr
  rw [hM] at ho
  cases ho
  have hver : ver = r.ver := hrel.ver
  obtain ⟨v1, A, hv2, v3⟩ := hv hver.symm
  have hcn : c.n = ys.length := by rcases hc with rfl | rfl <;> rfl
  have hrn : r.n = ys.length := by rw [← hcn]; exact hrel.n.symm
  have hrs : r.sz = 1 := hrel.sz.symm
  have hcf : ∀ j, c.f j 0 = .int (ys.getD j 0) := fun j => by rcases hc with rfl | rfl <;> rfl
  obtain ⟨φ1, hφ1⟩ : ∃ φ1 : Phi, φ1 = φ.upd t ⟨r.g, 0, 0, r.sz, r.e, ver + 1⟩ := ⟨_, rfl⟩
  have p1 : φ1 t = some ⟨r.g, 0, 0, r.sz, r.e, ver + 1⟩ := by rw [hφ1]; exact Phi.upd_same _ _ _
  have p2 : ∀ s, s ≠ t → φ1 s = φ s := fun s h => by rw [hφ1]; exact Phi.upd_other _ _ h
  have hlive : ∀ s r', φ1 s = some r' → 0 < r'.cap → s ≠ t ∧ φ s = some r' := by
    intro s r' h1 h2
    by_cases he : s = t
    · subst he; rw [p1] at h1; cases h1; exact absurd h2 (Nat.lt_irrefl 0)
    · exact ⟨he, by rw [← p2 s he]; exact h1⟩
  have hevo : Evo w φ w φ1 := by
    refine ⟨rfl, rfl, rfl, Nat.le_refl _, fun _ _ _ => rfl, fun s r' h1 h2 _ hnl => hnl s r' (hlive s r' h1 h2).2 h2 rfl, fun s r' h1 => ?_, (by first | exact Nat.le_refl _ | exact Nat.le_succ _)⟩
    by_cases he : s = t
    · subst he
      rw [hr] at h1
      cases h1
      exact ⟨_, p1, rfl, rfl, by show r.ver ≤ ver + 1; omega, fun h => absurd h (by show ver + 1 ≠ r.ver; omega)⟩
    · exact ⟨r', by rw [p2 s he]; exact h1, rfl, rfl, Nat.le_refl _, fun _ => rfl⟩
  have hm1 : MemRel nb' base φ1 w (M.put t ⟨e, 1, ver + 1, .il []⟩) := by
    refine ⟨fun s r' h1 => ?_, fun s s' r' r'' h1 h2 q1 q2 hg => ?_, fun s r' h1 hb hp => ?_, hm.le⟩
    · by_cases he : s = t
      · subst he
        rw [p1] at h1
        cases h1
        refine ⟨_, Mem.get_put_same _ _ _, rfl, rfl, hrs.symm, hrel.e, by show 0 < r.sz; omega, Nat.le_refl _, Nat.zero_le _, fun h => absurd h (Nat.lt_irrefl 0), trivial, fun _ h => absurd h (Nat.lt_irrefl 0)⟩
      · rw [p2 s he] at h1
        obtain ⟨o', g1, g2⟩ := hm.obj s r' h1
        exact ⟨o', by rw [Mem.get_put_other _ he]; exact g1, g2.evo hevo (fun _ => rfl)⟩
    · exact hm.inj s s' r' r'' (hlive s r' h1 q1).2 (hlive s' r'' h2 q2).2 q1 q2 hg
    · exact hm.own s r' (hlive s r' h1 hp).2 hb hp
  have hargs : ∀ j, Rep φ1 base w ((xs.set i (.ints true ys)).getD j .any) (args.getD j undef) := by
    intro j
    by_cases he : j = i
    · subst he
      rw [show (xs.set j (.ints true ys)).getD j .any = .ints true ys from by simp [List.getD, hi]]
      rw [hv2, hl]
      simp only [Nat.sub_zero]
      refine ⟨A, r.cap, rfl, by have := hrel.le; omega, hrel.max, fun hp => ?_⟩
      have hcap : 0 < r.cap := by have := hrel.le; omega
      have hA := v3 hcap
      rw [Nat.zero_mul] at hA
      refine ⟨r.g, 0, hA, fun s r' h1 h2 hg => ?_, fun _ => hm.own t r hr hn hcap, fun k hk => ?_⟩
      · obtain ⟨q1, q2⟩ := hlive s r' h1 h2
        exact q1 (hm.inj s t r' r q2 hr h2 hcap hg)
      · obtain ⟨cv, e1, _, e3⟩ := hrel.cell (j := k) (k := 0) (by omega) (by omega)
        rw [hrs, Nat.mul_one, Nat.add_zero] at e1
        simp only [hcf] at e3
        rw [Nat.zero_add, e1]
        exact congrArg some e3
    · rw [show (xs.set i (.ints true ys)).getD j .any = xs.getD j .any from by simp only [List.getD]; rw [List.getElem?_set_ne (Ne.symm he)]]
      exact Rep.evo hevo (ha j)
  refine (h.2 nb' base φ1 w args (fun k hk => by cases hk; rfl) hm1 (by rw [hs, List.length_set]) hargs).mono ?_
  rintro e' w' ⟨v, R, M', φ', h1, h2, h3, h4, h5⟩
  exact ⟨v, R, M', φ', h1, h2, h3, h4, hevo.trans h5⟩

/-- An empty slice of any kind, as a list. -/
theorem sub_emp (nl fr : Bool) : Sub (.emp nl) (.ints fr []) := by
  rintro φ base w v ⟨A, rfl, _⟩
  exact ⟨A, 0, rfl, Nat.le_refl _, Nat.zero_le _, fun h => absurd h (by simp)⟩
theorem sub_ints (xs : List Int) : Sub (.ints true xs) (.ints false xs) := by
  rintro φ base w v ⟨A, cap, rfl, h1, h2, h3⟩
  refine ⟨A, cap, rfl, h1, h2, fun hn => ?_⟩
  obtain ⟨b, off, e, g1, _, g3⟩ := h3 hn
  exact ⟨b, off, e, g1, (fun h => nomatch h), g3⟩

theorem put_len (o : Ob) : ∀ M : Mem, (M.put M.length o).length = M.length + 1
  | [] => rfl
  | x :: r => by simp only [List.length_cons, Mem.put]; rw [put_len o r]
/-- Two new objects, over any memory: the first one, and what was there. -/
theorem get_new2 {M : Mem} {o o2 : Ob} : ((M.put M.length o).put (M.put M.length o).length o2).get M.length = some o := by
  rw [Mem.get_put_other _ (by rw [put_len]; omega), Mem.get_put_same]
/-! Over a memory that is not known: a store to an object that is; a struct that is returned. -/
def storeC (T : Tab) (ob : Ob) (t : TypeId) (ver i o : Nat) (x : V) : Option (Obl × Ob) := bif knownT (T.row t) then
    (bif isAggT (T.row t) then (match x with
      | .agg m g => bif isArrT (T.row t) && ob.c.isCv then (bif Nat.beq m (T.row t).sz then some (ldaO ver ob.ver (o + m) ob.sz, { ob with c := setArr ob.c ob.sz i o m g }) else none)
        else bif Nat.beq m (T.row t).sz && Nat.ble (o + m) ob.sz then (match storeCellsV ob.c ob.sz i o g m with
        | some c' => some (eqnO ver ob.ver, { ob with c := c' })
        | none => none) else none
      | _ => none)
    else bif Nat.beq (T.row t).sz 1 then (match ob.c.set ob.sz i o x with
      | some c' => some (ldO ver ob.ver o ob.sz, { ob with c := c' })
      | none => none) else none) else none
theorem aop_storeC {T : Tab} {nm : Nat} {t : TypeId} {x y : Operand} {ev : Operand → V} {M : Mem} {n ver i o : Nat} {ob ob' : Ob} {p : Obl} (hx : ev x = .ptr n ver i o) (hM : M.get n = some ob) (h : storeC T ob t ver i o (ev y) = some (p, ob')) :
    aop T nm (.store t x y) ev M = some (p, .any, M.put n ob') := by
  unfold storeC at h
  simp only [aop, hx, storeV, hM]
  cases hk : knownT (T.row t) with
  | false => rw [hk] at h; cases h
  | true =>
    rw [hk] at h
    simp only [cond_true] at h ⊢
    cases ha : isAggT (T.row t) with
    | true =>
      rw [ha] at h
      simp only [cond_true] at h ⊢
      cases hy : ev y with
      | agg m g =>
        rw [hy] at h
        simp only at h ⊢
        cases har : (isArrT (T.row t) && ob.c.isCv) with
        | true =>
          rw [har] at h
          simp only [cond_true] at h ⊢
          cases hb : Nat.beq m (T.row t).sz with
          | false => rw [hb] at h; cases h
          | true =>
            rw [hb] at h
            simp only [cond_true, Option.some.injEq, Prod.mk.injEq] at h ⊢
            obtain ⟨rfl, rfl⟩ := h
            exact ⟨rfl, trivial, rfl⟩
        | false =>
        rw [har] at h
        simp only [cond_false] at h ⊢
        cases hb : (Nat.beq m (T.row t).sz && Nat.ble (o + m) ob.sz) with
        | false => rw [hb] at h; cases h
        | true =>
          rw [hb] at h
          simp only [cond_true] at h ⊢
          cases hs : storeCellsV ob.c ob.sz i o g m with
          | none => rw [hs] at h; cases h
          | some c' =>
            rw [hs] at h
            simp only [Option.some.injEq, Prod.mk.injEq] at h
            obtain ⟨rfl, rfl⟩ := h
            rfl
      | _ => rw [hy] at h; cases h
    | false =>
      rw [ha] at h
      simp only [cond_false] at h ⊢
      cases hb : Nat.beq (T.row t).sz 1 with
      | false => rw [hb] at h; cases h
      | true =>
        rw [hb] at h
        simp only [cond_true] at h ⊢
        cases hs : ob.c.set ob.sz i o (ev y) with
        | none => rw [hs] at h; cases h
        | some c' =>
          rw [hs] at h
          simp only [Option.some.injEq, Prod.mk.injEq] at h
          obtain ⟨rfl, rfl⟩ := h
          rfl
theorem finM_agg {T : Tab} {a : Tmp} {t : TypeId} {e : Env} {M : Mem} {n ver i o : Nat} {ob : Ob} (he : Env.get e a = .ptr n ver i o) (hM : M.get n = some ob) (h : (knownT (T.row t) && isAggT (T.row t) && Nat.ble (o + (T.row t).sz) ob.sz && Nat.beq ver ob.ver) = true) :
    finM T [.cell a t] e M = some (.agg (T.row t).sz fun k => ob.c.f i (o + k)) := by
  simp only [Bool.and_eq_true] at h
  obtain ⟨⟨⟨h1, h2⟩, h3⟩, h4⟩ := h
  simp only [finM, resM, resV, loadV, h1, cond_true, loadV', he, hM, h2, ldaO, h3, eqnO, h4, Obl.dec]

/-! Steps over the code's make, one by one (where a walk in one go is too much for the kernel). -/
theorem awp_skip {X : Cx} {Q : Exit → Env → Mem → Prop} {e : Env} {M : Mem} (h : Q .normal e M) : awp X .skip Q e M := h
theorem awp_seq {X : Cx} {a b : Code} {Q : Exit → Env → Mem → Prop} {e : Env} {M : Mem} (h : awp X a (seqQ (awp X b Q) Q) e M) : awp X (.seq a b) Q e M := h
theorem awp_block {X : Cx} {id : Nat} {a : Code} {Q : Exit → Env → Mem → Prop} {e : Env} {M : Mem} (h : awp X a (blockQ id Q) e M) : awp X (.block id a) Q e M := h
theorem awp_region {X : Cx} {id : Nat} {ops : Array Oper} {Q : Exit → Env → Mem → Prop} {e : Env} {M : Mem} (hd : ops.toList.all (dstOk X.nt) = true) (h : opsW X ops ops.toList e M (Q .normal)) : awp X (.region id ops false) Q e M := by
  show (bif false then _ else bif ops.toList.all (dstOk X.nt) then opsW X ops ops.toList e M (Q .normal) else False)
  rw [hd]
  exact h
theorem seqQ_n {K : Env → Mem → Prop} {Q : Exit → Env → Mem → Prop} {e : Env} {M : Mem} (h : K e M) : seqQ K Q .normal e M := stepK_in h
theorem blockQ_n {id : Nat} {Q : Exit → Env → Mem → Prop} {e : Env} {M : Mem} (h : Q .normal e M) : blockQ id Q .normal e M := h
end Go.Tri

/-
  A ROUND THAT ENDS WITH AN OBJECT THAT NOBODY WRITES TO FROM THEN ON: what refers to it is an immutable slice.
-/
namespace Go.Tri
variable {lo : Nat}

/-- What reads as x reads as y once the object t is let go. -/
def FzV (t ver : Nat) (ys : List Int) (x y : V) : Prop := Sub x y ∨ (x = .sl t ver 0 ys.length ∧ y = .ints true ys)
theorem FzV.refl {t ver : Nat} {ys : List Int} (x : V) : FzV t ver ys x x := .inl (Sub.refl x)
def FzL (t ver : Nat) (ys : List Int) : List V → List V → Prop
  | [], [] => True
  | x :: xs, y :: zs => FzV t ver ys x y ∧ FzL t ver ys xs zs
  | _, _ => False
theorem FzL.refl {t ver : Nat} {ys : List Int} : ∀ xs : List V, FzL t ver ys xs xs
  | [] => trivial
  | x :: xs => ⟨FzV.refl x, FzL.refl xs⟩
theorem FzL.zip {t ver : Nat} {ys : List Int} : ∀ (keys : List Nat) {xs zs : List V}, FzL t ver ys xs zs → ∀ i, FzV t ver ys (Env.get (keys.zip xs) i) (Env.get (keys.zip zs) i)
  | [], _, _, _, _ => FzV.refl _
  | k :: keys, [], [], _, _ => FzV.refl _
  | k :: keys, x :: xs, y :: zs, h, i => by
    simp only [List.zip_cons_cons, Env.get]
    split
    · exact h.1
    · exact FzL.zip keys h.2 i
  | _ :: _, [], _ :: _, h, _ => h.elim
  | _ :: _, _ :: _, [], h, _ => h.elim
def ObFz (t ver : Nat) (ys : List Int) (o o' : Ob) : Prop := o'.e = o.e ∧ o'.sz = o.sz ∧ o'.ver = o.ver ∧ o'.c.n = o.c.n ∧ (o'.c.rest = o.c.rest ∧ o'.c.kc = o.c.kc) ∧ ∀ j k, j < o.c.n → k < o.sz → FzV t ver ys (o.c.f j k) (o'.c.f j k)
theorem ObFz.refl {t ver : Nat} {ys : List Int} (o : Ob) : ObFz t ver ys o o := ⟨rfl, rfl, rfl, rfl, ⟨rfl, rfl⟩, fun _ _ _ _ => FzV.refl _⟩
theorem ObFz.cv {t ver : Nat} {ys : List Int} {e sz v n : Nat} {f g : Nat → Nat → V} (h : ∀ j k, j < n → k < sz → FzV t ver ys (f j k) (g j k)) : ObFz t ver ys ⟨e, sz, v, .cv n f⟩ ⟨e, sz, v, .cv n g⟩ := ⟨rfl, rfl, rfl, rfl, ⟨rfl, rfl⟩, h⟩
def FzM (t ver : Nat) (ys : List Int) (E : TypeId) : Nat → Mem → Mem → Prop
  | _, [], _ => True
  | i, none :: r, m' => FzM t ver ys E (i + 1) r m'.tail
  | i, some o :: r, some o' :: r' => (bif Nat.beq i t then o' = ⟨E, 1, ver + 1, .il []⟩ else ObFz t ver ys o o') ∧ FzM t ver ys E (i + 1) r r'
  | _, some _ :: _, _ => False
theorem FzM.get {t ver : Nat} {ys : List Int} {E : TypeId} : ∀ {M M' : Mem} {i : Nat}, FzM t ver ys E i M M' → ∀ s o, M.get s = some o → ∃ o', M'.get s = some o' ∧ (bif Nat.beq (i + s) t then o' = ⟨E, 1, ver + 1, .il []⟩ else ObFz t ver ys o o')
  | [], _, _, _, s, o, h => by simp [Mem.get, List.getD] at h
  | none :: r, m', i, hm, s, o, h => by
    cases s with
    | zero => simp [Mem.get] at h
    | succ s =>
      obtain ⟨o', h1, h2⟩ := FzM.get (M := r) (M' := m'.tail) (i := i + 1) hm s o (by simpa [Mem.get] using h)
      refine ⟨o', ?_, by rw [show i + (s + 1) = i + 1 + s by omega]; exact h2⟩
      cases m' with
      | nil => simp [Mem.get, List.getD] at h1
      | cons a b => simpa [Mem.get] using h1
  | some x :: r, some y :: r', i, hm, s, o, h => by
    cases s with
    | zero => simp [Mem.get] at h; subst h; exact ⟨y, by simp [Mem.get], hm.1⟩
    | succ s =>
      obtain ⟨o', h1, h2⟩ := FzM.get (M := r) (M' := r') (i := i + 1) hm.2 s o (by simpa [Mem.get] using h)
      exact ⟨o', by simpa [Mem.get] using h1, by rw [show i + (s + 1) = i + 1 + s by omega]; exact h2⟩
  | some _ :: _, none :: _, _, hm, _, _, _ => hm.elim
  | some _ :: _, [], _, hm, _, _, _ => hm.elim

theorem St.freeze {nt nb base : Nat} {φ : Phi} {w : World} {M M' : Mem} {keys : List Nat} {vs vs' : List V} {a : Act} {t ver : Nat} {E : TypeId} {ys : List Int} (h : St lo nt nb base φ w M (keys.zip vs) a)
    (hM : M.get t = some ⟨E, 1, ver, .il ys⟩) (hn : nb ≤ t) (hvs : FzL t ver ys vs vs') (hf : FzM t ver ys E 0 M M') :
    ∃ φ1, St lo nt nb base φ1 w M' (keys.zip vs') a ∧ Evo w φ w φ1 := by
  have hm := h.mem
  have hfs := hf.get
  simp only [Nat.zero_add] at hfs
  -- the reading behind it, and what reads on
  have key : ∃ φ1 : Phi, Evo w φ w φ1 ∧ (∀ x y v, FzV t ver ys x y → Rep φ base w x v → Rep φ1 base w y v) ∧ (∀ s, s ≠ t → φ1 s = φ s) ∧ (∀ r, φ1 t = some r → r.cap = 0 ∧ r.n = 0 ∧ r.ver = ver + 1 ∧ r.sz = 1 ∧ r.e = E) := by
    cases hr : φ t with
    | none =>
      refine ⟨φ, Evo.refl w φ, fun x y v hxy hx => ?_, fun _ _ => rfl, fun r h1 => by rw [hr] at h1; cases h1⟩
      rcases hxy with hs | ⟨rfl, rfl⟩
      · exact hs _ _ _ _ hx
      · obtain ⟨r, h1, _⟩ := hx
        rw [hr] at h1
        cases h1
    | some r =>
      obtain ⟨o, ho, hrel⟩ := hm.obj t r hr
      rw [hM] at ho
      cases ho
      have hver : ver = r.ver := hrel.ver
      have hrn : r.n = ys.length := hrel.n.symm
      have hrs : r.sz = 1 := hrel.sz.symm
      obtain ⟨φ1, hφ1⟩ : ∃ φ1 : Phi, φ1 = φ.upd t ⟨r.g, 0, 0, r.sz, r.e, ver + 1⟩ := ⟨_, rfl⟩
      have p1 : φ1 t = some ⟨r.g, 0, 0, r.sz, r.e, ver + 1⟩ := by rw [hφ1]; exact Phi.upd_same _ _ _
      have p2 : ∀ s, s ≠ t → φ1 s = φ s := fun s h => by rw [hφ1]; exact Phi.upd_other _ _ h
      have hlive : ∀ s r', φ1 s = some r' → 0 < r'.cap → s ≠ t ∧ φ s = some r' := by
        intro s r' h1 h2
        by_cases he : s = t
        · subst he; rw [p1] at h1; cases h1; exact absurd h2 (Nat.lt_irrefl 0)
        · exact ⟨he, by rw [← p2 s he]; exact h1⟩
      have hevo : Evo w φ w φ1 := by
        refine ⟨rfl, rfl, rfl, Nat.le_refl _, fun _ _ _ => rfl, fun s r' h1 h2 _ hnl => hnl s r' (hlive s r' h1 h2).2 h2 rfl, fun s r' h1 => ?_, (by first | exact Nat.le_refl _ | exact Nat.le_succ _)⟩
        by_cases he : s = t
        · subst he
          rw [hr] at h1
          cases h1
          exact ⟨_, p1, rfl, rfl, by show r.ver ≤ ver + 1; omega, fun h => absurd h (by show ver + 1 ≠ r.ver; omega)⟩
        · exact ⟨r', by rw [p2 s he]; exact h1, rfl, rfl, Nat.le_refl _, fun _ => rfl⟩
      refine ⟨φ1, hevo, fun x y v hxy hx => ?_, p2, fun r' h1 => by rw [p1] at h1; cases h1; exact ⟨rfl, rfl, rfl, hrs, hrel.e.symm⟩⟩
      rcases hxy with hs | ⟨rfl, rfl⟩
      · exact hs _ _ _ _ (Rep.evo hevo hx)
      · obtain ⟨r0, h1, _, _, hv⟩ := hx
        rw [hr] at h1
        cases h1
        obtain ⟨v1, A, hv2, v3⟩ := hv hver.symm
        rw [hv2]
        simp only [Nat.sub_zero]
        refine ⟨A, r.cap, rfl, by have := hrel.le; omega, hrel.max, fun hp => ?_⟩
        have hcap : 0 < r.cap := by have := hrel.le; omega
        have hA := v3 hcap
        rw [Nat.zero_mul] at hA
        refine ⟨r.g, 0, hA, fun s r' h1 h2 hg => ?_, fun _ => hm.own t r hr hn hcap, fun k hk => ?_⟩
        · obtain ⟨q1, q2⟩ := hlive s r' h1 h2
          exact q1 (hm.inj s t r' r q2 hr h2 hcap hg)
        · obtain ⟨cv, e1, _, e3⟩ := hrel.cell (j := k) (k := 0) (by omega) (by omega)
          rw [hrs, Nat.mul_one, Nat.add_zero] at e1
          rw [Nat.zero_add, e1]
          exact congrArg some e3
  obtain ⟨φ1, hevo, hrd, p2, p3⟩ := key
  have hlive : ∀ s r', φ1 s = some r' → 0 < r'.cap → s ≠ t ∧ φ s = some r' := by
    intro s r' h1 h2
    by_cases he : s = t
    · subst he; have := (p3 r' h1).1; omega
    · exact ⟨he, by rw [← p2 s he]; exact h1⟩
  refine ⟨φ1, ⟨?_, h.dfr.evo hevo, h.low, h.size, fun i => hrd _ _ _ (hvs.zip keys i) (h.slots i)⟩, hevo⟩
  refine ⟨fun s r' h1 => ?_, fun s s' r' r'' h1 h2 q1 q2 hg => ?_, fun s r' h1 hb hp => ?_, hm.le⟩
  · by_cases he : s = t
    · subst he
      obtain ⟨o', g1, g2⟩ := hfs s _ hM
      rw [Nat.beq_refl, cond_true] at g2
      subst g2
      obtain ⟨c1, c2, c3, c4, c5⟩ := p3 r' h1
      exact ⟨_, g1, by rw [c2]; rfl, c3.symm, c4.symm, c5.symm, by omega, by omega, by rw [c1]; exact Nat.zero_le _, fun h => by omega, trivial, fun _ h => by omega⟩
    · have h2 : φ s = some r' := by rw [← p2 s he]; exact h1
      obtain ⟨o, k1, k2⟩ := hm.obj s r' h2
      obtain ⟨o', g1, g2⟩ := hfs s o k1
      rw [show Nat.beq s t = false from by cases hb : Nat.beq s t with
        | true => exact absurd (Nat.eq_of_beq_eq_true hb) he
        | false => rfl, cond_false] at g2
      obtain ⟨e1, e2, e3, e4, ⟨e6, e7⟩, e5⟩ := g2
      refine ⟨o', g1, by rw [e4]; exact k2.n, by rw [e3]; exact k2.ver, by rw [e2]; exact k2.sz, by rw [e1]; exact k2.e, k2.pos, k2.le, k2.max, k2.dom, ?_, fun hC' hp => ?_⟩
      · have hsp := Con.Spec_evo hevo (fun _ => rfl) k2.spec
        by_cases hC : o.c.isC = true
        · refine Con.Spec_of ?_ (fun hk => by
            rw [e7] at hk
            cases hc : o.c with
            | kil => rw [hc] at hsp; exact hsp
            | _ => rw [hc] at hk; cases hk)
          have h1 : o'.c.rest = none := by rw [e6, Con.rest_isC hC]
          cases hc : o'.c with
          | loop => rw [hc] at h1; cases h1
          | mpi => rw [hc] at h1; cases h1
          | _ => rfl
        · rw [Con.rest_eq e6 (by simpa using hC)]
          exact hsp
      have hC : o.c.isC = true := by
        have h1 : o.c.rest = none := by rw [← e6, Con.rest_isC hC']
        cases hc : o.c with
        | loop => rw [hc] at h1; cases h1
        | mpi => rw [hc] at h1; cases h1
        | _ => rfl
      obtain ⟨cur, g1, g2, g3⟩ := k2.row hC hp
      refine ⟨cur, g1, g2, fun j k hj hk => ?_⟩
      obtain ⟨c, k1', k2', k3'⟩ := g3 j k hj hk
      exact ⟨c, k1', k2', hrd _ _ _ (e5 j k (by rw [k2.n]; exact hj) (by rw [k2.sz]; exact hk)) k3'⟩
  · exact hm.inj s s' r' r'' (hlive s r' h1 q1).2 (hlive s' r'' h2 q2).2 q1 q2 hg
  · exact hm.own s r' (hlive s r' h1 hp).2 hb hp

/-- A round's end: as loopQA has it, or with an object let go. -/
def loopQF (nb : Nat) (keys : List Nat) (kp : Nat → Bool) (I : List V → Mem → Prop) (mu : List V → Mem → Nat) (n : Nat) (Q : Exit → Env → Mem → Prop) : Exit → Env → Mem → Prop
  | .normal, e, M => (∃ t ver E ys vs1 M1, nb ≤ t ∧ M.get t = some ⟨E, 1, ver, .il ys⟩ ∧ FzL t ver ys (sel keys e) vs1 ∧ FzM t ver ys E 0 M M1 ∧ (NamedL kp vs1 ∧ NamedM kp (maskM kp 0 M1)) ∧
      ∃ vs M', SubL vs1 vs ∧ MSub (maskM kp 0 M1) M' ∧ I vs M' ∧ mu vs M' < n) ∨
    ((NamedL kp (sel keys e) ∧ NamedM kp (maskM kp 0 M)) ∧ ∃ vs M', SubL (sel keys e) vs ∧ MSub (maskM kp 0 M) M' ∧ I vs M' ∧ mu vs M' < n)
  | x, e, M => Q x e M

section
variable {X : Cx}
theorem AW_loopF (hT : TabOk X.P X.T) (keys : List Nat) (kp : Nat → Bool) (I : List V → Mem → Prop) (mu : List V → Mem → Nat) {c : Code} {Q : Exit → Env → Mem → Prop} {e : Env} {M : Mem} (hk : ∀ t, t < M.length → kp t = true)
    (h0 : ∃ vs M', SubL (sel keys e) vs ∧ MSub M M' ∧ I vs M')
    (round : ∀ vs M', I vs M' → awp X c (loopQF X.nb keys kp I mu (mu vs M') Q) (keys.zip vs) M') : AW X.P X.nt X.nb X.rd (.loop c) Q e M := by
  rw [AW_def]
  intro ro lo base φ w a hro hst
  have hdom : ∀ t r, φ t = some r → kp t = true := by
    intro t r ht
    obtain ⟨o, ho, _⟩ := hst.mem.obj t r ht
    refine hk t ?_
    rcases Nat.lt_or_ge t M.length with h | h
    · exact h
    · simp [Mem.get, List.getD, List.getElem?_eq_none h] at ho
  obtain ⟨vs0, M0, s1, s2, hI0⟩ := h0
  refine wpIn_loop_ghost (fun n a' w' => ∃ vs M' φ', mu vs M' = n ∧ I vs M' ∧ St lo X.nt X.nb base φ' w' M' (keys.zip vs) a' ∧ Evo w φ w' φ') (mu vs0 M0)
    ⟨_, M0, φ, rfl, hI0, (hst.sel keys).sub s1 s2, Evo.refl w φ⟩ ?_
  rintro n a' w' ⟨vs, M', φ', rfl, hI, hst', hv⟩
  refine wpIn_mono (awp_ok hT hro c _ base φ' w' M' _ a' hst' (round vs M' hI)) ?_
  rintro x a₁ w₁ ⟨hx, e₁, M₁, φ₁, hq, hst₁, hv₁⟩
  cases x with
  | normal =>
    rcases hq with ⟨t, ver, E, ys, vs1, M1, q1, q2, q3, q4, hn, vs2, M2, t1, t2, hI2, hmu⟩ | ⟨hn, vs2, M2, t1, t2, hI2, hmu⟩
    · obtain ⟨φ2, hst2, hv2⟩ := (hst₁.sel keys).freeze q2 q1 q3 q4
      exact ⟨_, hmu, _, _, _, rfl, hI2, (hst2.mask hn.1 hn.2).sub t1 t2, ((hv.trans hv₁).trans hv2).restr hdom⟩
    · exact ⟨_, hmu, _, _, _, rfl, hI2, ((hst₁.sel keys).mask hn.1 hn.2).sub t1 t2, (hv.trans hv₁).restr hdom⟩
  | panic c => exact hx.elim
  | outgrown => exact hx.elim
  | _ => exact ⟨trivial, e₁, M₁, φ₁, hq, hst₁, hv.trans hv₁⟩
end
end Go.Tri

/-
  CODE IN PIECES; an object of one array that nobody writes to from a place on: what points to it points to immutable cells.
-/
namespace Go.Tri
variable {lo : Nat}

section
variable {X : Cx}
/-- What the second piece has to show. -/
def seqA (P : Program) (nt nb : Nat) (rd : Bool) (b : Code) (Q : Exit → Env → Mem → Prop) : Exit → Env → Mem → Prop
  | .normal, e, M => AW P nt nb rd b Q e M
  | x, e, M => Q x e M
theorem AW_seq {P : Program} {nt nb : Nat} {rd : Bool} {a b : Code} {Q : Exit → Env → Mem → Prop} {e : Env} {M : Mem} (h : AW P nt nb rd a (seqA P nt nb rd b Q) e M) : AW P nt nb rd (.seq a b) Q e M := by
  rw [AW_def] at h ⊢
  intro ro lo base φ w a' hro hst
  refine wpIn_seq (wpIn_mono (h ro lo base φ w a' hro hst) ?_)
  rintro x a1 w1 ⟨hx, e1, M1, φ1, hq, hst1, hv⟩
  cases x with
  | normal =>
    have hq : AW P nt nb rd b Q e1 M1 := hq
    rw [AW_def] at hq
    refine wpIn_mono (hq ro lo base φ1 w1 a1 hro hst1) ?_
    rintro x a2 w2 ⟨hx2, e2, M2, φ2, hq2, hst2, hv2⟩
    exact ⟨hx2, e2, M2, φ2, hq2, hst2, hv.trans hv2⟩
  | panic c => exact hx.elim
  | outgrown => exact hx.elim
  | _ => exact ⟨trivial, e1, M1, φ1, hq, hst1, hv⟩
/-- A piece that is walked, and the rest. -/
theorem AW_seqW (hT : TabOk X.P X.T) {a b : Code} {Q : Exit → Env → Mem → Prop} {e : Env} {M : Mem} (h : awp X a (seqA X.P X.nt X.nb X.rd b Q) e M) : AW X.P X.nt X.nb X.rd (.seq a b) Q e M := AW_seq (AW_of_awp hT h)

/-- What reads as x reads as y once the array t is let go. -/
def FzP (t ver s : Nat) (f : Nat → V) (x y : V) : Prop := Sub x y ∨ ∃ o, x = .ptr t ver 0 o ∧ y = .at_ s f o
theorem FzP.refl {t ver s : Nat} {f : Nat → V} (x : V) : FzP t ver s f x x := .inl (Sub.refl x)

theorem St.freezeP {nt nb base : Nat} {φ : Phi} {w : World} {M : Mem} {e e' : Env} {a : Act} {t ver s : Nat} {E : TypeId} {f : Nat → Nat → V} (h : St lo nt nb base φ w M e a)
    (hM : M.get t = some ⟨E, s, ver, .cv 1 f⟩) (hf : ∀ k, k < s → ∃ z, f 0 k = .int z) (he : ∀ i, FzP t ver s (f 0) (Env.get e i) (Env.get e' i)) :
    ∃ φ1, St lo nt nb base φ1 w (M.put t ⟨E, s, ver + 1, .cv 0 f⟩) e' a ∧ Evo w φ w φ1 := by
  have hm := h.mem
  have key : ∃ φ1 : Phi, Evo w φ w φ1 ∧ (∀ x y v, FzP t ver s (f 0) x y → Rep φ base w x v → Rep φ1 base w y v) ∧ (∀ s, s ≠ t → φ1 s = φ s) ∧ (∀ r, φ1 t = some r → r.cap = 0 ∧ r.n = 0 ∧ r.ver = ver + 1 ∧ r.sz = s ∧ r.e = E ∧ 0 < r.sz) := by
    cases hr : φ t with
    | none =>
      refine ⟨φ, Evo.refl w φ, fun x y v hxy hx => ?_, fun _ _ => rfl, fun r h1 => by rw [hr] at h1; cases h1⟩
      rcases hxy with hs | ⟨o, rfl, rfl⟩
      · exact hs _ _ _ _ hx
      · obtain ⟨r, h1, _⟩ := hx
        rw [hr] at h1
        cases h1
    | some r =>
      obtain ⟨o, ho, hrel⟩ := hm.obj t r hr
      rw [hM] at ho
      cases ho
      have hver : ver = r.ver := hrel.ver
      have hrn : r.n = 1 := hrel.n.symm
      have hrs : r.sz = s := hrel.sz.symm
      have hcap : 0 < r.cap := by have := hrel.le; omega
      obtain ⟨φ1, hφ1⟩ : ∃ φ1 : Phi, φ1 = φ.upd t ⟨r.g, 0, 0, r.sz, r.e, ver + 1⟩ := ⟨_, rfl⟩
      have p1 : φ1 t = some ⟨r.g, 0, 0, r.sz, r.e, ver + 1⟩ := by rw [hφ1]; exact Phi.upd_same _ _ _
      have p2 : ∀ s, s ≠ t → φ1 s = φ s := fun s h => by rw [hφ1]; exact Phi.upd_other _ _ h
      have hlive : ∀ s r', φ1 s = some r' → 0 < r'.cap → s ≠ t ∧ φ s = some r' := by
        intro s r' h1 h2
        by_cases he : s = t
        · subst he; rw [p1] at h1; cases h1; exact absurd h2 (Nat.lt_irrefl 0)
        · exact ⟨he, by rw [← p2 s he]; exact h1⟩
      have hevo : Evo w φ w φ1 := by
        refine ⟨rfl, rfl, rfl, Nat.le_refl _, fun _ _ _ => rfl, fun s r' h1 h2 _ hnl => hnl s r' (hlive s r' h1 h2).2 h2 rfl, fun s r' h1 => ?_, (by first | exact Nat.le_refl _ | exact Nat.le_succ _)⟩
        by_cases he : s = t
        · subst he
          rw [hr] at h1
          cases h1
          exact ⟨_, p1, rfl, rfl, by show r.ver ≤ ver + 1; omega, fun h => absurd h (by show ver + 1 ≠ r.ver; omega)⟩
        · exact ⟨r', by rw [p2 s he]; exact h1, rfl, rfl, Nat.le_refl _, fun _ => rfl⟩
      refine ⟨φ1, hevo, fun x y v hxy hx => ?_, p2, fun r' h1 => by rw [p1] at h1; cases h1; exact ⟨rfl, rfl, rfl, hrs, hrel.e.symm, hrel.pos⟩⟩
      rcases hxy with hs | ⟨o, rfl, rfl⟩
      · exact hs _ _ _ _ (Rep.evo hevo hx)
      · obtain ⟨r0, h1, _, _, hv⟩ := hx
        rw [hr] at h1
        cases h1
        obtain ⟨rfl, _⟩ := hv hver.symm
        refine ⟨r.g, 0, by simp, hrel.dom hcap, fun s r' h1 h2 hg => ?_, fun k hk => ?_⟩
        · obtain ⟨q1, q2⟩ := hlive s r' h1 h2
          exact q1 (hm.inj s t r' r q2 hr h2 hcap hg)
        · obtain ⟨cv, e1, e2, e3⟩ := hrel.cell (j := 0) (k := k) (by omega) (by omega)
          obtain ⟨z, hz⟩ := hf k hk
          rw [Nat.zero_mul] at e1
          have e3 : Rep φ base w (f 0 k) cv := e3
          rw [hz] at e3 ⊢
          exact ⟨cv, e1, e2, e3⟩
  obtain ⟨φ1, hevo, hrd, p2, p3⟩ := key
  have hlive : ∀ s r', φ1 s = some r' → 0 < r'.cap → s ≠ t ∧ φ s = some r' := by
    intro s r' h1 h2
    by_cases he : s = t
    · subst he; have := (p3 r' h1).1; omega
    · exact ⟨he, by rw [← p2 s he]; exact h1⟩
  refine ⟨φ1, ⟨?_, h.dfr.evo hevo, h.low, h.size, fun i => hrd _ _ _ (he i) (h.slots i)⟩, hevo⟩
  refine ⟨fun s' r' h1 => ?_, fun s s' r' r'' h1 h2 q1 q2 hg => ?_, fun s r' h1 hb hp => ?_, hm.le⟩
  · by_cases he : s' = t
    · subst he
      obtain ⟨c1, c2, c3, c4, c5, c6⟩ := p3 r' h1
      exact ⟨_, Mem.get_put_same _ _ _, by rw [c2]; rfl, c3.symm, c4.symm, c5.symm, c6, by omega, by rw [c1]; exact Nat.zero_le _, fun h => by omega, trivial, fun _ h => by omega⟩
    · have h2 : φ s' = some r' := by rw [← p2 s' he]; exact h1
      obtain ⟨o, k1, k2⟩ := hm.obj s' r' h2
      refine ⟨o, by rw [Mem.get_put_other _ he]; exact k1, k2.n, k2.ver, k2.sz, k2.e, k2.pos, k2.le, k2.max, k2.dom, Con.Spec_evo hevo (fun _ => rfl) k2.spec, fun hC hp => ?_⟩
      obtain ⟨cur, g1, g2, g3⟩ := k2.row hC hp
      refine ⟨cur, g1, g2, fun j k hj hk => ?_⟩
      obtain ⟨c, k1', k2', k3'⟩ := g3 j k hj hk
      exact ⟨c, k1', k2', Rep.evo hevo k3'⟩
  · exact hm.inj s s' r' r'' (hlive s r' h1 q1).2 (hlive s' r'' h2 q2).2 q1 q2 hg
  · exact hm.own s r' (hlive s r' h1 hp).2 hb hp

/-- AN ARRAY IS LET GO. -/
theorem AW_freeze {P : Program} {nt nb : Nat} {rd : Bool} {c : Code} {Q : Exit → Env → Mem → Prop} {e e' : Env} {M : Mem} {t ver s : Nat} {E : TypeId} {f : Nat → Nat → V} (hM : M.get t = some ⟨E, s, ver, .cv 1 f⟩) (hf : ∀ k, k < s → ∃ z, f 0 k = .int z)
    (he : ∀ i, FzP t ver s (f 0) (Env.get e i) (Env.get e' i)) (h : AW P nt nb rd c Q e' (M.put t ⟨E, s, ver + 1, .cv 0 f⟩)) : AW P nt nb rd c Q e M := by
  rw [AW_def] at h ⊢
  intro ro lo base φ w a hro hst
  obtain ⟨φ1, hst1, hv⟩ := hst.freezeP hM hf he
  refine wpIn_mono (h ro lo base φ1 w a hro hst1) ?_
  rintro x a2 w2 ⟨hx2, e2, M2, φ2, hq2, hst2, hv2⟩
  exact ⟨hx2, e2, M2, φ2, hq2, hst2, hv.trans hv2⟩
/-- What is kept of the slots: the listed ones. -/
def FzPL (t ver s : Nat) (f : Nat → V) (e : Env) : List Nat → List V → Prop
  | [], [] => True
  | k :: ks, y :: ys => FzP t ver s f (Env.get e k) y ∧ FzPL t ver s f e ks ys
  | _, _ => False
theorem FzPL.get {t ver s : Nat} {f : Nat → V} {e : Env} : ∀ {ks : List Nat} {ys : List V}, FzPL t ver s f e ks ys → ∀ i, FzP t ver s f (Env.get e i) (Env.get (ks.zip ys) i)
  | [], [], _, i => .inl (sub_any _)
  | k :: ks, y :: ys, h, i => by
    simp only [List.zip_cons_cons, Env.get]
    split
    · next hk => subst hk; exact h.1
    · exact FzPL.get h.2 i
  | [], _ :: _, h, _ => h.elim
  | _ :: _, [], h, _ => h.elim
theorem AW_freezeL {P : Program} {nt nb : Nat} {rd : Bool} {c : Code} {Q : Exit → Env → Mem → Prop} {e : Env} {M : Mem} {t ver s : Nat} {E : TypeId} {f : Nat → Nat → V} (keys : List Nat) (vs : List V) (hM : M.get t = some ⟨E, s, ver, .cv 1 f⟩) (hf : ∀ k, k < s → ∃ z, f 0 k = .int z)
    (he : FzPL t ver s (f 0) e keys vs) (h : AW P nt nb rd c Q (keys.zip vs) (M.put t ⟨E, s, ver + 1, .cv 0 f⟩)) : AW P nt nb rd c Q e M := AW_freeze hM hf he.get h

/-- A FUNCTION from what its code means. -/
theorem APure_ofW (hT : TabOk X.P X.T) (hnb : X.nb = 0) {f : FuncId} {fn : Func} {c : Code} (hf : X.P.funcs[f]? = some fn) (hname : (fn.name == "runtime.NumGoroutine") = false) (hb : fn.body = some c) (hnt : fn.ntmps = X.nt) {rs : List (ResultVar × TypeId)}
    (hrs : fn.results.toList = rs.map (·.1)) {xs : List V} (hxs : xs.length ≤ X.nt) (hfr : ∀ x ∈ xs, NoFr x) {Q : V → Prop} (h : (∀ x ∈ xs, LenOk x) → AW X.P X.nt X.nb false c (retQ X.T rs Q) (envOf xs) []) : APure X.P f xs Q := by
  unfold APure
  refine ⟨⟨fn, hf, hname, by rw [hb]; rfl⟩, fun w args hs hargs => ?_⟩
  have hlen : ∀ x ∈ xs, LenOk x := by
    intro x hx
    obtain ⟨i, hi, rfl⟩ := List.getElem_of_mem hx
    have hr := hargs i
    rw [show xs.getD i .any = xs[i] from by simp [List.getD, hi]] at hr
    cases hxx : xs[i] with
    | ints fr ys =>
      rw [hxx] at hr
      obtain ⟨A, cap, _, h1, h2, _⟩ := hr
      rw [maxLen_val] at h2
      simp only [LenOk]
      omega
    | seq fr sz n f =>
      rw [hxx] at hr
      obtain ⟨A, cap, _, h1, h2, _⟩ := hr
      rw [maxLen_val] at h2
      simp only [LenOk]
      omega
    | _ => trivial
  have hst : St w.heap.size X.nt X.nb w.heap.size (fun _ => none) w [] (envOf xs) { tmps := args ++ Array.replicate (fn.ntmps - args.size) undef, defers := [] } := by
    refine ⟨⟨fun t r h => (nomatch h), fun t t' r r' h => (nomatch h), fun t r h => (nomatch h), Nat.le_refl _⟩, trivial, Nat.le_refl _, by simp; omega, fun i => ?_⟩
    have hi := hargs i
    have e1 : Env.get (envOf xs) i = xs.getD i .any := by
      unfold envOf
      rw [List.range_eq_range', get_envOf]
      simp
    rw [e1]
    by_cases h : i < xs.length
    · have e2 : (args ++ Array.replicate (fn.ntmps - args.size) undef).getD i undef = args.getD i undef := by
        rw [Array.getD_eq_getD_getElem?, Array.getD_eq_getD_getElem?, Array.getElem?_append_left (by omega)]
      rw [e2]
      rw [show xs.getD i .any = xs[i] from by simp [List.getD, h]] at hi ⊢
      exact Rep_base (hfr _ (List.getElem_mem h)) hi
    · rw [show xs.getD i .any = .any from by simp only [List.getD]; rw [List.getElem?_eq_none (by omega)]; rfl]
      trivial
  refine callsIn_wide.1 (callsIn_of_wp_marks (n := 0) hf hb trivial (wpIn_mono (AW_def.1 (h hlen) none w.heap.size _ _ w _ (fun _ => rfl) hst) ?_))
  rintro x a' w' ⟨hx, e', M', φ', hq, hst', hv⟩
  have fin : retK X.T rs e' M' Q → LeavesInM Fence.wide 0 X.P fn a'.tmps (fun e w' => ∃ v R, e = .returned v ∧ Q R ∧ Fr R ∧ Rep (fun _ => none) w.heap.size w' R v ∧ Evo w (fun _ => none) w' (fun _ => none)) a'.defers .returning w' := by
    intro hk
    refine marks_ok _ w' hst' (fun w2 hst2 q1 q2 q3 q4 q5 _ q7 => ?_)
    rw [hnb] at hst2
    obtain ⟨cv, R, h1, h2, h3, h4⟩ := retK_ok hT hst2 hrs hk
    exact ⟨cv, h1, cv, R, rfl, h2, h3, h4, q1.trans hv.os, q2.trans hv.tape, q3.trans hv.output, by rw [q4]; exact hv.size, fun b hb hn => (q5 b hb).trans (hv.block b hb hn), fun t r h => (nomatch h), fun t r h => (nomatch h), Nat.le_trans hv.drawn q7⟩
  cases x with
  | normal => exact fin hq
  | ret => exact fin hq
  | panic c => exact hx.elim
  | outgrown => exact hx.elim
  | exit id => exact hq.elim
  | goto l => exact hq.elim
end
end Go.Tri
