/-
  VALUES AND MEMORIES THAT READ ALIKE; a loop whose rounds end alike; arguments that read alike.
-/
import Derived.Test.YtciefpkelgjboaaA23
namespace Go.Tri
variable {lo : Nat}

/-- What reads as x reads as y. -/
def Sub (x y : V) : Prop := ∀ φ base w v, Rep φ base w x v → Rep φ base w y v
theorem Sub.refl (x : V) : Sub x x := fun _ _ _ _ h => h
theorem Sub.of {x y : V} (h : x = y) : Sub x y := h ▸ Sub.refl x
theorem sub_any (x : V) : Sub x .any := fun _ _ _ _ _ => trivial
theorem sub_agg {n : Nat} {g g' : Nat → V} (h : ∀ i, i < n → Sub (g i) (g' i)) : Sub (.agg n g) (.agg n g') := by
  rintro φ base w v ⟨cs, h1, h2, h3⟩
  exact ⟨cs, h1, h2, fun i hi => by obtain ⟨c, e1, e2, e3⟩ := h3 i hi; exact ⟨c, e1, e2, h i hi _ _ _ _ e3⟩⟩
theorem sub_tup {n : Nat} {g g' : Nat → V} (h : ∀ i, i < n → Sub (g i) (g' i)) : Sub (.tup n g) (.tup n g') := by
  rintro φ base w v ⟨cs, h1, h2, h3⟩
  exact ⟨cs, h1, h2, fun i hi => by obtain ⟨c, e1, e3⟩ := h3 i hi; exact ⟨c, e1, h i hi _ _ _ _ e3⟩⟩
theorem sub_clo {f n : Nat} {g g' : Nat → V} (h : ∀ i, i < n → Sub (g i) (g' i)) : Sub (.clo f n g) (.clo f n g') := by
  rintro φ base w v ⟨cs, h1, h2, h3⟩
  exact ⟨cs, h1, h2, fun i hi => by obtain ⟨c, e1, e3⟩ := h3 i hi; exact ⟨c, e1, h i hi _ _ _ _ e3⟩⟩
theorem sub_at {sz o : Nat} {g g' : Nat → V} (h : ∀ i, i < sz → Sub (g i) (g' i)) : Sub (.at_ sz g o) (.at_ sz g' o) := by
  rintro φ base w v ⟨b, off, h1, h2, h3, h4⟩
  exact ⟨b, off, h1, h2, h3, fun k hk => by obtain ⟨c, e1, e2, e3⟩ := h4 k hk; exact ⟨c, e1, e2, h k hk _ _ _ _ e3⟩⟩
theorem sub_seq {fr : Bool} {sz n : Nat} {f f' : Nat → Nat → V} (h : ∀ j k, j < n → k < sz → Sub (f j k) (f' j k)) : Sub (.seq fr sz n f) (.seq fr sz n f') := by
  rintro φ base w v ⟨A, cap, h1, h2, h3, h4, h5⟩
  refine ⟨A, cap, h1, h2, h3, h4, fun hn => ?_⟩
  obtain ⟨b, off, e1, e2, e3, e4⟩ := h5 hn
  exact ⟨b, off, e1, e2, e3, fun j o hj ho => by obtain ⟨c, g1, g2, g3⟩ := e4 j o hj ho; exact ⟨c, g1, g2, h j o hj ho _ _ _ _ g3⟩⟩
/-- An empty slice of any kind. -/
theorem sub_seq0 {nl : Bool} {sz : Nat} (hsz : 0 < sz) {f : Nat → Nat → V} (fr : Bool) : Sub (.emp nl) (.seq fr sz 0 f) := by
  rintro φ base w v ⟨A, rfl, _⟩
  exact ⟨A, 0, rfl, Nat.le_refl _, Nat.zero_le _, hsz, fun h => absurd h (by omega)⟩

theorem APure.args {P : Program} {f : FuncId} {xs ys : List V} {Q : V → Prop} (hl : xs.length = ys.length) (h : ∀ i, Sub (xs.getD i .any) (ys.getD i .any)) (hy : APure P f ys Q) : APure P f xs Q := by
  unfold APure at hy ⊢
  exact ⟨hy.1, fun w args h1 h2 => hy.2 w args (by omega) (fun i => h i _ _ _ _ (h2 i))⟩
theorem APure.arg1 {P : Program} {f : FuncId} {x y : V} {Q : V → Prop} (h : Sub x y) (hy : APure P f [y] Q) : APure P f [x] Q :=
  APure.args (xs := [x]) (ys := [y]) rfl (fun i => match i with
    | 0 => h
    | _ + 1 => Sub.refl _) hy
theorem APure.arg2 {P : Program} {f : FuncId} {x y x' y' : V} {Q : V → Prop} (h : Sub x y) (h' : Sub x' y') (hy : APure P f [y, y'] Q) : APure P f [x, x'] Q :=
  APure.args (xs := [x, x']) (ys := [y, y']) rfl (fun i => match i with
    | 0 => h
    | 1 => h'
    | _ + 2 => Sub.refl _) hy
theorem APure.arg3 {P : Program} {f : FuncId} {x y x' y' x2 y2 : V} {Q : V → Prop} (h : Sub x y) (h' : Sub x' y') (h2 : Sub x2 y2) (hy : APure P f [y, y', y2] Q) : APure P f [x, x', x2] Q :=
  APure.args (xs := [x, x', x2]) (ys := [y, y', y2]) rfl (fun i => match i with
    | 0 => h
    | 1 => h'
    | 2 => h2
    | _ + 3 => Sub.refl _) hy
theorem APure.arg4 {P : Program} {f : FuncId} {x y x' y' x2 y2 x3 y3 : V} {Q : V → Prop} (h : Sub x y) (h' : Sub x' y') (h2 : Sub x2 y2) (h3 : Sub x3 y3) (hy : APure P f [y, y', y2, y3] Q) : APure P f [x, x', x2, x3] Q :=
  APure.args (xs := [x, x', x2, x3]) (ys := [y, y', y2, y3]) rfl (fun i => match i with
    | 0 => h
    | 1 => h'
    | 2 => h2
    | 3 => h3
    | _ + 4 => Sub.refl _) hy

def SubL : List V → List V → Prop
  | [], [] => True
  | x :: xs, y :: ys => Sub x y ∧ SubL xs ys
  | _, _ => False

theorem SubL.zip : ∀ (keys : List Nat) {xs ys : List V}, SubL xs ys → ∀ i, Sub (Env.get (keys.zip xs) i) (Env.get (keys.zip ys) i)
  | [], _, _, _, _ => Sub.refl _
  | k :: keys, [], [], _, _ => Sub.refl _
  | k :: keys, x :: xs, y :: ys, h, i => by
    simp only [List.zip_cons_cons, Env.get]
    split
    · exact h.1
    · exact SubL.zip keys h.2 i
  | _ :: _, [], _ :: _, h, _ => h.elim
  | _ :: _, _ :: _, [], h, _ => h.elim

theorem SubL.refl : ∀ xs : List V, SubL xs xs
  | [] => trivial
  | x :: xs => ⟨Sub.refl x, SubL.refl xs⟩

/-- What is no cells, whole. -/
def Con.rest : Con → Option Con
  | .loop st pend e nt ps as bd inf => some (.loop st pend e nt ps as bd inf)
  | _ => none
theorem Con.rest_isC {c : Con} (h : c.isC = true) : c.rest = none := by cases c <;> first | rfl | cases h
theorem Con.rest_eq {c d : Con} (h : d.rest = c.rest) (hc : c.isC = false) : d = c := by
  have h1 : c.rest = some c := by cases c <;> first | rfl | cases hc
  rw [h1] at h
  cases d <;> first | exact Option.some.inj h | cases h

/-- Objects that read alike. -/
def ObSub (o o' : Ob) : Prop := o'.e = o.e ∧ o'.sz = o.sz ∧ o'.ver = o.ver ∧ o'.c.n = o.c.n ∧ (o'.c.rest = o.c.rest ∧ o'.c.kc = o.c.kc) ∧ ∀ j k, j < o.c.n → k < o.sz → Sub (o.c.f j k) (o'.c.f j k)
theorem ObSub.refl (o : Ob) : ObSub o o := ⟨rfl, rfl, rfl, rfl, ⟨rfl, rfl⟩, fun _ _ _ _ => Sub.refl _⟩
theorem ObSub.of {o o' : Ob} (h : o = o') : ObSub o o' := h ▸ ObSub.refl o

theorem ObSub.ci {e sz ver n : Nat} {f : Nat → Nat → V} {g : Nat → Nat → Int} (h : ∀ j k, j < n → k < sz → f j k = .int (g j k)) : ObSub ⟨e, sz, ver, .cv n f⟩ ⟨e, sz, ver, .ci n g⟩ := ⟨rfl, rfl, rfl, rfl, ⟨rfl, rfl⟩, fun j k hj hk => Sub.of (h j k hj hk)⟩
theorem ObSub.cc {e sz ver n : Nat} {f g : Nat → Nat → Int} (h : ∀ j k, j < n → k < sz → f j k = g j k) : ObSub ⟨e, sz, ver, .ci n f⟩ ⟨e, sz, ver, .ci n g⟩ := ⟨rfl, rfl, rfl, rfl, ⟨rfl, rfl⟩, fun j k hj hk => Sub.of (congrArg V.int (h j k hj hk))⟩
theorem ObSub.ii {e sz ver : Nat} {f g : List Int} (h : f = g) : ObSub ⟨e, sz, ver, .il f⟩ ⟨e, sz, ver, .il g⟩ := by subst h; exact ObSub.refl _

def MSub : Mem → Mem → Prop
  | [], _ => True
  | none :: r, _ :: r' => MSub r r'
  | none :: r, [] => MSub r []
  | some o :: r, some o' :: r' => ObSub o o' ∧ MSub r r'
  | some _ :: _, _ => False

theorem MSub.refl : ∀ M : Mem, MSub M M
  | [] => trivial
  | none :: r => MSub.refl r
  | some o :: r => ⟨ObSub.refl o, MSub.refl r⟩

theorem same0 {vs : List V} {M : Mem} {I : List V → Mem → Prop} (h : I vs M) : ∃ vs' M', SubL vs vs' ∧ MSub M M' ∧ I vs' M' := ⟨vs, M, SubL.refl vs, MSub.refl M, h⟩
theorem same1 {vs : List V} {M : Mem} {I : List V → Mem → Prop} {mu : List V → Mem → Nat} {n : Nat} (h : I vs M ∧ mu vs M < n) : ∃ vs' M', SubL vs vs' ∧ MSub M M' ∧ I vs' M' ∧ mu vs' M' < n := ⟨vs, M, SubL.refl vs, MSub.refl M, h⟩
/-- The values as they are, another memory that reads alike. -/
theorem memA0 {vs : List V} {M : Mem} {I : List V → Mem → Prop} (M' : Mem) (hm : MSub M M') (h : I vs M') : ∃ vs' M', SubL vs vs' ∧ MSub M M' ∧ I vs' M' := ⟨vs, M', SubL.refl vs, hm, h⟩
theorem memA1 {vs : List V} {M : Mem} {I : List V → Mem → Prop} {mu : List V → Mem → Nat} {n : Nat} (M' : Mem) (hm : MSub M M') (h : I vs M' ∧ mu vs M' < n) : ∃ vs' M', SubL vs vs' ∧ MSub M M' ∧ I vs' M' ∧ mu vs' M' < n := ⟨vs, M', SubL.refl vs, hm, h⟩

theorem MSub.get : ∀ {M M' : Mem}, MSub M M' → ∀ t o, M.get t = some o → ∃ o', M'.get t = some o' ∧ ObSub o o'
  | [], _, _, t, o, h => by simp [Mem.get, List.getD] at h
  | none :: r, x :: r', hm, t, o, h => by
    cases t with
    | zero => simp [Mem.get] at h
    | succ t => exact MSub.get (M := r) (M' := r') hm t o (by simpa [Mem.get] using h)
  | none :: r, [], hm, t, o, h => by
    cases t with
    | zero => simp [Mem.get] at h
    | succ t =>
      obtain ⟨o', h1, _⟩ := MSub.get (M := r) (M' := []) hm t o (by simpa [Mem.get] using h)
      simp [Mem.get, List.getD] at h1
  | some x :: r, some y :: r', hm, t, o, h => by
    cases t with
    | zero => simp [Mem.get] at h; subst h; exact ⟨y, by simp [Mem.get], hm.1⟩
    | succ t =>
      obtain ⟨o', h1, h2⟩ := MSub.get (M := r) (M' := r') hm.2 t o (by simpa [Mem.get] using h)
      exact ⟨o', by simpa [Mem.get] using h1, h2⟩
  | some _ :: _, none :: _, hm, _, _, _ => hm.elim
  | some _ :: _, [], hm, _, _, _ => hm.elim

theorem MemRel.sub {nb base : Nat} {φ : Phi} {w : World} {M M' : Mem} (h : MemRel nb base φ w M) (hs : MSub M M') : MemRel nb base φ w M' := by
  refine ⟨fun t r ht => ?_, h.inj, h.own, h.le⟩
  obtain ⟨o, h1, h2⟩ := h.obj t r ht
  obtain ⟨o', h3, e1, e2, e3, e4, ⟨e6, e7⟩, e5⟩ := hs.get t o h1
  refine ⟨o', h3, by rw [e4]; exact h2.n, by rw [e3]; exact h2.ver, by rw [e2]; exact h2.sz, by rw [e1]; exact h2.e, h2.pos, h2.le, h2.max, h2.dom, ?_, fun hC' hp => ?_⟩
  · by_cases hC : o.c.isC = true
    · refine Con.Spec_of ?_ (fun hk => by
        rw [e7] at hk
        have hsp := h2.spec
        cases hc : o.c with
        | kil => rw [hc] at hsp; exact hsp
        | _ => rw [hc] at hk; cases hk)
      have h1 : o'.c.rest = none := by rw [e6, Con.rest_isC hC]
      cases hc : o'.c with
      | loop => rw [hc] at h1; cases h1
      | _ => rfl
    · rw [Con.rest_eq e6 (by simpa using hC)]
      exact h2.spec
  have hC : o.c.isC = true := by
    have h1 : o.c.rest = none := by rw [← e6, Con.rest_isC hC']
    cases hc : o.c with
    | loop => rw [hc] at h1; cases h1
    | _ => rfl
  obtain ⟨cur, g1, g2, g3⟩ := h2.row hC hp
  refine ⟨cur, g1, g2, fun j k hj hk => ?_⟩
  obtain ⟨c, k1, k2, k3⟩ := g3 j k hj hk
  exact ⟨c, k1, k2, e5 j k (by rw [h2.n]; exact hj) (by rw [h2.sz]; exact hk) _ _ _ _ k3⟩

theorem St.sub {nt nb base : Nat} {φ : Phi} {w : World} {M M' : Mem} {keys : List Nat} {vs vs' : List V} {a : Act} (h : St lo nt nb base φ w M (keys.zip vs) a) (hv : SubL vs vs') (hm : MSub M M') : St lo nt nb base φ w M' (keys.zip vs') a :=
  ⟨h.mem.sub hm, h.dfr, h.low, h.size, fun i => hv.zip keys i _ _ _ _ (h.slots i)⟩

def loopQA (keys : List Nat) (kp : Nat → Bool) (I : List V → Mem → Prop) (mu : List V → Mem → Nat) (n : Nat) (Q : Exit → Env → Mem → Prop) : Exit → Env → Mem → Prop
  | .normal, e, M => (NamedL kp (sel keys e) ∧ NamedM kp (maskM kp 0 M)) ∧ ∃ vs M', SubL (sel keys e) vs ∧ MSub (maskM kp 0 M) M' ∧ I vs M' ∧ mu vs M' < n
  | x, e, M => Q x e M

section
variable {X : Cx}
theorem AW_loopA (hT : TabOk X.P X.T) (keys : List Nat) (kp : Nat → Bool) (I : List V → Mem → Prop) (mu : List V → Mem → Nat) {c : Code} {Q : Exit → Env → Mem → Prop} {e : Env} {M : Mem} (hk : ∀ t, t < M.length → kp t = true)
    (h0 : ∃ vs M', SubL (sel keys e) vs ∧ MSub M M' ∧ I vs M')
    (round : ∀ vs M', I vs M' → awp X c (loopQA keys kp I mu (mu vs M') Q) (keys.zip vs) M') : AW X.P X.nt X.nb X.rd (.loop c) Q e M := by
  rw [AW_def]
  intro ro lo base φ w a hro hst
  have hdom : ∀ t r, φ t = some r → kp t = true := by
    intro t r ht
    obtain ⟨o, ho, _⟩ := hst.mem.obj t r ht
    refine hk t ?_
    rcases Nat.lt_or_ge t M.length with h | h
    · exact h
    · simp [Mem.get, List.getD, List.getElem?_eq_none h] at ho
  obtain ⟨vs0, M0, s1, s2, hI0⟩ := h0
  refine wpIn_loop_ghost (fun n a' w' => ∃ vs M' φ', mu vs M' = n ∧ I vs M' ∧ St lo X.nt X.nb base φ' w' M' (keys.zip vs) a' ∧ Evo w φ w' φ') (mu vs0 M0)
    ⟨_, M0, φ, rfl, hI0, (hst.sel keys).sub s1 s2, Evo.refl w φ⟩ ?_
  rintro n a' w' ⟨vs, M', φ', rfl, hI, hst', hv⟩
  refine wpIn_mono (awp_ok hT hro c _ base φ' w' M' _ a' hst' (round vs M' hI)) ?_
  rintro x a₁ w₁ ⟨hx, e₁, M₁, φ₁, hq, hst₁, hv₁⟩
  cases x with
  | normal =>
    obtain ⟨hn, vs2, M2, t1, t2, hI2, hmu⟩ := hq
    exact ⟨_, hmu, _, _, _, rfl, hI2, ((hst₁.sel keys).mask hn.1 hn.2).sub t1 t2, (hv.trans hv₁).restr hdom⟩
  | panic c => exact hx.elim
  | outgrown => exact hx.elim
  | _ => exact ⟨trivial, e₁, M₁, φ₁, hq, hst₁, hv.trans hv₁⟩
end
end Go.Tri
