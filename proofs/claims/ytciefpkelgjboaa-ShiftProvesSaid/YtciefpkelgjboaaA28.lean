/-
  WHAT A CALL DOES NOT SEE: a contract over the first names of a memory holds over the whole of it. And loops over functions whose record keeps few slots.
-/
import Derived.Test.YtciefpkelgjboaaA24
namespace Go.Tri
variable {lo : Nat}
open Go.RowKit

/-- Names that are kept, and no immutable memory but fresh one. -/
def Flat (kp : Nat → Bool) : V → Prop
  | .ints fr _ => fr = true
  | .seq fr sz n f => fr = true ∧ ∀ j k, j < n → k < sz → Flat kp (f j k)
  | .at_ _ _ _ => False
  | .full _ => False
  | .sl t _ _ _ => kp t = true
  | .ptr t _ _ _ => kp t = true
  | .yld t => kp t = true
  | .agg n g => ∀ k, k < n → Flat kp (g k)
  | .tup n g => ∀ k, k < n → Flat kp (g k)
  | .clo _ n g => ∀ k, k < n → Flat kp (g k)
  | .bnd _ n g => ∀ k, k < n → Flat kp (g k)
  | .ifc _ x => Flat kp x
  | _ => True
def FlatE (kp : Nat → Bool) : Env → Prop
  | [] => True
  | (_, v) :: r => Flat kp v ∧ FlatE kp r
def FlatL (kp : Nat → Bool) : List V → Prop
  | [] => True
  | v :: r => Flat kp v ∧ FlatL kp r
def FlatC (kp : Nat → Bool) (sz : Nat) : Con → Prop
  | .cv n f => ∀ j k, j < n → k < sz → Flat kp (f j k)
  | .one cs => FlatL kp cs
  | .loop _ _ e _ _ _ _ _ => FlatE kp e
  | _ => True
def FlatM (kp : Nat → Bool) : Mem → Prop
  | [] => True
  | some ob :: r => FlatC kp ob.sz ob.c ∧ FlatM kp r
  | none :: r => FlatM kp r

theorem Flat.named {kp : Nat → Bool} : ∀ {x : V}, Flat kp x → Named kp x := by
  intro x
  induction x with
  | agg n g ih => exact fun h k hk => ih k (h k hk)
  | tup n g ih => exact fun h k hk => ih k (h k hk)
  | clo f n g ih => exact fun h k hk => ih k (h k hk)
  | bnd f n g ih => exact fun h k hk => ih k (h k hk)
  | ifc ty x ih => exact fun h => ih h
  | seq fr sz n f ih => exact fun h j k hj hk => ih j k (h.2 j k hj hk)
  | at_ => exact fun h => h.elim
  | full => exact fun _ => trivial
  | sl => exact fun h => h
  | ptr => exact fun h => h
  | yld => exact fun h => h
  | _ => exact fun _ => trivial

theorem FlatE.named {kp : Nat → Bool} : ∀ {e : Env}, FlatE kp e → NamedE kp e
  | [], _ => trivial
  | (_, _) :: _, h => ⟨h.1.named, FlatE.named h.2⟩
theorem FlatL.named {kp : Nat → Bool} : ∀ {e : List V}, FlatL kp e → NamedL kp e
  | [], _ => trivial
  | _ :: _, h => ⟨h.1.named, FlatL.named h.2⟩
theorem FlatC.named {kp : Nat → Bool} {sz : Nat} {c : Con} (h : FlatC kp sz c) : NamedC kp sz c := by
  cases c with
  | cv n f => exact fun j k hj hk => (h j k hj hk).named
  | one cs => exact FlatL.named h
  | loop => exact FlatE.named h
  | _ => exact trivial
theorem FlatM.named {kp : Nat → Bool} : ∀ {M : Mem}, FlatM kp M → NamedM kp M
  | [], _ => trivial
  | some _ :: _, h => ⟨h.1.named, FlatM.named h.2⟩
  | none :: r, h => FlatM.named (M := r) h

theorem FlatE.get {kp : Nat → Bool} : ∀ {e : Env}, FlatE kp e → ∀ i, Flat kp (Env.get e i)
  | [], _, i => trivial
  | (j, v) :: r, h, i => by
    simp only [Env.get]
    split
    · exact h.1
    · exact FlatE.get h.2 i
theorem FlatL.get {kp : Nat → Bool} : ∀ {vs : List V}, FlatL kp vs → ∀ i, Flat kp (vs.getD i .any)
  | [], _, i => by simp [Flat]
  | v :: r, h, 0 => by simpa using h.1
  | v :: r, h, i + 1 => by have := FlatL.get h.2 i; simpa using this
theorem FlatC.f {kp : Nat → Bool} {sz : Nat} {c : Con} (h : FlatC kp sz c) (j k : Nat) (hj : j < c.n) (hk : k < sz) : Flat kp (c.f j k) := by
  cases c with
  | cv n f => exact h j k hj hk
  | one cs => exact FlatL.get h k
  | loop => exact trivial
  | _ => exact trivial
theorem FlatM.get {kp : Nat → Bool} : ∀ {M : Mem}, FlatM kp M → ∀ t ob, M.get t = some ob → FlatC kp ob.sz ob.c
  | [], _, t, ob, h => by simp [Mem.get, List.getD] at h
  | some ob :: r, h, 0, ob', he => by simp [Mem.get] at he; subst he; exact h.1
  | none :: r, h, 0, ob', he => by simp [Mem.get] at he
  | some ob :: r, h, t + 1, ob', he => FlatM.get h.2 t ob' (by simpa [Mem.get] using he)
  | none :: r, h, t + 1, ob', he => FlatM.get (M := r) h t ob' (by simpa [Mem.get] using he)

/-- What a call leaves of the names that it sees, and the others as they were. -/
def joinK (kp : Nat → Bool) : Nat → Mem → Mem → Mem
  | _, _, [] => []
  | i, [], o :: r => (bif kp i then none else o) :: joinK kp (i + 1) [] r
  | i, x :: M, o :: r => (bif kp i then x else o) :: joinK kp (i + 1) M r

theorem joinK_get (kp : Nat → Bool) : ∀ (B : Mem) (i : Nat) (M : Mem) (t : Nat), t < B.length → (joinK kp i M B).get t = if kp (i + t) = true then M.get t else B.get t
  | [], _, _, t, h => by simp at h
  | o :: r, i, [], 0, _ => by cases hk : kp i <;> simp [joinK, Mem.get, List.getD, hk]
  | o :: r, i, x :: M, 0, _ => by cases hk : kp i <;> simp [joinK, Mem.get, hk]
  | o :: r, i, [], t + 1, h => by
    have := joinK_get kp r (i + 1) [] t (by simpa using h)
    simp only [joinK, Mem.get, List.getD_cons_succ] at this ⊢
    rw [this, show i + 1 + t = i + (t + 1) from by omega]
    simp [List.getD]
  | o :: r, i, x :: M, t + 1, h => by
    have := joinK_get kp r (i + 1) M t (by simpa using h)
    simp only [joinK, Mem.get, List.getD_cons_succ] at this ⊢
    rw [this, show i + 1 + t = i + (t + 1) from by omega]

theorem get_lt {M : Mem} {t : Nat} {o : Ob} (h : M.get t = some o) : t < M.length := by
  rcases Nat.lt_or_ge t M.length with h' | h'
  · exact h'
  · simp [Mem.get, List.getD, List.getElem?_eq_none h'] at h

theorem Rep_graft {kp : Nat → Bool} {φ φ' : Phi} {b0 base : Nat} {w : World} (h : ∀ t, kp t = true → φ' t = φ t) (hb : b0 ≤ base) (hn : ∀ b, base ≤ b → notLive φ b → notLive φ' b) :
    ∀ {x : V} {v : Value}, Flat kp x → Rep φ base w x v → Rep φ' b0 w x v := by
  intro x
  induction x with
  | lit u => exact fun _ hr => hr
  | ints fr xs =>
    rintro v hf ⟨A, cap, rfl, h1, h2, h4⟩
    refine ⟨A, cap, rfl, h1, h2, fun hp => ?_⟩
    obtain ⟨b, off, rfl, g1, g2, g3⟩ := h4 hp
    exact ⟨b, off, rfl, hn b (g2 hf) g1, fun hq => Nat.le_trans hb (g2 hq), g3⟩
  | seq fr sz n f ih =>
    rintro v hf ⟨A, cap, rfl, h1, h2, h3, h4⟩
    refine ⟨A, cap, rfl, h1, h2, h3, fun hp => ?_⟩
    obtain ⟨b, off, rfl, g1, g2, g3⟩ := h4 hp
    refine ⟨b, off, rfl, hn b (g2 hf.1) g1, fun hq => Nat.le_trans hb (g2 hq), fun j o hj ho => ?_⟩
    obtain ⟨c, e1, e2, e3⟩ := g3 j o hj ho
    exact ⟨c, e1, e2, ih j o (hf.2 j o hj ho) e3⟩
  | at_ => exact fun hf => hf.elim
  | sl t ver off len =>
    rintro v hf ⟨r, hr, hx⟩
    exact ⟨r, by rw [h t hf]; exact hr, hx⟩
  | ptr t ver i o =>
    rintro v hf ⟨r, hr, hx⟩
    exact ⟨r, by rw [h t hf]; exact hr, hx⟩
  | yld t =>
    rintro v hf ⟨r, hr, hx⟩
    exact ⟨r, by rw [h t hf]; exact hr, hx⟩
  | agg n g ih =>
    rintro v hf ⟨cs, rfl, h1, h2⟩
    exact ⟨cs, rfl, h1, fun i hi => by obtain ⟨c, e1, e2, e3⟩ := h2 i hi; exact ⟨c, e1, e2, ih i (hf i hi) e3⟩⟩
  | tup n g ih =>
    rintro v hf ⟨cs, rfl, h1, h2⟩
    exact ⟨cs, rfl, h1, fun i hi => by obtain ⟨c, e1, e3⟩ := h2 i hi; exact ⟨c, e1, ih i (hf i hi) e3⟩⟩
  | clo f n g ih =>
    rintro v hf ⟨cs, rfl, h1, h2⟩
    exact ⟨cs, rfl, h1, fun i hi => by obtain ⟨c, e1, e3⟩ := h2 i hi; exact ⟨c, e1, ih i (hf i hi) e3⟩⟩
  | bnd f n g ih =>
    rintro v hf ⟨cs, rfl, h1, h2⟩
    exact ⟨cs, rfl, h1, fun i hi => by obtain ⟨c, e1, e3⟩ := h2 i hi; exact ⟨c, e1, ih i (hf i hi) e3⟩⟩
  | ifc ty x ih =>
    rintro v hf ⟨u, rfl, h1⟩
    exact ⟨u, rfl, ih hf h1⟩
  | emp => exact fun _ hr => hr
  | full => exact fun hf => hf.elim
  | any => exact fun _ _ => trivial

theorem ORel_graft {kp : Nat → Bool} {φ φ' : Phi} {b0 base : Nat} {w : World} {r : Row} {o : Ob} (h : ∀ t, kp t = true → φ' t = φ t) (hb : b0 ≤ base) (hn : ∀ b, base ≤ b → notLive φ b → notLive φ' b) (hf : FlatC kp o.sz o.c) (ho : ORel φ base w r o) : ORel φ' b0 w r o := by
  refine ⟨ho.n, ho.ver, ho.sz, ho.e, ho.pos, ho.le, ho.max, ho.dom, ?_, fun hC hp => ?_⟩
  · have hs := ho.spec
    cases hc : o.c with
    | loop st pend e nt ps as bd inf =>
      rw [hc] at hs hf
      obtain ⟨k1, k2, L, g1, g2, g3, g4, g5, g6, g7, g8⟩ := hs
      exact ⟨k1, k2, L, g1, g2, g3, g4, g5, g6, g7, fun i => Rep_graft h hb hn (FlatE.get hf i) (g8 i)⟩
    | kil => rw [hc] at hs; exact hs
    | _ => exact trivial
  · obtain ⟨cur, e1, e2, e3⟩ := ho.row hC hp
    refine ⟨cur, e1, e2, fun j k hj hk => ?_⟩
    obtain ⟨c, f1, f2, f3⟩ := e3 j k hj hk
    exact ⟨c, f1, f2, Rep_graft h hb hn (hf.f j k (by rw [ho.n]; exact hj) (by rw [ho.sz]; exact hk)) f3⟩

/-- Nothing in it is called fresh. -/
def NoFrE : Env → Prop
  | [] => True
  | (_, v) :: r => NoFr v ∧ NoFrE r
def NoFrL : List V → Prop
  | [] => True
  | v :: r => NoFr v ∧ NoFrL r
def NoFrC : Con → Prop
  | .cv _ f => ∀ j k, NoFr (f j k)
  | .one cs => NoFrL cs
  | .loop _ _ e _ _ _ _ _ => NoFrE e
  | _ => True
def NoFrM : Mem → Prop
  | [] => True
  | some ob :: r => NoFrC ob.c ∧ NoFrM r
  | none :: r => NoFrM r
theorem NoFrE.get : ∀ {e : Env}, NoFrE e → ∀ i, NoFr (Env.get e i)
  | [], _, i => trivial
  | (j, v) :: r, h, i => by
    simp only [Env.get]
    split
    · exact h.1
    · exact NoFrE.get h.2 i
theorem NoFrL.get : ∀ {vs : List V}, NoFrL vs → ∀ i, NoFr (vs.getD i .any)
  | [], _, i => by simp [NoFr]
  | v :: r, h, 0 => by simpa using h.1
  | v :: r, h, i + 1 => by have := NoFrL.get h.2 i; simpa using this
theorem NoFrM.get : ∀ {M : Mem}, NoFrM M → ∀ t ob, M.get t = some ob → NoFrC ob.c
  | [], _, t, ob, h => by simp [Mem.get, List.getD] at h
  | some ob :: r, h, 0, ob', he => by simp [Mem.get] at he; subst he; exact h.1
  | none :: r, h, 0, ob', he => by simp [Mem.get] at he
  | some ob :: r, h, t + 1, ob', he => NoFrM.get h.2 t ob' (by simpa [Mem.get] using he)
  | none :: r, h, t + 1, ob', he => NoFrM.get (M := r) h t ob' (by simpa [Mem.get] using he)
theorem NoFrC.f {c : Con} (h : NoFrC c) (j k : Nat) : NoFr (c.f j k) := by
  cases c with
  | cv n f => exact h j k
  | one cs => exact NoFrL.get h k
  | _ => exact trivial
theorem ORel_base {φ : Phi} {b0 base : Nat} {w : World} {r : Row} {o : Ob} (hf : NoFrC o.c) (ho : ORel φ base w r o) : ORel φ b0 w r o := by
  refine ⟨ho.n, ho.ver, ho.sz, ho.e, ho.pos, ho.le, ho.max, ho.dom, ?_, fun hC hp => ?_⟩
  · have hs := ho.spec
    cases hc : o.c with
    | loop st pend e nt ps as bd inf =>
      rw [hc] at hs hf
      obtain ⟨k1, k2, L, g1, g2, g3, g4, g5, g6, g7, g8⟩ := hs
      exact ⟨k1, k2, L, g1, g2, g3, g4, g5, g6, g7, fun i => Rep_base (NoFrE.get hf i) (g8 i)⟩
    | kil => rw [hc] at hs; exact hs
    | _ => exact trivial
  · obtain ⟨cur, e1, e2, e3⟩ := ho.row hC hp
    refine ⟨cur, e1, e2, fun j k hj hk => ?_⟩
    obtain ⟨c, f1, f2, f3⟩ := e3 j k hj hk
    exact ⟨c, f1, f2, Rep_base (hf.f j k) f3⟩

/-- The versions of the names that are kept. -/
def vers : Mem → List Nat
  | [] => []
  | some ob :: r => ob.ver :: vers r
  | none :: r => 0 :: vers r
theorem vers_get : ∀ {M : Mem} {t : Nat} {o : Ob}, M.get t = some o → (vers M)[t]? = some o.ver
  | [], t, o, h => by simp [Mem.get, List.getD] at h
  | some ob :: r, 0, o, h => by simp [Mem.get] at h; subst h; rfl
  | none :: r, 0, o, h => by simp [Mem.get] at h
  | some ob :: r, t + 1, o, h => by simpa [vers] using vers_get (M := r) (t := t) (by simpa [Mem.get] using h)
  | none :: r, t + 1, o, h => by simpa [vers] using vers_get (M := r) (t := t) (by simpa [Mem.get] using h)

/-- A CALL over some names holds over all: what it doesn't see stays. -/
theorem ACM_frame {P : Program} {f : FuncId} {xs : List V} {B : Mem} {Q : V → Mem → Prop} (kp : Nat → Bool) (hkp : ∀ t, kp t = true → t < B.length) (hx : NamedL kp xs) (hxf : NoFrL xs) (hM : NamedM kp (maskM kp 0 B)) (hMf : NoFrM (maskM kp 0 B))
    (h : ACM P f xs (maskM kp 0 B) (fun R M' => Flat kp R ∧ FlatM kp (maskM kp 0 M') ∧ vers (maskM kp 0 M') = vers (maskM kp 0 B) ∧ Q R (maskM kp 0 M'))) :
    ACM P f xs B (fun R M'' => ∃ M', Q R M' ∧ M'' = joinK kp 0 M' B) := by
  unfold ACM at h ⊢
  refine ⟨h.1, fun nb base φ w args _ hm hs ha => ?_⟩
  have hmr : MemRel nb base (restr kp φ) w (maskM kp 0 B) := hm.mask hM
  have hms : MemRel B.length w.heap.size (restr kp φ) w (maskM kp 0 B) := by
    refine ⟨fun t r ht => ?_, hmr.inj, fun t r ht hb _ => ?_, Nat.le_refl _⟩
    · obtain ⟨o, h1, h2⟩ := hmr.obj t r ht
      exact ⟨o, h1, ORel_base (hMf.get t o h1) h2⟩
    · exfalso
      unfold restr at ht
      split at ht
      · next hk => have := hkp t hk; omega
      · cases ht
  refine (h.2 B.length w.heap.size (restr kp φ) w args (fun _ h => nomatch h) hms hs (fun i => Rep_base (NoFrL.get hxf i) (Rep_restr (NamedL.get hx i) (ha i)))).mono ?_
  rintro e w' ⟨v, R, M', φ', rfl, ⟨hR, hMfl, hver, hQ⟩, hm', hr, hev⟩
  obtain ⟨φ2, hφ2⟩ : ∃ φ2 : Phi, φ2 = fun t => if kp t = true then φ' t else φ t := ⟨_, rfl⟩
  have e1 : ∀ t, kp t = true → φ2 t = φ' t := fun t ht => by rw [hφ2]; exact if_pos ht
  have e2 : ∀ t, ¬ kp t = true → φ2 t = φ t := fun t ht => by rw [hφ2]; exact if_neg ht
  have er : ∀ t, kp t = true → restr kp φ t = φ t := fun t ht => if_pos ht
  have erm : ∀ t, kp t = true → φ2 t = restr kp φ' t := fun t ht => by rw [e1 t ht]; exact (if_pos ht).symm
  have hevo : Evo w φ w' φ2 := by
    refine ⟨hev.os, hev.tape, hev.output, hev.size, fun b hb hnl => hev.block b hb (notLive_restr hnl), fun t r ht hp hlt hnl => ?_, fun t r ht => ?_⟩
    · by_cases hk : kp t = true
      · rw [e1 t hk] at ht
        exact hev.live t r ht hp hlt (notLive_restr hnl)
      · rw [e2 t hk] at ht
        exact hnl t r ht hp rfl
    · by_cases hk : kp t = true
      · rw [e1 t hk]
        exact hev.names t r (by rw [er t hk]; exact ht)
      · exact ⟨r, by rw [e2 t hk]; exact ht, rfl, rfl, Nat.le_refl _, fun _ => rfl⟩
  -- blocks that are not seen
  have hhid : ∀ t r, ¬ kp t = true → φ t = some r → 0 < r.cap → notLive (restr kp φ) r.g := by
    intro t r hk ht hp t' r' ht' hp' he
    unfold restr at ht'
    split at ht'
    · next hk' =>
      have := hm.inj t' t r' r ht' ht hp' hp he
      subst this
      exact hk hk'
    · cases ht'
  have hmk : MemRel B.length w.heap.size (restr kp φ') w' (maskM kp 0 M') := hm'.mask hMfl.named
  have hn : ∀ b, w.heap.size ≤ b → notLive (restr kp φ') b → notLive φ2 b := by
    intro b hb hnl t r ht hp he
    by_cases hk : kp t = true
    · exact hnl t r (by rw [← erm t hk]; exact ht) hp he
    · rw [e2 t hk] at ht
      have := hm.lt ht hp
      omega
  have hn' : ∀ b, w.heap.size ≤ b → notLive φ' b → notLive φ2 b := fun b hb hnl => hn b hb (notLive_restr hnl)
  have hlen : ∀ t r, φ2 t = some r → t < B.length := by
    intro t r ht
    by_cases hk : kp t = true
    · exact hkp t hk
    · rw [e2 t hk] at ht
      obtain ⟨o, h1, _⟩ := hm.obj t r ht
      exact get_lt h1
  refine ⟨v, R, joinK kp 0 (maskM kp 0 M') B, φ2, rfl, ⟨_, hQ, rfl⟩, ⟨fun t r ht => ?_, fun t t' r r' ht ht' hp hp' hg => ?_, fun t r ht hb hp => ?_, Nat.le_trans hm.le hev.size⟩, Rep_graft (kp := kp) e1 hm.le hn' hR hr, hevo⟩
  · rw [joinK_get kp B 0 _ t (hlen t r ht), Nat.zero_add]
    by_cases hk : kp t = true
    · rw [if_pos hk]
      rw [erm t hk] at ht
      obtain ⟨o, h1, h2⟩ := hmk.obj t r ht
      exact ⟨o, h1, ORel_graft erm hm.le hn (hMfl.get t o h1) h2⟩
    · rw [if_neg hk]
      rw [e2 t hk] at ht
      obtain ⟨o, h1, h2⟩ := hm.obj t r ht
      exact ⟨o, h1, h2.evo hevo (fun hp => hev.block _ (h2.dom hp) (hhid t r hk ht hp))⟩
  · by_cases hk : kp t = true <;> by_cases hk' : kp t' = true
    · rw [e1 t hk] at ht
      rw [e1 t' hk'] at ht'
      exact hm'.inj t t' r r' ht ht' hp hp' hg
    · exfalso
      rw [e1 t hk] at ht
      rw [e2 t' hk'] at ht'
      have hd := (hm.obj t' r' ht').choose_spec.2.dom hp'
      exact hev.live t r ht hp (by rw [hg]; exact hd) (by rw [hg]; exact hhid t' r' hk' ht' hp')
    · exfalso
      rw [e2 t hk] at ht
      rw [e1 t' hk'] at ht'
      have hd := (hm.obj t r ht).choose_spec.2.dom hp
      exact hev.live t' r' ht' hp' (by rw [← hg]; exact hd) (by rw [← hg]; exact hhid t r hk ht hp)
    · rw [e2 t hk] at ht
      rw [e2 t' hk'] at ht'
      exact hm.inj t t' r r' ht ht' hp hp' hg
  · by_cases hk : kp t = true
    · -- the version is as before, and so is the row, where the name was there before
      rw [erm t hk] at ht
      obtain ⟨o, h1, h2⟩ := hmk.obj t r ht
      by_cases hq : ∃ r0, φ t = some r0
      · obtain ⟨r0, hr0⟩ := hq
        have hr0' : restr kp φ t = some r0 := by rw [er t hk]; exact hr0
        obtain ⟨o0, g1, g2⟩ := hmr.obj t r0 hr0'
        obtain ⟨r1, k1, _, _, _, k5⟩ := hev.names t r0 hr0'
        have hrr : r1 = r := by
          have : restr kp φ' t = some r1 := by rw [← erm t hk, e1 t hk]; exact k1
          rw [this] at ht
          exact Option.some.inj ht
        subst hrr
        have v1 := vers_get h1
        rw [hver, vers_get g1] at v1
        have : r1.ver = r0.ver := by rw [← h2.ver, ← g2.ver]; exact (Option.some.inj v1).symm
        rw [k5 this] at hp ⊢
        exact hm.own t r0 hr0 hb hp
      · rcases Nat.lt_or_ge r.g w.heap.size with hlt | hge
        · exfalso
          -- a new name in an old block: it is that of another one that is seen
          have hk1 : φ' t = some r := by rw [← e1 t hk, erm t hk]; exact ht
          refine hev.live t r hk1 hp hlt fun t1 r1 ht1 hp1 he1 => ?_
          have hk1' : kp t1 = true := by
            unfold restr at ht1
            split at ht1
            · assumption
            · cases ht1
          obtain ⟨o1, g1, g2⟩ := hmr.obj t1 r1 ht1
          obtain ⟨r2, k1, _, _, _, k5⟩ := hev.names t1 r1 ht1
          have hr2 : restr kp φ' t1 = some r2 := by rw [← erm t1 hk1', e1 t1 hk1']; exact k1
          obtain ⟨o2, f1, f2⟩ := hmk.obj t1 r2 hr2
          have v1 := vers_get f1
          rw [hver, vers_get g1] at v1
          have : r2.ver = r1.ver := by rw [← f2.ver, ← g2.ver]; exact (Option.some.inj v1).symm
          have hr21 := k5 this
          subst hr21
          have := hm'.inj t t1 r r2 hk1 k1 hp hp1 he1.symm
          subst this
          rw [er t hk1'] at ht1
          exact hq ⟨_, ht1⟩
        · exact Nat.le_trans hm.le hge
    · rw [e2 t hk] at ht
      exact hm.own t r ht hb hp

/-- A CALL; behind it only what was there ahead of it is kept. -/
theorem ACM_maskQ {P : Program} {f : FuncId} {xs : List V} {M : Mem} {kp : Nat → Bool} {Q : V → Mem → Prop} {nb0 : Option Nat} (hk : ∀ t, t < M.length → kp t = true)
    (h : ACM P f xs M (fun R M' => Named kp R ∧ NamedM kp (maskM kp 0 M') ∧ Q R (maskM kp 0 M')) nb0) : ACM P f xs M Q nb0 := by
  unfold ACM at h ⊢
  refine ⟨h.1, fun nb base φ w args hnb hm hs ha => ?_⟩
  refine (h.2 nb base φ w args hnb hm hs ha).mono ?_
  rintro e w' ⟨v, R, M', φ', rfl, ⟨hR, hM, hQ⟩, h2, h3, h4⟩
  refine ⟨v, R, _, restr kp φ', rfl, hQ, h2.mask hM, Rep_restr hR h3, h4.restr fun t r ht => ?_⟩
  obtain ⟨o, ho, _⟩ := hm.obj t r ht
  refine hk t ?_
  rcases Nat.lt_or_ge t M.length with h | h
  · exact h
  · simp [Mem.get, List.getD, List.getElem?_eq_none h] at ho

/-- 'for .. := range g { .. }', outside all rounds; the record keeps some slots alone. -/
theorem AW_rangeK {X : Cx} (hrd : X.rd = false) {g : Operand} {ps : Array Tmp} {as bd : Code} {Q : Exit → Env → Mem → Prop} {e : Env} {M : Mem} {f n : Nat} {cap : Nat → V} (inf : LoopInf X.nt ps as bd) (e0 : Env) (he0 : ∀ i, Env.get e0 i = Env.get e i ∨ Env.get e0 i = .any) (hg : evA e g = .clo f n cap)
    (h : ACM X.P f (.yld M.length :: (List.range n).map cap) (M.put M.length (loopOb .ready none e0 X.nt ps as bd inf)) (fun _ M' => rangeQ M.length e Q M')) :
    AW X.P X.nt X.nb X.rd (.rangeFunc g ps as bd) Q e M := by
  rw [AW_def]
  intro ro lo base φ w a hro hst
  have hro := hro hrd
  subst hro
  have hnm : φ M.length = none := by
    cases hq : φ M.length with
    | none => rfl
    | some r =>
      obtain ⟨o', h1, _⟩ := hst.mem.obj _ r hq
      simp [Mem.get, List.getD] at h1
  have hgv := hst.eval g
  rw [hg] at hgv
  obtain ⟨cs, hv, hcs1, hcs2⟩ := hgv
  unfold ACM at h
  obtain ⟨hfn, hcall⟩ := h
  refine wpIn_rangeFunc ?_
  intro fn _
  have hevD : Evo w φ (w.alloc (.deferred (some []))) φ := evo_alloc w φ _
  have hmD : MemRel X.nb base φ (w.alloc (.deferred (some []))) M := hst.mem.evo hevD (fun t r ht hp => heap_alloc_old w _ (hst.mem.lt ht hp))
  obtain ⟨L, hLd⟩ : ∃ L : Loop, L = { state := .ready, pending := none, fn := fn, tmps := a.tmps, params := ps, assign := as, body := bd, defers := w.heap.size } := ⟨_, rfl⟩
  have hL1 : L.state = .ready := by rw [hLd]
  have hL2 : L.pending = none := by rw [hLd]
  have hL3 : L.params = ps := by rw [hLd]
  have hL4 : L.assign = as := by rw [hLd]
  have hL5 : L.body = bd := by rw [hLd]
  have hL6 : L.tmps = a.tmps := by rw [hLd]
  obtain ⟨hm1, hev1⟩ := new_loop (nt := X.nt) hmD hnm (e := e0) ps as bd inf L hL1 hL2 hL3 hL4 hL5 (by rw [hL6]; exact hst.size) (fun i => by rw [hL6]; exact Rep.evo hevD ((he0 i).elim (fun h => by rw [h]; exact hst.slots i) (fun h => by rw [h]; exact trivial)))
  have hsz : (w.alloc (.deferred (some []))).heap.size = w.heap.size + 1 := by simp
  rw [hsz] at hm1 hev1
  obtain ⟨w1, hw1⟩ : ∃ w1, (w.alloc (.deferred (some []))).alloc (.loop L) = w1 := ⟨_, rfl⟩
  rw [hw1] at hm1 hev1
  have hw01 : Evo w φ w1 (φ.upd M.length ⟨w.heap.size + 1, 1, 0, 1, 0, 0⟩) := hevD.trans hev1
  have hD1 : w1.heap[w.heap.size]? = some (.deferred (some [])) := by
    rw [← hw1]
    exact (heap_alloc_old _ _ (by simp)).trans (World.alloc_heap_new w _)
  have hnlD : notLive (φ.upd M.length ⟨w.heap.size + 1, 1, 0, 1, 0, 0⟩) w.heap.size := by
    intro t r ht hp e
    by_cases h : t = M.length
    · subst h
      rw [Phi.upd_same] at ht
      cases ht
      simp only at e
      omega
    · rw [Phi.upd_other _ _ h] at ht
      have := hst.mem.lt ht hp
      omega
  have hcall := hcall X.nb base _ w1 (#[.func (.yield (w.heap.size + 1)) #[] #[]] ++ cs) (fun _ h => nomatch h) hm1 (by simp [hcs1]; omega) (fun i => by
    cases i with
    | zero =>
      rw [show (#[Value.func (.yield (w.heap.size + 1)) #[] #[]] ++ cs).getD 0 undef = Value.func (.yield (w.heap.size + 1)) #[] #[] from by simp [Array.getD]]
      exact ⟨_, Phi.upd_same _ _ _, rfl, fun _ => ⟨Nat.le_refl _, rfl⟩⟩
    | succ i =>
      by_cases hi : i < n
      · obtain ⟨u, q1, q2⟩ := hcs2 i hi
        rw [show (#[Value.func (.yield (w.heap.size + 1)) #[] #[]] ++ cs).getD (i + 1) undef = u from by
          rw [Array.getD_eq_getD_getElem?, Array.getElem?_append_right (by simp)]
          simp [q1]]
        rw [show (V.yld M.length :: (List.range n).map cap).getD (i + 1) .any = cap i from by simp [List.getD, hi]]
        exact Rep.evo hw01 q2
      · rw [show (V.yld M.length :: (List.range n).map cap).getD (i + 1) .any = .any from by
          simp only [List.getD]
          rw [List.getElem?_eq_none (by simp; omega)]
          rfl]
        trivial)
  refine ⟨w.heap.size + 1, [markD w.heap.size], w1, { target := .fn (.func f) cs, args := #[.func (.yield (w.heap.size + 1)) #[] #[]] }, w1, f, #[.func (.yield (w.heap.size + 1)) #[] #[]] ++ cs, w1, ?_, ?_, fun _ _ => trivial, ?_, (fun h => nomatch h), ?_⟩
  · rw [← hw1, hLd]
    exact run_enterLoop_outer _ _ _ _ _
  · simp only [resolve]
    rw [hv]
    simp [Deferred.ofValue, Act.eval]
  · simp only [invoke]
    exact run_callFunc hfn _ w1
  · refine callsIn_FZ (ro := none) (hcall.mono ?_)
    rintro e' w3 ⟨v, R, M', φ', rfl, ⟨st, pend, hst', e3, nt3, ps3, as3, bd3, inf3, ho, hq⟩, hm3, _, hev3⟩
    have ht3 := hev3.row hm3 (Phi.upd_same φ M.length _) rfl ho rfl
    obtain ⟨_, _, L3, hL3, hs3⟩ := step_loop hm3 ht3 ho
    obtain ⟨hm4, hev4⟩ := hs3 .exhausted pend
    have hend := run_endLoop (P := X.P) hL3.at_ (by rw [hL3.st]; exact hst')
    have e4 : ({ L3 with state := .exhausted, pending := pend } : Loop) = { L3 with state := .exhausted } := by rw [← hL3.pend]
    rw [e4] at hm4 hev4
    obtain ⟨w4, hw4⟩ : ∃ w4, w3.putObj (w.heap.size + 1) (.loop { L3 with state := .exhausted }) = w4 := ⟨_, rfl⟩
    replace hend : (Instr.endLoop (w.heap.size + 1)).run X.P w3 = .ok L3.pending w4 := by rw [← hw4]; exact hend
    replace hm4 : MemRel X.nb base φ' w4 (M'.put M.length (loopOb .exhausted pend e3 nt3 ps3 as3 bd3 inf3)) := by rw [← hw4]; exact hm4
    replace hev4 : Evo w3 φ' w4 φ' := by rw [← hw4]; exact hev4
    rw [hL3.pend] at hend
    have hevA : Evo w φ w4 φ' := (hw01.trans hev3).trans hev4
    have hst4 : St lo X.nt X.nb base φ' w4 (M'.put M.length (loopOb .exhausted pend e3 nt3 ps3 as3 bd3 inf3)) e { a with defers := [markD w.heap.size] ++ a.defers } := by
      refine ⟨hm4, ⟨⟨w.heap.size, rfl, hst.low, ?_, ?_, fun d' hd' he => ?_⟩, hst.dfr.evo hevA⟩, Nat.le_trans hst.low hevA.size, hst.size, fun i => Rep.evo hevA (hst.slots i)⟩
      · have hlt1 : w.heap.size < w1.heap.size := (Array.getElem?_eq_some_iff.1 hD1).1
        rw [(hev3.trans hev4).block _ hlt1 hnlD]
        exact hD1
      · have hlt1 : w.heap.size < w1.heap.size := (Array.getElem?_eq_some_iff.1 hD1).1
        exact (hev3.trans hev4).notLive_keep hlt1 hnlD
      · have : ∀ ds : List Deferred, Dfr lo φ w ds → ∀ d ∈ ds, d ≠ markD w.heap.size := by
          intro ds
          induction ds with
          | nil => intro _ d hd; cases hd
          | cons d0 r ih =>
            rintro ⟨⟨D, q1, q2, q3, q4, q5⟩, q6⟩ d hd
            rcases List.mem_cons.1 hd with rfl | hd
            · intro h
              rw [q1] at h
              have : D < w.heap.size := (Array.getElem?_eq_some_iff.1 q3).1
              cases h
              omega
            · exact ih q6 d hd
        exact this _ hst.dfr d' hd' he
    refine ⟨pend, _, hend, ?_⟩
    cases pend with
    | none => exact ⟨trivial, e, _, φ', hq, hst4, hevA⟩
    | some c =>
      cases c with
      | ret => exact wpIn_ret ⟨trivial, e, _, φ', hq, hst4, hevA⟩
      | exit id => exact wpIn_exit ⟨trivial, e, _, φ', hq, hst4, hevA⟩
      | _ => exact hq.elim

theorem keys_any (keys : List Nat) (e : Env) (i : Nat) : Env.get (keys.zip (sel keys e)) i = Env.get e i ∨ Env.get (keys.zip (sel keys e)) i = .any := by
  induction keys with
  | nil => exact .inr rfl
  | cons k r ih =>
    simp only [sel, List.map_cons, List.zip_cons_cons, Env.get]
    by_cases h : k = i
    · subst h; rw [if_pos rfl]; exact .inl rfl
    · rw [if_neg h]; exact ih

end Go.Tri
