/-
  A ROUND THAT ENDS WITH AN OBJECT THAT NOBODY WRITES TO FROM THEN ON: what refers to it is an immutable slice.
-/
import Derived.Test.YtciefpkelgjboaaA30
namespace Go.Tri
variable {lo : Nat}

/-- What reads as x reads as y once the object t is let go. -/
def FzV (t ver : Nat) (ys : List Int) (x y : V) : Prop := Sub x y ∨ (x = .sl t ver 0 ys.length ∧ y = .ints true ys)
theorem FzV.refl {t ver : Nat} {ys : List Int} (x : V) : FzV t ver ys x x := .inl (Sub.refl x)
def FzL (t ver : Nat) (ys : List Int) : List V → List V → Prop
  | [], [] => True
  | x :: xs, y :: zs => FzV t ver ys x y ∧ FzL t ver ys xs zs
  | _, _ => False
theorem FzL.refl {t ver : Nat} {ys : List Int} : ∀ xs : List V, FzL t ver ys xs xs
  | [] => trivial
  | x :: xs => ⟨FzV.refl x, FzL.refl xs⟩
theorem FzL.zip {t ver : Nat} {ys : List Int} : ∀ (keys : List Nat) {xs zs : List V}, FzL t ver ys xs zs → ∀ i, FzV t ver ys (Env.get (keys.zip xs) i) (Env.get (keys.zip zs) i)
  | [], _, _, _, _ => FzV.refl _
  | k :: keys, [], [], _, _ => FzV.refl _
  | k :: keys, x :: xs, y :: zs, h, i => by
    simp only [List.zip_cons_cons, Env.get]
    split
    · exact h.1
    · exact FzL.zip keys h.2 i
  | _ :: _, [], _ :: _, h, _ => h.elim
  | _ :: _, _ :: _, [], h, _ => h.elim
def ObFz (t ver : Nat) (ys : List Int) (o o' : Ob) : Prop := o'.e = o.e ∧ o'.sz = o.sz ∧ o'.ver = o.ver ∧ o'.c.n = o.c.n ∧ (o'.c.rest = o.c.rest ∧ o'.c.kc = o.c.kc) ∧ ∀ j k, j < o.c.n → k < o.sz → FzV t ver ys (o.c.f j k) (o'.c.f j k)
theorem ObFz.refl {t ver : Nat} {ys : List Int} (o : Ob) : ObFz t ver ys o o := ⟨rfl, rfl, rfl, rfl, ⟨rfl, rfl⟩, fun _ _ _ _ => FzV.refl _⟩
theorem ObFz.cv {t ver : Nat} {ys : List Int} {e sz v n : Nat} {f g : Nat → Nat → V} (h : ∀ j k, j < n → k < sz → FzV t ver ys (f j k) (g j k)) : ObFz t ver ys ⟨e, sz, v, .cv n f⟩ ⟨e, sz, v, .cv n g⟩ := ⟨rfl, rfl, rfl, rfl, ⟨rfl, rfl⟩, h⟩
def FzM (t ver : Nat) (ys : List Int) (E : TypeId) : Nat → Mem → Mem → Prop
  | _, [], _ => True
  | i, none :: r, m' => FzM t ver ys E (i + 1) r m'.tail
  | i, some o :: r, some o' :: r' => (bif Nat.beq i t then o' = ⟨E, 1, ver + 1, .il []⟩ else ObFz t ver ys o o') ∧ FzM t ver ys E (i + 1) r r'
  | _, some _ :: _, _ => False
theorem FzM.get {t ver : Nat} {ys : List Int} {E : TypeId} : ∀ {M M' : Mem} {i : Nat}, FzM t ver ys E i M M' → ∀ s o, M.get s = some o → ∃ o', M'.get s = some o' ∧ (bif Nat.beq (i + s) t then o' = ⟨E, 1, ver + 1, .il []⟩ else ObFz t ver ys o o')
  | [], _, _, _, s, o, h => by simp [Mem.get, List.getD] at h
  | none :: r, m', i, hm, s, o, h => by
    cases s with
    | zero => simp [Mem.get] at h
    | succ s =>
      obtain ⟨o', h1, h2⟩ := FzM.get (M := r) (M' := m'.tail) (i := i + 1) hm s o (by simpa [Mem.get] using h)
      refine ⟨o', ?_, by rw [show i + (s + 1) = i + 1 + s by omega]; exact h2⟩
      cases m' with
      | nil => simp [Mem.get, List.getD] at h1
      | cons a b => simpa [Mem.get] using h1
  | some x :: r, some y :: r', i, hm, s, o, h => by
    cases s with
    | zero => simp [Mem.get] at h; subst h; exact ⟨y, by simp [Mem.get], hm.1⟩
    | succ s =>
      obtain ⟨o', h1, h2⟩ := FzM.get (M := r) (M' := r') (i := i + 1) hm.2 s o (by simpa [Mem.get] using h)
      exact ⟨o', by simpa [Mem.get] using h1, by rw [show i + (s + 1) = i + 1 + s by omega]; exact h2⟩
  | some _ :: _, none :: _, _, hm, _, _, _ => hm.elim
  | some _ :: _, [], _, hm, _, _, _ => hm.elim

theorem St.freeze {nt nb base : Nat} {φ : Phi} {w : World} {M M' : Mem} {keys : List Nat} {vs vs' : List V} {a : Act} {t ver : Nat} {E : TypeId} {ys : List Int} (h : St lo nt nb base φ w M (keys.zip vs) a)
    (hM : M.get t = some ⟨E, 1, ver, .il ys⟩) (hn : nb ≤ t) (hvs : FzL t ver ys vs vs') (hf : FzM t ver ys E 0 M M') :
    ∃ φ1, St lo nt nb base φ1 w M' (keys.zip vs') a ∧ Evo w φ w φ1 := by
  have hm := h.mem
  have hfs := hf.get
  simp only [Nat.zero_add] at hfs
  -- the reading behind it, and what reads on
  have key : ∃ φ1 : Phi, Evo w φ w φ1 ∧ (∀ x y v, FzV t ver ys x y → Rep φ base w x v → Rep φ1 base w y v) ∧ (∀ s, s ≠ t → φ1 s = φ s) ∧ (∀ r, φ1 t = some r → r.cap = 0 ∧ r.n = 0 ∧ r.ver = ver + 1 ∧ r.sz = 1 ∧ r.e = E) := by
    cases hr : φ t with
    | none =>
      refine ⟨φ, Evo.refl w φ, fun x y v hxy hx => ?_, fun _ _ => rfl, fun r h1 => by rw [hr] at h1; cases h1⟩
      rcases hxy with hs | ⟨rfl, rfl⟩
      · exact hs _ _ _ _ hx
      · obtain ⟨r, h1, _⟩ := hx
        rw [hr] at h1
        cases h1
    | some r =>
      obtain ⟨o, ho, hrel⟩ := hm.obj t r hr
      rw [hM] at ho
      cases ho
      have hver : ver = r.ver := hrel.ver
      have hrn : r.n = ys.length := hrel.n.symm
      have hrs : r.sz = 1 := hrel.sz.symm
      obtain ⟨φ1, hφ1⟩ : ∃ φ1 : Phi, φ1 = φ.upd t ⟨r.g, 0, 0, r.sz, r.e, ver + 1⟩ := ⟨_, rfl⟩
      have p1 : φ1 t = some ⟨r.g, 0, 0, r.sz, r.e, ver + 1⟩ := by rw [hφ1]; exact Phi.upd_same _ _ _
      have p2 : ∀ s, s ≠ t → φ1 s = φ s := fun s h => by rw [hφ1]; exact Phi.upd_other _ _ h
      have hlive : ∀ s r', φ1 s = some r' → 0 < r'.cap → s ≠ t ∧ φ s = some r' := by
        intro s r' h1 h2
        by_cases he : s = t
        · subst he; rw [p1] at h1; cases h1; exact absurd h2 (Nat.lt_irrefl 0)
        · exact ⟨he, by rw [← p2 s he]; exact h1⟩
      have hevo : Evo w φ w φ1 := by
        refine ⟨rfl, rfl, rfl, Nat.le_refl _, fun _ _ _ => rfl, fun s r' h1 h2 _ hnl => hnl s r' (hlive s r' h1 h2).2 h2 rfl, fun s r' h1 => ?_⟩
        by_cases he : s = t
        · subst he
          rw [hr] at h1
          cases h1
          exact ⟨_, p1, rfl, rfl, by show r.ver ≤ ver + 1; omega, fun h => absurd h (by show ver + 1 ≠ r.ver; omega)⟩
        · exact ⟨r', by rw [p2 s he]; exact h1, rfl, rfl, Nat.le_refl _, fun _ => rfl⟩
      refine ⟨φ1, hevo, fun x y v hxy hx => ?_, p2, fun r' h1 => by rw [p1] at h1; cases h1; exact ⟨rfl, rfl, rfl, hrs, hrel.e.symm⟩⟩
      rcases hxy with hs | ⟨rfl, rfl⟩
      · exact hs _ _ _ _ (Rep.evo hevo hx)
      · obtain ⟨r0, h1, _, _, hv⟩ := hx
        rw [hr] at h1
        cases h1
        obtain ⟨v1, A, hv2, v3⟩ := hv hver.symm
        rw [hv2]
        simp only [Nat.sub_zero]
        refine ⟨A, r.cap, rfl, by have := hrel.le; omega, hrel.max, fun hp => ?_⟩
        have hcap : 0 < r.cap := by have := hrel.le; omega
        have hA := v3 hcap
        rw [Nat.zero_mul] at hA
        refine ⟨r.g, 0, hA, fun s r' h1 h2 hg => ?_, fun _ => hm.own t r hr hn hcap, fun k hk => ?_⟩
        · obtain ⟨q1, q2⟩ := hlive s r' h1 h2
          exact q1 (hm.inj s t r' r q2 hr h2 hcap hg)
        · obtain ⟨cv, e1, _, e3⟩ := hrel.cell (j := k) (k := 0) (by omega) (by omega)
          rw [hrs, Nat.mul_one, Nat.add_zero] at e1
          rw [Nat.zero_add, e1]
          exact congrArg some e3
  obtain ⟨φ1, hevo, hrd, p2, p3⟩ := key
  have hlive : ∀ s r', φ1 s = some r' → 0 < r'.cap → s ≠ t ∧ φ s = some r' := by
    intro s r' h1 h2
    by_cases he : s = t
    · subst he; have := (p3 r' h1).1; omega
    · exact ⟨he, by rw [← p2 s he]; exact h1⟩
  refine ⟨φ1, ⟨?_, h.dfr.evo hevo, h.low, h.size, fun i => hrd _ _ _ (hvs.zip keys i) (h.slots i)⟩, hevo⟩
  refine ⟨fun s r' h1 => ?_, fun s s' r' r'' h1 h2 q1 q2 hg => ?_, fun s r' h1 hb hp => ?_, hm.le⟩
  · by_cases he : s = t
    · subst he
      obtain ⟨o', g1, g2⟩ := hfs s _ hM
      rw [Nat.beq_refl, cond_true] at g2
      subst g2
      obtain ⟨c1, c2, c3, c4, c5⟩ := p3 r' h1
      exact ⟨_, g1, by rw [c2]; rfl, c3.symm, c4.symm, c5.symm, by omega, by omega, by rw [c1]; exact Nat.zero_le _, fun h => by omega, trivial, fun _ h => by omega⟩
    · have h2 : φ s = some r' := by rw [← p2 s he]; exact h1
      obtain ⟨o, k1, k2⟩ := hm.obj s r' h2
      obtain ⟨o', g1, g2⟩ := hfs s o k1
      rw [show Nat.beq s t = false from by cases hb : Nat.beq s t with
        | true => exact absurd (Nat.eq_of_beq_eq_true hb) he
        | false => rfl, cond_false] at g2
      obtain ⟨e1, e2, e3, e4, ⟨e6, e7⟩, e5⟩ := g2
      refine ⟨o', g1, by rw [e4]; exact k2.n, by rw [e3]; exact k2.ver, by rw [e2]; exact k2.sz, by rw [e1]; exact k2.e, k2.pos, k2.le, k2.max, k2.dom, ?_, fun hC' hp => ?_⟩
      · have hsp := Con.Spec_evo hevo (fun _ => rfl) k2.spec
        by_cases hC : o.c.isC = true
        · refine Con.Spec_of ?_ (fun hk => by
            rw [e7] at hk
            cases hc : o.c with
            | kil => rw [hc] at hsp; exact hsp
            | _ => rw [hc] at hk; cases hk)
          have h1 : o'.c.rest = none := by rw [e6, Con.rest_isC hC]
          cases hc : o'.c with
          | loop => rw [hc] at h1; cases h1
          | _ => rfl
        · rw [Con.rest_eq e6 (by simpa using hC)]
          exact hsp
      have hC : o.c.isC = true := by
        have h1 : o.c.rest = none := by rw [← e6, Con.rest_isC hC']
        cases hc : o.c with
        | loop => rw [hc] at h1; cases h1
        | _ => rfl
      obtain ⟨cur, g1, g2, g3⟩ := k2.row hC hp
      refine ⟨cur, g1, g2, fun j k hj hk => ?_⟩
      obtain ⟨c, k1', k2', k3'⟩ := g3 j k hj hk
      exact ⟨c, k1', k2', hrd _ _ _ (e5 j k (by rw [k2.n]; exact hj) (by rw [k2.sz]; exact hk)) k3'⟩
  · exact hm.inj s s' r' r'' (hlive s r' h1 q1).2 (hlive s' r'' h2 q2).2 q1 q2 hg
  · exact hm.own s r' (hlive s r' h1 hp).2 hb hp

/-- A round's end: as loopQA has it, or with an object let go. -/
def loopQF (nb : Nat) (keys : List Nat) (kp : Nat → Bool) (I : List V → Mem → Prop) (mu : List V → Mem → Nat) (n : Nat) (Q : Exit → Env → Mem → Prop) : Exit → Env → Mem → Prop
  | .normal, e, M => (∃ t ver E ys vs1 M1, nb ≤ t ∧ M.get t = some ⟨E, 1, ver, .il ys⟩ ∧ FzL t ver ys (sel keys e) vs1 ∧ FzM t ver ys E 0 M M1 ∧ (NamedL kp vs1 ∧ NamedM kp (maskM kp 0 M1)) ∧
      ∃ vs M', SubL vs1 vs ∧ MSub (maskM kp 0 M1) M' ∧ I vs M' ∧ mu vs M' < n) ∨
    ((NamedL kp (sel keys e) ∧ NamedM kp (maskM kp 0 M)) ∧ ∃ vs M', SubL (sel keys e) vs ∧ MSub (maskM kp 0 M) M' ∧ I vs M' ∧ mu vs M' < n)
  | x, e, M => Q x e M

section
variable {X : Cx}
theorem AW_loopF (hT : TabOk X.P X.T) (keys : List Nat) (kp : Nat → Bool) (I : List V → Mem → Prop) (mu : List V → Mem → Nat) {c : Code} {Q : Exit → Env → Mem → Prop} {e : Env} {M : Mem} (hk : ∀ t, t < M.length → kp t = true)
    (h0 : ∃ vs M', SubL (sel keys e) vs ∧ MSub M M' ∧ I vs M')
    (round : ∀ vs M', I vs M' → awp X c (loopQF X.nb keys kp I mu (mu vs M') Q) (keys.zip vs) M') : AW X.P X.nt X.nb X.rd (.loop c) Q e M := by
  rw [AW_def]
  intro ro lo base φ w a hro hst
  have hdom : ∀ t r, φ t = some r → kp t = true := by
    intro t r ht
    obtain ⟨o, ho, _⟩ := hst.mem.obj t r ht
    refine hk t ?_
    rcases Nat.lt_or_ge t M.length with h | h
    · exact h
    · simp [Mem.get, List.getD, List.getElem?_eq_none h] at ho
  obtain ⟨vs0, M0, s1, s2, hI0⟩ := h0
  refine wpIn_loop_ghost (fun n a' w' => ∃ vs M' φ', mu vs M' = n ∧ I vs M' ∧ St lo X.nt X.nb base φ' w' M' (keys.zip vs) a' ∧ Evo w φ w' φ') (mu vs0 M0)
    ⟨_, M0, φ, rfl, hI0, (hst.sel keys).sub s1 s2, Evo.refl w φ⟩ ?_
  rintro n a' w' ⟨vs, M', φ', rfl, hI, hst', hv⟩
  refine wpIn_mono (awp_ok hT hro c _ base φ' w' M' _ a' hst' (round vs M' hI)) ?_
  rintro x a₁ w₁ ⟨hx, e₁, M₁, φ₁, hq, hst₁, hv₁⟩
  cases x with
  | normal =>
    rcases hq with ⟨t, ver, E, ys, vs1, M1, q1, q2, q3, q4, hn, vs2, M2, t1, t2, hI2, hmu⟩ | ⟨hn, vs2, M2, t1, t2, hI2, hmu⟩
    · obtain ⟨φ2, hst2, hv2⟩ := (hst₁.sel keys).freeze q2 q1 q3 q4
      exact ⟨_, hmu, _, _, _, rfl, hI2, (hst2.mask hn.1 hn.2).sub t1 t2, ((hv.trans hv₁).trans hv2).restr hdom⟩
    · exact ⟨_, hmu, _, _, _, rfl, hI2, ((hst₁.sel keys).mask hn.1 hn.2).sub t1 t2, (hv.trans hv₁).restr hdom⟩
  | panic c => exact hx.elim
  | outgrown => exact hx.elim
  | _ => exact ⟨trivial, e₁, M₁, φ₁, hq, hst₁, hv.trans hv₁⟩
end
end Go.Tri
