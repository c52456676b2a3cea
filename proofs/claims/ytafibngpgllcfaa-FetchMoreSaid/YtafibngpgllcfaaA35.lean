/-
  A SLICE WITHOUT ROOM GETS A NAME: then what is appended to it in a loop is one case.
-/
import Derived.Test.YtafibngpgllcfaaA34
namespace Go.Tri
variable {lo : Nat}
open Go.RowKit

/-- What reads as x reads as y once t is the name of a row without room. -/
def NlV (t : Nat) (x y : V) : Prop := Sub x y ∨ ((∃ b, x = .emp b) ∧ y = .sl t 0 0 0)
theorem NlV.refl {t : Nat} (x : V) : NlV t x x := .inl (Sub.refl x)
theorem NlV.nil {t : Nat} (b : Bool) : NlV t (.emp b) (.sl t 0 0 0) := .inr ⟨⟨b, rfl⟩, rfl⟩
def ObNl (t : Nat) (o o' : Ob) : Prop := o'.e = o.e ∧ o'.sz = o.sz ∧ o'.ver = o.ver ∧ o'.c.n = o.c.n ∧ (o'.c.rest = o.c.rest ∧ o'.c.kc = o.c.kc) ∧ ∀ j k, j < o.c.n → k < o.sz → NlV t (o.c.f j k) (o'.c.f j k)
theorem ObNl.refl {t : Nat} (o : Ob) : ObNl t o o := ⟨rfl, rfl, rfl, rfl, ⟨rfl, rfl⟩, fun _ _ _ _ => NlV.refl _⟩
/-- A box of a slice without room. -/
theorem ObNl.box {t : Nat} {e : TypeId} {ver : Nat} (b : Bool) : ObNl t ⟨e, 1, ver, .one [.emp b]⟩ ⟨e, 1, ver, .one [.sl t 0 0 0]⟩ := ⟨rfl, rfl, rfl, rfl, ⟨rfl, rfl⟩, fun j k _ hk => by
  obtain rfl : k = 0 := by have hk : k < 1 := hk; omega
  exact NlV.nil b⟩
def NlM (t : Nat) : Mem → Mem → Prop
  | [], _ => True
  | none :: r, _ :: r' => NlM t r r'
  | none :: r, [] => NlM t r []
  | some o :: r, some o' :: r' => ObNl t o o' ∧ NlM t r r'
  | some _ :: _, _ => False
theorem NlM.refl (t : Nat) (N : Mem) : ∀ M : Mem, NlM t M (M ++ N)
  | [] => trivial
  | none :: r => NlM.refl t N r
  | some o :: r => ⟨ObNl.refl o, NlM.refl t N r⟩
theorem NlM.get {t' : Nat} : ∀ {M M' : Mem}, NlM t' M M' → ∀ t o, M.get t = some o → ∃ o', M'.get t = some o' ∧ ObNl t' o o'
  | [], _, _, t, o, h => by simp [Mem.get, List.getD] at h
  | none :: r, x :: r', hm, t, o, h => by
    cases t with
    | zero => simp [Mem.get] at h
    | succ t => exact NlM.get (M := r) (M' := r') hm t o (by simpa [Mem.get] using h)
  | none :: r, [], hm, t, o, h => by
    cases t with
    | zero => simp [Mem.get] at h
    | succ t =>
      obtain ⟨o', h1, _⟩ := NlM.get (M := r) (M' := []) hm t o (by simpa [Mem.get] using h)
      simp [Mem.get, List.getD] at h1
  | some x :: r, some y :: r', hm, t, o, h => by
    cases t with
    | zero => simp [Mem.get] at h; subst h; exact ⟨y, by simp [Mem.get], hm.1⟩
    | succ t =>
      obtain ⟨o', h1, h2⟩ := NlM.get (M := r) (M' := r') hm.2 t o (by simpa [Mem.get] using h)
      exact ⟨o', by simpa [Mem.get] using h1, h2⟩
  | some _ :: _, none :: _, hm, _, _, _ => hm.elim
  | some _ :: _, [], hm, _, _, _ => hm.elim

theorem St.nil {nt nb base : Nat} {φ : Phi} {w : World} {M M' : Mem} {e e' : Env} {a : Act} {t s : Nat} {E : TypeId} {C : Con} (h : St lo nt nb base φ w M e a)
    (ht : M.get t = none) (hm' : NlM t M M') (hM : M'.get t = some ⟨E, s, 0, C⟩) (hn : C.n = 0) (hs : 0 < s) (hC : C.isC = true) (hk : C.kc = false) (he : ∀ i, NlV t (Env.get e i) (Env.get e' i)) :
    ∃ φ1, St lo nt nb base φ1 w M' e' a ∧ Evo w φ w φ1 := by
  have hm := h.mem
  have hr : φ t = none := by
    cases hq : φ t with
    | none => rfl
    | some r =>
      obtain ⟨o, ho, _⟩ := hm.obj t r hq
      rw [ht] at ho
      cases ho
  obtain ⟨φ1, hφ1⟩ : ∃ φ1 : Phi, φ1 = φ.upd t ⟨0, 0, 0, s, E, 0⟩ := ⟨_, rfl⟩
  have p1 : φ1 t = some ⟨0, 0, 0, s, E, 0⟩ := by rw [hφ1]; exact Phi.upd_same _ _ _
  have p2 : ∀ s, s ≠ t → φ1 s = φ s := fun s h => by rw [hφ1]; exact Phi.upd_other _ _ h
  have hlive : ∀ s r', φ1 s = some r' → 0 < r'.cap → s ≠ t ∧ φ s = some r' := by
    intro s r' h1 h2
    by_cases he : s = t
    · subst he; rw [p1] at h1; cases h1; exact absurd h2 (Nat.lt_irrefl 0)
    · exact ⟨he, by rw [← p2 s he]; exact h1⟩
  have hevo : Evo w φ w φ1 := by
    refine ⟨rfl, rfl, rfl, Nat.le_refl _, fun _ _ _ => rfl, fun s r' h1 h2 _ hnl => hnl s r' (hlive s r' h1 h2).2 h2 rfl, fun s r' h1 => ?_, (by first | exact Nat.le_refl _ | exact Nat.le_succ _)⟩
    have he : s ≠ t := fun e => by subst e; rw [hr] at h1; cases h1
    exact ⟨r', by rw [p2 s he]; exact h1, rfl, rfl, Nat.le_refl _, fun _ => rfl⟩
  have hrd : ∀ x y v, NlV t x y → Rep φ base w x v → Rep φ1 base w y v := by
    rintro x y v (h1 | ⟨⟨b, rfl⟩, rfl⟩) hx
    · exact h1 _ _ _ _ (Rep.evo hevo hx)
    · obtain ⟨A, rfl, _⟩ := hx
      exact ⟨_, p1, rfl, Nat.le_refl _, fun _ => ⟨Nat.le_refl _, A, rfl, fun h => absurd h (Nat.lt_irrefl 0)⟩⟩
  refine ⟨φ1, ⟨?_, h.dfr.evo hevo, h.low, h.size, fun i => hrd _ _ _ (he i) (h.slots i)⟩, hevo⟩
  refine ⟨fun s' r' h1 => ?_, fun s s' r' r'' h1 h2 q1 q2 hg => ?_, fun s r' h1 hb hp => ?_, hm.le⟩
  · by_cases he : s' = t
    · subst he
      rw [p1] at h1
      cases h1
      exact ⟨_, hM, hn, rfl, rfl, rfl, hs, Nat.le_refl _, Nat.zero_le _, fun h => absurd h (Nat.lt_irrefl 0), Con.Spec_of hC (fun h => nomatch (hk.symm.trans h)), fun _ h => absurd h (Nat.lt_irrefl 0)⟩
    · have h2 : φ s' = some r' := by rw [← p2 s' he]; exact h1
      obtain ⟨o, k1, k2⟩ := hm.obj s' r' h2
      obtain ⟨o', h3, e1, e2, e3, e4, ⟨e6, e7⟩, e5⟩ := hm'.get s' o k1
      have hsp : o'.c.Spec φ1 base w r' := by
        by_cases hC : o.c.isC = true
        · refine Con.Spec_of ?_ (fun hk => by
            rw [e7] at hk
            have hsp := k2.spec
            cases hc : o.c with
            | kil => rw [hc] at hsp; exact hsp
            | _ => rw [hc] at hk; cases hk)
          have h1 : o'.c.rest = none := by rw [e6, Con.rest_isC hC]
          cases hc : o'.c with
          | loop => rw [hc] at h1; cases h1
          | mpi => rw [hc] at h1; cases h1
          | _ => rfl
        · rw [Con.rest_eq e6 (by simpa using hC)]
          exact Con.Spec_evo hevo (fun _ => rfl) k2.spec
      refine ⟨o', h3, by rw [e4]; exact k2.n, by rw [e3]; exact k2.ver, by rw [e2]; exact k2.sz, by rw [e1]; exact k2.e, k2.pos, k2.le, k2.max, k2.dom, hsp, fun hC' hp => ?_⟩
      have hC : o.c.isC = true := by
        have h1 : o.c.rest = none := by rw [← e6, Con.rest_isC hC']
        cases hc : o.c with
        | loop => rw [hc] at h1; cases h1
        | mpi => rw [hc] at h1; cases h1
        | _ => rfl
      obtain ⟨cur, g1, g2, g3⟩ := k2.row hC hp
      refine ⟨cur, g1, g2, fun j k hj hk => ?_⟩
      obtain ⟨c, k1', k2', k3'⟩ := g3 j k hj hk
      exact ⟨c, k1', k2', hrd _ _ _ (e5 j k (by rw [k2.n]; exact hj) (by rw [k2.sz]; exact hk)) k3'⟩
  · exact hm.inj s s' r' r'' (hlive s r' h1 q1).2 (hlive s' r'' h2 q2).2 q1 q2 hg
  · exact hm.own s r' (hlive s r' h1 hp).2 hb hp

/-- What is kept of the slots: the listed ones. -/
def NlL (t : Nat) (e : Env) : List Nat → List V → Prop
  | [], [] => True
  | k :: ks, y :: ys => NlV t (Env.get e k) y ∧ NlL t e ks ys
  | _, _ => False
theorem NlL.get {t : Nat} {e : Env} : ∀ {ks : List Nat} {ys : List V}, NlL t e ks ys → ∀ i, NlV t (Env.get e i) (Env.get (ks.zip ys) i)
  | [], [], _, i => .inl (sub_any _)
  | k :: ks, y :: ys, h, i => by
    simp only [List.zip_cons_cons, Env.get]
    split
    · next hk => subst hk; exact h.1
    · exact NlL.get h.2 i
  | [], _ :: _, h, _ => h.elim
  | _ :: _, [], h, _ => h.elim
/-- A SLICE WITHOUT ROOM GETS THE NAME t: in the listed slots, and in boxes. -/
theorem AW_nil {P : Program} {nt nb : Nat} {rd : Bool} {c : Code} {Q : Exit → Env → Mem → Prop} {e : Env} {M : Mem} (t : Nat) (keys : List Nat) (vs : List V) (M' : Mem) {s : Nat} {E : TypeId} {C : Con} (ht : M.get t = none) (hm' : NlM t M M') (hM : M'.get t = some ⟨E, s, 0, C⟩)
    (he : NlL t e keys vs) (h : AW P nt nb rd c Q (keys.zip vs) M') (hn : C.n = 0 := by rfl) (hs : 0 < s := by decide) (hC : C.isC = true := by rfl) (hk : C.kc = false := by rfl) : AW P nt nb rd c Q e M := by
  rw [AW_def] at h ⊢
  intro ro lo base φ w a hro hst
  obtain ⟨φ1, hst1, hv⟩ := hst.nil ht hm' hM hn hs hC hk he.get
  refine wpIn_mono (h ro lo base φ1 w a hro hst1) ?_
  rintro x a2 w2 ⟨hx2, e2, M2, φ2, hq2, hst2, hv2⟩
  exact ⟨hx2, e2, M2, φ2, hq2, hst2, hv.trans hv2⟩

/-- A contract over no memory, as one that hands over immutable values. -/
theorem APure_of_ACM {P : Program} {f : FuncId} {xs : List V} {Q : V → Prop} {G : V → Mem → Prop} (hfr : ∀ x ∈ xs, NoFr x) (h : ACM P f xs [] G (some 0)) (hq : ∀ R M', G R M' → (verOk M' R).holds ∧ Fr (ownval M' 4 R) ∧ Q (ownval M' 4 R)) : APure P f xs Q := by
  unfold APure
  unfold ACM at h
  refine ⟨h.1, fun w args hs hargs => ?_⟩
  have hm : MemRel 0 w.heap.size (fun _ => none) w [] := ⟨fun t r h => (nomatch h), fun t t' r r' h => (nomatch h), fun t r h => (nomatch h), Nat.le_refl _⟩
  refine (h.2 0 w.heap.size _ w args (fun k hk => by cases hk; rfl) hm hs (fun i => ?_)).mono ?_
  · have hi := hargs i
    by_cases h : i < xs.length
    · rw [show xs.getD i .any = xs[i] from by simp [List.getD, h]] at hi ⊢
      exact Rep_base (hfr _ (List.getElem_mem h)) hi
    · rw [show xs.getD i .any = .any from by simp only [List.getD]; rw [List.getElem?_eq_none (by omega)]; rfl]
      trivial
  · rintro e w' ⟨v, R, M', φ', rfl, hG, hm', hr, hv⟩
    obtain ⟨h1, h2, h3⟩ := hq R M' hG
    exact ⟨v, _, rfl, h3, h2, ownval_ok hm' 4 hr h1, hv.os, hv.tape, hv.output, hv.size, fun b hb hn => hv.block b hb hn, fun t r h => (nomatch h), fun t r h => (nomatch h), hv.drawn⟩
end Go.Tri
