/-
  CODE IN PIECES; an object of one array that nobody writes to from a place on: what points to it points to immutable cells.
-/
import Derived.Test.YtciefpkelgjboaaA31
namespace Go.Tri
variable {lo : Nat}

section
variable {X : Cx}
/-- What the second piece has to show. -/
def seqA (P : Program) (nt nb : Nat) (rd : Bool) (b : Code) (Q : Exit → Env → Mem → Prop) : Exit → Env → Mem → Prop
  | .normal, e, M => AW P nt nb rd b Q e M
  | x, e, M => Q x e M
theorem AW_seq {P : Program} {nt nb : Nat} {rd : Bool} {a b : Code} {Q : Exit → Env → Mem → Prop} {e : Env} {M : Mem} (h : AW P nt nb rd a (seqA P nt nb rd b Q) e M) : AW P nt nb rd (.seq a b) Q e M := by
  rw [AW_def] at h ⊢
  intro ro lo base φ w a' hro hst
  refine wpIn_seq (wpIn_mono (h ro lo base φ w a' hro hst) ?_)
  rintro x a1 w1 ⟨hx, e1, M1, φ1, hq, hst1, hv⟩
  cases x with
  | normal =>
    have hq : AW P nt nb rd b Q e1 M1 := hq
    rw [AW_def] at hq
    refine wpIn_mono (hq ro lo base φ1 w1 a1 hro hst1) ?_
    rintro x a2 w2 ⟨hx2, e2, M2, φ2, hq2, hst2, hv2⟩
    exact ⟨hx2, e2, M2, φ2, hq2, hst2, hv.trans hv2⟩
  | panic c => exact hx.elim
  | outgrown => exact hx.elim
  | _ => exact ⟨trivial, e1, M1, φ1, hq, hst1, hv⟩
/-- A piece that is walked, and the rest. -/
theorem AW_seqW (hT : TabOk X.P X.T) {a b : Code} {Q : Exit → Env → Mem → Prop} {e : Env} {M : Mem} (h : awp X a (seqA X.P X.nt X.nb X.rd b Q) e M) : AW X.P X.nt X.nb X.rd (.seq a b) Q e M := AW_seq (AW_of_awp hT h)

/-- What reads as x reads as y once the array t is let go. -/
def FzP (t ver s : Nat) (f : Nat → V) (x y : V) : Prop := Sub x y ∨ ∃ o, x = .ptr t ver 0 o ∧ y = .at_ s f o
theorem FzP.refl {t ver s : Nat} {f : Nat → V} (x : V) : FzP t ver s f x x := .inl (Sub.refl x)

theorem St.freezeP {nt nb base : Nat} {φ : Phi} {w : World} {M : Mem} {e e' : Env} {a : Act} {t ver s : Nat} {E : TypeId} {f : Nat → Nat → V} (h : St lo nt nb base φ w M e a)
    (hM : M.get t = some ⟨E, s, ver, .cv 1 f⟩) (hf : ∀ k, k < s → ∃ z, f 0 k = .int z) (he : ∀ i, FzP t ver s (f 0) (Env.get e i) (Env.get e' i)) :
    ∃ φ1, St lo nt nb base φ1 w (M.put t ⟨E, s, ver + 1, .cv 0 f⟩) e' a ∧ Evo w φ w φ1 := by
  have hm := h.mem
  have key : ∃ φ1 : Phi, Evo w φ w φ1 ∧ (∀ x y v, FzP t ver s (f 0) x y → Rep φ base w x v → Rep φ1 base w y v) ∧ (∀ s, s ≠ t → φ1 s = φ s) ∧ (∀ r, φ1 t = some r → r.cap = 0 ∧ r.n = 0 ∧ r.ver = ver + 1 ∧ r.sz = s ∧ r.e = E ∧ 0 < r.sz) := by
    cases hr : φ t with
    | none =>
      refine ⟨φ, Evo.refl w φ, fun x y v hxy hx => ?_, fun _ _ => rfl, fun r h1 => by rw [hr] at h1; cases h1⟩
      rcases hxy with hs | ⟨o, rfl, rfl⟩
      · exact hs _ _ _ _ hx
      · obtain ⟨r, h1, _⟩ := hx
        rw [hr] at h1
        cases h1
    | some r =>
      obtain ⟨o, ho, hrel⟩ := hm.obj t r hr
      rw [hM] at ho
      cases ho
      have hver : ver = r.ver := hrel.ver
      have hrn : r.n = 1 := hrel.n.symm
      have hrs : r.sz = s := hrel.sz.symm
      have hcap : 0 < r.cap := by have := hrel.le; omega
      obtain ⟨φ1, hφ1⟩ : ∃ φ1 : Phi, φ1 = φ.upd t ⟨r.g, 0, 0, r.sz, r.e, ver + 1⟩ := ⟨_, rfl⟩
      have p1 : φ1 t = some ⟨r.g, 0, 0, r.sz, r.e, ver + 1⟩ := by rw [hφ1]; exact Phi.upd_same _ _ _
      have p2 : ∀ s, s ≠ t → φ1 s = φ s := fun s h => by rw [hφ1]; exact Phi.upd_other _ _ h
      have hlive : ∀ s r', φ1 s = some r' → 0 < r'.cap → s ≠ t ∧ φ s = some r' := by
        intro s r' h1 h2
        by_cases he : s = t
        · subst he; rw [p1] at h1; cases h1; exact absurd h2 (Nat.lt_irrefl 0)
        · exact ⟨he, by rw [← p2 s he]; exact h1⟩
      have hevo : Evo w φ w φ1 := by
        refine ⟨rfl, rfl, rfl, Nat.le_refl _, fun _ _ _ => rfl, fun s r' h1 h2 _ hnl => hnl s r' (hlive s r' h1 h2).2 h2 rfl, fun s r' h1 => ?_⟩
        by_cases he : s = t
        · subst he
          rw [hr] at h1
          cases h1
          exact ⟨_, p1, rfl, rfl, by show r.ver ≤ ver + 1; omega, fun h => absurd h (by show ver + 1 ≠ r.ver; omega)⟩
        · exact ⟨r', by rw [p2 s he]; exact h1, rfl, rfl, Nat.le_refl _, fun _ => rfl⟩
      refine ⟨φ1, hevo, fun x y v hxy hx => ?_, p2, fun r' h1 => by rw [p1] at h1; cases h1; exact ⟨rfl, rfl, rfl, hrs, hrel.e.symm, hrel.pos⟩⟩
      rcases hxy with hs | ⟨o, rfl, rfl⟩
      · exact hs _ _ _ _ (Rep.evo hevo hx)
      · obtain ⟨r0, h1, _, _, hv⟩ := hx
        rw [hr] at h1
        cases h1
        obtain ⟨rfl, _⟩ := hv hver.symm
        refine ⟨r.g, 0, by simp, hrel.dom hcap, fun s r' h1 h2 hg => ?_, fun k hk => ?_⟩
        · obtain ⟨q1, q2⟩ := hlive s r' h1 h2
          exact q1 (hm.inj s t r' r q2 hr h2 hcap hg)
        · obtain ⟨cv, e1, e2, e3⟩ := hrel.cell (j := 0) (k := k) (by omega) (by omega)
          obtain ⟨z, hz⟩ := hf k hk
          rw [Nat.zero_mul] at e1
          have e3 : Rep φ base w (f 0 k) cv := e3
          rw [hz] at e3 ⊢
          exact ⟨cv, e1, e2, e3⟩
  obtain ⟨φ1, hevo, hrd, p2, p3⟩ := key
  have hlive : ∀ s r', φ1 s = some r' → 0 < r'.cap → s ≠ t ∧ φ s = some r' := by
    intro s r' h1 h2
    by_cases he : s = t
    · subst he; have := (p3 r' h1).1; omega
    · exact ⟨he, by rw [← p2 s he]; exact h1⟩
  refine ⟨φ1, ⟨?_, h.dfr.evo hevo, h.low, h.size, fun i => hrd _ _ _ (he i) (h.slots i)⟩, hevo⟩
  refine ⟨fun s' r' h1 => ?_, fun s s' r' r'' h1 h2 q1 q2 hg => ?_, fun s r' h1 hb hp => ?_, hm.le⟩
  · by_cases he : s' = t
    · subst he
      obtain ⟨c1, c2, c3, c4, c5, c6⟩ := p3 r' h1
      exact ⟨_, Mem.get_put_same _ _ _, by rw [c2]; rfl, c3.symm, c4.symm, c5.symm, c6, by omega, by rw [c1]; exact Nat.zero_le _, fun h => by omega, trivial, fun _ h => by omega⟩
    · have h2 : φ s' = some r' := by rw [← p2 s' he]; exact h1
      obtain ⟨o, k1, k2⟩ := hm.obj s' r' h2
      refine ⟨o, by rw [Mem.get_put_other _ he]; exact k1, k2.n, k2.ver, k2.sz, k2.e, k2.pos, k2.le, k2.max, k2.dom, Con.Spec_evo hevo (fun _ => rfl) k2.spec, fun hC hp => ?_⟩
      obtain ⟨cur, g1, g2, g3⟩ := k2.row hC hp
      refine ⟨cur, g1, g2, fun j k hj hk => ?_⟩
      obtain ⟨c, k1', k2', k3'⟩ := g3 j k hj hk
      exact ⟨c, k1', k2', Rep.evo hevo k3'⟩
  · exact hm.inj s s' r' r'' (hlive s r' h1 q1).2 (hlive s' r'' h2 q2).2 q1 q2 hg
  · exact hm.own s r' (hlive s r' h1 hp).2 hb hp

/-- AN ARRAY IS LET GO. -/
theorem AW_freeze {P : Program} {nt nb : Nat} {rd : Bool} {c : Code} {Q : Exit → Env → Mem → Prop} {e e' : Env} {M : Mem} {t ver s : Nat} {E : TypeId} {f : Nat → Nat → V} (hM : M.get t = some ⟨E, s, ver, .cv 1 f⟩) (hf : ∀ k, k < s → ∃ z, f 0 k = .int z)
    (he : ∀ i, FzP t ver s (f 0) (Env.get e i) (Env.get e' i)) (h : AW P nt nb rd c Q e' (M.put t ⟨E, s, ver + 1, .cv 0 f⟩)) : AW P nt nb rd c Q e M := by
  rw [AW_def] at h ⊢
  intro ro lo base φ w a hro hst
  obtain ⟨φ1, hst1, hv⟩ := hst.freezeP hM hf he
  refine wpIn_mono (h ro lo base φ1 w a hro hst1) ?_
  rintro x a2 w2 ⟨hx2, e2, M2, φ2, hq2, hst2, hv2⟩
  exact ⟨hx2, e2, M2, φ2, hq2, hst2, hv.trans hv2⟩
/-- What is kept of the slots: the listed ones. -/
def FzPL (t ver s : Nat) (f : Nat → V) (e : Env) : List Nat → List V → Prop
  | [], [] => True
  | k :: ks, y :: ys => FzP t ver s f (Env.get e k) y ∧ FzPL t ver s f e ks ys
  | _, _ => False
theorem FzPL.get {t ver s : Nat} {f : Nat → V} {e : Env} : ∀ {ks : List Nat} {ys : List V}, FzPL t ver s f e ks ys → ∀ i, FzP t ver s f (Env.get e i) (Env.get (ks.zip ys) i)
  | [], [], _, i => .inl (sub_any _)
  | k :: ks, y :: ys, h, i => by
    simp only [List.zip_cons_cons, Env.get]
    split
    · next hk => subst hk; exact h.1
    · exact FzPL.get h.2 i
  | [], _ :: _, h, _ => h.elim
  | _ :: _, [], h, _ => h.elim
theorem AW_freezeL {P : Program} {nt nb : Nat} {rd : Bool} {c : Code} {Q : Exit → Env → Mem → Prop} {e : Env} {M : Mem} {t ver s : Nat} {E : TypeId} {f : Nat → Nat → V} (keys : List Nat) (vs : List V) (hM : M.get t = some ⟨E, s, ver, .cv 1 f⟩) (hf : ∀ k, k < s → ∃ z, f 0 k = .int z)
    (he : FzPL t ver s (f 0) e keys vs) (h : AW P nt nb rd c Q (keys.zip vs) (M.put t ⟨E, s, ver + 1, .cv 0 f⟩)) : AW P nt nb rd c Q e M := AW_freeze hM hf he.get h

/-- A FUNCTION from what its code means. -/
theorem APure_ofW (hT : TabOk X.P X.T) (hnb : X.nb = 0) {f : FuncId} {fn : Func} {c : Code} (hf : X.P.funcs[f]? = some fn) (hname : (fn.name == "runtime.NumGoroutine") = false) (hb : fn.body = some c) (hnt : fn.ntmps = X.nt) {rs : List (ResultVar × TypeId)}
    (hrs : fn.results.toList = rs.map (·.1)) {xs : List V} (hxs : xs.length ≤ X.nt) (hfr : ∀ x ∈ xs, NoFr x) {Q : V → Prop} (h : (∀ x ∈ xs, LenOk x) → AW X.P X.nt X.nb false c (retQ X.T rs Q) (envOf xs) []) : APure X.P f xs Q := by
  unfold APure
  refine ⟨⟨fn, hf, hname, by rw [hb]; rfl⟩, fun w args hs hargs => ?_⟩
  have hlen : ∀ x ∈ xs, LenOk x := by
    intro x hx
    obtain ⟨i, hi, rfl⟩ := List.getElem_of_mem hx
    have hr := hargs i
    rw [show xs.getD i .any = xs[i] from by simp [List.getD, hi]] at hr
    cases hxx : xs[i] with
    | ints fr ys =>
      rw [hxx] at hr
      obtain ⟨A, cap, _, h1, h2, _⟩ := hr
      rw [maxLen_val] at h2
      simp only [LenOk]
      omega
    | seq fr sz n f =>
      rw [hxx] at hr
      obtain ⟨A, cap, _, h1, h2, _⟩ := hr
      rw [maxLen_val] at h2
      simp only [LenOk]
      omega
    | _ => trivial
  have hst : St w.heap.size X.nt X.nb w.heap.size (fun _ => none) w [] (envOf xs) { tmps := args ++ Array.replicate (fn.ntmps - args.size) undef, defers := [] } := by
    refine ⟨⟨fun t r h => (nomatch h), fun t t' r r' h => (nomatch h), fun t r h => (nomatch h), Nat.le_refl _⟩, trivial, Nat.le_refl _, by simp; omega, fun i => ?_⟩
    have hi := hargs i
    have e1 : Env.get (envOf xs) i = xs.getD i .any := by
      unfold envOf
      rw [List.range_eq_range', get_envOf]
      simp
    rw [e1]
    by_cases h : i < xs.length
    · have e2 : (args ++ Array.replicate (fn.ntmps - args.size) undef).getD i undef = args.getD i undef := by
        rw [Array.getD_eq_getD_getElem?, Array.getD_eq_getD_getElem?, Array.getElem?_append_left (by omega)]
      rw [e2]
      rw [show xs.getD i .any = xs[i] from by simp [List.getD, h]] at hi ⊢
      exact Rep_base (hfr _ (List.getElem_mem h)) hi
    · rw [show xs.getD i .any = .any from by simp only [List.getD]; rw [List.getElem?_eq_none (by omega)]; rfl]
      trivial
  refine callsIn_wide.1 (callsIn_of_wp_marks (n := 0) hf hb trivial (wpIn_mono (AW_def.1 (h hlen) none w.heap.size _ _ w _ (fun _ => rfl) hst) ?_))
  rintro x a' w' ⟨hx, e', M', φ', hq, hst', hv⟩
  have fin : retK X.T rs e' M' Q → LeavesInM Fence.wide 0 X.P fn a'.tmps (fun e w' => ∃ v R, e = .returned v ∧ Q R ∧ Fr R ∧ Rep (fun _ => none) w.heap.size w' R v ∧ Evo w (fun _ => none) w' (fun _ => none)) a'.defers .returning w' := by
    intro hk
    refine marks_ok _ w' hst' (fun w2 hst2 q1 q2 q3 q4 q5 _ => ?_)
    rw [hnb] at hst2
    obtain ⟨cv, R, h1, h2, h3, h4⟩ := retK_ok hT hst2 hrs hk
    exact ⟨cv, h1, cv, R, rfl, h2, h3, h4, q1.trans hv.os, q2.trans hv.tape, q3.trans hv.output, by rw [q4]; exact hv.size, fun b hb hn => (q5 b hb).trans (hv.block b hb hn), fun t r h => (nomatch h), fun t r h => (nomatch h)⟩
  cases x with
  | normal => exact fin hq
  | ret => exact fin hq
  | panic c => exact hx.elim
  | outgrown => exact hx.elim
  | exit id => exact hq.elim
  | goto l => exact hq.elim
end
end Go.Tri
