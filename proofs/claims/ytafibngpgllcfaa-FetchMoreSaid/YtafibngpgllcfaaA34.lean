/-
  CALLS THAT SEE ONE ROW OF INTS: a contract over that row alone, by the name 0, holds over any memory that has it by any name. Calls that see nothing. A row of slices that is let go.
-/
import Derived.Test.YtafibngpgllcfaaA33
namespace Go.Tri
variable {lo : Nat}
open Go.RowKit

/-- No names, and fresh memory. -/
@[reducible] def noN : Nat → Bool := fun _ => false

theorem ORel_kil {φ φ' : Phi} {b b' : Nat} {w : World} {r : Row} {o : Ob} {ts : List Int} (hc : o.c = .kil ts) (h : ORel φ b w r o) : ORel φ' b' w r o := by
  refine ⟨h.n, h.ver, h.sz, h.e, h.pos, h.le, h.max, h.dom, ?_, fun hC hp => ?_⟩
  · have := h.spec
    rw [hc] at this ⊢
    exact this
  · obtain ⟨cur, k1, k2, k3⟩ := h.row hC hp
    refine ⟨cur, k1, k2, fun j k hj hk => ?_⟩
    obtain ⟨c, e1, e2, e3⟩ := k3 j k hj hk
    refine ⟨c, e1, e2, ?_⟩
    rw [hc] at e3 ⊢
    exact e3

/-- A call that is handed one row of ints of known room. -/
theorem ACM_one {P : Program} {f : FuncId} {B : Mem} {t ver len : Nat} {ob : Ob} {ts : List Int} {n : Int} {Q : V → List Int → Prop} (hB : B.get t = some ob) (hk : ob.c = .kil ts)
    (h : ACM P f [.sl 0 ver 0 len, .int n] [some ob] (fun R M' => Flat noN R ∧ ∃ ts', M'.get 0 = some { ob with c := .kil ts' } ∧ Q R ts') (some 1)) :
    ACM P f [.sl t ver 0 len, .int n] B (fun R M'' => ∃ ts', Q R ts' ∧ M'' = B.put t { ob with c := .kil ts' }) := by
  unfold ACM at h ⊢
  refine ⟨h.1, fun nb base φ w args _ hm hs ha => ?_⟩
  have ha0 := ha 0
  obtain ⟨r, hr, ha1, ha2, ha3⟩ := ha0
  obtain ⟨o, ho, hrel⟩ := hm.obj t r hr
  rw [hB] at ho
  cases ho
  obtain ⟨φc, hφc⟩ : ∃ φc : Phi, φc = fun s => if s = 0 then some r else none := ⟨_, rfl⟩
  have p0 : φc 0 = some r := by rw [hφc]; exact if_pos rfl
  have p1 : ∀ s r', φc s = some r' → s = 0 ∧ r' = r := fun s r' h1 => by
    rw [hφc] at h1
    by_cases hs : s = 0
    · subst hs
      simp at h1
      exact ⟨rfl, h1.symm⟩
    · simp [hs] at h1
  have hmc : MemRel 1 w.heap.size φc w [some ob] := by
    refine ⟨fun s r' h1 => ?_, fun s s' r' r'' h1 h2 _ _ _ => ?_, fun s r' h1 hb _ => ?_, Nat.le_refl _⟩
    · obtain ⟨rfl, rfl⟩ := p1 s r' h1
      exact ⟨ob, rfl, ORel_kil hk hrel⟩
    · rw [(p1 s r' h1).1, (p1 s' r'' h2).1]
    · have := (p1 s r' h1).1
      omega
  have hargs : ∀ i, Rep φc w.heap.size w ([V.sl 0 ver 0 len, .int n].getD i .any) (args.getD i undef) := fun i => by
    match i with
    | 0 => exact ⟨r, p0, ha1, ha2, ha3⟩
    | 1 => exact ha 1
    | i + 2 => trivial
  refine (h.2 1 w.heap.size φc w args (fun k hk => by cases hk; rfl) hmc hs hargs).mono ?_
  rintro e w' ⟨v, R, M', φ', rfl, ⟨hR, ts', hg, hQ⟩, hm', hrep, hev⟩
  obtain ⟨r1, q1, q2, q3, q4, q5⟩ := hev.names 0 r p0
  obtain ⟨o1, g1, g2⟩ := hm'.obj 0 r1 q1
  rw [hg] at g1
  cases g1
  have e1 : r1 = r := q5 (by rw [← g2.ver, ← hrel.ver])
  subst e1
  have hsub : ∀ b, notLive φ b → notLive φc b := fun b hb s r' h1 hp => by
    obtain ⟨_, rfl⟩ := p1 s r' h1
    exact hb t _ hr hp
  have hevo : Evo w φ w' φ := ⟨hev.os, hev.tape, hev.output, hev.size, fun b hb hnl => hev.block b hb (hsub b hnl), fun s r' h1 hp _ hnl => hnl s r' h1 hp rfl, fun s r' h1 => ⟨r', h1, rfl, rfl, Nat.le_refl _, fun _ => rfl⟩, hev.drawn⟩
  refine ⟨v, R, B.put t { ob with c := .kil ts' }, φ, rfl, ⟨ts', hQ, rfl⟩, ⟨fun s r' h1 => ?_, hm.inj, hm.own, Nat.le_trans hm.le hev.size⟩, ?_, hevo⟩
  · by_cases hs : s = t
    · subst hs
      rw [hr] at h1
      cases h1
      exact ⟨_, Mem.get_put_same _ _ _, ORel_kil rfl g2⟩
    · obtain ⟨o2, k1, k2⟩ := hm.obj s r' h1
      refine ⟨o2, by rw [Mem.get_put_other _ hs]; exact k1, k2.evo hevo (fun hp => hev.block _ (k2.dom hp) (fun s' r'' h2 hp' hg' => ?_))⟩
      obtain ⟨_, rfl⟩ := p1 s' r'' h2
      exact hs (hm.inj s t r' _ h1 hr hp hp' hg'.symm)
  · refine Rep_graft (kp := noN) (fun t ht => nomatch ht) hm.le (fun b hb _ => fun s r' h1 hp hg' => ?_) hR hrep
    have := hm.lt h1 hp
    omega

/-- A call that sees nothing makes memory alone. -/
theorem AImm_of0 {P : Program} {f : FuncId} {xs : List V} {Q : V → Prop} (hx : ∀ i φ base w v, Rep φ base w (xs.getD i .any) v → Rep (fun _ => none) w.heap.size w (xs.getD i .any) v) (h : ACM P f xs [] (fun R _ => Flat noN R ∧ Q R) (some 0)) : AImm P f xs Q := by
  unfold ACM at h
  unfold AImm
  refine ⟨h.1, fun nb base φ w M args hm hs ha => ?_⟩
  refine (h.2 0 w.heap.size (fun _ => none) w args (fun k hk => by cases hk; rfl) ⟨fun t r h => (nomatch h), fun t t' r r' h => (nomatch h), fun t r h => (nomatch h), Nat.le_refl _⟩ hs (fun i => hx i _ _ _ _ (ha i))).mono ?_
  rintro e w' ⟨v, R, M', φ', rfl, ⟨hR, hQ⟩, hm', hrep, hev⟩
  have hevo : Evo w φ w' φ := ⟨hev.os, hev.tape, hev.output, hev.size, fun b hb _ => hev.block b hb (fun t r h => (nomatch h)), fun s r' h1 hp _ hnl => hnl s r' h1 hp rfl, fun s r' h1 => ⟨r', h1, rfl, rfl, Nat.le_refl _, fun _ => rfl⟩, hev.drawn⟩
  refine ⟨v, R, rfl, hQ, hm.evo hevo (fun t r ht hp => hev.block _ (hm.lt ht hp) (fun t r h => (nomatch h))), ?_, hevo⟩
  refine Rep_graft (kp := noN) (fun t ht => nomatch ht) hm.le (fun b hb _ => fun s r' h1 hp hg' => ?_) hR hrep
  have := hm.lt h1 hp
  omega

/-- What reads as x reads as y once the row t is let go. -/
def FzS (t ver s n : Nat) (f : Nat → Nat → V) (x y : V) : Prop := Sub x y ∨ ∃ g, x = .sl t ver 0 n ∧ y = .seq true s n g ∧ ∀ j k, j < n → k < s → f j k = g j k
theorem FzS.refl {t ver s n : Nat} {f : Nat → Nat → V} (x : V) : FzS t ver s n f x x := .inl (Sub.refl x)

theorem St.freezeS {nt nb base : Nat} {φ : Phi} {w : World} {M : Mem} {e e' : Env} {a : Act} {t ver s n : Nat} {E : TypeId} {f : Nat → Nat → V} (h : St lo nt nb base φ w M e a)
    (hM : M.get t = some ⟨E, s, ver, .cv n f⟩) (hnb : nb ≤ t) (he : ∀ i, FzS t ver s n f (Env.get e i) (Env.get e' i)) :
    ∃ φ1, St lo nt nb base φ1 w (M.put t ⟨E, s, ver + 1, .cv 0 f⟩) e' a ∧ Evo w φ w φ1 := by
  have hm := h.mem
  have key : ∃ φ1 : Phi, Evo w φ w φ1 ∧ (∀ x y v, FzS t ver s n f x y → Rep φ base w x v → Rep φ1 base w y v) ∧ (∀ s, s ≠ t → φ1 s = φ s) ∧ (∀ r, φ1 t = some r → r.cap = 0 ∧ r.n = 0 ∧ r.ver = ver + 1 ∧ r.sz = s ∧ r.e = E ∧ 0 < r.sz) := by
    cases hr : φ t with
    | none =>
      refine ⟨φ, Evo.refl w φ, fun x y v hxy hx => ?_, fun _ _ => rfl, fun r h1 => by rw [hr] at h1; cases h1⟩
      rcases hxy with hs | ⟨g, rfl, rfl, hfg⟩
      · exact hs _ _ _ _ hx
      · obtain ⟨r, h1, _⟩ := hx
        rw [hr] at h1
        cases h1
    | some r =>
      obtain ⟨o, ho, hrel⟩ := hm.obj t r hr
      rw [hM] at ho
      cases ho
      have hver : ver = r.ver := hrel.ver
      have hrn : r.n = n := hrel.n.symm
      have hrs : r.sz = s := hrel.sz.symm
      obtain ⟨φ1, hφ1⟩ : ∃ φ1 : Phi, φ1 = φ.upd t ⟨r.g, 0, 0, r.sz, r.e, ver + 1⟩ := ⟨_, rfl⟩
      have p1 : φ1 t = some ⟨r.g, 0, 0, r.sz, r.e, ver + 1⟩ := by rw [hφ1]; exact Phi.upd_same _ _ _
      have p2 : ∀ s, s ≠ t → φ1 s = φ s := fun s h => by rw [hφ1]; exact Phi.upd_other _ _ h
      have hlive : ∀ s r', φ1 s = some r' → 0 < r'.cap → s ≠ t ∧ φ s = some r' := by
        intro s r' h1 h2
        by_cases he : s = t
        · subst he; rw [p1] at h1; cases h1; exact absurd h2 (Nat.lt_irrefl 0)
        · exact ⟨he, by rw [← p2 s he]; exact h1⟩
      have hevo : Evo w φ w φ1 := by
        refine ⟨rfl, rfl, rfl, Nat.le_refl _, fun _ _ _ => rfl, fun s r' h1 h2 _ hnl => hnl s r' (hlive s r' h1 h2).2 h2 rfl, fun s r' h1 => ?_, (by first | exact Nat.le_refl _ | exact Nat.le_succ _)⟩
        by_cases he : s = t
        · subst he
          rw [hr] at h1
          cases h1
          exact ⟨_, p1, rfl, rfl, by show r.ver ≤ ver + 1; omega, fun h => absurd h (by show ver + 1 ≠ r.ver; omega)⟩
        · exact ⟨r', by rw [p2 s he]; exact h1, rfl, rfl, Nat.le_refl _, fun _ => rfl⟩
      refine ⟨φ1, hevo, fun x y v hxy hx => ?_, p2, fun r' h1 => by rw [p1] at h1; cases h1; exact ⟨rfl, rfl, rfl, hrs, hrel.e.symm, hrel.pos⟩⟩
      rcases hxy with hs | ⟨g, rfl, rfl, hfg⟩
      · exact hs _ _ _ _ (Rep.evo hevo hx)
      · obtain ⟨r0, h1, _, _, hv⟩ := hx
        rw [hr] at h1
        cases h1
        obtain ⟨v1, A, hv2, v3⟩ := hv hver.symm
        rw [hv2]
        simp only [Nat.sub_zero]
        refine ⟨A, r.cap, rfl, by have := hrel.le; omega, hrel.max, by rw [← hrs]; exact hrel.pos, fun hp => ?_⟩
        have hcap : 0 < r.cap := by have := hrel.le; omega
        have hA := v3 hcap
        rw [Nat.zero_mul] at hA
        refine ⟨r.g, 0, hA, fun s r' h1 h2 hg => ?_, fun _ => hm.own t r hr hnb hcap, fun j k hj hk => ?_⟩
        · obtain ⟨q1, q2⟩ := hlive s r' h1 h2
          exact q1 (hm.inj s t r' r q2 hr h2 hcap hg)
        · obtain ⟨cv, e1, e2, e3⟩ := hrel.cell (j := j) (k := k) (by omega) (by omega)
          have e3 : Rep φ base w (f j k) cv := e3
          rw [hfg j k hj hk] at e3
          rw [hrs] at e1
          rw [Nat.zero_add]
          exact ⟨cv, e1, e2, Rep.evo hevo e3⟩
  obtain ⟨φ1, hevo, hrd, p2, p3⟩ := key
  have hlive : ∀ s r', φ1 s = some r' → 0 < r'.cap → s ≠ t ∧ φ s = some r' := by
    intro s r' h1 h2
    by_cases he : s = t
    · subst he; have := (p3 r' h1).1; omega
    · exact ⟨he, by rw [← p2 s he]; exact h1⟩
  refine ⟨φ1, ⟨?_, h.dfr.evo hevo, h.low, h.size, fun i => hrd _ _ _ (he i) (h.slots i)⟩, hevo⟩
  refine ⟨fun s' r' h1 => ?_, fun s s' r' r'' h1 h2 q1 q2 hg => ?_, fun s r' h1 hb hp => ?_, hm.le⟩
  · by_cases he : s' = t
    · subst he
      obtain ⟨c1, c2, c3, c4, c5, c6⟩ := p3 r' h1
      exact ⟨_, Mem.get_put_same _ _ _, by rw [c2]; rfl, c3.symm, c4.symm, c5.symm, c6, by omega, by rw [c1]; exact Nat.zero_le _, fun h => by omega, trivial, fun _ h => by omega⟩
    · have h2 : φ s' = some r' := by rw [← p2 s' he]; exact h1
      obtain ⟨o, k1, k2⟩ := hm.obj s' r' h2
      refine ⟨o, by rw [Mem.get_put_other _ he]; exact k1, k2.n, k2.ver, k2.sz, k2.e, k2.pos, k2.le, k2.max, k2.dom, Con.Spec_evo hevo (fun _ => rfl) k2.spec, fun hC hp => ?_⟩
      obtain ⟨cur, g1, g2, g3⟩ := k2.row hC hp
      refine ⟨cur, g1, g2, fun j k hj hk => ?_⟩
      obtain ⟨c, k1', k2', k3'⟩ := g3 j k hj hk
      exact ⟨c, k1', k2', Rep.evo hevo k3'⟩
  · exact hm.inj s s' r' r'' (hlive s r' h1 q1).2 (hlive s' r'' h2 q2).2 q1 q2 hg
  · exact hm.own s r' (hlive s r' h1 hp).2 hb hp

/-- A ROW IS LET GO. -/
theorem AW_freezeS {P : Program} {nt nb : Nat} {rd : Bool} {c : Code} {Q : Exit → Env → Mem → Prop} {e e' : Env} {M : Mem} {t ver s n : Nat} {E : TypeId} {f : Nat → Nat → V} (hM : M.get t = some ⟨E, s, ver, .cv n f⟩) (hnb : nb ≤ t)
    (he : ∀ i, FzS t ver s n f (Env.get e i) (Env.get e' i)) (h : AW P nt nb rd c Q e' (M.put t ⟨E, s, ver + 1, .cv 0 f⟩)) : AW P nt nb rd c Q e M := by
  rw [AW_def] at h ⊢
  intro ro lo base φ w a hro hst
  obtain ⟨φ1, hst1, hv⟩ := hst.freezeS hM hnb he
  refine wpIn_mono (h ro lo base φ1 w a hro hst1) ?_
  rintro x a2 w2 ⟨hx2, e2, M2, φ2, hq2, hst2, hv2⟩
  exact ⟨hx2, e2, M2, φ2, hq2, hst2, hv.trans hv2⟩
/-- What is kept of the slots: the listed ones. -/
def FzSL (t ver s n : Nat) (f : Nat → Nat → V) (e : Env) : List Nat → List V → Prop
  | [], [] => True
  | k :: ks, y :: ys => FzS t ver s n f (Env.get e k) y ∧ FzSL t ver s n f e ks ys
  | _, _ => False
theorem FzSL.get {t ver s n : Nat} {f : Nat → Nat → V} {e : Env} : ∀ {ks : List Nat} {ys : List V}, FzSL t ver s n f e ks ys → ∀ i, FzS t ver s n f (Env.get e i) (Env.get (ks.zip ys) i)
  | [], [], _, i => .inl (sub_any _)
  | k :: ks, y :: ys, h, i => by
    simp only [List.zip_cons_cons, Env.get]
    split
    · next hk => subst hk; exact h.1
    · exact FzSL.get h.2 i
  | [], _ :: _, h, _ => h.elim
  | _ :: _, [], h, _ => h.elim
theorem AW_freezeSL {P : Program} {nt nb : Nat} {rd : Bool} {c : Code} {Q : Exit → Env → Mem → Prop} {e : Env} {M : Mem} {t ver s n : Nat} {E : TypeId} {f : Nat → Nat → V} (keys : List Nat) (vs : List V) (hM : M.get t = some ⟨E, s, ver, .cv n f⟩) (hnb : nb ≤ t)
    (he : FzSL t ver s n f e keys vs) (h : AW P nt nb rd c Q (keys.zip vs) (M.put t ⟨E, s, ver + 1, .cv 0 f⟩)) : AW P nt nb rd c Q e M := AW_freezeS hM hnb he.get h

/-- A function that may write to what it is handed, from its code. -/
theorem ACM_ofW {P : Program} {T : Tab} (hT : TabOk P T) {f : FuncId} {fn : Func} {c : Code} (hf : P.funcs[f]? = some fn) (hname : (fn.name == "runtime.NumGoroutine") = false) (hb : fn.body = some c) {xs : List V} (hxs : xs.length ≤ fn.ntmps) {M : Mem} {Q : V → Mem → Prop} {nb0 : Nat}
    (h : AW P fn.ntmps nb0 false c (retM T fn.results.toList Q) (envOf xs) M) : ACM P f xs M Q (some nb0) := by
  unfold ACM
  refine ⟨⟨fn, hf, hname, by rw [hb]; rfl⟩, fun nb base φ w args hnb hm hs hargs => ?_⟩
  obtain rfl := hnb nb0 rfl
  have hst : St w.heap.size fn.ntmps nb base φ w M (envOf xs) { tmps := args ++ Array.replicate (fn.ntmps - args.size) undef, defers := [] } := by
    refine ⟨hm, trivial, Nat.le_refl _, by simp; omega, fun i => ?_⟩
    have hi := hargs i
    have e1 : Env.get (envOf xs) i = xs.getD i .any := by
      unfold envOf
      rw [List.range_eq_range', get_envOf]
      simp
    rw [e1]
    by_cases h : i < xs.length
    · have e2 : (args ++ Array.replicate (fn.ntmps - args.size) undef).getD i undef = args.getD i undef := by
        rw [Array.getD_eq_getD_getElem?, Array.getD_eq_getD_getElem?, Array.getElem?_append_left (by omega)]
      rw [e2]
      exact hi
    · rw [show xs.getD i .any = .any from by simp only [List.getD]; rw [List.getElem?_eq_none (by omega)]; rfl]
      trivial
  refine callsIn_wide.1 (callsIn_of_wp_marks (n := 0) hf hb trivial (wpIn_mono (AW_def.1 h none w.heap.size base φ w _ (fun _ => rfl) hst) ?_))
  rintro x a' w' ⟨hx, e', M', φ', hq, hst', hv⟩
  have fin : (∃ R, finM T fn.results.toList e' M' = some R ∧ Q R M') → LeavesInM Fence.wide 0 P fn a'.tmps (fun e w' => ∃ v R M' φ', e = .returned v ∧ Q R M' ∧ MemRel nb base φ' w' M' ∧ Rep φ' base w' R v ∧ Evo w φ w' φ') a'.defers .returning w' := by
    rintro ⟨R, h1, h2⟩
    refine marks_ok _ w' hst' (fun w2 hst2 q1 q2 q3 q4 q5 q6 q7 => ?_)
    obtain ⟨cv, h3, h4⟩ := finM_ok hT hst2 h1
    refine ⟨cv, h3, cv, R, M', φ', rfl, h2, hst2.mem, h4, q1.trans hv.os, q2.trans hv.tape, q3.trans hv.output, by rw [q4]; exact hv.size, fun b hb hn => (q5 b hb).trans (hv.block b hb hn), hv.live, hv.names, Nat.le_trans hv.drawn q7⟩
  cases x with
  | normal => exact fin hq
  | ret => exact fin hq
  | panic c => exact hx.elim
  | outgrown => exact hx.elim
  | exit id => exact hq.elim
  | goto l => exact hq.elim

/-- A block, in pieces. -/
theorem AW_block {P : Program} {nt nb : Nat} {rd : Bool} {id : Nat} {c : Code} {Q : Exit → Env → Mem → Prop} {e : Env} {M : Mem} (h : AW P nt nb rd c (blockQ id Q) e M) : AW P nt nb rd (.block id c) Q e M := by
  rw [AW_def] at h ⊢
  intro ro lo base φ w a hro hst
  refine wpIn_block (wpIn_mono (h ro lo base φ w a hro hst) ?_)
  rintro x a' w' ⟨hx, e', M', φ', hq, hst', hv⟩
  cases x with
  | exit id' =>
    simp only [blockQ] at hq
    simp only [Exit.inBlock]
    cases hb : Nat.beq id' id with
    | true =>
      rw [hb] at hq
      rw [if_pos (Nat.eq_of_beq_eq_true hb)]
      exact ⟨trivial, e', M', φ', hq, hst', hv⟩
    | false =>
      rw [hb] at hq
      rw [if_neg (fun e => by rw [e, Nat.beq_refl] at hb; cases hb)]
      exact ⟨trivial, e', M', φ', hq, hst', hv⟩
  | panic c => exact hx.elim
  | outgrown => exact hx.elim
  | _ => exact ⟨trivial, e', M', φ', hq, hst', hv⟩
end Go.Tri
