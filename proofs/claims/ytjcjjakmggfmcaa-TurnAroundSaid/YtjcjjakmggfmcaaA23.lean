/-
  CLOSED CALLS BY EVALUATION: code, functions.
-/
import Derived.Test.YtjcjjakmggfmcaaA22
namespace Go.Tri
open Go.RowKit

section
variable {X : Cx}

theorem AW_loopE (hT : TabOk X.P X.T) {c : Code} {body : Env → Mem → Option (Exit × Env × Mem)} (hb : ∀ e M x e' M', body e M = some (x, e', M') → ∀ Q : Exit → Env → Mem → Prop, Q x e' M' → awp X c Q e M) {keys : List Nat} {n : Nat} {e : Env} {M : Mem} {x : Exit} {e' : Env} {M' : Mem}
    (h : loopE body keys n e M = some (x, e', M')) {Q : Exit → Env → Mem → Prop} (hQ : Q x e' M') : AW X.P X.nt X.nb (.loop c) Q e M := by
  rw [AW_def]
  intro base φ w a hst
  refine wp_loop_ghost (fun n a' w' => ∃ e1 M1 φ1, loopE body keys n e1 M1 = some (x, e', M') ∧ St X.nt X.nb base φ1 w' M1 e1 a' ∧ Evo w φ w' φ1) n ⟨e, M, φ, h, hst, Evo.refl w φ⟩ ?_
  rintro n a' w' ⟨e1, M1, φ1, h1, hst1, hv1⟩
  cases n with
  | zero => cases h1
  | succ n =>
    simp only [loopE] at h1
    cases hq : body e1 M1 with
    | none => rw [hq] at h1; cases h1
    | some q =>
      obtain ⟨y, e2, M2⟩ := q
      rw [hq] at h1
      have hw := hb _ _ _ _ _ hq (fun x' e'' M'' => x' = y ∧ e'' = e2 ∧ M'' = M2) ⟨rfl, rfl, rfl⟩
      refine wp_mono (awp_ok hT c _ base φ1 w' M1 _ a' hst1 hw) ?_
      rintro z a₁ w₁ ⟨hx, e₁, M₁, φ₁, ⟨rfl, rfl, rfl⟩, hst₁, hv₁⟩
      cases z with
      | normal =>
        simp only at h1
        rw [getB_eq] at h1
        exact ⟨n, Nat.lt_succ_self n, _, _, φ₁, h1, hst₁.sel keys, hv1.trans hv₁⟩
      | panic c => exact hx.elim
      | outgrown => exact hx.elim
      | _ =>
        simp only [Option.some.injEq, Prod.mk.injEq] at h1
        obtain ⟨rfl, rfl, rfl⟩ := h1
        exact ⟨trivial, _, _, φ₁, hQ, hst₁, hv1.trans hv₁⟩

theorem codeE_ok (hT : TabOk X.P X.T) (hm : X.P.follows .mixedOrders = true) {call dcall : CallE} (hcall : ∀ f ts xs M v M', call f ts xs M = some (v, M') → ∀ K : V → Mem → Prop, K v M' → callV X f ts xs M K)
    (hdcall : ∀ f ts xs M v M', dcall f ts xs M = some (v, M') → M' = M ∧ DCall X f ts xs M v) (L : Nat) : ∀ (c : Code), codeOk X.nt c = true → ∀ (e : Env) (M : Mem) (x : Exit) (e' : Env) (M' : Mem),
    codeE X.T call dcall L c e M = some (x, e', M') → ∀ Q : Exit → Env → Mem → Prop, Q x e' M' → awp X c Q e M := by
  intro c
  induction c with
  | skip => intro _ e M x e' M' h Q hQ; simp only [codeE, Option.some.injEq, Prod.mk.injEq] at h; obtain ⟨rfl, rfl, rfl⟩ := h; exact hQ
  | label l => intro _ e M x e' M' h Q hQ; simp only [codeE, Option.some.injEq, Prod.mk.injEq] at h; obtain ⟨rfl, rfl, rfl⟩ := h; exact hQ
  | ret => intro _ e M x e' M' h Q hQ; simp only [codeE, Option.some.injEq, Prod.mk.injEq] at h; obtain ⟨rfl, rfl, rfl⟩ := h; exact hQ
  | exit id => intro _ e M x e' M' h Q hQ; simp only [codeE, Option.some.injEq, Prod.mk.injEq] at h; obtain ⟨rfl, rfl, rfl⟩ := h; exact hQ
  | seq a b iha ihb =>
    intro hok e M x e' M' h Q hQ
    simp only [codeOk, Bool.and_eq_true] at hok
    simp only [codeE] at h
    cases hq : codeE X.T call dcall L a e M with
    | none => rw [hq] at h; cases h
    | some q =>
      obtain ⟨y, e1, M1⟩ := q
      rw [hq] at h
      simp only [awp]
      refine iha hok.1 _ _ _ _ _ hq _ ?_
      cases y with
      | normal => exact ihb hok.2 _ _ _ _ _ h Q hQ
      | _ =>
        simp only [Option.some.injEq, Prod.mk.injEq] at h
        obtain ⟨rfl, rfl, rfl⟩ := h
        exact hQ
  | cond c a b iha ihb =>
    intro hok e M x e' M' h Q hQ
    simp only [codeOk, Bool.and_eq_true] at hok
    simp only [codeE, evB_eq] at h
    simp only [awp]
    split at h
    · next hc => rw [hc]; exact iha hok.1 _ _ _ _ _ h Q hQ
    · next hc => rw [hc]; exact ihb hok.2 _ _ _ _ _ h Q hQ
    · cases h
  | block id a iha =>
    intro hok e M x e' M' h Q hQ
    simp only [codeOk] at hok
    simp only [codeE] at h
    simp only [awp]
    cases hq : codeE X.T call dcall L a e M with
    | none => rw [hq] at h; cases h
    | some q =>
      obtain ⟨y, e1, M1⟩ := q
      rw [hq] at h
      refine iha hok _ _ _ _ _ hq _ ?_
      cases y with
      | exit id' =>
        simp only at h
        simp only [blockQ]
        cases hb : Nat.beq id' id with
        | true =>
          rw [hb] at h
          simp only [cond_true, Option.some.injEq, Prod.mk.injEq] at h
          obtain ⟨rfl, rfl, rfl⟩ := h
          exact hQ
        | false =>
          rw [hb] at h
          simp only [cond_false, Option.some.injEq, Prod.mk.injEq] at h
          obtain ⟨rfl, rfl, rfl⟩ := h
          exact hQ
      | _ =>
        simp only [Option.some.injEq, Prod.mk.injEq] at h
        obtain ⟨rfl, rfl, rfl⟩ := h
        exact hQ
  | region id ops draw =>
    intro hok e M x e' M' h Q hQ
    simp only [codeOk] at hok
    simp only [codeE] at h
    simp only [awp]
    cases draw with
    | true =>
      simp only [cond_true] at h hok ⊢
      split at h
      · next e1 M1 hq =>
        simp only [Option.some.injEq, Prod.mk.injEq] at h
        obtain ⟨rfl, rfl, rfl⟩ := h
        exact AW_draw hT hm hok (dopsE_ok hdcall _ _ _ _ _ _ hq _ hQ)
      · cases h
    | false =>
      simp only [cond_false] at h hok ⊢
      rw [hok]
      simp only [cond_true]
      split at h
      · next e1 M1 hq =>
        simp only [Option.some.injEq, Prod.mk.injEq] at h
        obtain ⟨rfl, rfl, rfl⟩ := h
        exact opsE_ok hcall _ _ _ _ _ _ hq _ hQ
      · cases h
  | loop c ih =>
    intro hok e M x e' M' h Q hQ
    simp only [codeOk] at hok
    simp only [codeE] at h
    exact AW_loopE hT (ih hok) h hQ
  | rangeFunc f ps as b _ _ => intro _ e M x e' M' h; cases h
  | scope c _ => intro _ e M x e' M' h; cases h
  | goto l => intro _ e M x e' M' h; cases h
  | refuse y => intro _ e M x e' M' h; cases h
end

/-! ## Functions -/

structure Ev where
  P : Program
  T : Tab
  wr : List FuncId
  ok : List FuncId
  L : Nat

def FrB : V → Bool
  | .lit _ => true
  | .ints fr _ => fr
  | .seq fr sz n f => fr && (List.range n).all fun j => (List.range sz).all fun k => FrB (f j k)
  | .agg n g => (List.range n).all fun k => FrB (g k)
  | .tup n g => (List.range n).all fun k => FrB (g k)
  | .clo _ n _ => Nat.beq n 0
  | .emp => true
  | .any => true
  | _ => false

theorem FrB_ok : ∀ {x : V}, FrB x = true → Fr x := by
  intro x
  induction x with
  | ints fr xs => exact fun h => h
  | seq fr sz n f ih =>
    intro h
    simp only [FrB, Bool.and_eq_true, List.all_eq_true, List.mem_range] at h
    exact ⟨h.1, fun j k hj hk => ih j k (h.2 j hj k hk)⟩
  | agg n g ih =>
    intro h
    simp only [FrB, List.all_eq_true, List.mem_range] at h
    exact fun k hk => ih k (h k hk)
  | tup n g ih =>
    intro h
    simp only [FrB, List.all_eq_true, List.mem_range] at h
    exact fun k hk => ih k (h k hk)
  | clo f n g _ => exact fun h => Nat.eq_of_beq_eq_true h
  | lit => exact fun _ => trivial
  | emp => exact fun _ => trivial
  | any => exact fun _ => trivial
  | _ => exact fun h => nomatch h

def pair (a b : V) : V := .tup 2 fun k => match k with | 0 => a | _ => b

def resP (T : Tab) (e : Env) (M : Mem) (r : ResultVar) : Option V := match resV T e M r with
  | some (p, v) => bif p.dec && (verOk M v).dec && FrB (asInts T 0 (ownval M 4 v)) then some (asInts T 0 (ownval M 4 v)) else none
  | none => none

def finP (T : Tab) (rs : List ResultVar) (e : Env) (M : Mem) : Option V := match rs with
  | [r] => resP T e M r
  | [r, r'] => match resP T e M r, resP T e M r' with
    | some v, some v' => some (pair v v')
    | _, _ => none
  | _ => none

def resM (T : Tab) (e : Env) (M : Mem) (r : ResultVar) : Option V := match resV T e M r with
  | some (p, v) => bif p.dec then some v else none
  | none => none

def finM (T : Tab) (rs : List ResultVar) (e : Env) (M : Mem) : Option V := match rs with
  | [r] => resM T e M r
  | [r, r'] => match resM T e M r, resM T e M r' with
    | some v, some v' => some (pair v v')
    | _, _ => none
  | _ => none

def retX : Exit → Bool
  | .normal => true
  | .ret => true
  | _ => false

def seqC (E : Ev) (ev : Bool → FuncId → List V → Mem → Option (V × Mem)) : CallE := fun f ts xs M =>
  bif E.wr.contains f then ev false f xs M
  else bif (verOks M xs).dec then (match ev true f ((xs.zip ts).map fun (x, t) => byval M 4 (asInts E.T t x)) [] with
    | some (R, _) => some (R, M)
    | none => none) else none

def drawC (E : Ev) (ev : Bool → FuncId → List V → Mem → Option (V × Mem)) : CallE := fun f ts xs M =>
  bif E.wr.contains f then none
  else bif (verOks M xs).dec then (match ev true f ((xs.zip ts).map fun (x, t) => byval0 M (asInts E.T t x)) [] with
    | some (R, _) => some (R, M)
    | none => none) else none

def evFn (E : Ev) : Nat → Bool → FuncId → List V → Mem → Option (V × Mem)
  | 0, _, _, _, _ => none
  | n + 1, pure, f, xs, M => bif E.ok.contains f then (match E.P.funcs[f]? with
    | some fn => match fn.body with
      | some c => bif Nat.ble xs.length fn.ntmps then
          (match codeE E.T (seqC E (evFn E n)) (drawC E (evFn E n)) E.L c (envOf xs) (bif pure then [] else M) with
          | some (x, e', M') => bif retX x then (bif pure then (match finP E.T fn.results.toList e' M' with
              | some R => some (R, M)
              | none => none) else (match finM E.T fn.results.toList e' M' with
              | some R => some (R, M')
              | none => none)) else none
          | none => none) else none
      | none => none
    | none => none) else none

def okFn (P : Program) (f : FuncId) : Bool := match P.funcs[f]? with
  | some fn => match fn.body with
    | some c => codeOk fn.ntmps c && !(fn.name == "runtime.NumGoroutine")
    | none => false
  | none => false

theorem NoFr_view {ob : Ob} {off len : Nat} {F : V → V} (hF : ∀ v, NoFr (F v)) : NoFr (view false ob off len F) := by
  unfold view
  split
  · cases h : Nat.beq ob.sz 1 with
    | true => rfl
    | false => trivial
  · exact ⟨rfl, fun j k => hF _⟩

theorem NoFr_byvalN (M : Mem) : ∀ (d : Nat) (x : V), NoFr (byvalN M d x) := by
  intro d
  induction d with
  | zero => intro x; exact trivial
  | succ d ih =>
    intro x
    cases x with
    | lit => exact trivial
    | ints fr xs => rfl
    | seq fr sz n f => exact ⟨rfl, fun j k => ih _⟩
    | sl t ver off len =>
      simp only [byvalN]
      split
      · next ob _ =>
        cases h : Nat.beq ver ob.ver with
        | true => exact NoFr_view ih
        | false => trivial
      · trivial
    | ptr t ver i o =>
      simp only [byvalN]
      split
      · next ob _ =>
        cases h : Nat.beq ver ob.ver with
        | true => exact fun k => ih _
        | false => trivial
      · trivial
    | at_ sz g o => exact fun k => ih _
    | agg n g => exact fun k => ih _
    | tup n g => exact fun k => ih _
    | clo f n g => exact fun k => ih _
    | emp => trivial
    | any => trivial

theorem NoFr_byval (M : Mem) (d : Nat) (x : V) : NoFr (byval M d x) := by
  unfold byval
  split
  · split
    · exact NoFr_view (NoFr_byvalN M d)
    · trivial
  · split
    · exact fun k => NoFr_byvalN M d _
    · trivial
  · exact NoFr_byvalN M _ _

theorem NoFr_byval0 (M : Mem) (x : V) : NoFr (byval0 M x) := by
  unfold byval0
  split
  · split
    · exact NoFr_view (NoFr_byvalN [] 4)
    · trivial
  · split
    · exact fun k => NoFr_byvalN [] 4 _
    · trivial
  · exact NoFr_byvalN [] _ _

theorem resP_ok {T : Tab} {e : Env} {M : Mem} {r : ResultVar} {R : V} (h : resP T e M r = some R) : ∃ p v, resV T e M r = some (p, v) ∧ p.holds ∧ (verOk M v).holds ∧ Fr (asInts T 0 (ownval M 4 v)) ∧ R = asInts T 0 (ownval M 4 v) := by
  unfold resP at h
  split at h
  · next p v hq =>
    cases hb : (p.dec && (verOk M v).dec && FrB (asInts T 0 (ownval M 4 v))) with
    | false => rw [hb] at h; cases h
    | true =>
      rw [hb] at h
      simp only [Bool.and_eq_true] at hb
      simp only [cond_true, Option.some.injEq] at h
      exact ⟨p, v, hq, Obl.dec_holds hb.1.1, Obl.dec_holds hb.1.2, FrB_ok hb.2, h.symm⟩
  · cases h

theorem finP_ok {T : Tab} {rs : List ResultVar} {e : Env} {M : Mem} {R : V} (h : finP T rs e M = some R) : retK T (rs.map fun r => (r, 0)) e M (fun R' => R' = R) := by
  unfold finP at h
  split at h
  · obtain ⟨p, v, h1, h2, h3, h4, h5⟩ := resP_ok h
    simp only [List.map_cons, List.map_nil, retK, h1]
    rw [Obl.req_iff, Obl.req_iff]
    exact ⟨h2, h3, h4, h5.symm⟩
  · split at h
    · next v v' hv hv' =>
      obtain ⟨p, u, h1, h2, h3, h4, h5⟩ := resP_ok hv
      obtain ⟨p', u', g1, g2, g3, g4, g5⟩ := resP_ok hv'
      simp only [List.map_cons, List.map_nil, retK, h1, g1]
      rw [Obl.req_iff, Obl.req_iff, Obl.req_iff, Obl.req_iff]
      simp only [Option.some.injEq] at h
      refine ⟨h2, g2, h3, g3, h4, g4, ?_⟩
      rw [← h, h5, g5]
      rfl
    · cases h
  · cases h

theorem ACM.mono {P : Program} {f : FuncId} {xs : List V} {M : Mem} {Q Q' : V → Mem → Prop} (h : ACM P f xs M Q) (hq : ∀ R M', Q R M' → Q' R M') : ACM P f xs M Q' := by
  unfold ACM at h ⊢
  refine ⟨h.1, fun nb base φ w args hm hs ha => (h.2 nb base φ w args hm hs ha).mono fun e w' hr => ?_⟩
  obtain ⟨v, R, M', φ', h1, h2, h3⟩ := hr
  exact ⟨v, R, M', φ', h1, hq R M' h2, h3⟩

def retM (T : Tab) (rs : List ResultVar) (Q : V → Mem → Prop) : Exit → Env → Mem → Prop
  | .normal, e, M => ∃ R, finM T rs e M = some R ∧ Q R M
  | .ret, e, M => ∃ R, finM T rs e M = some R ∧ Q R M
  | _, _, _ => False

theorem resM_ok {P : Program} {T : Tab} (hT : TabOk P T) {nt nb base : Nat} {φ : Phi} {w : World} {M : Mem} {e : Env} {a : Act} (hst : St nt nb base φ w M e a) {r : ResultVar} {v : V} (h : resM T e M r = some v) :
    ∃ cv, (resSem a.tmps r).run P w = .ok cv w ∧ Rep φ base w v cv := by
  unfold resM at h
  split at h
  · next p u hq =>
    cases hb : p.dec with
    | false => rw [hb] at h; cases h
    | true =>
      rw [hb] at h
      simp only [cond_true, Option.some.injEq] at h
      subst h
      exact resV_ok (X := ⟨P, T, [], nt, nb⟩) hT hst hq (Obl.dec_holds hb)
  · cases h

theorem finM_ok {P : Program} {T : Tab} (hT : TabOk P T) {nt nb base : Nat} {φ : Phi} {w : World} {M : Mem} {e : Env} {a : Act} (hst : St nt nb base φ w M e a) {fn : Func} {R : V} (h : finM T fn.results.toList e M = some R) :
    ∃ cv, (results fn a.tmps).run P w = .ok cv w ∧ Rep φ base w R cv := by
  unfold finM at h
  split at h
  · next r hr =>
    have hres : fn.results = #[r] := by apply Array.toList_inj.1; exact hr
    obtain ⟨cv, h1, h2⟩ := resM_ok hT hst h
    exact ⟨cv, results_one hres _ _ _ h1, h2⟩
  · next r r' hr =>
    have hres : fn.results = #[r, r'] := by apply Array.toList_inj.1; exact hr
    split at h
    · next v v' hv hv' =>
      obtain ⟨cv, h1, h2⟩ := resM_ok hT hst hv
      obtain ⟨cv', h1', h2'⟩ := resM_ok hT hst hv'
      simp only [Option.some.injEq] at h
      subst h
      refine ⟨_, results_two hres _ _ _ h1 h1', #[cv, cv'], rfl, rfl, fun k hk => ?_⟩
      cases k with
      | zero => exact ⟨cv, rfl, h2⟩
      | succ k =>
        have : k = 0 := by omega
        subst this
        exact ⟨cv', rfl, h2'⟩
    · cases h
  · cases h

/-- A function that may write to what it is handed, from its code. -/
theorem ACM_of {P : Program} {T : Tab} {wr : List FuncId} (hT : TabOk P T) {f : FuncId} {fn : Func} {c : Code} (hf : P.funcs[f]? = some fn) (hname : (fn.name == "runtime.NumGoroutine") = false) (hb : fn.body = some c) {xs : List V} (hxs : xs.length ≤ fn.ntmps) {M : Mem} {Q : V → Mem → Prop}
    (h : ∀ nb, awp ⟨P, T, wr, fn.ntmps, nb⟩ c (retM T fn.results.toList Q) (envOf xs) M) : ACM P f xs M Q := by
  unfold ACM
  refine ⟨⟨fn, hf, hname, by rw [hb]; rfl⟩, fun nb base φ w args hm hs hargs => ?_⟩
  have hst : St fn.ntmps nb base φ w M (envOf xs) { tmps := args ++ Array.replicate (fn.ntmps - args.size) undef, defers := [] } := by
    refine ⟨hm, rfl, by simp; omega, fun i => ?_⟩
    have hi := hargs i
    have e1 : Env.get (envOf xs) i = xs.getD i .any := by
      unfold envOf
      rw [List.range_eq_range', get_envOf]
      simp
    rw [e1]
    by_cases h : i < xs.length
    · have e2 : (args ++ Array.replicate (fn.ntmps - args.size) undef).getD i undef = args.getD i undef := by
        rw [Array.getD_eq_getD_getElem?, Array.getD_eq_getD_getElem?, Array.getElem?_append_left (by omega)]
      rw [e2]
      exact hi
    · rw [show xs.getD i .any = .any from by simp only [List.getD]; rw [List.getElem?_eq_none (by omega)]; rfl]
      trivial
  refine calls_of_wp hf hb (wp_mono (awp_ok (X := ⟨P, T, wr, fn.ntmps, nb⟩) hT c _ base φ w M _ _ hst (h nb)) ?_)
  rintro x a' w' ⟨hx, e', M', φ', hq, hst', hv⟩
  have fin : (∃ R, finM T fn.results.toList e' M' = some R ∧ Q R M') → a'.defers = [] ∧ ∃ v, (results fn a'.tmps).run P w' = .ok v w' ∧ ∃ v' R M' φ', Ending.returned v = .returned v' ∧ Q R M' ∧ MemRel nb base φ' w' M' ∧ Rep φ' base w' R v' ∧ Evo w φ w' φ' := by
    rintro ⟨R, h1, h2⟩
    obtain ⟨cv, h3, h4⟩ := finM_ok hT hst' h1
    exact ⟨hst'.dfr, cv, h3, cv, R, M', φ', rfl, h2, hst'.mem, h4, hv⟩
  cases x with
  | normal => exact fin hq
  | ret => exact fin hq
  | panic c => exact hx.elim
  | outgrown => exact hx.elim
  | exit id => exact hq.elim
  | goto l => exact hq.elim

theorem evFn_ok {E : Ev} (hT : TabOk E.P E.T) (hm : E.P.follows .mixedOrders = true) (hok : E.ok.all (okFn E.P) = true) : ∀ n,
    (∀ f xs M R M', (∀ x ∈ xs, NoFr x) → evFn E n true f xs M = some (R, M') → APure E.P f xs (fun R' => R' = R)) ∧
    (∀ f xs M R M', evFn E n false f xs M = some (R, M') → ACM E.P f xs M (fun R' M'' => R' = R ∧ M'' = M')) := by
  intro n
  induction n with
  | zero => exact ⟨fun f xs M R M' _ h => (nomatch h), fun f xs M R M' h => (nomatch h)⟩
  | succ n ih =>
    have call : ∀ nt nb f ts xs M v M', seqC E (evFn E n) f ts xs M = some (v, M') → ∀ K : V → Mem → Prop, K v M' → callV ⟨E.P, E.T, E.wr, nt, nb⟩ f ts xs M K := by
      intro nt nb f ts xs M v M' h K hK
      unfold seqC at h
      unfold callV
      cases hw : E.wr.contains f with
      | true =>
        rw [hw] at h
        simp only [cond_true] at h ⊢
        exact (ih.2 _ _ _ _ _ h).mono fun R M'' hr => by obtain ⟨rfl, rfl⟩ := hr; exact hK
      | false =>
        rw [hw] at h
        simp only [cond_false] at h ⊢
        cases hv : (verOks M xs).dec with
        | false => rw [hv] at h; cases h
        | true =>
          rw [hv] at h
          simp only [cond_true] at h
          split at h
          · next R M1 hq =>
            simp only [Option.some.injEq, Prod.mk.injEq] at h
            obtain ⟨rfl, rfl⟩ := h
            rw [Obl.req_iff]
            refine ⟨Obl.dec_holds hv, (ih.1 _ _ _ _ _ ?_ hq).to hK⟩
            intro x hx
            obtain ⟨p, _, rfl⟩ := List.mem_map.1 hx
            exact NoFr_byval _ _ _
          · cases h
    have dcall : ∀ nt nb f ts xs M v M', drawC E (evFn E n) f ts xs M = some (v, M') → M' = M ∧ DCall ⟨E.P, E.T, E.wr, nt, nb⟩ f ts xs M v := by
      intro nt nb f ts xs M v M' h
      unfold drawC at h
      cases hw : E.wr.contains f with
      | true => rw [hw] at h; cases h
      | false =>
        rw [hw] at h
        simp only [cond_false] at h
        cases hv : (verOks M xs).dec with
        | false => rw [hv] at h; cases h
        | true =>
          rw [hv] at h
          simp only [cond_true] at h
          split at h
          · next R M1 hq =>
            simp only [Option.some.injEq, Prod.mk.injEq] at h
            obtain ⟨rfl, rfl⟩ := h
            refine ⟨rfl, hw, Obl.dec_holds hv, ih.1 _ _ _ _ _ ?_ hq⟩
            intro x hx
            obtain ⟨p, _, rfl⟩ := List.mem_map.1 hx
            exact NoFr_byval0 _ _
          · cases h
    have core : ∀ pure f xs M R M', evFn E (n + 1) pure f xs M = some (R, M') → ∃ fn c x e' M1, E.P.funcs[f]? = some fn ∧ fn.body = some c ∧ (fn.name == "runtime.NumGoroutine") = false ∧ codeOk fn.ntmps c = true ∧ xs.length ≤ fn.ntmps ∧ retX x = true ∧
        codeE E.T (seqC E (evFn E n)) (drawC E (evFn E n)) E.L c (envOf xs) (bif pure then [] else M) = some (x, e', M1) ∧
        (bif pure then (match finP E.T fn.results.toList e' M1 with | some R => some (R, M) | none => none) else (match finM E.T fn.results.toList e' M1 with | some R => some (R, M1) | none => none)) = some (R, M') := by
      intro pure f xs M R M' h
      simp only [evFn] at h
      cases hc : E.ok.contains f with
      | false => rw [hc] at h; cases h
      | true =>
        rw [hc] at h
        simp only [cond_true] at h
        have hf := List.all_eq_true.1 hok f (by simpa using hc)
        unfold okFn at hf
        split at h
        · next fn hfn =>
          rw [hfn] at hf
          simp only at hf
          split at h
          · next c hb =>
            rw [hb] at hf
            simp only [Bool.and_eq_true, Bool.not_eq_true'] at hf
            cases hl : Nat.ble xs.length fn.ntmps with
            | false => rw [hl] at h; cases h
            | true =>
              rw [hl] at h
              simp only [cond_true] at h
              split at h
              · next x e' M1 hq =>
                cases hx : retX x with
                | false => rw [hx] at h; cases h
                | true =>
                  rw [hx] at h
                  simp only [cond_true] at h
                  exact ⟨fn, c, x, e', M1, hfn, hb, hf.2, hf.1, Nat.le_of_ble_eq_true hl, hx, hq, h⟩
              · cases h
          · cases h
        · cases h
    refine ⟨fun f xs M R M' hn h => ?_, fun f xs M R M' h => ?_⟩
    · obtain ⟨fn, c, x, e', M1, h1, h2, h3, h4, h5, h6, h7, h8⟩ := core _ _ _ _ _ _ h
      simp only [cond_true] at h7 h8
      split at h8
      · next R' hR =>
        simp only [Option.some.injEq, Prod.mk.injEq] at h8
        obtain ⟨rfl, _⟩ := h8
        refine APure_of (X := ⟨E.P, E.T, E.wr, fn.ntmps, 0⟩) hT rfl h1 h3 h2 rfl (rs := fn.results.toList.map fun r => (r, 0)) (by rw [List.map_map]; exact (List.map_id _).symm) h5 hn (fun _ => ?_)
        refine codeE_ok (X := ⟨E.P, E.T, E.wr, fn.ntmps, 0⟩) hT hm (call _ _) (dcall _ _) E.L c h4 _ _ _ _ _ h7 _ ?_
        cases x <;> first | exact finP_ok hR | cases h6
      · cases h8
    · obtain ⟨fn, c, x, e', M1, h1, h2, h3, h4, h5, h6, h7, h8⟩ := core _ _ _ _ _ _ h
      simp only [cond_false] at h7 h8
      split at h8
      · next R' hR =>
        simp only [Option.some.injEq, Prod.mk.injEq] at h8
        obtain ⟨rfl, rfl⟩ := h8
        refine ACM_of (wr := E.wr) hT h1 h3 h2 h5 (fun nb => ?_)
        refine codeE_ok (X := ⟨E.P, E.T, E.wr, fn.ntmps, nb⟩) hT hm (call _ _) (dcall _ _) E.L c h4 _ _ _ _ _ h7 _ ?_
        cases x <;> first | exact ⟨_, hR, rfl, rfl⟩ | cases h6
      · cases h8

/-- A CLOSED CALL, by evaluation. -/
theorem APure_eval {E : Ev} (hT : TabOk E.P E.T) (hm : E.P.follows .mixedOrders = true) (hok : E.ok.all (okFn E.P) = true) {n : Nat} {f : FuncId} {xs : List V} (hn : ∀ x ∈ xs, NoFr x) {R : V} (h : evFn E n true f xs [] = some (R, [])) : APure E.P f xs (fun R' => R' = R) :=
  (evFn_ok hT hm hok n).1 f xs [] R [] hn h

end Go.Tri
