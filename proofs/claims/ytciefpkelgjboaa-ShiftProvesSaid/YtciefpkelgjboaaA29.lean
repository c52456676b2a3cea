/-
  LOOPS OVER FUNCTIONS, the record as an unknown; appends within known room, of unknown length; steps over memories that are not known.
-/
import Derived.Test.YtciefpkelgjboaaA28
namespace Go.Tri
variable {lo : Nat}
open Go.RowKit

/-- What is known of a loop's record. -/
structure LpOk (lp : LoopState → Option Code → Ob) (e : Env) : Prop where
  ver : ∀ st pd, (lp st pd).ver = 0
  named : ∀ st pd kp, NamedE kp e → NamedC kp (lp st pd).sz (lp st pd).c
  flat : ∀ st pd kp, FlatE kp e → FlatC kp (lp st pd).sz (lp st pd).c
  nofr : ∀ st pd, NoFrE e → NoFrC (lp st pd).c

def rndL (lp : LoopState → Option Code → Ob) (t : Nat) (K : V → Mem → Prop) : Exit → Env → Mem → Prop
  | .normal, _, M => M.get t = some (lp .busy none) ∧ K (.bool true) (M.put t (lp .ready none))
  | .ret, _, M => M.get t = some (lp .busy none) ∧ K (.bool false) (M.put t (lp .done (some .ret)))
  | .exit id, _, M => M.get t = some (lp .busy none) ∧ K (.bool false) (M.put t (lp .done (some (.exit id))))
  | _, _, _ => False
def asnL (X : Cx) (lp : LoopState → Option Code → Ob) (t : Nat) (bd : Code) (K : V → Mem → Prop) : Exit → Env → Mem → Prop
  | .normal, e1, M => M.get t = some (lp .ready none) ∧ awp X bd (rndL lp t K) e1 (M.put t (lp .busy none))
  | _, _, _ => False
def rangeL (lp : LoopState → Option Code → Ob) (t : Nat) (e : Env) (Q : Exit → Env → Mem → Prop) (M : Mem) : Prop :=
  ∃ st pend, st ≠ .busy ∧ M.get t = some (lp st pend) ∧ (match pend with
    | none => Q .normal e (M.put t (lp .exhausted none))
    | some .ret => Q .ret e (M.put t (lp .exhausted (some .ret)))
    | some (.exit id) => Q (.exit id) e (M.put t (lp .exhausted (some (.exit id))))
    | _ => False)

/-- As asnQ. -/
def asnA (P : Program) (nt nb t : Nat) (bd : Code) (K : V → Mem → Prop) : Exit → Env → Mem → Prop
  | .normal, e1, M => LoopAt M t .ready none fun o => AW P nt nb true bd (rndQ t K) e1 (M.put t (o .busy none))
  | _, _, _ => False

/-- A ROUND, from the loop's own code. -/
theorem YW_of' {P : Program} {t : Nat} {xs : List V} {M : Mem} {e : Env} {nt : Nat} {ps : Array Tmp} {as bd : Code} {inf : LoopInf nt ps as bd} (ho : M.get t = some (loopOb .ready none e nt ps as bd inf)) (hps : xs.length = ps.size) (hpt : ps.toList.all (fun p => Nat.blt p nt) = true)
    {K : V → Mem → Prop} (h : ∀ nb, AW P nt nb true as (asnA P nt nb t bd K) (putArgs (ps.toList.zip xs) e) M) : YW P t xs M K := by
  unfold YW
  intro nb base φ w args r ht hm hs hargs
  obtain ⟨k1, k2, L, hL, _⟩ := step_loop hm ht ho
  have hy := run_yield (P := P) (args := args) hL.at_ (by rw [hs, hps, hL.ps])
  refine ⟨k2, L.fn, _, L.assign, L.body, hy, roundIn_of_wpIn trivial ?_⟩
  rw [hL.assign, hL.body, hL.ps]
  have hfold : (ps.zip args).foldl (fun tmps (p, a) => tmps.setIfInBounds p a) L.tmps = (ps.toList.zip args.toList).foldl (fun tmps (p, a) => tmps.setIfInBounds p a) L.tmps := by
    rw [← Array.foldl_toList, Array.toList_zip]
  rw [hfold]
  obtain ⟨q1, q2⟩ := putArgs_ok ps.toList xs args.toList e L.tmps (by simpa using hps) (by simp; omega) (fun p hp => by
    have := List.all_eq_true.1 hpt p hp
    rw [hL.size]
    simpa using this) (fun i => by
      have := hargs i
      rw [show args.toList.getD i undef = args.getD i undef from by simp [Array.getD_eq_getD_getElem?, List.getD]]
      exact this) hL.slots
  have hst : St 0 nt nb base φ w M (putArgs (ps.toList.zip xs) e) { tmps := (ps.toList.zip args.toList).foldl (fun tmps (p, a) => tmps.setIfInBounds p a) L.tmps, defers := [] } :=
    ⟨hm, trivial, Nat.zero_le _, by rw [q1, hL.size], q2⟩
  refine wpIn_mono (AW_def.1 (h nb) (some r.g) 0 base φ w _ (fun h => nomatch h) hst) ?_
  rintro x a1 w1 ⟨hx, e1, M1, φ1, hq, hst1, hv1⟩
  cases x with
  | normal =>
    obtain ⟨e', nt', ps', as', bd', inf', ho1, hb⟩ := hq
    have ht1 := hv1.row hst1.mem ht k2 ho1 rfl
    obtain ⟨_, _, L1, hL1, hs1⟩ := step_loop hst1.mem ht1 ho1
    obtain ⟨hm2, hv2⟩ := hs1 .busy none
    refine ⟨_, run_beginRound hL1.at_ hL1.st, ?_⟩
    have hst2 := hst1.evo hv2 hm2
    have e1' : ({ L1 with state := .busy, pending := none } : Loop) = { L1 with state := .busy } := by rw [← hL1.pend]
    rw [e1'] at hst2 hv2
    refine wpIn_mono (AW_def.1 hb (some r.g) 0 base φ1 _ _ (fun h => nomatch h) hst2) ?_
    rintro x a3 w3 ⟨hx, e3, M3, φ3, hq, hst3, hv3⟩
    have hv13 : Evo w φ w3 φ3 := (hv1.trans hv2).trans hv3
    have fin : ∀ (jump : Option Code) (b : Bool), b = jump.isNone → LoopAt M3 t .busy none (fun o => K (.bool b) (M3.put t (o (if b then .ready else .done) jump))) →
        ∃ v w', (Instr.endRound r.g jump).run P w3 = .ok v w' ∧ ∃ v' R M' φ', Ending.returned v = .returned v' ∧ K R M' ∧ MemRel nb base φ' w' M' ∧ Rep φ' base w' R v' ∧ Evo w φ w' φ' := by
      rintro jump b hb ⟨e4, nt4, ps4, as4, bd4, inf4, ho3, hK⟩
      have ht3 := hv13.row hst3.mem ht k2 ho3 rfl
      obtain ⟨_, _, L3, hL3, hs3⟩ := step_loop hst3.mem ht3 ho3
      obtain ⟨hm4, hv4⟩ := hs3 (if b then .ready else .done) jump
      have hr := run_endRound (P := P) jump hL3.at_
      rw [← hb] at hr
      exact ⟨_, _, hr, _, .bool b, _, φ3, rfl, hK, hm4, rfl, hv13.trans hv4⟩
    cases x with
    | normal => exact fin none true rfl hq
    | ret => exact fin (some .ret) false rfl hq
    | exit id => exact fin (some (.exit id)) false rfl hq
    | goto l => exact hq.elim
    | panic c => exact hx.elim
    | outgrown => exact hx.elim
  | panic c => exact hx.elim
  | outgrown => exact hx.elim
  | ret => exact hq.elim
  | exit id => exact hq.elim
  | goto l => exact hq.elim

/-- 'for .. := range g { .. }', the loop's record unknown. -/
theorem AW_rangeL {X : Cx} (hT : TabOk X.P X.T) (hrd : X.rd = false) {g : Operand} {ps : Array Tmp} {as bd : Code} {Q : Exit → Env → Mem → Prop} {e : Env} {M : Mem} {f n : Nat} {cap : Nat → V} (keys : List Nat) (hg : evA e g = .clo f n cap) (hpt : ps.toList.all (fun p => Nat.blt p X.nt) = true)
    (h : ∀ lp : LoopState → Option Code → Ob, LpOk lp (keys.zip (sel keys e)) →
      (∀ xs M' K, M'.get M.length = some (lp .ready none) → xs.length = ps.size → (∀ nb, AW X.P X.nt nb true as (asnL ⟨X.P, X.T, X.wr, X.nt, nb, true⟩ lp M.length bd K) (putArgs (ps.toList.zip xs) (keys.zip (sel keys e))) M') → YW X.P M.length xs M' K) →
      ACM X.P f (.yld M.length :: (List.range n).map cap) (M.put M.length (lp .ready none)) (fun _ M' => rangeL lp M.length e Q M')) :
    AW X.P X.nt X.nb X.rd (.rangeFunc g ps as bd) Q e M := by
  have inf : LoopInf X.nt ps as bd := ⟨fun _ => none, none⟩
  refine AW_rangeK hrd inf (keys.zip (sel keys e)) (keys_any keys e) hg ((h (fun st pd => loopOb st pd (keys.zip (sel keys e)) X.nt ps as bd inf) ⟨fun _ _ => rfl, fun _ _ _ h => h, fun _ _ _ h => h, fun _ _ h => h⟩ ?_).mono ?_)
  · intro xs M' K ho hps ha
    refine YW_of' ho hps hpt fun nb => ?_
    refine AW_mono ?_ (ha nb)
    rintro x e1 M1 hq
    cases x with
    | normal =>
      refine ⟨_, _, _, _, _, _, hq.1, ?_⟩
      refine AW_mono ?_ (AW_of_awp (X := ⟨X.P, X.T, X.wr, X.nt, nb, true⟩) hT hq.2)
      rintro x e2 M2 hq2
      cases x with
      | normal => exact ⟨_, _, _, _, _, _, hq2.1, hq2.2⟩
      | ret => exact ⟨_, _, _, _, _, _, hq2.1, hq2.2⟩
      | exit id => exact ⟨_, _, _, _, _, _, hq2.1, hq2.2⟩
      | _ => exact hq2.elim
    | _ => exact hq.elim
  · rintro R M' ⟨st, pend, hst, hg, hq⟩
    refine ⟨st, pend, hst, _, _, _, _, _, _, hg, ?_⟩
    cases pend with
    | none => exact hq
    | some c =>
      cases c with
      | ret => exact hq
      | exit id => exact hq
      | _ => exact hq.elim

theorem stepO {o : Option (Obl × V × Mem)} {p : Obl} {v : V} {M' : Mem} {K : V → Mem → Prop} (h : o = some (p, v, M')) (hk : p.req (forceV v fun v => K v M')) : (match (generalizing := false) o with
    | some (p, v, M') => p.req (forceV v fun v => K v M')
    | none => False) := by rw [h]; exact hk
theorem aop_load {T : Tab} {nm t : Nat} {x : Operand} {ev : Operand → V} {M : Mem} {n ver i o : Nat} {ob : Ob} {p : Obl} {v : V} (hx : ev x = .ptr n ver i o) (h : M.get n = some ob)
    (hv : (bif knownT (T.row t) then (bif isAggT (T.row t) then
        some (ldaO ver ob.ver (o + (T.row t).sz) ob.sz, V.agg (T.row t).sz fun k => ob.c.f i (o + k))
      else some (ldO ver ob.ver o ob.sz, ob.c.f i o)) else none) = some (p, v)) : aop T nm (.load t x) ev M = some (p, v, M) := by
  simp only [aop, hx, loadV, loadV', h]
  rw [hv]

/-- An append within room that is known. -/
theorem aApp_kil {T : Tab} {nm e t len : Nat} {M : Mem} {ts ys : List Int} {x : V} {p : Obl} (hT : (knownT (T.row e) && Nat.blt 0 (T.row e).sz && Nat.blt 0 (T.row e).bs) = true) (hs : (T.row e).sz = 1)
    (hx : srcV M (T.row e).sz (isI64T (T.row e)) x = some (p, .ints ys)) (hM : M.get t = some ⟨e, 1, 0, .kil ts⟩) (h0 : 0 < ts.length) (hl : len + ys.length ≤ ts.length) :
    aAppend T nm e (.sl t 0 0 len) x M = some (.and p (.and .tt (.le ((T.row e).bs * (len + ys.length)) 140737488355328)), .sl t 0 0 (len + ys.length), M.put t ⟨e, 1, 0, .kil (ts.take len ++ ys ++ ts.drop (len + ys.length))⟩) := by
  unfold aAppend
  rw [hT, hx]
  simp only [cond_true, hM, hs, Nat.beq_refl, Bool.and_self, kilApp, Src.n]
  rw [show Nat.blt 0 ts.length = true from by rw [Nat.blt_eq]; exact h0, show Nat.ble (len + ys.length) ts.length = true from Nat.ble_eq_true_of_le hl]
  rfl

/-- The first n names. -/
def cutN (n : Nat) : Nat → Bool := fun t => Nat.blt t n
theorem cutN_iff {n t : Nat} : cutN n t = true ↔ t < n := by unfold cutN; rw [Nat.blt_eq]

theorem Flat.up {kp kp' : Nat → Bool} (h : ∀ t, kp t = true → kp' t = true) : ∀ {x : V}, Flat kp x → Flat kp' x := by
  intro x
  induction x with
  | ints fr xs => exact fun h => h
  | seq fr sz n f ih => exact fun h => ⟨h.1, fun j k hj hk => ih j k (h.2 j k hj hk)⟩
  | at_ => exact fun h => h.elim
  | full => exact fun h => h.elim
  | sl => exact fun hf => h _ hf
  | ptr => exact fun hf => h _ hf
  | yld => exact fun hf => h _ hf
  | agg n g ih => exact fun hf k hk => ih k (hf k hk)
  | tup n g ih => exact fun hf k hk => ih k (hf k hk)
  | clo f n g ih => exact fun hf k hk => ih k (hf k hk)
  | bnd f n g ih => exact fun hf k hk => ih k (hf k hk)
  | ifc ty x ih => exact fun hf => ih hf
  | _ => exact fun _ => trivial
theorem FlatE.up {kp kp' : Nat → Bool} (h : ∀ t, kp t = true → kp' t = true) : ∀ {e : Env}, FlatE kp e → FlatE kp' e
  | [], _ => trivial
  | (_, _) :: _, hf => ⟨hf.1.up h, FlatE.up h hf.2⟩
theorem FlatL.up {kp kp' : Nat → Bool} (h : ∀ t, kp t = true → kp' t = true) : ∀ {e : List V}, FlatL kp e → FlatL kp' e
  | [], _ => trivial
  | _ :: _, hf => ⟨hf.1.up h, FlatL.up h hf.2⟩
theorem FlatC.up {kp kp' : Nat → Bool} (h : ∀ t, kp t = true → kp' t = true) {sz : Nat} {c : Con} (hf : FlatC kp sz c) : FlatC kp' sz c := by
  cases c with
  | cv n f => exact fun j k hj hk => (hf j k hj hk).up h
  | one cs => exact FlatL.up h hf
  | loop => exact FlatE.up h hf
  | _ => exact trivial

/-- A ROUND; behind it only what was there ahead of it is kept. -/
theorem YW_maskQ {P : Program} {t : Nat} {xs : List V} {M : Mem} {kp : Nat → Bool} {Q : V → Mem → Prop} (hk : ∀ t, t < M.length → kp t = true)
    (h : YW P t xs M (fun R M' => Named kp R ∧ NamedM kp (maskM kp 0 M') ∧ Q R (maskM kp 0 M'))) : YW P t xs M Q := by
  unfold YW at h ⊢
  intro nb base φ w args r hr hm hs ha
  obtain ⟨h1, f, tmps, assign, body, h2, h3⟩ := h nb base φ w args r hr hm hs ha
  refine ⟨h1, f, tmps, assign, body, h2, h3.mono ?_⟩
  rintro e w' ⟨v, R, M', φ', rfl, ⟨hR, hM, hQ⟩, h5, h6, h7⟩
  refine ⟨v, R, _, restr kp φ', rfl, hQ, h5.mask hM, Rep_restr hR h6, h7.restr fun t r ht => ?_⟩
  obtain ⟨o, ho, _⟩ := hm.obj t r ht
  exact hk t (get_lt ho)
end Go.Tri
