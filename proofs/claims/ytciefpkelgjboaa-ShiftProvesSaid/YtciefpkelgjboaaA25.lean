/-
  LOOPS OVER FUNCTIONS: the loop's record as an object; a round; the statement; a function that may write to what it is handed.
-/
import Derived.Test.YtciefpkelgjboaaA21
namespace Go.Tri
variable {lo : Nat}
open Go.RowKit

/-- A loop's record. -/
@[reducible] def loopOb (st : LoopState) (pend : Option Code) (e : Env) (nt : Nat) (ps : Array Tmp) (as bd : Code) (inf : LoopInf nt ps as bd) : Ob := ⟨0, 1, 0, .loop st pend e nt ps as bd inf⟩

/-- There lies a loop's record, in this state. -/
def LoopAt (M : Mem) (t : Nat) (st : LoopState) (pend : Option Code) (K : (LoopState → Option Code → Ob) → Prop) : Prop :=
  ∃ e nt ps as bd inf, M.get t = some (loopOb st pend e nt ps as bd inf) ∧ K fun st' pend' => loopOb st' pend' e nt ps as bd inf

theorem step_loop {nb base : Nat} {φ : Phi} {w : World} {M : Mem} (hm : MemRel nb base φ w M) {t : Nat} {r : Row} (ht : φ t = some r) {st : LoopState} {pend : Option Code} {e : Env} {nt : Nat} {ps : Array Tmp} {as bd : Code} {inf : LoopInf nt ps as bd}
    (ho : M.get t = some (loopOb st pend e nt ps as bd inf)) :
    0 < r.cap ∧ r.ver = 0 ∧ ∃ L, LoopIs φ base w r.g st pend e nt ps as bd L ∧ ∀ st' pend',
      MemRel nb base φ (w.putObj r.g (.loop { L with state := st', pending := pend' })) (M.put t (loopOb st' pend' e nt ps as bd inf)) ∧ Evo w φ (w.putObj r.g (.loop { L with state := st', pending := pend' })) φ := by
  obtain ⟨ob, h1, h2⟩ := hm.obj t r ht
  rw [ho] at h1
  cases h1
  obtain ⟨k1, k2, L, hL⟩ := h2.spec
  refine ⟨k1, k2, L, hL, fun st' pend' => ?_⟩
  have hevo : Evo w φ (w.putObj r.g (.loop { L with state := st', pending := pend' })) φ :=
    ⟨rfl, rfl, rfl, by simp, fun b _ hn => World.putObj_heap_other (fun e => hn t r ht k1 e.symm), fun s r' hs hp _ hn => hn s r' hs hp rfl, fun s r' hs => ⟨r', hs, rfl, rfl, Nat.le_refl _, fun _ => rfl⟩⟩
  refine ⟨⟨fun s r' hs => ?_, hm.inj, hm.own, by simpa using hm.le⟩, hevo⟩
  by_cases h : s = t
  · subst h
    rw [ht] at hs
    cases hs
    refine ⟨_, Mem.get_put_same M s _, h2.n, h2.ver, h2.sz, h2.e, h2.pos, h2.le, h2.max, fun hp => by simpa using h2.dom hp, ?_, fun hC => nomatch hC⟩
    refine ⟨k1, k2, _, World.putObj_heap_same (h2.dom k1), rfl, rfl, hL.ps, hL.assign, hL.body, hL.size, fun i => Rep.evo hevo (hL.slots i)⟩
  · obtain ⟨o', g1, g2⟩ := hm.obj s r' hs
    exact ⟨o', by rw [Mem.get_put_other M h]; exact g1, g2.evo hevo (fun hp => World.putObj_heap_other (fun e => h (hm.inj s t r' r hs ht hp k1 e)))⟩

/-- A row of version 0 abides. -/
theorem Evo.row {w w' : World} {φ φ' : Phi} (hv : Evo w φ w' φ') {nb base : Nat} {M' : Mem} (hm : MemRel nb base φ' w' M') {t : Nat} {r : Row} (ht : φ t = some r) (hr : r.ver = 0) {ob : Ob} (ho : M'.get t = some ob) (hob : ob.ver = 0) : φ' t = some r := by
  obtain ⟨r', h1, _, _, _, h5⟩ := hv.names t r ht
  obtain ⟨o', g1, g2⟩ := hm.obj t r' h1
  rw [ho] at g1
  cases g1
  rw [h1, h5 (by rw [hr, ← g2.ver, hob])]

/-- yield's arguments, laid into a round's slots. -/
def putArgs : List (Tmp × V) → Env → Env
  | [], e => e
  | (p, x) :: r, e => putArgs r ((p, x) :: e)

theorem putArgs_ok {φ : Phi} {base : Nat} {w : World} : ∀ (ps : List Tmp) (xs : List V) (vs : List Value) (e : Env) (tmps : Array Value), xs.length = ps.length → vs.length = ps.length → (∀ p ∈ ps, p < tmps.size) → (∀ i, Rep φ base w (xs.getD i .any) (vs.getD i undef)) →
    (∀ i, Rep φ base w (Env.get e i) (tmps.getD i undef)) →
    ((ps.zip vs).foldl (fun t (p, v) => t.setIfInBounds p v) tmps).size = tmps.size ∧ ∀ i, Rep φ base w (Env.get (putArgs (ps.zip xs) e) i) (((ps.zip vs).foldl (fun t (p, v) => t.setIfInBounds p v) tmps).getD i undef)
  | [], xs, vs, e, tmps, _, _, _, _, he => ⟨by simp, by simpa [putArgs] using he⟩
  | p :: ps, [], vs, e, tmps, h, _, _, _, _ => by simp at h
  | p :: ps, x :: xs, [], e, tmps, _, h, _, _, _ => by simp at h
  | p :: ps, x :: xs, v :: vs, e, tmps, h1, h2, h3, h4, he => by
    simp only [List.zip_cons_cons, List.foldl_cons, putArgs]
    have hp : p < tmps.size := h3 p (by simp)
    have := putArgs_ok ps xs vs ((p, x) :: e) (tmps.setIfInBounds p v) (by simpa using h1) (by simpa using h2) (fun q hq => by simpa using h3 q (by simp [hq])) (fun i => by have := h4 (i + 1); simpa using this) (fun i => by
      simp only [Env.get]
      by_cases hi : p = i
      · subst hi
        rw [if_pos rfl]
        rw [show (tmps.setIfInBounds p v).getD p undef = v from by simp [Array.getD, hp]]
        have := h4 0
        simpa using this
      · rw [if_neg hi]
        rw [show (tmps.setIfInBounds p v).getD i undef = tmps.getD i undef from by
          simp only [Array.getD, Array.size_setIfInBounds]
          split
          · rw [Array.getInternal_eq_getElem, Array.getElem_setIfInBounds_ne _ hi]; rfl
          · rfl]
        exact he i)
    exact ⟨by rw [this.1]; simp, this.2⟩

/-- How a round's body may be left. -/
def rndQ (t : Nat) (K : V → Mem → Prop) : Exit → Env → Mem → Prop
  | .normal, _, M => LoopAt M t .busy none fun o => K (.bool true) (M.put t (o .ready none))
  | .ret, _, M => LoopAt M t .busy none fun o => K (.bool false) (M.put t (o .done (some .ret)))
  | .exit id, _, M => LoopAt M t .busy none fun o => K (.bool false) (M.put t (o .done (some (.exit id))))
  | _, _, _ => False

/-- Behind the assignment to the loop's left sides. -/
def asnQ (X : Cx) (t : Nat) (bd : Code) (K : V → Mem → Prop) : Exit → Env → Mem → Prop
  | .normal, e1, M => LoopAt M t .ready none fun o => awp X bd (rndQ t K) e1 (M.put t (o .busy none))
  | _, _, _ => False

/-- A ROUND, from the loop's own code. -/
theorem YW_of {P : Program} {T : Tab} {wr : List FuncId} (hT : TabOk P T) {t : Nat} {xs : List V} {M : Mem} {e : Env} {nt : Nat} {ps : Array Tmp} {as bd : Code} {inf : LoopInf nt ps as bd} (ho : M.get t = some (loopOb .ready none e nt ps as bd inf)) (hps : xs.length = ps.size) (hpt : ps.toList.all (fun p => Nat.blt p nt) = true)
    {K : V → Mem → Prop} (h : ∀ nb, awp ⟨P, T, wr, nt, nb, true⟩ as (asnQ ⟨P, T, wr, nt, nb, true⟩ t bd K) (putArgs (ps.toList.zip xs) e) M) : YW P t xs M K := by
  unfold YW
  intro nb base φ w args r ht hm hs hargs
  obtain ⟨k1, k2, L, hL, _⟩ := step_loop hm ht ho
  have hy := run_yield (P := P) (args := args) hL.at_ (by rw [hs, hps, hL.ps])
  refine ⟨k2, L.fn, _, L.assign, L.body, hy, roundIn_of_wpIn trivial ?_⟩
  rw [hL.assign, hL.body, hL.ps]
  have hfold : (ps.zip args).foldl (fun tmps (p, a) => tmps.setIfInBounds p a) L.tmps = (ps.toList.zip args.toList).foldl (fun tmps (p, a) => tmps.setIfInBounds p a) L.tmps := by
    rw [← Array.foldl_toList, Array.toList_zip]
  rw [hfold]
  obtain ⟨q1, q2⟩ := putArgs_ok ps.toList xs args.toList e L.tmps (by simpa using hps) (by simp; omega) (fun p hp => by
    have := List.all_eq_true.1 hpt p hp
    rw [hL.size]
    simpa using this) (fun i => by
      have := hargs i
      rw [show args.toList.getD i undef = args.getD i undef from by simp [Array.getD_eq_getD_getElem?, List.getD]]
      exact this) hL.slots
  have hst : St 0 nt nb base φ w M (putArgs (ps.toList.zip xs) e) { tmps := (ps.toList.zip args.toList).foldl (fun tmps (p, a) => tmps.setIfInBounds p a) L.tmps, defers := [] } :=
    ⟨hm, trivial, Nat.zero_le _, by rw [q1, hL.size], q2⟩
  refine wpIn_mono (awp_ok (X := ⟨P, T, wr, nt, nb, true⟩) (ro := some r.g) (lo := 0) hT (fun h => nomatch h) as _ base φ w M _ _ hst (h nb)) ?_
  rintro x a1 w1 ⟨hx, e1, M1, φ1, hq, hst1, hv1⟩
  cases x with
  | normal =>
    obtain ⟨e', nt', ps', as', bd', inf', ho1, hb⟩ := hq
    have ht1 := hv1.row hst1.mem ht k2 ho1 rfl
    obtain ⟨_, _, L1, hL1, hs1⟩ := step_loop hst1.mem ht1 ho1
    obtain ⟨hm2, hv2⟩ := hs1 .busy none
    refine ⟨_, run_beginRound hL1.at_ hL1.st, ?_⟩
    have hst2 := hst1.evo hv2 hm2
    have e1' : ({ L1 with state := .busy, pending := none } : Loop) = { L1 with state := .busy } := by rw [← hL1.pend]
    rw [e1'] at hst2 hv2
    refine wpIn_mono (awp_ok (X := ⟨P, T, wr, nt, nb, true⟩) (ro := some r.g) (lo := 0) hT (fun h => nomatch h) bd _ base φ1 _ _ _ _ hst2 hb) ?_
    rintro x a3 w3 ⟨hx, e3, M3, φ3, hq, hst3, hv3⟩
    have hv13 : Evo w φ w3 φ3 := (hv1.trans hv2).trans hv3
    have fin : ∀ (jump : Option Code) (b : Bool), b = jump.isNone → LoopAt M3 t .busy none (fun o => K (.bool b) (M3.put t (o (if b then .ready else .done) jump))) →
        ∃ v w', (Instr.endRound r.g jump).run P w3 = .ok v w' ∧ ∃ v' R M' φ', Ending.returned v = .returned v' ∧ K R M' ∧ MemRel nb base φ' w' M' ∧ Rep φ' base w' R v' ∧ Evo w φ w' φ' := by
      rintro jump b hb ⟨e4, nt4, ps4, as4, bd4, inf4, ho3, hK⟩
      have ht3 := hv13.row hst3.mem ht k2 ho3 rfl
      obtain ⟨_, _, L3, hL3, hs3⟩ := step_loop hst3.mem ht3 ho3
      obtain ⟨hm4, hv4⟩ := hs3 (if b then .ready else .done) jump
      have hr := run_endRound (P := P) jump hL3.at_
      rw [← hb] at hr
      exact ⟨_, _, hr, _, .bool b, _, φ3, rfl, hK, hm4, rfl, hv13.trans hv4⟩
    cases x with
    | normal => exact fin none true rfl hq
    | ret => exact fin (some .ret) false rfl hq
    | exit id => exact fin (some (.exit id)) false rfl hq
    | goto l => exact hq.elim
    | panic c => exact hx.elim
    | outgrown => exact hx.elim
  | panic c => exact hx.elim
  | outgrown => exact hx.elim
  | ret => exact hq.elim
  | exit id => exact hq.elim
  | goto l => exact hq.elim

/-- Behind the function that was ranged over. -/
def rangeQ (t : Nat) (e : Env) (Q : Exit → Env → Mem → Prop) (M : Mem) : Prop :=
  ∃ st pend, st ≠ .busy ∧ LoopAt M t st pend fun o => (match pend with
    | none => Q .normal e (M.put t (o .exhausted none))
    | some .ret => Q .ret e (M.put t (o .exhausted (some .ret)))
    | some (.exit id) => Q (.exit id) e (M.put t (o .exhausted (some (.exit id))))
    | _ => False)

/-- A new record. -/
theorem new_loop {nb base : Nat} {φ : Phi} {w : World} {M : Mem} (hm : MemRel nb base φ w M) {nm : Nat} (hn : φ nm = none) {e : Env} {nt : Nat} (ps : Array Tmp) (as bd : Code) (inf : LoopInf nt ps as bd) (L : Loop) (h1 : L.state = .ready) (h2 : L.pending = none) (h3 : L.params = ps) (h4 : L.assign = as) (h5 : L.body = bd) (h6 : L.tmps.size = nt)
    (h7 : ∀ i, Rep φ base w (Env.get e i) (L.tmps.getD i undef)) :
    MemRel nb base (φ.upd nm ⟨w.heap.size, 1, 0, 1, 0, 0⟩) (w.alloc (.loop L)) (M.put nm (loopOb .ready none e nt ps as bd inf)) ∧ Evo w φ (w.alloc (.loop L)) (φ.upd nm ⟨w.heap.size, 1, 0, 1, 0, 0⟩) := by
  have hevo : Evo w φ (w.alloc (.loop L)) (φ.upd nm ⟨w.heap.size, 1, 0, 1, 0, 0⟩) := by
    refine ⟨rfl, rfl, rfl, by simp, fun b hb _ => heap_alloc_old w _ hb, fun t r ht hcp hlt hnl => ?_, fun t r ht => ?_⟩
    · by_cases h : t = nm
      · subst h
        rw [Phi.upd_same] at ht
        cases ht
        exact absurd hlt (by simp)
      · rw [Phi.upd_other _ _ h] at ht
        exact hnl t r ht hcp rfl
    · have h : t ≠ nm := fun h => by subst h; rw [hn] at ht; cases ht
      exact ⟨r, by rw [Phi.upd_other _ _ h]; exact ht, rfl, rfl, Nat.le_refl _, fun _ => rfl⟩
  refine ⟨⟨fun t r ht => ?_, fun t t' r r' ht ht' hp hp' hg => ?_, fun t r ht hnb hp => ?_, by have := hm.le; simp; omega⟩, hevo⟩
  · by_cases h : t = nm
    · subst h
      rw [Phi.upd_same] at ht
      cases ht
      refine ⟨_, Mem.get_put_same M t _, rfl, rfl, rfl, rfl, Nat.le_refl _, Nat.zero_le _, (by decide : 1 ≤ maxLen), fun _ => by simp, ?_, fun hC => nomatch hC⟩
      exact ⟨Nat.le_refl _, rfl, L, heap_alloc_new w _, h1, h2, h3, h4, h5, h6, fun i => Rep.evo hevo (h7 i)⟩
    · rw [Phi.upd_other _ _ h] at ht
      obtain ⟨o', k1, k2⟩ := hm.obj t r ht
      exact ⟨o', by rw [Mem.get_put_other M h]; exact k1, k2.evo hevo (fun hp => heap_alloc_old w _ (hm.lt ht hp))⟩
  · by_cases h : t = nm <;> by_cases h' : t' = nm
    · rw [h, h']
    · subst h
      rw [Phi.upd_same] at ht
      rw [Phi.upd_other _ _ h'] at ht'
      cases ht
      have := hm.lt ht' hp'
      simp only at hg
      omega
    · subst h'
      rw [Phi.upd_same] at ht'
      rw [Phi.upd_other _ _ h] at ht
      cases ht'
      have := hm.lt ht hp
      simp only at hg
      omega
    · rw [Phi.upd_other _ _ h] at ht
      rw [Phi.upd_other _ _ h'] at ht'
      exact hm.inj t t' r r' ht ht' hp hp' hg
  · by_cases h : t = nm
    · subst h
      rw [Phi.upd_same] at ht
      cases ht
      exact hm.le
    · rw [Phi.upd_other _ _ h] at ht
      exact hm.own t r ht hnb hp

/-- 'for .. := range g { .. }', outside all rounds. -/
theorem AW_range {X : Cx} (hrd : X.rd = false) {g : Operand} {ps : Array Tmp} {as bd : Code} {Q : Exit → Env → Mem → Prop} {e : Env} {M : Mem} {f n : Nat} {cap : Nat → V} (inf : LoopInf X.nt ps as bd) (hg : evA e g = .clo f n cap)
    (h : ACM X.P f (.yld M.length :: (List.range n).map cap) (M.put M.length (loopOb .ready none e X.nt ps as bd inf)) (fun _ M' => rangeQ M.length e Q M')) :
    AW X.P X.nt X.nb X.rd (.rangeFunc g ps as bd) Q e M := by
  rw [AW_def]
  intro ro lo base φ w a hro hst
  have hro := hro hrd
  subst hro
  have hnm : φ M.length = none := by
    cases hq : φ M.length with
    | none => rfl
    | some r =>
      obtain ⟨o', h1, _⟩ := hst.mem.obj _ r hq
      simp [Mem.get, List.getD] at h1
  have hgv := hst.eval g
  rw [hg] at hgv
  obtain ⟨cs, hv, hcs1, hcs2⟩ := hgv
  unfold ACM at h
  obtain ⟨hfn, hcall⟩ := h
  refine wpIn_rangeFunc ?_
  intro fn _
  have hevD : Evo w φ (w.alloc (.deferred (some []))) φ := evo_alloc w φ _
  have hmD : MemRel X.nb base φ (w.alloc (.deferred (some []))) M := hst.mem.evo hevD (fun t r ht hp => heap_alloc_old w _ (hst.mem.lt ht hp))
  obtain ⟨L, hLd⟩ : ∃ L : Loop, L = { state := .ready, pending := none, fn := fn, tmps := a.tmps, params := ps, assign := as, body := bd, defers := w.heap.size } := ⟨_, rfl⟩
  have hL1 : L.state = .ready := by rw [hLd]
  have hL2 : L.pending = none := by rw [hLd]
  have hL3 : L.params = ps := by rw [hLd]
  have hL4 : L.assign = as := by rw [hLd]
  have hL5 : L.body = bd := by rw [hLd]
  have hL6 : L.tmps = a.tmps := by rw [hLd]
  obtain ⟨hm1, hev1⟩ := new_loop (nt := X.nt) hmD hnm (e := e) ps as bd inf L hL1 hL2 hL3 hL4 hL5 (by rw [hL6]; exact hst.size) (fun i => by rw [hL6]; exact Rep.evo hevD (hst.slots i))
  have hsz : (w.alloc (.deferred (some []))).heap.size = w.heap.size + 1 := by simp
  rw [hsz] at hm1 hev1
  obtain ⟨w1, hw1⟩ : ∃ w1, (w.alloc (.deferred (some []))).alloc (.loop L) = w1 := ⟨_, rfl⟩
  rw [hw1] at hm1 hev1
  have hw01 : Evo w φ w1 (φ.upd M.length ⟨w.heap.size + 1, 1, 0, 1, 0, 0⟩) := hevD.trans hev1
  have hD1 : w1.heap[w.heap.size]? = some (.deferred (some [])) := by
    rw [← hw1]
    exact (heap_alloc_old _ _ (by simp)).trans (World.alloc_heap_new w _)
  have hnlD : notLive (φ.upd M.length ⟨w.heap.size + 1, 1, 0, 1, 0, 0⟩) w.heap.size := by
    intro t r ht hp e
    by_cases h : t = M.length
    · subst h
      rw [Phi.upd_same] at ht
      cases ht
      simp only at e
      omega
    · rw [Phi.upd_other _ _ h] at ht
      have := hst.mem.lt ht hp
      omega
  have hcall := hcall X.nb base _ w1 (#[.func (.yield (w.heap.size + 1)) #[] #[]] ++ cs) (fun _ h => nomatch h) hm1 (by simp [hcs1]; omega) (fun i => by
    cases i with
    | zero =>
      rw [show (#[Value.func (.yield (w.heap.size + 1)) #[] #[]] ++ cs).getD 0 undef = Value.func (.yield (w.heap.size + 1)) #[] #[] from by simp [Array.getD]]
      exact ⟨_, Phi.upd_same _ _ _, rfl, fun _ => ⟨Nat.le_refl _, rfl⟩⟩
    | succ i =>
      by_cases hi : i < n
      · obtain ⟨u, q1, q2⟩ := hcs2 i hi
        rw [show (#[Value.func (.yield (w.heap.size + 1)) #[] #[]] ++ cs).getD (i + 1) undef = u from by
          rw [Array.getD_eq_getD_getElem?, Array.getElem?_append_right (by simp)]
          simp [q1]]
        rw [show (V.yld M.length :: (List.range n).map cap).getD (i + 1) .any = cap i from by simp [List.getD, hi]]
        exact Rep.evo hw01 q2
      · rw [show (V.yld M.length :: (List.range n).map cap).getD (i + 1) .any = .any from by
          simp only [List.getD]
          rw [List.getElem?_eq_none (by simp; omega)]
          rfl]
        trivial)
  refine ⟨w.heap.size + 1, [markD w.heap.size], w1, { target := .fn (.func f) cs, args := #[.func (.yield (w.heap.size + 1)) #[] #[]] }, w1, f, #[.func (.yield (w.heap.size + 1)) #[] #[]] ++ cs, w1, ?_, ?_, fun _ _ => trivial, ?_, (fun h => nomatch h), ?_⟩
  · rw [← hw1, hLd]
    exact run_enterLoop_outer _ _ _ _ _
  · simp only [resolve]
    rw [hv]
    simp [Deferred.ofValue, Act.eval]
  · simp only [invoke]
    exact run_callFunc hfn _ w1
  · refine callsIn_FZ (ro := none) (hcall.mono ?_)
    rintro e' w3 ⟨v, R, M', φ', rfl, ⟨st, pend, hst', e3, nt3, ps3, as3, bd3, inf3, ho, hq⟩, hm3, _, hev3⟩
    have ht3 := hev3.row hm3 (Phi.upd_same φ M.length _) rfl ho rfl
    obtain ⟨_, _, L3, hL3, hs3⟩ := step_loop hm3 ht3 ho
    obtain ⟨hm4, hev4⟩ := hs3 .exhausted pend
    have hend := run_endLoop (P := X.P) hL3.at_ (by rw [hL3.st]; exact hst')
    have e4 : ({ L3 with state := .exhausted, pending := pend } : Loop) = { L3 with state := .exhausted } := by rw [← hL3.pend]
    rw [e4] at hm4 hev4
    obtain ⟨w4, hw4⟩ : ∃ w4, w3.putObj (w.heap.size + 1) (.loop { L3 with state := .exhausted }) = w4 := ⟨_, rfl⟩
    replace hend : (Instr.endLoop (w.heap.size + 1)).run X.P w3 = .ok L3.pending w4 := by rw [← hw4]; exact hend
    replace hm4 : MemRel X.nb base φ' w4 (M'.put M.length (loopOb .exhausted pend e3 nt3 ps3 as3 bd3 inf3)) := by rw [← hw4]; exact hm4
    replace hev4 : Evo w3 φ' w4 φ' := by rw [← hw4]; exact hev4
    rw [hL3.pend] at hend
    have hevA : Evo w φ w4 φ' := (hw01.trans hev3).trans hev4
    have hst4 : St lo X.nt X.nb base φ' w4 (M'.put M.length (loopOb .exhausted pend e3 nt3 ps3 as3 bd3 inf3)) e { a with defers := [markD w.heap.size] ++ a.defers } := by
      refine ⟨hm4, ⟨⟨w.heap.size, rfl, hst.low, ?_, ?_, fun d' hd' he => ?_⟩, hst.dfr.evo hevA⟩, Nat.le_trans hst.low hevA.size, hst.size, fun i => Rep.evo hevA (hst.slots i)⟩
      · have hlt1 : w.heap.size < w1.heap.size := (Array.getElem?_eq_some_iff.1 hD1).1
        rw [(hev3.trans hev4).block _ hlt1 hnlD]
        exact hD1
      · have hlt1 : w.heap.size < w1.heap.size := (Array.getElem?_eq_some_iff.1 hD1).1
        exact (hev3.trans hev4).notLive_keep hlt1 hnlD
      · have : ∀ ds : List Deferred, Dfr lo φ w ds → ∀ d ∈ ds, d ≠ markD w.heap.size := by
          intro ds
          induction ds with
          | nil => intro _ d hd; cases hd
          | cons d0 r ih =>
            rintro ⟨⟨D, q1, q2, q3, q4, q5⟩, q6⟩ d hd
            rcases List.mem_cons.1 hd with rfl | hd
            · intro h
              rw [q1] at h
              have : D < w.heap.size := (Array.getElem?_eq_some_iff.1 q3).1
              cases h
              omega
            · exact ih q6 d hd
        exact this _ hst.dfr d' hd' he
    refine ⟨pend, _, hend, ?_⟩
    cases pend with
    | none => exact ⟨trivial, e, _, φ', hq, hst4, hevA⟩
    | some c =>
      cases c with
      | ret => exact wpIn_ret ⟨trivial, e, _, φ', hq, hst4, hevA⟩
      | exit id => exact wpIn_exit ⟨trivial, e, _, φ', hq, hst4, hevA⟩
      | _ => exact hq.elim

end Go.Tri
