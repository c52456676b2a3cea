/-
  SOUNDNESS, NINTH PART: regions in the text's order, code, loops, functions.
-/
import Derived.Test.YtjcjjakmggfmcaaA11
namespace Go.Tri
open Go.RowKit

section
variable {X : Cx}

theorem St.skip {nt nb base : Nat} {φ : Phi} {w : World} {M : Mem} {e : Env} {a : Act} (h : St nt nb base φ w M e a) (d : Tmp) : St nt nb base φ w M ((d, .un) :: e) (a.put (some d) undef) := by
  refine ⟨h.mem, h.dfr, by simp [Act.put, h.size], fun i => ?_⟩
  by_cases hi : d = i
  · subst hi
    simp only [Env.get, if_true, Act.put]
    show (a.tmps.setIfInBounds d undef).getD d undef = undef
    simp only [Array.getD, Array.size_setIfInBounds]
    split
    · rw [Array.getInternal_eq_getElem, Array.getElem_setIfInBounds_self]
    · rfl
  · simp only [Env.get, if_neg hi, Act.put]
    rw [show (a.tmps.setIfInBounds d undef).getD i undef = a.tmps.getD i undef from by
      simp only [Array.getD, Array.size_setIfInBounds]
      split
      · rw [Array.getInternal_eq_getElem, Array.getElem_setIfInBounds_ne _ hi]; rfl
      · rfl]
    exact h.slots i

theorem St.put' {nt nb base : Nat} {φ φ' : Phi} {w w' : World} {M M' : Mem} {e : Env} {a : Act} {v : V} {cv : Value} (h : St nt nb base φ w M e a) (hm : MemRel nb base φ' w' M') (hr : Rep φ' base w' v cv) (hv : Evo w φ w' φ') (d : Tmp) (hd : d < nt) :
    St nt nb base φ' w' M' ((d, v) :: e) (a.put (some d) cv) := by
  refine ⟨hm, h.dfr, by simp [Act.put, h.size], fun i => ?_⟩
  by_cases hi : d = i
  · subst hi
    simp only [Env.get, if_true, Act.put]
    rw [show (a.tmps.setIfInBounds d cv).getD d undef = cv from by simp [Array.getD, h.size, hd]]
    exact hr
  · simp only [Env.get, if_neg hi, Act.put]
    rw [show (a.tmps.setIfInBounds d cv).getD i undef = a.tmps.getD i undef from by
      simp only [Array.getD, Array.size_setIfInBounds]
      split
      · rw [Array.getInternal_eq_getElem, Array.getElem_setIfInBounds_ne _ hi]; rfl
      · rfl]
    exact Rep.evo hv (h.slots i)

/-- A slot that holds a bool may be named by it. -/
theorem St.know {nt nb base : Nat} {φ : Phi} {w : World} {M : Mem} {e : Env} {a : Act} (h : St nt nb base φ w M e a) {d : Tmp} {b : Bool} (hd : Env.get e d = .bool b) : St nt nb base φ w M ((d, .bool b) :: e) a := by
  refine ⟨h.mem, h.dfr, h.size, fun i => ?_⟩
  by_cases hi : d = i
  · subst hi
    simp only [Env.get, if_true]
    rw [← hd]
    exact h.slots d
  · simp only [Env.get, if_neg hi]
    exact h.slots i

theorem br_iff (b : Bool) (p q : Prop) : br b p q ↔ (b = true → p) ∧ (b = false → q) := by
  cases b <;> simp [br]

/-- What the guard says of the model's own question. -/
theorem guardW_ok {nt nb base : Nat} {φ : Phi} {w : World} {M : Mem} {e : Env} {a : Act} (hst : St nt nb base φ w M e a) {ops : Array Oper} {o : Oper} {run skip : Env → Prop} (h : guardW ops o e run skip) :
    ∃ e', St nt nb base φ w M e' a ∧ ((Region.wanted o (yielded ops a.tmps) = true ∧ run e') ∨ (Region.wanted o (yielded ops a.tmps) = false ∧ skip e')) := by
  unfold guardW at h
  unfold Region.wanted
  cases hg : o.guard with
  | none => rw [hg] at h; exact ⟨e, hst, .inl ⟨rfl, h⟩⟩
  | some q =>
    obtain ⟨j, want⟩ := q
    rw [hg] at h
    simp only at h ⊢
    cases hd : (ops[j]?).bind (·.dst) with
    | none =>
      rw [hd] at h
      exact ⟨e, hst, .inr ⟨by simp [yielded, hd], h⟩⟩
    | some d =>
      rw [hd] at h
      simp only at h
      cases hx : Env.get e d with
      | lit u =>
        rw [hx] at h
        cases u with
        | bool b =>
          simp only at h
          have hs := hst.slots d
          rw [hx] at hs
          have hs : a.tmps.getD d undef = .bool b := hs
          have hget : a.tmps[d]? = some (.bool b) := by
            rw [Array.getD_eq_getD_getElem?] at hs
            cases hq : a.tmps[d]? with
            | none => rw [hq] at hs; simp [undef] at hs
            | some u => rw [hq] at hs; simpa using hs
          have hy : yielded ops a.tmps j = some b := by simp [yielded, hd, hget]
          rw [hy]
          have hk := hst.know hx
          rw [br_iff] at h
          cases b with
          | true =>
            have h := h.1 rfl
            cases want with
            | true => exact ⟨_, hk, .inl ⟨rfl, h⟩⟩
            | false => exact ⟨_, hk, .inr ⟨rfl, h⟩⟩
          | false =>
            have h := h.2 rfl
            cases want with
            | true => exact ⟨_, hk, .inr ⟨rfl, h⟩⟩
            | false => exact ⟨_, hk, .inl ⟨rfl, h⟩⟩
        | tuple u =>
          simp only at h
          have hs := hst.slots d
          rw [hx] at hs
          have hs : a.tmps.getD d undef = .tuple u := hs
          have hy : yielded ops a.tmps j = none := by
            simp only [yielded, hd, Option.bind_some]
            rw [Array.getD_eq_getD_getElem?] at hs
            cases hq : a.tmps[d]? with
            | none => rfl
            | some u' => rw [hq] at hs; simp only [Option.getD_some] at hs; rw [hs]
          rw [hy]
          exact ⟨e, hst, .inr ⟨rfl, h⟩⟩
        | _ => exact h.elim
      | _ => rw [hx] at h; exact h.elim

/-- The meaning behind: some abstract state of which Q holds. -/
def Lift (X : Cx) (base : Nat) (φ : Phi) (w : World) (Q : Exit → Env → Mem → Prop) : Exit → Act → World → Prop := fun x a' w' =>
  goodX x ∧ ∃ e' M' φ', Q x e' M' ∧ St X.nt X.nb base φ' w' M' e' a' ∧ Evo w φ w' φ'

theorem Lift.evo {base : Nat} {φ φ₁ : Phi} {w w₁ : World} {Q : Exit → Env → Mem → Prop} (hv : Evo w φ w₁ φ₁) {x : Exit} {a' : Act} {w' : World} (h : Lift X base φ₁ w₁ Q x a' w') : Lift X base φ w Q x a' w' := by
  obtain ⟨h1, e', M', φ', h2, h3, h4⟩ := h
  exact ⟨h1, e', M', φ', h2, h3, hv.trans h4⟩

theorem wpOps_mono {P : Program} {ops : Array Oper} {Q Q' : Exit → Act → World → Prop} (hq : ∀ e a w, Q e a w → Q' e a w) : ∀ (l : List Nat) (a : Act) (w : World), wpOps P ops Q l a w → wpOps P ops Q' l a w := by
  intro l
  induction l with
  | nil => exact fun a w h => hq _ _ _ h
  | cons i rest ih =>
    intro a w h
    simp only [wpOps] at h ⊢
    split
    · next ho => rw [ho] at h; exact ih _ _ h
    · next o ho =>
      rw [ho] at h
      simp only at h
      split
      · next hw =>
        rw [if_pos hw] at h
        rcases h with h | ⟨h1, a₀, w₀, h2⟩
        · left
          unfold Oper.wp at h ⊢
          generalize (execOp a.eval o).run P w = r at h ⊢
          cases r with
          | ok n w' =>
            cases n <;> simp only [Oper.upon] at h ⊢ <;> first
              | exact ih _ _ h
              | exact h.elim
              | exact Rows.mono h (fun _ _ he => ih _ _ he)
              | exact Calls.mono h (fun e w'' he => by
                  cases e with
                  | returned v => exact ih _ _ he
                  | panicked c => exact hq _ _ _ he
                  | outgrown => obtain ⟨a₀, w₀, h2⟩ := he; exact ⟨a₀, w₀, hq _ _ _ h2⟩)
          | halt x w' => cases x <;> simp only [Oper.upon] at h ⊢ <;> first | exact hq _ _ _ h | exact h.elim
        · exact .inr ⟨h1, a₀, w₀, hq _ _ _ h2⟩
      · next hw => rw [if_neg hw] at h; exact ih _ _ h

theorem opsW_ok (hT : TabOk X.P X.T) {ops : Array Oper} {Q : Exit → Env → Mem → Prop} : ∀ (l : List Oper) (k : Nat), (∀ j, l[j]? = ops[k + j]?) → (l.all (dstOk X.nt)) = true →
    ∀ (base : Nat) (φ : Phi) (w : World) (M : Mem) (e : Env) (a : Act), St X.nt X.nb base φ w M e a → opsW X ops l e M (Q .normal) → wpOps X.P ops (Lift X base φ w Q) (List.range' k l.length) a w := by
  intro l
  induction l with
  | nil =>
    intro k _ _ base φ w M e a hst h
    exact ⟨trivial, e, M, φ, h, hst, Evo.refl w φ⟩
  | cons o r ih =>
    intro k hl hd base φ w M e a hst h
    simp only [List.all_cons, Bool.and_eq_true] at hd
    obtain ⟨hd1, hd2⟩ := hd
    have ho : ops[k]? = some o := by simpa using (hl 0).symm
    have hl' : ∀ j, r[j]? = ops[(k + 1) + j]? := fun j => by have := hl (j + 1); simpa [Nat.add_assoc, Nat.add_comm 1 j] using this
    rw [List.length_cons, List.range'_succ]
    simp only [wpOps, ho]
    have hnm : φ M.length = none := by
      cases hq : φ M.length with
      | none => rfl
      | some r =>
        obtain ⟨o', h1, _⟩ := hst.mem.obj _ r hq
        simp [Mem.get, List.getD] at h1
    unfold opsW at h
    cases hdst : o.dst with
    | none =>
      rw [hdst] at h
      simp only at h
      obtain ⟨e', hst', hg⟩ := guardW_ok hst h
      rcases hg with ⟨hw, hrun⟩ | ⟨hw, hskip⟩
      · rw [if_pos hw]
        left
        refine Oper.wp_mono ?_ (opW_ok hT hst' hnm hrun)
        rintro a' w' ⟨v, M', φ', cv, hK, hm', hr, hv, rfl⟩
        rw [hdst]
        exact wpOps_mono (fun _ _ _ hq => Lift.evo hv hq) _ _ _ (ih (k + 1) hl' hd2 base φ' w' M' e' _ (hst'.evo hv hm') hK)
      · rw [hw]
        simp only [Bool.false_eq_true, if_false]
        exact ih (k + 1) hl' hd2 base φ w M e' _ hst' hskip
    | some d =>
      rw [hdst] at h
      simp only at h
      have hdn : d < X.nt := by simp only [dstOk, hdst] at hd1; simpa using hd1
      obtain ⟨e', hst', hg⟩ := guardW_ok hst h
      rcases hg with ⟨hw, hrun⟩ | ⟨hw, hskip⟩
      · rw [if_pos hw]
        left
        refine Oper.wp_mono ?_ (opW_ok hT hst' hnm hrun)
        rintro a' w' ⟨v, M', φ', cv, hK, hm', hr, hv, rfl⟩
        rw [hdst]
        exact wpOps_mono (fun _ _ _ hq => Lift.evo hv hq) _ _ _ (ih (k + 1) hl' hd2 base φ' w' M' _ _ (hst'.put' hm' hr hv d hdn) hK)
      · rw [hw]
        simp only [Bool.false_eq_true, if_false]
        exact ih (k + 1) hl' hd2 base φ w M _ _ (hst'.skip d) hskip

theorem AW_def {P : Program} {nt nb : Nat} {c : Code} {Q : Exit → Env → Mem → Prop} {e : Env} {M : Mem} : AW P nt nb c Q e M ↔
    ∀ (base : Nat) (φ : Phi) (w : World) (a : Act), St nt nb base φ w M e a → c.wp P (fun x a' w' => goodX x ∧ ∃ e' M' φ', Q x e' M' ∧ St nt nb base φ' w' M' e' a' ∧ Evo w φ w' φ') a w := by
  unfold AW
  exact Iff.rfl

/-- THE WALK'S PROP IS SOUND. -/
theorem awp_ok (hT : TabOk X.P X.T) : ∀ (c : Code) (Q : Exit → Env → Mem → Prop) (base : Nat) (φ : Phi) (w : World) (M : Mem) (e : Env) (a : Act), St X.nt X.nb base φ w M e a → awp X c Q e M → c.wp X.P (Lift X base φ w Q) a w := by
  intro c
  induction c with
  | skip => intro Q base φ w M e a hst h; exact wp_skip ⟨trivial, e, M, φ, h, hst, Evo.refl w φ⟩
  | label l => intro Q base φ w M e a hst h; exact wp_label ⟨trivial, e, M, φ, h, hst, Evo.refl w φ⟩
  | ret => intro Q base φ w M e a hst h; exact wp_ret ⟨trivial, e, M, φ, h, hst, Evo.refl w φ⟩
  | exit id => intro Q base φ w M e a hst h; exact wp_exit ⟨trivial, e, M, φ, h, hst, Evo.refl w φ⟩
  | seq c d ihc ihd =>
    intro Q base φ w M e a hst h
    refine wp_seq (wp_mono (ihc _ base φ w M e a hst h) ?_)
    rintro x a' w' ⟨hx, e', M', φ', hq, hst', hv⟩
    cases x with
    | normal => exact wp_mono (ihd Q base φ' w' M' e' a' hst' hq) (fun _ _ _ h => Lift.evo hv h)
    | panic c => exact hx.elim
    | outgrown => exact hx.elim
    | _ => exact ⟨trivial, e', M', φ', hq, hst', hv⟩
  | cond c t f iht ihf =>
    intro Q base φ w M e a hst h
    simp only [awp] at h
    have hc := hst.eval c
    cases hx : evA e c with
    | lit u =>
      rw [hx] at h hc
      have hc : a.eval c = u := hc
      cases u with
      | bool b =>
        simp only at h
        rw [br_iff] at h
        refine wp_cond hc ?_
        cases b with
        | true => exact iht Q base φ w M e a hst (h.1 rfl)
        | false => exact ihf Q base φ w M e a hst (h.2 rfl)
      | _ => exact h.elim
    | _ => rw [hx] at h; exact h.elim
  | block id c ih =>
    intro Q base φ w M e a hst h
    refine wp_block (wp_mono (ih _ base φ w M e a hst h) ?_)
    rintro x a' w' ⟨hx, e', M', φ', hq, hst', hv⟩
    cases x with
    | exit id' =>
      simp only [blockQ] at hq
      simp only [Exit.inBlock]
      cases hb : Nat.beq id' id with
      | true =>
        rw [hb] at hq
        rw [if_pos (Nat.eq_of_beq_eq_true hb)]
        exact ⟨trivial, e', M', φ', hq, hst', hv⟩
      | false =>
        rw [hb] at hq
        rw [if_neg (fun e => by rw [e, Nat.beq_refl] at hb; cases hb)]
        exact ⟨trivial, e', M', φ', hq, hst', hv⟩
    | panic c => exact hx.elim
    | outgrown => exact hx.elim
    | _ => exact ⟨trivial, e', M', φ', hq, hst', hv⟩
  | region id ops draw =>
    intro Q base φ w M e a hst h
    simp only [awp] at h
    cases draw with
    | true => exact AW_def.1 h base φ w a hst
    | false =>
      simp only [cond_false] at h
      cases hd : ops.toList.all (dstOk X.nt) with
      | false => rw [hd] at h; exact h.elim
      | true =>
        rw [hd] at h
        simp only [cond_true] at h
        have := opsW_ok hT (ops := ops) ops.toList 0 (by simp) hd base φ w M e a hst h
        refine wp_region ?_
        rw [List.range_eq_range']
        simpa using this
  | loop c _ => intro Q base φ w M e a hst h; exact AW_def.1 h base φ w a hst
  | rangeFunc f ps as b _ _ => intro Q base φ w M e a hst h; exact AW_def.1 h base φ w a hst
  | scope c _ => intro Q base φ w M e a hst h; exact AW_def.1 h base φ w a hst
  | goto l => intro Q base φ w M e a hst h; exact AW_def.1 h base φ w a hst
  | refuse y => intro Q base φ w M e a hst h; exact AW_def.1 h base φ w a hst

theorem get_zip : ∀ (keys : List Nat) (e : Env) (i : Nat), Env.get (keys.zip (sel keys e)) i = if i ∈ keys then Env.get e i else .any := by
  intro keys e i
  induction keys with
  | nil => simp [Env.get]
  | cons k r ih =>
    simp only [sel, List.map_cons, List.zip_cons_cons, Env.get]
    by_cases hk : k = i
    · subst hk; simp
    · rw [if_neg hk]
      have : i ≠ k := fun e => hk e.symm
      simp only [List.mem_cons, this, false_or]
      exact ih

theorem St.sel {nt nb base : Nat} {φ : Phi} {w : World} {M : Mem} {e : Env} {a : Act} (h : St nt nb base φ w M e a) (keys : List Nat) : St nt nb base φ w M (keys.zip (Tri.sel keys e)) a := by
  refine ⟨h.mem, h.dfr, h.size, fun i => ?_⟩
  rw [get_zip]
  split
  · exact h.slots i
  · trivial

/-- A LOOP: what holds of the named slots and of memory at every round's head; a number that every round lowers. -/
theorem AW_loop (hT : TabOk X.P X.T) (keys : List Nat) (I : List V → Mem → Prop) (mu : List V → Mem → Nat) {c : Code} {Q : Exit → Env → Mem → Prop} {e : Env} {M : Mem} (h0 : I (sel keys e) M)
    (round : ∀ vs M, I vs M → awp X c (loopQ keys I mu (mu vs M) Q) (keys.zip vs) M) : AW X.P X.nt X.nb (.loop c) Q e M := by
  rw [AW_def]
  intro base φ w a hst
  refine wp_loop_ghost (fun n a' w' => ∃ vs M' φ', mu vs M' = n ∧ I vs M' ∧ St X.nt X.nb base φ' w' M' (keys.zip vs) a' ∧ Evo w φ w' φ') (mu (sel keys e) M)
    ⟨_, M, φ, rfl, h0, hst.sel keys, Evo.refl w φ⟩ ?_
  rintro n a' w' ⟨vs, M', φ', rfl, hI, hst', hv⟩
  refine wp_mono (awp_ok hT c _ base φ' w' M' _ a' hst' (round vs M' hI)) ?_
  rintro x a₁ w₁ ⟨hx, e₁, M₁, φ₁, hq, hst₁, hv₁⟩
  cases x with
  | normal => exact ⟨_, hq.2, _, M₁, φ₁, rfl, hq.1, hst₁.sel keys, hv.trans hv₁⟩
  | panic c => exact hx.elim
  | outgrown => exact hx.elim
  | _ => exact ⟨trivial, e₁, M₁, φ₁, hq, hst₁, hv.trans hv₁⟩

/-! ## A scope without a goto, cuts -/

theorem AW_of_awp (hT : TabOk X.P X.T) {c : Code} {Q : Exit → Env → Mem → Prop} {e : Env} {M : Mem} (h : awp X c Q e M) : AW X.P X.nt X.nb c Q e M :=
  AW_def.2 fun base φ w a hst => awp_ok hT c Q base φ w M e a hst h

theorem AW_mono {P : Program} {nt nb : Nat} {c : Code} {Q Q' : Exit → Env → Mem → Prop} {e : Env} {M : Mem} (hq : ∀ x e M, Q x e M → Q' x e M) (h : AW P nt nb c Q e M) : AW P nt nb c Q' e M := by
  rw [AW_def] at h ⊢
  intro base φ w a hst
  refine wp_mono (h base φ w a hst) ?_
  rintro x a' w' ⟨hx, e', M', φ', h1, h2, h3⟩
  exact ⟨hx, e', M', φ', hq _ _ _ h1, h2, h3⟩

/-! ## A function -/

theorem loadV_at {nb base : Nat} (hT : TabOk X.P X.T) {φ : Phi} {w : World} {M : Mem} (hm : MemRel nb base φ w M) {t : TypeId} {x v : V} {cx : Value} {p : Obl} (hx : Rep φ base w x cx) (h : loadV X.T M t x = some (p, v)) (hp : p.holds) :
    ∃ cv, ((do loadVar t (← asAddr cx)) : Sem Value).run X.P w = .ok cv w ∧ Rep φ base w v cv := by
  obtain ⟨cv, h1, h2⟩ := loadV_ok (P := X.P) hT hm hx h hp
  refine ⟨cv, ?_, h2⟩
  cases cx with
  | pointer a =>
    cases a with
    | some a => simpa [Instr.loadAt, Instr.sureAddr, asAddr] using h1
    | none => simp [Instr.loadAt, Instr.sureAddr] at h1
  | _ => simp [Instr.loadAt, Instr.sureAddr] at h1

def resSem (tmps : Array Value) : ResultVar → Sem Value
  | .tmp t => pure (tmps.getD t undef)
  | .cell a t => do loadVar t (← asAddr (tmps.getD a undef))

theorem resV_ok (hT : TabOk X.P X.T) {nt nb base : Nat} {φ : Phi} {w : World} {M : Mem} {e : Env} {a : Act} (hst : St nt nb base φ w M e a) {r : ResultVar} {p : Obl} {v : V} (h : resV X.T e M r = some (p, v)) (hp : p.holds) :
    ∃ cv, (resSem a.tmps r).run X.P w = .ok cv w ∧ Rep φ base w v cv := by
  cases r with
  | tmp t =>
    simp only [resV, Option.some.injEq, Prod.mk.injEq] at h
    obtain ⟨rfl, rfl⟩ := h
    exact ⟨_, rfl, hst.slots t⟩
  | cell s t => exact loadV_at hT hst.mem (hst.slots s) h hp

theorem results_eq (fn : Func) (tmps : Array Value) : results fn tmps = (do let vs ← fn.results.mapM (resSem tmps); pure (if h : vs.size = 1 then vs[0] else .tuple vs)) := by
  unfold results
  congr 1

theorem results_one {fn : Func} {r : ResultVar} (h : fn.results = #[r]) (tmps : Array Value) (P : Program) (w : World) {cv : Value} (hr : (resSem tmps r).run P w = .ok cv w) : (results fn tmps).run P w = .ok cv w := by
  rw [results_eq, h]
  simp [Array.mapM_eq_mapM_toList, hr]

theorem results_two {fn : Func} {r r' : ResultVar} (h : fn.results = #[r, r']) (tmps : Array Value) (P : Program) (w : World) {cv cv' : Value} (hr : (resSem tmps r).run P w = .ok cv w) (hr' : (resSem tmps r').run P w = .ok cv' w) :
    (results fn tmps).run P w = .ok (.tuple #[cv, cv']) w := by
  rw [results_eq, h]
  simp [Array.mapM_eq_mapM_toList, hr, hr']

theorem retK_ok (hT : TabOk X.P X.T) {nt base : Nat} {φ : Phi} {w : World} {M : Mem} {e : Env} {a : Act} (hst : St nt 0 base φ w M e a) {fn : Func} {rs : List (ResultVar × TypeId)} (hrs : fn.results.toList = rs.map (·.1)) {Q : V → Prop} (h : retK X.T rs e M Q) :
    ∃ cv R, (results fn a.tmps).run X.P w = .ok cv w ∧ Q R ∧ Fr R ∧ Rep (fun _ => none) base w R cv := by
  unfold retK at h
  split at h
  · next r t =>
    have hres : fn.results = #[r] := by apply Array.toList_inj.1; exact hrs
    cases hq : resV X.T e M r with
    | none => rw [hq] at h; exact h.elim
    | some q =>
      obtain ⟨p, v⟩ := q
      rw [hq] at h
      simp only at h
      rw [Obl.req_iff, Obl.req_iff] at h
      obtain ⟨hp, hv, hF, hQ⟩ := h
      obtain ⟨cv, h1, h2⟩ := resV_ok hT hst hq hp
      exact ⟨cv, _, results_one hres _ _ _ h1, hQ, hF, asInts_ok (ownval_ok hst.mem 4 h2 hv)⟩
  · next r t r' t' =>
    have hres : fn.results = #[r, r'] := by apply Array.toList_inj.1; exact hrs
    cases hq : resV X.T e M r with
    | none => rw [hq] at h; exact h.elim
    | some q =>
      obtain ⟨p, v⟩ := q
      cases hq' : resV X.T e M r' with
      | none => rw [hq, hq'] at h; exact h.elim
      | some q' =>
        obtain ⟨p', v'⟩ := q'
        rw [hq, hq'] at h
        simp only at h
        rw [Obl.req_iff, Obl.req_iff, Obl.req_iff, Obl.req_iff] at h
        obtain ⟨hp, hp', hv, hv', hF, hF', hQ⟩ := h
        obtain ⟨cv, h1, h2⟩ := resV_ok hT hst hq hp
        obtain ⟨cv', h1', h2'⟩ := resV_ok hT hst hq' hp'
        refine ⟨_, _, results_two hres _ _ _ h1 h1', hQ, ?_, #[cv, cv'], rfl, rfl, ?_⟩
        · intro k hk
          cases k with
          | zero => exact hF
          | succ k => exact hF'
        · intro k hk
          cases k with
          | zero => exact ⟨cv, rfl, asInts_ok (ownval_ok hst.mem 4 h2 hv)⟩
          | succ k =>
            have : k = 0 := by omega
            subst this
            exact ⟨cv', rfl, asInts_ok (ownval_ok hst.mem 4 h2' hv')⟩
  · exact h.elim

/-- Nothing of it is said to be in the call's own memory. -/
def NoFr : V → Prop
  | .ints fr _ => fr = false
  | .seq fr _ _ f => fr = false ∧ ∀ j k, NoFr (f j k)
  | .at_ _ g _ => ∀ k, NoFr (g k)
  | .agg _ g => ∀ k, NoFr (g k)
  | .tup _ g => ∀ k, NoFr (g k)
  | .clo _ _ g => ∀ k, NoFr (g k)
  | _ => True

theorem Rep_base {b b' : Nat} {φ : Phi} {w : World} : ∀ {x : V} {v : Value}, NoFr x → Rep φ b' w x v → Rep φ b w x v := by
  intro x
  induction x with
  | ints fr xs =>
    intro v hn hx
    have hn : fr = false := hn
    subst hn
    obtain ⟨A, cap, rfl, h1, h2, h4⟩ := hx
    refine ⟨A, cap, rfl, h1, h2, fun h => ?_⟩
    obtain ⟨b, off, rfl, g1, g2, g3⟩ := h4 h
    exact ⟨b, off, rfl, g1, fun h => (nomatch h), g3⟩
  | seq fr sz n f ih =>
    intro v hn hx
    obtain ⟨hn, hf⟩ := hn
    subst hn
    obtain ⟨A, cap, rfl, h1, h2, h3, h4⟩ := hx
    refine ⟨A, cap, rfl, h1, h2, h3, fun h => ?_⟩
    obtain ⟨b, off, rfl, g1, g2, g3⟩ := h4 h
    refine ⟨b, off, rfl, g1, fun h => (nomatch h), fun j o hj ho => ?_⟩
    obtain ⟨c, e1, e2, e3⟩ := g3 j o hj ho
    exact ⟨c, e1, e2, ih j o (hf j o) e3⟩
  | at_ sz g o ih =>
    intro v hn hx
    obtain ⟨b, off, rfl, h0, h1, h2⟩ := hx
    refine ⟨b, off, rfl, h0, h1, fun k hk => ?_⟩
    obtain ⟨c, e1, e2, e3⟩ := h2 k hk
    exact ⟨c, e1, e2, ih k (hn k) e3⟩
  | agg n g ih =>
    intro v hn hx
    obtain ⟨cs, rfl, h1, h2⟩ := hx
    exact ⟨cs, rfl, h1, fun i hi => by obtain ⟨c, e1, e2, e3⟩ := h2 i hi; exact ⟨c, e1, e2, ih i (hn i) e3⟩⟩
  | tup n g ih =>
    intro v hn hx
    obtain ⟨cs, rfl, h1, h2⟩ := hx
    exact ⟨cs, rfl, h1, fun i hi => by obtain ⟨c, e1, e2⟩ := h2 i hi; exact ⟨c, e1, ih i (hn i) e2⟩⟩
  | clo f n g ih =>
    intro v hn hx
    obtain ⟨cs, rfl, h1, h2⟩ := hx
    exact ⟨cs, rfl, h1, fun i hi => by obtain ⟨c, e1, e2⟩ := h2 i hi; exact ⟨c, e1, ih i (hn i) e2⟩⟩
  | _ => exact fun _ h => h

/-- The slots at a function's start. -/
def envOf (xs : List V) : Env := (List.range xs.length).zip xs

theorem get_envOf (xs : List V) : ∀ (s : Nat) (i : Nat), Env.get ((List.range' s xs.length).zip xs) i = if s ≤ i then xs.getD (i - s) .any else .any := by
  induction xs with
  | nil => intro s i; simp [Env.get]
  | cons x r ih =>
    intro s i
    rw [List.length_cons, List.range'_succ, List.zip_cons_cons]
    simp only [Env.get]
    by_cases h : s = i
    · subst h; simp
    · rw [if_neg h, ih]
      by_cases hs : s + 1 ≤ i
      · rw [if_pos hs, if_pos (by omega), show i - s = (i - (s + 1)) + 1 from by omega]
        rfl
      · rw [if_neg hs, if_neg (by omega)]

def LenOk : V → Prop
  | .ints _ xs => (xs.length : Int) ≤ 9223372036854775807
  | .seq _ _ n _ => (n : Int) ≤ 9223372036854775807
  | _ => True

/-- A FUNCTION, from its code. -/
theorem APure_of (hT : TabOk X.P X.T) (hnb : X.nb = 0) {f : FuncId} {fn : Func} {c : Code} (hf : X.P.funcs[f]? = some fn) (hname : (fn.name == "runtime.NumGoroutine") = false) (hb : fn.body = some c) (hnt : fn.ntmps = X.nt) {rs : List (ResultVar × TypeId)}
    (hrs : fn.results.toList = rs.map (·.1)) {xs : List V} (hxs : xs.length ≤ X.nt) (hfr : ∀ x ∈ xs, NoFr x) {Q : V → Prop} (h : (∀ x ∈ xs, LenOk x) → awp X c (retQ X.T rs Q) (envOf xs) []) : APure X.P f xs Q := by
  unfold APure
  refine ⟨⟨fn, hf, hname, by rw [hb]; rfl⟩, fun w args hs hargs => ?_⟩
  have hlen : ∀ x ∈ xs, LenOk x := by
    intro x hx
    obtain ⟨i, hi, rfl⟩ := List.getElem_of_mem hx
    have hr := hargs i
    rw [show xs.getD i .any = xs[i] from by simp [List.getD, hi]] at hr
    cases hxx : xs[i] with
    | ints fr ys =>
      rw [hxx] at hr
      obtain ⟨A, cap, _, h1, h2, _⟩ := hr
      rw [maxLen_val] at h2
      simp only [LenOk]
      omega
    | seq fr sz n f =>
      rw [hxx] at hr
      obtain ⟨A, cap, _, h1, h2, _⟩ := hr
      rw [maxLen_val] at h2
      simp only [LenOk]
      omega
    | _ => trivial
  have hst : St X.nt X.nb w.heap.size (fun _ => none) w [] (envOf xs) { tmps := args ++ Array.replicate (fn.ntmps - args.size) undef, defers := [] } := by
    refine ⟨⟨fun t r h => (nomatch h), fun t t' r r' h => (nomatch h), fun t r h => (nomatch h), Nat.le_refl _⟩, rfl, by simp; omega, fun i => ?_⟩
    have hi := hargs i
    have e1 : Env.get (envOf xs) i = xs.getD i .any := by
      unfold envOf
      rw [List.range_eq_range', get_envOf]
      simp
    rw [e1]
    by_cases h : i < xs.length
    · have e2 : (args ++ Array.replicate (fn.ntmps - args.size) undef).getD i undef = args.getD i undef := by
        rw [Array.getD_eq_getD_getElem?, Array.getD_eq_getD_getElem?, Array.getElem?_append_left (by omega)]
      rw [e2]
      rw [show xs.getD i .any = xs[i] from by simp [List.getD, h]] at hi ⊢
      exact Rep_base (hfr _ (List.getElem_mem h)) hi
    · rw [show xs.getD i .any = .any from by simp only [List.getD]; rw [List.getElem?_eq_none (by omega)]; rfl]
      trivial
  refine calls_of_wp hf hb (wp_mono (awp_ok hT c _ _ _ w [] _ _ hst (h hlen)) ?_)
  rintro x a' w' ⟨hx, e', M', φ', hq, hst', hv⟩
  have fin : retK X.T rs e' M' Q → a'.defers = [] ∧ ∃ v, (results fn a'.tmps).run X.P w' = .ok v w' ∧ ∃ v' R, Ending.returned v = .returned v' ∧ Q R ∧ Fr R ∧ Rep (fun _ => none) w.heap.size w' R v' ∧ Evo w (fun _ => none) w' (fun _ => none) := by
    intro hk
    rw [hnb] at hst'
    obtain ⟨cv, R, h1, h2, h3, h4⟩ := retK_ok hT hst' hrs hk
    exact ⟨hst'.dfr, cv, h1, cv, R, rfl, h2, h3, h4, hv.os, hv.tape, hv.output, hv.size, fun b hb hn => hv.block b hb hn, fun t r h => (nomatch h), fun t r h => (nomatch h)⟩
  cases x with
  | normal => exact fin hq
  | ret => exact fin hq
  | panic c => exact hx.elim
  | outgrown => exact hx.elim
  | exit id => exact hq.elim
  | goto l => exact hq.elim

/-! ## For the walk's user -/

theorem br_dec {p : Prop} [Decidable p] {A B : Prop} (h1 : p → A) (h2 : ¬ p → B) : br (decide p) A B := by
  by_cases h : p
  · simp only [h, decide_true]; exact h1 h
  · simp only [h, decide_false]; exact h2 h
theorem br_mk {b : Bool} {A B : Prop} (h1 : b = true → A) (h2 : b = false → B) : br b A B := (br_iff b A B).2 ⟨h1, h2⟩
theorem br_eq {x y : Int} {A B : Prop} (h1 : x = y → A) (h2 : x ≠ y → B) : br (x == y) A B := br_mk (fun h => h1 (by simpa using h)) (fun h => h2 (by simpa using h))
theorem br_ne {x y : Int} {A B : Prop} (h1 : x ≠ y → A) (h2 : x = y → B) : br (x != y) A B := br_mk (fun h => h1 (by simpa using h)) (fun h => h2 (by simpa using h))
theorem br_not {b : Bool} {A B : Prop} (h : br b B A) : br (!b) A B := by cases b <;> exact h
theorem inr {x : Int} (h : -9223372036854775808 ≤ x ∧ x ≤ 9223372036854775807) : InR x := by unfold InR; exact h
theorem APure.mono {P : Program} {f : FuncId} {xs : List V} {Q Q' : V → Prop} (h : APure P f xs Q) (hq : ∀ R, Q R → Q' R) : APure P f xs Q' := by
  unfold APure at h ⊢
  refine ⟨h.1, fun w args hs ha => (h.2 w args hs ha).mono fun e w' hr => ?_⟩
  obtain ⟨v, R, h1, h2, h3⟩ := hr
  exact ⟨v, R, h1, hq R h2, h3⟩
theorem APure.to {P : Program} {f : FuncId} {xs : List V} {r : V} {Q : V → Prop} (h : APure P f xs (fun R => R = r)) (hq : Q r) : APure P f xs Q := h.mono fun R hR => by rw [hR]; exact hq

end
end Go.Tri
