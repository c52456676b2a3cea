/-
  SOUNDNESS, NINTH PART: regions in the text's order, code, loops, functions.
-/
import Derived.Test.YtciefpkelgjboaaA11
namespace Go.Tri
variable {lo : Nat}
open Go.RowKit

section
variable {X : Cx}

theorem St.skip {nt nb base : Nat} {φ : Phi} {w : World} {M : Mem} {e : Env} {a : Act} (h : St lo nt nb base φ w M e a) (d : Tmp) : St lo nt nb base φ w M ((d, .un) :: e) (a.put (some d) undef) := by
  refine ⟨h.mem, h.dfr, h.low, by simp [Act.put, h.size], fun i => ?_⟩
  by_cases hi : d = i
  · subst hi
    simp only [Env.get, if_true, Act.put]
    show (a.tmps.setIfInBounds d undef).getD d undef = undef
    simp only [Array.getD, Array.size_setIfInBounds]
    split
    · rw [Array.getInternal_eq_getElem, Array.getElem_setIfInBounds_self]
    · rfl
  · simp only [Env.get, if_neg hi, Act.put]
    rw [show (a.tmps.setIfInBounds d undef).getD i undef = a.tmps.getD i undef from by
      simp only [Array.getD, Array.size_setIfInBounds]
      split
      · rw [Array.getInternal_eq_getElem, Array.getElem_setIfInBounds_ne _ hi]; rfl
      · rfl]
    exact h.slots i

theorem St.put' {nt nb base : Nat} {φ φ' : Phi} {w w' : World} {M M' : Mem} {e : Env} {a : Act} {v : V} {cv : Value} (h : St lo nt nb base φ w M e a) (hm : MemRel nb base φ' w' M') (hr : Rep φ' base w' v cv) (hv : Evo w φ w' φ') (d : Tmp) (hd : d < nt) :
    St lo nt nb base φ' w' M' ((d, v) :: e) (a.put (some d) cv) := by
  refine ⟨hm, h.dfr.evo hv, Nat.le_trans h.low hv.size, by simp [Act.put, h.size], fun i => ?_⟩
  by_cases hi : d = i
  · subst hi
    simp only [Env.get, if_true, Act.put]
    rw [show (a.tmps.setIfInBounds d cv).getD d undef = cv from by simp [Array.getD, h.size, hd]]
    exact hr
  · simp only [Env.get, if_neg hi, Act.put]
    rw [show (a.tmps.setIfInBounds d cv).getD i undef = a.tmps.getD i undef from by
      simp only [Array.getD, Array.size_setIfInBounds]
      split
      · rw [Array.getInternal_eq_getElem, Array.getElem_setIfInBounds_ne _ hi]; rfl
      · rfl]
    exact Rep.evo hv (h.slots i)

/-- A slot that holds a bool may be named by it. -/
theorem St.know {nt nb base : Nat} {φ : Phi} {w : World} {M : Mem} {e : Env} {a : Act} (h : St lo nt nb base φ w M e a) {d : Tmp} {b : Bool} (hd : Env.get e d = .bool b) : St lo nt nb base φ w M ((d, .bool b) :: e) a := by
  refine ⟨h.mem, h.dfr, h.low, h.size, fun i => ?_⟩
  by_cases hi : d = i
  · subst hi
    simp only [Env.get, if_true]
    rw [← hd]
    exact h.slots d
  · simp only [Env.get, if_neg hi]
    exact h.slots i

theorem br_iff (b : Bool) (p q : Prop) : br b p q ↔ (b = true → p) ∧ (b = false → q) := by
  cases b <;> simp [br]

/-- What the guard says of the model's own question. -/
theorem guardW_ok {nt nb base : Nat} {φ : Phi} {w : World} {M : Mem} {e : Env} {a : Act} (hst : St lo nt nb base φ w M e a) {ops : Array Oper} {o : Oper} {run skip : Env → Prop} (h : guardW ops o e run skip) :
    ∃ e', St lo nt nb base φ w M e' a ∧ ((Region.wanted o (yielded ops a.tmps) = true ∧ run e') ∨ (Region.wanted o (yielded ops a.tmps) = false ∧ skip e')) := by
  unfold guardW at h
  unfold Region.wanted
  cases hg : o.guard with
  | none => rw [hg] at h; exact ⟨e, hst, .inl ⟨rfl, h⟩⟩
  | some q =>
    obtain ⟨j, want⟩ := q
    rw [hg] at h
    simp only at h ⊢
    cases hd : (ops[j]?).bind (·.dst) with
    | none =>
      rw [hd] at h
      exact ⟨e, hst, .inr ⟨by simp [yielded, hd], h⟩⟩
    | some d =>
      rw [hd] at h
      simp only at h
      cases hx : Env.get e d with
      | lit u =>
        rw [hx] at h
        cases u with
        | bool b =>
          simp only at h
          have hs := hst.slots d
          rw [hx] at hs
          have hs : a.tmps.getD d undef = .bool b := hs
          have hget : a.tmps[d]? = some (.bool b) := by
            rw [Array.getD_eq_getD_getElem?] at hs
            cases hq : a.tmps[d]? with
            | none => rw [hq] at hs; simp [undef] at hs
            | some u => rw [hq] at hs; simpa using hs
          have hy : yielded ops a.tmps j = some b := by simp [yielded, hd, hget]
          rw [hy]
          have hk := hst.know hx
          rw [br_iff] at h
          cases b with
          | true =>
            have h := h.1 rfl
            cases want with
            | true => exact ⟨_, hk, .inl ⟨rfl, h⟩⟩
            | false => exact ⟨_, hk, .inr ⟨rfl, h⟩⟩
          | false =>
            have h := h.2 rfl
            cases want with
            | true => exact ⟨_, hk, .inr ⟨rfl, h⟩⟩
            | false => exact ⟨_, hk, .inl ⟨rfl, h⟩⟩
        | tuple u =>
          simp only at h
          have hs := hst.slots d
          rw [hx] at hs
          have hs : a.tmps.getD d undef = .tuple u := hs
          have hy : yielded ops a.tmps j = none := by
            simp only [yielded, hd, Option.bind_some]
            rw [Array.getD_eq_getD_getElem?] at hs
            cases hq : a.tmps[d]? with
            | none => rfl
            | some u' => rw [hq] at hs; simp only [Option.getD_some] at hs; rw [hs]
          rw [hy]
          exact ⟨e, hst, .inr ⟨rfl, h⟩⟩
        | _ => exact h.elim
      | _ => rw [hx] at h; exact h.elim

/-- The meaning behind: some abstract state of which Q holds. -/
def Lift (lo : Nat) (X : Cx) (base : Nat) (φ : Phi) (w : World) (Q : Exit → Env → Mem → Prop) : Exit → Act → World → Prop := fun x a' w' =>
  goodX x ∧ ∃ e' M' φ', Q x e' M' ∧ St lo X.nt X.nb base φ' w' M' e' a' ∧ Evo w φ w' φ'

theorem Lift.evo {base : Nat} {φ φ₁ : Phi} {w w₁ : World} {Q : Exit → Env → Mem → Prop} (hv : Evo w φ w₁ φ₁) {x : Exit} {a' : Act} {w' : World} (h : Lift lo X base φ₁ w₁ Q x a' w') : Lift lo X base φ w Q x a' w' := by
  obtain ⟨h1, e', M', φ', h2, h3, h4⟩ := h
  exact ⟨h1, e', M', φ', h2, h3, hv.trans h4⟩

theorem wpOps_mono {F : Fence} {n : Nat} {P : Program} {ops : Array Oper} {Q Q' : Exit → Act → World → Prop} (hq : ∀ e a w, Q e a w → Q' e a w) : ∀ (l : List Nat) (a : Act) (w : World), wpOpsIn F n P ops Q l a w → wpOpsIn F n P ops Q' l a w := by
  intro l
  induction l with
  | nil => exact fun a w h => hq _ _ _ h
  | cons i rest ih =>
    intro a w h
    simp only [wpOpsIn] at h ⊢
    split
    · next ho => rw [ho] at h; exact ih _ _ h
    · next o ho =>
      rw [ho] at h
      simp only at h
      split
      · next hw =>
        rw [if_pos hw] at h
        unfold Oper.wpIn at h ⊢
        refine ⟨h.1, ?_⟩
        have h := h.2
        generalize (o.semAt F.round a.eval).run P w = r at h ⊢
        cases r with
        | ok n w' =>
          cases n <;> simp only [Oper.uponIn] at h ⊢ <;> first
            | exact ih _ _ h
            | exact h.elim
            | exact ⟨h.1, RowsIn.mono h.2 (fun _ _ he => ih _ _ he)⟩
            | exact ⟨h.1, CallsIn.mono h.2 (fun e w'' he => by
                cases e with
                | returned v => exact ih _ _ he
                | panicked c => exact hq _ _ _ he
                | outgrown => obtain ⟨a₀, w₀, h2⟩ := he; exact ⟨a₀, w₀, hq _ _ _ h2⟩)⟩
            | exact ⟨h.1, RoundIn.mono h.2 (fun e w'' he => by
                cases e with
                | returned v => exact ih _ _ he
                | panicked c => exact hq _ _ _ he
                | outgrown => obtain ⟨a₀, w₀, h2⟩ := he; exact ⟨a₀, w₀, hq _ _ _ h2⟩)⟩
        | halt x w' => cases x <;> simp only [Oper.uponIn] at h ⊢ <;> first | exact hq _ _ _ h | exact h.elim
      · next hw => rw [if_neg hw] at h; exact ⟨h.1, ih _ _ h.2⟩

theorem opsW_ok {ro : Option Nat} (hT : TabOk X.P X.T) {ops : Array Oper} {Q : Exit → Env → Mem → Prop} : ∀ (l : List Oper) (k : Nat), (∀ j, l[j]? = ops[k + j]?) → (l.all (dstOk X.nt)) = true →
    ∀ (base : Nat) (φ : Phi) (w : World) (M : Mem) (e : Env) (a : Act), St lo X.nt X.nb base φ w M e a → opsW X ops l e M (Q .normal) → wpOpsIn (FZ ro) 0 X.P ops (Lift lo X base φ w Q) (List.range' k l.length) a w := by
  intro l
  induction l with
  | nil =>
    intro k _ _ base φ w M e a hst h
    exact ⟨trivial, e, M, φ, h, hst, Evo.refl w φ⟩
  | cons o r ih =>
    intro k hl hd base φ w M e a hst h
    simp only [List.all_cons, Bool.and_eq_true] at hd
    obtain ⟨hd1, hd2⟩ := hd
    have ho : ops[k]? = some o := by simpa using (hl 0).symm
    have hl' : ∀ j, r[j]? = ops[(k + 1) + j]? := fun j => by have := hl (j + 1); simpa [Nat.add_assoc, Nat.add_comm 1 j] using this
    rw [List.length_cons, List.range'_succ]
    simp only [wpOpsIn, ho]
    have hnm : φ M.length = none := by
      cases hq : φ M.length with
      | none => rfl
      | some r =>
        obtain ⟨o', h1, _⟩ := hst.mem.obj _ r hq
        simp [Mem.get, List.getD] at h1
    unfold opsW at h
    simp only [forceMo_eq, forceNo_eq] at h
    cases hdst : o.dst with
    | none =>
      rw [hdst] at h
      simp only at h
      obtain ⟨e', hst', hg⟩ := guardW_ok hst h
      rcases hg with ⟨hw, hrun⟩ | ⟨hw, hskip⟩
      · rw [if_pos hw]
        refine Oper.wpIn_mono ?_ (opW_ok hT hst' hnm hrun)
        rintro a' w' ⟨v, M', φ', cv, hK, hm', hr, hv, rfl⟩
        rw [hdst]
        exact wpOps_mono (fun _ _ _ hq => Lift.evo hv hq) _ _ _ (ih (k + 1) hl' hd2 base φ' w' M' e' _ (hst'.evo hv hm') hK)
      · rw [hw]
        simp only [Bool.false_eq_true, if_false]
        exact ⟨fun _ _ => trivial, ih (k + 1) hl' hd2 base φ w M e' _ hst' hskip⟩
    | some d =>
      rw [hdst] at h
      simp only at h
      have hdn : d < X.nt := by simp only [dstOk, hdst] at hd1; simpa using hd1
      obtain ⟨e', hst', hg⟩ := guardW_ok hst h
      rcases hg with ⟨hw, hrun⟩ | ⟨hw, hskip⟩
      · rw [if_pos hw]
        refine Oper.wpIn_mono ?_ (opW_ok hT hst' hnm hrun)
        rintro a' w' ⟨v, M', φ', cv, hK, hm', hr, hv, rfl⟩
        rw [hdst]
        exact wpOps_mono (fun _ _ _ hq => Lift.evo hv hq) _ _ _ (ih (k + 1) hl' hd2 base φ' w' M' _ _ (hst'.put' hm' hr hv d hdn) hK)
      · rw [hw]
        simp only [Bool.false_eq_true, if_false]
        exact ⟨fun _ _ => trivial, ih (k + 1) hl' hd2 base φ w M _ _ (hst'.skip d) hskip⟩

theorem AW_def {P : Program} {nt nb : Nat} {rd : Bool} {c : Code} {Q : Exit → Env → Mem → Prop} {e : Env} {M : Mem} : AW P nt nb rd c Q e M ↔
    ∀ (ro : Option Nat) (lo base : Nat) (φ : Phi) (w : World) (a : Act), (rd = false → ro = none) → St lo nt nb base φ w M e a →
      c.wpIn (FZ ro) 0 P (fun x a' w' => goodX x ∧ ∃ e' M' φ', Q x e' M' ∧ St lo nt nb base φ' w' M' e' a' ∧ Evo w φ w' φ') a w := by
  unfold AW
  exact Iff.rfl

/-- THE WALK'S PROP IS SOUND. -/
theorem awp_ok {ro : Option Nat} (hT : TabOk X.P X.T) (hro : X.rd = false → ro = none) : ∀ (c : Code) (Q : Exit → Env → Mem → Prop) (base : Nat) (φ : Phi) (w : World) (M : Mem) (e : Env) (a : Act), St lo X.nt X.nb base φ w M e a → awp X c Q e M → c.wpIn (FZ ro) 0 X.P (Lift lo X base φ w Q) a w := by
  intro c
  induction c with
  | skip => intro Q base φ w M e a hst h; exact wpIn_skip ⟨trivial, e, M, φ, h, hst, Evo.refl w φ⟩
  | label l => intro Q base φ w M e a hst h; exact wpIn_label ⟨trivial, e, M, φ, h, hst, Evo.refl w φ⟩
  | ret => intro Q base φ w M e a hst h; exact wpIn_ret ⟨trivial, e, M, φ, h, hst, Evo.refl w φ⟩
  | exit id => intro Q base φ w M e a hst h; exact wpIn_exit ⟨trivial, e, M, φ, h, hst, Evo.refl w φ⟩
  | seq c d ihc ihd =>
    intro Q base φ w M e a hst h
    refine wpIn_seq (wpIn_mono (ihc _ base φ w M e a hst h) ?_)
    rintro x a' w' ⟨hx, e', M', φ', hq, hst', hv⟩
    cases x with
    | normal => exact wpIn_mono (ihd Q base φ' w' M' e' a' hst' (show stepK _ _ _ from hq).out) (fun _ _ _ h => Lift.evo hv h)
    | panic c => exact hx.elim
    | outgrown => exact hx.elim
    | _ => exact ⟨trivial, e', M', φ', hq, hst', hv⟩
  | cond c t f iht ihf =>
    intro Q base φ w M e a hst h
    simp only [awp] at h
    have hc := hst.eval c
    cases hx : evA e c with
    | lit u =>
      rw [hx] at h hc
      have hc : a.eval c = u := hc
      cases u with
      | bool b =>
        simp only at h
        rw [br_iff] at h
        refine wpIn_cond hc ?_
        cases b with
        | true => exact iht Q base φ w M e a hst (h.1 rfl)
        | false => exact ihf Q base φ w M e a hst (h.2 rfl)
      | _ => exact h.elim
    | _ => rw [hx] at h; exact h.elim
  | block id c ih =>
    intro Q base φ w M e a hst h
    refine wpIn_block (wpIn_mono (ih _ base φ w M e a hst h) ?_)
    rintro x a' w' ⟨hx, e', M', φ', hq, hst', hv⟩
    cases x with
    | exit id' =>
      simp only [blockQ] at hq
      simp only [Exit.inBlock]
      cases hb : Nat.beq id' id with
      | true =>
        rw [hb] at hq
        rw [if_pos (Nat.eq_of_beq_eq_true hb)]
        exact ⟨trivial, e', M', φ', hq, hst', hv⟩
      | false =>
        rw [hb] at hq
        rw [if_neg (fun e => by rw [e, Nat.beq_refl] at hb; cases hb)]
        exact ⟨trivial, e', M', φ', hq, hst', hv⟩
    | panic c => exact hx.elim
    | outgrown => exact hx.elim
    | _ => exact ⟨trivial, e', M', φ', hq, hst', hv⟩
  | region id ops draw =>
    intro Q base φ w M e a hst h
    simp only [awp] at h
    cases draw with
    | true => exact AW_def.1 h ro lo base φ w a hro hst
    | false =>
      simp only [cond_false] at h
      cases hd : ops.toList.all (dstOk X.nt) with
      | false => rw [hd] at h; exact h.elim
      | true =>
        rw [hd] at h
        simp only [cond_true] at h
        have := opsW_ok (ro := ro) hT (ops := ops) ops.toList 0 (by simp) hd base φ w M e a hst h
        refine wpIn_region ?_
        rw [List.range_eq_range']
        simpa using this
  | loop c _ => intro Q base φ w M e a hst h; exact AW_def.1 h ro lo base φ w a hro hst
  | rangeFunc f ps as b _ _ => intro Q base φ w M e a hst h; exact AW_def.1 h ro lo base φ w a hro hst
  | scope c _ => intro Q base φ w M e a hst h; exact AW_def.1 h ro lo base φ w a hro hst
  | goto l => intro Q base φ w M e a hst h; exact AW_def.1 h ro lo base φ w a hro hst
  | refuse y => intro Q base φ w M e a hst h; exact AW_def.1 h ro lo base φ w a hro hst

theorem get_zip : ∀ (keys : List Nat) (e : Env) (i : Nat), Env.get (keys.zip (sel keys e)) i = if i ∈ keys then Env.get e i else .any := by
  intro keys e i
  induction keys with
  | nil => simp [Env.get]
  | cons k r ih =>
    simp only [sel, List.map_cons, List.zip_cons_cons, Env.get]
    by_cases hk : k = i
    · subst hk; simp
    · rw [if_neg hk]
      have : i ≠ k := fun e => hk e.symm
      simp only [List.mem_cons, this, false_or]
      exact ih

theorem St.sel {nt nb base : Nat} {φ : Phi} {w : World} {M : Mem} {e : Env} {a : Act} (h : St lo nt nb base φ w M e a) (keys : List Nat) : St lo nt nb base φ w M (keys.zip (Tri.sel keys e)) a := by
  refine ⟨h.mem, h.dfr, h.low, h.size, fun i => ?_⟩
  rw [get_zip]
  split
  · exact h.slots i
  · trivial

/-- A LOOP: what holds of the named slots and of memory at every round's head; a number that every round lowers. -/
theorem AW_loop (hT : TabOk X.P X.T) (keys : List Nat) (I : List V → Mem → Prop) (mu : List V → Mem → Nat) {c : Code} {Q : Exit → Env → Mem → Prop} {e : Env} {M : Mem} (h0 : I (sel keys e) M)
    (round : ∀ vs M, I vs M → awp X c (loopQ keys I mu (mu vs M) Q) (keys.zip vs) M) : AW X.P X.nt X.nb X.rd (.loop c) Q e M := by
  rw [AW_def]
  intro ro lo base φ w a hro hst
  refine wpIn_loop_ghost (fun n a' w' => ∃ vs M' φ', mu vs M' = n ∧ I vs M' ∧ St lo X.nt X.nb base φ' w' M' (keys.zip vs) a' ∧ Evo w φ w' φ') (mu (sel keys e) M)
    ⟨_, M, φ, rfl, h0, hst.sel keys, Evo.refl w φ⟩ ?_
  rintro n a' w' ⟨vs, M', φ', rfl, hI, hst', hv⟩
  refine wpIn_mono (awp_ok hT hro c _ base φ' w' M' _ a' hst' (round vs M' hI)) ?_
  rintro x a₁ w₁ ⟨hx, e₁, M₁, φ₁, hq, hst₁, hv₁⟩
  cases x with
  | normal => exact ⟨_, hq.2, _, M₁, φ₁, rfl, hq.1, hst₁.sel keys, hv.trans hv₁⟩
  | panic c => exact hx.elim
  | outgrown => exact hx.elim
  | _ => exact ⟨trivial, e₁, M₁, φ₁, hq, hst₁, hv.trans hv₁⟩

/-! ## A scope without a goto, cuts -/

theorem AW_of_awp (hT : TabOk X.P X.T) {c : Code} {Q : Exit → Env → Mem → Prop} {e : Env} {M : Mem} (h : awp X c Q e M) : AW X.P X.nt X.nb X.rd c Q e M :=
  AW_def.2 fun _ _ base φ w a hro hst => awp_ok hT hro c Q base φ w M e a hst h

theorem AW_mono {P : Program} {nt nb : Nat} {rd : Bool} {c : Code} {Q Q' : Exit → Env → Mem → Prop} {e : Env} {M : Mem} (hq : ∀ x e M, Q x e M → Q' x e M) (h : AW P nt nb rd c Q e M) : AW P nt nb rd c Q' e M := by
  rw [AW_def] at h ⊢
  intro ro lo base φ w a hro hst
  refine wpIn_mono (h ro lo base φ w a hro hst) ?_
  rintro x a' w' ⟨hx, e', M', φ', h1, h2, h3⟩
  exact ⟨hx, e', M', φ', hq _ _ _ h1, h2, h3⟩

/-! ## A function -/

theorem loadV_at {nb base : Nat} (hT : TabOk X.P X.T) {φ : Phi} {w : World} {M : Mem} (hm : MemRel nb base φ w M) {t : TypeId} {x v : V} {cx : Value} {p : Obl} (hx : Rep φ base w x cx) (h : loadV X.T M t x = some (p, v)) (hp : p.holds) :
    ∃ cv, ((do loadVar t (← asAddr cx)) : Sem Value).run X.P w = .ok cv w ∧ Rep φ base w v cv := by
  obtain ⟨cv, h1, h2⟩ := loadV_ok (P := X.P) hT hm hx h hp
  refine ⟨cv, ?_, h2⟩
  cases cx with
  | pointer a =>
    cases a with
    | some a => simpa [Instr.loadAt, Instr.sureAddr, asAddr] using h1
    | none => simp [Instr.loadAt, Instr.sureAddr] at h1
  | _ => simp [Instr.loadAt, Instr.sureAddr] at h1

def resSem (tmps : Array Value) : ResultVar → Sem Value
  | .tmp t => pure (tmps.getD t undef)
  | .cell a t => do loadVar t (← asAddr (tmps.getD a undef))

theorem resV_ok (hT : TabOk X.P X.T) {nt nb base : Nat} {φ : Phi} {w : World} {M : Mem} {e : Env} {a : Act} (hst : St lo nt nb base φ w M e a) {r : ResultVar} {p : Obl} {v : V} (h : resV X.T e M r = some (p, v)) (hp : p.holds) :
    ∃ cv, (resSem a.tmps r).run X.P w = .ok cv w ∧ Rep φ base w v cv := by
  cases r with
  | tmp t =>
    simp only [resV, Option.some.injEq, Prod.mk.injEq] at h
    obtain ⟨rfl, rfl⟩ := h
    exact ⟨_, rfl, hst.slots t⟩
  | cell s t => exact loadV_at hT hst.mem (hst.slots s) h hp

theorem results_eq (fn : Func) (tmps : Array Value) : results fn tmps = (do let vs ← fn.results.mapM (resSem tmps); pure (if h : vs.size = 1 then vs[0] else .tuple vs)) := by
  unfold results
  congr 1

theorem results_one {fn : Func} {r : ResultVar} (h : fn.results = #[r]) (tmps : Array Value) (P : Program) (w : World) {cv : Value} (hr : (resSem tmps r).run P w = .ok cv w) : (results fn tmps).run P w = .ok cv w := by
  rw [results_eq, h]
  simp [Array.mapM_eq_mapM_toList, hr]

theorem results_two {fn : Func} {r r' : ResultVar} (h : fn.results = #[r, r']) (tmps : Array Value) (P : Program) (w : World) {cv cv' : Value} (hr : (resSem tmps r).run P w = .ok cv w) (hr' : (resSem tmps r').run P w = .ok cv' w) :
    (results fn tmps).run P w = .ok (.tuple #[cv, cv']) w := by
  rw [results_eq, h]
  simp [Array.mapM_eq_mapM_toList, hr, hr']

theorem results_three {fn : Func} {r r' r2 : ResultVar} (h : fn.results = #[r, r', r2]) (tmps : Array Value) (P : Program) (w : World) {cv cv' cv2 : Value} (hr : (resSem tmps r).run P w = .ok cv w) (hr' : (resSem tmps r').run P w = .ok cv' w) (hr2 : (resSem tmps r2).run P w = .ok cv2 w) :
    (results fn tmps).run P w = .ok (.tuple #[cv, cv', cv2]) w := by
  rw [results_eq, h]
  simp [Array.mapM_eq_mapM_toList, hr, hr', hr2]

theorem retK_ok (hT : TabOk X.P X.T) {nt base : Nat} {φ : Phi} {w : World} {M : Mem} {e : Env} {a : Act} (hst : St lo nt 0 base φ w M e a) {fn : Func} {rs : List (ResultVar × TypeId)} (hrs : fn.results.toList = rs.map (·.1)) {Q : V → Prop} (h : retK X.T rs e M Q) :
    ∃ cv R, (results fn a.tmps).run X.P w = .ok cv w ∧ Q R ∧ Fr R ∧ Rep (fun _ => none) base w R cv := by
  unfold retK at h
  split at h
  · have hres : fn.results = #[] := by apply Array.toList_inj.1; exact hrs
    refine ⟨.tuple #[], V.un, ?_, h, trivial, rfl⟩
    rw [results_eq, hres]
    simp [Array.mapM_eq_mapM_toList]
  · next r t =>
    have hres : fn.results = #[r] := by apply Array.toList_inj.1; exact hrs
    cases hq : resV X.T e M r with
    | none => rw [hq] at h; exact h.elim
    | some q =>
      obtain ⟨p, v⟩ := q
      rw [hq] at h
      simp only at h
      rw [Obl.req_iff, Obl.req_iff] at h
      obtain ⟨hp, hv, hF, hQ⟩ := h
      obtain ⟨cv, h1, h2⟩ := resV_ok hT hst hq hp
      exact ⟨cv, _, results_one hres _ _ _ h1, hQ, hF, asInts_ok (ownval_ok hst.mem 4 h2 hv)⟩
  · next r t r' t' =>
    have hres : fn.results = #[r, r'] := by apply Array.toList_inj.1; exact hrs
    cases hq : resV X.T e M r with
    | none => rw [hq] at h; exact h.elim
    | some q =>
      obtain ⟨p, v⟩ := q
      cases hq' : resV X.T e M r' with
      | none => rw [hq, hq'] at h; exact h.elim
      | some q' =>
        obtain ⟨p', v'⟩ := q'
        rw [hq, hq'] at h
        simp only at h
        rw [Obl.req_iff, Obl.req_iff, Obl.req_iff, Obl.req_iff] at h
        obtain ⟨hp, hp', hv, hv', hF, hF', hQ⟩ := h
        obtain ⟨cv, h1, h2⟩ := resV_ok hT hst hq hp
        obtain ⟨cv', h1', h2'⟩ := resV_ok hT hst hq' hp'
        refine ⟨_, _, results_two hres _ _ _ h1 h1', hQ, ?_, #[cv, cv'], rfl, rfl, ?_⟩
        · intro k hk
          cases k with
          | zero => exact hF
          | succ k => exact hF'
        · intro k hk
          cases k with
          | zero => exact ⟨cv, rfl, asInts_ok (ownval_ok hst.mem 4 h2 hv)⟩
          | succ k =>
            have : k = 0 := by omega
            subst this
            exact ⟨cv', rfl, asInts_ok (ownval_ok hst.mem 4 h2' hv')⟩
  · next r t r' t' r2 t2 =>
    have hres : fn.results = #[r, r', r2] := by apply Array.toList_inj.1; exact hrs
    cases hq : resV X.T e M r with
    | none => rw [hq] at h; exact False.elim h
    | some q =>
      obtain ⟨p, v⟩ := q
      cases hq' : resV X.T e M r' with
      | none => rw [hq, hq'] at h; exact False.elim h
      | some q' =>
        obtain ⟨p', v'⟩ := q'
        cases hq2 : resV X.T e M r2 with
        | none => rw [hq, hq', hq2] at h; exact False.elim h
        | some q2 =>
          obtain ⟨p2, v2⟩ := q2
          rw [hq, hq', hq2] at h
          simp only at h
          rw [Obl.req_iff, Obl.req_iff, Obl.req_iff, Obl.req_iff, Obl.req_iff, Obl.req_iff] at h
          obtain ⟨hp, hp', hp2, hv, hv', hv2, hF, hF', hF2, hQ⟩ := h
          obtain ⟨cv, h1, h2⟩ := resV_ok hT hst hq hp
          obtain ⟨cv', h1', h2'⟩ := resV_ok hT hst hq' hp'
          obtain ⟨cv2, h12, h22⟩ := resV_ok hT hst hq2 hp2
          refine ⟨_, _, results_three hres _ _ _ h1 h1' h12, hQ, ?_, #[cv, cv', cv2], rfl, rfl, ?_⟩
          · intro k hk
            match k, hk with
            | 0, _ => exact hF
            | 1, _ => exact hF'
            | 2, _ => exact hF2
          · intro k hk
            match k, hk with
            | 0, _ => exact ⟨cv, rfl, asInts_ok (ownval_ok hst.mem 4 h2 hv)⟩
            | 1, _ => exact ⟨cv', rfl, asInts_ok (ownval_ok hst.mem 4 h2' hv')⟩
            | 2, _ => exact ⟨cv2, rfl, asInts_ok (ownval_ok hst.mem 4 h22 hv2)⟩
  · exact h.elim

/-- Nothing of it is said to be in the call's own memory. -/
def NoFr : V → Prop
  | .ints fr _ => fr = false
  | .seq fr _ _ f => fr = false ∧ ∀ j k, NoFr (f j k)
  | .at_ _ g _ => ∀ k, NoFr (g k)
  | .agg _ g => ∀ k, NoFr (g k)
  | .tup _ g => ∀ k, NoFr (g k)
  | .clo _ _ g => ∀ k, NoFr (g k)
  | .bnd _ _ g => ∀ k, NoFr (g k)
  | .ifc _ x => NoFr x
  | _ => True

theorem Rep_base {b b' : Nat} {φ : Phi} {w : World} : ∀ {x : V} {v : Value}, NoFr x → Rep φ b' w x v → Rep φ b w x v := by
  intro x
  induction x with
  | ints fr xs =>
    intro v hn hx
    have hn : fr = false := hn
    subst hn
    obtain ⟨A, cap, rfl, h1, h2, h4⟩ := hx
    refine ⟨A, cap, rfl, h1, h2, fun h => ?_⟩
    obtain ⟨b, off, rfl, g1, g2, g3⟩ := h4 h
    exact ⟨b, off, rfl, g1, fun h => (nomatch h), g3⟩
  | seq fr sz n f ih =>
    intro v hn hx
    obtain ⟨hn, hf⟩ := hn
    subst hn
    obtain ⟨A, cap, rfl, h1, h2, h3, h4⟩ := hx
    refine ⟨A, cap, rfl, h1, h2, h3, fun h => ?_⟩
    obtain ⟨b, off, rfl, g1, g2, g3⟩ := h4 h
    refine ⟨b, off, rfl, g1, fun h => (nomatch h), fun j o hj ho => ?_⟩
    obtain ⟨c, e1, e2, e3⟩ := g3 j o hj ho
    exact ⟨c, e1, e2, ih j o (hf j o) e3⟩
  | at_ sz g o ih =>
    intro v hn hx
    obtain ⟨b, off, rfl, h0, h1, h2⟩ := hx
    refine ⟨b, off, rfl, h0, h1, fun k hk => ?_⟩
    obtain ⟨c, e1, e2, e3⟩ := h2 k hk
    exact ⟨c, e1, e2, ih k (hn k) e3⟩
  | agg n g ih =>
    intro v hn hx
    obtain ⟨cs, rfl, h1, h2⟩ := hx
    exact ⟨cs, rfl, h1, fun i hi => by obtain ⟨c, e1, e2, e3⟩ := h2 i hi; exact ⟨c, e1, e2, ih i (hn i) e3⟩⟩
  | tup n g ih =>
    intro v hn hx
    obtain ⟨cs, rfl, h1, h2⟩ := hx
    exact ⟨cs, rfl, h1, fun i hi => by obtain ⟨c, e1, e2⟩ := h2 i hi; exact ⟨c, e1, ih i (hn i) e2⟩⟩
  | clo f n g ih =>
    intro v hn hx
    obtain ⟨cs, rfl, h1, h2⟩ := hx
    exact ⟨cs, rfl, h1, fun i hi => by obtain ⟨c, e1, e2⟩ := h2 i hi; exact ⟨c, e1, ih i (hn i) e2⟩⟩
  | bnd f n g ih =>
    intro v hn hx
    obtain ⟨cs, rfl, h1, h2⟩ := hx
    exact ⟨cs, rfl, h1, fun i hi => by obtain ⟨c, e1, e2⟩ := h2 i hi; exact ⟨c, e1, ih i (hn i) e2⟩⟩
  | ifc ty x ih =>
    intro v hn hx
    obtain ⟨u, rfl, h1⟩ := hx
    exact ⟨u, rfl, ih hn h1⟩
  | _ => exact fun _ h => h

/-! ## Marks are taken at a function's end -/

/-- Only blocks that hold no cells have turned. -/
theorem Rep.same {φ : Phi} {base : Nat} {w w' : World} (hc : ∀ a v, w.cell? a = some v → w'.cell? a = some v) (hs : w.heap.size ≤ w'.heap.size) : ∀ {x : V} {v : Value}, Rep φ base w x v → Rep φ base w' x v := by
  intro x
  induction x with
  | ints fr xs =>
    rintro v ⟨A, cap, rfl, h1, h2, h4⟩
    refine ⟨A, cap, rfl, h1, h2, fun hn => ?_⟩
    obtain ⟨b, off, rfl, g1, g2, g3⟩ := h4 hn
    exact ⟨b, off, rfl, g1, g2, fun j hj => hc _ _ (g3 j hj)⟩
  | seq fr sz n f ih =>
    rintro v ⟨A, cap, rfl, h1, h2, h3, h4⟩
    refine ⟨A, cap, rfl, h1, h2, h3, fun hn => ?_⟩
    obtain ⟨b, off, rfl, g1, g2, g3⟩ := h4 hn
    refine ⟨b, off, rfl, g1, g2, fun j o hj ho => ?_⟩
    obtain ⟨c, e1, e2, e3⟩ := g3 j o hj ho
    exact ⟨c, hc _ _ e1, e2, ih j o e3⟩
  | full xs =>
    rintro v ⟨A, rfl, h1, h4⟩
    refine ⟨A, rfl, h1, fun hn => ?_⟩
    obtain ⟨b, off, rfl, g1, g3⟩ := h4 hn
    exact ⟨b, off, rfl, g1, fun j hj => hc _ _ (g3 j hj)⟩
  | at_ sz g o ih =>
    rintro v ⟨b, off, rfl, h0, h1, h2⟩
    refine ⟨b, off, rfl, Nat.lt_of_lt_of_le h0 hs, h1, fun k hk => ?_⟩
    obtain ⟨c, e1, e2, e3⟩ := h2 k hk
    exact ⟨c, hc _ _ e1, e2, ih k e3⟩
  | agg n g ih =>
    rintro v ⟨cs, rfl, h1, h2⟩
    exact ⟨cs, rfl, h1, fun i hi => by obtain ⟨c, e1, e2, e3⟩ := h2 i hi; exact ⟨c, e1, e2, ih i e3⟩⟩
  | tup n g ih =>
    rintro v ⟨cs, rfl, h1, h2⟩
    exact ⟨cs, rfl, h1, fun i hi => by obtain ⟨c, e1, e2⟩ := h2 i hi; exact ⟨c, e1, ih i e2⟩⟩
  | clo f n g ih =>
    rintro v ⟨cs, rfl, h1, h2⟩
    exact ⟨cs, rfl, h1, fun i hi => by obtain ⟨c, e1, e2⟩ := h2 i hi; exact ⟨c, e1, ih i e2⟩⟩
  | bnd f n g ih =>
    rintro v ⟨cs, rfl, h1, h2⟩
    exact ⟨cs, rfl, h1, fun i hi => by obtain ⟨c, e1, e2⟩ := h2 i hi; exact ⟨c, e1, ih i e2⟩⟩
  | ifc ty x ih =>
    rintro v ⟨u, rfl, h1⟩
    exact ⟨u, rfl, ih h1⟩
  | _ => exact fun h => h

theorem cell_putObj {w : World} {D : Nat} {o o' : Obj} (hD : w.heap[D]? = some o) (ho : o.isCells = false) (a : Addr) (v : Value) (h : w.cell? a = some v) : (w.putObj D o').cell? a = some v := by
  by_cases e : a.block = D
  · exfalso
    unfold World.cell? at h
    rw [e, hD] at h
    cases o <;> simp_all [Obj.isCells]
  · rw [← h]
    exact World.cell?_of_block (World.putObj_heap_other e)

theorem St.putObj {nt nb base : Nat} {φ : Phi} {w : World} {M : Mem} {e : Env} {a : Act} {D : Nat} {o o' : Obj} {ds : List Deferred} (h : St lo nt nb base φ w M e a) (hD : w.heap[D]? = some o) (ho : o.isCells = false) (hn : notLive φ D) (hd : Dfr lo φ (w.putObj D o') ds) :
    St lo nt nb base φ (w.putObj D o') M e { a with defers := ds } := by
  have hr : ∀ {x : V} {v : Value}, Rep φ base w x v → Rep φ base (w.putObj D o') x v := fun hx => Rep.same (cell_putObj hD ho) (by simp) hx
  have hb : ∀ t r, φ t = some r → 0 < r.cap → (w.putObj D o').heap[r.g]? = w.heap[r.g]? := fun t r ht hp => World.putObj_heap_other (fun e => hn t r ht hp e)
  refine ⟨⟨fun t r ht => ?_, h.mem.inj, h.mem.own, by simpa using h.mem.le⟩, hd, by simpa using h.low, h.size, fun i => hr (h.slots i)⟩
  obtain ⟨ob, h1, h2⟩ := h.mem.obj t r ht
  refine ⟨ob, h1, h2.n, h2.ver, h2.sz, h2.e, h2.pos, h2.le, h2.max, fun hp => by simpa using h2.dom hp, ?_, fun hC hp => ?_⟩
  · have hs := h2.spec
    cases hc : ob.c with
    | loop st pend e' nt' ps as bd inf =>
      rw [hc] at hs
      obtain ⟨k1, k2, L, g1, g2, g3, g4, g5, g6, g7, g8⟩ := hs
      exact ⟨k1, k2, L, (hb t r ht k1).trans g1, g2, g3, g4, g5, g6, g7, fun i => hr (g8 i)⟩
    | kil => rw [hc] at hs; exact hs
    | _ => exact trivial
  · obtain ⟨cur, g1, g2, g3⟩ := h2.row hC hp
    refine ⟨cur, (hb t r ht hp).trans g1, g2, fun j k hj hk => ?_⟩
    obtain ⟨c, e1, e2, e3⟩ := g3 j k hj hk
    exact ⟨c, e1, e2, hr e3⟩

/-- What a function's end leaves behind the marks. -/
theorem marks_ok {P : Program} {fn : Func} {R : Ending → World → Prop} {nt nb base : Nat} {φ : Phi} {M : Mem} {e : Env} {tmps : Array Value} : ∀ (ds : List Deferred) (w : World), St lo nt nb base φ w M e ⟨tmps, ds⟩ →
    (∀ w', St lo nt nb base φ w' M e ⟨tmps, []⟩ → w'.os = w.os → w'.tape = w.tape → w'.output = w.output → w'.heap.size = w.heap.size → (∀ b, b < lo → w'.heap[b]? = w.heap[b]?) → (∀ b, ¬ notLive φ b → w'.heap[b]? = w.heap[b]?) → ∃ v, (results fn tmps).run P w' = .ok v w' ∧ R (.returned v) w') →
    LeavesInM Fence.wide 0 P fn tmps R ds .returning w
  | [], w, hst, h => h w hst rfl rfl rfl rfl (fun _ _ => rfl) (fun _ _ => rfl)
  | d :: ds, w, hst, h => by
    obtain ⟨⟨D, rfl, h2, h3, h4, h5⟩, h6⟩ := hst.dfr
    refine ⟨(fun h => nomatch h), .inl ⟨D, _, rfl, run_takeDeferred h3, ?_⟩⟩
    have hds : ∀ l : List Deferred, (∀ d' ∈ l, d' ≠ markD D) → Dfr lo φ w l → Dfr lo φ (w.putObj D (.deferred none)) l := by
      intro l
      induction l with
      | nil => exact fun _ _ => trivial
      | cons d' r ih =>
        rintro hne ⟨⟨D', e1, e2, e3, e4, e5⟩, e6⟩
        refine ⟨⟨D', e1, e2, ?_, e4, e5⟩, ih (fun x hx => hne x (List.mem_cons_of_mem _ hx)) e6⟩
        rw [World.putObj_heap_other (fun e => hne d' List.mem_cons_self (by rw [e1, e]))]
        exact e3
    refine marks_ok ds _ (hst.putObj h3 rfl h4 (hds ds h5 h6)) (fun w' hw' q1 q2 q3 q4 q5 q6 => h w' hw' q1 q2 q3 (by simpa using q4) (fun b hb => ?_) (fun b hb => ?_))
    · rw [q5 b hb, World.putObj_heap_other (by omega)]
    · rw [q6 b hb, World.putObj_heap_other (fun e => hb (by rw [e]; exact h4))]

/-- The slots at a function's start. -/
def envOf (xs : List V) : Env := (List.range xs.length).zip xs

theorem get_envOf (xs : List V) : ∀ (s : Nat) (i : Nat), Env.get ((List.range' s xs.length).zip xs) i = if s ≤ i then xs.getD (i - s) .any else .any := by
  induction xs with
  | nil => intro s i; simp [Env.get]
  | cons x r ih =>
    intro s i
    rw [List.length_cons, List.range'_succ, List.zip_cons_cons]
    simp only [Env.get]
    by_cases h : s = i
    · subst h; simp
    · rw [if_neg h, ih]
      by_cases hs : s + 1 ≤ i
      · rw [if_pos hs, if_pos (by omega), show i - s = (i - (s + 1)) + 1 from by omega]
        rfl
      · rw [if_neg hs, if_neg (by omega)]

def LenOk : V → Prop
  | .ints _ xs => (xs.length : Int) ≤ 9223372036854775807
  | .seq _ _ n _ => (n : Int) ≤ 9223372036854775807
  | _ => True

/-- A FUNCTION, from its code. -/
theorem APure_of (hT : TabOk X.P X.T) (hnb : X.nb = 0) {f : FuncId} {fn : Func} {c : Code} (hf : X.P.funcs[f]? = some fn) (hname : (fn.name == "runtime.NumGoroutine") = false) (hb : fn.body = some c) (hnt : fn.ntmps = X.nt) {rs : List (ResultVar × TypeId)}
    (hrs : fn.results.toList = rs.map (·.1)) {xs : List V} (hxs : xs.length ≤ X.nt) (hfr : ∀ x ∈ xs, NoFr x) {Q : V → Prop} (h : (∀ x ∈ xs, LenOk x) → awp X c (retQ X.T rs Q) (envOf xs) []) : APure X.P f xs Q := by
  unfold APure
  refine ⟨⟨fn, hf, hname, by rw [hb]; rfl⟩, fun w args hs hargs => ?_⟩
  have hlen : ∀ x ∈ xs, LenOk x := by
    intro x hx
    obtain ⟨i, hi, rfl⟩ := List.getElem_of_mem hx
    have hr := hargs i
    rw [show xs.getD i .any = xs[i] from by simp [List.getD, hi]] at hr
    cases hxx : xs[i] with
    | ints fr ys =>
      rw [hxx] at hr
      obtain ⟨A, cap, _, h1, h2, _⟩ := hr
      rw [maxLen_val] at h2
      simp only [LenOk]
      omega
    | seq fr sz n f =>
      rw [hxx] at hr
      obtain ⟨A, cap, _, h1, h2, _⟩ := hr
      rw [maxLen_val] at h2
      simp only [LenOk]
      omega
    | _ => trivial
  have hst : St w.heap.size X.nt X.nb w.heap.size (fun _ => none) w [] (envOf xs) { tmps := args ++ Array.replicate (fn.ntmps - args.size) undef, defers := [] } := by
    refine ⟨⟨fun t r h => (nomatch h), fun t t' r r' h => (nomatch h), fun t r h => (nomatch h), Nat.le_refl _⟩, trivial, Nat.le_refl _, by simp; omega, fun i => ?_⟩
    have hi := hargs i
    have e1 : Env.get (envOf xs) i = xs.getD i .any := by
      unfold envOf
      rw [List.range_eq_range', get_envOf]
      simp
    rw [e1]
    by_cases h : i < xs.length
    · have e2 : (args ++ Array.replicate (fn.ntmps - args.size) undef).getD i undef = args.getD i undef := by
        rw [Array.getD_eq_getD_getElem?, Array.getD_eq_getD_getElem?, Array.getElem?_append_left (by omega)]
      rw [e2]
      rw [show xs.getD i .any = xs[i] from by simp [List.getD, h]] at hi ⊢
      exact Rep_base (hfr _ (List.getElem_mem h)) hi
    · rw [show xs.getD i .any = .any from by simp only [List.getD]; rw [List.getElem?_eq_none (by omega)]; rfl]
      trivial
  refine callsIn_wide.1 (callsIn_of_wp_marks (n := 0) hf hb trivial (wpIn_mono (awp_ok (ro := none) (lo := w.heap.size) hT (fun _ => rfl) c _ _ _ w [] _ _ hst (h hlen)) ?_))
  rintro x a' w' ⟨hx, e', M', φ', hq, hst', hv⟩
  have fin : retK X.T rs e' M' Q → LeavesInM Fence.wide 0 X.P fn a'.tmps (fun e w' => ∃ v R, e = .returned v ∧ Q R ∧ Fr R ∧ Rep (fun _ => none) w.heap.size w' R v ∧ Evo w (fun _ => none) w' (fun _ => none)) a'.defers .returning w' := by
    intro hk
    refine marks_ok _ w' hst' (fun w2 hst2 q1 q2 q3 q4 q5 _ => ?_)
    rw [hnb] at hst2
    obtain ⟨cv, R, h1, h2, h3, h4⟩ := retK_ok hT hst2 hrs hk
    exact ⟨cv, h1, cv, R, rfl, h2, h3, h4, q1.trans hv.os, q2.trans hv.tape, q3.trans hv.output, by rw [q4]; exact hv.size, fun b hb hn => (q5 b hb).trans (hv.block b hb hn), fun t r h => (nomatch h), fun t r h => (nomatch h)⟩
  cases x with
  | normal => exact fin hq
  | ret => exact fin hq
  | panic c => exact hx.elim
  | outgrown => exact hx.elim
  | exit id => exact hq.elim
  | goto l => exact hq.elim

/-! ## For the walk's user -/

theorem br_dec {p : Prop} [Decidable p] {A B : Prop} (h1 : p → A) (h2 : ¬ p → B) : br (decide p) A B := by
  by_cases h : p
  · simp only [h, decide_true]; exact h1 h
  · simp only [h, decide_false]; exact h2 h
theorem br_mk {b : Bool} {A B : Prop} (h1 : b = true → A) (h2 : b = false → B) : br b A B := (br_iff b A B).2 ⟨h1, h2⟩
theorem br_eq {x y : Int} {A B : Prop} (h1 : x = y → A) (h2 : x ≠ y → B) : br (x == y) A B := br_mk (fun h => h1 (by simpa using h)) (fun h => h2 (by simpa using h))
theorem br_ne {x y : Int} {A B : Prop} (h1 : x ≠ y → A) (h2 : x = y → B) : br (x != y) A B := br_mk (fun h => h1 (by simpa using h)) (fun h => h2 (by simpa using h))
theorem br_not {b : Bool} {A B : Prop} (h : br b B A) : br (!b) A B := by cases b <;> exact h
theorem inr {x : Int} (h : -9223372036854775808 ≤ x ∧ x ≤ 9223372036854775807) : InR x := by unfold InR; exact h
theorem APure.mono {P : Program} {f : FuncId} {xs : List V} {Q Q' : V → Prop} (h : APure P f xs Q) (hq : ∀ R, Q R → Q' R) : APure P f xs Q' := by
  unfold APure at h ⊢
  refine ⟨h.1, fun w args hs ha => (h.2 w args hs ha).mono fun e w' hr => ?_⟩
  obtain ⟨v, R, h1, h2, h3⟩ := hr
  exact ⟨v, R, h1, hq R h2, h3⟩
theorem APure.to {P : Program} {f : FuncId} {xs : List V} {r : V} {Q : V → Prop} (h : APure P f xs (fun R => R = r)) (hq : Q r) : APure P f xs Q := h.mono fun R hR => by rw [hR]; exact hq

end
end Go.Tri
