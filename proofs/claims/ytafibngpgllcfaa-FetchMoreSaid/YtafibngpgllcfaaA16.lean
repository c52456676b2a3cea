/-
  SOUNDNESS, NINTH PART: regions in the text's order, code, loops, functions.
-/
import Derived.Test.YtafibngpgllcfaaA11
namespace Go.Tri
variable {lo : Nat}
open Go.RowKit

section
variable {X : Cx}

theorem St.skip {nt nb base : Nat} {φ : Phi} {w : World} {M : Mem} {e : Env} {a : Act} (h : St lo nt nb base φ w M e a) (d : Tmp) : St lo nt nb base φ w M ((d, .un) :: e) (a.put (some d) undef) := by
  refine ⟨h.mem, h.dfr, h.low, by simp [Act.put, h.size], fun i => ?_⟩
  by_cases hi : d = i
  · subst hi
    simp only [Env.get, if_true, Act.put]
    show (a.tmps.setIfInBounds d undef).getD d undef = undef
    simp only [Array.getD, Array.size_setIfInBounds]
    split
    · rw [Array.getInternal_eq_getElem, Array.getElem_setIfInBounds_self]
    · rfl
  · simp only [Env.get, if_neg hi, Act.put]
    rw [show (a.tmps.setIfInBounds d undef).getD i undef = a.tmps.getD i undef from by
      simp only [Array.getD, Array.size_setIfInBounds]
      split
      · rw [Array.getInternal_eq_getElem, Array.getElem_setIfInBounds_ne _ hi]; rfl
      · rfl]
    exact h.slots i

theorem St.put' {nt nb base : Nat} {φ φ' : Phi} {w w' : World} {M M' : Mem} {e : Env} {a : Act} {v : V} {cv : Value} (h : St lo nt nb base φ w M e a) (hm : MemRel nb base φ' w' M') (hr : Rep φ' base w' v cv) (hv : Evo w φ w' φ') (d : Tmp) (hd : d < nt) :
    St lo nt nb base φ' w' M' ((d, v) :: e) (a.put (some d) cv) := by
  refine ⟨hm, h.dfr.evo hv, Nat.le_trans h.low hv.size, by simp [Act.put, h.size], fun i => ?_⟩
  by_cases hi : d = i
  · subst hi
    simp only [Env.get, if_true, Act.put]
    rw [show (a.tmps.setIfInBounds d cv).getD d undef = cv from by simp [Array.getD, h.size, hd]]
    exact hr
  · simp only [Env.get, if_neg hi, Act.put]
    rw [show (a.tmps.setIfInBounds d cv).getD i undef = a.tmps.getD i undef from by
      simp only [Array.getD, Array.size_setIfInBounds]
      split
      · rw [Array.getInternal_eq_getElem, Array.getElem_setIfInBounds_ne _ hi]; rfl
      · rfl]
    exact Rep.evo hv (h.slots i)

/-- A slot that holds a bool may be named by it. -/
theorem St.know {nt nb base : Nat} {φ : Phi} {w : World} {M : Mem} {e : Env} {a : Act} (h : St lo nt nb base φ w M e a) {d : Tmp} {b : Bool} (hd : Env.get e d = .bool b) : St lo nt nb base φ w M ((d, .bool b) :: e) a := by
  refine ⟨h.mem, h.dfr, h.low, h.size, fun i => ?_⟩
  by_cases hi : d = i
  · subst hi
    simp only [Env.get, if_true]
    rw [← hd]
    exact h.slots d
  · simp only [Env.get, if_neg hi]
    exact h.slots i

theorem br_iff (b : Bool) (p q : Prop) : br b p q ↔ (b = true → p) ∧ (b = false → q) := by
  cases b <;> simp [br]

/-- What the guard says of the model's own question. -/
theorem guardW_ok {nt nb base : Nat} {φ : Phi} {w : World} {M : Mem} {e : Env} {a : Act} (hst : St lo nt nb base φ w M e a) {ops : Array Oper} {o : Oper} {run skip : Env → Prop} (h : guardW ops o e run skip) :
    ∃ e', St lo nt nb base φ w M e' a ∧ ((Region.wanted o (yielded ops a.tmps) = true ∧ run e') ∨ (Region.wanted o (yielded ops a.tmps) = false ∧ skip e')) := by
  unfold guardW at h
  unfold Region.wanted
  cases hg : o.guard with
  | none => rw [hg] at h; exact ⟨e, hst, .inl ⟨rfl, h⟩⟩
  | some q =>
    obtain ⟨j, want⟩ := q
    rw [hg] at h
    simp only at h ⊢
    cases hd : (ops[j]?).bind (·.dst) with
    | none =>
      rw [hd] at h
      exact ⟨e, hst, .inr ⟨by simp [yielded, hd], h⟩⟩
    | some d =>
      rw [hd] at h
      simp only at h
      cases hx : Env.get e d with
      | lit u =>
        rw [hx] at h
        cases u with
        | bool b =>
          simp only at h
          have hs := hst.slots d
          rw [hx] at hs
          have hs : a.tmps.getD d undef = .bool b := hs
          have hget : a.tmps[d]? = some (.bool b) := by
            rw [Array.getD_eq_getD_getElem?] at hs
            cases hq : a.tmps[d]? with
            | none => rw [hq] at hs; simp [undef] at hs
            | some u => rw [hq] at hs; simpa using hs
          have hy : yielded ops a.tmps j = some b := by simp [yielded, hd, hget]
          rw [hy]
          have hk := hst.know hx
          rw [br_iff] at h
          cases b with
          | true =>
            have h := h.1 rfl
            cases want with
            | true => exact ⟨_, hk, .inl ⟨rfl, h⟩⟩
            | false => exact ⟨_, hk, .inr ⟨rfl, h⟩⟩
          | false =>
            have h := h.2 rfl
            cases want with
            | true => exact ⟨_, hk, .inr ⟨rfl, h⟩⟩
            | false => exact ⟨_, hk, .inl ⟨rfl, h⟩⟩
        | tuple u =>
          simp only at h
          have hs := hst.slots d
          rw [hx] at hs
          have hs : a.tmps.getD d undef = .tuple u := hs
          have hy : yielded ops a.tmps j = none := by
            simp only [yielded, hd, Option.bind_some]
            rw [Array.getD_eq_getD_getElem?] at hs
            cases hq : a.tmps[d]? with
            | none => rfl
            | some u' => rw [hq] at hs; simp only [Option.getD_some] at hs; rw [hs]
          rw [hy]
          exact ⟨e, hst, .inr ⟨rfl, h⟩⟩
        | _ => exact h.elim
      | _ => rw [hx] at h; exact h.elim

/-- The meaning behind: some abstract state of which Q holds. -/
def Lift (lo : Nat) (X : Cx) (base : Nat) (φ : Phi) (w : World) (Q : Exit → Env → Mem → Prop) : Exit → Act → World → Prop := fun x a' w' =>
  goodX x ∧ ∃ e' M' φ', Q x e' M' ∧ St lo X.nt X.nb base φ' w' M' e' a' ∧ Evo w φ w' φ'

theorem Lift.evo {base : Nat} {φ φ₁ : Phi} {w w₁ : World} {Q : Exit → Env → Mem → Prop} (hv : Evo w φ w₁ φ₁) {x : Exit} {a' : Act} {w' : World} (h : Lift lo X base φ₁ w₁ Q x a' w') : Lift lo X base φ w Q x a' w' := by
  obtain ⟨h1, e', M', φ', h2, h3, h4⟩ := h
  exact ⟨h1, e', M', φ', h2, h3, hv.trans h4⟩

theorem wpOps_mono {F : Fence} {n : Nat} {P : Program} {ops : Array Oper} {Q Q' : Exit → Act → World → Prop} (hq : ∀ e a w, Q e a w → Q' e a w) : ∀ (l : List Nat) (a : Act) (w : World), wpOpsIn F n P ops Q l a w → wpOpsIn F n P ops Q' l a w := by
  intro l
  induction l with
  | nil => exact fun a w h => hq _ _ _ h
  | cons i rest ih =>
    intro a w h
    simp only [wpOpsIn] at h ⊢
    split
    · next ho => rw [ho] at h; exact ih _ _ h
    · next o ho =>
      rw [ho] at h
      simp only at h
      split
      · next hw =>
        rw [if_pos hw] at h
        unfold Oper.wpIn at h ⊢
        refine ⟨h.1, ?_⟩
        have h := h.2
        generalize (o.semAt F.round a.eval).run P w = r at h ⊢
        cases r with
        | ok n w' =>
          cases n <;> simp only [Oper.uponIn] at h ⊢ <;> first
            | exact ih _ _ h
            | exact h.elim
            | exact ⟨h.1, RowsIn.mono h.2 (fun _ _ he => ih _ _ he)⟩
            | exact ⟨h.1, CallsIn.mono h.2 (fun e w'' he => by
                cases e with
                | returned v => exact ih _ _ he
                | panicked c => exact hq _ _ _ he
                | outgrown => obtain ⟨a₀, w₀, h2⟩ := he; exact ⟨a₀, w₀, hq _ _ _ h2⟩)⟩
            | exact ⟨h.1, RoundIn.mono h.2 (fun e w'' he => by
                cases e with
                | returned v => exact ih _ _ he
                | panicked c => exact hq _ _ _ he
                | outgrown => obtain ⟨a₀, w₀, h2⟩ := he; exact ⟨a₀, w₀, hq _ _ _ h2⟩)⟩
        | halt x w' => cases x <;> simp only [Oper.uponIn] at h ⊢ <;> first | exact hq _ _ _ h | exact h.elim
      · next hw => rw [if_neg hw] at h; exact ⟨h.1, ih _ _ h.2⟩

theorem opsW_ok {ro : Option Nat} (hT : TabOk X.P X.T) {ops : Array Oper} {Q : Exit → Env → Mem → Prop} : ∀ (l : List Oper) (k : Nat), (∀ j, l[j]? = ops[k + j]?) → (l.all (dstOk X.nt)) = true →
    ∀ (base : Nat) (φ : Phi) (w : World) (M : Mem) (e : Env) (a : Act), St lo X.nt X.nb base φ w M e a → opsW X ops l e M (Q .normal) → wpOpsIn (FZ ro) 0 X.P ops (Lift lo X base φ w Q) (List.range' k l.length) a w := by
  intro l
  induction l with
  | nil =>
    intro k _ _ base φ w M e a hst h
    exact ⟨trivial, e, M, φ, h, hst, Evo.refl w φ⟩
  | cons o r ih =>
    intro k hl hd base φ w M e a hst h
    simp only [List.all_cons, Bool.and_eq_true] at hd
    obtain ⟨hd1, hd2⟩ := hd
    have ho : ops[k]? = some o := by simpa using (hl 0).symm
    have hl' : ∀ j, r[j]? = ops[(k + 1) + j]? := fun j => by have := hl (j + 1); simpa [Nat.add_assoc, Nat.add_comm 1 j] using this
    rw [List.length_cons, List.range'_succ]
    simp only [wpOpsIn, ho]
    have hnm : φ M.length = none := by
      cases hq : φ M.length with
      | none => rfl
      | some r =>
        obtain ⟨o', h1, _⟩ := hst.mem.obj _ r hq
        simp [Mem.get, List.getD] at h1
    unfold opsW at h
    simp only [forceMo_eq, forceNo_eq] at h
    cases hdst : o.dst with
    | none =>
      rw [hdst] at h
      simp only at h
      obtain ⟨e', hst', hg⟩ := guardW_ok hst h
      rcases hg with ⟨hw, hrun⟩ | ⟨hw, hskip⟩
      · rw [if_pos hw]
        refine Oper.wpIn_mono ?_ (opW_ok hT hst' hnm hrun)
        rintro a' w' ⟨v, M', φ', cv, hK, hm', hr, hv, rfl⟩
        rw [hdst]
        exact wpOps_mono (fun _ _ _ hq => Lift.evo hv hq) _ _ _ (ih (k + 1) hl' hd2 base φ' w' M' e' _ (hst'.evo hv hm') hK)
      · rw [hw]
        simp only [Bool.false_eq_true, if_false]
        exact ⟨fun _ _ => trivial, ih (k + 1) hl' hd2 base φ w M e' _ hst' hskip⟩
    | some d =>
      rw [hdst] at h
      simp only at h
      have hdn : d < X.nt := by simp only [dstOk, hdst] at hd1; simpa using hd1
      obtain ⟨e', hst', hg⟩ := guardW_ok hst h
      rcases hg with ⟨hw, hrun⟩ | ⟨hw, hskip⟩
      · rw [if_pos hw]
        refine Oper.wpIn_mono ?_ (opW_ok hT hst' hnm hrun)
        rintro a' w' ⟨v, M', φ', cv, hK, hm', hr, hv, rfl⟩
        rw [hdst]
        exact wpOps_mono (fun _ _ _ hq => Lift.evo hv hq) _ _ _ (ih (k + 1) hl' hd2 base φ' w' M' _ _ (hst'.put' hm' hr hv d hdn) hK)
      · rw [hw]
        simp only [Bool.false_eq_true, if_false]
        exact ⟨fun _ _ => trivial, ih (k + 1) hl' hd2 base φ w M _ _ (hst'.skip d) hskip⟩

theorem AW_def {P : Program} {nt nb : Nat} {rd : Bool} {c : Code} {Q : Exit → Env → Mem → Prop} {e : Env} {M : Mem} : AW P nt nb rd c Q e M ↔
    ∀ (ro : Option Nat) (lo base : Nat) (φ : Phi) (w : World) (a : Act), (rd = false → ro = none) → St lo nt nb base φ w M e a →
      c.wpIn (FZ ro) 0 P (fun x a' w' => goodX x ∧ ∃ e' M' φ', Q x e' M' ∧ St lo nt nb base φ' w' M' e' a' ∧ Evo w φ w' φ') a w := by
  unfold AW
  exact Iff.rfl

/-- THE WALK'S PROP IS SOUND. -/
theorem awp_ok {ro : Option Nat} (hT : TabOk X.P X.T) (hro : X.rd = false → ro = none) : ∀ (c : Code) (Q : Exit → Env → Mem → Prop) (base : Nat) (φ : Phi) (w : World) (M : Mem) (e : Env) (a : Act), St lo X.nt X.nb base φ w M e a → awp X c Q e M → c.wpIn (FZ ro) 0 X.P (Lift lo X base φ w Q) a w := by
  intro c
  induction c with
  | skip => intro Q base φ w M e a hst h; exact wpIn_skip ⟨trivial, e, M, φ, h, hst, Evo.refl w φ⟩
  | label l => intro Q base φ w M e a hst h; exact wpIn_label ⟨trivial, e, M, φ, h, hst, Evo.refl w φ⟩
  | ret => intro Q base φ w M e a hst h; exact wpIn_ret ⟨trivial, e, M, φ, h, hst, Evo.refl w φ⟩
  | exit id => intro Q base φ w M e a hst h; exact wpIn_exit ⟨trivial, e, M, φ, h, hst, Evo.refl w φ⟩
  | seq c d ihc ihd =>
    intro Q base φ w M e a hst h
    refine wpIn_seq (wpIn_mono (ihc _ base φ w M e a hst h) ?_)
    rintro x a' w' ⟨hx, e', M', φ', hq, hst', hv⟩
    cases x with
    | normal => exact wpIn_mono (ihd Q base φ' w' M' e' a' hst' (show stepK _ _ _ from hq).out) (fun _ _ _ h => Lift.evo hv h)
    | panic c => exact hx.elim
    | outgrown => exact hx.elim
    | _ => exact ⟨trivial, e', M', φ', hq, hst', hv⟩
  | cond c t f iht ihf =>
    intro Q base φ w M e a hst h
    simp only [awp] at h
    have hc := hst.eval c
    cases hx : evA e c with
    | lit u =>
      rw [hx] at h hc
      have hc : a.eval c = u := hc
      cases u with
      | bool b =>
        simp only at h
        rw [br_iff] at h
        refine wpIn_cond hc ?_
        cases b with
        | true => exact iht Q base φ w M e a hst (h.1 rfl)
        | false => exact ihf Q base φ w M e a hst (h.2 rfl)
      | _ => exact h.elim
    | _ => rw [hx] at h; exact h.elim
  | block id c ih =>
    intro Q base φ w M e a hst h
    refine wpIn_block (wpIn_mono (ih _ base φ w M e a hst h) ?_)
    rintro x a' w' ⟨hx, e', M', φ', hq, hst', hv⟩
    cases x with
    | exit id' =>
      simp only [blockQ] at hq
      simp only [Exit.inBlock]
      cases hb : Nat.beq id' id with
      | true =>
        rw [hb] at hq
        rw [if_pos (Nat.eq_of_beq_eq_true hb)]
        exact ⟨trivial, e', M', φ', hq, hst', hv⟩
      | false =>
        rw [hb] at hq
        rw [if_neg (fun e => by rw [e, Nat.beq_refl] at hb; cases hb)]
        exact ⟨trivial, e', M', φ', hq, hst', hv⟩
    | panic c => exact hx.elim
    | outgrown => exact hx.elim
    | _ => exact ⟨trivial, e', M', φ', hq, hst', hv⟩
  | region id ops draw =>
    intro Q base φ w M e a hst h
    simp only [awp] at h
    cases draw with
    | true => exact AW_def.1 h ro lo base φ w a hro hst
    | false =>
      simp only [cond_false] at h
      cases hd : ops.toList.all (dstOk X.nt) with
      | false => rw [hd] at h; exact h.elim
      | true =>
        rw [hd] at h
        simp only [cond_true] at h
        have := opsW_ok (ro := ro) hT (ops := ops) ops.toList 0 (by simp) hd base φ w M e a hst h
        refine wpIn_region ?_
        rw [List.range_eq_range']
        simpa using this
  | loop c _ => intro Q base φ w M e a hst h; exact AW_def.1 h ro lo base φ w a hro hst
  | rangeFunc f ps as b _ _ => intro Q base φ w M e a hst h; exact AW_def.1 h ro lo base φ w a hro hst
  | scope c _ => intro Q base φ w M e a hst h; exact AW_def.1 h ro lo base φ w a hro hst
  | goto l => intro Q base φ w M e a hst h; exact AW_def.1 h ro lo base φ w a hro hst
  | refuse y => intro Q base φ w M e a hst h; exact AW_def.1 h ro lo base φ w a hro hst

theorem get_zip : ∀ (keys : List Nat) (e : Env) (i : Nat), Env.get (keys.zip (sel keys e)) i = if i ∈ keys then Env.get e i else .any := by
  intro keys e i
  induction keys with
  | nil => simp [Env.get]
  | cons k r ih =>
    simp only [sel, List.map_cons, List.zip_cons_cons, Env.get]
    by_cases hk : k = i
    · subst hk; simp
    · rw [if_neg hk]
      have : i ≠ k := fun e => hk e.symm
      simp only [List.mem_cons, this, false_or]
      exact ih

theorem St.sel {nt nb base : Nat} {φ : Phi} {w : World} {M : Mem} {e : Env} {a : Act} (h : St lo nt nb base φ w M e a) (keys : List Nat) : St lo nt nb base φ w M (keys.zip (Tri.sel keys e)) a := by
  refine ⟨h.mem, h.dfr, h.low, h.size, fun i => ?_⟩
  rw [get_zip]
  split
  · exact h.slots i
  · trivial

/-- A LOOP: what holds of the named slots and of memory at every round's head; a number that every round lowers. -/
theorem AW_loop (hT : TabOk X.P X.T) (keys : List Nat) (I : List V → Mem → Prop) (mu : List V → Mem → Nat) {c : Code} {Q : Exit → Env → Mem → Prop} {e : Env} {M : Mem} (h0 : I (sel keys e) M)
    (round : ∀ vs M, I vs M → awp X c (loopQ keys I mu (mu vs M) Q) (keys.zip vs) M) : AW X.P X.nt X.nb X.rd (.loop c) Q e M := by
  rw [AW_def]
  intro ro lo base φ w a hro hst
  refine wpIn_loop_ghost (fun n a' w' => ∃ vs M' φ', mu vs M' = n ∧ I vs M' ∧ St lo X.nt X.nb base φ' w' M' (keys.zip vs) a' ∧ Evo w φ w' φ') (mu (sel keys e) M)
    ⟨_, M, φ, rfl, h0, hst.sel keys, Evo.refl w φ⟩ ?_
  rintro n a' w' ⟨vs, M', φ', rfl, hI, hst', hv⟩
  refine wpIn_mono (awp_ok hT hro c _ base φ' w' M' _ a' hst' (round vs M' hI)) ?_
  rintro x a₁ w₁ ⟨hx, e₁, M₁, φ₁, hq, hst₁, hv₁⟩
  cases x with
  | normal => exact ⟨_, hq.2, _, M₁, φ₁, rfl, hq.1, hst₁.sel keys, hv.trans hv₁⟩
  | panic c => exact hx.elim
  | outgrown => exact hx.elim
  | _ => exact ⟨trivial, e₁, M₁, φ₁, hq, hst₁, hv.trans hv₁⟩

/-! ## A scope without a goto, cuts -/

theorem AW_of_awp (hT : TabOk X.P X.T) {c : Code} {Q : Exit → Env → Mem → Prop} {e : Env} {M : Mem} (h : awp X c Q e M) : AW X.P X.nt X.nb X.rd c Q e M :=
  AW_def.2 fun _ _ base φ w a hro hst => awp_ok hT hro c Q base φ w M e a hst h

theorem AW_mono {P : Program} {nt nb : Nat} {rd : Bool} {c : Code} {Q Q' : Exit → Env → Mem → Prop} {e : Env} {M : Mem} (hq : ∀ x e M, Q x e M → Q' x e M) (h : AW P nt nb rd c Q e M) : AW P nt nb rd c Q' e M := by
  rw [AW_def] at h ⊢
  intro ro lo base φ w a hro hst
  refine wpIn_mono (h ro lo base φ w a hro hst) ?_
  rintro x a' w' ⟨hx, e', M', φ', h1, h2, h3⟩
  exact ⟨hx, e', M', φ', hq _ _ _ h1, h2, h3⟩

/-! ## A function -/

theorem loadV_at {nb base : Nat} (hT : TabOk X.P X.T) {φ : Phi} {w : World} {M : Mem} (hm : MemRel nb base φ w M) {t : TypeId} {x v : V} {cx : Value} {p : Obl} (hx : Rep φ base w x cx) (h : loadV X.T M t x = some (p, v)) (hp : p.holds) :
    ∃ cv, ((do loadVar t (← asAddr cx)) : Sem Value).run X.P w = .ok cv w ∧ Rep φ base w v cv := by
  obtain ⟨cv, h1, h2⟩ := loadV_ok (P := X.P) hT hm hx h hp
  refine ⟨cv, ?_, h2⟩
  cases cx with
  | pointer a =>
    cases a with
    | some a => simpa [Instr.loadAt, Instr.sureAddr, asAddr] using h1
    | none => simp [Instr.loadAt, Instr.sureAddr] at h1
  | _ => simp [Instr.loadAt, Instr.sureAddr] at h1

def resSem (tmps : Array Value) : ResultVar → Sem Value
  | .tmp t => pure (tmps.getD t undef)
  | .cell a t => do loadVar t (← asAddr (tmps.getD a undef))

theorem resV_ok (hT : TabOk X.P X.T) {nt nb base : Nat} {φ : Phi} {w : World} {M : Mem} {e : Env} {a : Act} (hst : St lo nt nb base φ w M e a) {r : ResultVar} {p : Obl} {v : V} (h : resV X.T e M r = some (p, v)) (hp : p.holds) :
    ∃ cv, (resSem a.tmps r).run X.P w = .ok cv w ∧ Rep φ base w v cv := by
  cases r with
  | tmp t =>
    simp only [resV, Option.some.injEq, Prod.mk.injEq] at h
    obtain ⟨rfl, rfl⟩ := h
    exact ⟨_, rfl, hst.slots t⟩
  | cell s t => exact loadV_at hT hst.mem (hst.slots s) h hp

theorem results_eq (fn : Func) (tmps : Array Value) : results fn tmps = (do let vs ← fn.results.mapM (resSem tmps); pure (if h : vs.size = 1 then vs[0] else .tuple vs)) := by
  unfold results
  congr 1

theorem results_one {fn : Func} {r : ResultVar} (h : fn.results = #[r]) (tmps : Array Value) (P : Program) (w : World) {cv : Value} (hr : (resSem tmps r).run P w = .ok cv w) : (results fn tmps).run P w = .ok cv w := by
  rw [results_eq, h]
  simp [Array.mapM_eq_mapM_toList, hr]

theorem results_two {fn : Func} {r r' : ResultVar} (h : fn.results = #[r, r']) (tmps : Array Value) (P : Program) (w : World) {cv cv' : Value} (hr : (resSem tmps r).run P w = .ok cv w) (hr' : (resSem tmps r').run P w = .ok cv' w) :
    (results fn tmps).run P w = .ok (.tuple #[cv, cv']) w := by
  rw [results_eq, h]
  simp [Array.mapM_eq_mapM_toList, hr, hr']

theorem results_three {fn : Func} {r r' r2 : ResultVar} (h : fn.results = #[r, r', r2]) (tmps : Array Value) (P : Program) (w : World) {cv cv' cv2 : Value} (hr : (resSem tmps r).run P w = .ok cv w) (hr' : (resSem tmps r').run P w = .ok cv' w) (hr2 : (resSem tmps r2).run P w = .ok cv2 w) :
    (results fn tmps).run P w = .ok (.tuple #[cv, cv', cv2]) w := by
  rw [results_eq, h]
  simp [Array.mapM_eq_mapM_toList, hr, hr', hr2]

theorem retK_ok (hT : TabOk X.P X.T) {nt base : Nat} {φ : Phi} {w : World} {M : Mem} {e : Env} {a : Act} (hst : St lo nt 0 base φ w M e a) {fn : Func} {rs : List (ResultVar × TypeId)} (hrs : fn.results.toList = rs.map (·.1)) {Q : V → Prop} (h : retK X.T rs e M Q) :
    ∃ cv R, (results fn a.tmps).run X.P w = .ok cv w ∧ Q R ∧ Fr R ∧ Rep (fun _ => none) base w R cv := by
  unfold retK at h
  split at h
  · have hres : fn.results = #[] := by apply Array.toList_inj.1; exact hrs
    refine ⟨.tuple #[], V.un, ?_, h, trivial, rfl⟩
    rw [results_eq, hres]
    simp [Array.mapM_eq_mapM_toList]
  · next r t =>
    have hres : fn.results = #[r] := by apply Array.toList_inj.1; exact hrs
    cases hq : resV X.T e M r with
    | none => rw [hq] at h; exact h.elim
    | some q =>
      obtain ⟨p, v⟩ := q
      rw [hq] at h
      simp only at h
      rw [Obl.req_iff, Obl.req_iff] at h
      obtain ⟨hp, hv, hF, hQ⟩ := h
      obtain ⟨cv, h1, h2⟩ := resV_ok hT hst hq hp
      exact ⟨cv, _, results_one hres _ _ _ h1, hQ, hF, asInts_ok (ownval_ok hst.mem 4 h2 hv)⟩
  · next r t r' t' =>
    have hres : fn.results = #[r, r'] := by apply Array.toList_inj.1; exact hrs
    cases hq : resV X.T e M r with
    | none => rw [hq] at h; exact h.elim
    | some q =>
      obtain ⟨p, v⟩ := q
      cases hq' : resV X.T e M r' with
      | none => rw [hq, hq'] at h; exact h.elim
      | some q' =>
        obtain ⟨p', v'⟩ := q'
        rw [hq, hq'] at h
        simp only at h
        rw [Obl.req_iff, Obl.req_iff, Obl.req_iff, Obl.req_iff] at h
        obtain ⟨hp, hp', hv, hv', hF, hF', hQ⟩ := h
        obtain ⟨cv, h1, h2⟩ := resV_ok hT hst hq hp
        obtain ⟨cv', h1', h2'⟩ := resV_ok hT hst hq' hp'
        refine ⟨_, _, results_two hres _ _ _ h1 h1', hQ, ?_, #[cv, cv'], rfl, rfl, ?_⟩
        · intro k hk
          cases k with
          | zero => exact hF
          | succ k => exact hF'
        · intro k hk
          cases k with
          | zero => exact ⟨cv, rfl, asInts_ok (ownval_ok hst.mem 4 h2 hv)⟩
          | succ k =>
            have : k = 0 := by omega
            subst this
            exact ⟨cv', rfl, asInts_ok (ownval_ok hst.mem 4 h2' hv')⟩
  · next r t r' t' r2 t2 =>
    have hres : fn.results = #[r, r', r2] := by apply Array.toList_inj.1; exact hrs
    cases hq : resV X.T e M r with
    | none => rw [hq] at h; exact False.elim h
    | some q =>
      obtain ⟨p, v⟩ := q
      cases hq' : resV X.T e M r' with
      | none => rw [hq, hq'] at h; exact False.elim h
      | some q' =>
        obtain ⟨p', v'⟩ := q'
        cases hq2 : resV X.T e M r2 with
        | none => rw [hq, hq', hq2] at h; exact False.elim h
        | some q2 =>
          obtain ⟨p2, v2⟩ := q2
          rw [hq, hq', hq2] at h
          simp only at h
          rw [Obl.req_iff, Obl.req_iff, Obl.req_iff, Obl.req_iff, Obl.req_iff, Obl.req_iff] at h
          obtain ⟨hp, hp', hp2, hv, hv', hv2, hF, hF', hF2, hQ⟩ := h
          obtain ⟨cv, h1, h2⟩ := resV_ok hT hst hq hp
          obtain ⟨cv', h1', h2'⟩ := resV_ok hT hst hq' hp'
          obtain ⟨cv2, h12, h22⟩ := resV_ok hT hst hq2 hp2
          refine ⟨_, _, results_three hres _ _ _ h1 h1' h12, hQ, ?_, #[cv, cv', cv2], rfl, rfl, ?_⟩
          · intro k hk
            match k, hk with
            | 0, _ => exact hF
            | 1, _ => exact hF'
            | 2, _ => exact hF2
          · intro k hk
            match k, hk with
            | 0, _ => exact ⟨cv, rfl, asInts_ok (ownval_ok hst.mem 4 h2 hv)⟩
            | 1, _ => exact ⟨cv', rfl, asInts_ok (ownval_ok hst.mem 4 h2' hv')⟩
            | 2, _ => exact ⟨cv2, rfl, asInts_ok (ownval_ok hst.mem 4 h22 hv2)⟩
  · exact h.elim

/-- Nothing of it is said to be in the call's own memory. -/
def NoFr : V → Prop
  | .ints fr _ => fr = false
  | .seq fr _ _ f => fr = false ∧ ∀ j k, NoFr (f j k)
  | .at_ _ g _ => ∀ k, NoFr (g k)
  | .agg _ g => ∀ k, NoFr (g k)
  | .tup _ g => ∀ k, NoFr (g k)
  | .clo _ _ g => ∀ k, NoFr (g k)
  | .bnd _ _ g => ∀ k, NoFr (g k)
  | .ifc _ x => NoFr x
  | _ => True

theorem Rep_base {b b' : Nat} {φ : Phi} {w : World} : ∀ {x : V} {v : Value}, NoFr x → Rep φ b' w x v → Rep φ b w x v := by
  intro x
  induction x with
  | ints fr xs =>
    intro v hn hx
    have hn : fr = false := hn
    subst hn
    obtain ⟨A, cap, rfl, h1, h2, h4⟩ := hx
    refine ⟨A, cap, rfl, h1, h2, fun h => ?_⟩
    obtain ⟨b, off, rfl, g1, g2, g3⟩ := h4 h
    exact ⟨b, off, rfl, g1, fun h => (nomatch h), g3⟩
  | seq fr sz n f ih =>
    intro v hn hx
    obtain ⟨hn, hf⟩ := hn
    subst hn
    obtain ⟨A, cap, rfl, h1, h2, h3, h4⟩ := hx
    refine ⟨A, cap, rfl, h1, h2, h3, fun h => ?_⟩
    obtain ⟨b, off, rfl, g1, g2, g3⟩ := h4 h
    refine ⟨b, off, rfl, g1, fun h => (nomatch h), fun j o hj ho => ?_⟩
    obtain ⟨c, e1, e2, e3⟩ := g3 j o hj ho
    exact ⟨c, e1, e2, ih j o (hf j o) e3⟩
  | at_ sz g o ih =>
    intro v hn hx
    obtain ⟨b, off, rfl, h0, h1, h2⟩ := hx
    refine ⟨b, off, rfl, h0, h1, fun k hk => ?_⟩
    obtain ⟨c, e1, e2, e3⟩ := h2 k hk
    exact ⟨c, e1, e2, ih k (hn k) e3⟩
  | agg n g ih =>
    intro v hn hx
    obtain ⟨cs, rfl, h1, h2⟩ := hx
    exact ⟨cs, rfl, h1, fun i hi => by obtain ⟨c, e1, e2, e3⟩ := h2 i hi; exact ⟨c, e1, e2, ih i (hn i) e3⟩⟩
  | tup n g ih =>
    intro v hn hx
    obtain ⟨cs, rfl, h1, h2⟩ := hx
    exact ⟨cs, rfl, h1, fun i hi => by obtain ⟨c, e1, e2⟩ := h2 i hi; exact ⟨c, e1, ih i (hn i) e2⟩⟩
  | clo f n g ih =>
    intro v hn hx
    obtain ⟨cs, rfl, h1, h2⟩ := hx
    exact ⟨cs, rfl, h1, fun i hi => by obtain ⟨c, e1, e2⟩ := h2 i hi; exact ⟨c, e1, ih i (hn i) e2⟩⟩
  | bnd f n g ih =>
    intro v hn hx
    obtain ⟨cs, rfl, h1, h2⟩ := hx
    exact ⟨cs, rfl, h1, fun i hi => by obtain ⟨c, e1, e2⟩ := h2 i hi; exact ⟨c, e1, ih i (hn i) e2⟩⟩
  | ifc ty x ih =>
    intro v hn hx
    obtain ⟨u, rfl, h1⟩ := hx
    exact ⟨u, rfl, ih hn h1⟩
  | _ => exact fun _ h => h

/-! ## Marks are taken at a function's end -/

/-- Only blocks that hold no cells have turned. -/
theorem Rep.same {φ : Phi} {base : Nat} {w w' : World} (hc : ∀ a v, w.cell? a = some v → w'.cell? a = some v) (hs : w.heap.size ≤ w'.heap.size) : ∀ {x : V} {v : Value}, Rep φ base w x v → Rep φ base w' x v := by
  intro x
  induction x with
  | ints fr xs =>
    rintro v ⟨A, cap, rfl, h1, h2, h4⟩
    refine ⟨A, cap, rfl, h1, h2, fun hn => ?_⟩
    obtain ⟨b, off, rfl, g1, g2, g3⟩ := h4 hn
    exact ⟨b, off, rfl, g1, g2, fun j hj => hc _ _ (g3 j hj)⟩
  | seq fr sz n f ih =>
    rintro v ⟨A, cap, rfl, h1, h2, h3, h4⟩
    refine ⟨A, cap, rfl, h1, h2, h3, fun hn => ?_⟩
    obtain ⟨b, off, rfl, g1, g2, g3⟩ := h4 hn
    refine ⟨b, off, rfl, g1, g2, fun j o hj ho => ?_⟩
    obtain ⟨c, e1, e2, e3⟩ := g3 j o hj ho
    exact ⟨c, hc _ _ e1, e2, ih j o e3⟩
  | full xs =>
    rintro v ⟨A, rfl, h1, h4⟩
    refine ⟨A, rfl, h1, fun hn => ?_⟩
    obtain ⟨b, off, rfl, g1, g3⟩ := h4 hn
    exact ⟨b, off, rfl, g1, fun j hj => hc _ _ (g3 j hj)⟩
  | at_ sz g o ih =>
    rintro v ⟨b, off, rfl, h0, h1, h2⟩
    refine ⟨b, off, rfl, Nat.lt_of_lt_of_le h0 hs, h1, fun k hk => ?_⟩
    obtain ⟨c, e1, e2, e3⟩ := h2 k hk
    exact ⟨c, hc _ _ e1, e2, ih k e3⟩
  | agg n g ih =>
    rintro v ⟨cs, rfl, h1, h2⟩
    exact ⟨cs, rfl, h1, fun i hi => by obtain ⟨c, e1, e2, e3⟩ := h2 i hi; exact ⟨c, e1, e2, ih i e3⟩⟩
  | tup n g ih =>
    rintro v ⟨cs, rfl, h1, h2⟩
    exact ⟨cs, rfl, h1, fun i hi => by obtain ⟨c, e1, e2⟩ := h2 i hi; exact ⟨c, e1, ih i e2⟩⟩
  | clo f n g ih =>
    rintro v ⟨cs, rfl, h1, h2⟩
    exact ⟨cs, rfl, h1, fun i hi => by obtain ⟨c, e1, e2⟩ := h2 i hi; exact ⟨c, e1, ih i e2⟩⟩
  | bnd f n g ih =>
    rintro v ⟨cs, rfl, h1, h2⟩
    exact ⟨cs, rfl, h1, fun i hi => by obtain ⟨c, e1, e2⟩ := h2 i hi; exact ⟨c, e1, ih i e2⟩⟩
  | ifc ty x ih =>
    rintro v ⟨u, rfl, h1⟩
    exact ⟨u, rfl, ih h1⟩
  | _ => exact fun h => h

theorem cell_putObj {w : World} {D : Nat} {o o' : Obj} (hD : w.heap[D]? = some o) (ho : o.isCells = false) (a : Addr) (v : Value) (h : w.cell? a = some v) : (w.putObj D o').cell? a = some v := by
  by_cases e : a.block = D
  · exfalso
    unfold World.cell? at h
    rw [e, hD] at h
    cases o <;> simp_all [Obj.isCells]
  · rw [← h]
    exact World.cell?_of_block (World.putObj_heap_other e)

theorem St.putObj {nt nb base : Nat} {φ : Phi} {w : World} {M : Mem} {e : Env} {a : Act} {D : Nat} {o o' : Obj} {ds : List Deferred} (h : St lo nt nb base φ w M e a) (hD : w.heap[D]? = some o) (ho : o.isCells = false) (hn : notLive φ D) (hd : Dfr lo φ (w.putObj D o') ds) :
    St lo nt nb base φ (w.putObj D o') M e { a with defers := ds } := by
  have hr : ∀ {x : V} {v : Value}, Rep φ base w x v → Rep φ base (w.putObj D o') x v := fun hx => Rep.same (cell_putObj hD ho) (by simp) hx
  have hb : ∀ t r, φ t = some r → 0 < r.cap → (w.putObj D o').heap[r.g]? = w.heap[r.g]? := fun t r ht hp => World.putObj_heap_other (fun e => hn t r ht hp e)
  refine ⟨⟨fun t r ht => ?_, h.mem.inj, h.mem.own, by simpa using h.mem.le⟩, hd, by simpa using h.low, h.size, fun i => hr (h.slots i)⟩
  obtain ⟨ob, h1, h2⟩ := h.mem.obj t r ht
  refine ⟨ob, h1, h2.n, h2.ver, h2.sz, h2.e, h2.pos, h2.le, h2.max, fun hp => by simpa using h2.dom hp, ?_, fun hC hp => ?_⟩
  · have hs := h2.spec
    cases hc : ob.c with
    | loop st pend e' nt' ps as bd inf =>
      rw [hc] at hs
      obtain ⟨k1, k2, L, g1, g2, g3, g4, g5, g6, g7, g8⟩ := hs
      exact ⟨k1, k2, L, (hb t r ht k1).trans g1, g2, g3, g4, g5, g6, g7, fun i => hr (g8 i)⟩
    | mpi es =>
      rw [hc] at hs
      obtain ⟨k1, k2, A, c, g1, g2⟩ := hs
      exact ⟨k1, k2, A, c, (hb t r ht k1).trans g1, g2⟩
    | kil => rw [hc] at hs; exact hs
    | _ => exact trivial
  · obtain ⟨cur, g1, g2, g3⟩ := h2.row hC hp
    refine ⟨cur, (hb t r ht hp).trans g1, g2, fun j k hj hk => ?_⟩
    obtain ⟨c, e1, e2, e3⟩ := g3 j k hj hk
    exact ⟨c, e1, e2, hr e3⟩

/-- What a function's end leaves behind the marks. -/
theorem marks_ok {P : Program} {fn : Func} {R : Ending → World → Prop} {nt nb base : Nat} {φ : Phi} {M : Mem} {e : Env} {tmps : Array Value} : ∀ (ds : List Deferred) (w : World), St lo nt nb base φ w M e ⟨tmps, ds⟩ →
    (∀ w', St lo nt nb base φ w' M e ⟨tmps, []⟩ → w'.os = w.os → w'.tape = w.tape → w'.output = w.output → w'.heap.size = w.heap.size → (∀ b, b < lo → w'.heap[b]? = w.heap[b]?) → (∀ b, ¬ notLive φ b → w'.heap[b]? = w.heap[b]?) → w.drawn ≤ w'.drawn → ∃ v, (results fn tmps).run P w' = .ok v w' ∧ R (.returned v) w') →
    LeavesInM Fence.wide 0 P fn tmps R ds .returning w
  | [], w, hst, h => h w hst rfl rfl rfl rfl (fun _ _ => rfl) (fun _ _ => rfl) (Nat.le_refl _)
  | d :: ds, w, hst, h => by
    obtain ⟨⟨D, rfl, h2, h3, h4, h5⟩, h6⟩ := hst.dfr
    refine ⟨(fun h => nomatch h), .inl ⟨D, _, rfl, run_takeDeferred h3, ?_⟩⟩
    have hds : ∀ l : List Deferred, (∀ d' ∈ l, d' ≠ markD D) → Dfr lo φ w l → Dfr lo φ (w.putObj D (.deferred none)) l := by
      intro l
      induction l with
      | nil => exact fun _ _ => trivial
      | cons d' r ih =>
        rintro hne ⟨⟨D', e1, e2, e3, e4, e5⟩, e6⟩
        refine ⟨⟨D', e1, e2, ?_, e4, e5⟩, ih (fun x hx => hne x (List.mem_cons_of_mem _ hx)) e6⟩
        rw [World.putObj_heap_other (fun e => hne d' List.mem_cons_self (by rw [e1, e]))]
        exact e3
    refine marks_ok ds _ (hst.putObj h3 rfl h4 (hds ds h5 h6)) (fun w' hw' q1 q2 q3 q4 q5 q6 q7 => h w' hw' q1 q2 q3 (by simpa using q4) (fun b hb => ?_) (fun b hb => ?_) q7)
    · rw [q5 b hb, World.putObj_heap_other (by omega)]
    · rw [q6 b hb, World.putObj_heap_other (fun e => hb (by rw [e]; exact h4))]

/-- The slots at a function's start. -/
def envOf (xs : List V) : Env := (List.range xs.length).zip xs

theorem get_envOf (xs : List V) : ∀ (s : Nat) (i : Nat), Env.get ((List.range' s xs.length).zip xs) i = if s ≤ i then xs.getD (i - s) .any else .any := by
  induction xs with
  | nil => intro s i; simp [Env.get]
  | cons x r ih =>
    intro s i
    rw [List.length_cons, List.range'_succ, List.zip_cons_cons]
    simp only [Env.get]
    by_cases h : s = i
    · subst h; simp
    · rw [if_neg h, ih]
      by_cases hs : s + 1 ≤ i
      · rw [if_pos hs, if_pos (by omega), show i - s = (i - (s + 1)) + 1 from by omega]
        rfl
      · rw [if_neg hs, if_neg (by omega)]

def LenOk : V → Prop
  | .ints _ xs => (xs.length : Int) ≤ 9223372036854775807
  | .seq _ _ n _ => (n : Int) ≤ 9223372036854775807
  | _ => True

/-- A FUNCTION, from its code. -/
theorem APure_of (hT : TabOk X.P X.T) (hnb : X.nb = 0) {f : FuncId} {fn : Func} {c : Code} (hf : X.P.funcs[f]? = some fn) (hname : (fn.name == "runtime.NumGoroutine") = false) (hb : fn.body = some c) (hnt : fn.ntmps = X.nt) {rs : List (ResultVar × TypeId)}
    (hrs : fn.results.toList = rs.map (·.1)) {xs : List V} (hxs : xs.length ≤ X.nt) (hfr : ∀ x ∈ xs, NoFr x) {Q : V → Prop} (h : (∀ x ∈ xs, LenOk x) → awp X c (retQ X.T rs Q) (envOf xs) []) : APure X.P f xs Q := by
  unfold APure
  refine ⟨⟨fn, hf, hname, by rw [hb]; rfl⟩, fun w args hs hargs => ?_⟩
  have hlen : ∀ x ∈ xs, LenOk x := by
    intro x hx
    obtain ⟨i, hi, rfl⟩ := List.getElem_of_mem hx
    have hr := hargs i
    rw [show xs.getD i .any = xs[i] from by simp [List.getD, hi]] at hr
    cases hxx : xs[i] with
    | ints fr ys =>
      rw [hxx] at hr
      obtain ⟨A, cap, _, h1, h2, _⟩ := hr
      rw [maxLen_val] at h2
      simp only [LenOk]
      omega
    | seq fr sz n f =>
      rw [hxx] at hr
      obtain ⟨A, cap, _, h1, h2, _⟩ := hr
      rw [maxLen_val] at h2
      simp only [LenOk]
      omega
    | _ => trivial
  have hst : St w.heap.size X.nt X.nb w.heap.size (fun _ => none) w [] (envOf xs) { tmps := args ++ Array.replicate (fn.ntmps - args.size) undef, defers := [] } := by
    refine ⟨⟨fun t r h => (nomatch h), fun t t' r r' h => (nomatch h), fun t r h => (nomatch h), Nat.le_refl _⟩, trivial, Nat.le_refl _, by simp; omega, fun i => ?_⟩
    have hi := hargs i
    have e1 : Env.get (envOf xs) i = xs.getD i .any := by
      unfold envOf
      rw [List.range_eq_range', get_envOf]
      simp
    rw [e1]
    by_cases h : i < xs.length
    · have e2 : (args ++ Array.replicate (fn.ntmps - args.size) undef).getD i undef = args.getD i undef := by
        rw [Array.getD_eq_getD_getElem?, Array.getD_eq_getD_getElem?, Array.getElem?_append_left (by omega)]
      rw [e2]
      rw [show xs.getD i .any = xs[i] from by simp [List.getD, h]] at hi ⊢
      exact Rep_base (hfr _ (List.getElem_mem h)) hi
    · rw [show xs.getD i .any = .any from by simp only [List.getD]; rw [List.getElem?_eq_none (by omega)]; rfl]
      trivial
  refine callsIn_wide.1 (callsIn_of_wp_marks (n := 0) hf hb trivial (wpIn_mono (awp_ok (ro := none) (lo := w.heap.size) hT (fun _ => rfl) c _ _ _ w [] _ _ hst (h hlen)) ?_))
  rintro x a' w' ⟨hx, e', M', φ', hq, hst', hv⟩
  have fin : retK X.T rs e' M' Q → LeavesInM Fence.wide 0 X.P fn a'.tmps (fun e w' => ∃ v R, e = .returned v ∧ Q R ∧ Fr R ∧ Rep (fun _ => none) w.heap.size w' R v ∧ Evo w (fun _ => none) w' (fun _ => none)) a'.defers .returning w' := by
    intro hk
    refine marks_ok _ w' hst' (fun w2 hst2 q1 q2 q3 q4 q5 _ q7 => ?_)
    rw [hnb] at hst2
    obtain ⟨cv, R, h1, h2, h3, h4⟩ := retK_ok hT hst2 hrs hk
    exact ⟨cv, h1, cv, R, rfl, h2, h3, h4, q1.trans hv.os, q2.trans hv.tape, q3.trans hv.output, by rw [q4]; exact hv.size, fun b hb hn => (q5 b hb).trans (hv.block b hb hn), fun t r h => (nomatch h), fun t r h => (nomatch h), Nat.le_trans hv.drawn q7⟩
  cases x with
  | normal => exact fin hq
  | ret => exact fin hq
  | panic c => exact hx.elim
  | outgrown => exact hx.elim
  | exit id => exact hq.elim
  | goto l => exact hq.elim

/-! ## For the walk's user -/

theorem br_dec {p : Prop} [Decidable p] {A B : Prop} (h1 : p → A) (h2 : ¬ p → B) : br (decide p) A B := by
  by_cases h : p
  · simp only [h, decide_true]; exact h1 h
  · simp only [h, decide_false]; exact h2 h
theorem br_mk {b : Bool} {A B : Prop} (h1 : b = true → A) (h2 : b = false → B) : br b A B := (br_iff b A B).2 ⟨h1, h2⟩
theorem br_eq {x y : Int} {A B : Prop} (h1 : x = y → A) (h2 : x ≠ y → B) : br (x == y) A B := br_mk (fun h => h1 (by simpa using h)) (fun h => h2 (by simpa using h))
theorem br_ne {x y : Int} {A B : Prop} (h1 : x ≠ y → A) (h2 : x = y → B) : br (x != y) A B := br_mk (fun h => h1 (by simpa using h)) (fun h => h2 (by simpa using h))
theorem br_not {b : Bool} {A B : Prop} (h : br b B A) : br (!b) A B := by cases b <;> exact h
theorem inr {x : Int} (h : -9223372036854775808 ≤ x ∧ x ≤ 9223372036854775807) : InR x := by unfold InR; exact h
theorem APure.mono {P : Program} {f : FuncId} {xs : List V} {Q Q' : V → Prop} (h : APure P f xs Q) (hq : ∀ R, Q R → Q' R) : APure P f xs Q' := by
  unfold APure at h ⊢
  refine ⟨h.1, fun w args hs ha => (h.2 w args hs ha).mono fun e w' hr => ?_⟩
  obtain ⟨v, R, h1, h2, h3⟩ := hr
  exact ⟨v, R, h1, hq R h2, h3⟩
theorem APure.to {P : Program} {f : FuncId} {xs : List V} {r : V} {Q : V → Prop} (h : APure P f xs (fun R => R = r)) (hq : Q r) : APure P f xs Q := h.mono fun R hR => by rw [hR]; exact hq

end
end Go.Tri

/-
  REGIONS THAT DRAW THEIR ORDER, FIRST PART: an operation's effect on memory is a patch; it is the same over any memory that holds what it looks at.
-/
namespace Go.Tri
variable {lo : Nat}
open Go.RowKit

def patch (M : Mem) : Option (Nat × Ob) → Mem
  | none => M
  | some (t, o) => M.put t o

/-- The patch and its name: what is new, or what was pointed at. -/
def PatchAt (nm : Nat) (o : Op) (φ : Phi) : Option (Nat × Ob) → Prop
  | none => True
  | some (t, _) => t = nm ∨ (isLoud o = true ∧ φ t ≠ none)

theorem loadV_mono {T : Tab} {M M' : Mem} (hM : M.le M') {t : Nat} {x v : V} {p : Obl} (h : loadV T M t x = some (p, v)) : loadV T M' t x = some (p, v) := by
  unfold loadV at h ⊢
  cases hk : knownT (T.row t) with
  | false => rw [hk] at h; cases h
  | true =>
    rw [hk] at h
    simp only [cond_true] at h ⊢
    cases x with
    | ptr n ver i o =>
      simp only [loadV'] at h ⊢
      cases hg : M.get n with
      | none => rw [hg] at h; cases h
      | some ob => rw [hg] at h; rw [hM n ob hg]; exact h
    | _ => exact h

theorem storeV_mono {T : Tab} {M M' M2 : Mem} (hM : M.le M') {t : Nat} {x y v : V} {p : Obl} (h : storeV T M t x y = some (p, v, M2)) :
    ∃ n ver i o ob, x = .ptr n ver i o ∧ M.get n ≠ none ∧ M2 = M.put n ob ∧ storeV T M' t x y = some (p, v, M'.put n ob) := by
  unfold storeV at h ⊢
  cases hk : knownT (T.row t) with
  | false => rw [hk] at h; cases h
  | true =>
    rw [hk] at h
    simp only [cond_true] at h ⊢
    cases x with
    | ptr n ver i o =>
      simp only at h ⊢
      cases hg : M.get n with
      | none => rw [hg] at h; cases h
      | some ob =>
        rw [hg] at h
        rw [hM n ob hg]
        simp only at h ⊢
        cases ha : isAggT (T.row t) with
        | true =>
          rw [ha] at h
          simp only [cond_true] at h ⊢
          cases y with
          | agg m g =>
            simp only at h ⊢
            cases har : (isArrT (T.row t) && ob.c.isCv) with
            | true =>
              rw [har] at h
              simp only [cond_true] at h ⊢
              cases hb : Nat.beq m (T.row t).sz with
              | false => rw [hb] at h; cases h
              | true =>
                rw [hb] at h
                simp only [cond_true, Option.some.injEq, Prod.mk.injEq] at h ⊢
                obtain ⟨rfl, rfl, rfl⟩ := h
                exact ⟨n, ver, i, o, _, rfl, (by rw [hg]; exact fun h => nomatch h), rfl, rfl, rfl, rfl⟩
            | false =>
            rw [har] at h
            simp only [cond_false] at h ⊢
            cases hc : (Nat.beq m (T.row t).sz && Nat.ble (o + m) ob.sz) with
            | false => rw [hc] at h; cases h
            | true =>
              rw [hc] at h
              simp only [cond_true] at h ⊢
              cases hs : storeCellsV ob.c ob.sz i o g m with
              | none => rw [hs] at h; cases h
              | some c' =>
                rw [hs] at h
                simp only [Option.some.injEq, Prod.mk.injEq] at h ⊢
                obtain ⟨rfl, rfl, rfl⟩ := h
                exact ⟨n, ver, i, o, _, rfl, (by rw [hg]; exact fun h => nomatch h), rfl, rfl, rfl, rfl⟩
          | _ => cases h
        | false =>
          rw [ha] at h
          simp only [cond_false] at h ⊢
          cases hc : Nat.beq (T.row t).sz 1 with
          | false => rw [hc] at h; cases h
          | true =>
            rw [hc] at h
            simp only [cond_true] at h ⊢
            cases hs : ob.c.set ob.sz i o y with
            | none => rw [hs] at h; cases h
            | some c' =>
              rw [hs] at h
              simp only [Option.some.injEq, Prod.mk.injEq] at h ⊢
              obtain ⟨rfl, rfl, rfl⟩ := h
              exact ⟨n, ver, i, o, _, rfl, (by rw [hg]; exact fun h => nomatch h), rfl, rfl, rfl, rfl⟩
    | _ => cases h

theorem nilV_mono {T : Tab} {M M' : Mem} (hM : M.le M') {op : BinOp} {t : Nat} {x : V} {q : Obl × V} (h : nilV T op t M x = some q) : nilV T op t M' x = some q := by
  have hn : ∀ p, nonEmpty M x = some p → nonEmpty M' x = some p := by
    intro p hp
    cases x with
    | sl nm ver off len =>
      simp only [nonEmpty] at hp ⊢
      cases hg : M.get nm with
      | none => rw [hg] at hp; cases hp
      | some ob => rw [hg] at hp; rw [hM nm ob hg]; exact hp
    | _ => exact hp
  unfold nilV at h ⊢
  split at h
  · next e hd hp =>
    cases hb : isNilV x with
    | false => rw [hb] at h; cases h
    | true =>
      have hx : nonEmpty M' x = none := by
        cases x with
        | emp nl => rfl
        | _ => cases hb
      rw [hb] at h
      rw [hd, hx]
      exact h
  · next e p hd hp => rw [hd, hn p hp]; exact h
  · cases h

theorem lenV_mono {M M' : Mem} (hM : M.le M') {x : V} {q : Obl × Int} (h : lenV M x = some q) : lenV M' x = some q := by
  cases x with
  | sl nm ver off len =>
    simp only [lenV] at h ⊢
    cases hg : M.get nm with
    | none => rw [hg] at h; cases h
    | some ob => rw [hg] at h; rw [hM nm ob hg]; exact h
  | _ => exact h

theorem indexV_mono {T : Tab} {M M' : Mem} (hM : M.le M') {t : Nat} {x : V} {i : Int} {q : Obl × V} (h : indexV T M t x i = some q) : indexV T M' t x i = some q := by
  unfold indexV at h ⊢
  cases hd : (T.row t).d with
  | slice e =>
    rw [hd] at h
    simp only at h ⊢
    cases hk : knownT (T.row e) with
    | false => rw [hk] at h; cases h
    | true =>
      rw [hk] at h
      simp only [cond_true] at h ⊢
      cases x with
      | sl nm ver off len =>
        simp only at h ⊢
        cases hg : M.get nm with
        | none => rw [hg] at h; cases h
        | some ob => rw [hg] at h; rw [hM nm ob hg]; exact h
      | _ => exact h
  | array n e =>
    rw [hd] at h
    simp only at h ⊢
    cases hk : knownT (T.row e) with
    | false => rw [hk] at h; cases h
    | true =>
      rw [hk] at h
      simp only [cond_true] at h ⊢
      cases x with
      | ptr nm ver i0 o =>
        simp only at h ⊢
        cases hg : M.get nm with
        | none => rw [hg] at h; cases h
        | some ob => rw [hg] at h; rw [hM nm ob hg]; exact h
      | _ => exact h
  | _ => rw [hd] at h; cases h

theorem sliceV_mono {M M' : Mem} (hM : M.le M') {sz : Nat} {x : V} {lo hi : Option Int} {q : Obl × V} (h : sliceV M sz x lo hi = some q) : sliceV M' sz x lo hi = some q := by
  cases x with
  | sl nm ver off len =>
    simp only [sliceV] at h ⊢
    cases hg : M.get nm with
    | none => rw [hg] at h; cases h
    | some ob => rw [hg] at h; rw [hM nm ob hg]; exact h
  | _ => exact h

theorem srcV_mono {M M' : Mem} (hM : M.le M') {sz : Nat} {int : Bool} {x : V} {q : Obl × Src} (h : srcV M sz int x = some q) : srcV M' sz int x = some q := by
  cases x with
  | sl nm ver off len =>
    simp only [srcV] at h ⊢
    cases hg : M.get nm with
    | none => rw [hg] at h; cases h
    | some ob => rw [hg] at h; rw [hM nm ob hg]; exact h
  | _ => exact h

theorem fullApp_mono {T : Tab} {M M' : Mem} (hM : M.le M') {e : Nat} {ys : List Int} {x v : V} {p : Obl} (h : fullApp T e ys x M = some (p, v)) : fullApp T e ys x M' = some (p, v) := by
  unfold fullApp at h ⊢
  cases hk : (knownT (T.row e) && Nat.beq (T.row e).sz 1 && Nat.blt 0 (T.row e).bs && isI64T (T.row e)) with
  | false => rw [hk] at h; cases h
  | true =>
    rw [hk] at h
    simp only [cond_true] at h ⊢
    cases hs : srcV M 1 true x with
    | none => rw [hs] at h; cases h
    | some q => rw [hs] at h; rw [srcV_mono hM hs]; exact h
theorem aAppend_mono {T : Tab} {M M' M2 : Mem} (hM : M.le M') {nm e : Nat} {s x v : V} {p : Obl} (h : aAppend T nm e s x M = some (p, v, M2)) :
    ∃ n ob, M2 = M.put n ob ∧ aAppend T nm e s x M' = some (p, v, M'.put n ob) ∧ (n = nm ∨ ∃ ver off len, s = .sl n ver off len) := by
  unfold aAppend at h ⊢
  cases hk : (knownT (T.row e) && Nat.blt 0 (T.row e).sz && Nat.blt 0 (T.row e).bs) with
  | false => rw [hk] at h; cases h
  | true =>
    rw [hk] at h
    simp only [cond_true] at h ⊢
    cases hs : srcV M (T.row e).sz (isI64T (T.row e)) x with
    | none => rw [hs] at h; cases h
    | some q =>
      obtain ⟨p0, src⟩ := q
      rw [hs] at h
      rw [srcV_mono hM hs]
      simp only at h ⊢
      cases s with
      | emp =>
        simp only [Option.some.injEq, Prod.mk.injEq] at h ⊢
        obtain ⟨rfl, rfl, rfl⟩ := h
        exact ⟨nm, _, rfl, ⟨rfl, rfl, rfl⟩, .inl rfl⟩
      | sl t ver off len =>
        simp only at h ⊢
        cases hg : M.get t with
        | none => rw [hg] at h; cases h
        | some ob =>
          rw [hg] at h
          rw [hM t ob hg]
          simp only at h ⊢
          cases hb : (Nat.beq ob.sz (T.row e).sz && Nat.beq ob.e e) with
          | false => rw [hb] at h; cases h
          | true =>
            rw [hb] at h
            simp only [cond_true] at h ⊢
            cases hk2 : kilApp ob.c (T.row e).sz off len src with
            | some c =>
              rw [hk2] at h
              simp only [Option.some.injEq, Prod.mk.injEq] at h ⊢
              obtain ⟨rfl, rfl, rfl⟩ := h
              exact ⟨t, _, rfl, ⟨rfl, rfl, rfl⟩, .inr ⟨ver, off, len, rfl⟩⟩
            | none =>
              rw [hk2] at h
              simp only at h ⊢
              cases hk3 : kilNew ob.c (T.row e).sz off len src with
              | some c =>
                rw [hk3] at h
                simp only [Option.some.injEq, Prod.mk.injEq] at h ⊢
                obtain ⟨rfl, rfl, rfl⟩ := h
                exact ⟨nm, _, rfl, ⟨rfl, rfl, rfl⟩, .inl rfl⟩
              | none =>
                rw [hk3] at h
                simp only at h ⊢
                cases hc : appCon ob.c len src with
                | none => rw [hc] at h; cases h
                | some c =>
                  rw [hc] at h
                  simp only [Option.some.injEq, Prod.mk.injEq] at h ⊢
                  obtain ⟨rfl, rfl, rfl⟩ := h
                  exact ⟨t, _, rfl, ⟨rfl, rfl, rfl⟩, .inr ⟨ver, off, len, rfl⟩⟩
      | _ => cases h

/-- The same, the patch apart. -/
def aAppendD (T : Tab) (nm e : Nat) (s x : V) (M : Mem) : Option (Obl × V × Nat × Ob) :=
  bif knownT (T.row e) && Nat.blt 0 (T.row e).sz && Nat.blt 0 (T.row e).bs then
    (match srcV M (T.row e).sz (isI64T (T.row e)) x with
    | some (p, src) => match s with
      | .emp _ => some (.and p (.le ((T.row e).bs * src.n) 140737488355328), .sl nm 0 0 src.n, nm, ⟨e, (T.row e).sz, 0, srcCon src⟩)
      | .sl t ver off len => match M.get t with
        | some ob => bif Nat.beq ob.sz (T.row e).sz && Nat.beq ob.e e then
            (match kilApp ob.c (T.row e).sz off len src with
            | some c => some (.and p (.and (eqnO ver ob.ver) (.le ((T.row e).bs * (len + src.n)) 140737488355328)), .sl t ver 0 (len + src.n), t, { ob with c := c })
            | none => match kilNew ob.c (T.row e).sz off len src with
            | some c => some (.and p (.and (eqnO ver ob.ver) (.le ((T.row e).bs * (len + src.n)) 140737488355328)), .sl nm 0 0 (len + src.n), nm, ⟨e, (T.row e).sz, 0, c⟩)
            | none => match appCon ob.c len src with
            | some c => some (.and p (.and (eqnO ver ob.ver) (.and (eqnO off 0) (.le ((T.row e).bs * (len + src.n)) 140737488355328))), .sl t (ver + 1) 0 (len + src.n), t, { ob with ver := ver + 1, c := c })
            | none => none) else none
        | none => none
      | _ => none
    | none => none) else none

theorem aAppend_eq {T : Tab} {nm e : Nat} {s x : V} {M : Mem} : aAppend T nm e s x M = (aAppendD T nm e s x M).map fun q => (q.1, q.2.1, M.put q.2.2.1 q.2.2.2) := by
  unfold aAppend aAppendD
  cases hk : (knownT (T.row e) && Nat.blt 0 (T.row e).sz && Nat.blt 0 (T.row e).bs) with
  | false => rfl
  | true =>
    simp only [cond_true]
    cases hs : srcV M (T.row e).sz (isI64T (T.row e)) x with
    | none => rfl
    | some q =>
      obtain ⟨p0, src⟩ := q
      cases s with
      | emp => rfl
      | sl t ver off len =>
        simp only
        cases hg : M.get t with
        | none => rfl
        | some ob =>
          simp only
          cases hb : (Nat.beq ob.sz (T.row e).sz && Nat.beq ob.e e) with
          | false => rfl
          | true =>
            simp only [cond_true]
            cases hk2 : kilApp ob.c (T.row e).sz off len src with
            | some c => rfl
            | none =>
              simp only
              cases hk3 : kilNew ob.c (T.row e).sz off len src with
              | some c => rfl
              | none =>
                simp only
                cases hc : appCon ob.c len src <;> rfl
      | _ => rfl

theorem aAppendD_mono {T : Tab} {M M' : Mem} (hM : M.le M') {nm e : Nat} {s x : V} {q : Obl × V × Nat × Ob} (h : aAppendD T nm e s x M = some q) :
    aAppendD T nm e s x M' = some q ∧ (q.2.2.1 = nm ∨ (M.get q.2.2.1 ≠ none ∧ ∃ ver off len, s = .sl q.2.2.1 ver off len)) ∧ (∃ ver len, q.2.1 = .sl q.2.2.1 ver 0 len) := by
  unfold aAppendD at h ⊢
  cases hk : (knownT (T.row e) && Nat.blt 0 (T.row e).sz && Nat.blt 0 (T.row e).bs) with
  | false => rw [hk] at h; cases h
  | true =>
    rw [hk] at h
    simp only [cond_true] at h ⊢
    cases hs : srcV M (T.row e).sz (isI64T (T.row e)) x with
    | none => rw [hs] at h; cases h
    | some q0 =>
      obtain ⟨p0, src⟩ := q0
      rw [hs] at h
      rw [srcV_mono hM hs]
      simp only at h ⊢
      cases s with
      | emp =>
        simp only [Option.some.injEq] at h ⊢
        subst h
        exact ⟨rfl, .inl rfl, _, _, rfl⟩
      | sl t ver off len =>
        simp only at h ⊢
        cases hg : M.get t with
        | none => rw [hg] at h; cases h
        | some ob =>
          rw [hg] at h
          rw [hM t ob hg]
          simp only at h ⊢
          cases hb : (Nat.beq ob.sz (T.row e).sz && Nat.beq ob.e e) with
          | false => rw [hb] at h; cases h
          | true =>
            rw [hb] at h
            simp only [cond_true] at h ⊢
            cases hk2 : kilApp ob.c (T.row e).sz off len src with
            | some c =>
              rw [hk2] at h
              simp only [Option.some.injEq] at h ⊢
              subst h
              exact ⟨rfl, .inr ⟨(by rw [hg]; exact fun h => nomatch h), ver, off, len, rfl⟩, _, _, rfl⟩
            | none =>
              rw [hk2] at h
              simp only at h ⊢
              cases hk3 : kilNew ob.c (T.row e).sz off len src with
              | some c =>
                rw [hk3] at h
                simp only [Option.some.injEq] at h ⊢
                subst h
                exact ⟨rfl, .inl rfl, _, _, rfl⟩
              | none =>
                rw [hk3] at h
                simp only at h ⊢
                cases hc : appCon ob.c len src with
                | none => rw [hc] at h; cases h
                | some c =>
                  rw [hc] at h
                  simp only [Option.some.injEq] at h ⊢
                  subst h
                  exact ⟨rfl, .inr ⟨(by rw [hg]; exact fun h => nomatch h), ver, off, len, rfl⟩, _, _, rfl⟩
      | _ => cases h

theorem aAppend_all {T : Tab} {M M2 : Mem} {nm e : Nat} {s x v : V} {p : Obl} (h : aAppend T nm e s x M = some (p, v, M2)) :
    ∃ n ob, M2 = M.put n ob ∧ (∀ M', M.le M' → aAppend T nm e s x M' = some (p, v, M'.put n ob)) ∧ (n = nm ∨ (M.get n ≠ none ∧ ∃ ver off len, s = .sl n ver off len)) ∧ (∃ ver len, v = .sl n ver 0 len) := by
  rw [aAppend_eq] at h
  cases hq : aAppendD T nm e s x M with
  | none => rw [hq] at h; cases h
  | some q =>
    rw [hq] at h
    simp only [Option.map_some, Option.some.injEq, Prod.mk.injEq] at h
    obtain ⟨rfl, rfl, rfl⟩ := h
    refine ⟨q.2.2.1, q.2.2.2, rfl, fun M' hM => ?_, (aAppendD_mono (fun _ _ h => h) hq).2.1, (aAppendD_mono (fun _ _ h => h) hq).2.2⟩
    rw [aAppend_eq, (aAppendD_mono hM hq).1]
    rfl

theorem aCopy_all {T : Tab} {M M2 : Mem} {e : Nat} {s x v : V} {p : Obl} (h : aCopy T e s x M = some (p, v, M2)) :
    ∃ n ob, M2 = M.put n ob ∧ (∀ M', M.le M' → aCopy T e s x M' = some (p, v, M'.put n ob)) ∧ (M.get n ≠ none ∧ ∃ ver off len, s = .sl n ver off len) := by
  unfold aCopy at h
  cases hk : (knownT (T.row e) && Nat.beq (T.row e).sz 1) with
  | false => rw [hk] at h; cases h
  | true =>
    rw [hk] at h
    simp only [cond_true] at h
    cases s with
    | sl t ver off len =>
      simp only at h
      cases hg : M.get t with
      | none => rw [hg] at h; cases h
      | some ob =>
        rw [hg] at h
        simp only at h
        cases hb : Nat.beq ob.sz 1 with
        | false => rw [hb] at h; cases h
        | true =>
          rw [hb] at h
          simp only [cond_true] at h
          split at h
          · next p0 ys hs =>
            split at h
            · next c hc =>
              simp only [Option.some.injEq, Prod.mk.injEq] at h
              obtain ⟨rfl, rfl, rfl⟩ := h
              refine ⟨t, _, rfl, fun M' hM => ?_, (by rw [hg]; exact fun h => nomatch h), ver, off, len, rfl⟩
              unfold aCopy
              rw [hk]
              simp only [cond_true, hM t ob hg, hb, srcV_mono hM hs, hc]
            · cases h
          · cases h
    | _ => cases h

theorem aBuiltin_mono {T : Tab} {M M' M2 : Mem} (hM : M.le M') {b : Builtin} {ts : List TypeId} {xs : List V} {v : V} {p : Obl} (h : aBuiltin T b ts xs M = some (p, v, M2)) : M2 = M ∧ aBuiltin T b ts xs M' = some (p, v, M') := by
  unfold aBuiltin at h ⊢
  split at h
  · next x t =>
    cases hd : (T.row t).d with
    | slice e =>
      rw [hd] at h
      simp only at h ⊢
      cases hl : lenV M x with
      | none => rw [hl] at h; cases h
      | some q =>
        rw [hl] at h
        rw [lenV_mono hM hl]
        simp only [Option.some.injEq, Prod.mk.injEq] at h ⊢
        exact ⟨h.2.2.symm, h.1, h.2.1, trivial⟩
    | string =>
      rw [hd] at h
      simp only at h ⊢
      cases x with
      | lit u =>
        cases u with
        | string s =>
          simp only [Option.some.injEq, Prod.mk.injEq] at h ⊢
          exact ⟨h.2.2.symm, h.1, h.2.1, trivial⟩
        | _ => cases h
      | _ => cases h
    | _ => rw [hd] at h; cases h
  · next nl t =>
    cases hd : (T.row t).d with
    | slice e =>
      rw [hd] at h
      simp only [Option.some.injEq, Prod.mk.injEq] at h ⊢
      exact ⟨h.2.2.symm, h.1, h.2.1, trivial⟩
    | _ => rw [hd] at h; cases h
  · simp only [Option.some.injEq, Prod.mk.injEq] at h ⊢
    exact ⟨h.2.2.symm, h.1, h.2.1, trivial⟩
  · simp only [Option.some.injEq, Prod.mk.injEq] at h ⊢
    exact ⟨h.2.2.symm, h.1, h.2.1, trivial⟩
  · simp only [Option.some.injEq, Prod.mk.injEq] at h ⊢
    exact ⟨h.2.2.symm, h.1, h.2.1, trivial⟩
  · cases h

/-- AN OPERATION OVER MORE MEMORY: the same value, the same patch. -/
theorem aop_mono {T : Tab} {M M2 : Mem} {nm : Nat} {o : Op} {ev : Operand → V} {p : Obl} {v : V} (h : aop T nm o ev M = some (p, v, M2)) :
    ∃ d, M2 = patch M d ∧ (∀ M', (isRd o = true → M.le M') → aop T nm o ev M' = some (p, v, patch M' d)) ∧
      (∀ n ob, d = some (n, ob) → n = nm ∧ isLoud o = false ∨ (isLoud o = true ∧ M.get n ≠ none ∧ ∃ t x y, o = .store t x y ∧ ∃ ver i k, ev x = .ptr n ver i k)) := by
  cases o with
  | move x =>
    simp only [aop, Option.some.injEq, Prod.mk.injEq] at h ⊢
    obtain ⟨rfl, rfl, rfl⟩ := h
    exact ⟨none, rfl, fun M' _ => ⟨rfl, rfl, rfl⟩, fun _ _ h => nomatch h⟩
  | assign x =>
    simp only [aop, Option.some.injEq, Prod.mk.injEq] at h ⊢
    obtain ⟨rfl, rfl, rfl⟩ := h
    exact ⟨none, rfl, fun M' _ => ⟨rfl, rfl, rfl⟩, fun _ _ h => nomatch h⟩
  | pick c a b =>
    simp only [aop] at h ⊢
    split at h
    · simp only [Option.some.injEq, Prod.mk.injEq] at h ⊢
      obtain ⟨rfl, rfl, rfl⟩ := h
      exact ⟨none, rfl, fun M' _ => ⟨rfl, rfl, rfl⟩, fun _ _ h => nomatch h⟩
    · simp only [Option.some.injEq, Prod.mk.injEq] at h ⊢
      obtain ⟨rfl, rfl, rfl⟩ := h
      exact ⟨none, rfl, fun M' _ => ⟨rfl, rfl, rfl⟩, fun _ _ h => nomatch h⟩
    · cases h
  | alloc t =>
    simp only [aop] at h ⊢
    cases hb : (knownT (T.row t) && Nat.blt 0 (T.row t).sz) with
    | false => rw [hb] at h; cases h
    | true =>
      rw [hb] at h
      simp only [cond_true, Option.some.injEq, Prod.mk.injEq] at h ⊢
      obtain ⟨rfl, rfl, rfl⟩ := h
      exact ⟨some (nm, _), rfl, fun M' _ => ⟨rfl, rfl, rfl⟩, fun _ _ h => by cases h; exact .inl ⟨rfl, rfl⟩⟩
  | box t x =>
    simp only [aop] at h ⊢
    split at h
    · next n g _ =>
      cases hb : Nat.blt 0 n with
      | false => rw [hb] at h; cases h
      | true =>
        rw [hb] at h
        simp only [cond_true, Option.some.injEq, Prod.mk.injEq] at h ⊢
        obtain ⟨rfl, rfl, rfl⟩ := h
        exact ⟨some (nm, _), rfl, fun M' _ => ⟨rfl, rfl, rfl⟩, fun _ _ h => by cases h; exact .inl ⟨rfl, rfl⟩⟩
    · cases hb : (ev x).leaf with
      | false => rw [hb] at h; cases h
      | true =>
        rw [hb] at h
        simp only [cond_true, Option.some.injEq, Prod.mk.injEq] at h ⊢
        obtain ⟨rfl, rfl, rfl⟩ := h
        exact ⟨some (nm, _), rfl, fun M' _ => ⟨rfl, rfl, rfl⟩, fun _ _ h => by cases h; exact .inl ⟨rfl, rfl⟩⟩
  | build t parts =>
    simp only [aop] at h ⊢
    cases hd : (T.row t).d with
    | struct fs =>
      rw [hd] at h
      simp only at h ⊢
      cases hb : (fs.all (fun q => knownT (T.row q.1)) && parts.toList.all (fun (i, x) => partOk T fs (T.row t).sz i (ev x))) with
      | false => rw [hb] at h; cases h
      | true =>
        rw [hb] at h
        simp only [cond_true, Option.some.injEq, Prod.mk.injEq] at h ⊢
        obtain ⟨rfl, rfl, rfl⟩ := h
        exact ⟨none, rfl, fun M' _ => ⟨rfl, rfl, rfl⟩, fun _ _ h => nomatch h⟩
    | _ => rw [hd] at h; cases h
  | buildSlice t n parts =>
    simp only [aop] at h ⊢
    cases hd : (T.row t).d with
    | slice e =>
      rw [hd] at h
      simp only at h ⊢
      cases hk : knownT (T.row e) with
      | false => rw [hk] at h; cases h
      | true =>
        rw [hk] at h
        simp only [cond_true] at h ⊢
        cases hb : (Nat.beq n 0 && parts.isEmpty) with
        | true =>
          rw [hb] at h
          simp only [cond_true, Option.some.injEq, Prod.mk.injEq] at h ⊢
          obtain ⟨rfl, rfl, rfl⟩ := h
          exact ⟨none, rfl, fun M' _ => ⟨rfl, rfl, rfl⟩, fun _ _ h => nomatch h⟩
        | false =>
          rw [hb] at h
          simp only [cond_false] at h ⊢
          split at h
          · next x _ =>
            cases hc : Nat.beq n 1 with
            | false => rw [hc] at h; cases h
            | true =>
              rw [hc] at h
              simp only [cond_true] at h ⊢
              split at h
              · next m g _ =>
                cases hq : (Nat.beq m (T.row e).sz && Nat.blt 0 m && Nat.ble m 1000) with
                | false => rw [hq] at h; cases h
                | true =>
                  rw [hq] at h
                  simp only [cond_true, Option.some.injEq, Prod.mk.injEq] at h ⊢
                  obtain ⟨rfl, rfl, rfl⟩ := h
                  exact ⟨some (nm, _), rfl, fun M' _ => ⟨rfl, rfl, rfl⟩, fun _ _ h => by cases h; exact .inl ⟨rfl, rfl⟩⟩
              · cases hq : ((ev x).leaf && Nat.beq (T.row e).sz 1) with
                | false => rw [hq] at h; cases h
                | true =>
                  rw [hq] at h
                  simp only [cond_true, Option.some.injEq, Prod.mk.injEq] at h ⊢
                  obtain ⟨rfl, rfl, rfl⟩ := h
                  exact ⟨some (nm, _), rfl, fun M' _ => ⟨rfl, rfl, rfl⟩, fun _ _ h => by cases h; exact .inl ⟨rfl, rfl⟩⟩
          · cases hq : (Nat.beq (parts.toList.map fun p => ev p.2).length n && Nat.beq (T.row e).sz 1 && Nat.blt 0 n && Nat.ble n 1000 && (parts.toList.map fun p => ev p.2).all V.leaf && (parts.toList.map (·.1) == List.range n)) with
            | false =>
              rw [hq] at h
              simp only [cond_false] at h ⊢
              cases hq2 : (Nat.beq (parts.toList.map fun p => ev p.2).length n && Nat.blt 0 (T.row e).sz && Nat.ble (T.row e).sz 1000 && Nat.blt 0 n && Nat.ble n 1000 && (parts.toList.map fun p => ev p.2).all (V.isAgg (T.row e).sz) && (parts.toList.map (·.1) == List.range n)) with
              | false => rw [hq2] at h; cases h
              | true =>
                rw [hq2] at h
                simp only [cond_true, Option.some.injEq, Prod.mk.injEq] at h ⊢
                obtain ⟨rfl, rfl, rfl⟩ := h
                exact ⟨some (nm, _), rfl, fun M' _ => ⟨rfl, rfl, rfl⟩, fun _ _ h => by cases h; exact .inl ⟨rfl, rfl⟩⟩
            | true =>
              rw [hq] at h
              simp only [cond_true] at h ⊢
              cases hi : (parts.toList.map fun p => ev p.2).all V.isI64 with
              | true =>
                rw [hi] at h
                simp only [cond_true, Option.some.injEq, Prod.mk.injEq] at h ⊢
                obtain ⟨rfl, rfl, rfl⟩ := h
                exact ⟨some (nm, _), rfl, fun M' _ => ⟨rfl, rfl, rfl⟩, fun _ _ h => by cases h; exact .inl ⟨rfl, rfl⟩⟩
              | false =>
                rw [hi] at h
                simp only [cond_false, Option.some.injEq, Prod.mk.injEq] at h ⊢
                obtain ⟨rfl, rfl, rfl⟩ := h
                exact ⟨some (nm, _), rfl, fun M' _ => ⟨rfl, rfl, rfl⟩, fun _ _ h => by cases h; exact .inl ⟨rfl, rfl⟩⟩
    | _ => rw [hd] at h; cases h
  | load t x =>
    simp only [aop] at h ⊢
    cases hl : loadV T M t (ev x) with
    | none => rw [hl] at h; cases h
    | some q =>
      rw [hl] at h
      simp only [Option.some.injEq, Prod.mk.injEq] at h
      obtain ⟨rfl, rfl, rfl⟩ := h
      refine ⟨none, rfl, fun M' hM => ?_, fun _ _ h => nomatch h⟩
      rw [loadV_mono (hM rfl) (p := q.1) (v := q.2) hl]
      rfl
  | store t x y =>
    simp only [aop] at h ⊢
    obtain ⟨n, ver, i, k, ob, hx, hgn, rfl, _⟩ := storeV_mono (M := M) (M' := M) (fun _ _ h => h) h
    refine ⟨some (n, ob), rfl, fun M' hM => ?_, fun n' ob' h' => by cases h'; exact .inr ⟨rfl, hgn, t, x, y, rfl, ver, i, k, hx⟩⟩
    obtain ⟨n', ver', i', k', ob', hx', _, h1, h2⟩ := storeV_mono (hM rfl) h
    rw [hx] at hx'
    cases hx'
    have : ob' = ob := by
      have e1 := Mem.get_put_same M n ob
      rw [h1, Mem.get_put_same] at e1
      cases e1
      rfl
    rw [← this]
    exact h2
  | nilCheck x =>
    simp only [aop] at h ⊢
    split at h
    · next a b c d _ =>
      cases hg : M.get a with
      | none => rw [hg] at h; cases h
      | some ob =>
        rw [hg] at h
        simp only [Option.some.injEq, Prod.mk.injEq] at h
        obtain ⟨rfl, rfl, rfl⟩ := h
        refine ⟨none, rfl, fun M' hM => ?_, fun _ _ h => nomatch h⟩
        rw [hM rfl a ob hg]
        rfl
    · simp only [Option.some.injEq, Prod.mk.injEq] at h ⊢
      obtain ⟨rfl, rfl, rfl⟩ := h
      exact ⟨none, rfl, fun M' _ => ⟨rfl, rfl, rfl⟩, fun _ _ h => nomatch h⟩
    · simp only [Option.some.injEq, Prod.mk.injEq] at h ⊢
      obtain ⟨rfl, rfl, rfl⟩ := h
      exact ⟨none, rfl, fun M' _ => ⟨rfl, rfl, rfl⟩, fun _ _ h => nomatch h⟩
    · simp only [Option.some.injEq, Prod.mk.injEq] at h ⊢
      obtain ⟨rfl, rfl, rfl⟩ := h
      exact ⟨none, rfl, fun M' _ => ⟨rfl, rfl, rfl⟩, fun _ _ h => nomatch h⟩
    · cases h
  | binOp op t x y t2 =>
    simp only [aop] at h ⊢
    cases hnl : isNilC y with
    | true =>
      rw [hnl] at h
      simp only [cond_true] at h ⊢
      cases hb : nilV T op t M (ev x) with
      | none => rw [hb] at h; cases h
      | some q =>
        rw [hb] at h
        simp only [Option.some.injEq, Prod.mk.injEq] at h ⊢
        obtain ⟨rfl, rfl, rfl⟩ := h
        refine ⟨none, rfl, fun M' hM => ?_, fun _ _ h => nomatch h⟩
        rw [nilV_mono (hM (by simp [isRd, hnl])) hb]
        rfl
    | false =>
      rw [hnl] at h
      simp only [cond_false] at h ⊢
      cases hb : binV T op t (ev x) (ev y) with
      | none => rw [hb] at h; cases h
      | some q =>
        rw [hb] at h
        simp only [Option.some.injEq, Prod.mk.injEq] at h ⊢
        obtain ⟨rfl, rfl, rfl⟩ := h
        exact ⟨none, rfl, fun M' _ => ⟨rfl, rfl, rfl⟩, fun _ _ h => nomatch h⟩
  | unOp op t x =>
    simp only [aop] at h ⊢
    split at h
    · simp only [Option.some.injEq, Prod.mk.injEq] at h ⊢
      obtain ⟨rfl, rfl, rfl⟩ := h
      exact ⟨none, rfl, fun M' _ => ⟨rfl, rfl, rfl⟩, fun _ _ h => nomatch h⟩
    · simp only [Option.some.injEq, Prod.mk.injEq] at h ⊢
      obtain ⟨rfl, rfl, rfl⟩ := h
      exact ⟨none, rfl, fun M' _ => ⟨rfl, rfl, rfl⟩, fun _ _ h => nomatch h⟩
    · cases h
  | convert s d x =>
    simp only [aop] at h ⊢
    split at h
    · simp only [Option.some.injEq, Prod.mk.injEq] at h ⊢
      obtain ⟨rfl, rfl, rfl⟩ := h
      exact ⟨none, rfl, fun M' _ => ⟨rfl, rfl, rfl⟩, fun _ _ h => nomatch h⟩
    · simp only [Option.some.injEq, Prod.mk.injEq] at h ⊢
      obtain ⟨rfl, rfl, rfl⟩ := h
      exact ⟨none, rfl, fun M' _ => ⟨rfl, rfl, rfl⟩, fun _ _ h => nomatch h⟩
    · cases h
  | makeFunc fn first captured =>
    cases fn with
    | func f =>
      simp only [aop] at h ⊢
      cases hb : first.isEmpty with
      | false =>
        rw [hb] at h
        simp only [cond_false] at h ⊢
        cases hb2 : captured.isEmpty with
        | false => rw [hb2] at h; cases h
        | true =>
          rw [hb2] at h
          simp only [cond_true, Option.some.injEq, Prod.mk.injEq] at h ⊢
          obtain ⟨rfl, rfl, rfl⟩ := h
          exact ⟨none, rfl, fun M' _ => ⟨rfl, rfl, rfl⟩, fun _ _ h => nomatch h⟩
      | true =>
        rw [hb] at h
        simp only [cond_true, Option.some.injEq, Prod.mk.injEq] at h ⊢
        obtain ⟨rfl, rfl, rfl⟩ := h
        exact ⟨none, rfl, fun M' _ => ⟨rfl, rfl, rfl⟩, fun _ _ h => nomatch h⟩
    | _ => simp [aop] at h
  | makeInterface t x =>
    simp only [aop] at h ⊢
    cases hk : concT (T.row t) with
    | false => rw [hk] at h; cases h
    | true =>
      rw [hk] at h
      simp only [cond_true, Option.some.injEq, Prod.mk.injEq] at h ⊢
      obtain ⟨rfl, rfl, rfl⟩ := h
      exact ⟨none, rfl, fun M' _ => ⟨rfl, rfl, rfl⟩, fun _ _ h => nomatch h⟩
  | makeSlice t l c =>
    simp only [aop] at h ⊢
    split at h
    · next e _ l' _ c' _ _ _ =>
      cases hb : (knownT (T.row e) && Nat.blt 0 (T.row e).sz && Nat.blt 0 (T.row e).bs) with
      | false => rw [hb] at h; cases h
      | true =>
        rw [hb] at h
        simp only [cond_true, Option.some.injEq, Prod.mk.injEq] at h ⊢
        obtain ⟨rfl, rfl, rfl⟩ := h
        exact ⟨some (nm, _), rfl, fun M' _ => ⟨rfl, rfl, rfl⟩, fun _ _ h => by cases h; exact .inl ⟨rfl, rfl⟩⟩
    · cases h
  | slice t x lo hi mx =>
    simp only [aop] at h ⊢
    split at h
    · next e lo' hi' _ _ _ =>
      cases hk : knownT (T.row e) with
      | false => rw [hk] at h; cases h
      | true =>
        rw [hk] at h
        simp only [cond_true] at h ⊢
        cases hs : sliceV M (T.row e).sz (ev x) lo' hi' with
        | none => rw [hs] at h; cases h
        | some q =>
          rw [hs] at h
          simp only [Option.some.injEq, Prod.mk.injEq] at h
          obtain ⟨rfl, rfl, rfl⟩ := h
          refine ⟨none, rfl, fun M' hM => ?_, fun _ _ h => nomatch h⟩
          rw [sliceV_mono (hM rfl) hs]
          rfl
    · next e y hi' _ _ _ =>
      cases hk : (knownT (T.row e) && Nat.beq (T.row e).sz 1) with
      | false => rw [hk] at h; cases h
      | true =>
        rw [hk] at h
        simp only [cond_true] at h ⊢
        split at h
        · simp only [Option.some.injEq, Prod.mk.injEq] at h
          obtain ⟨rfl, rfl, rfl⟩ := h
          exact ⟨none, rfl, fun M' _ => rfl, fun _ _ h => nomatch h⟩
        · cases h
    · next n e lo' hi' _ _ _ =>
      cases hk : (knownT (T.row e) && Nat.beq (T.row e).sz 1) with
      | false => rw [hk] at h; cases h
      | true =>
        rw [hk] at h
        simp only [cond_true] at h ⊢
        split at h
        · next sz g o _ =>
          cases hc : (Nat.beq sz n && Nat.beq o 0 && Nat.ble n 1000 && (List.range n).all (fun k => (g k).isI64)) with
          | false => rw [hc] at h; cases h
          | true =>
            rw [hc] at h
            simp only [cond_true, Option.some.injEq, Prod.mk.injEq] at h
            obtain ⟨rfl, rfl, rfl⟩ := h
            exact ⟨none, rfl, fun M' _ => by first | rfl | (simp only [cond_true]; rfl), fun _ _ h => nomatch h⟩
        · cases h
    · cases h
  | fieldAddr s x f =>
    simp only [aop] at h ⊢
    cases hd : (T.row s).d with
    | struct fs =>
      rw [hd] at h
      simp only at h ⊢
      cases hb : (Nat.blt f fs.length && knownT (T.row (fs.getD f (0, 0)).1) && Nat.blt 0 (T.row (fs.getD f (0, 0)).1).sz) with
      | false => rw [hb] at h; cases h
      | true =>
        rw [hb] at h
        simp only [cond_true] at h ⊢
        split at h
        · next n ver i o _ =>
          cases hg : M.get n with
          | none => rw [hg] at h; cases h
          | some ob =>
            rw [hg] at h
            simp only [Option.some.injEq, Prod.mk.injEq] at h
            obtain ⟨rfl, rfl, rfl⟩ := h
            refine ⟨none, rfl, fun M' hM => ?_, fun _ _ h => nomatch h⟩
            rw [hM rfl n ob hg]
            rfl
        · simp only [Option.some.injEq, Prod.mk.injEq] at h ⊢
          obtain ⟨rfl, rfl, rfl⟩ := h
          exact ⟨none, rfl, fun M' _ => ⟨rfl, rfl, rfl⟩, fun _ _ h => nomatch h⟩
        · cases h
    | _ => rw [hd] at h; cases h
  | field t x f =>
    simp only [aop] at h ⊢
    split at h
    · next fs n g _ _ =>
      cases hb : (Nat.blt f fs.length && knownT (T.row (fs.getD f (0, 0)).1) && Nat.ble ((fs.getD f (0, 0)).2 + (T.row (fs.getD f (0, 0)).1).sz) n) with
      | false => rw [hb] at h; cases h
      | true =>
        rw [hb] at h
        simp only [cond_true] at h ⊢
        cases ha : isAggT (T.row (fs.getD f (0, 0)).1) with
        | true =>
          rw [ha] at h
          simp only [cond_true, Option.some.injEq, Prod.mk.injEq] at h ⊢
          obtain ⟨rfl, rfl, rfl⟩ := h
          exact ⟨none, rfl, fun M' _ => ⟨rfl, rfl, rfl⟩, fun _ _ h => nomatch h⟩
        | false =>
          rw [ha] at h
          simp only [cond_false] at h ⊢
          cases hz : Nat.beq (T.row (fs.getD f (0, 0)).1).sz 1 with
          | false => rw [hz] at h; cases h
          | true =>
            rw [hz] at h
            simp only [cond_true, Option.some.injEq, Prod.mk.injEq] at h ⊢
            obtain ⟨rfl, rfl, rfl⟩ := h
            exact ⟨none, rfl, fun M' _ => ⟨rfl, rfl, rfl⟩, fun _ _ h => nomatch h⟩
    · cases h
  | indexAddr t x i =>
    simp only [aop] at h ⊢
    split at h
    · next k n _ =>
      cases hs : indexV T M t (ev x) n with
      | none => rw [hs] at h; cases h
      | some q =>
        rw [hs] at h
        simp only [Option.some.injEq, Prod.mk.injEq] at h
        obtain ⟨rfl, rfl, rfl⟩ := h
        refine ⟨none, rfl, fun M' hM => ?_, fun _ _ h => nomatch h⟩
        rw [indexV_mono (hM rfl) hs]
        rfl
    · cases h
  | index t x i =>
    simp only [aop] at h ⊢
    split at h
    · simp only [Option.some.injEq, Prod.mk.injEq] at h
      obtain ⟨rfl, rfl, rfl⟩ := h
      exact ⟨none, rfl, fun M' _ => rfl, fun _ _ h => nomatch h⟩
    · cases h
  | extract x i =>
    simp only [aop] at h ⊢
    split at h
    · next n g _ =>
      cases hb : Nat.blt i n with
      | false => rw [hb] at h; cases h
      | true =>
        rw [hb] at h
        simp only [cond_true, Option.some.injEq, Prod.mk.injEq] at h ⊢
        obtain ⟨rfl, rfl, rfl⟩ := h
        exact ⟨none, rfl, fun M' _ => ⟨rfl, rfl, rfl⟩, fun _ _ h => nomatch h⟩
    · cases h
  | _ => simp [aop] at h

end Go.Tri

/-
  REGIONS THAT DRAW THEIR ORDER, SECOND PART: operands, the last writer, the order.
-/
namespace Go.Tri
variable {lo : Nat}
open Go.RowKit

theorem aop_congr {T : Tab} {M : Mem} {nm : Nat} {o : Op} {ev ev' : Operand → V} (h : ∀ x ∈ o.operands, ev x = ev' x) : aop T nm o ev M = aop T nm o ev' M := by
  cases o with
  | move x => simp only [aop]; rw [h x (by simp [Op.operands])]
  | assign x => simp only [aop]; rw [h x (by simp [Op.operands])]
  | pick c a b => simp only [aop]; rw [h c (by simp [Op.operands]), h a (by simp [Op.operands]), h b (by simp [Op.operands])]
  | alloc t => rfl
  | box t x => simp only [aop]; rw [h x (by simp [Op.operands])]
  | build t parts =>
    have hp : ∀ p ∈ parts.toList, ev p.2 = ev' p.2 := fun p hp => h p.2 (by simp only [Op.operands, List.mem_toArray, List.mem_map]; exact ⟨p, hp, rfl⟩)
    simp only [aop]
    cases hd : (T.row t).d with
    | struct fs =>
      simp only
      have e1 : (parts.toList.all fun (i, x) => partOk T fs (T.row t).sz i (ev x)) = (parts.toList.all fun (i, x) => partOk T fs (T.row t).sz i (ev' x)) := by
        rw [Bool.eq_iff_iff, List.all_eq_true, List.all_eq_true]
        exact ⟨fun q p hq => by have := q p hq; simp only at this ⊢; rw [← hp p hq]; exact this, fun q p hq => by have := q p hq; simp only at this ⊢; rw [hp p hq]; exact this⟩
      have e2 : ∀ l : List V, (parts.toList.foldl (fun l (i, x) => setAt l (fs.getD i (0, 0)).2 (ev x)) l) = (parts.toList.foldl (fun l (i, x) => setAt l (fs.getD i (0, 0)).2 (ev' x)) l) := by
        generalize parts.toList = ps at hp
        induction ps with
        | nil => intro l; rfl
        | cons p r ih =>
          intro l
          simp only [List.foldl_cons]
          rw [hp p (by simp)]
          exact ih (fun q hq => hp q (by simp [hq])) _
      rw [e1, e2]
    | _ => rfl
  | buildSlice t n parts =>
    have hp : ∀ p ∈ parts.toList, ev p.2 = ev' p.2 := fun p hp => h p.2 (by simp only [Op.operands, List.mem_toArray, List.mem_map]; exact ⟨p, hp, rfl⟩)
    have e1 : (parts.toList.map fun p => ev p.2) = (parts.toList.map fun p => ev' p.2) := List.map_congr_left hp
    have e2 : ∀ x, parts.toList = [(0, x)] → ev x = ev' x := fun x hx => hp (0, x) (by rw [hx]; simp)
    simp only [aop]
    cases hd : (T.row t).d with
    | slice e =>
      simp only
      congr 1
      congr 1
      split
      · next x hx => rw [e2 x hx]
      · rw [e1]
    | _ => rfl
  | load t x => simp only [aop]; rw [h x (by simp [Op.operands])]
  | store t x y => simp only [aop]; rw [h x (by simp [Op.operands]), h y (by simp [Op.operands])]
  | nilCheck x => simp only [aop]; rw [h x (by simp [Op.operands])]
  | binOp op t x y t2 => simp only [aop]; rw [h x (by simp [Op.operands]), h y (by simp [Op.operands])]
  | unOp op t x => simp only [aop]; rw [h x (by simp [Op.operands])]
  | convert s d x => simp only [aop]; rw [h x (by simp [Op.operands])]
  | makeFunc fn first captured =>
    cases fn with
    | func f =>
      simp only [aop]
      rw [show captured.toList.map ev = captured.toList.map ev' from List.map_congr_left fun x hx => h x (by simp [Op.operands]; exact .inr (by simpa using hx)),
        show first.toList.map ev = first.toList.map ev' from List.map_congr_left fun x hx => h x (by simp [Op.operands]; exact .inl (by simpa using hx))]
    | _ => rfl
  | makeInterface t x => simp only [aop]; rw [h x (by simp [Op.operands])]
  | makeSlice t l c => simp only [aop]; rw [h l (by simp [Op.operands]), h c (by simp [Op.operands])]
  | slice t x lo hi mx =>
    have e1 : optInt ev lo = optInt ev' lo := by
      cases lo with
      | none => rfl
      | some x => simp only [optInt]; rw [h x (by simp [Op.operands])]
    have e2 : optInt ev hi = optInt ev' hi := by
      cases hi with
      | none => rfl
      | some x => simp only [optInt]; rw [h x (by simp [Op.operands])]
    cases mx with
    | none =>
      simp only [aop]
      rw [h x (by simp [Op.operands]), e1, e2]
      cases (T.row t).d <;> cases optInt ev' lo <;> cases optInt ev' hi <;> rfl
    | some y =>
      have ey := h y (by simp [Op.operands])
      simp only [aop]
      rw [h x (by simp [Op.operands]), e1, e2]
      cases (T.row t).d <;> (try rfl)
      rcases optInt ev' lo with _ | _ | _ <;> rcases optInt ev' hi with _ | _ | _ <;> first | rfl | (simp only [ey])
  | fieldAddr s x f => simp only [aop]; rw [h x (by simp [Op.operands])]
  | field t x f => simp only [aop]; rw [h x (by simp [Op.operands])]
  | indexAddr t x i => simp only [aop]; rw [h x (by simp [Op.operands]), h i (by simp [Op.operands])]
  | extract x i => simp only [aop]; rw [h x (by simp [Op.operands])]
  | index t x i => simp only [aop]; rw [h x (by simp [Op.operands]), h i (by simp [Op.operands])]
  | _ => rfl

/-! ## The last writer -/

def lastW {α : Type} (sel : Nat → Bool) (dst : Nat → Option Nat) (val : Nat → α) (init : Nat → α) : Nat → Nat → α
  | 0, t => init t
  | n + 1, t => if sel n = true ∧ dst n = some t then val n else lastW sel dst val init n t

section
variable {α : Type} {sel sel' : Nat → Bool} {dst : Nat → Option Nat} {val : Nat → α} {init : Nat → α}

theorem lastW_congr {n : Nat} {t : Nat} (h : ∀ k, k < n → dst k = some t → sel k = sel' k) : lastW sel dst val init n t = lastW sel' dst val init n t := by
  induction n with
  | zero => rfl
  | succ n ih =>
    simp only [lastW]
    rw [ih fun k hk => h k (by omega)]
    by_cases hd : dst n = some t
    · rw [h n (by omega) hd]
    · simp [hd]

/-- Nobody later is chosen: the first ones decide. -/
theorem lastW_short {n m : Nat} {t : Nat} (hmn : m ≤ n) (h : ∀ k, m ≤ k → k < n → dst k = some t → sel k = false) : lastW sel dst val init n t = lastW sel dst val init m t := by
  induction n with
  | zero => rw [show m = 0 from by omega]
  | succ n ih =>
    by_cases e : m = n + 1
    · rw [e]
    · simp only [lastW]
      rw [if_neg (fun hc => by rw [h n (by omega) (by omega) hc.2] at hc; cases hc.1)]
      exact ih (by omega) (fun k h1 h2 => h k h1 (by omega))

theorem lastW_at {n i : Nat} {t : Nat} (hi : i < n) (hs : sel i = true) (hd : dst i = some t) (h : ∀ k, i < k → k < n → dst k = some t → sel k = false) : lastW sel dst val init n t = val i := by
  rw [lastW_short (m := i + 1) (by omega) (fun k h1 h2 => h k (by omega) h2)]
  simp [lastW, hs, hd]

theorem lastW_none {n : Nat} {t : Nat} (h : ∀ k, k < n → dst k = some t → sel k = false) : lastW sel dst val init n t = init t := by
  rw [lastW_short (m := 0) (by omega) (fun k _ h2 => h k h2)]
  rfl
end

/-! ## What must come before -/

/-- A set of operations that holds what its members wait for. -/
def Down (ops : Array Oper) (L : Nat → Bool) : Prop := ∀ i o, ops[i]? = some o → L i = true → ∀ e ∈ o.after, Region.binds .any e = true → L e.on = true

theorem befs_ok (ops : Array Oper) (L : Nat → Bool) (hD : Down ops L) : ∀ i o j, ops[i]? = some o → (∀ e ∈ o.after, Region.binds .any e = true → L e.on = true) → ((befs ops).getD i 0).testBit j = true → L j = true := by
  have key : ∀ (l : List Oper) (acc : List Nat), (∀ j, l[j]? = ops.toList[acc.length + j]?) →
      (∀ i o j, i < acc.length → ops[i]? = some o → (∀ e ∈ o.after, Region.binds .any e = true → L e.on = true) → (acc.getD i 0).testBit j = true → L j = true) →
      ∀ i o j, ops[i]? = some o → (∀ e ∈ o.after, Region.binds .any e = true → L e.on = true) → ((l.foldl (fun acc o => acc ++ [befStep acc o]) acc).getD i 0).testBit j = true → L j = true := by
    intro l
    induction l with
    | nil =>
      intro acc hl hacc i o j ho he ht
      simp only [List.foldl_nil] at ht
      by_cases hi : i < acc.length
      · exact hacc i o j hi ho he ht
      · simp [List.getD, List.getElem?_eq_none (Nat.le_of_not_lt hi)] at ht
    | cons x r ih =>
      intro acc hl hacc i o j ho he ht
      simp only [List.foldl_cons] at ht
      refine ih (acc ++ [befStep acc x]) (fun j => by have := hl (j + 1); simpa [Nat.add_assoc, Nat.add_comm 1 j] using this) (fun i o j hi ho he ht => ?_) i o j ho he ht
      simp only [List.length_append, List.length_cons, List.length_nil, Nat.zero_add] at hi
      by_cases hlt : i < acc.length
      · rw [show (acc ++ [befStep acc x]).getD i 0 = acc.getD i 0 from by simp [List.getD, List.getElem?_append_left hlt]] at ht
        exact hacc i o j hlt ho he ht
      · have hi : i = acc.length := by omega
        subst hi
        rw [show (acc ++ [befStep acc x]).getD acc.length 0 = befStep acc x from by simp [List.getD]] at ht
        have hx : x = o := by
          have := hl 0
          simp only [List.getElem?_cons_zero, Nat.add_zero, Array.getElem?_toList, ho] at this
          exact Option.some.inj this
        subst hx
        have fold : ∀ (es : List Edge) (s : Nat), (∀ e ∈ es, Region.binds .any e = true → L e.on = true) →
            (es.foldl (fun s e => bif Region.binds .any e && Nat.blt e.on acc.length then s ||| 2 ^ e.on ||| acc.getD e.on 0 else s) s).testBit j = true → s.testBit j = true ∨ L j = true := by
          intro es
          induction es with
          | nil => exact fun s _ h => .inl h
          | cons e es ihe =>
            intro s hes h
            simp only [List.foldl_cons] at h
            rcases ihe _ (fun e' h' => hes e' (by simp [h'])) h with h | h
            · cases hb : (Region.binds .any e && Nat.blt e.on acc.length) with
              | false => rw [hb] at h; exact .inl h
              | true =>
                rw [hb] at h
                simp only [cond_true, Nat.testBit_or, Bool.or_eq_true] at h
                simp only [Bool.and_eq_true] at hb
                have hL := hes e (by simp) hb.1
                have hlt : e.on < acc.length := by simpa using hb.2
                rcases h with (h | h) | h
                · exact .inl h
                · rw [Nat.testBit_two_pow] at h
                  have : e.on = j := by simpa using h
                  rw [← this]
                  exact .inr hL
                · have hsz : e.on < ops.size := by
                    have : acc.length < ops.size := (Array.getElem?_eq_some_iff.1 ho).1
                    omega
                  exact .inr (hacc e.on ops[e.on] j hlt (Array.getElem?_eq_getElem hsz) (hD e.on _ (Array.getElem?_eq_getElem hsz) hL) h)
            · exact .inr h
        rcases fold x.after.toList 0 (fun e h => he e (by simpa using h)) ht with h | h
        · simp at h
        · exact h
  intro i o j ho he ht
  exact key ops.toList [] (fun j => by simp) (fun i o j hi => absurd hi (by simp)) i o j ho he ht

end Go.Tri

/-
  REGIONS THAT DRAW THEIR ORDER, THIRD PART: one walk in the text's order serves every order.
-/
namespace Go.Tri
variable {lo : Nat}
open Go.RowKit

/-- One operation, as opW; of a callee its one result is asked. -/
def dOpW (X : Cx) (nm : Nat) (o : Oper) (e : Env) (M : Mem) (K : V → Mem → Prop) : Prop := match o.op with
  | .call c => match c.callee with
    | .builtin .append => match c.args.toList, c.argTypes.toList with
      | [s, x], [t, t'] => bif Nat.beq t t' then (match (X.T.row t).d with
        | .slice el => (match (evA e s).isFull with
          | some ys => (match fullApp X.T el ys (evA e x) M with
            | some (p, v) => p.req (forceV v fun v => K v M)
            | none => False)
          | none => match aAppend X.T nm el (evA e s) (evA e x) M with
            | some (p, v, M') => p.req (forceV v fun v => K v M')
            | none => False)
        | _ => False) else False
      | _, _ => False
    | .builtin .copy => match c.args.toList, c.argTypes.toList with
      | [s, x], [t, _] => (match (X.T.row t).d with
        | .slice el => match aCopy X.T el (evA e s) (evA e x) M with
          | some (p, v, M') => p.req (forceV v fun v => K v M')
          | none => False
        | _ => False)
      | _, _ => False
    | .builtin b => match aBuiltin X.T b c.argTypes.toList (c.args.toList.map (evA e)) M with
      | some (p, v, M') => p.req (forceV v fun v => K v M')
      | none => False
    | _ => calleeW X.P (evA e) c fun f ts xs => bif X.wr.contains f then ∃ R, AImm X.P f xs (fun R' => R' = R) ∧ forceV R fun R => K R M else
        ∃ R, (verOks M xs).req (APure X.P f ((xs.zip ts).map fun (x, t) => byval M 4 (asInts X.T t x)) (fun R' => R' = R)) ∧ forceV R fun R => K R M
  | op => match aop X.T nm op (evA e) M with
    | some (p, v, M') => p.req (forceV v fun v => K v M')
    | none => False

/-- The one object that it looks at. -/
def wkX : Op → Option Operand
  | .load _ x => some x
  | .slice _ x _ _ _ => some x
  | .indexAddr _ x _ => some x
  | .fieldAddr _ x _ => some x
  | _ => none
def V.nameOf : V → Option Nat
  | .ptr n _ _ _ => some n
  | .sl n _ _ _ => some n
  | _ => none
def wkName (ev : Operand → V) (o : Op) : Option Nat := match wkX o with
  | some x => (ev x).nameOf
  | none => none

/-- The object that an append or a store writes to. -/
def apTgt (o : Op) (ev : Operand → V) (v : V) : Option (Option Nat) := match o with
  | .store _ x _ => (match ev x with
    | .ptr n _ _ _ => some (some n)
    | _ => none)
  | _ => match v with
    | .sl t _ _ _ => some (some t)
    | .ints _ _ => some none
    | _ => none

/-- What no order holds apart from an append or a store looks at another object. 'ap': what has been appended to; 'wn': what has been looked at. -/
def logStep (ops : Array Oper) (k : Nat) (o : Oper) (ev : Operand → V) (v : V) (ap wn : List Nat) (K : List Nat → List Nat → Prop) : Prop :=
  bif isApp o.op then (match apTgt o.op ev v with
    | some (some t) => bif wn.contains t then False else K (t :: ap) wn
    | some none => K ap wn
    | none => False)
  else bif wkL ops k then (match wkName ev o.op with
    | some n => bif ap.contains n then False else K ap (n :: wn)
    | none => K ap wn)
  else K ap wn

/-- The walk in the text's order; 'n0': the first name, 'k': the operation's place. -/
def drawW (X : Cx) (ops : Array Oper) (n0 : Nat) : Nat → List Oper → List Nat → List Nat → Env → Mem → (Env → Mem → Prop) → Prop
  | _, [], _, _, e, M, K => K e M
  | k, o :: r, ap, wn, e, M, K => match o.dst with
    | none => guardW ops o e (fun e => forceNo o.op (n0 + k) fun nm => dOpW X nm o e M fun v M' => forceMo o.op M' fun M' => logStep ops k o (evA e) v ap wn fun ap wn => drawW X ops n0 (k + 1) r ap wn e M' K) (fun e => drawW X ops n0 (k + 1) r ap wn e M K)
    | some d => guardW ops o e (fun e => forceNo o.op (n0 + k) fun nm => dOpW X nm o e M fun v M' => forceMo o.op M' fun M' => logStep ops k o (evA e) v ap wn fun ap wn => drawW X ops n0 (k + 1) r ap wn ((d, v) :: e) M' K) (fun e => drawW X ops n0 (k + 1) r ap wn ((d, .un) :: e) M K)

def Mem.leN (nn : Option Nat) (M M' : Mem) : Prop := ∀ n ob, nn = some n → M.get n = some ob → M'.get n = some ob

theorem loadV_leN {T : Tab} {M M' : Mem} {t : TypeId} {x : V} {q : Obl × V} (hM : M.leN x.nameOf M') (h : loadV T M t x = some q) : loadV T M' t x = some q := by
  unfold loadV at h ⊢
  cases hk : knownT (T.row t) with
  | false => rw [hk] at h; cases h
  | true =>
    rw [hk] at h
    simp only [cond_true] at h ⊢
    cases x with
    | ptr n ver i o =>
      simp only [loadV'] at h ⊢
      cases hg : M.get n with
      | none => rw [hg] at h; cases h
      | some ob => rw [hg] at h; rw [hM n ob rfl hg]; exact h
    | _ => exact h

theorem indexV_leN {T : Tab} {M M' : Mem} {t : Nat} {x : V} (hM : M.leN x.nameOf M') {i : Int} {q : Obl × V} (h : indexV T M t x i = some q) : indexV T M' t x i = some q := by
  unfold indexV at h ⊢
  cases hd : (T.row t).d with
  | slice e =>
    rw [hd] at h
    simp only at h ⊢
    cases hk : knownT (T.row e) with
    | false => rw [hk] at h; cases h
    | true =>
      rw [hk] at h
      simp only [cond_true] at h ⊢
      cases x with
      | sl nm ver off len =>
        simp only at h ⊢
        cases hg : M.get nm with
        | none => rw [hg] at h; cases h
        | some ob => rw [hg] at h; rw [hM nm ob rfl hg]; exact h
      | _ => exact h
  | array n e =>
    rw [hd] at h
    simp only at h ⊢
    cases hk : knownT (T.row e) with
    | false => rw [hk] at h; cases h
    | true =>
      rw [hk] at h
      simp only [cond_true] at h ⊢
      cases x with
      | ptr nm ver i0 o =>
        simp only at h ⊢
        cases hg : M.get nm with
        | none => rw [hg] at h; cases h
        | some ob => rw [hg] at h; rw [hM nm ob rfl hg]; exact h
      | _ => exact h
  | _ => rw [hd] at h; cases h

theorem sliceV_leN {M M' : Mem} {x : V} (hM : M.leN x.nameOf M') {sz : Nat} {lo hi : Option Int} {q : Obl × V} (h : sliceV M sz x lo hi = some q) : sliceV M' sz x lo hi = some q := by
  cases x with
  | sl nm ver off len =>
    simp only [sliceV] at h ⊢
    cases hg : M.get nm with
    | none => rw [hg] at h; cases h
    | some ob => rw [hg] at h; rw [hM nm ob rfl hg]; exact h
  | _ => exact h

/-- AN OPERATION THAT LOOKS AT ONE OBJECT. -/
theorem aop_leN {T : Tab} {M M2 : Mem} {nm : Nat} {o : Op} {ev : Operand → V} {p : Obl} {v : V} (hl : isLd o = true) (h : aop T nm o ev M = some (p, v, M2)) :
    M2 = M ∧ ∀ M', M.leN (wkName ev o) M' → aop T nm o ev M' = some (p, v, M') := by
  cases o with
  | load t x =>
    simp only [aop] at h ⊢
    cases hq : loadV T M t (ev x) with
    | none => rw [hq] at h; cases h
    | some q =>
      rw [hq] at h
      simp only [Option.some.injEq, Prod.mk.injEq] at h
      obtain ⟨rfl, rfl, rfl⟩ := h
      refine ⟨rfl, fun M' hM => ?_⟩
      rw [loadV_leN hM hq]
  | slice t x lo hi mx =>
    simp only [aop] at h ⊢
    split at h
    · next e lo' hi' _ _ _ =>
      cases hk : knownT (T.row e) with
      | false => rw [hk] at h; cases h
      | true =>
        rw [hk] at h
        simp only [cond_true] at h ⊢
        cases hs : sliceV M (T.row e).sz (ev x) lo' hi' with
        | none => rw [hs] at h; cases h
        | some q =>
          rw [hs] at h
          simp only [Option.some.injEq, Prod.mk.injEq] at h
          obtain ⟨rfl, rfl, rfl⟩ := h
          refine ⟨rfl, fun M' hM => ?_⟩
          rw [sliceV_leN hM hs]
    · next e y hi' _ _ _ =>
      cases hk : (knownT (T.row e) && Nat.beq (T.row e).sz 1) with
      | false => rw [hk] at h; cases h
      | true =>
        rw [hk] at h
        simp only [cond_true] at h ⊢
        split at h
        · simp only [Option.some.injEq, Prod.mk.injEq] at h
          obtain ⟨rfl, rfl, rfl⟩ := h
          exact ⟨rfl, fun M' _ => rfl⟩
        · cases h
    · next n e lo' hi' _ _ _ =>
      cases hk : (knownT (T.row e) && Nat.beq (T.row e).sz 1) with
      | false => rw [hk] at h; cases h
      | true =>
        rw [hk] at h
        simp only [cond_true] at h ⊢
        split at h
        · next sz g o _ =>
          cases hc : (Nat.beq sz n && Nat.beq o 0 && Nat.ble n 1000 && (List.range n).all (fun k => (g k).isI64)) with
          | false => rw [hc] at h; cases h
          | true =>
            rw [hc] at h
            simp only [cond_true, Option.some.injEq, Prod.mk.injEq] at h
            obtain ⟨rfl, rfl, rfl⟩ := h
            exact ⟨rfl, fun M' _ => by first | rfl | (simp only [cond_true]; rfl)⟩
        · cases h
    · cases h
  | indexAddr t x i =>
    simp only [aop] at h ⊢
    split at h
    · next k n _ =>
      cases hs : indexV T M t (ev x) n with
      | none => rw [hs] at h; cases h
      | some q =>
        rw [hs] at h
        simp only [Option.some.injEq, Prod.mk.injEq] at h
        obtain ⟨rfl, rfl, rfl⟩ := h
        refine ⟨rfl, fun M' hM => ?_⟩
        rw [indexV_leN hM hs]
    · cases h
  | fieldAddr t x f =>
    simp only [aop] at h ⊢
    cases hd : (T.row t).d with
    | struct fs =>
      rw [hd] at h
      simp only at h ⊢
      cases hb : (Nat.blt f fs.length && knownT (T.row (fs.getD f (0, 0)).1) && Nat.blt 0 (T.row (fs.getD f (0, 0)).1).sz) with
      | false => rw [hb] at h; cases h
      | true =>
        rw [hb] at h
        simp only [cond_true] at h ⊢
        cases hx : ev x with
        | ptr n ver i o =>
          rw [hx] at h
          simp only at h ⊢
          cases hg : M.get n with
          | none => rw [hg] at h; cases h
          | some ob =>
            rw [hg] at h
            simp only [Option.some.injEq, Prod.mk.injEq] at h
            obtain ⟨rfl, rfl, rfl⟩ := h
            refine ⟨rfl, fun M' hM => ?_⟩
            rw [hM n ob (by simp only [wkName, wkX, hx, V.nameOf]) hg]
        | at_ sz g o =>
          rw [hx] at h
          simp only [Option.some.injEq, Prod.mk.injEq] at h
          obtain ⟨rfl, rfl, rfl⟩ := h
          exact ⟨rfl, fun M' _ => rfl⟩
        | _ => rw [hx] at h; cases h
    | _ => rw [hd] at h; cases h
  | _ => cases hl

def evF (E : Nat → V) : Operand → V
  | .tmp t => E t
  | .const v => constV v
  | .global g => .lit (.pointer (some ⟨g, 0, none⟩))
  | .func f => .clo f 0 fun _ => .any

theorem evF_eq (e : Env) : evF (Env.get e) = evA e := by funext x; cases x <;> rfl

/-- What is known of an operation in the text's order. -/
inductive DOk (X : Cx) (nm : Nat) (o : Oper) (ev : Operand → V) (M : Mem) (v : V) : Option (Nat × Ob) → Prop where
  | op (p : Obl) (d : Option (Nat × Ob)) (hld : isLd o.op = true → d = none ∧ ∀ M', M.leN (wkName ev o.op) M' → aop X.T nm o.op ev M' = some (p, v, M')) (hc : ∀ c, o.op ≠ .call c) (h : ∀ M', (isRd o.op = true → M.le M') → aop X.T nm o.op ev M' = some (p, v, patch M' d))
      (hd : ∀ n ob, d = some (n, ob) → n = nm ∧ isLoud o.op = false ∨ (isLoud o.op = true ∧ M.get n ≠ none ∧ ∃ t x y, o.op = .store t x y ∧ ∃ ver i k, ev x = .ptr n ver i k)) (hp : p.holds) : DOk X nm o ev M v d
  | app (c : Call) (s x : Operand) (t el : TypeId) (p : Obl) (n : Nat) (ob : Ob) (ho : o.op = .call c) (hc : c.callee = .builtin .append) (ha : c.args.toList = [s, x]) (ht : c.argTypes.toList = [t, t]) (hd : (X.T.row t).d = .slice el)
      (h : ∀ M', M.le M' → aAppend X.T nm el (ev s) (ev x) M' = some (p, v, M'.put n ob)) (hn : n = nm ∨ (M.get n ≠ none ∧ ∃ ver off len, ev s = .sl n ver off len)) (hvn : ∃ ver len, v = .sl n ver 0 len) (hp : p.holds) : DOk X nm o ev M v (some (n, ob))
  | cpy (c : Call) (s x : Operand) (t t' el : TypeId) (p : Obl) (n : Nat) (ob : Ob) (ho : o.op = .call c) (hc : c.callee = .builtin .copy) (ha : c.args.toList = [s, x]) (ht : c.argTypes.toList = [t, t']) (hd : (X.T.row t).d = .slice el)
      (h : ∀ M', M.le M' → aCopy X.T el (ev s) (ev x) M' = some (p, v, M'.put n ob)) (hn : M.get n ≠ none ∧ ∃ ver off len, ev s = .sl n ver off len) (hp : p.holds) : DOk X nm o ev M v (some (n, ob))
  | blt (c : Call) (b : Builtin) (p : Obl) (ho : o.op = .call c) (hc : c.callee = .builtin b) (hb : b ≠ .append) (h : ∀ M', M.le M' → aBuiltin X.T b c.argTypes.toList (c.args.toList.map ev) M' = some (p, v, M')) (hp : p.holds) : DOk X nm o ev M v none
  | pure (c : Call) (g : FuncId) (ts : List TypeId) (xs : List V) (ho : o.op = .call c) (hC : CalleeIs X.P c ev g ts xs) (hv : (verOks M xs).holds)
      (h : APure X.P g ((xs.zip ts).map fun (x, t) => byval M 4 (asInts X.T t x)) (fun R => R = v)) : DOk X nm o ev M v none
  | imm (c : Call) (g : FuncId) (ts : List TypeId) (xs : List V) (ho : o.op = .call c) (hC : CalleeIs X.P c ev g ts xs) (h : AImm X.P g xs (fun R => R = v)) : DOk X nm o ev M v none
  | fapp (c : Call) (s x : Operand) (t el : TypeId) (ys : List Int) (p : Obl) (ho : o.op = .call c) (hc : c.callee = .builtin .append) (ha : c.args.toList = [s, x]) (ht : c.argTypes.toList = [t, t]) (hd : (X.T.row t).d = .slice el)
      (hs : ev s = .full ys) (h : ∀ M', M.le M' → fullApp X.T el ys (ev x) M' = some (p, v)) (hp : p.holds) : DOk X nm o ev M v none

theorem dOpW_ok {X : Cx} {nm : Nat} {o : Oper} {e : Env} {M : Mem} {K : V → Mem → Prop} (h : dOpW X nm o e M K) : ∃ v d, DOk X nm o (evA e) M v d ∧ K v (patch M d) := by
  have plain : (∀ c, o.op ≠ .call c) → (match aop X.T nm o.op (evA e) M with
      | some (p, v, M') => p.req (forceV v fun v => K v M')
      | none => False) → ∃ v d, DOk X nm o (evA e) M v d ∧ K v (patch M d) := by
    intro hc h
    cases hq : aop X.T nm o.op (evA e) M with
    | none => rw [hq] at h; exact h.elim
    | some q =>
      obtain ⟨p, v, M'⟩ := q
      rw [hq] at h
      simp only at h
      rw [Obl.req_iff, forceV_eq] at h
      cases hl : isLd o.op with
      | true =>
        obtain ⟨he, h4⟩ := aop_leN hl hq
        rw [he] at h
        exact ⟨v, none, .op p none (fun _ => ⟨rfl, h4⟩) hc (fun M' hM => h4 M' fun n ob _ hg => hM (by cases ho : o.op <;> rw [ho] at hl <;> first | rfl | cases hl) n ob hg) (fun _ _ h => nomatch h) h.1, h.2⟩
      | false =>
        obtain ⟨d, rfl, h2, h3⟩ := aop_mono hq
        exact ⟨v, d, .op p d (fun h => by rw [hl] at h; cases h) hc h2 h3 h.1, h.2⟩
  unfold dOpW at h
  cases ho : o.op with
  | call c =>
    rw [ho] at h
    simp only at h
    have callee : calleeW X.P (evA e) c (fun f ts xs => bif X.wr.contains f then ∃ R, AImm X.P f xs (fun R' => R' = R) ∧ forceV R fun R => K R M else
        ∃ R, (verOks M xs).req (APure X.P f ((xs.zip ts).map fun (x, t) => byval M 4 (asInts X.T t x)) (fun R' => R' = R)) ∧ forceV R fun R => K R M) → ∃ v d, DOk X nm o (evA e) M v d ∧ K v (patch M d) := by
      intro h
      obtain ⟨g, ts, xs, hK, hC⟩ := calleeW_ok h
      cases hb : X.wr.contains g with
      | true =>
        rw [hb] at hK
        simp only [cond_true] at hK
        obtain ⟨R, h1, h2⟩ := hK
        rw [forceV_eq] at h2
        exact ⟨R, none, .imm c g ts xs ho hC h1, h2⟩
      | false =>
        rw [hb] at hK
        simp only [cond_false] at hK
        obtain ⟨R, h1, h2⟩ := hK
        rw [Obl.req_iff] at h1
        rw [forceV_eq] at h2
        exact ⟨R, none, .pure c g ts xs ho hC h1.1 h1.2, h2⟩
    cases hcal : c.callee with
    | value f => rw [hcal] at h; exact callee h
    | invoke r m => rw [hcal] at h; exact callee h
    | builtin b =>
      rw [hcal] at h
      have gen : b ≠ .append → (match aBuiltin X.T b c.argTypes.toList (c.args.toList.map (evA e)) M with
          | some (p, v, M') => p.req (forceV v fun v => K v M')
          | none => False) → ∃ v d, DOk X nm o (evA e) M v d ∧ K v (patch M d) := by
        intro hne hg
        cases hq : aBuiltin X.T b c.argTypes.toList (c.args.toList.map (evA e)) M with
        | none => rw [hq] at hg; exact hg.elim
        | some q =>
          obtain ⟨p, v, M'⟩ := q
          rw [hq] at hg
          simp only at hg
          rw [Obl.req_iff, forceV_eq] at hg
          obtain ⟨rfl, _⟩ := aBuiltin_mono (M' := M) (fun _ _ h => h) hq
          exact ⟨v, none, .blt c b p ho hcal hne (fun M' hM => (aBuiltin_mono hM hq).2) hg.1, hg.2⟩
      cases b with
      | append =>
        simp only at h
        split at h
        · next s x t t' he ht =>
          cases hb : Nat.beq t t' with
          | false => rw [hb] at h; exact h.elim
          | true =>
            rw [hb] at h
            simp only [cond_true] at h
            have hb := Nat.eq_of_beq_eq_true hb
            subst hb
            cases hd : (X.T.row t).d with
            | slice el =>
              rw [hd] at h
              simp only at h
              cases hf : (evA e s).isFull with
              | some ys =>
                rw [hf] at h
                simp only at h
                cases hq : fullApp X.T el ys (evA e x) M with
                | none => rw [hq] at h; exact h.elim
                | some q =>
                  obtain ⟨p, v⟩ := q
                  rw [hq] at h
                  simp only at h
                  rw [Obl.req_iff, forceV_eq] at h
                  exact ⟨v, none, .fapp c s x t el ys p ho hcal he ht hd (isFull_eq hf) (fun M' hM => fullApp_mono hM hq) h.1, h.2⟩
              | none =>
              rw [hf] at h
              simp only at h
              cases hq : aAppend X.T nm el (evA e s) (evA e x) M with
              | none => rw [hq] at h; exact h.elim
              | some q =>
                obtain ⟨p, v, M'⟩ := q
                rw [hq] at h
                simp only at h
                rw [Obl.req_iff, forceV_eq] at h
                obtain ⟨n, ob, rfl, h2, h3, h4⟩ := aAppend_all hq
                exact ⟨v, some (n, ob), .app c s x t el p n ob ho hcal he ht hd h2 h3 h4 h.1, h.2⟩
            | _ => rw [hd] at h; exact h.elim
        · exact h.elim
      | copy =>
        simp only at h
        split at h
        · next s x t t' he ht =>
          cases hd : (X.T.row t).d with
          | slice el =>
            rw [hd] at h
            simp only at h
            cases hq : aCopy X.T el (evA e s) (evA e x) M with
            | none => rw [hq] at h; exact h.elim
            | some q =>
              obtain ⟨p, v, M'⟩ := q
              rw [hq] at h
              simp only at h
              rw [Obl.req_iff, forceV_eq] at h
              obtain ⟨n, ob, rfl, h2, h3⟩ := aCopy_all hq
              exact ⟨v, some (n, ob), .cpy c s x t t' el p n ob ho hcal he ht hd h2 h3 h.1, h.2⟩
          | _ => rw [hd] at h; exact h.elim
        · exact h.elim
      | _ => exact gen (by intro h; cases h) h
  | _ =>
    refine plain (fun c hc => ?_) ?_
    · rw [ho] at hc; cases hc
    · rw [ho] at h ⊢; exact h

end Go.Tri

/-
  REGIONS THAT DRAW THEIR ORDER, FOURTH PART: the theorem.
-/
namespace Go.Tri
variable {lo : Nat}
open Go.RowKit

section
variable {X : Cx}

/-- What an operation leaves, with its names. -/
def LeftD (X : Cx) (base nm : Nat) (φ : Phi) (w : World) (M : Mem) (o : Oper) (a : Act) (v : V) (d : Option (Nat × Ob)) : Act → World → Prop := fun a' w' =>
  ∃ φ' cv, MemRel X.nb base φ' w' (patch M d) ∧ Rep φ' base w' v cv ∧ Evo w φ w' φ' ∧ a' = a.put o.dst cv ∧ (∀ t r, φ' t = some r → (∃ r0, φ t = some r0) ∨ t = nm) ∧
    (∀ t ob, d = some (t, ob) → t = nm ∨ (isLoud o.op = true ∧ φ t ≠ none)) ∧ (isLoud o.op = true → ∀ t ob, d = some (t, ob) → φ' t ≠ none)

theorem le_refl' (M : Mem) : M.le M := fun _ _ h => h

theorem mem_args (c : Call) {x : Operand} (h : x ∈ c.args.toList) : x ∈ c.operands := by
  simp only [Call.operands, Array.mem_append]
  exact .inr (by simpa using h)

theorem DOk.run {ro : Option Nat} (hT : TabOk X.P X.T) {nm base : Nat} {φ : Phi} {w : World} {M M' : Mem} {o : Oper} {a : Act} {ev : Operand → V} {v : V} {d : Option (Nat × Ob)} (h : DOk X nm o ev M v d)
    (hev : ∀ x ∈ o.op.operands, Rep φ base w (ev x) (a.eval x)) (hle : isRd o.op = true → M.le M' ∨ (isLd o.op = true ∧ M.leN (wkName ev o.op) M')) (hm : MemRel X.nb base φ w M') (hn : φ nm = none) {Q : Exit → Act → World → Prop} :
    o.wpIn (FZ ro) 0 X.P a w (LeftD X base nm φ w M' o a v d) Q := by
  classical
  have hev' : ∀ x, Rep φ base w (if x ∈ o.op.operands then ev x else .any) (a.eval x) := by
    intro x
    split
    · next hx => exact hev x hx
    · trivial
  cases h with
  | op p d hld hc h hd hp =>
    have hcg : aop X.T nm o.op (fun x => if x ∈ o.op.operands then ev x else .any) M' = some (p, v, patch M' d) := by
      have hgo : aop X.T nm o.op ev M' = some (p, v, patch M' d) := by
        cases hld' : isLd o.op with
        | true =>
          obtain ⟨rfl, h4⟩ := hld hld'
          rcases hle (by cases ho : o.op <;> rw [ho] at hld' <;> first | rfl | cases hld') with h5 | ⟨_, h5⟩
          · exact h4 M' fun n ob _ hg => h5 n ob hg
          · exact h4 M' h5
        | false =>
          refine h M' fun hr => ?_
          rcases hle hr with h5 | ⟨h5, _⟩
          · exact h5
          · rw [hld'] at h5; cases h5
      rw [← hgo]
      exact aop_congr fun x hx => by simp [hx]
    obtain ⟨cv, w', φ', hr, hs⟩ := aop_ok (P := X.P) hT hm hn hev' (fun _ => rfl) hc hcg hp
    have hname : ∀ t ob, d = some (t, ob) → t = nm ∨ (isLoud o.op = true ∧ φ t ≠ none) := by
      intro t ob he
      rcases hd t ob he with ⟨h1, _⟩ | ⟨h1, _, t2, x, y, hst, ver, i, k, hev1⟩
      · exact .inl h1
      · refine .inr ⟨h1, fun hnone => ?_⟩
        have := hev x (by rw [hst]; simp [Op.operands])
        rw [hev1] at this
        obtain ⟨r, hr, _⟩ := this
        rw [hnone] at hr
        cases hr
    have hborn : isLoud o.op = true → ∀ t ob, d = some (t, ob) → φ' t ≠ none := by
      intro hl t ob he
      rcases hd t ob he with ⟨_, h2⟩ | ⟨_, _, t2, x, y, hst, ver, i, k, hev1⟩
      · rw [hl] at h2; cases h2
      · have := hev x (by rw [hst]; simp [Op.operands])
        rw [hev1] at this
        obtain ⟨r, hr, _⟩ := this
        obtain ⟨r', h2, _⟩ := hs.evo.names t r hr
        rw [h2]
        exact fun h => nomatch h
    unfold Oper.wpIn
    refine ⟨fun _ _ => trivial, ?_⟩
    rw [Oper.semAt_eq _ _ _ (fun c e => by rw [e] at hcg; simp [aop] at hcg)]
    rcases hr with hr | ⟨hr, rfl⟩
    · rw [hr]
      exact ⟨φ', _, hs.mem, hs.rep, hs.evo, rfl, hs.dom, hname, hborn⟩
    · rw [hr]
      exact ⟨φ', _, hs.mem, hs.rep, hs.evo, rfl, hs.dom, hname, hborn⟩
  | app c s x t el p n ob ho hc ha ht hd h hname hvn hp =>
    have hl : isLoud o.op = true := by rw [ho]; simp [isLoud, hc]
    have hrd : isRd o.op = true := by rw [ho]; rfl
    have ms : s ∈ o.op.operands := by rw [ho]; exact mem_args c (by rw [ha]; simp)
    have mx : x ∈ o.op.operands := by rw [ho]; exact mem_args c (by rw [ha]; simp)
    obtain ⟨cv, w', φ', r1, r2⟩ := aAppend_ok (P := X.P) (ty := o.type) hT hm hn hd (hev s ms) (hev x mx) (h M' ((hle hrd).resolve_right (by rw [ho]; exact fun h => nomatch h.1))) hp
    have harr : c.args.map a.eval = #[a.eval s, a.eval x] := by apply Array.toList_inj.1; rw [Array.toList_map, ha]; rfl
    have htt : c.argTypes = #[t, t] := by apply Array.toList_inj.1; exact ht
    have hrun : (execOp a.eval o).run X.P w = .ok (.value cv) w' := by
      unfold execOp
      rw [ho]
      simp only [resolve, hc, Sem.run_bind, Sem.run_pure, Result.andThen_ok, invoke]
      rw [harr, htt]
      simp only [builtin, Sem.run_bind, r1, Result.andThen_ok, Sem.run_pure]
    unfold Oper.wpIn
    refine ⟨fun _ _ => trivial, ?_⟩
    rw [Oper.semAt_eq _ _ _ (by rw [ho]; exact fun _ h => nomatch h)]
    rw [hrun]
    have hborn : φ' n ≠ none := by
      obtain ⟨ver, len, rfl⟩ := hvn
      obtain ⟨r, hr, _⟩ := r2.rep
      rw [hr]
      exact fun h => nomatch h
    refine ⟨φ', cv, r2.mem, r2.rep, r2.evo, rfl, r2.dom, fun t' ob' he => ?_, fun _ t' ob' he => by cases he; exact hborn⟩
    cases he
    rcases hname with h1 | ⟨_, ver, off, len, h1⟩
    · exact .inl h1
    · refine .inr ⟨hl, fun hnone => ?_⟩
      have := hev s ms
      rw [h1] at this
      obtain ⟨r, hr, _⟩ := this
      rw [hnone] at hr
      cases hr
  | cpy c s x t t' el p n ob ho hc ha ht hd h hname hp =>
    have hl : isLoud o.op = true := by rw [ho]; simp [isLoud, hc]
    have hrd : isRd o.op = true := by rw [ho]; rfl
    have ms : s ∈ o.op.operands := by rw [ho]; exact mem_args c (by rw [ha]; simp)
    have mx : x ∈ o.op.operands := by rw [ho]; exact mem_args c (by rw [ha]; simp)
    obtain ⟨cv, w', r1, r2⟩ := aCopy_ok (P := X.P) (t' := t') (ty := o.type) (nm := nm) hT hm hd (hev s ms) (hev x mx) (h M' ((hle hrd).resolve_right (by rw [ho]; exact fun h => nomatch h.1))) hp
    have harr : c.args.map a.eval = #[a.eval s, a.eval x] := by apply Array.toList_inj.1; rw [Array.toList_map, ha]; rfl
    have htt : c.argTypes = #[t, t'] := by apply Array.toList_inj.1; exact ht
    have hrun : (execOp a.eval o).run X.P w = .ok (.value cv) w' := by
      unfold execOp
      rw [ho]
      simp only [resolve, hc, Sem.run_bind, Sem.run_pure, Result.andThen_ok, invoke]
      rw [harr, htt]
      simp only [builtin, Sem.run_bind, r1, Result.andThen_ok, Sem.run_pure]
    unfold Oper.wpIn
    refine ⟨fun _ _ => trivial, ?_⟩
    rw [Oper.semAt_eq _ _ _ (by rw [ho]; exact fun _ h => nomatch h)]
    rw [hrun]
    have hborn : φ n ≠ none := by
      obtain ⟨_, ver, off, len, h1⟩ := hname
      have := hev s ms
      rw [h1] at this
      obtain ⟨r, hr, _⟩ := this
      rw [hr]
      exact fun h => nomatch h
    exact ⟨φ, cv, r2.mem, r2.rep, r2.evo, rfl, r2.dom, fun t' ob' he => by cases he; exact .inr ⟨hl, hborn⟩, fun _ t' ob' he => by cases he; exact hborn⟩
  | blt c b p ho hc hb h hp =>
    have hrd : isRd o.op = true := by rw [ho]; rfl
    have hmap : c.args.toList.map ev = c.args.toList.map (fun x => if x ∈ o.op.operands then ev x else .any) := by
      refine List.map_congr_left fun x hx => ?_
      rw [if_pos]
      rw [ho]
      exact mem_args c hx
    have hq := h M' ((hle hrd).resolve_right (by rw [ho]; exact fun h => nomatch h.1))
    rw [hmap] at hq
    obtain ⟨_, cv, r1, r2⟩ := aBuiltin_ok (ty := o.type) (cs := c.args.map fun | .const _ => true | _ => false) hT hm hev' hq hp
    have hrun : (execOp a.eval o).run X.P w = .ok (.value cv) w := by
      unfold execOp
      rw [ho]
      simp only [resolve, hc, Sem.run_bind, Sem.run_pure, Result.andThen_ok, invoke]
      exact r1
    unfold Oper.wpIn
    refine ⟨fun _ _ => trivial, ?_⟩
    rw [Oper.semAt_eq _ _ _ (by rw [ho]; exact fun _ h => nomatch h)]
    rw [hrun]
    exact ⟨φ, cv, hm, r2, Evo.refl w φ, rfl, fun t r h => .inl ⟨r, h⟩, (fun t ob he => nomatch he), (fun _ t ob he => nomatch he)⟩
  | fapp c s x t el ys p ho hc ha ht hd hs h hp =>
    have hrd : isRd o.op = true := by rw [ho]; rfl
    have ms : s ∈ o.op.operands := by rw [ho]; exact mem_args c (by rw [ha]; simp)
    have mx : x ∈ o.op.operands := by rw [ho]; exact mem_args c (by rw [ha]; simp)
    have harr : c.args.map a.eval = #[a.eval s, a.eval x] := by apply Array.toList_inj.1; rw [Array.toList_map, ha]; rfl
    have htt : c.argTypes = #[t, t] := by apply Array.toList_inj.1; exact ht
    have hvs := hev s ms
    rw [hs] at hvs
    obtain ⟨cv, w', r1, r2⟩ := fullApp_ok (P := X.P) (ty := o.type) (nm := nm) hT hm hd hvs (hev x mx) (h M' ((hle hrd).resolve_right (by rw [ho]; exact fun h => nomatch h.1))) hp
    have hrun : (execOp a.eval o).run X.P w = .ok (.value cv) w' := by
      unfold execOp
      rw [ho]
      simp only [resolve, hc, Sem.run_bind, Sem.run_pure, Result.andThen_ok, invoke, harr, htt, builtin, r1]
    unfold Oper.wpIn
    refine ⟨fun _ _ => trivial, ?_⟩
    rw [Oper.semAt_eq _ _ _ (by rw [ho]; exact fun _ h => nomatch h)]
    rw [hrun]
    exact ⟨φ, cv, r2.mem, r2.rep, r2.evo, rfl, fun t r h => .inl ⟨r, h⟩, (fun t ob he => nomatch he), (fun _ t ob he => nomatch he)⟩
  | imm c g ts xs ho hC h =>
    unfold AImm at h
    obtain ⟨h0, h1⟩ := h
    obtain ⟨args, s1, s2, s3⟩ := hC.run h0 φ base w a.eval o.type (fun x hx => hev x (by rw [ho]; exact hx))
    have hcalls := h1 _ base φ w M' args hm s1 s2
    have hrun : (execOp a.eval o).run X.P w = .ok (.enter g args) w := by
      unfold execOp
      rw [ho]
      exact s3
    unfold Oper.wpIn
    refine ⟨fun _ _ => trivial, ?_⟩
    rw [Oper.semAt_eq _ _ _ (by rw [ho]; exact fun _ h => nomatch h)]
    rw [hrun]
    refine ⟨FZ_depth, callsIn_FZ (hcalls.mono fun e' w' hq => ?_)⟩
    obtain ⟨u, R, rfl, rfl, hm2, hR, hevo⟩ := hq
    exact ⟨φ, u, hm2, hR, hevo, rfl, fun t r h => .inl ⟨r, h⟩, (fun t ob he => nomatch he), (fun _ t ob he => nomatch he)⟩
  | pure c g ts xs ho hC hv h =>
    have hrd : isRd o.op = true := by rw [ho]; rfl
    unfold APure at h
    obtain ⟨h0, h1⟩ := h
    have hM := (hle hrd).resolve_right (by rw [ho]; exact fun h => nomatch h.1)
    obtain ⟨args, s1, s2, s3⟩ := hC.run h0 φ base w a.eval o.type (fun x hx => hev x (by rw [ho]; exact hx))
    have harg : ∀ (t : TypeId) (y : V) (u : Value), Rep φ base w y u → (verOk M y).holds → Rep (fun _ => none) 0 w (byval M 4 (asInts X.T t y)) u := by
      intro t y u hr hvv
      refine byval_ok hm hM 4 (asInts_ok (T := X.T) (t := t) hr) ?_
      cases y with
      | emp =>
        simp only [asInts]
        split
        · split <;> trivial
        · trivial
      | _ => exact hvv
    have hvs : ∀ l : List V, (verOks M l).holds → ∀ i, (verOk M (l.getD i .any)).holds := by
      intro l
      induction l with
      | nil => intro _ i; simp [verOk, Obl.holds]
      | cons x r ih =>
        rintro ⟨a, b⟩ i
        cases i with
        | zero => exact a
        | succ i => simpa using ih b i
    have hcalls := h1 w args (by simp [s1, hC.len]) (fun i => by
      by_cases hi : i < xs.length
      · have hi2 : i < ts.length := by have := hC.len; omega
        have e1 : ((xs.zip ts).map fun (x, t) => byval M 4 (asInts X.T t x)).getD i .any = byval M 4 (asInts X.T ts[i] (xs.getD i .any)) := by
          simp only [List.getD, List.getElem?_map]
          rw [List.getElem?_eq_getElem (by simp only [List.length_zip]; omega), List.getElem?_eq_getElem hi]
          simp
        rw [e1]
        exact harg _ _ _ (s2 i) (hvs _ hv i)
      · have e1 : ((xs.zip ts).map fun (x, t) => byval M 4 (asInts X.T t x)).getD i .any = .any := by
          simp only [List.getD]
          rw [List.getElem?_eq_none (by simp only [List.length_map, List.length_zip]; omega)]
          rfl
        rw [e1]
        trivial)
    have hrun : (execOp a.eval o).run X.P w = .ok (.enter g args) w := by
      unfold execOp
      rw [ho]
      exact s3
    unfold Oper.wpIn
    refine ⟨fun _ _ => trivial, ?_⟩
    rw [Oper.semAt_eq _ _ _ (by rw [ho]; exact fun _ h => nomatch h)]
    rw [hrun]
    refine ⟨FZ_depth, callsIn_FZ (hcalls.mono fun e' w' hq => ?_)⟩
    obtain ⟨u, R, rfl, rfl, hF, hR, hevo⟩ := hq
    have hmw : ∀ t r, φ t = some r → 0 < r.cap → w'.heap[r.g]? = w.heap[r.g]? := fun t r ht hp => hevo.block r.g (hm.lt ht hp) (notLive_none _)
    have hev2 : Evo w φ w' φ := ⟨hevo.os, hevo.tape, hevo.output, hevo.size, fun b hb _ => hevo.block b hb (notLive_none b), fun t r ht hp _ hn => hn t r ht hp rfl, fun _ r h => ⟨r, h, rfl, rfl, Nat.le_refl _, fun _ => rfl⟩, hevo.drawn⟩
    exact ⟨φ, u, hm.evo hev2 hmw, Rep_fresh (fun t r ht hp => hm.lt ht hp) hm.le R u hF hR, hev2, rfl, fun t r h => .inl ⟨r, h⟩, (fun t ob he => nomatch he), (fun _ t ob he => nomatch he)⟩

end
end Go.Tri
