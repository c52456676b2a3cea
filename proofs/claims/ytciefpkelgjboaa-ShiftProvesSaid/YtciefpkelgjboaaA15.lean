/-
  REGIONS THAT DRAW THEIR ORDER, THIRD PART: one walk in the text's order serves every order.
-/
import Derived.Test.YtciefpkelgjboaaA14
namespace Go.Tri
variable {lo : Nat}
open Go.RowKit

/-- One operation, as opW; of a callee its one result is asked. -/
def dOpW (X : Cx) (nm : Nat) (o : Oper) (e : Env) (M : Mem) (K : V → Mem → Prop) : Prop := match o.op with
  | .call c => match c.callee with
    | .builtin .append => match c.args.toList, c.argTypes.toList with
      | [s, x], [t, t'] => bif Nat.beq t t' then (match (X.T.row t).d with
        | .slice el => (match (evA e s).isFull with
          | some ys => (match fullApp X.T el ys (evA e x) M with
            | some (p, v) => p.req (forceV v fun v => K v M)
            | none => False)
          | none => match aAppend X.T nm el (evA e s) (evA e x) M with
            | some (p, v, M') => p.req (forceV v fun v => K v M')
            | none => False)
        | _ => False) else False
      | _, _ => False
    | .builtin .copy => match c.args.toList, c.argTypes.toList with
      | [s, x], [t, _] => (match (X.T.row t).d with
        | .slice el => match aCopy X.T el (evA e s) (evA e x) M with
          | some (p, v, M') => p.req (forceV v fun v => K v M')
          | none => False
        | _ => False)
      | _, _ => False
    | .builtin b => match aBuiltin X.T b c.argTypes.toList (c.args.toList.map (evA e)) M with
      | some (p, v, M') => p.req (forceV v fun v => K v M')
      | none => False
    | _ => calleeW X.P (evA e) c fun f ts xs => bif X.wr.contains f then ∃ R, AImm X.P f xs (fun R' => R' = R) ∧ forceV R fun R => K R M else
        ∃ R, (verOks M xs).req (APure X.P f ((xs.zip ts).map fun (x, t) => byval M 4 (asInts X.T t x)) (fun R' => R' = R)) ∧ forceV R fun R => K R M
  | op => match aop X.T nm op (evA e) M with
    | some (p, v, M') => p.req (forceV v fun v => K v M')
    | none => False

/-- The one object that it looks at. -/
def wkX : Op → Option Operand
  | .load _ x => some x
  | .slice _ x _ _ _ => some x
  | .indexAddr _ x _ => some x
  | _ => none
def V.nameOf : V → Option Nat
  | .ptr n _ _ _ => some n
  | .sl n _ _ _ => some n
  | _ => none
def wkName (ev : Operand → V) (o : Op) : Option Nat := match wkX o with
  | some x => (ev x).nameOf
  | none => none

/-- The object that an append or a store writes to. -/
def apTgt (o : Op) (ev : Operand → V) (v : V) : Option (Option Nat) := match o with
  | .store _ x _ => (match ev x with
    | .ptr n _ _ _ => some (some n)
    | _ => none)
  | _ => match v with
    | .sl t _ _ _ => some (some t)
    | .ints _ _ => some none
    | _ => none

/-- What no order holds apart from an append or a store looks at another object. 'ap': what has been appended to; 'wn': what has been looked at. -/
def logStep (ops : Array Oper) (k : Nat) (o : Oper) (ev : Operand → V) (v : V) (ap wn : List Nat) (K : List Nat → List Nat → Prop) : Prop :=
  bif isApp o.op then (match apTgt o.op ev v with
    | some (some t) => bif wn.contains t then False else K (t :: ap) wn
    | some none => K ap wn
    | none => False)
  else bif wkL ops k then (match wkName ev o.op with
    | some n => bif ap.contains n then False else K ap (n :: wn)
    | none => K ap wn)
  else K ap wn

/-- The walk in the text's order; 'n0': the first name, 'k': the operation's place. -/
def drawW (X : Cx) (ops : Array Oper) (n0 : Nat) : Nat → List Oper → List Nat → List Nat → Env → Mem → (Env → Mem → Prop) → Prop
  | _, [], _, _, e, M, K => K e M
  | k, o :: r, ap, wn, e, M, K => match o.dst with
    | none => guardW ops o e (fun e => forceNo o.op (n0 + k) fun nm => dOpW X nm o e M fun v M' => forceMo o.op M' fun M' => logStep ops k o (evA e) v ap wn fun ap wn => drawW X ops n0 (k + 1) r ap wn e M' K) (fun e => drawW X ops n0 (k + 1) r ap wn e M K)
    | some d => guardW ops o e (fun e => forceNo o.op (n0 + k) fun nm => dOpW X nm o e M fun v M' => forceMo o.op M' fun M' => logStep ops k o (evA e) v ap wn fun ap wn => drawW X ops n0 (k + 1) r ap wn ((d, v) :: e) M' K) (fun e => drawW X ops n0 (k + 1) r ap wn ((d, .un) :: e) M K)

def Mem.leN (nn : Option Nat) (M M' : Mem) : Prop := ∀ n ob, nn = some n → M.get n = some ob → M'.get n = some ob

theorem loadV_leN {T : Tab} {M M' : Mem} {t : TypeId} {x : V} {q : Obl × V} (hM : M.leN x.nameOf M') (h : loadV T M t x = some q) : loadV T M' t x = some q := by
  unfold loadV at h ⊢
  cases hk : knownT (T.row t) with
  | false => rw [hk] at h; cases h
  | true =>
    rw [hk] at h
    simp only [cond_true] at h ⊢
    cases x with
    | ptr n ver i o =>
      simp only [loadV'] at h ⊢
      cases hg : M.get n with
      | none => rw [hg] at h; cases h
      | some ob => rw [hg] at h; rw [hM n ob rfl hg]; exact h
    | _ => exact h

theorem indexV_leN {T : Tab} {M M' : Mem} {t : Nat} {x : V} (hM : M.leN x.nameOf M') {i : Int} {q : Obl × V} (h : indexV T M t x i = some q) : indexV T M' t x i = some q := by
  unfold indexV at h ⊢
  cases hd : (T.row t).d with
  | slice e =>
    rw [hd] at h
    simp only at h ⊢
    cases hk : knownT (T.row e) with
    | false => rw [hk] at h; cases h
    | true =>
      rw [hk] at h
      simp only [cond_true] at h ⊢
      cases x with
      | sl nm ver off len =>
        simp only at h ⊢
        cases hg : M.get nm with
        | none => rw [hg] at h; cases h
        | some ob => rw [hg] at h; rw [hM nm ob rfl hg]; exact h
      | _ => exact h
  | array n e =>
    rw [hd] at h
    simp only at h ⊢
    cases hk : knownT (T.row e) with
    | false => rw [hk] at h; cases h
    | true =>
      rw [hk] at h
      simp only [cond_true] at h ⊢
      cases x with
      | ptr nm ver i0 o =>
        simp only at h ⊢
        cases hg : M.get nm with
        | none => rw [hg] at h; cases h
        | some ob => rw [hg] at h; rw [hM nm ob rfl hg]; exact h
      | _ => exact h
  | _ => rw [hd] at h; cases h

theorem sliceV_leN {M M' : Mem} {x : V} (hM : M.leN x.nameOf M') {sz : Nat} {lo hi : Option Int} {q : Obl × V} (h : sliceV M sz x lo hi = some q) : sliceV M' sz x lo hi = some q := by
  cases x with
  | sl nm ver off len =>
    simp only [sliceV] at h ⊢
    cases hg : M.get nm with
    | none => rw [hg] at h; cases h
    | some ob => rw [hg] at h; rw [hM nm ob rfl hg]; exact h
  | _ => exact h

/-- AN OPERATION THAT LOOKS AT ONE OBJECT. -/
theorem aop_leN {T : Tab} {M M2 : Mem} {nm : Nat} {o : Op} {ev : Operand → V} {p : Obl} {v : V} (hl : isLd o = true) (h : aop T nm o ev M = some (p, v, M2)) :
    M2 = M ∧ ∀ M', M.leN (wkName ev o) M' → aop T nm o ev M' = some (p, v, M') := by
  cases o with
  | load t x =>
    simp only [aop] at h ⊢
    cases hq : loadV T M t (ev x) with
    | none => rw [hq] at h; cases h
    | some q =>
      rw [hq] at h
      simp only [Option.some.injEq, Prod.mk.injEq] at h
      obtain ⟨rfl, rfl, rfl⟩ := h
      refine ⟨rfl, fun M' hM => ?_⟩
      rw [loadV_leN hM hq]
  | slice t x lo hi mx =>
    simp only [aop] at h ⊢
    split at h
    · next e lo' hi' _ _ _ =>
      cases hk : knownT (T.row e) with
      | false => rw [hk] at h; cases h
      | true =>
        rw [hk] at h
        simp only [cond_true] at h ⊢
        cases hs : sliceV M (T.row e).sz (ev x) lo' hi' with
        | none => rw [hs] at h; cases h
        | some q =>
          rw [hs] at h
          simp only [Option.some.injEq, Prod.mk.injEq] at h
          obtain ⟨rfl, rfl, rfl⟩ := h
          refine ⟨rfl, fun M' hM => ?_⟩
          rw [sliceV_leN hM hs]
    · next e y hi' _ _ _ =>
      cases hk : (knownT (T.row e) && Nat.beq (T.row e).sz 1) with
      | false => rw [hk] at h; cases h
      | true =>
        rw [hk] at h
        simp only [cond_true] at h ⊢
        split at h
        · simp only [Option.some.injEq, Prod.mk.injEq] at h
          obtain ⟨rfl, rfl, rfl⟩ := h
          exact ⟨rfl, fun M' _ => rfl⟩
        · cases h
    · next n e lo' hi' _ _ _ =>
      cases hk : (knownT (T.row e) && Nat.beq (T.row e).sz 1) with
      | false => rw [hk] at h; cases h
      | true =>
        rw [hk] at h
        simp only [cond_true] at h ⊢
        split at h
        · next sz g o _ =>
          cases hc : (Nat.beq sz n && Nat.beq o 0 && Nat.ble n 1000 && (List.range n).all (fun k => (g k).isI64)) with
          | false => rw [hc] at h; cases h
          | true =>
            rw [hc] at h
            simp only [cond_true, Option.some.injEq, Prod.mk.injEq] at h
            obtain ⟨rfl, rfl, rfl⟩ := h
            exact ⟨rfl, fun M' _ => by first | rfl | (simp only [cond_true]; rfl)⟩
        · cases h
    · cases h
  | indexAddr t x i =>
    simp only [aop] at h ⊢
    split at h
    · next k n _ =>
      cases hs : indexV T M t (ev x) n with
      | none => rw [hs] at h; cases h
      | some q =>
        rw [hs] at h
        simp only [Option.some.injEq, Prod.mk.injEq] at h
        obtain ⟨rfl, rfl, rfl⟩ := h
        refine ⟨rfl, fun M' hM => ?_⟩
        rw [indexV_leN hM hs]
    · cases h
  | _ => cases hl

def evF (E : Nat → V) : Operand → V
  | .tmp t => E t
  | .const v => constV v
  | .global g => .lit (.pointer (some ⟨g, 0, none⟩))
  | .func f => .clo f 0 fun _ => .any

theorem evF_eq (e : Env) : evF (Env.get e) = evA e := by funext x; cases x <;> rfl

/-- What is known of an operation in the text's order. -/
inductive DOk (X : Cx) (nm : Nat) (o : Oper) (ev : Operand → V) (M : Mem) (v : V) : Option (Nat × Ob) → Prop where
  | op (p : Obl) (d : Option (Nat × Ob)) (hld : isLd o.op = true → d = none ∧ ∀ M', M.leN (wkName ev o.op) M' → aop X.T nm o.op ev M' = some (p, v, M')) (hc : ∀ c, o.op ≠ .call c) (h : ∀ M', (isRd o.op = true → M.le M') → aop X.T nm o.op ev M' = some (p, v, patch M' d))
      (hd : ∀ n ob, d = some (n, ob) → n = nm ∧ isLoud o.op = false ∨ (isLoud o.op = true ∧ M.get n ≠ none ∧ ∃ t x y, o.op = .store t x y ∧ ∃ ver i k, ev x = .ptr n ver i k)) (hp : p.holds) : DOk X nm o ev M v d
  | app (c : Call) (s x : Operand) (t el : TypeId) (p : Obl) (n : Nat) (ob : Ob) (ho : o.op = .call c) (hc : c.callee = .builtin .append) (ha : c.args.toList = [s, x]) (ht : c.argTypes.toList = [t, t]) (hd : (X.T.row t).d = .slice el)
      (h : ∀ M', M.le M' → aAppend X.T nm el (ev s) (ev x) M' = some (p, v, M'.put n ob)) (hn : n = nm ∨ (M.get n ≠ none ∧ ∃ ver off len, ev s = .sl n ver off len)) (hvn : ∃ ver len, v = .sl n ver 0 len) (hp : p.holds) : DOk X nm o ev M v (some (n, ob))
  | cpy (c : Call) (s x : Operand) (t t' el : TypeId) (p : Obl) (n : Nat) (ob : Ob) (ho : o.op = .call c) (hc : c.callee = .builtin .copy) (ha : c.args.toList = [s, x]) (ht : c.argTypes.toList = [t, t']) (hd : (X.T.row t).d = .slice el)
      (h : ∀ M', M.le M' → aCopy X.T el (ev s) (ev x) M' = some (p, v, M'.put n ob)) (hn : M.get n ≠ none ∧ ∃ ver off len, ev s = .sl n ver off len) (hp : p.holds) : DOk X nm o ev M v (some (n, ob))
  | blt (c : Call) (b : Builtin) (p : Obl) (ho : o.op = .call c) (hc : c.callee = .builtin b) (hb : b ≠ .append) (h : ∀ M', M.le M' → aBuiltin X.T b c.argTypes.toList (c.args.toList.map ev) M' = some (p, v, M')) (hp : p.holds) : DOk X nm o ev M v none
  | pure (c : Call) (g : FuncId) (ts : List TypeId) (xs : List V) (ho : o.op = .call c) (hC : CalleeIs X.P c ev g ts xs) (hv : (verOks M xs).holds)
      (h : APure X.P g ((xs.zip ts).map fun (x, t) => byval M 4 (asInts X.T t x)) (fun R => R = v)) : DOk X nm o ev M v none
  | imm (c : Call) (g : FuncId) (ts : List TypeId) (xs : List V) (ho : o.op = .call c) (hC : CalleeIs X.P c ev g ts xs) (h : AImm X.P g xs (fun R => R = v)) : DOk X nm o ev M v none
  | fapp (c : Call) (s x : Operand) (t el : TypeId) (ys : List Int) (p : Obl) (ho : o.op = .call c) (hc : c.callee = .builtin .append) (ha : c.args.toList = [s, x]) (ht : c.argTypes.toList = [t, t]) (hd : (X.T.row t).d = .slice el)
      (hs : ev s = .full ys) (h : ∀ M', M.le M' → fullApp X.T el ys (ev x) M' = some (p, v)) (hp : p.holds) : DOk X nm o ev M v none

theorem dOpW_ok {X : Cx} {nm : Nat} {o : Oper} {e : Env} {M : Mem} {K : V → Mem → Prop} (h : dOpW X nm o e M K) : ∃ v d, DOk X nm o (evA e) M v d ∧ K v (patch M d) := by
  have plain : (∀ c, o.op ≠ .call c) → (match aop X.T nm o.op (evA e) M with
      | some (p, v, M') => p.req (forceV v fun v => K v M')
      | none => False) → ∃ v d, DOk X nm o (evA e) M v d ∧ K v (patch M d) := by
    intro hc h
    cases hq : aop X.T nm o.op (evA e) M with
    | none => rw [hq] at h; exact h.elim
    | some q =>
      obtain ⟨p, v, M'⟩ := q
      rw [hq] at h
      simp only at h
      rw [Obl.req_iff, forceV_eq] at h
      cases hl : isLd o.op with
      | true =>
        obtain ⟨he, h4⟩ := aop_leN hl hq
        rw [he] at h
        exact ⟨v, none, .op p none (fun _ => ⟨rfl, h4⟩) hc (fun M' hM => h4 M' fun n ob _ hg => hM (by cases ho : o.op <;> rw [ho] at hl <;> first | rfl | cases hl) n ob hg) (fun _ _ h => nomatch h) h.1, h.2⟩
      | false =>
        obtain ⟨d, rfl, h2, h3⟩ := aop_mono hq
        exact ⟨v, d, .op p d (fun h => by rw [hl] at h; cases h) hc h2 h3 h.1, h.2⟩
  unfold dOpW at h
  cases ho : o.op with
  | call c =>
    rw [ho] at h
    simp only at h
    have callee : calleeW X.P (evA e) c (fun f ts xs => bif X.wr.contains f then ∃ R, AImm X.P f xs (fun R' => R' = R) ∧ forceV R fun R => K R M else
        ∃ R, (verOks M xs).req (APure X.P f ((xs.zip ts).map fun (x, t) => byval M 4 (asInts X.T t x)) (fun R' => R' = R)) ∧ forceV R fun R => K R M) → ∃ v d, DOk X nm o (evA e) M v d ∧ K v (patch M d) := by
      intro h
      obtain ⟨g, ts, xs, hK, hC⟩ := calleeW_ok h
      cases hb : X.wr.contains g with
      | true =>
        rw [hb] at hK
        simp only [cond_true] at hK
        obtain ⟨R, h1, h2⟩ := hK
        rw [forceV_eq] at h2
        exact ⟨R, none, .imm c g ts xs ho hC h1, h2⟩
      | false =>
        rw [hb] at hK
        simp only [cond_false] at hK
        obtain ⟨R, h1, h2⟩ := hK
        rw [Obl.req_iff] at h1
        rw [forceV_eq] at h2
        exact ⟨R, none, .pure c g ts xs ho hC h1.1 h1.2, h2⟩
    cases hcal : c.callee with
    | value f => rw [hcal] at h; exact callee h
    | invoke r m => rw [hcal] at h; exact callee h
    | builtin b =>
      rw [hcal] at h
      have gen : b ≠ .append → (match aBuiltin X.T b c.argTypes.toList (c.args.toList.map (evA e)) M with
          | some (p, v, M') => p.req (forceV v fun v => K v M')
          | none => False) → ∃ v d, DOk X nm o (evA e) M v d ∧ K v (patch M d) := by
        intro hne hg
        cases hq : aBuiltin X.T b c.argTypes.toList (c.args.toList.map (evA e)) M with
        | none => rw [hq] at hg; exact hg.elim
        | some q =>
          obtain ⟨p, v, M'⟩ := q
          rw [hq] at hg
          simp only at hg
          rw [Obl.req_iff, forceV_eq] at hg
          obtain ⟨rfl, _⟩ := aBuiltin_mono (M' := M) (fun _ _ h => h) hq
          exact ⟨v, none, .blt c b p ho hcal hne (fun M' hM => (aBuiltin_mono hM hq).2) hg.1, hg.2⟩
      cases b with
      | append =>
        simp only at h
        split at h
        · next s x t t' he ht =>
          cases hb : Nat.beq t t' with
          | false => rw [hb] at h; exact h.elim
          | true =>
            rw [hb] at h
            simp only [cond_true] at h
            have hb := Nat.eq_of_beq_eq_true hb
            subst hb
            cases hd : (X.T.row t).d with
            | slice el =>
              rw [hd] at h
              simp only at h
              cases hf : (evA e s).isFull with
              | some ys =>
                rw [hf] at h
                simp only at h
                cases hq : fullApp X.T el ys (evA e x) M with
                | none => rw [hq] at h; exact h.elim
                | some q =>
                  obtain ⟨p, v⟩ := q
                  rw [hq] at h
                  simp only at h
                  rw [Obl.req_iff, forceV_eq] at h
                  exact ⟨v, none, .fapp c s x t el ys p ho hcal he ht hd (isFull_eq hf) (fun M' hM => fullApp_mono hM hq) h.1, h.2⟩
              | none =>
              rw [hf] at h
              simp only at h
              cases hq : aAppend X.T nm el (evA e s) (evA e x) M with
              | none => rw [hq] at h; exact h.elim
              | some q =>
                obtain ⟨p, v, M'⟩ := q
                rw [hq] at h
                simp only at h
                rw [Obl.req_iff, forceV_eq] at h
                obtain ⟨n, ob, rfl, h2, h3, h4⟩ := aAppend_all hq
                exact ⟨v, some (n, ob), .app c s x t el p n ob ho hcal he ht hd h2 h3 h4 h.1, h.2⟩
            | _ => rw [hd] at h; exact h.elim
        · exact h.elim
      | copy =>
        simp only at h
        split at h
        · next s x t t' he ht =>
          cases hd : (X.T.row t).d with
          | slice el =>
            rw [hd] at h
            simp only at h
            cases hq : aCopy X.T el (evA e s) (evA e x) M with
            | none => rw [hq] at h; exact h.elim
            | some q =>
              obtain ⟨p, v, M'⟩ := q
              rw [hq] at h
              simp only at h
              rw [Obl.req_iff, forceV_eq] at h
              obtain ⟨n, ob, rfl, h2, h3⟩ := aCopy_all hq
              exact ⟨v, some (n, ob), .cpy c s x t t' el p n ob ho hcal he ht hd h2 h3 h.1, h.2⟩
          | _ => rw [hd] at h; exact h.elim
        · exact h.elim
      | _ => exact gen (by intro h; cases h) h
  | _ =>
    refine plain (fun c hc => ?_) ?_
    · rw [ho] at hc; cases hc
    · rw [ho] at h ⊢; exact h

end Go.Tri
