/-
  CLOSED CALLS BY EVALUATION: an evaluator that the kernel runs; sound for the walk's own Prop.
-/
import Derived.Test.YtjcjjakmggfmcaaA21
namespace Go.Tri
open Go.RowKit

def Obl.dec : Obl → Bool
  | .tt => true
  | .inr x => decide (-9223372036854775808 ≤ x) && decide (x ≤ 9223372036854775807)
  | .le a b => decide (a ≤ b)
  | .lt a b => decide (a < b)
  | .ne a b => a != b
  | .eqn a b => Nat.beq a b
  | .and p q => p.dec && q.dec

theorem Obl.dec_holds : ∀ {p : Obl}, p.dec = true → p.holds
  | .tt, _ => trivial
  | .inr x, h => by simp only [Obl.dec, Bool.and_eq_true, decide_eq_true_eq] at h; unfold Obl.holds InR; exact h
  | .le a b, h => by simpa [Obl.dec, Obl.holds] using h
  | .lt a b, h => by simpa [Obl.dec, Obl.holds] using h
  | .ne a b, h => by simpa [Obl.dec, Obl.holds] using h
  | .eqn a b, h => Nat.eq_of_beq_eq_true h
  | .and p q, h => by simp only [Obl.dec, Bool.and_eq_true] at h; exact ⟨Obl.dec_holds h.1, Obl.dec_holds h.2⟩

def getB : Env → Nat → V
  | [], _ => .any
  | (i, x) :: e, j => bif Nat.beq i j then x else getB e j

theorem getB_eq : getB = Env.get := by
  funext e j
  induction e with
  | nil => rfl
  | cons p e ih =>
    obtain ⟨i, x⟩ := p
    simp only [getB, Env.get, ih]
    cases h : Nat.beq i j with
    | true => rw [if_pos (Nat.eq_of_beq_eq_true h)]; rfl
    | false => rw [if_neg (fun e => by rw [e, Nat.beq_refl] at h; cases h)]; rfl

def evB (e : Env) : Operand → V
  | .tmp t => getB e t
  | .const v => constV v
  | .global g => .lit (.pointer (some ⟨g, 0, none⟩))
  | .func f => .clo f 0 fun _ => .any

theorem evB_eq : evB = evA := by
  funext e x
  cases x <;> simp only [evB, evA, getB_eq]

abbrev CallE := FuncId → List TypeId → List V → Mem → Option (V × Mem)

/-! Values are made literal as they are stored. -/
def forceN {α : Type} (n : Nat) (K : Nat → α) : α := match n with
  | 0 => K 0
  | m + 1 => K (m + 1)
def forceI {α : Type} (i : Int) (K : Int → α) : α := match i with
  | .ofNat n => forceN n fun n => K (.ofNat n)
  | .negSucc n => forceN n fun n => K (.negSucc n)
def forceE {α : Type} (v : V) (K : V → α) : α := match v with
  | .lit u => (match u with
    | .int k n => forceI n fun n => K (.lit (.int k n))
    | .bool b => (match b with
      | true => K (.lit (.bool true))
      | false => K (.lit (.bool false)))
    | u => K (.lit u))
  | .sl t ver off len => forceN t fun t => forceN ver fun ver => forceN off fun off => forceN len fun len => K (.sl t ver off len)
  | .ptr t ver i o => forceN t fun t => forceN ver fun ver => forceN i fun i => forceN o fun o => K (.ptr t ver i o)
  | .ints fr xs => K (.ints fr xs)
  | .seq fr sz n f => K (.seq fr sz n f)
  | .at_ sz g o => K (.at_ sz g o)
  | .agg n g => K (.agg n g)
  | .tup n g => K (.tup n g)
  | .clo f n g => K (.clo f n g)
  | .emp => K .emp
  | .any => K .any
theorem forceN_eq {α : Type} (n : Nat) (K : Nat → α) : forceN n K = K n := by cases n <;> rfl
theorem forceI_eq {α : Type} (i : Int) (K : Int → α) : forceI i K = K i := by cases i <;> simp only [forceI, forceN_eq]
theorem forceE_eq {α : Type} (v : V) (K : V → α) : forceE v K = K v := by
  cases v with
  | lit u => cases u with
    | int k n => simp only [forceE, forceI_eq]
    | bool b => cases b <;> rfl
    | _ => rfl
  | sl => simp only [forceE, forceN_eq]
  | ptr => simp only [forceE, forceN_eq]
  | _ => rfl

def opE (T : Tab) (call : CallE) (nm : Nat) (o : Oper) (e : Env) (M : Mem) : Option (V × Mem) := match o.op with
  | .call c => match c.callee with
    | .builtin .append => match c.args.toList, c.argTypes.toList with
      | [s, x], [t, t'] => bif Nat.beq t t' then (match (T.row t).d with
        | .slice el => match aAppend T nm el (evB e s) (evB e x) M with
          | some (p, v, M') => bif p.dec then some (v, M') else none
          | none => none
        | _ => none) else none
      | _, _ => none
    | .builtin b => match aBuiltin T b c.argTypes.toList (c.args.toList.map (evB e)) M with
      | some (p, v, M') => bif p.dec then some (v, M') else none
      | none => none
    | .value f => match evB e f with
      | .clo f n g => bif Nat.beq c.args.size c.argTypes.size then call f (c.argTypes.toList ++ List.replicate n 0) (c.args.toList.map (evB e) ++ (List.range n).map g) M else none
      | _ => none
    | _ => none
  | op => match aop T nm op (evB e) M with
    | some (p, v, M') => bif p.dec then some (v, M') else none
    | none => none

def guardE (ops : Array Oper) (o : Oper) (e : Env) : Option (Bool × Env) := match o.guard with
  | none => some (true, e)
  | some (j, want) => match (ops[j]?).bind (·.dst) with
    | none => some (false, e)
    | some d => match getB e d with
      | .lit (.bool b) => some (b == want, (d, .bool b) :: e)
      | .lit (.tuple _) => some (false, e)
      | _ => none

def stepE (o : Oper) (v : V) (e : Env) : Env := match o.dst with
  | some d => (d, v) :: e
  | none => e

/-- The operations in the text's order; 'nm': the name of what an operation makes. -/
def opsE (T : Tab) (call : CallE) (ops : Array Oper) (nm : Nat → Mem → Nat) : Nat → List Oper → Env → Mem → Option (Env × Mem)
  | _, [], e, M => some (e, M)
  | k, o :: r, e, M => match guardE ops o e with
    | some (true, e) => match opE T call (nm k M) o e M with
      | some (v, M') => forceE v fun v => opsE T call ops nm (k + 1) r (stepE o v e) M'
      | none => none
    | some (false, e) => opsE T call ops nm (k + 1) r (stepE o .un e) M
    | none => none

def loopE (body : Env → Mem → Option (Exit × Env × Mem)) (keys : List Nat) : Nat → Env → Mem → Option (Exit × Env × Mem)
  | 0, _, _ => none
  | n + 1, e, M => match body e M with
    | some (.normal, e', M') => loopE body keys n (keys.zip (keys.map (getB e'))) M'
    | some (x, e', M') => some (x, e', M')
    | none => none

def keysOf : Env → List Nat → List Nat
  | [], acc => acc
  | (i, _) :: e, acc => keysOf e (bif acc.contains i then acc else i :: acc)

def codeE (T : Tab) (call dcall : CallE) (L : Nat) : Code → Env → Mem → Option (Exit × Env × Mem)
  | .skip, e, M => some (.normal, e, M)
  | .label _, e, M => some (.normal, e, M)
  | .ret, e, M => some (.ret, e, M)
  | .exit id, e, M => some (.exit id, e, M)
  | .seq a b, e, M => match codeE T call dcall L a e M with
    | some (.normal, e', M') => codeE T call dcall L b e' M'
    | some (x, e', M') => some (x, e', M')
    | none => none
  | .cond c a b, e, M => match evB e c with
    | .lit (.bool true) => codeE T call dcall L a e M
    | .lit (.bool false) => codeE T call dcall L b e M
    | _ => none
  | .block id a, e, M => match codeE T call dcall L a e M with
    | some (.exit id', e', M') => bif Nat.beq id' id then some (.normal, e', M') else some (.exit id', e', M')
    | some (x, e', M') => some (x, e', M')
    | none => none
  | .region _ ops draw, e, M =>
    match (bif draw then opsE T dcall ops (fun k _ => M.length + k) 0 ops.toList e M else opsE T call ops (fun _ M => M.length) 0 ops.toList e M) with
    | some (e', M') => some (.normal, e', M')
    | none => none
  | .loop c, e, M => loopE (codeE T call dcall L c) (keysOf e []) L e M
  | _, _, _ => none

/-- What is checked of a code ahead. -/
def codeOk (nt : Nat) : Code → Bool
  | .seq a b => codeOk nt a && codeOk nt b
  | .cond _ a b => codeOk nt a && codeOk nt b
  | .block _ a => codeOk nt a
  | .loop a => codeOk nt a
  | .region _ ops draw => bif draw then drawOk nt ops else ops.toList.all (dstOk nt)
  | _ => true

section
variable {X : Cx}

theorem opE_ok {call : CallE} (hcall : ∀ f ts xs M v M', call f ts xs M = some (v, M') → ∀ K : V → Mem → Prop, K v M' → callV X f ts xs M K) {nm : Nat} {o : Oper} {e : Env} {M : Mem} {v : V} {M' : Mem} (h : opE X.T call nm o e M = some (v, M'))
    (K : V → Mem → Prop) (hK : K v M') : opW X nm o e M K := by
  unfold opE at h
  unfold opW
  rw [evB_eq] at h
  split at h
  · next c hc =>
    rw [hc]
    simp only
    split at h
    · next hb =>
      rw [hb]
      split at h
      · next s x t t' ha ht =>
        rw [ha, ht]
        simp only
        cases hbt : Nat.beq t t' with
        | false => rw [hbt] at h; cases h
        | true =>
          rw [hbt] at h
          simp only [cond_true] at h
          split at h
          · next el hd =>
            rw [hd]
            simp only [cond_true]
            split at h
            · next p v1 M1 hq =>
              rw [hq]
              cases hp : p.dec with
              | false => rw [hp] at h; cases h
              | true =>
                rw [hp] at h
                simp only [cond_true, Option.some.injEq, Prod.mk.injEq] at h
                obtain ⟨rfl, rfl⟩ := h
                simp only
                rw [Obl.req_iff, forceV_eq]
                exact ⟨Obl.dec_holds hp, hK⟩
            · cases h
          · cases h
      · cases h
    · next b hb hb2 =>
      rw [hb2]
      split at h
      · next p v1 M1 hq =>
        cases hp : p.dec with
        | false => rw [hp] at h; cases h
        | true =>
          rw [hp] at h
          simp only [cond_true, Option.some.injEq, Prod.mk.injEq] at h
          obtain ⟨rfl, rfl⟩ := h
          have fin : p.req (forceV v1 fun v => K v M1) := by rw [Obl.req_iff, forceV_eq]; exact ⟨Obl.dec_holds hp, hK⟩
          cases b <;> first | exact absurd rfl hb | (simp only [hq]; exact fin)
      · cases h
    · next f hf =>
      rw [hf]
      simp only
      split at h
      · next f' n g hfv =>
        rw [hfv]
        cases hbt : Nat.beq c.args.size c.argTypes.size with
        | false => rw [hbt] at h; cases h
        | true =>
          rw [hbt] at h
          simp only [cond_true] at h ⊢
          exact hcall _ _ _ _ _ _ h K hK
      · cases h
    · cases h
  · next op hop =>
    split at h
    · next p v1 M1 hq =>
      cases hp : p.dec with
      | false => rw [hp] at h; cases h
      | true =>
        rw [hp] at h
        simp only [cond_true, Option.some.injEq, Prod.mk.injEq] at h
        obtain ⟨rfl, rfl⟩ := h
        have fin : p.req (forceV v1 fun v => K v M1) := by rw [Obl.req_iff, forceV_eq]; exact ⟨Obl.dec_holds hp, hK⟩
        cases ho : o.op <;> first | exact absurd ho (hop _) | (rw [ho] at hq; simp only [hq]; exact fin)
    · cases h

theorem guardE_ok {ops : Array Oper} {o : Oper} {e e' : Env} {b : Bool} (h : guardE ops o e = some (b, e')) {run skip : Env → Prop} (h1 : b = true → run e') (h2 : b = false → skip e') : guardW ops o e run skip := by
  unfold guardE at h
  unfold guardW
  split at h
  · next hg =>
    rw [hg]
    simp only [Option.some.injEq, Prod.mk.injEq] at h
    obtain ⟨rfl, rfl⟩ := h
    exact h1 rfl
  · next j want hg =>
    rw [hg]
    simp only
    split at h
    · next hd =>
      rw [hd]
      simp only [Option.some.injEq, Prod.mk.injEq] at h
      obtain ⟨rfl, rfl⟩ := h
      exact h2 rfl
    · next d hd =>
      rw [hd]
      simp only
      rw [getB_eq] at h
      split at h
      · next c hc =>
        rw [hc]
        simp only [Option.some.injEq, Prod.mk.injEq] at h
        obtain ⟨rfl, rfl⟩ := h
        cases c <;> cases want <;> first | exact h1 rfl | exact h2 rfl
      · next u hu =>
        rw [hu]
        simp only [Option.some.injEq, Prod.mk.injEq] at h
        obtain ⟨rfl, rfl⟩ := h
        exact h2 rfl
      · cases h

theorem opsE_ok {call : CallE} (hcall : ∀ f ts xs M v M', call f ts xs M = some (v, M') → ∀ K : V → Mem → Prop, K v M' → callV X f ts xs M K) {ops : Array Oper} : ∀ (l : List Oper) (k : Nat) (e : Env) (M : Mem) (e' : Env) (M' : Mem),
    opsE X.T call ops (fun _ M => M.length) k l e M = some (e', M') → ∀ K : Env → Mem → Prop, K e' M' → opsW X ops l e M K := by
  intro l
  induction l with
  | nil =>
    intro k e M e' M' h K hK
    simp only [opsE, Option.some.injEq, Prod.mk.injEq] at h
    obtain ⟨rfl, rfl⟩ := h
    exact hK
  | cons o r ih =>
    intro k e M e' M' h K hK
    simp only [opsE] at h
    unfold opsW
    split at h
    · next e1 hg =>
      split at h
      · next v M1 ho =>
        rw [forceE_eq] at h
        cases hd : o.dst with
        | none =>
          refine guardE_ok hg (fun _ => opE_ok hcall ho _ ?_) (fun h => nomatch h)
          simp only [stepE, hd] at h
          exact ih _ _ _ _ _ h K hK
        | some d =>
          refine guardE_ok hg (fun _ => opE_ok hcall ho _ ?_) (fun h => nomatch h)
          simp only [stepE, hd] at h
          exact ih _ _ _ _ _ h K hK
      · cases h
    · next e1 hg =>
      cases hd : o.dst with
      | none =>
        refine guardE_ok hg (fun h => nomatch h) (fun _ => ?_)
        simp only [stepE, hd] at h
        exact ih _ _ _ _ _ h K hK
      | some d =>
        refine guardE_ok hg (fun h => nomatch h) (fun _ => ?_)
        simp only [stepE, hd] at h
        exact ih _ _ _ _ _ h K hK
    · cases h

/-- Of a call in a region that draws. -/
def DCall (X : Cx) (f : FuncId) (ts : List TypeId) (xs : List V) (M : Mem) (R : V) : Prop :=
  X.wr.contains f = false ∧ (verOks M xs).holds ∧ APure X.P f ((xs.zip ts).map fun (x, t) => byval0 M (asInts X.T t x)) (fun R' => R' = R)

theorem dopE_ok {call : CallE} (hcall : ∀ f ts xs M v M', call f ts xs M = some (v, M') → M' = M ∧ DCall X f ts xs M v) {nm : Nat} {o : Oper} {e : Env} {M : Mem} {v : V} {M' : Mem} (h : opE X.T call nm o e M = some (v, M'))
    (K : V → Mem → Prop) (hK : K v M') : dOpW X nm o e M K := by
  unfold opE at h
  unfold dOpW
  rw [evB_eq] at h
  split at h
  · next c hc =>
    rw [hc]
    simp only
    split at h
    · next hb =>
      rw [hb]
      split at h
      · next s x t t' ha ht =>
        rw [ha, ht]
        simp only
        cases hbt : Nat.beq t t' with
        | false => rw [hbt] at h; cases h
        | true =>
          rw [hbt] at h
          simp only [cond_true] at h
          split at h
          · next el hd =>
            rw [hd]
            simp only [cond_true]
            split at h
            · next p v1 M1 hq =>
              rw [hq]
              cases hp : p.dec with
              | false => rw [hp] at h; cases h
              | true =>
                rw [hp] at h
                simp only [cond_true, Option.some.injEq, Prod.mk.injEq] at h
                obtain ⟨rfl, rfl⟩ := h
                simp only
                rw [Obl.req_iff, forceV_eq]
                exact ⟨Obl.dec_holds hp, hK⟩
            · cases h
          · cases h
      · cases h
    · next b hb hb2 =>
      rw [hb2]
      split at h
      · next p v1 M1 hq =>
        cases hp : p.dec with
        | false => rw [hp] at h; cases h
        | true =>
          rw [hp] at h
          simp only [cond_true, Option.some.injEq, Prod.mk.injEq] at h
          obtain ⟨rfl, rfl⟩ := h
          have fin : p.req (forceV v1 fun v => K v M1) := by rw [Obl.req_iff, forceV_eq]; exact ⟨Obl.dec_holds hp, hK⟩
          cases b <;> first | exact absurd rfl hb | (simp only [hq]; exact fin)
      · cases h
    · next f hf =>
      rw [hf]
      simp only
      split at h
      · next f' n g hfv =>
        rw [hfv]
        cases hbt : Nat.beq c.args.size c.argTypes.size with
        | false => rw [hbt] at h; cases h
        | true =>
          rw [hbt] at h
          simp only [cond_true] at h
          obtain ⟨rfl, h1, h2, h3⟩ := hcall _ _ _ _ _ _ h
          simp only [h1, Bool.not_false, Bool.and_self, cond_true]
          refine ⟨v, ?_, ?_⟩
          · rw [Obl.req_iff]
            exact ⟨h2, h3⟩
          · rw [forceV_eq]; exact hK
      · cases h
    · cases h
  · next op hop =>
    split at h
    · next p v1 M1 hq =>
      cases hp : p.dec with
      | false => rw [hp] at h; cases h
      | true =>
        rw [hp] at h
        simp only [cond_true, Option.some.injEq, Prod.mk.injEq] at h
        obtain ⟨rfl, rfl⟩ := h
        have fin : p.req (forceV v1 fun v => K v M1) := by rw [Obl.req_iff, forceV_eq]; exact ⟨Obl.dec_holds hp, hK⟩
        cases ho : o.op <;> first | exact absurd ho (hop _) | (rw [ho] at hq; simp only [hq]; exact fin)
    · cases h

theorem dopsE_ok {call : CallE} (hcall : ∀ f ts xs M v M', call f ts xs M = some (v, M') → M' = M ∧ DCall X f ts xs M v) {ops : Array Oper} {n0 : Nat} : ∀ (l : List Oper) (k : Nat) (e : Env) (M : Mem) (e' : Env) (M' : Mem),
    opsE X.T call ops (fun k _ => n0 + k) k l e M = some (e', M') → ∀ K : Env → Mem → Prop, K e' M' → drawW X ops n0 k l e M K := by
  intro l
  induction l with
  | nil =>
    intro k e M e' M' h K hK
    simp only [opsE, Option.some.injEq, Prod.mk.injEq] at h
    obtain ⟨rfl, rfl⟩ := h
    exact hK
  | cons o r ih =>
    intro k e M e' M' h K hK
    simp only [opsE] at h
    unfold drawW
    split at h
    · next e1 hg =>
      split at h
      · next v M1 ho =>
        rw [forceE_eq] at h
        cases hd : o.dst with
        | none =>
          refine guardE_ok hg (fun _ => dopE_ok hcall ho _ ?_) (fun h => nomatch h)
          simp only [stepE, hd] at h
          exact ih _ _ _ _ _ h K hK
        | some d =>
          refine guardE_ok hg (fun _ => dopE_ok hcall ho _ ?_) (fun h => nomatch h)
          simp only [stepE, hd] at h
          exact ih _ _ _ _ _ h K hK
      · cases h
    · next e1 hg =>
      cases hd : o.dst with
      | none =>
        refine guardE_ok hg (fun h => nomatch h) (fun _ => ?_)
        simp only [stepE, hd] at h
        exact ih _ _ _ _ _ h K hK
      | some d =>
        refine guardE_ok hg (fun h => nomatch h) (fun _ => ?_)
        simp only [stepE, hd] at h
        exact ih _ _ _ _ _ h K hK
    · cases h

end
end Go.Tri
