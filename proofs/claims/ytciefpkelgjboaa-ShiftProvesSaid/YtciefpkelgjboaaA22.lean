/-
  CLOSED CALLS BY EVALUATION: an evaluator that the kernel runs; sound for the walk's own Prop.
-/
import Derived.Test.YtciefpkelgjboaaA26
namespace Go.Tri
variable {lo : Nat}
open Go.RowKit

def Obl.dec : Obl → Bool
  | .tt => true
  | .inr x => decide (-9223372036854775808 ≤ x) && decide (x ≤ 9223372036854775807)
  | .le a b => decide (a ≤ b)
  | .lt a b => decide (a < b)
  | .ne a b => a != b
  | .eqn a b => Nat.beq a b
  | .and p q => p.dec && q.dec

theorem Obl.dec_holds : ∀ {p : Obl}, p.dec = true → p.holds
  | .tt, _ => trivial
  | .inr x, h => by simp only [Obl.dec, Bool.and_eq_true, decide_eq_true_eq] at h; unfold Obl.holds InR; exact h
  | .le a b, h => by simpa [Obl.dec, Obl.holds] using h
  | .lt a b, h => by simpa [Obl.dec, Obl.holds] using h
  | .ne a b, h => by simpa [Obl.dec, Obl.holds] using h
  | .eqn a b, h => Nat.eq_of_beq_eq_true h
  | .and p q, h => by simp only [Obl.dec, Bool.and_eq_true] at h; exact ⟨Obl.dec_holds h.1, Obl.dec_holds h.2⟩

def getB : Env → Nat → V
  | [], _ => .any
  | (i, x) :: e, j => bif Nat.beq i j then x else getB e j

theorem getB_eq : getB = Env.get := by
  funext e j
  induction e with
  | nil => rfl
  | cons p e ih =>
    obtain ⟨i, x⟩ := p
    simp only [getB, Env.get, ih]
    cases h : Nat.beq i j with
    | true => rw [if_pos (Nat.eq_of_beq_eq_true h)]; rfl
    | false => rw [if_neg (fun e => by rw [e, Nat.beq_refl] at h; cases h)]; rfl

def evB (e : Env) : Operand → V
  | .tmp t => getB e t
  | .const v => constV v
  | .global g => .lit (.pointer (some ⟨g, 0, none⟩))
  | .func f => .clo f 0 fun _ => .any

theorem evB_eq : evB = evA := by
  funext e x
  cases x <;> simp only [evB, evA, getB_eq]

abbrev CallE := FuncId → List TypeId → List V → Mem → Option (V × Mem)

/-! Values are made literal as they are stored. -/
def forceN {α : Type} (n : Nat) (K : Nat → α) : α := match n with
  | 0 => K 0
  | m + 1 => K (m + 1)
def forceI {α : Type} (i : Int) (K : Int → α) : α := match i with
  | .ofNat n => forceN n fun n => K (.ofNat n)
  | .negSucc n => forceN n fun n => K (.negSucc n)
def forceE {α : Type} (v : V) (K : V → α) : α := match v with
  | .lit u => (match u with
    | .int k n => forceI n fun n => K (.lit (.int k n))
    | .bool b => (match b with
      | true => K (.lit (.bool true))
      | false => K (.lit (.bool false)))
    | u => K (.lit u))
  | .sl t ver off len => forceN t fun t => forceN ver fun ver => forceN off fun off => forceN len fun len => K (.sl t ver off len)
  | .ptr t ver i o => forceN t fun t => forceN ver fun ver => forceN i fun i => forceN o fun o => K (.ptr t ver i o)
  | .ints fr xs => K (.ints fr xs)
  | .seq fr sz n f => K (.seq fr sz n f)
  | .at_ sz g o => K (.at_ sz g o)
  | .agg n g => K (.agg n g)
  | .tup n g => K (.tup n g)
  | .clo f n g => K (.clo f n g)
  | .emp nl => (match nl with
    | true => K (.emp true)
    | false => K (.emp false))
  | .any => K .any
  | .yld t => forceN t fun t => K (.yld t)
  | .ifc ty x => forceE x fun x => K (.ifc ty x)
  | .bnd f n g => K (.bnd f n g)
  | .full xs => K (.full xs)
theorem forceN_eq {α : Type} (n : Nat) (K : Nat → α) : forceN n K = K n := by cases n <;> rfl
theorem forceI_eq {α : Type} (i : Int) (K : Int → α) : forceI i K = K i := by cases i <;> simp only [forceI, forceN_eq]
theorem forceE_eq {α : Type} (v : V) : ∀ (K : V → α), forceE v K = K v := by
  induction v with
  | lit u => intro K; cases u with
    | int k n => simp only [forceE, forceI_eq]
    | bool b => cases b <;> rfl
    | _ => rfl
  | sl => intro K; simp only [forceE, forceN_eq]
  | ptr => intro K; simp only [forceE, forceN_eq]
  | yld => intro K; simp only [forceE, forceN_eq]
  | ifc ty x ih => intro K; simp only [forceE, ih]
  | emp nl => intro K; cases nl <;> rfl
  | _ => intro K; rfl

/-- The methods that are known, by type and name. -/
abbrev Ms := List (TypeId × String × FuncId)
def findM : Ms → TypeId → String → Option FuncId
  | [], _, _ => none
  | (t, m, f) :: r, ty, nm => bif Nat.beq t ty && m == nm then some f else findM r ty nm

theorem findM_ok {P : Program} : ∀ {ms : Ms}, (∀ q ∈ ms, MethodIs P q.1 q.2.1 q.2.2) → ∀ {ty : TypeId} {nm : String} {f : FuncId}, findM ms ty nm = some f → MethodIs P ty nm f
  | [], _, ty, nm, f, h => by cases h
  | (t, m, g) :: r, hm, ty, nm, f, h => by
    simp only [findM] at h
    cases hb : (Nat.beq t ty && m == nm) with
    | true =>
      rw [hb] at h
      simp only [cond_true, Option.some.injEq] at h
      simp only [Bool.and_eq_true, beq_iff_eq] at hb
      have h1 := Nat.eq_of_beq_eq_true hb.1
      have := hm _ (List.mem_cons_self)
      simp only at this
      rw [← h1, ← hb.2, ← h]
      exact this
    | false =>
      rw [hb] at h
      exact findM_ok (fun q hq => hm q (List.mem_cons_of_mem _ hq)) h

def calleeE (ms : Ms) (ev : Operand → V) (c : Call) : Option (FuncId × List TypeId × List V) := match c.callee with
  | .value f => match ev f with
    | .clo f n g => bif Nat.beq c.args.size c.argTypes.size then some (f, c.argTypes.toList ++ List.replicate n 0, c.args.toList.map ev ++ (List.range n).map g) else none
    | .bnd f n g => bif Nat.beq c.args.size c.argTypes.size then some (f, List.replicate n 0 ++ c.argTypes.toList, (List.range n).map g ++ c.args.toList.map ev) else none
    | _ => none
  | .invoke r m => match ev r with
    | .ifc ty x => match findM ms ty m with
      | some f => bif Nat.beq c.args.size c.argTypes.size then some (f, 0 :: c.argTypes.toList, x :: c.args.toList.map ev) else none
      | none => none
    | _ => none
  | .builtin _ => none

theorem calleeE_ok {P : Program} {ms : Ms} (hms : ∀ q ∈ ms, MethodIs P q.1 q.2.1 q.2.2) {ev : Operand → V} {c : Call} {f : FuncId} {ts : List TypeId} {xs : List V} (h : calleeE ms ev c = some (f, ts, xs)) {K : FuncId → List TypeId → List V → Prop} (hK : K f ts xs) : calleeW P ev c K := by
  unfold calleeE at h
  unfold calleeW
  split at h
  · next g hc =>
    rw [hc]
    simp only
    split at h
    · next f' n cap hf =>
      rw [hf]
      simp only
      cases hb : Nat.beq c.args.size c.argTypes.size with
      | false => rw [hb] at h; cases h
      | true =>
        rw [hb] at h
        simp only [cond_true, Option.some.injEq, Prod.mk.injEq] at h ⊢
        obtain ⟨rfl, rfl, rfl⟩ := h
        exact hK
    · next f' n cap hf =>
      rw [hf]
      simp only
      cases hb : Nat.beq c.args.size c.argTypes.size with
      | false => rw [hb] at h; cases h
      | true =>
        rw [hb] at h
        simp only [cond_true, Option.some.injEq, Prod.mk.injEq] at h ⊢
        obtain ⟨rfl, rfl, rfl⟩ := h
        exact hK
    · cases h
  · next r m hc =>
    rw [hc]
    simp only
    split at h
    · next ty x hf =>
      rw [hf]
      simp only
      split at h
      · next f' hm =>
        cases hb : Nat.beq c.args.size c.argTypes.size with
        | false => rw [hb] at h; cases h
        | true =>
          rw [hb] at h
          simp only [cond_true, Option.some.injEq, Prod.mk.injEq] at h ⊢
          obtain ⟨rfl, rfl, rfl⟩ := h
          exact ⟨_, findM_ok hms hm, hK⟩
      · cases h
    · cases h
  · cases h

abbrev YldE := Nat → List V → Mem → Option (V × Mem)
def noYld : YldE := fun _ _ _ => none

def opE (T : Tab) (ms : Ms) (call : CallE) (yld : YldE) (nm : Nat) (o : Oper) (e : Env) (M : Mem) : Option (V × Mem) := match o.op with
  | .call c => match c.callee with
    | .builtin .append => match c.args.toList, c.argTypes.toList with
      | [s, x], [t, t'] => bif Nat.beq t t' then (match (T.row t).d with
        | .slice el => (match (evB e s).isFull with
          | some ys => (match fullApp T el ys (evB e x) M with
            | some (p, v) => bif p.dec then some (v, M) else none
            | none => none)
          | none => match aAppend T nm el (evB e s) (evB e x) M with
            | some (p, v, M') => bif p.dec then some (v, M') else none
            | none => none)
        | _ => none) else none
      | _, _ => none
    | .builtin b => match aBuiltin T b c.argTypes.toList (c.args.toList.map (evB e)) M with
      | some (p, v, M') => bif p.dec then some (v, M') else none
      | none => none
    | .value f => match evB e f with
      | .yld t => yld t (c.args.toList.map (evB e)) M
      | _ => match calleeE ms (evB e) c with
        | some (f, ts, xs) => call f ts xs M
        | none => none
    | .invoke _ _ => match calleeE ms (evB e) c with
      | some (f, ts, xs) => call f ts xs M
      | none => none
  | op => match aop T nm op (evB e) M with
    | some (p, v, M') => bif p.dec then some (v, M') else none
    | none => none

def guardE (ops : Array Oper) (o : Oper) (e : Env) : Option (Bool × Env) := match o.guard with
  | none => some (true, e)
  | some (j, want) => match (ops[j]?).bind (·.dst) with
    | none => some (false, e)
    | some d => match getB e d with
      | .lit (.bool b) => some (b == want, (d, .bool b) :: e)
      | .lit (.tuple _) => some (false, e)
      | _ => none

def stepE (o : Oper) (v : V) (e : Env) : Env := match o.dst with
  | some d => (d, v) :: e
  | none => e

/-- The operations in the text's order; 'nm': the name of what an operation makes. -/
def opsE (T : Tab) (ms : Ms) (call : CallE) (yld : YldE) (ops : Array Oper) (nm : Nat → Mem → Nat) : Nat → List Oper → Env → Mem → Option (Env × Mem)
  | _, [], e, M => some (e, M)
  | k, o :: r, e, M => match guardE ops o e with
    | some (true, e) => match opE T ms call yld (nm k M) o e M with
      | some (v, M') => forceE v fun v => opsE T ms call yld ops nm (k + 1) r (stepE o v e) M'
      | none => none
    | some (false, e) => opsE T ms call yld ops nm (k + 1) r (stepE o .un e) M
    | none => none

/-- As logStep. -/
def logE {α : Type} (ops : Array Oper) (k : Nat) (o : Oper) (ev : Operand → V) (v : V) (ap wn : List Nat) (K : List Nat → List Nat → Option α) : Option α :=
  bif isApp o.op then (match apTgt o.op ev v with
    | some (some t) => bif wn.contains t then none else K (t :: ap) wn
    | some none => K ap wn
    | none => none)
  else bif wkL ops k then (match wkName ev o.op with
    | some n => bif ap.contains n then none else K ap (n :: wn)
    | none => K ap wn)
  else K ap wn

theorem logE_ok {α : Type} {ops : Array Oper} {k : Nat} {o : Oper} {ev : Operand → V} {v : V} {ap wn : List Nat} {KE : List Nat → List Nat → Option α} {r : α} {K : List Nat → List Nat → Prop} (h : logE ops k o ev v ap wn KE = some r) (hK : ∀ ap wn, KE ap wn = some r → K ap wn) :
    logStep ops k o ev v ap wn K := by
  unfold logE at h
  unfold logStep
  cases ha : isApp o.op with
  | true =>
    rw [ha] at h
    simp only [cond_true] at h ⊢
    split at h
    · next t hq =>
      rw [hq]
      cases hc : wn.contains t with
      | true => rw [hc] at h; cases h
      | false =>
        rw [hc] at h
        simp only [hc, cond_false]
        exact hK _ _ h
    · next hq => rw [hq]; exact hK _ _ h
    · cases h
  | false =>
    rw [ha] at h
    simp only [cond_false] at h ⊢
    cases hw : wkL ops k with
    | false => rw [hw] at h; exact hK _ _ h
    | true =>
      rw [hw] at h
      simp only [cond_true] at h ⊢
      split at h
      · next n hn =>
        rw [hn]
        simp only
        cases hc : ap.contains n with
        | true => rw [hc] at h; cases h
        | false => rw [hc] at h; exact hK _ _ h
      · next hn => rw [hn]; exact hK _ _ h

/-- The operations of a region that draws, in the text's order. -/
def dopsE (T : Tab) (ms : Ms) (call : CallE) (ops : Array Oper) (n0 : Nat) : Nat → List Oper → List Nat → List Nat → Env → Mem → Option (Env × Mem)
  | _, [], _, _, e, M => some (e, M)
  | k, o :: r, ap, wn, e, M => match guardE ops o e with
    | some (true, e) => match opE T ms call noYld (n0 + k) o e M with
      | some (v, M') => forceE v fun v => logE ops k o (evB e) v ap wn fun ap wn => dopsE T ms call ops n0 (k + 1) r ap wn (stepE o v e) M'
      | none => none
    | some (false, e) => dopsE T ms call ops n0 (k + 1) r ap wn (stepE o .un e) M
    | none => none

section
variable {X : Cx} {ms : Ms}

theorem opE_ok (hms : ∀ q ∈ ms, MethodIs X.P q.1 q.2.1 q.2.2) {call : CallE} {yld : YldE} (hcall : ∀ f ts xs M v M', call f ts xs M = some (v, M') → ∀ K : V → Mem → Prop, K v M' → callV X f ts xs M K)
    (hyld : ∀ t xs M v M', yld t xs M = some (v, M') → ∀ K : V → Mem → Prop, K v M' → YW X.P t xs M K) {nm : Nat} {o : Oper} {e : Env} {M : Mem} {v : V} {M' : Mem} (h : opE X.T ms call yld nm o e M = some (v, M'))
    (K : V → Mem → Prop) (hK : K v M') : opW X nm o e M K := by
  unfold opE at h
  unfold opW
  rw [evB_eq] at h
  have callee : ∀ c, (match calleeE ms (evA e) c with
      | some (f, ts, xs) => call f ts xs M
      | none => none) = some (v, M') → calleeW X.P (evA e) c fun f ts xs => callV X f ts xs M K := by
    intro c h
    split at h
    · next f ts xs hq => exact calleeE_ok hms hq (hcall _ _ _ _ _ _ h K hK)
    · cases h
  split at h
  · next c hc =>
    rw [hc]
    simp only
    split at h
    · next hb =>
      rw [hb]
      split at h
      · next s x t t' ha ht =>
        rw [ha, ht]
        simp only
        cases hbt : Nat.beq t t' with
        | false => rw [hbt] at h; cases h
        | true =>
          rw [hbt] at h
          simp only [cond_true] at h
          split at h
          · next el hd =>
            rw [hd]
            simp only [cond_true]
            cases hf : (evA e s).isFull with
            | some ys =>
              rw [hf] at h
              simp only at h ⊢
              split at h
              · next p v1 hq =>
                rw [hq]
                cases hp : p.dec with
                | false => rw [hp] at h; cases h
                | true =>
                  rw [hp] at h
                  simp only [cond_true, Option.some.injEq, Prod.mk.injEq] at h
                  obtain ⟨rfl, rfl⟩ := h
                  simp only
                  rw [Obl.req_iff, forceV_eq]
                  exact ⟨Obl.dec_holds hp, hK⟩
              · cases h
            | none =>
            rw [hf] at h
            simp only at h ⊢
            split at h
            · next p v1 M1 hq =>
              rw [hq]
              cases hp : p.dec with
              | false => rw [hp] at h; cases h
              | true =>
                rw [hp] at h
                simp only [cond_true, Option.some.injEq, Prod.mk.injEq] at h
                obtain ⟨rfl, rfl⟩ := h
                simp only
                rw [Obl.req_iff, forceV_eq]
                exact ⟨Obl.dec_holds hp, hK⟩
            · cases h
          · cases h
      · cases h
    · next b hb hb2 =>
      rw [hb2]
      split at h
      · next p v1 M1 hq =>
        cases hp : p.dec with
        | false => rw [hp] at h; cases h
        | true =>
          rw [hp] at h
          simp only [cond_true, Option.some.injEq, Prod.mk.injEq] at h
          obtain ⟨rfl, rfl⟩ := h
          have fin : p.req (forceV v1 fun v => K v M1) := by rw [Obl.req_iff, forceV_eq]; exact ⟨Obl.dec_holds hp, hK⟩
          cases b <;> first | exact absurd rfl hb | (simp [aBuiltin] at hq; done) | (simp only [hq]; exact fin)
      · cases h
    · next f hf =>
      rw [hf]
      simp only
      split at h
      · next t hfv =>
        rw [hfv]
        exact hyld _ _ _ _ _ h K hK
      · next hno =>
        cases hfv : evA e f <;> first | exact absurd hfv (hno _) | exact callee _ h
    · next r m hc2 =>
      rw [hc2]
      exact callee _ h
  · next op hop =>
    split at h
    · next p v1 M1 hq =>
      cases hp : p.dec with
      | false => rw [hp] at h; cases h
      | true =>
        rw [hp] at h
        simp only [cond_true, Option.some.injEq, Prod.mk.injEq] at h
        obtain ⟨rfl, rfl⟩ := h
        have fin : p.req (forceV v1 fun v => K v M1) := by rw [Obl.req_iff, forceV_eq]; exact ⟨Obl.dec_holds hp, hK⟩
        cases ho : o.op <;> first | exact absurd ho (hop _) | (rw [ho] at hq; simp only [hq]; exact fin)
    · cases h

theorem guardE_ok {ops : Array Oper} {o : Oper} {e e' : Env} {b : Bool} (h : guardE ops o e = some (b, e')) {run skip : Env → Prop} (h1 : b = true → run e') (h2 : b = false → skip e') : guardW ops o e run skip := by
  unfold guardE at h
  unfold guardW
  split at h
  · next hg =>
    rw [hg]
    simp only [Option.some.injEq, Prod.mk.injEq] at h
    obtain ⟨rfl, rfl⟩ := h
    exact h1 rfl
  · next j want hg =>
    rw [hg]
    simp only
    split at h
    · next hd =>
      rw [hd]
      simp only [Option.some.injEq, Prod.mk.injEq] at h
      obtain ⟨rfl, rfl⟩ := h
      exact h2 rfl
    · next d hd =>
      rw [hd]
      simp only
      rw [getB_eq] at h
      split at h
      · next c hc =>
        rw [hc]
        simp only [Option.some.injEq, Prod.mk.injEq] at h
        obtain ⟨rfl, rfl⟩ := h
        cases c <;> cases want <;> first | exact h1 rfl | exact h2 rfl
      · next u hu =>
        rw [hu]
        simp only [Option.some.injEq, Prod.mk.injEq] at h
        obtain ⟨rfl, rfl⟩ := h
        exact h2 rfl
      · cases h

theorem opsE_ok (hms : ∀ q ∈ ms, MethodIs X.P q.1 q.2.1 q.2.2) {call : CallE} {yld : YldE} (hcall : ∀ f ts xs M v M', call f ts xs M = some (v, M') → ∀ K : V → Mem → Prop, K v M' → callV X f ts xs M K)
    (hyld : ∀ t xs M v M', yld t xs M = some (v, M') → ∀ K : V → Mem → Prop, K v M' → YW X.P t xs M K) {ops : Array Oper} : ∀ (l : List Oper) (k : Nat) (e : Env) (M : Mem) (e' : Env) (M' : Mem),
    opsE X.T ms call yld ops (fun _ M => M.length) k l e M = some (e', M') → ∀ K : Env → Mem → Prop, K e' M' → opsW X ops l e M K := by
  intro l
  induction l with
  | nil =>
    intro k e M e' M' h K hK
    simp only [opsE, Option.some.injEq, Prod.mk.injEq] at h
    obtain ⟨rfl, rfl⟩ := h
    exact hK
  | cons o r ih =>
    intro k e M e' M' h K hK
    simp only [opsE] at h
    unfold opsW
    simp only [forceMo_eq, forceNo_eq]
    split at h
    · next e1 hg =>
      split at h
      · next v M1 ho =>
        rw [forceE_eq] at h
        cases hd : o.dst with
        | none =>
          refine guardE_ok hg (fun _ => opE_ok hms hcall hyld ho _ ?_) (fun h => nomatch h)
          simp only [stepE, hd] at h
          exact ih _ _ _ _ _ h K hK
        | some d =>
          refine guardE_ok hg (fun _ => opE_ok hms hcall hyld ho _ ?_) (fun h => nomatch h)
          simp only [stepE, hd] at h
          exact ih _ _ _ _ _ h K hK
      · cases h
    · next e1 hg =>
      cases hd : o.dst with
      | none =>
        refine guardE_ok hg (fun h => nomatch h) (fun _ => ?_)
        simp only [stepE, hd] at h
        exact ih _ _ _ _ _ h K hK
      | some d =>
        refine guardE_ok hg (fun h => nomatch h) (fun _ => ?_)
        simp only [stepE, hd] at h
        exact ih _ _ _ _ _ h K hK
    · cases h

/-- Of a call in a region that draws. -/
def DCall (X : Cx) (f : FuncId) (ts : List TypeId) (xs : List V) (M : Mem) (R : V) : Prop :=
  (X.wr.contains f = false ∧ (verOks M xs).holds ∧ APure X.P f ((xs.zip ts).map fun (x, t) => byval M 4 (asInts X.T t x)) (fun R' => R' = R)) ∨
    (X.wr.contains f = true ∧ AImm X.P f xs (fun R' => R' = R))

theorem dopE_ok (hms : ∀ q ∈ ms, MethodIs X.P q.1 q.2.1 q.2.2) {call : CallE} (hcall : ∀ f ts xs M v M', call f ts xs M = some (v, M') → M' = M ∧ DCall X f ts xs M v) {nm : Nat} {o : Oper} {e : Env} {M : Mem} {v : V} {M' : Mem} (h : opE X.T ms call noYld nm o e M = some (v, M'))
    (K : V → Mem → Prop) (hK : K v M') : dOpW X nm o e M K := by
  unfold opE at h
  unfold dOpW
  rw [evB_eq] at h
  have callee : ∀ c, (match calleeE ms (evA e) c with
      | some (f, ts, xs) => call f ts xs M
      | none => none) = some (v, M') → calleeW X.P (evA e) c fun f ts xs => bif X.wr.contains f then ∃ R, AImm X.P f xs (fun R' => R' = R) ∧ forceV R fun R => K R M else
        ∃ R, (verOks M xs).req (APure X.P f ((xs.zip ts).map fun (x, t) => byval M 4 (asInts X.T t x)) (fun R' => R' = R)) ∧ forceV R fun R => K R M := by
    intro c h
    split at h
    · next f ts xs hq =>
      refine calleeE_ok hms hq ?_
      rcases hcall _ _ _ _ _ _ h with ⟨rfl, ⟨h1, h2, h3⟩ | ⟨h1, h2⟩⟩
      case inr => simp only [h1, cond_true]; exact ⟨v, h2, by rw [forceV_eq]; exact hK⟩
      simp only [h1, cond_false]
      refine ⟨v, ?_, ?_⟩
      · rw [Obl.req_iff]
        exact ⟨h2, h3⟩
      · rw [forceV_eq]; exact hK
    · cases h
  split at h
  · next c hc =>
    rw [hc]
    simp only
    split at h
    · next hb =>
      rw [hb]
      split at h
      · next s x t t' ha ht =>
        rw [ha, ht]
        simp only
        cases hbt : Nat.beq t t' with
        | false => rw [hbt] at h; cases h
        | true =>
          rw [hbt] at h
          simp only [cond_true] at h
          split at h
          · next el hd =>
            rw [hd]
            simp only [cond_true]
            cases hf : (evA e s).isFull with
            | some ys =>
              rw [hf] at h
              simp only at h ⊢
              split at h
              · next p v1 hq =>
                rw [hq]
                cases hp : p.dec with
                | false => rw [hp] at h; cases h
                | true =>
                  rw [hp] at h
                  simp only [cond_true, Option.some.injEq, Prod.mk.injEq] at h
                  obtain ⟨rfl, rfl⟩ := h
                  simp only
                  rw [Obl.req_iff, forceV_eq]
                  exact ⟨Obl.dec_holds hp, hK⟩
              · cases h
            | none =>
            rw [hf] at h
            simp only at h ⊢
            split at h
            · next p v1 M1 hq =>
              rw [hq]
              cases hp : p.dec with
              | false => rw [hp] at h; cases h
              | true =>
                rw [hp] at h
                simp only [cond_true, Option.some.injEq, Prod.mk.injEq] at h
                obtain ⟨rfl, rfl⟩ := h
                simp only
                rw [Obl.req_iff, forceV_eq]
                exact ⟨Obl.dec_holds hp, hK⟩
            · cases h
          · cases h
      · cases h
    · next b hb hb2 =>
      rw [hb2]
      split at h
      · next p v1 M1 hq =>
        cases hp : p.dec with
        | false => rw [hp] at h; cases h
        | true =>
          rw [hp] at h
          simp only [cond_true, Option.some.injEq, Prod.mk.injEq] at h
          obtain ⟨rfl, rfl⟩ := h
          have fin : p.req (forceV v1 fun v => K v M1) := by rw [Obl.req_iff, forceV_eq]; exact ⟨Obl.dec_holds hp, hK⟩
          cases b <;> first | exact absurd rfl hb | (simp [aBuiltin] at hq; done) | (simp only [hq]; exact fin)
      · cases h
    · next f hf =>
      rw [hf]
      split at h
      · cases h
      · exact callee _ h
    · next r m hc2 =>
      rw [hc2]
      exact callee _ h
  · next op hop =>
    split at h
    · next p v1 M1 hq =>
      cases hp : p.dec with
      | false => rw [hp] at h; cases h
      | true =>
        rw [hp] at h
        simp only [cond_true, Option.some.injEq, Prod.mk.injEq] at h
        obtain ⟨rfl, rfl⟩ := h
        have fin : p.req (forceV v1 fun v => K v M1) := by rw [Obl.req_iff, forceV_eq]; exact ⟨Obl.dec_holds hp, hK⟩
        cases ho : o.op <;> first | exact absurd ho (hop _) | (rw [ho] at hq; simp only [hq]; exact fin)
    · cases h

theorem dopsE_ok (hms : ∀ q ∈ ms, MethodIs X.P q.1 q.2.1 q.2.2) {call : CallE} (hcall : ∀ f ts xs M v M', call f ts xs M = some (v, M') → M' = M ∧ DCall X f ts xs M v) {ops : Array Oper} {n0 : Nat} : ∀ (l : List Oper) (k : Nat) (ap wn : List Nat) (e : Env) (M : Mem) (e' : Env) (M' : Mem),
    dopsE X.T ms call ops n0 k l ap wn e M = some (e', M') → ∀ K : Env → Mem → Prop, K e' M' → drawW X ops n0 k l ap wn e M K := by
  intro l
  induction l with
  | nil =>
    intro k ap wn e M e' M' h K hK
    simp only [dopsE, Option.some.injEq, Prod.mk.injEq] at h
    obtain ⟨rfl, rfl⟩ := h
    exact hK
  | cons o r ih =>
    intro k ap wn e M e' M' h K hK
    simp only [dopsE] at h
    unfold drawW
    simp only [forceMo_eq, forceNo_eq]
    split at h
    · next e1 hg =>
      split at h
      · next v M1 ho =>
        rw [forceE_eq] at h
        cases hd : o.dst with
        | none =>
          refine guardE_ok hg (fun _ => dopE_ok hms hcall ho _ ?_) (fun h => nomatch h)
          rw [evB_eq] at h
          refine logE_ok h fun ap wn h => ?_
          simp only [stepE, hd] at h
          exact ih _ _ _ _ _ _ _ h K hK
        | some d =>
          refine guardE_ok hg (fun _ => dopE_ok hms hcall ho _ ?_) (fun h => nomatch h)
          rw [evB_eq] at h
          refine logE_ok h fun ap wn h => ?_
          simp only [stepE, hd] at h
          exact ih _ _ _ _ _ _ _ h K hK
      · cases h
    · next e1 hg =>
      cases hd : o.dst with
      | none =>
        refine guardE_ok hg (fun h => nomatch h) (fun _ => ?_)
        simp only [stepE, hd] at h
        exact ih _ _ _ _ _ _ _ h K hK
      | some d =>
        refine guardE_ok hg (fun h => nomatch h) (fun _ => ?_)
        simp only [stepE, hd] at h
        exact ih _ _ _ _ _ _ _ h K hK
    · cases h
end
end Go.Tri
