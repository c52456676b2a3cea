/-
  CLOSED CALLS BY EVALUATION: code, loops over functions, functions.
-/
import Derived.Test.YtciefpkelgjboaaA22
namespace Go.Tri
variable {lo : Nat}
open Go.RowKit

theorem and_l {a b : Bool} (h : (a && b) = true) : a = true := by cases a <;> simp_all
theorem and_r {a b : Bool} (h : (a && b) = true) : b = true := by cases a <;> simp_all

def loopE (body : Env → Mem → Option (Exit × Env × Mem)) (keys : List Nat) : Nat → Env → Mem → Option (Exit × Env × Mem)
  | 0, _, _ => none
  | n + 1, e, M => match body e M with
    | some (.normal, e', M') => loopE body keys n (keys.zip (keys.map (getB e'))) M'
    | some (x, e', M') => some (x, e', M')
    | none => none

def keysOf : Env → List Nat → List Nat
  | [], acc => acc
  | (i, _) :: e, acc => keysOf e (bif acc.contains i then acc else i :: acc)

/-- A function's run; a round of a loop. -/
structure Hd where
  fn : Bool → FuncId → List V → Mem → Option (V × Mem)
  yld : YldE
  imm : FuncId → List V → Option V

def seqC (T : Tab) (wr : List FuncId) (H : Hd) : CallE := fun f ts xs M =>
  bif wr.contains f then (match H.fn false f xs M with
    | some (R, M') => forceN M.length fun n => some (R, gcE n R M')
    | none => none)
  else bif (verOks M xs).dec then (match H.fn true f ((xs.zip ts).map fun (x, t) => byval M 4 (asInts T t x)) [] with
    | some (R, _) => some (R, M)
    | none => none) else none

def drawC (T : Tab) (wr : List FuncId) (H : Hd) : CallE := fun f ts xs M =>
  bif wr.contains f then (match H.imm f xs with
    | some R => some (R, M)
    | none => none)
  else bif (verOks M xs).dec then (match H.fn true f ((xs.zip ts).map fun (x, t) => byval M 4 (asInts T t x)) [] with
    | some (R, _) => some (R, M)
    | none => none) else none

/-- The record of a loop, if there lies one. -/
def loopAtE (M : Mem) (t : Nat) : Option (LoopState × Option Code × (LoopState → Option Code → Ob)) := match M.get t with
  | some ⟨te, sz, ver, .loop st pend e nt ps as bd inf⟩ => bif Nat.beq te 0 && Nat.beq sz 1 && Nat.beq ver 0 then some (st, pend, fun st' pend' => loopOb st' pend' e nt ps as bd inf) else none
  | _ => none

theorem loopAtE_ok {M : Mem} {t : Nat} {st : LoopState} {pend : Option Code} {o : LoopState → Option Code → Ob} (h : loopAtE M t = some (st, pend, o)) {K : (LoopState → Option Code → Ob) → Prop} (hK : K o) : LoopAt M t st pend K := by
  unfold loopAtE at h
  split at h
  · next te sz ver st' pend' e nt ps as bd inf hg =>
    cases hb : (Nat.beq te 0 && Nat.beq sz 1 && Nat.beq ver 0) with
    | false => rw [hb] at h; cases h
    | true =>
      rw [hb] at h
      simp only [cond_true, Option.some.injEq, Prod.mk.injEq] at h
      obtain ⟨rfl, rfl, rfl⟩ := h
      simp only [Bool.and_eq_true] at hb
      have h1 := Nat.eq_of_beq_eq_true hb.1.1
      have h2 := Nat.eq_of_beq_eq_true hb.1.2
      have h3 := Nat.eq_of_beq_eq_true hb.2
      subst h1 h2 h3
      exact ⟨e, nt, ps, as, bd, inf, hg, hK⟩
  · cases h

/-- What follows a loop over a function. -/
def rangeE (t : Nat) (e : Env) (M : Mem) : Option (Exit × Env × Mem) := match loopAtE M t with
  | some (.busy, _, _) => none
  | some (_, none, o) => some (.normal, e, M.put t (o .exhausted none))
  | some (_, some .ret, o) => some (.ret, e, M.put t (o .exhausted (some .ret)))
  | some (_, some (.exit id), o) => some (.exit id, e, M.put t (o .exhausted (some (.exit id))))
  | _ => none

theorem rangeE_ok {t : Nat} {e : Env} {M : Mem} {x : Exit} {e' : Env} {M' : Mem} (h : rangeE t e M = some (x, e', M')) {Q : Exit → Env → Mem → Prop} (hQ : Q x e' M') : rangeQ t e Q M := by
  unfold rangeE at h
  split at h
  · cases h
  · next st o hb hq =>
    simp only [Option.some.injEq, Prod.mk.injEq] at h
    obtain ⟨rfl, rfl, rfl⟩ := h
    exact ⟨st, none, (fun e => hb e), loopAtE_ok hq hQ⟩
  · next st o hb hq =>
    simp only [Option.some.injEq, Prod.mk.injEq] at h
    obtain ⟨rfl, rfl, rfl⟩ := h
    exact ⟨st, some .ret, (fun e => hb e), loopAtE_ok hq hQ⟩
  · next st id o hb hq =>
    simp only [Option.some.injEq, Prod.mk.injEq] at h
    obtain ⟨rfl, rfl, rfl⟩ := h
    exact ⟨st, some (.exit id), (fun e => hb e), loopAtE_ok hq hQ⟩
  · cases h

def codeE (T : Tab) (wr : List FuncId) (ms : Ms) (H : Hd) (L : Nat) (nt : Nat) (cut : Nat → Option Nat) (rd : Bool) : (c : Code) → codeOk nt cut c = true → Env → Mem → Option (Exit × Env × Mem)
  | .skip, _, e, M => some (.normal, e, M)
  | .label _, _, e, M => some (.normal, e, M)
  | .ret, _, e, M => some (.ret, e, M)
  | .exit id, _, e, M => some (.exit id, e, M)
  | .seq a b, h, e, M => match codeE T wr ms H L nt cut rd a (and_l h) e M with
    | some (.normal, e', M') => codeE T wr ms H L nt cut rd b (and_r h) e' M'
    | some (x, e', M') => some (x, e', M')
    | none => none
  | .cond c a b, h, e, M => match evB e c with
    | .lit (.bool true) => codeE T wr ms H L nt cut rd a (and_l h) e M
    | .lit (.bool false) => codeE T wr ms H L nt cut rd b (and_r h) e M
    | _ => none
  | .block id a, h, e, M => match codeE T wr ms H L nt cut rd a h e M with
    | some (.exit id', e', M') => bif Nat.beq id' id then some (.normal, e', M') else some (.exit id', e', M')
    | some (x, e', M') => some (x, e', M')
    | none => none
  | .region id ops draw, _, e, M =>
    match (bif draw then (match cut id with
        | some c => (match dopsE T ms (drawC T wr H) (ops.toList.take c).toArray M.length 0 (ops.toList.take c) [] [] e M with
          | some (e', M') => opsE T ms (seqC T wr H) H.yld ops (fun _ M => M.length) 0 (ops.toList.drop c) e' M'
          | none => none)
        | none => dopsE T ms (drawC T wr H) ops M.length 0 ops.toList [] [] e M)
      else opsE T ms (seqC T wr H) H.yld ops (fun _ M => M.length) 0 ops.toList e M) with
    | some (e', M') => some (.normal, e', M')
    | none => none
  | .loop c, h, e, M => loopE (codeE T wr ms H L nt cut rd c h) (keysOf e []) L e M
  | .rangeFunc g ps as bd, h, e, M => bif rd then none else match evB e g with
    | .clo f n cap => forceN M.length fun t => match H.fn false f (.yld t :: (List.range n).map cap) (M.put t (loopOb .ready none e nt ps as bd ⟨cut, some ⟨and_l (and_l h), and_r (and_l h), and_r h⟩⟩)) with
      | some (_, M') => rangeE t e M'
      | none => none
    | _ => none
  | _, _, _, _ => none

/-- A round. -/
def yldE (T : Tab) (wr : List FuncId) (ms : Ms) (H : Hd) (L : Nat) : YldE := fun t xs M => match M.get t with
  | some ⟨te, sz, ver, .loop .ready none e nt ps as bd ⟨cut, some h⟩⟩ => bif Nat.beq te 0 && Nat.beq sz 1 && Nat.beq ver 0 && Nat.beq xs.length ps.size then
      (match codeE T wr ms H L nt cut true as h.down.2.1 (putArgs (ps.toList.zip xs) e) M with
      | some (.normal, e1, M1) => match loopAtE M1 t with
        | some (.ready, none, o) => match codeE T wr ms H L nt cut true bd h.down.2.2 e1 (M1.put t (o .busy none)) with
          | some (x, _, M2) => match loopAtE M2 t with
            | some (.busy, none, o) => (match x with
              | .normal => some (.bool true, M2.put t (o .ready none))
              | .ret => some (.bool false, M2.put t (o .done (some .ret)))
              | .exit id => some (.bool false, M2.put t (o .done (some (.exit id))))
              | _ => none)
            | _ => none
          | none => none
        | _ => none
      | _ => none) else none
  | _ => none

/-! ## Functions -/

/-- The function's code has been checked. -/
def okFn (P : Program) (cut : FuncId → Nat → Option Nat) (f : FuncId) : Bool := match P.funcs[f]? with
  | some fn => match fn.body with
    | some c => codeOk fn.ntmps (cut f) c && !(fn.name == "runtime.NumGoroutine")
    | none => false
  | none => false

theorem okFn_at {P : Program} {cut : FuncId → Nat → Option Nat} {f : FuncId} (h : okFn P cut f = true) {fn : Func} {c : Code} (hf : P.funcs[f]? = some fn) (hb : fn.body = some c) : codeOk fn.ntmps (cut f) c = true ∧ (fn.name == "runtime.NumGoroutine") = false := by
  unfold okFn at h
  rw [hf] at h
  simp only [hb, Bool.and_eq_true, Bool.not_eq_true'] at h
  exact h

/-- Integers alike. -/
def eqB : V → V → Bool
  | .lit (.int .i64 a), .lit (.int .i64 b) => decide (a = b)
  | .ints fr xs, .ints fr' ys => (fr == fr') && decide (xs = ys)
  | _, _ => false
theorem eqB_ok {x y : V} (h : eqB x y = true) : x = y := by
  unfold eqB at h
  split at h
  · rw [of_decide_eq_true h]
  · simp only [Bool.and_eq_true, beq_iff_eq] at h
    rw [h.1, of_decide_eq_true h.2]
  · cases h
def eqsB : List V → List V → Bool
  | [], [] => true
  | x :: xs, y :: ys => eqB x y && eqsB xs ys
  | _, _ => false
theorem eqsB_ok : ∀ {xs ys : List V}, eqsB xs ys = true → xs = ys := by
  intro xs
  induction xs with
  | nil => intro ys h; cases ys with | nil => rfl | cons => cases h
  | cons x xs ih =>
    intro ys h
    cases ys with
    | nil => cases h
    | cons y ys =>
      simp only [eqsB, Bool.and_eq_true] at h
      rw [eqB_ok h.1, ih h.2]

/-- A call that is known already. -/
structure Kn (P : Program) where
  f : FuncId
  xs : List V
  R : V
  h : APure P f xs (fun R' => R' = R)
def lookK {P : Program} : List (Kn P) → FuncId → List V → Option V
  | [], _, _ => none
  | k :: r, f, xs => bif Nat.beq k.f f && eqsB k.xs xs then some k.R else lookK r f xs
theorem lookK_ok {P : Program} {f : FuncId} {xs : List V} {R : V} : ∀ {l : List (Kn P)}, lookK l f xs = some R → APure P f xs (fun R' => R' = R) := by
  intro l
  induction l with
  | nil => exact fun h => nomatch h
  | cons k r ih =>
    intro h
    simp only [lookK] at h
    cases hb : (Nat.beq k.f f && eqsB k.xs xs) with
    | false => rw [hb] at h; exact ih h
    | true =>
      rw [hb] at h
      simp only [cond_true, Option.some.injEq] at h
      simp only [Bool.and_eq_true] at hb
      rw [← Nat.eq_of_beq_eq_true hb.1, ← eqsB_ok hb.2, ← h]
      exact k.h

/-- Cells alike, as far as they are read. -/
def subB : V → V → Bool
  | .lit (.int .i64 a), .lit (.int .i64 b) => decide (a = b)
  | .ints fr xs, .ints fr' ys => (fr || !fr') && decide (xs = ys)
  | .seq fr sz n f, .seq fr' sz' n' f' => (fr || !fr') && Nat.beq sz sz' && Nat.beq n n' && (List.range n).all fun j => (List.range sz).all fun k => subB (f j k) (f' j k)
  | .agg n g, .agg n' g' => Nat.beq n n' && (List.range n).all fun k => subB (g k) (g' k)
  | _, _ => false
def subsB : List V → List V → Bool
  | [], [] => true
  | x :: xs, y :: ys => subB x y && subsB xs ys
  | _, _ => false

/-- A call that makes memory alone, known already. -/
structure KnI (P : Program) where
  f : FuncId
  xs : List V
  R : V
  h : AImm P f xs (fun R' => R' = R)
def lookI {P : Program} : List (KnI P) → FuncId → List V → Option V
  | [], _, _ => none
  | k :: r, f, xs => bif Nat.beq k.f f && subsB xs k.xs then some k.R else lookI r f xs

theorem subB_ok : ∀ {x y : V}, subB x y = true → ∀ (φ : Phi) (base : Nat) (w : World) (v : Value), Rep φ base w x v → Rep φ base w y v := by
  intro x
  induction x with
  | lit u =>
    intro y h φ base w v hx
    unfold subB at h
    split at h
    · next a b heq => rw [heq, of_decide_eq_true h] at hx; exact hx
    · next heq => cases heq
    · next heq => cases heq
    · next heq => cases heq
    · cases h
  | ints fr xs =>
    intro y h φ base w v hx
    cases y with
    | ints fr' ys =>
      simp only [subB, Bool.and_eq_true, Bool.or_eq_true, Bool.not_eq_true'] at h
      obtain ⟨h1, h2⟩ := h
      have h2 := of_decide_eq_true h2
      subst h2
      obtain ⟨A, cap, e, g1, g2, g3⟩ := hx
      refine ⟨A, cap, e, g1, g2, fun hn => ?_⟩
      obtain ⟨b, off, k1, k2, k3, k4⟩ := g3 hn
      exact ⟨b, off, k1, k2, fun hf => k3 (h1.elim id (fun h => by rw [hf] at h; cases h)), k4⟩
    | _ => cases h
  | seq fr sz n f ih =>
    intro y h φ base w v hx
    cases y with
    | seq fr' sz' n' f' =>
      simp only [subB, Bool.and_eq_true, Bool.or_eq_true, Bool.not_eq_true', List.all_eq_true, List.mem_range] at h
      obtain ⟨⟨⟨h1, h2⟩, h3⟩, h4⟩ := h
      have h2 := Nat.eq_of_beq_eq_true h2
      have h3 := Nat.eq_of_beq_eq_true h3
      subst h2
      subst h3
      obtain ⟨A, cap, e, g1, g2, g3, g4⟩ := hx
      refine ⟨A, cap, e, g1, g2, g3, fun hn => ?_⟩
      obtain ⟨b, off, k1, k2, k3, k4⟩ := g4 hn
      refine ⟨b, off, k1, k2, fun hf => k3 (h1.elim id (fun h => by rw [hf] at h; cases h)), fun j o hj ho => ?_⟩
      obtain ⟨c, q1, q2, q3⟩ := k4 j o hj ho
      exact ⟨c, q1, q2, ih j o (h4 j hj o ho) _ _ _ _ q3⟩
    | _ => cases h
  | agg n g ih =>
    intro y h φ base w v hx
    cases y with
    | agg n' g' =>
      simp only [subB, Bool.and_eq_true, List.all_eq_true, List.mem_range] at h
      obtain ⟨h1, h2⟩ := h
      have h1 := Nat.eq_of_beq_eq_true h1
      subst h1
      obtain ⟨cs, e, g1, g2⟩ := hx
      exact ⟨cs, e, g1, fun i hi => by obtain ⟨c, q1, q2, q3⟩ := g2 i hi; exact ⟨c, q1, q2, ih i (h2 i hi) _ _ _ _ q3⟩⟩
    | _ => cases h
  | _ => intro y h; cases y <;> cases h
theorem subsB_ok : ∀ {xs ys : List V}, subsB xs ys = true → xs.length = ys.length ∧ ∀ i (φ : Phi) (base : Nat) (w : World) (v : Value), Rep φ base w (xs.getD i .any) v → Rep φ base w (ys.getD i .any) v := by
  intro xs
  induction xs with
  | nil => intro ys h; cases ys with | nil => exact ⟨rfl, fun _ _ _ _ _ h => h⟩ | cons => cases h
  | cons x xs ih =>
    intro ys h
    cases ys with
    | nil => cases h
    | cons y ys =>
      simp only [subsB, Bool.and_eq_true] at h
      obtain ⟨h1, h2⟩ := ih h.2
      refine ⟨by simp [h1], fun i => ?_⟩
      cases i with
      | zero => exact fun φ base w v hx => subB_ok h.1 φ base w v hx
      | succ i => simpa using h2 i
theorem AImm.args {P : Program} {f : FuncId} {xs ys : List V} {Q : V → Prop} (hl : xs.length = ys.length) (h : ∀ i (φ : Phi) (base : Nat) (w : World) (v : Value), Rep φ base w (xs.getD i .any) v → Rep φ base w (ys.getD i .any) v) (hy : AImm P f ys Q) : AImm P f xs Q := by
  unfold AImm at hy ⊢
  exact ⟨hy.1, fun nb base φ w M args hm hs ha => hy.2 nb base φ w M args hm (by rw [hs, hl]) (fun i => h i _ _ _ _ (ha i))⟩
theorem lookI_ok {P : Program} {f : FuncId} {xs : List V} {R : V} : ∀ {l : List (KnI P)}, lookI l f xs = some R → AImm P f xs (fun R' => R' = R) := by
  intro l
  induction l with
  | nil => exact fun h => nomatch h
  | cons k r ih =>
    intro h
    simp only [lookI] at h
    cases hb : (Nat.beq k.f f && subsB xs k.xs) with
    | false => rw [hb] at h; exact ih h
    | true =>
      rw [hb] at h
      simp only [cond_true, Option.some.injEq] at h
      simp only [Bool.and_eq_true] at hb
      obtain ⟨h1, h2⟩ := subsB_ok hb.2
      rw [← Nat.eq_of_beq_eq_true hb.1, ← h]
      exact AImm.args h1 h2 k.h

structure Ev where
  P : Program
  T : Tab
  wr : List FuncId
  ok : List FuncId
  ms : Ms
  cut : FuncId → Nat → Option Nat
  L : Nat
  hok : ok.all (okFn P cut) = true
  known : List (Kn P)
  knownI : List (KnI P) := []

theorem Ev.at (E : Ev) {f : FuncId} (h : E.ok.contains f = true) : okFn E.P E.cut f = true := List.all_eq_true.1 E.hok f (by simpa using h)

abbrev FnAt (P : Program) (cut : FuncId → Nat → Option Nat) (f : FuncId) := { q : Func × Code // P.funcs[f]? = some q.1 ∧ q.1.body = some q.2 ∧ codeOk q.1.ntmps (cut f) q.2 = true ∧ (q.1.name == "runtime.NumGoroutine") = false }

def getC {P : Program} {cut : FuncId → Nat → Option Nat} {f : FuncId} (hk : okFn P cut f = true) {fn : Func} (hp : P.funcs[f]? = some fn) : (b : Option Code) → fn.body = b → Option (FnAt P cut f)
  | none, _ => none
  | some c, hb => some ⟨(fn, c), hp, hb, okFn_at hk hp hb⟩

def getO {P : Program} {cut : FuncId → Nat → Option Nat} {f : FuncId} (hk : okFn P cut f = true) : (o : Option Func) → P.funcs[f]? = o → Option (FnAt P cut f)
  | none, _ => none
  | some fn, hp => getC hk hp fn.body rfl

def getFn (E : Ev) (f : FuncId) : Option (FnAt E.P E.cut f) :=
  match h : E.ok.contains f with
  | false => none
  | true => getO (E.at h) (E.P.funcs[f]?) rfl

def FrB : V → Bool
  | .lit _ => true
  | .ints fr _ => fr
  | .seq fr sz n f => fr && (List.range n).all fun j => (List.range sz).all fun k => FrB (f j k)
  | .agg n g => (List.range n).all fun k => FrB (g k)
  | .tup n g => (List.range n).all fun k => FrB (g k)
  | .clo _ n _ => Nat.beq n 0
  | .emp _ => true
  | .any => true
  | .ifc _ x => FrB x
  | _ => false

theorem FrB_ok : ∀ {x : V}, FrB x = true → Fr x := by
  intro x
  induction x with
  | ints fr xs => exact fun h => h
  | seq fr sz n f ih =>
    intro h
    simp only [FrB, Bool.and_eq_true, List.all_eq_true, List.mem_range] at h
    exact ⟨h.1, fun j k hj hk => ih j k (h.2 j hj k hk)⟩
  | agg n g ih =>
    intro h
    simp only [FrB, List.all_eq_true, List.mem_range] at h
    exact fun k hk => ih k (h k hk)
  | tup n g ih =>
    intro h
    simp only [FrB, List.all_eq_true, List.mem_range] at h
    exact fun k hk => ih k (h k hk)
  | clo f n g _ => exact fun h => Nat.eq_of_beq_eq_true h
  | lit => exact fun _ => trivial
  | emp => exact fun _ => trivial
  | any => exact fun _ => trivial
  | ifc ty x ih => exact fun h => ih h
  | _ => exact fun h => nomatch h

def pair (a b : V) : V := .tup 2 fun k => match k with | 0 => a | _ => b
def triple (a b c : V) : V := .tup 3 fun k => match k with | 0 => a | 1 => b | _ => c

def resP (T : Tab) (e : Env) (M : Mem) (r : ResultVar) : Option V := match resV T e M r with
  | some (p, v) => bif p.dec && (verOk M v).dec && FrB (asInts T 0 (ownval M 4 v)) then some (asInts T 0 (ownval M 4 v)) else none
  | none => none

def finP (T : Tab) (rs : List ResultVar) (e : Env) (M : Mem) : Option V := match rs with
  | [] => some V.un
  | [r] => resP T e M r
  | [r, r'] => match resP T e M r, resP T e M r' with
    | some v, some v' => some (pair v v')
    | _, _ => none
  | [r, r', r2] => match resP T e M r, resP T e M r', resP T e M r2 with
    | some v, some v', some v2 => some (triple v v' v2)
    | _, _, _ => none
  | _ => none

def resM (T : Tab) (e : Env) (M : Mem) (r : ResultVar) : Option V := match resV T e M r with
  | some (p, v) => bif p.dec then some v else none
  | none => none

def finM (T : Tab) (rs : List ResultVar) (e : Env) (M : Mem) : Option V := match rs with
  | [] => some V.un
  | [r] => resM T e M r
  | [r, r'] => match resM T e M r, resM T e M r' with
    | some v, some v' => some (pair v v')
    | _, _ => none
  | [r, r', r2] => match resM T e M r, resM T e M r', resM T e M r2 with
    | some v, some v', some v2 => some (triple v v' v2)
    | _, _, _ => none
  | _ => none

def retX : Exit → Bool
  | .normal => true
  | .ret => true
  | _ => false

def fnE (E : Ev) (H : Hd) (pure : Bool) (f : FuncId) (xs : List V) (M : Mem) : Option (V × Mem) := match (bif pure then lookK E.known f xs else none) with
  | some R => some (R, M)
  | none => match getFn E f with
  | some ⟨(fn, c), h⟩ => bif Nat.ble xs.length fn.ntmps then
      (match codeE E.T E.wr E.ms H E.L fn.ntmps (E.cut f) false c h.2.2.1 (envOf xs) (bif pure then [] else M) with
      | some (x, e', M') => bif retX x then (bif pure then (match finP E.T fn.results.toList e' M' with
          | some R => some (R, M)
          | none => none) else (match finM E.T fn.results.toList e' M' with
          | some R => some (R, M')
          | none => none)) else none
      | none => none) else none
  | none => none

def evH (E : Ev) : Nat → Hd
  | 0 => ⟨fun _ _ _ _ => none, fun _ _ _ => none, fun _ _ => none⟩
  | n + 1 => ⟨fnE E (evH E n), yldE E.T E.wr E.ms (evH E n) E.L, lookI E.knownI⟩

def evFn (E : Ev) (n : Nat) : Bool → FuncId → List V → Mem → Option (V × Mem) := (evH E n).fn

theorem NoFr_view {ob : Ob} {off len : Nat} {F : V → V} (hF : ∀ v, NoFr (F v)) : NoFr (view false ob off len F) := by
  unfold view
  split
  · cases h : Nat.beq ob.sz 1 with
    | true => rfl
    | false => trivial
  · cases h : Nat.beq ob.sz 1 with
    | true => rfl
    | false => trivial
  · exact ⟨rfl, fun j k => hF _⟩

theorem NoFr_byvalN (M : Mem) : ∀ (d : Nat) (x : V), NoFr (byvalN M d x) := by
  intro d
  induction d with
  | zero => intro x; exact trivial
  | succ d ih =>
    intro x
    cases x with
    | lit => exact trivial
    | ints fr xs => rfl
    | full xs => rfl
    | seq fr sz n f => exact ⟨rfl, fun j k => ih _⟩
    | sl t ver off len =>
      simp only [byvalN]
      split
      · next ob _ =>
        cases h : Nat.beq ver ob.ver with
        | true => exact NoFr_view ih
        | false => trivial
      · trivial
    | ptr t ver i o =>
      simp only [byvalN]
      split
      · next ob _ =>
        cases h : Nat.beq ver ob.ver with
        | true => exact fun k => ih _
        | false => trivial
      · trivial
    | at_ sz g o => exact fun k => ih _
    | agg n g => exact fun k => ih _
    | tup n g => exact fun k => ih _
    | clo f n g => exact fun k => ih _
    | emp => trivial
    | any => trivial
    | yld t => trivial
    | ifc ty x => exact ih x
    | bnd f n g => exact fun k => ih _

theorem NoFr_byval (M : Mem) (d : Nat) (x : V) : NoFr (byval M d x) := by
  unfold byval
  split
  · split
    · exact NoFr_view (NoFr_byvalN M d)
    · trivial
  · split
    · exact fun k => NoFr_byvalN M d _
    · trivial
  · exact NoFr_byvalN M _ _


/-! ## Soundness -/

theorem APure.to' {P : Program} {f : FuncId} {xs : List V} {R : V} {M' M : Mem} {K : V → Mem → Prop} (h : APure P f xs (fun R' => R' = R)) (hK : K R M) (_ : M' = M) : APure P f xs (fun R' => K R' M) := h.mono fun R' hR => by rw [hR]; exact hK

theorem ACM.mono {P : Program} {f : FuncId} {xs : List V} {M : Mem} {Q Q' : V → Mem → Prop} {nb0 nb1 : Option Nat} (h : ACM P f xs M Q nb0) (hq : ∀ R M', Q R M' → Q' R M') (hn : nb0 = none ∨ nb0 = nb1 := by first | exact .inl rfl | exact .inr rfl) : ACM P f xs M Q' nb1 := by
  unfold ACM at h ⊢
  refine ⟨h.1, fun nb base φ w args hnb hm hs ha => (h.2 nb base φ w args (fun k hk => hn.elim (fun e => by rw [e] at hk; cases hk) (fun e => hnb k (by rw [← e]; exact hk))) hm hs ha).mono fun e w' hr => ?_⟩
  obtain ⟨v, R, M', φ', h1, h2, h3⟩ := hr
  exact ⟨v, R, M', φ', h1, hq R M' h2, h3⟩

theorem YW.mono {P : Program} {t : Nat} {xs : List V} {M : Mem} {Q Q' : V → Mem → Prop} (h : YW P t xs M Q) (hq : ∀ R M', Q R M' → Q' R M') : YW P t xs M Q' := by
  unfold YW at h ⊢
  intro nb base φ w args r hr hm hs ha
  obtain ⟨h0, f, tm, as, bd, h1, h2⟩ := h nb base φ w args r hr hm hs ha
  refine ⟨h0, f, tm, as, bd, h1, h2.mono fun e w' hr => ?_⟩
  obtain ⟨v, R, M', φ', k1, k2, k3⟩ := hr
  exact ⟨v, R, M', φ', k1, hq R M' k2, k3⟩

/-- The run of functions and rounds is right. -/
structure HdOk (P : Program) (H : Hd) : Prop where
  pure : ∀ f xs M R M', (∀ x ∈ xs, NoFr x) → H.fn true f xs M = some (R, M') → APure P f xs (fun R' => R' = R)
  acm : ∀ f xs M R M', H.fn false f xs M = some (R, M') → ACM P f xs M (fun R' M'' => R' = R ∧ M'' = M')
  yld : ∀ t xs M R M', H.yld t xs M = some (R, M') → YW P t xs M (fun R' M'' => R' = R ∧ M'' = M')
  imm : ∀ f xs R, H.imm f xs = some R → AImm P f xs (fun R' => R' = R)

section
variable {P : Program} {T : Tab} {wr : List FuncId} {ms : Ms} {H : Hd} {L : Nat}

theorem seqC_ok (hH : HdOk P H) {nt nb : Nat} {rd : Bool} : ∀ f ts xs M v M', seqC T wr H f ts xs M = some (v, M') → ∀ K : V → Mem → Prop, K v M' → callV ⟨P, T, wr, nt, nb, rd⟩ f ts xs M K := by
  intro f ts xs M v M' h K hK
  unfold seqC at h
  unfold callV
  cases hw : wr.contains f with
  | true =>
    rw [hw] at h
    simp only [cond_true] at h ⊢
    split at h
    · next R M1 hq =>
      rw [forceN_eq] at h
      simp only [Option.some.injEq, Prod.mk.injEq] at h
      obtain ⟨rfl, rfl⟩ := h
      exact (ACM_gc (hH.acm _ _ _ _ _ hq)).mono fun R' M'' hr => by obtain ⟨rfl, rfl⟩ := hr; exact hK
    · cases h
  | false =>
    rw [hw] at h
    simp only [cond_false] at h ⊢
    cases hv : (verOks M xs).dec with
    | false => rw [hv] at h; cases h
    | true =>
      rw [hv] at h
      simp only [cond_true] at h
      split at h
      · next R M1 hq =>
        simp only [Option.some.injEq, Prod.mk.injEq] at h
        obtain ⟨rfl, rfl⟩ := h
        rw [Obl.req_iff]
        refine ⟨Obl.dec_holds hv, (hH.pure _ _ _ _ _ ?_ hq).to hK⟩
        intro x hx
        obtain ⟨p, _, rfl⟩ := List.mem_map.1 hx
        exact NoFr_byval _ _ _
      · cases h

theorem drawC_ok (hH : HdOk P H) {nt nb : Nat} {rd : Bool} : ∀ f ts xs M v M', drawC T wr H f ts xs M = some (v, M') → M' = M ∧ DCall ⟨P, T, wr, nt, nb, rd⟩ f ts xs M v := by
  intro f ts xs M v M' h
  unfold drawC at h
  cases hw : wr.contains f with
  | true =>
    rw [hw] at h
    simp only [cond_true] at h
    split at h
    · next R hq =>
      simp only [Option.some.injEq, Prod.mk.injEq] at h
      obtain ⟨rfl, rfl⟩ := h
      exact ⟨rfl, .inr ⟨hw, hH.imm _ _ _ hq⟩⟩
    · cases h
  | false =>
    rw [hw] at h
    simp only [cond_false] at h
    cases hv : (verOks M xs).dec with
    | false => rw [hv] at h; cases h
    | true =>
      rw [hv] at h
      simp only [cond_true] at h
      split at h
      · next R M1 hq =>
        simp only [Option.some.injEq, Prod.mk.injEq] at h
        obtain ⟨rfl, rfl⟩ := h
        refine ⟨rfl, .inl ⟨hw, Obl.dec_holds hv, hH.pure _ _ _ _ _ ?_ hq⟩⟩
        intro x hx
        obtain ⟨p, _, rfl⟩ := List.mem_map.1 hx
        exact NoFr_byval _ _ _
      · cases h

theorem yld_ok (hH : HdOk P H) : ∀ t xs M v M', H.yld t xs M = some (v, M') → ∀ K : V → Mem → Prop, K v M' → YW P t xs M K := by
  intro t xs M v M' h K hK
  exact (hH.yld _ _ _ _ _ h).mono fun R M'' hr => by obtain ⟨rfl, rfl⟩ := hr; exact hK

theorem AW_loopE {X : Cx} (hT : TabOk X.P X.T) {c : Code} {body : Env → Mem → Option (Exit × Env × Mem)} (hb : ∀ e M x e' M', body e M = some (x, e', M') → ∀ Q : Exit → Env → Mem → Prop, Q x e' M' → awp X c Q e M) {keys : List Nat} {n : Nat} {e : Env} {M : Mem} {x : Exit} {e' : Env} {M' : Mem}
    (h : loopE body keys n e M = some (x, e', M')) {Q : Exit → Env → Mem → Prop} (hQ : Q x e' M') : AW X.P X.nt X.nb X.rd (.loop c) Q e M := by
  rw [AW_def]
  intro ro lo base φ w a hro hst
  refine wpIn_loop_ghost (fun n a' w' => ∃ e1 M1 φ1, loopE body keys n e1 M1 = some (x, e', M') ∧ St lo X.nt X.nb base φ1 w' M1 e1 a' ∧ Evo w φ w' φ1) n ⟨e, M, φ, h, hst, Evo.refl w φ⟩ ?_
  rintro n a' w' ⟨e1, M1, φ1, h1, hst1, hv1⟩
  cases n with
  | zero => cases h1
  | succ n =>
    simp only [loopE] at h1
    cases hq : body e1 M1 with
    | none => rw [hq] at h1; cases h1
    | some q =>
      obtain ⟨y, e2, M2⟩ := q
      rw [hq] at h1
      have hw := hb _ _ _ _ _ hq (fun x' e'' M'' => x' = y ∧ e'' = e2 ∧ M'' = M2) ⟨rfl, rfl, rfl⟩
      refine wpIn_mono (awp_ok hT hro c _ base φ1 w' M1 _ a' hst1 hw) ?_
      rintro z a₁ w₁ ⟨hx, e₁, M₁, φ₁, ⟨rfl, rfl, rfl⟩, hst₁, hv₁⟩
      cases z with
      | normal =>
        simp only at h1
        rw [getB_eq] at h1
        exact ⟨n, Nat.lt_succ_self n, _, _, φ₁, h1, hst₁.sel keys, hv1.trans hv₁⟩
      | panic c => exact hx.elim
      | outgrown => exact hx.elim
      | _ =>
        simp only [Option.some.injEq, Prod.mk.injEq] at h1
        obtain ⟨rfl, rfl, rfl⟩ := h1
        exact ⟨trivial, _, _, φ₁, hQ, hst₁, hv1.trans hv₁⟩

theorem take_extract (ops : Array Oper) (c : Nat) : (ops.toList.take c).toArray = ops.extract 0 c := by
  apply Array.toList_inj.1
  simp

theorem codeE_ok (hT : TabOk P T) (hm : P.follows .mixedOrders = true) (hms : ∀ q ∈ ms, MethodIs P q.1 q.2.1 q.2.2) (hH : HdOk P H) {nt nb : Nat} {cut : Nat → Option Nat} {rd : Bool} : ∀ (c : Code) (hc : codeOk nt cut c = true) (e : Env) (M : Mem) (x : Exit) (e' : Env) (M' : Mem),
    codeE T wr ms H L nt cut rd c hc e M = some (x, e', M') → ∀ Q : Exit → Env → Mem → Prop, Q x e' M' → awp ⟨P, T, wr, nt, nb, rd⟩ c Q e M := by
  intro c
  induction c with
  | skip => intro _ e M x e' M' h Q hQ; simp only [codeE, Option.some.injEq, Prod.mk.injEq] at h; obtain ⟨rfl, rfl, rfl⟩ := h; exact hQ
  | label l => intro _ e M x e' M' h Q hQ; simp only [codeE, Option.some.injEq, Prod.mk.injEq] at h; obtain ⟨rfl, rfl, rfl⟩ := h; exact hQ
  | ret => intro _ e M x e' M' h Q hQ; simp only [codeE, Option.some.injEq, Prod.mk.injEq] at h; obtain ⟨rfl, rfl, rfl⟩ := h; exact hQ
  | exit id => intro _ e M x e' M' h Q hQ; simp only [codeE, Option.some.injEq, Prod.mk.injEq] at h; obtain ⟨rfl, rfl, rfl⟩ := h; exact hQ
  | seq a b iha ihb =>
    intro hok e M x e' M' h Q hQ
    simp only [codeE] at h
    cases hq : codeE T wr ms H L nt cut rd a (and_l hok) e M with
    | none => rw [hq] at h; cases h
    | some q =>
      obtain ⟨y, e1, M1⟩ := q
      rw [hq] at h
      simp only [awp]
      refine iha _ _ _ _ _ _ hq _ ?_
      cases y with
      | normal => exact stepK_in (ihb _ _ _ _ _ _ h Q hQ)
      | _ =>
        simp only [Option.some.injEq, Prod.mk.injEq] at h
        obtain ⟨rfl, rfl, rfl⟩ := h
        exact hQ
  | cond c a b iha ihb =>
    intro hok e M x e' M' h Q hQ
    simp only [codeE, evB_eq] at h
    simp only [awp]
    split at h
    · next hc => rw [hc]; exact iha _ _ _ _ _ _ h Q hQ
    · next hc => rw [hc]; exact ihb _ _ _ _ _ _ h Q hQ
    · cases h
  | block id a iha =>
    intro hok e M x e' M' h Q hQ
    simp only [codeE] at h
    simp only [awp]
    cases hq : codeE T wr ms H L nt cut rd a hok e M with
    | none => rw [hq] at h; cases h
    | some q =>
      obtain ⟨y, e1, M1⟩ := q
      rw [hq] at h
      refine iha _ _ _ _ _ _ hq _ ?_
      cases y with
      | exit id' =>
        simp only at h
        simp only [blockQ]
        cases hb : Nat.beq id' id with
        | true =>
          rw [hb] at h
          simp only [cond_true, Option.some.injEq, Prod.mk.injEq] at h
          obtain ⟨rfl, rfl, rfl⟩ := h
          exact hQ
        | false =>
          rw [hb] at h
          simp only [cond_false, Option.some.injEq, Prod.mk.injEq] at h
          obtain ⟨rfl, rfl, rfl⟩ := h
          exact hQ
      | _ =>
        simp only [Option.some.injEq, Prod.mk.injEq] at h
        obtain ⟨rfl, rfl, rfl⟩ := h
        exact hQ
  | region id ops draw =>
    intro hok e M x e' M' h Q hQ
    simp only [codeOk] at hok
    simp only [codeE] at h
    simp only [awp]
    cases draw with
    | true =>
      simp only [cond_true] at h hok ⊢
      split at h
      · next e1 M1 hq =>
        simp only [Option.some.injEq, Prod.mk.injEq] at h
        obtain ⟨rfl, rfl, rfl⟩ := h
        cases hcut : cut id with
        | none =>
          rw [hcut] at hok hq
          exact AW_draw (X := ⟨P, T, wr, nt, nb, rd⟩) hT hm hok (dopsE_ok hms (drawC_ok hH) _ _ _ _ _ _ _ _ hq _ hQ)
        | some k =>
          rw [hcut] at hok hq
          simp only [Bool.and_eq_true] at hok hq
          split at hq
          · next e2 M2 hq2 =>
            rw [take_extract] at hq2
            have ht : ops.toList.take k = (ops.extract 0 k).toList := by rw [← take_extract]
            rw [ht] at hq2
            exact AW_drawC (X := ⟨P, T, wr, nt, nb, rd⟩) hT hm k (by simpa using hok.1) hok.2 (dopsE_ok hms (drawC_ok hH) _ _ _ _ _ _ _ _ hq2 _ (opsE_ok hms (seqC_ok hH) (yld_ok hH) _ _ _ _ _ _ hq _ hQ))
          · cases hq
      · cases h
    | false =>
      simp only [cond_false] at h hok ⊢
      rw [hok]
      simp only [cond_true]
      split at h
      · next e1 M1 hq =>
        simp only [Option.some.injEq, Prod.mk.injEq] at h
        obtain ⟨rfl, rfl, rfl⟩ := h
        exact opsE_ok hms (seqC_ok hH) (yld_ok hH) _ _ _ _ _ _ hq _ hQ
      · cases h
  | loop c ih =>
    intro hok e M x e' M' h Q hQ
    simp only [codeE] at h
    exact AW_loopE (X := ⟨P, T, wr, nt, nb, rd⟩) hT (ih hok) h hQ
  | rangeFunc g ps as bd _ _ =>
    intro hok e M x e' M' h Q hQ
    simp only [codeE, evB_eq, forceN_eq] at h
    cases hrd : rd with
    | true => rw [hrd] at h; cases h
    | false =>
      rw [hrd] at h
      simp only [cond_false] at h
      simp only [awp]
      split at h
      · next f n cap hg =>
        split at h
        · next R M1 hq =>
          refine AW_range (X := ⟨P, T, wr, nt, nb, false⟩) rfl _ hg ((hH.acm _ _ _ _ _ hq).mono fun R' M'' hr => ?_)
          obtain ⟨rfl, rfl⟩ := hr
          exact rangeE_ok h hQ
        · cases h
      · cases h
  | scope c _ => intro _ e M x e' M' h; cases h
  | goto l => intro _ e M x e' M' h; cases h
  | refuse y => intro _ e M x e' M' h; cases h

theorem yldE_ok (hT : TabOk P T) (hm : P.follows .mixedOrders = true) (hms : ∀ q ∈ ms, MethodIs P q.1 q.2.1 q.2.2) (hH : HdOk P H) : ∀ t xs M R M', yldE T wr ms H L t xs M = some (R, M') → YW P t xs M (fun R' M'' => R' = R ∧ M'' = M') := by
  intro t xs M R M' h
  unfold yldE at h
  split at h
  · next te sz ver e nt ps as bd cut hp hg =>
    cases hb : (Nat.beq te 0 && Nat.beq sz 1 && Nat.beq ver 0 && Nat.beq xs.length ps.size) with
    | false => rw [hb] at h; cases h
    | true =>
      rw [hb] at h
      simp only [cond_true] at h
      simp only [Bool.and_eq_true] at hb
      have h1 := Nat.eq_of_beq_eq_true hb.1.1.1
      have h2 := Nat.eq_of_beq_eq_true hb.1.1.2
      have h3 := Nat.eq_of_beq_eq_true hb.1.2
      subst h1 h2 h3
      refine YW_of (T := T) (wr := wr) hT hg (Nat.eq_of_beq_eq_true hb.2) hp.down.1 (fun nb => ?_)
      split at h
      · next e1 M1 hq =>
        refine codeE_ok hT hm hms hH as hp.down.2.1 _ _ _ _ _ hq _ ?_
        split at h
        · next o ho =>
          simp only [asnQ]
          refine loopAtE_ok ho ?_
          split at h
          · next x e2 M2 hq2 =>
            refine codeE_ok hT hm hms hH bd hp.down.2.2 _ _ _ _ _ hq2 _ ?_
            split at h
            · next o2 ho2 =>
              split at h
              · simp only [Option.some.injEq, Prod.mk.injEq] at h
                obtain ⟨rfl, rfl⟩ := h
                simp only [rndQ]
                exact loopAtE_ok ho2 (by simp)
              · simp only [Option.some.injEq, Prod.mk.injEq] at h
                obtain ⟨rfl, rfl⟩ := h
                simp only [rndQ]
                exact loopAtE_ok ho2 (by simp)
              · simp only [Option.some.injEq, Prod.mk.injEq] at h
                obtain ⟨rfl, rfl⟩ := h
                simp only [rndQ]
                exact loopAtE_ok ho2 (by simp)
              · cases h
            · cases h
          · cases h
        · cases h
      · cases h
  · cases h
end

theorem resP_ok {T : Tab} {e : Env} {M : Mem} {r : ResultVar} {R : V} (h : resP T e M r = some R) : ∃ p v, resV T e M r = some (p, v) ∧ p.holds ∧ (verOk M v).holds ∧ Fr (asInts T 0 (ownval M 4 v)) ∧ R = asInts T 0 (ownval M 4 v) := by
  unfold resP at h
  split at h
  · next p v hq =>
    cases hb : (p.dec && (verOk M v).dec && FrB (asInts T 0 (ownval M 4 v))) with
    | false => rw [hb] at h; cases h
    | true =>
      rw [hb] at h
      simp only [Bool.and_eq_true] at hb
      simp only [cond_true, Option.some.injEq] at h
      exact ⟨p, v, hq, Obl.dec_holds hb.1.1, Obl.dec_holds hb.1.2, FrB_ok hb.2, h.symm⟩
  · cases h

theorem finP_ok {T : Tab} {rs : List ResultVar} {e : Env} {M : Mem} {R : V} (h : finP T rs e M = some R) : retK T (rs.map fun r => (r, 0)) e M (fun R' => R' = R) := by
  unfold finP at h
  split at h
  · simp only [Option.some.injEq] at h
    exact h
  · obtain ⟨p, v, h1, h2, h3, h4, h5⟩ := resP_ok h
    simp only [List.map_cons, List.map_nil, retK, h1]
    rw [Obl.req_iff, Obl.req_iff]
    exact ⟨h2, h3, h4, h5.symm⟩
  · split at h
    · next v v' hv hv' =>
      obtain ⟨p, u, h1, h2, h3, h4, h5⟩ := resP_ok hv
      obtain ⟨p', u', g1, g2, g3, g4, g5⟩ := resP_ok hv'
      simp only [List.map_cons, List.map_nil, retK, h1, g1]
      rw [Obl.req_iff, Obl.req_iff, Obl.req_iff, Obl.req_iff]
      simp only [Option.some.injEq] at h
      refine ⟨h2, g2, h3, g3, h4, g4, ?_⟩
      rw [← h, h5, g5]
      rfl
    · cases h
  · split at h
    · next v v' v2 hv hv' hv2 =>
      obtain ⟨p, u, h1, h2, h3, h4, h5⟩ := resP_ok hv
      obtain ⟨p', u', g1, g2, g3, g4, g5⟩ := resP_ok hv'
      obtain ⟨p2, u2, k1, k2, k3, k4, k5⟩ := resP_ok hv2
      simp only [List.map_cons, List.map_nil, retK, h1, g1, k1]
      rw [Obl.req_iff, Obl.req_iff, Obl.req_iff, Obl.req_iff, Obl.req_iff, Obl.req_iff]
      simp only [Option.some.injEq] at h
      refine ⟨h2, g2, k2, h3, g3, k3, h4, g4, k4, ?_⟩
      rw [← h, h5, g5, k5]
      rfl
    · cases h
  · cases h

def retM (T : Tab) (rs : List ResultVar) (Q : V → Mem → Prop) : Exit → Env → Mem → Prop
  | .normal, e, M => ∃ R, finM T rs e M = some R ∧ Q R M
  | .ret, e, M => ∃ R, finM T rs e M = some R ∧ Q R M
  | _, _, _ => False

theorem resM_ok {P : Program} {T : Tab} (hT : TabOk P T) {nt nb base : Nat} {φ : Phi} {w : World} {M : Mem} {e : Env} {a : Act} (hst : St lo nt nb base φ w M e a) {r : ResultVar} {v : V} (h : resM T e M r = some v) :
    ∃ cv, (resSem a.tmps r).run P w = .ok cv w ∧ Rep φ base w v cv := by
  unfold resM at h
  split at h
  · next p u hq =>
    cases hb : p.dec with
    | false => rw [hb] at h; cases h
    | true =>
      rw [hb] at h
      simp only [cond_true, Option.some.injEq] at h
      subst h
      exact resV_ok (X := ⟨P, T, [], nt, nb, false⟩) hT hst hq (Obl.dec_holds hb)
  · cases h

theorem finM_ok {P : Program} {T : Tab} (hT : TabOk P T) {nt nb base : Nat} {φ : Phi} {w : World} {M : Mem} {e : Env} {a : Act} (hst : St lo nt nb base φ w M e a) {fn : Func} {R : V} (h : finM T fn.results.toList e M = some R) :
    ∃ cv, (results fn a.tmps).run P w = .ok cv w ∧ Rep φ base w R cv := by
  unfold finM at h
  split at h
  · next hr =>
    have hres : fn.results = #[] := by apply Array.toList_inj.1; exact hr
    simp only [Option.some.injEq] at h
    subst h
    refine ⟨.tuple #[], ?_, rfl⟩
    rw [results_eq, hres]
    simp [Array.mapM_eq_mapM_toList]
  · next r hr =>
    have hres : fn.results = #[r] := by apply Array.toList_inj.1; exact hr
    obtain ⟨cv, h1, h2⟩ := resM_ok hT hst h
    exact ⟨cv, results_one hres _ _ _ h1, h2⟩
  · next r r' hr =>
    have hres : fn.results = #[r, r'] := by apply Array.toList_inj.1; exact hr
    split at h
    · next v v' hv hv' =>
      obtain ⟨cv, h1, h2⟩ := resM_ok hT hst hv
      obtain ⟨cv', h1', h2'⟩ := resM_ok hT hst hv'
      simp only [Option.some.injEq] at h
      subst h
      refine ⟨_, results_two hres _ _ _ h1 h1', #[cv, cv'], rfl, rfl, fun k hk => ?_⟩
      match k, hk with
      | 0, _ => exact ⟨cv, rfl, h2⟩
      | 1, _ => exact ⟨cv', rfl, h2'⟩
    · cases h
  · next r r' r2 hr =>
    have hres : fn.results = #[r, r', r2] := by apply Array.toList_inj.1; exact hr
    split at h
    · next v v' v2 hv hv' hv2 =>
      obtain ⟨cv, h1, h2⟩ := resM_ok hT hst hv
      obtain ⟨cv', h1', h2'⟩ := resM_ok hT hst hv'
      obtain ⟨cv2, h12, h22⟩ := resM_ok hT hst hv2
      simp only [Option.some.injEq] at h
      subst h
      refine ⟨_, results_three hres _ _ _ h1 h1' h12, #[cv, cv', cv2], rfl, rfl, fun k hk => ?_⟩
      match k, hk with
      | 0, _ => exact ⟨cv, rfl, h2⟩
      | 1, _ => exact ⟨cv', rfl, h2'⟩
      | 2, _ => exact ⟨cv2, rfl, h22⟩
    · cases h
  · cases h

/-- A function that may write to what it is handed, from its code. -/
theorem ACM_of {P : Program} {T : Tab} {wr : List FuncId} (hT : TabOk P T) {f : FuncId} {fn : Func} {c : Code} (hf : P.funcs[f]? = some fn) (hname : (fn.name == "runtime.NumGoroutine") = false) (hb : fn.body = some c) {xs : List V} (hxs : xs.length ≤ fn.ntmps) {M : Mem} {Q : V → Mem → Prop}
    (h : ∀ nb, awp ⟨P, T, wr, fn.ntmps, nb, false⟩ c (retM T fn.results.toList Q) (envOf xs) M) : ACM P f xs M Q := by
  unfold ACM
  refine ⟨⟨fn, hf, hname, by rw [hb]; rfl⟩, fun nb base φ w args _ hm hs hargs => ?_⟩
  have hst : St w.heap.size fn.ntmps nb base φ w M (envOf xs) { tmps := args ++ Array.replicate (fn.ntmps - args.size) undef, defers := [] } := by
    refine ⟨hm, trivial, Nat.le_refl _, by simp; omega, fun i => ?_⟩
    have hi := hargs i
    have e1 : Env.get (envOf xs) i = xs.getD i .any := by
      unfold envOf
      rw [List.range_eq_range', get_envOf]
      simp
    rw [e1]
    by_cases h : i < xs.length
    · have e2 : (args ++ Array.replicate (fn.ntmps - args.size) undef).getD i undef = args.getD i undef := by
        rw [Array.getD_eq_getD_getElem?, Array.getD_eq_getD_getElem?, Array.getElem?_append_left (by omega)]
      rw [e2]
      exact hi
    · rw [show xs.getD i .any = .any from by simp only [List.getD]; rw [List.getElem?_eq_none (by omega)]; rfl]
      trivial
  refine callsIn_wide.1 (callsIn_of_wp_marks (n := 0) hf hb trivial (wpIn_mono (awp_ok (X := ⟨P, T, wr, fn.ntmps, nb, false⟩) (ro := none) (lo := w.heap.size) hT (fun _ => rfl) c _ base φ w M _ _ hst (h nb)) ?_))
  rintro x a' w' ⟨hx, e', M', φ', hq, hst', hv⟩
  have fin : (∃ R, finM T fn.results.toList e' M' = some R ∧ Q R M') → LeavesInM Fence.wide 0 P fn a'.tmps (fun e w' => ∃ v R M' φ', e = .returned v ∧ Q R M' ∧ MemRel nb base φ' w' M' ∧ Rep φ' base w' R v ∧ Evo w φ w' φ') a'.defers .returning w' := by
    rintro ⟨R, h1, h2⟩
    refine marks_ok _ w' hst' (fun w2 hst2 q1 q2 q3 q4 q5 q6 => ?_)
    obtain ⟨cv, h3, h4⟩ := finM_ok hT hst2 h1
    refine ⟨cv, h3, cv, R, M', φ', rfl, h2, hst2.mem, h4, q1.trans hv.os, q2.trans hv.tape, q3.trans hv.output, by rw [q4]; exact hv.size, fun b hb hn => (q5 b hb).trans (hv.block b hb hn), hv.live, hv.names⟩
  cases x with
  | normal => exact fin hq
  | ret => exact fin hq
  | panic c => exact hx.elim
  | outgrown => exact hx.elim
  | exit id => exact hq.elim
  | goto l => exact hq.elim

theorem evH_ok {E : Ev} (hT : TabOk E.P E.T) (hm : E.P.follows .mixedOrders = true) (hms : ∀ q ∈ E.ms, MethodIs E.P q.1 q.2.1 q.2.2) : ∀ n, HdOk E.P (evH E n) := by
  intro n
  induction n with
  | zero => exact ⟨fun _ _ _ _ _ _ h => (nomatch h), fun _ _ _ _ _ h => (nomatch h), fun _ _ _ _ _ h => (nomatch h), fun _ _ _ h => (nomatch h)⟩
  | succ n ih =>
    refine ⟨fun f xs M R M' hn h => ?_, fun f xs M R M' h => ?_, yldE_ok hT hm hms ih, fun f xs R h => lookI_ok h⟩
    · simp only [evH, fnE, cond_true] at h
      split at h
      · next R0 hk =>
        simp only [Option.some.injEq, Prod.mk.injEq] at h
        obtain ⟨rfl, _⟩ := h
        exact lookK_ok hk
      split at h
      · next fn c hp _ =>
        obtain ⟨h1, h2, h4, h3⟩ := hp
        cases hl : Nat.ble xs.length fn.ntmps with
        | false => rw [hl] at h; cases h
        | true =>
          rw [hl] at h
          simp only [cond_true] at h
          split at h
          · next x e' M1 hq =>
            cases hx : retX x with
            | false => rw [hx] at h; cases h
            | true =>
              rw [hx] at h
              simp only [cond_true] at h
              split at h
              · next R' hR =>
                simp only [Option.some.injEq, Prod.mk.injEq] at h
                obtain ⟨rfl, _⟩ := h
                refine APure_of (X := ⟨E.P, E.T, E.wr, fn.ntmps, 0, false⟩) hT rfl h1 h3 h2 rfl (rs := fn.results.toList.map fun r => (r, 0)) (by rw [List.map_map]; exact (List.map_id _).symm) (Nat.le_of_ble_eq_true hl) hn (fun _ => ?_)
                refine codeE_ok hT hm hms ih c h4 _ _ _ _ _ hq _ ?_
                cases x <;> first | exact finP_ok hR | cases hx
              · cases h
          · cases h
      · cases h
    · simp only [evH, fnE, cond_false] at h
      split at h
      · next fn c hp _ =>
        obtain ⟨h1, h2, h4, h3⟩ := hp
        cases hl : Nat.ble xs.length fn.ntmps with
        | false => rw [hl] at h; cases h
        | true =>
          rw [hl] at h
          simp only [cond_true] at h
          split at h
          · next x e' M1 hq =>
            cases hx : retX x with
            | false => rw [hx] at h; cases h
            | true =>
              rw [hx] at h
              simp only [cond_true] at h
              split at h
              · next R' hR =>
                simp only [Option.some.injEq, Prod.mk.injEq] at h
                obtain ⟨rfl, rfl⟩ := h
                refine ACM_of (wr := E.wr) hT h1 h3 h2 (Nat.le_of_ble_eq_true hl) (fun nb => ?_)
                refine codeE_ok hT hm hms ih c h4 _ _ _ _ _ hq _ ?_
                cases x <;> first | exact ⟨_, hR, rfl, rfl⟩ | cases hx
              · cases h
          · cases h
      · cases h

/-- A CLOSED CALL, by evaluation. -/
theorem APure_eval {E : Ev} (hT : TabOk E.P E.T) (hm : E.P.follows .mixedOrders = true) (hms : ∀ q ∈ E.ms, MethodIs E.P q.1 q.2.1 q.2.2) {n : Nat} {f : FuncId} {xs : List V} (hn : ∀ x ∈ xs, NoFr x) {R : V} (h : evFn E n true f xs [] = some (R, [])) : APure E.P f xs (fun R' => R' = R) :=
  (evH_ok hT hm hms n).pure f xs [] R [] hn h
theorem ACM_eval {E : Ev} (hT : TabOk E.P E.T) (hm : E.P.follows .mixedOrders = true) (hms : ∀ q ∈ E.ms, MethodIs E.P q.1 q.2.1 q.2.2) {n : Nat} {f : FuncId} {xs : List V} {M : Mem} {R : V} {M' : Mem} (h : evFn E n false f xs M = some (R, M')) : ACM E.P f xs M (fun R' M'' => R' = R ∧ M'' = M') :=
  (evH_ok hT hm hms n).acm f xs M R M' h

end Go.Tri
