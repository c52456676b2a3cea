/-
  THE ABSTRACT EVALUATOR OVER CODE.
-/
import Derived.Test.YtciefpkelgjboaaA2
namespace Go.Tri

/-- An object's window as an immutable slice; F: what its cells become. -/
def view (fr : Bool) (ob : Ob) (off len : Nat) (F : V → V) : V := match ob.c with
  | .il xs => bif Nat.beq ob.sz 1 then .ints fr ((xs.drop off).take len) else .any
  | .kil xs => bif Nat.beq ob.sz 1 then .ints fr ((xs.drop off).take len) else .any
  | c => .seq fr ob.sz len fun j k => F (c.f (off + j) k)

/-- The reading of a value as an immutable one: names are looked up; at a depth, with their versions. -/
def byvalN (M : Mem) : Nat → V → V
  | 0, _ => .any
  | d + 1, x => match x with
    | .lit u => .lit u
    | .ints _ xs => .ints false xs
    | .seq _ sz n f => .seq false sz n fun j k => byvalN M d (f j k)
    | .sl t ver off len => match M.get t with
      | some ob => bif Nat.beq ver ob.ver then view false ob off len (byvalN M d) else .any
      | none => .any
    | .ptr t ver i o => match M.get t with
      | some ob => bif Nat.beq ver ob.ver then .at_ ob.sz (fun k => byvalN M d (ob.c.f i k)) o else .any
      | none => .any
    | .at_ sz g o => .at_ sz (fun k => byvalN M d (g k)) o
    | .agg n g => .agg n fun k => byvalN M d (g k)
    | .tup n g => .tup n fun k => byvalN M d (g k)
    | .clo f n g => .clo f n fun k => byvalN M d (g k)
    | .emp nl => .emp nl
    | .any => .any
    | .yld _ => .any
    | .ifc ty x => .ifc ty (byvalN M d x)
    | .bnd f n g => .bnd f n fun k => byvalN M d (g k)
    | .full xs => .ints false xs

/-- The same at the top, where the versions are asked for. -/
def byval (M : Mem) (d : Nat) (x : V) : V := match x with
  | .sl t _ off len => match M.get t with
    | some ob => view false ob off len (byvalN M d)
    | none => .any
  | .ptr t _ i o => match M.get t with
    | some ob => .at_ ob.sz (fun k => byvalN M d (ob.c.f i k)) o
    | none => .any
  | x => byvalN M (d + 1) x

/-- The versions that the reading leans on. -/
def verOk (M : Mem) : V → Obl
  | .sl t ver _ _ => match M.get t with
    | some ob => eqnO ver ob.ver
    | none => .tt
  | .ptr t ver _ _ => match M.get t with
    | some ob => eqnO ver ob.ver
    | none => .tt
  | _ => .tt

def verOks (M : Mem) : List V → Obl
  | [] => .tt
  | x :: r => .and (verOk M x) (verOks M r)

/-- An empty slice of ints, as a list. -/
def asInts (T : Tab) (t : Nat) (x : V) : V := match x with
  | .emp nl => match (T.row t).d with
    | .slice e => match (T.row e).d with
      | .int .i64 => .ints true []
      | _ => .emp nl
    | _ => .emp nl
  | x => x

/-- All in memory of the call's own. -/
def Fr : V → Prop
  | .lit _ => True
  | .ints fr _ => fr = true
  | .seq fr sz n f => fr = true ∧ ∀ j k, j < n → k < sz → Fr (f j k)
  | .agg n g => ∀ k, k < n → Fr (g k)
  | .tup n g => ∀ k, k < n → Fr (g k)
  | .clo _ n _ => n = 0
  | .emp _ => True
  | .any => True
  | .ifc _ x => Fr x
  | _ => False

/-- A function with a body of its own. -/
def FnOk (P : Program) (f : FuncId) : Prop := ∃ fn, P.funcs[f]? = some fn ∧ (fn.name == "runtime.NumGoroutine") = false ∧ fn.body.isNone = false

/-- Every machine, in a frame of this make. -/
@[reducible] def FZ (ro : Option Nat) : Fence := { Fence.wide with round := ro }

/-- WHAT A FUNCTION THAT LEAVES ALL OLD MEMORY ALONE COMES TO. -/
@[irreducible] def APure (P : Program) (f : FuncId) (xs : List V) (Q : V → Prop) : Prop := FnOk P f ∧
  ∀ (w : World) (args : Array Value), args.size = xs.length → (∀ i, Rep (fun _ => none) 0 w (xs.getD i .any) (args.getD i undef)) →
    Calls P f args w fun e w' => ∃ v R, e = .returned v ∧ Q R ∧ Fr R ∧ Rep (fun _ => none) w.heap.size w' R v ∧ Evo w (fun _ => none) w' (fun _ => none)

def goodX : Exit → Prop
  | .panic _ | .outgrown => False
  | _ => True

/-- The code's meaning over abstract states ('rd': it may stand in a round of a loop over a function). -/
@[irreducible] def AW (P : Program) (nt nb : Nat) (rd : Bool) (c : Code) (Q : Exit → Env → Mem → Prop) (e : Env) (M : Mem) : Prop :=
  ∀ (ro : Option Nat) (lo base : Nat) (φ : Phi) (w : World) (a : Act), (rd = false → ro = none) → St lo nt nb base φ w M e a →
    c.wpIn (FZ ro) 0 P (fun x a' w' => goodX x ∧ ∃ e' M' φ', Q x e' M' ∧ St lo nt nb base φ' w' M' e' a' ∧ Evo w φ w' φ') a w

/-- A call that may write to named objects ('nb': of what is called at this first name of its own alone; none: at any). -/
@[irreducible] def ACM (P : Program) (f : FuncId) (xs : List V) (M : Mem) (Q : V → Mem → Prop) (nb0 : Option Nat := none) : Prop := FnOk P f ∧
  ∀ (nb base : Nat) (φ : Phi) (w : World) (args : Array Value), (∀ k, nb0 = some k → nb = k) → MemRel nb base φ w M → args.size = xs.length → (∀ i, Rep φ base w (xs.getD i .any) (args.getD i undef)) →
    Calls P f args w fun e w' => ∃ v R M' φ', e = .returned v ∧ Q R M' ∧ MemRel nb base φ' w' M' ∧ Rep φ' base w' R v ∧ Evo w φ w' φ'

/-- A call that makes memory alone, and may hand back what it was handed. -/
@[irreducible] def AImm (P : Program) (f : FuncId) (xs : List V) (Q : V → Prop) : Prop := FnOk P f ∧
  ∀ (nb base : Nat) (φ : Phi) (w : World) (M : Mem) (args : Array Value), MemRel nb base φ w M → args.size = xs.length → (∀ i, Rep φ base w (xs.getD i .any) (args.getD i undef)) →
    Calls P f args w fun e w' => ∃ v R, e = .returned v ∧ Q R ∧ MemRel nb base φ w' M ∧ Rep φ base w' R v ∧ Evo w φ w' φ

/-- A CALL OF A LOOP's OWN yield: one round of it. -/
@[irreducible] def YW (P : Program) (t : Nat) (xs : List V) (M : Mem) (Q : V → Mem → Prop) : Prop :=
  ∀ (nb base : Nat) (φ : Phi) (w : World) (args : Array Value) (r : Row), φ t = some r → MemRel nb base φ w M → args.size = xs.length → (∀ i, Rep φ base w (xs.getD i .any) (args.getD i undef)) →
    r.ver = 0 ∧ ∃ f tmps assign body, (Instr.yield r.g args).run P w = .ok (.round r.g f tmps assign body) w ∧
      RoundIn Fence.wide 0 P r.g f tmps assign body w fun e w' => ∃ v R M' φ', e = .returned v ∧ Q R M' ∧ MemRel nb base φ' w' M' ∧ Rep φ' base w' R v ∧ Evo w φ w' φ'

/-- A method of a type, by its name: a function that takes the value itself. -/
@[irreducible] def MethodIs (P : Program) (ty : TypeId) (m : String) (f : FuncId) : Prop := ∀ (v : Value) (w : World), (method (P.types.size + Made.depth) ty v m).run P w = .ok (f, v) w

def br : Bool → Prop → Prop → Prop
  | true, p, _ => p
  | false, _, q => q

def forceV (v : V) (K : V → Prop) : Prop := match v with
  | .lit u => (match u with
    | .int k n => K (.lit (.int k n))
    | .bool b => K (.lit (.bool b))
    | u => K (.lit u))
  | .ints fr xs => K (.ints fr xs)
  | .seq fr sz n f => K (.seq fr sz n f)
  | .sl t ver off len => K (.sl t ver off len)
  | .ptr t ver i o => K (.ptr t ver i o)
  | .at_ sz g o => K (.at_ sz g o)
  | .agg n g => K (.agg n g)
  | .tup n g => K (.tup n g)
  | .clo f n g => K (.clo f n g)
  | .emp nl => K (.emp nl)
  | .any => K .any
  | .yld t => K (.yld t)
  | .ifc ty x => K (.ifc ty x)
  | .bnd f n g => K (.bnd f n g)
  | .full xs => K (.full xs)

theorem forceV_eq (v : V) (K : V → Prop) : forceV v K = K v := by
  cases v with
  | lit u => cases u <;> rfl
  | _ => rfl

/-! Memories and names are made literal as they are made. -/
def forceNP (n : Nat) (K : Nat → Prop) : Prop := match n with
  | 0 => K 0
  | m + 1 => forceNP m fun m => K (m + 1)
def forceM (M : Mem) (K : Mem → Prop) : Prop := match M with
  | [] => K []
  | o :: r => forceM r fun r => K (o :: r)
def mkOp : Op → Bool
  | .alloc .. | .box .. | .buildSlice .. | .makeSlice .. => true
  | .call c => (match c.callee with
    | .builtin .append => true
    | _ => false)
  | _ => false
def memOp : Op → Bool
  | .store .. => true
  | .call c => (match c.callee with
    | .builtin .append => true
    | .builtin .copy => true
    | _ => false)
  | o => mkOp o
def forceNo (o : Op) (n : Nat) (K : Nat → Prop) : Prop := bif mkOp o then forceNP n K else K n
def forceMo (o : Op) (M : Mem) (K : Mem → Prop) : Prop := bif memOp o then forceM M K else K M
theorem forceNP_eq : ∀ (n : Nat) (K : Nat → Prop), forceNP n K = K n
  | 0, _ => rfl
  | m + 1, K => by simp only [forceNP]; exact forceNP_eq m _
theorem forceM_eq : ∀ (M : Mem) (K : Mem → Prop), forceM M K = K M
  | [], _ => rfl
  | o :: r, K => by simp only [forceM]; exact forceM_eq r _
theorem forceNo_eq (o : Op) (n : Nat) (K : Nat → Prop) : forceNo o n K = K n := by
  unfold forceNo
  cases mkOp o
  · rfl
  · exact forceNP_eq n K
theorem forceMo_eq (o : Op) (M : Mem) (K : Mem → Prop) : forceMo o M K = K M := by
  unfold forceMo
  cases memOp o
  · rfl
  · exact forceM_eq M K

/-- What is fixed for a function's walk: the program, the types, the functions that write to what they are handed, the temporaries. -/
structure Cx where
  P : Program
  T : Tab
  wr : List FuncId
  nt : Nat
  nb : Nat
  rd : Bool := false

def callV (X : Cx) (f : FuncId) (ts : List TypeId) (xs : List V) (M : Mem) (K : V → Mem → Prop) : Prop :=
  bif X.wr.contains f then ACM X.P f xs M K (some X.nb)
  else (verOks M xs).req (APure X.P f ((xs.zip ts).map fun (x, t) => byval M 4 (asInts X.T t x)) fun R => K R M)

/-- Which function a call comes to, and with what. -/
def calleeW (P : Program) (ev : Operand → V) (c : Call) (K : FuncId → List TypeId → List V → Prop) : Prop := match c.callee with
  | .value f => match ev f with
    | .clo f n g => bif Nat.beq c.args.size c.argTypes.size then K f (c.argTypes.toList ++ List.replicate n 0) (c.args.toList.map ev ++ (List.range n).map g) else False
    | .bnd f n g => bif Nat.beq c.args.size c.argTypes.size then K f (List.replicate n 0 ++ c.argTypes.toList) ((List.range n).map g ++ c.args.toList.map ev) else False
    | _ => False
  | .invoke r m => match ev r with
    | .ifc ty x => bif Nat.beq c.args.size c.argTypes.size then (∃ f, MethodIs P ty m f ∧ K f (0 :: c.argTypes.toList) (x :: c.args.toList.map ev)) else False
    | _ => False
  | .builtin _ => False

/-- One operation, whose guard lets it run. -/
def opW (X : Cx) (nm : Nat) (o : Oper) (e : Env) (M : Mem) (K : V → Mem → Prop) : Prop := match o.op with
  | .call c => match c.callee with
    | .builtin .append => match c.args.toList, c.argTypes.toList with
      | [s, x], [t, t'] => bif Nat.beq t t' then (match (X.T.row t).d with
        | .slice el => (match (evA e s).isFull with
          | some ys => (match fullApp X.T el ys (evA e x) M with
            | some (p, v) => p.req (forceV v fun v => K v M)
            | none => False)
          | none => match aAppend X.T nm el (evA e s) (evA e x) M with
            | some (p, v, M') => p.req (forceV v fun v => K v M')
            | none => False)
        | _ => False) else (match aMake X.T nm t t' (evA e s) (evA e x) M with
          | some (p, v, M') => p.req (forceV v fun v => K v M')
          | none => False)
      | _, _ => False
    | .builtin .copy => match c.args.toList, c.argTypes.toList with
      | [s, x], [t, _] => (match (X.T.row t).d with
        | .slice el => match aCopy X.T el (evA e s) (evA e x) M with
          | some (p, v, M') => p.req (forceV v fun v => K v M')
          | none => False
        | _ => False)
      | _, _ => False
    | .builtin b => match aBuiltin X.T b c.argTypes.toList (c.args.toList.map (evA e)) M with
      | some (p, v, M') => p.req (forceV v fun v => K v M')
      | none => False
    | .value f => match evA e f with
      | .yld t => YW X.P t (c.args.toList.map (evA e)) M K
      | _ => calleeW X.P (evA e) c fun f ts xs => callV X f ts xs M K
    | .invoke _ _ => calleeW X.P (evA e) c fun f ts xs => callV X f ts xs M K
  | .binOp op t x y t2 => match aop X.T nm (.binOp op t x y t2) (evA e) M with
    | some (p, v, M') => p.req (forceV v fun v => K v M')
    | none => bif isNilC y && isSliceT (X.T.row t) && isEqB op && mayNil (evA e x) then K (.bool true) M ∧ K (.bool false) M else False
  | op => match aop X.T nm op (evA e) M with
    | some (p, v, M') => p.req (forceV v fun v => K v M')
    | none => False

/-- Which way a guard goes; the slot that it looks at is then known. -/
def guardW (ops : Array Oper) (o : Oper) (e : Env) (run : Env → Prop) (skip : Env → Prop) : Prop := match o.guard with
  | none => run e
  | some (j, want) => match (ops[j]?).bind (·.dst) with
    | none => skip e
    | some d => match Env.get e d with
      | .lit (.bool b) => br b (bif want then run ((d, .bool true) :: e) else skip ((d, .bool true) :: e)) (bif want then skip ((d, .bool false) :: e) else run ((d, .bool false) :: e))
      | .lit (.tuple _) => skip e
      | _ => False

def opsW (X : Cx) (ops : Array Oper) : List Oper → Env → Mem → (Env → Mem → Prop) → Prop
  | [], e, M, K => K e M
  | o :: r, e, M, K => match o.dst with
    | none => guardW ops o e (fun e => forceNo o.op M.length fun nm => opW X nm o e M fun _ M' => forceMo o.op M' fun M' => opsW X ops r e M' K) (fun e => opsW X ops r e M K)
    | some d => guardW ops o e (fun e => forceNo o.op M.length fun nm => opW X nm o e M fun v M' => forceMo o.op M' fun M' => opsW X ops r ((d, v) :: e) M' K) (fun e => opsW X ops r ((d, .un) :: e) M K)

/-- The next piece of code: a walk in one go stops here, so that the kernel sees it as it stands. -/
structure stepK (K : Env → Mem → Prop) (e : Env) (M : Mem) : Prop where
  out : K e M
theorem stepK_in {K : Env → Mem → Prop} {e : Env} {M : Mem} (h : K e M) : stepK K e M := ⟨h⟩
def seqQ (K : Env → Mem → Prop) (Q : Exit → Env → Mem → Prop) : Exit → Env → Mem → Prop
  | .normal, e, M => stepK K e M
  | x, e, M => Q x e M

def blockQ (id : Nat) (Q : Exit → Env → Mem → Prop) : Exit → Env → Mem → Prop
  | .exit id', e, M => bif Nat.beq id' id then Q .normal e M else Q (.exit id') e M
  | x, e, M => Q x e M

/-- THE WALK'S OWN PROP: by recursion on the code; a loop, and a region that draws, stand as what they mean. -/
def awp (X : Cx) : Code → (Exit → Env → Mem → Prop) → Env → Mem → Prop
  | .skip, Q, e, M => Q .normal e M
  | .label _, Q, e, M => Q .normal e M
  | .ret, Q, e, M => Q .ret e M
  | .exit id, Q, e, M => Q (.exit id) e M
  | .seq a b, Q, e, M => awp X a (seqQ (awp X b Q) Q) e M
  | .cond c a b, Q, e, M => match evA e c with
    | .lit (.bool t) => br t (awp X a Q e M) (awp X b Q e M)
    | _ => False
  | .block id a, Q, e, M => awp X a (blockQ id Q) e M
  | .region id ops draw, Q, e, M => bif draw then AW X.P X.nt X.nb X.rd (.region id ops true) Q e M
    else bif ops.toList.all (dstOk X.nt) then opsW X ops ops.toList e M (Q .normal) else False
  | c, Q, e, M => AW X.P X.nt X.nb X.rd c Q e M

def sel (keys : List Nat) (e : Env) : List V := keys.map (Env.get e)

def loopQ (keys : List Nat) (I : List V → Mem → Prop) (mu : List V → Mem → Nat) (n : Nat) (Q : Exit → Env → Mem → Prop) : Exit → Env → Mem → Prop
  | .normal, e, M => I (sel keys e) M ∧ mu (sel keys e) M < n
  | x, e, M => Q x e M

def resV (T : Tab) (e : Env) (M : Mem) : ResultVar → Option (Obl × V)
  | .tmp t => some (.tt, Env.get e t)
  | .cell a t => loadV T M t (Env.get e a)

/-- What is returned, read as an immutable value in memory of the call's own. -/
def ownvalN (M : Mem) : Nat → V → V
  | 0, _ => .any
  | d + 1, x => match x with
    | .lit u => .lit u
    | .ints fr xs => .ints fr xs
    | .seq fr sz n f => .seq fr sz n fun j k => ownvalN M d (f j k)
    | .sl t ver off len => match M.get t with
      | some ob => bif Nat.beq ver ob.ver then view true ob off len (ownvalN M d) else .any
      | none => .any
    | .agg n g => .agg n fun k => ownvalN M d (g k)
    | .tup n g => .tup n fun k => ownvalN M d (g k)
    | .emp nl => .emp nl
    | .ifc ty x => .ifc ty (ownvalN M d x)
    | _ => .any

def ownval (M : Mem) (d : Nat) (x : V) : V := match x with
  | .sl t _ off len => match M.get t with
    | some ob => view true ob off len (ownvalN M d)
    | none => .any
  | x => ownvalN M (d + 1) x

/-- The results of a function: one, or several. -/
def retK (T : Tab) (rs : List (ResultVar × TypeId)) (e : Env) (M : Mem) (Q : V → Prop) : Prop :=
  match rs with
  | [] => Q V.un
  | [(r, t)] => match resV T e M r with
    | some (p, v) => p.req ((verOk M v).req (Fr (asInts T t (ownval M 4 v)) ∧ Q (asInts T t (ownval M 4 v))))
    | none => False
  | [(r, t), (r', t')] => match resV T e M r, resV T e M r' with
    | some (p, v), some (p', v') => p.req (p'.req ((verOk M v).req ((verOk M v').req (Fr (asInts T t (ownval M 4 v)) ∧ Fr (asInts T t' (ownval M 4 v')) ∧
        Q (.tup 2 fun k => match k with | 0 => asInts T t (ownval M 4 v) | _ => asInts T t' (ownval M 4 v'))))))
    | _, _ => False
  | [(r, t), (r', t'), (r2, t2)] => match resV T e M r, resV T e M r', resV T e M r2 with
    | some (p, v), some (p', v'), some (p2, v2) => p.req (p'.req (p2.req ((verOk M v).req ((verOk M v').req ((verOk M v2).req (Fr (asInts T t (ownval M 4 v)) ∧ Fr (asInts T t' (ownval M 4 v')) ∧ Fr (asInts T t2 (ownval M 4 v2)) ∧
        Q (.tup 3 fun k => match k with | 0 => asInts T t (ownval M 4 v) | 1 => asInts T t' (ownval M 4 v') | _ => asInts T t2 (ownval M 4 v2))))))))
    | _, _, _ => False
  | _ => False

def retQ (T : Tab) (rs : List (ResultVar × TypeId)) (Q : V → Prop) : Exit → Env → Mem → Prop
  | .normal, e, M => retK T rs e M Q
  | .ret, e, M => retK T rs e M Q
  | _, _, _ => False

end Go.Tri
