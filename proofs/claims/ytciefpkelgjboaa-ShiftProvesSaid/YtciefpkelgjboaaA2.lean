/-
  THE ABSTRACT EVALUATOR: operations, regions, code: a Prop by recursion on the code, so that 'whnf' walks it.
-/
import Derived.Test.YtciefpkelgjboaaA1
namespace Go.Tri

inductive TD where
  | int (k : IntKind)
  | bool
  | string
  | slice (e : Nat)
  | struct (fs : List (Nat × Nat))
  | array (n e : Nat)
  | pointer (e : Nat)
  | func
  | iface
  | other

/-- A type's row: what it is, cells, bytes, the zero value's cells. -/
structure TI where
  d : TD
  sz : Nat
  bs : Nat
  zero : List Value
  eq : Bool

abbrev Tab := List TI
def Tab.row (T : Tab) (t : Nat) : TI := T.getD t ⟨.other, 0, 0, [], false⟩

/-- What is left to show, as data. -/
inductive Obl where
  | tt
  | inr (x : Int)
  | le (a b : Int)
  | lt (a b : Int)
  | ne (a b : Int)
  | eqn (a b : Nat)
  | and (p q : Obl)

@[irreducible] def InR (x : Int) : Prop := -9223372036854775808 ≤ x ∧ x ≤ 9223372036854775807

def Obl.holds : Obl → Prop
  | .tt => True
  | .inr x => InR x
  | .le a b => a ≤ b
  | .lt a b => a < b
  | .ne a b => a ≠ b
  | .eqn a b => a = b
  | .and p q => p.holds ∧ q.holds

def Obl.req : Obl → Prop → Prop
  | .tt, K => K
  | .inr x, K => InR x ∧ K
  | .le a b, K => a ≤ b ∧ K
  | .lt a b, K => a < b ∧ K
  | .ne a b, K => a ≠ b ∧ K
  | .eqn a b, K => a = b ∧ K
  | .and p q, K => p.req (q.req K)

/-- Two versions are one: nothing is asked where both are numerals. -/
def eqnO (a b : Nat) : Obl := bif Nat.beq a b then .tt else .eqn a b

theorem eqnO_holds {a b : Nat} : (eqnO a b).holds ↔ a = b := by
  unfold eqnO
  cases h : Nat.beq a b with
  | true => simp only [cond_true, Obl.holds, true_iff]; exact Nat.eq_of_beq_eq_true h
  | false => rfl

/-- A cell's place in an object: nothing more is asked where both are numerals. -/
def ltO (a b : Nat) : Obl := bif Nat.blt a b then .tt else .lt a b
theorem ltO_holds {a b : Nat} : (ltO a b).holds ↔ a < b := by
  unfold ltO
  cases h : Nat.blt a b with
  | true => simp only [cond_true, Obl.holds, true_iff]; simpa using h
  | false => simp only [cond_false, Obl.holds]; omega
def ldO (ver ver' o sz : Nat) : Obl := bif Nat.blt o sz then eqnO ver ver' else .and (eqnO ver ver') (.lt o sz)
theorem ldO_holds {ver ver' o sz : Nat} : (ldO ver ver' o sz).holds ↔ ver = ver' ∧ o < sz := by
  unfold ldO
  cases h : Nat.blt o sz with
  | true => simp only [cond_true, eqnO_holds]; exact ⟨fun q => ⟨q, by simpa using h⟩, fun q => q.1⟩
  | false => simp only [cond_false, Obl.holds, eqnO_holds]; omega

/-- Several cells from a place on; a whole array. -/
def ldaO (ver ver' m sz : Nat) : Obl := bif Nat.ble m sz then eqnO ver ver' else .and (eqnO ver ver') (.le m sz)
theorem ldaO_holds {ver ver' m sz : Nat} : (ldaO ver ver' m sz).holds ↔ ver = ver' ∧ m ≤ sz := by
  unfold ldaO
  cases h : Nat.ble m sz with
  | true => simp only [cond_true, eqnO_holds]; exact ⟨fun q => ⟨q, Nat.le_of_ble_eq_true h⟩, fun q => q.1⟩
  | false => simp only [cond_false, Obl.holds, eqnO_holds]; omega
def leO (a b : Nat) : Obl := bif Nat.ble a b then .tt else .le a b
theorem leO_holds {a b : Nat} : (leO a b).holds ↔ a ≤ b := by
  unfold leO
  cases h : Nat.ble a b with
  | true => simp only [cond_true, Obl.holds, true_iff]; exact Nat.le_of_ble_eq_true h
  | false => simp only [cond_false, Obl.holds]; omega

theorem Obl.req_iff (p : Obl) (K : Prop) : p.req K ↔ p.holds ∧ K := by
  induction p generalizing K with
  | and p q ihp ihq => simp only [Obl.req, Obl.holds, ihp, ihq, and_assoc]
  | tt => simp [Obl.req, Obl.holds]
  | _ => rfl

def constV : Value → V
  | .slice none 0 0 => .emp true
  | v => .lit v

def evA (e : Env) : Operand → V
  | .tmp t => Env.get e t
  | .const v => constV v
  | .global g => .lit (.pointer (some ⟨g, 0, none⟩))
  | .func f => .clo f 0 fun _ => .any

def V.toInt : V → Int
  | .lit (.int _ x) => x
  | _ => 0
def V.toBool : V → Bool
  | .lit (.bool b) => b
  | _ => false
def V.isI64 : V → Bool
  | .lit (.int .i64 _) => true
  | _ => false
def V.isBool : V → Bool
  | .lit (.bool _) => true
  | _ => false
/-- One cell. -/
def V.leaf : V → Bool
  | .lit v => v.oneCell'
  | .ints .. | .seq .. | .sl .. | .ptr .. | .at_ .. | .clo .. | .emp .. | .yld .. | .ifc .. | .bnd .. | .full .. => true
  | _ => false

def arith (k : IntKind) (r : Int) : Obl × Value := match k with
  | .i64 => (.inr r, .int .i64 r)
  | k => (.tt, .int k (k.wrap r))

def aBin (op : BinOp) (x y : Value) : Option (Obl × Value) :=
  match x, y with
  | .int k a, .int k' b =>
    bif k == k' then
      match op with
      | .add => some (arith k (a + b))
      | .sub => some (arith k (a - b))
      | .mul => some (arith k (a * b))
      | .quo => some (.and (.ne b 0) (arith k (a.tdiv b)).1, (arith k (a.tdiv b)).2)
      | .rem => some (.ne b 0, .int k (a.tmod b))
      | .eql => some (.tt, .bool (a == b))
      | .neq => some (.tt, .bool (a != b))
      | .lss => some (.tt, .bool (decide (a < b)))
      | .leq => some (.tt, .bool (decide (a ≤ b)))
      | .gtr => some (.tt, .bool (decide (a > b)))
      | .geq => some (.tt, .bool (decide (a ≥ b)))
      | _ => none
    else none
  | _, _ => none

/-- '&', '|', '^', '&^'. -/
def bitI (op : BinOp) (k : IntKind) (a b : Int) : Int := match op with
  | .and => k.wrap (BitVec.ofInt k.bits a &&& BitVec.ofInt k.bits b).toNat
  | .or => k.wrap (BitVec.ofInt k.bits a ||| BitVec.ofInt k.bits b).toNat
  | .xor => k.wrap (BitVec.ofInt k.bits a ^^^ BitVec.ofInt k.bits b).toNat
  | .andNot => k.wrap (BitVec.ofInt k.bits a &&& ~~~BitVec.ofInt k.bits b).toNat
  | _ => 0

/-- Shifts; bits; bools. -/
def aMore (d : TD) (op : BinOp) (x y : Value) : Option (Obl × Value) :=
  match op, x, y with
  | .shl, .int k a, .int _ b => some (.le 0 b, .int k (k.wrap (a * 2 ^ (min b.toNat k.bits))))
  | .shr, .int k a, .int _ b => some (.le 0 b, .int k (a.fdiv (2 ^ (min b.toNat k.bits))))
  | .and, .int k a, .int k' b => bif k == k' then some (.tt, .int k (bitI .and k a b)) else none
  | .or, .int k a, .int k' b => bif k == k' then some (.tt, .int k (bitI .or k a b)) else none
  | .xor, .int k a, .int k' b => bif k == k' then some (.tt, .int k (bitI .xor k a b)) else none
  | .andNot, .int k a, .int k' b => bif k == k' then some (.tt, .int k (bitI .andNot k a b)) else none
  | .eql, .bool a, .bool b => (match d with
    | .bool => some (.tt, .bool (a == b))
    | _ => none)
  | .neq, .bool a, .bool b => (match d with
    | .bool => some (.tt, .bool (!(a == b)))
    | _ => none)
  | _, _, _ => none

def eqLit (d : TD) (x y : V) : Option Bool := match d, x, y with
  | .int _, .lit (.int k a), .lit (.int k' b) => bif k == k' then some (a == b) else none
  | .bool, .lit (.bool a), .lit (.bool b) => some (a == b)
  | _, _, _ => none

def eqFs (T : Tab) (f g : Nat → V) : Nat → List (Nat × Nat) → Option Bool
  | _, [] => some true
  | i, (t, o) :: r => bif Nat.beq o i then (match eqLit (T.row t).d (f i) (g i), eqFs T f g (i + 1) r with
    | some a, some b => some (a && b)
    | _, _ => none) else none

def knownT (i : TI) : Bool := match i.d with
  | .other => false
  | _ => true

/-- '==' on two arrays of one-cell elements. -/
def eqAr (d : TD) (f g : Nat → V) : Nat → Nat → Option Bool
  | _, 0 => some true
  | i, n + 1 => match eqLit d (f i) (g i), eqAr d f g (i + 1) n with
    | some a, some b => some (a && b)
    | _, _ => none

/-- '==' on two structs of one-cell fields. -/
def aggEq (T : Tab) (t n m : Nat) (f g : Nat → V) : Option Bool := match (T.row t).d with
  | .struct fs => bif (T.row t).eq && Nat.beq n fs.length && Nat.beq m fs.length then eqFs T f g 0 fs else none
  | .array l e => bif (T.row t).eq && Nat.beq n l && Nat.beq m l && Nat.beq (T.row e).sz 1 && knownT (T.row e) then eqAr (T.row e).d f g 0 l else none
  | _ => none

def binV (T : Tab) (op : BinOp) (t : Nat) (x y : V) : Option (Obl × V) := match x, y with
  | .lit a, .lit b => (match aBin op a b with
    | some (p, v) => some (p, .lit v)
    | none => match aMore (T.row t).d op a b with
      | some (p, v) => some (p, .lit v)
      | none => none)
  | .agg n f, .agg m g => (match op with
    | .eql => (match aggEq T t n m f g with
      | some b => some (.tt, .bool b)
      | none => none)
    | .neq => (match aggEq T t n m f g with
      | some b => some (.tt, .bool (!b))
      | none => none)
    | _ => none)
  | _, _ => none

def Mem.put (M : Mem) (t : Nat) (o : Ob) : Mem := match M, t with
  | [], 0 => [some o]
  | [], t + 1 => none :: Mem.put [] t o
  | _ :: r, 0 => some o :: r
  | x :: r, t + 1 => x :: Mem.put r t o

/-! 'x == nil' of a slice with elements. -/
def nonEmpty (M : Mem) : V → Option Obl
  | .sl n ver _ len => match M.get n with
    | some ob => some (.and (eqnO ver ob.ver) (.lt 0 len))
    | none => none
  | .ints _ xs => (match xs with
    | [] => none
    | y :: r => some (.lt 0 (y :: r).length))
  | .seq _ _ n _ => some (.lt 0 n)
  | _ => none
/-- A slice without elements of which it is not known whether it is nil. -/
def mayNil : V → Bool
  | .ints _ xs => (match xs with
    | [] => true
    | _ :: _ => false)
  | .emp nl => !nl
  | _ => false
def isSliceT (i : TI) : Bool := match i.d with
  | .slice _ => true
  | _ => false
def isEqB : BinOp → Bool
  | .eql | .neq => true
  | _ => false
def isNilV : V → Bool
  | .emp nl => nl
  | _ => false
def nilV (T : Tab) (op : BinOp) (t : Nat) (M : Mem) (x : V) : Option (Obl × V) := match (T.row t).d, nonEmpty M x with
  | .slice _, none => bif isNilV x then (match op with
    | .eql => some (.tt, .bool true)
    | .neq => some (.tt, .bool false)
    | _ => none) else none
  | .slice _, some p => (match op with
    | .eql => some (p, .bool false)
    | .neq => some (p, .bool true)
    | _ => none)
  | _, _ => none

/-- The content of a new variable, by its type's row. -/
def newCon (i : TI) : Con := match i.d with
  | .array _ _ => .cv 1 fun _ k => constV (i.zero.getD k undef)
  | _ => .one (i.zero.map constV)

def isAggT (i : TI) : Bool := match i.d with
  | .struct _ | .array _ _ => true
  | _ => false

/-- A type that a value in an interface may have. -/
def concT (i : TI) : Bool := match i.d with
  | .other => false
  | .iface => false
  | _ => true

/-- What lies at a pointer, as a value of the type. -/
def loadV' (T : Tab) (M : Mem) (t : Nat) : V → Option (Obl × V)
  | .ptr n ver i o => match M.get n with
    | some ob => bif isAggT (T.row t) then
        some (ldaO ver ob.ver (o + (T.row t).sz) ob.sz, .agg (T.row t).sz fun k => ob.c.f i (o + k))
      else some (ldO ver ob.ver o ob.sz, ob.c.f i o)
    | none => none
  | .at_ sz g o => bif isAggT (T.row t) then
      some (leO (o + (T.row t).sz) sz, .agg (T.row t).sz fun k => g (o + k))
    else some (ltO o sz, g o)
  | _ => none

def loadV (T : Tab) (M : Mem) (t : Nat) (x : V) : Option (Obl × V) := bif knownT (T.row t) then loadV' T M t x else none

/-- One cell of a content written. -/
def Con.set (c : Con) (sz i o : Nat) (v : V) : Option Con := match c with
  | .il xs => bif v.isI64 && Nat.beq o 0 && Nat.beq sz 1 then some (.il (xs.set i v.toInt)) else none
  | .bl xs => bif v.isBool && Nat.beq o 0 && Nat.beq sz 1 then some (.bl (xs.set i v.toBool)) else none
  | .ci n f => bif v.isI64 then some (.ci n fun j k => if j = i ∧ k = o then v.toInt else f j k) else none
  | .cv n f => bif v.leaf then some (.cv n fun j k => if j = i ∧ k = o then v else f j k) else none
  | .one cs => bif v.leaf && Nat.blt o cs.length then some (.one (cs.set o v)) else none
  | .kil xs => bif v.isI64 && Nat.beq o 0 && Nat.beq sz 1 then some (.kil (xs.set i v.toInt)) else none
  | .loop .. => none

def storeCellsV (c : Con) (sz i o : Nat) (g : Nat → V) : Nat → Option Con
  | 0 => some c
  | n + 1 => match storeCellsV c sz i o g n with
    | some c' => c'.set sz i (o + n) (g n)
    | none => none

def isArrT (i : TI) : Bool := match i.d with
  | .array _ _ => true
  | _ => false
def Con.isCv : Con → Bool
  | .cv _ _ => true
  | _ => false
/-- A whole array written from a place on. -/
def setArr (c : Con) (sz i o m : Nat) (g : Nat → V) : Con := bif Nat.beq m sz && Nat.beq c.n 1 && Nat.beq i 0 && Nat.beq o 0 then .cv 1 fun _ k => g k
  else .cv c.n fun j k => if j = i ∧ o ≤ k ∧ k < o + m then g (k - o) else c.f j k

def storeV (T : Tab) (M : Mem) (t : Nat) (p x : V) : Option (Obl × V × Mem) := bif knownT (T.row t) then (match p with
  | .ptr n ver i o => match M.get n with
    | some ob =>
      bif isAggT (T.row t) then
        match x with
        | .agg m g => bif isArrT (T.row t) && ob.c.isCv then (bif Nat.beq m (T.row t).sz then some (ldaO ver ob.ver (o + m) ob.sz, .any, M.put n { ob with c := setArr ob.c ob.sz i o m g }) else none)
          else bif Nat.beq m (T.row t).sz && Nat.ble (o + m) ob.sz then
            (match storeCellsV ob.c ob.sz i o g m with | some c' => some (eqnO ver ob.ver, .any, M.put n { ob with c := c' }) | none => none) else none
        | _ => none
      else bif Nat.beq (T.row t).sz 1 then
        (match ob.c.set ob.sz i o x with | some c' => some (ldO ver ob.ver o ob.sz, .any, M.put n { ob with c := c' }) | none => none) else none
    | none => none
  | _ => none) else none

def lenV (M : Mem) : V → Option (Obl × Int)
  | .ints _ xs => some (.tt, (xs.length : Int))
  | .seq _ _ n _ => some (.tt, (n : Int))
  | .sl nm ver _ len => match M.get nm with
    | some ob => some (eqnO ver ob.ver, (len : Int))
    | none => none
  | .emp _ => some (.tt, 0)
  | _ => none

/-- The address of an element. -/
def indexV (T : Tab) (M : Mem) (t : Nat) (x : V) (i : Int) : Option (Obl × V) := match (T.row t).d with
  | .slice e => bif knownT (T.row e) then (match x with
    | .ints _ xs => bif Nat.beq (T.row e).sz 1 then some (.and (.le 0 i) (.lt i xs.length), .at_ 1 (fun _ => .int (xs.getD i.toNat 0)) 0) else none
    | .seq _ sz n f => bif Nat.beq sz (T.row e).sz then some (.and (.le 0 i) (.lt i n), .at_ sz (fun k => f i.toNat k) 0) else none
    | .sl nm ver off len => match M.get nm with
      | some ob => bif Nat.beq ob.sz (T.row e).sz then some (.and (eqnO ver ob.ver) (.and (.le 0 i) (.lt i len)), .ptr nm ver (off + i.toNat) 0) else none
      | none => none
    | _ => none) else none
  | .array n e => bif knownT (T.row e) then (match x with
    | .ptr nm ver i0 o => match M.get nm with
      | some ob => some (.and (eqnO ver ob.ver) (.and (.le 0 i) (.lt i n)), .ptr nm ver i0 (o + i.toNat * (T.row e).sz))
      | none => none
    | .at_ sz g o => some (.and (.le 0 i) (.lt i n), .at_ sz g (o + i.toNat * (T.row e).sz))
    | _ => none) else none
  | _ => none

def sliceV (M : Mem) (sz : Nat) (x : V) (lo hi : Option Int) : Option (Obl × V) := match x with
  | .ints fr xs => bif Nat.beq sz 1 then
      some (.and (.le 0 (lo.getD 0)) (.and (.le (lo.getD 0) (hi.getD xs.length)) (.le (hi.getD xs.length) xs.length)), .ints fr ((xs.drop (lo.getD 0).toNat).take ((hi.getD xs.length).toNat - (lo.getD 0).toNat))) else none
  | .seq fr s n f => bif Nat.beq s sz then
      some (.and (.le 0 (lo.getD 0)) (.and (.le (lo.getD 0) (hi.getD n)) (.le (hi.getD n) n)), .seq fr sz ((hi.getD n).toNat - (lo.getD 0).toNat) fun j k => f ((lo.getD 0).toNat + j) k) else none
  | .sl nm ver off len => match M.get nm with
    | some ob => bif Nat.beq ob.sz sz then
        some (.and (eqnO ver ob.ver) (.and (.le 0 (lo.getD 0)) (.and (.le (lo.getD 0) (hi.getD len)) (.le (hi.getD len) len))), .sl nm ver (off + (lo.getD 0).toNat) ((hi.getD len).toNat - (lo.getD 0).toNat)) else none
    | none => none
  | .emp nl => some (.and (.le 0 (lo.getD 0)) (.and (.le (lo.getD 0) (hi.getD 0)) (.le (hi.getD 0) 0)), .emp nl)
  | _ => none

def optInt (ev : Operand → V) : Option Operand → Option (Option Int)
  | none => some none
  | some x => match ev x with
    | .lit (.int _ i) => some (some i)
    | _ => none

def setAt (l : List V) (o : Nat) (x : V) : List V := match x with
  | .agg n g => (List.range n).foldl (fun l k => l.set (o + k) (g k)) l
  | x => l.set o x

def partOk (T : Tab) (fs : List (Nat × Nat)) (tot i : Nat) (v : V) : Bool :=
  Nat.blt i fs.length && knownT (T.row (fs.getD i (0, 0)).1) && (match v with
    | .agg n _ => Nat.beq n (T.row (fs.getD i (0, 0)).1).sz && Nat.ble ((fs.getD i (0, 0)).2 + n) tot
    | v => v.leaf && Nat.beq (T.row (fs.getD i (0, 0)).1).sz 1 && Nat.blt (fs.getD i (0, 0)).2 tot)

def madeCon (i : TI) (n : Nat) : Con := match i.zero with
  | [.int .i64 0] => .il (List.replicate n 0)
  | [.bool false] => .bl (List.replicate n false)
  | z => .cv n fun _ k => constV (z.getD k undef)

/-- More room than elements: of ints it is known. -/
def madeKil (i : TI) (n m : Nat) : Con := match i.zero with
  | [.int .i64 0] => .kil (List.replicate m 0)
  | _ => madeCon i n

def sameOp : Operand → Operand → Bool
  | .tmp a, .tmp b => Nat.beq a b
  | .const (.int _ a), .const (.int _ b) => a == b
  | _, _ => false

/-- A struct of so many cells; its cells. -/
def V.isAgg (m : Nat) : V → Bool
  | .agg n _ => Nat.beq n m
  | _ => false
def V.cellAt : V → Nat → V
  | .agg _ g, k => g k
  | v, _ => v

/-- An operation without a call. 'nm': the name of what it makes. -/
def aop (T : Tab) (nm : Nat) (o : Op) (ev : Operand → V) (M : Mem) : Option (Obl × V × Mem) := match o with
  | .move x => some (.tt, ev x, M)
  | .assign x => some (.tt, ev x, M)
  | .pick c a b => match ev c with
    | .lit (.bool true) => some (.tt, ev a, M)
    | .lit (.bool false) => some (.tt, ev b, M)
    | _ => none
  | .alloc t => bif knownT (T.row t) && Nat.blt 0 (T.row t).sz then some (.tt, .ptr nm 0 0 0, M.put nm ⟨t, (T.row t).sz, 0, newCon (T.row t)⟩) else none
  | .box t x => match ev x with
    | .agg n g => bif Nat.blt 0 n then some (.tt, .ptr nm 0 0 0, M.put nm ⟨t, n, 0, bif isArrT (T.row t) then .cv 1 fun _ k => g k else .one ((List.range n).map g)⟩) else none
    | v => bif v.leaf then some (.tt, .ptr nm 0 0 0, M.put nm ⟨t, 1, 0, .one [v]⟩) else none
  | .build t parts => match (T.row t).d with
    | .struct fs =>
      bif fs.all (fun q => knownT (T.row q.1)) && parts.toList.all (fun (i, x) => partOk T fs (T.row t).sz i (ev x)) then
        some (.tt, .agg (T.row t).sz fun k => (parts.toList.foldl (fun l (i, x) => setAt l (fs.getD i (0, 0)).2 (ev x)) ((T.row t).zero.map constV)).getD k .any, M) else none
    | _ => none
  | .buildSlice t n parts => match (T.row t).d with
    | .slice e => bif knownT (T.row e) then
      (bif Nat.beq n 0 && parts.isEmpty then some (.tt, .emp false, M) else
      match parts.toList with
      | [(0, x)] => bif Nat.beq n 1 then (match ev x with
        | .agg m g => bif Nat.beq m (T.row e).sz && Nat.blt 0 m && Nat.ble m 1000 then some (.tt, .sl nm 0 0 1, M.put nm ⟨e, m, 0, .cv 1 fun _ k => g k⟩) else none
        | v => bif v.leaf && Nat.beq (T.row e).sz 1 then some (.tt, .sl nm 0 0 1, M.put nm ⟨e, 1, 0, bif v.isI64 then .kil [v.toInt] else bif v.isBool then .bl [v.toBool] else .cv 1 fun _ _ => v⟩) else none) else none
      | ps =>
        bif Nat.beq (ps.map fun p => ev p.2).length n && Nat.beq (T.row e).sz 1 && Nat.blt 0 n && Nat.ble n 1000 && (ps.map fun p => ev p.2).all V.leaf && (ps.map (·.1) == List.range n) then
          (bif (ps.map fun p => ev p.2).all V.isI64 then some (.tt, .sl nm 0 0 n, M.put nm ⟨e, 1, 0, .kil ((ps.map fun p => ev p.2).map V.toInt)⟩)
          else some (.tt, .sl nm 0 0 n, M.put nm ⟨e, 1, 0, .cv n fun j _ => (ps.map fun p => ev p.2).getD j .any⟩))
        else bif Nat.beq (ps.map fun p => ev p.2).length n && Nat.blt 0 (T.row e).sz && Nat.ble (T.row e).sz 1000 && Nat.blt 0 n && Nat.ble n 1000 && (ps.map fun p => ev p.2).all (V.isAgg (T.row e).sz) && (ps.map (·.1) == List.range n) then
          some (.tt, .sl nm 0 0 n, M.put nm ⟨e, (T.row e).sz, 0, .cv n fun j k => ((ps.map fun p => ev p.2).getD j .any).cellAt k⟩)
        else none) else none
    | _ => none
  | .load t x => match loadV T M t (ev x) with
    | some (p, v) => some (p, v, M)
    | none => none
  | .store t x y => storeV T M t (ev x) (ev y)
  | .nilCheck x => match ev x with
    | .ptr a b c d => (match M.get a with
      | some ob => some (eqnO b ob.ver, .ptr a b c d, M)
      | none => none)
    | .at_ a b c => some (.tt, .at_ a b c, M)
    | .clo f n g => some (.tt, .clo f n g, M)
    | .bnd f n g => some (.tt, .bnd f n g, M)
    | _ => none
  | .binOp op t x y _ => bif isNilC y then (match nilV T op t M (ev x) with
      | some (p, v) => some (p, v, M)
      | none => none)
    else match binV T op t (ev x) (ev y) with
      | some (p, v) => some (p, v, M)
      | none => none
  | .unOp op _ x => match op, ev x with
    | .neg, .lit (.int .i64 a) => some (.inr (-a), .int (-a), M)
    | .not, .lit (.bool b) => some (.tt, .bool (!b), M)
    | _, _ => none
  | .convert s d x => match (T.row d).d, ev x, knownT (T.row s) with
    | .int .i64, .lit (.int _ a), true => some (.inr a, .int a, M)
    | .int k, .lit (.int _ a), true => some (.tt, .lit (.int k (k.wrap a)), M)
    | _, _, _ => none
  | .makeFunc (.func fn) first captured => bif first.isEmpty then some (.tt, .clo fn captured.size fun i => (captured.toList.map ev).getD i .any, M)
    else bif captured.isEmpty then some (.tt, .bnd fn first.size fun i => (first.toList.map ev).getD i .any, M) else none
  | .makeInterface t x => bif concT (T.row t) then some (.tt, .ifc t (ev x), M) else none
  | .makeSlice t lo co => match (T.row t).d, ev lo, ev co with
    | .slice e, .lit (.int _ l), .lit (.int _ c) =>
      bif knownT (T.row e) && Nat.blt 0 (T.row e).sz && Nat.blt 0 (T.row e).bs then
        some (.and (.le 0 l) (.and (.le l c) (.le ((T.row e).bs * c) 140737488355328)), .sl nm 0 0 l.toNat,
          M.put nm ⟨e, (T.row e).sz, 0, bif sameOp lo co then madeCon (T.row e) l.toNat else madeKil (T.row e) l.toNat c.toNat⟩)
      else none
    | _, _, _ => none
  | .slice t x lo hi mx => match (T.row t).d, mx, optInt ev lo, optInt ev hi with
    | .slice e, none, some lo, some hi => bif knownT (T.row e) then (match sliceV M (T.row e).sz (ev x) lo hi with
      | some (p, v) => some (p, v, M)
      | none => none) else none
    | .slice e, some y, some none, some (some hi) => bif knownT (T.row e) && Nat.beq (T.row e).sz 1 then (match ev x, ev y with
      | .ints _ xs, .lit (.int _ m) => some (.and (.le 0 hi) (.and (.le hi m) (.and (.le m hi) (.le hi xs.length))), .full (xs.take hi.toNat), M)
      | _, _ => none) else none
    | .array n e, none, some lo, some hi => bif knownT (T.row e) && Nat.beq (T.row e).sz 1 then (match ev x with
      | .at_ sz g o => bif Nat.beq sz n && Nat.beq o 0 && Nat.ble n 1000 && (List.range n).all (fun k => (g k).isI64) then
          some (.and (.le 0 (lo.getD 0)) (.and (.le (lo.getD 0) (hi.getD n)) (.le (hi.getD n) n)), .ints false ((List.range ((hi.getD n).toNat - (lo.getD 0).toNat)).map fun j => (g ((lo.getD 0).toNat + j)).toInt), M) else none
      | _ => none) else none
    | _, _, _, _ => none
  | .fieldAddr s x f => match (T.row s).d with
    | .struct fs => bif Nat.blt f fs.length && knownT (T.row (fs.getD f (0, 0)).1) && Nat.blt 0 (T.row (fs.getD f (0, 0)).1).sz then (match ev x with
      | .ptr n ver i o => (match M.get n with
        | some ob => some (eqnO ver ob.ver, .ptr n ver i (o + (fs.getD f (0, 0)).2), M)
        | none => none)
      | .at_ sz g o => some (.tt, .at_ sz g (o + (fs.getD f (0, 0)).2), M)
      | _ => none) else none
    | _ => none
  | .field t x f => match (T.row t).d, ev x with
    | .struct fs, .agg n g => bif Nat.blt f fs.length && knownT (T.row (fs.getD f (0, 0)).1) && Nat.ble ((fs.getD f (0, 0)).2 + (T.row (fs.getD f (0, 0)).1).sz) n then
        (bif isAggT (T.row (fs.getD f (0, 0)).1) then some (.tt, .agg (T.row (fs.getD f (0, 0)).1).sz fun k => g ((fs.getD f (0, 0)).2 + k), M)
         else bif Nat.beq (T.row (fs.getD f (0, 0)).1).sz 1 then some (.tt, g (fs.getD f (0, 0)).2, M) else none)
      else none
    | _, _ => none
  | .indexAddr t x i => match ev i with
    | .lit (.int _ i) => match indexV T M t (ev x) i with
      | some (p, v) => some (p, v, M)
      | none => none
    | _ => none
  | .extract x i => match ev x with
    | .tup n g => bif Nat.blt i n then some (.tt, g i, M) else none
    | _ => none
  | .index t x i => match (T.row t).d, ev x, ev i with
    | .string, .lit (.string s), .lit (.int _ i) => some (.and (.le 0 i) (.lt i s.size), .lit (.int .u8 ((s.data.getD i.toNat 0).toNat : Int)), M)
    | _, _, _ => none
  | _ => none

/-- What is appended: ints, or cells by element. -/
inductive Src where
  | ints (xs : List Int)
  | cells (n : Nat) (f : Nat → Nat → V)

def Src.n : Src → Nat
  | .ints xs => xs.length
  | .cells n _ => n
def Src.f : Src → Nat → Nat → V
  | .ints xs, j, _ => .int (xs.getD j 0)
  | .cells _ f, j, o => f j o

def srcV (M : Mem) (sz : Nat) (int : Bool) : V → Option (Obl × Src)
  | .ints _ xs => bif Nat.beq sz 1 then some (.tt, .ints xs) else none
  | .seq _ s n f => bif Nat.beq s sz then some (.tt, .cells n f) else none
  | .sl nm ver off len => match M.get nm with
    | some ob => bif Nat.beq ob.sz sz then (match ob.c with
      | .il xs => some (eqnO ver ob.ver, .ints ((xs.drop off).take len))
      | .kil xs => some (eqnO ver ob.ver, .ints ((xs.drop off).take len))
      | c => some (eqnO ver ob.ver, .cells len fun j k => c.f (off + j) k)) else none
    | none => none
  | .emp _ => some (.tt, bif int then .ints [] else .cells 0 fun _ _ => .any)
  | _ => none

def maxI (x y : Int) : Int := if y > x then y else x
def minI (x y : Int) : Int := if y < x then y else x

def aBuiltin (T : Tab) (b : Builtin) (ts : List TypeId) (args : List V) (M : Mem) : Option (Obl × V × Mem) := match b, args, ts with
  | .len, [x], [t] => match (T.row t).d with
    | .slice _ => (match lenV M x with
      | some (p, n) => some (p, .int n, M)
      | none => none)
    | .string => (match x with
      | .lit (.string s) => some (.tt, .int (s.size : Int), M)
      | _ => none)
    | _ => none
  | .cap, [.emp _], [t] => match (T.row t).d with
    | .slice _ => some (.tt, .int 0, M)
    | _ => none
  | .max, [.lit (.int .i64 x), .lit (.int .i64 y)], _ => some (.tt, .int (maxI x y), M)
  | .max, [.lit (.int .i64 x), .lit (.int .i64 y), .lit (.int .i64 z)], _ => some (.tt, .int (maxI (maxI x y) z), M)
  | .min, [.lit (.int .i64 x), .lit (.int .i64 y)], _ => some (.tt, .int (minI x y), M)
  | _, _, _ => none

def srcCon : Src → Con
  | .ints xs => .il xs
  | .cells n f => .cv n f

/-- The content behind an append onto the first 'len' elements. -/
def appCon (c : Con) (len : Nat) : Src → Option Con
  | .ints ys => match c with
    | .il xs => some (.il (xs.take len ++ ys))
    | _ => none
  | .cells m g => match c with
    | .cv _ f => some (.cv (len + m) fun j k => if j < len then f j k else g (j - len) k)
    | _ => none

/-- The content behind an append within room that is known. -/
def kilApp (c : Con) (sz off len : Nat) : Src → Option Con
  | .ints ys => match c with
    | .kil xs => bif Nat.beq sz 1 && Nat.beq off 0 && Nat.blt 0 xs.length && Nat.ble (len + ys.length) xs.length then some (.kil (xs.take len ++ ys ++ xs.drop (len + ys.length))) else none
    | _ => none
  | _ => none

/-- What an append beyond room that is known makes anew. -/
def kilNew (c : Con) (sz off len : Nat) : Src → Option Con
  | .ints ys => match c with
    | .kil xs => bif Nat.beq sz 1 && Nat.beq off 0 && Nat.blt xs.length (len + ys.length) then some (.il (xs.take len ++ ys)) else none
    | _ => none
  | _ => none

def isI64T (i : TI) : Bool := match i.d with
  | .int .i64 => true
  | _ => false

/-- 'append(s, x...)': onto an object, onto a slice without room. -/
def aAppend (T : Tab) (nm e : Nat) (s x : V) (M : Mem) : Option (Obl × V × Mem) :=
  bif knownT (T.row e) && Nat.blt 0 (T.row e).sz && Nat.blt 0 (T.row e).bs then
    (match srcV M (T.row e).sz (isI64T (T.row e)) x with
    | some (p, src) => match s with
      | .emp _ => some (.and p (.le ((T.row e).bs * src.n) 140737488355328), .sl nm 0 0 src.n, M.put nm ⟨e, (T.row e).sz, 0, srcCon src⟩)
      | .sl t ver off len => match M.get t with
        | some ob => bif Nat.beq ob.sz (T.row e).sz && Nat.beq ob.e e then
            (match kilApp ob.c (T.row e).sz off len src with
            | some c => some (.and p (.and (eqnO ver ob.ver) (.le ((T.row e).bs * (len + src.n)) 140737488355328)), .sl t ver 0 (len + src.n), M.put t { ob with c := c })
            | none => match kilNew ob.c (T.row e).sz off len src with
            | some c => some (.and p (.and (eqnO ver ob.ver) (.le ((T.row e).bs * (len + src.n)) 140737488355328)), .sl nm 0 0 (len + src.n), M.put nm ⟨e, (T.row e).sz, 0, c⟩)
            | none => match appCon ob.c len src with
            | some c => some (.and p (.and (eqnO ver ob.ver) (.and (eqnO off 0) (.le ((T.row e).bs * (len + src.n)) 140737488355328))), .sl t (ver + 1) 0 (len + src.n), M.put t { ob with ver := ver + 1, c := c })
            | none => none) else none
        | none => none
      | _ => none
    | none => none) else none

def isZ64 (i : TI) : Bool := match i.zero with
  | [.int .i64 0] => true
  | _ => false
/-- 'append([]int(nil), make([]int, n)...)'. -/
def aMake (T : Tab) (nm t t' : Nat) (s x : V) (M : Mem) : Option (Obl × V × Mem) := match (T.row t).d, (T.row t').d, s, x with
  | .slice e, .int _, .emp true, .lit (.int .i64 n) => bif knownT (T.row e) && Nat.beq (T.row e).sz 1 && isZ64 (T.row e) && Nat.blt 0 (T.row e).bs then
      some (.and (.lt 0 n) (.le ((T.row e).bs * n) 140737488355328), .sl nm 0 0 n.toNat, M.put nm ⟨e, 1, 0, .il (List.replicate n.toNat 0)⟩) else none
  | _, _, _, _ => none

/-- 'append(s, x...)' onto ints of which the room is as long: a new row. -/
def fullApp (T : Tab) (e : Nat) (ys : List Int) (x : V) (M : Mem) : Option (Obl × V) :=
  bif knownT (T.row e) && Nat.beq (T.row e).sz 1 && Nat.blt 0 (T.row e).bs && isI64T (T.row e) then (match srcV M 1 true x with
    | some (p, .ints zs) => some (.and p (.and (.lt 0 zs.length) (.le ((T.row e).bs * (ys.length + zs.length)) 140737488355328)), .ints true (ys ++ zs))
    | _ => none) else none
def V.isFull : V → Option (List Int)
  | .full ys => some ys
  | _ => none

/-- The content behind a copy onto the elements from 'off' on. -/
def cpyCon (c : Con) (off : Nat) (ys : List Int) : Option Con := match c with
  | .il xs => some (.il (xs.take off ++ ys ++ xs.drop (off + ys.length)))
  | .kil xs => some (.kil (xs.take off ++ ys ++ xs.drop (off + ys.length)))
  | _ => none
/-- 'copy(s, x)' of ints, onto some room. -/
def aCopy (T : Tab) (e : TypeId) (s x : V) (M : Mem) : Option (Obl × V × Mem) :=
  bif knownT (T.row e) && Nat.beq (T.row e).sz 1 then (match s with
    | .sl t ver off len => match M.get t with
      | some ob => bif Nat.beq ob.sz 1 then (match srcV M (T.row e).sz true x with
        | some (p, .ints ys) => (match cpyCon ob.c off (ys.take len) with
          | some c => some (.and p (.and (eqnO ver ob.ver) (.lt 0 len)), .int ((ys.take len).length : Int), M.put t { ob with c := c })
          | none => none)
        | _ => none) else none
      | none => none
    | _ => none) else none

end Go.Tri
