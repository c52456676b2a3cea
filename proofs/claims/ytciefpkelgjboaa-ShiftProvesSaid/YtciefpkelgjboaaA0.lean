/-
  WHAT IS CHECKED OF A CODE AHEAD: operations, orders, cuts.
-/
import Derived.WalkKit
import Derived.ProofKit
import Derived.RangeFuncOwn
import Derived.OrdersIn
import Derived.Sort.LoopGhostIn
import Derived.Laws.CopyRow
import Derived.ChangeKeysEq
import Derived.Lib.AppendZeros
namespace Go.Tri

def isNilC : Operand → Bool
  | .const (.slice none 0 0) => true
  | _ => false
def dstOk (nt : Nat) (o : Oper) : Bool := match o.dst with
  | some d => Nat.blt d nt
  | none => true

/-- Does it look at memory? -/
def isRd : Op → Bool
  | .binOp _ _ _ y _ => isNilC y
  | .move _ | .assign _ | .pick .. | .alloc _ | .box .. | .build .. | .buildSlice .. | .unOp .. | .convert .. | .makeFunc .. | .makeInterface .. | .makeSlice .. | .field .. | .extract .. | .index .. => false
  | _ => true
/-- Does it write to what was there? -/
def isLoud : Op → Bool
  | .store .. => true
  | .call c => match c.callee with
    | .builtin .append => true
    | .builtin .copy => true
    | _ => false
  | _ => false

/-- It looks at one object: its operand's. -/
def isLd : Op → Bool
  | .load .. | .slice .. | .indexAddr .. => true
  | _ => false
/-- It writes to one object that its result, or its first operand, names: an append, a store. -/
def isApp : Op → Bool
  | .store .. => true
  | .call c => match c.callee with
    | .builtin .append => true
    | _ => false
  | _ => false

def mention (ops : Array Oper) (o : Oper) : List Tmp :=
  o.dst.toList ++ (o.op.operands.toList.filterMap fun | .tmp t => some t | _ => none) ++ (match o.guard with
    | some (g, _) => ((ops[g]?).bind (·.dst)).toList
    | none => [])

def befStep (acc : List Nat) (o : Oper) : Nat := o.after.toList.foldl (fun s e => bif Region.binds .any e && Nat.blt e.on acc.length then s ||| 2 ^ e.on ||| acc.getD e.on 0 else s) 0
def befs (ops : Array Oper) : List Nat := ops.toList.foldl (fun acc o => acc ++ [befStep acc o]) []

def touches (ops : Array Oper) (a b : Oper) : Bool := (match a.dst with | some d => (mention ops b).contains d | none => false) || (isLoud a.op && isRd b.op && !(isApp a.op && isLd b.op))
def conflicts (ops : Array Oper) (a b : Oper) : Bool := touches ops a b || touches ops b a

/-- Does one wait for the other? -/
def bef (ops : Array Oper) (k i : Nat) : Bool := bif Nat.blt k i then ((befs ops).getD i 0).testBit k else ((befs ops).getD k 0).testBit i
/-- A look at one object that an append is not held apart from. -/
def wkL (ops : Array Oper) (i : Nat) : Bool := (match ops[i]? with | some o => isLd o.op | none => false) &&
  (List.range ops.size).any fun k => (match ops[k]? with | some a => isApp a.op | none => false) && !bef ops k i

def drawOk (nt : Nat) (ops : Array Oper) : Bool :=
  ops.toList.all (dstOk nt) && ((List.range ops.size).all fun i => match ops[i]? with | some o => o.after.all fun e => !Region.binds .any e || Nat.blt e.on i | none => true) && (List.range ops.size).all fun i => (List.range i).all fun k =>
    !(match ops[k]?, ops[i]? with | some a, some b => conflicts ops a b | _, _ => false) || ((befs ops).getD i 0).testBit k

/-- The operation at c waits for all before it; each behind it waits for the one before. -/
def cutOk (nt : Nat) (ops : Array Oper) (c : Nat) : Bool :=
  drawOk nt (ops.extract 0 c) && ops.toList.all (dstOk nt) && Nat.ble c ops.size &&
  ((List.range ops.size).all fun i => match ops[i]? with | some o => o.after.all fun e => !Region.binds .any e || Nat.blt e.on i | none => true) &&
  ((List.range c).all fun j => ((befs ops).getD c 0).testBit j) &&
  ((List.range ops.size).all fun i => Nat.ble i c || ((befs ops).getD i 0).testBit (i - 1)) &&
  ((List.range c).all fun i => match ops[i]? with | some o => (match o.guard with | some (j, _) => Nat.blt j c | none => true) | none => true)

/-- What is checked of a code ahead; 'cut': where a region that draws is cut. -/
def codeOk (nt : Nat) (cut : Nat → Option Nat) : Code → Bool
  | .seq a b => codeOk nt cut a && codeOk nt cut b
  | .cond _ a b => codeOk nt cut a && codeOk nt cut b
  | .block _ a => codeOk nt cut a
  | .loop a => codeOk nt cut a
  | .rangeFunc _ ps a b => ps.toList.all (fun p => Nat.blt p nt) && codeOk nt cut a && codeOk nt cut b
  | .region id ops draw => bif draw then (match cut id with
    | some c => Nat.blt c ops.size && cutOk nt ops c
    | none => drawOk nt ops) else ops.toList.all (dstOk nt)
  | _ => true

/-- Where a loop's own regions are cut, and that they have been checked. -/
structure LoopInf (nt : Nat) (ps : Array Tmp) (as bd : Code) where
  cut : Nat → Option Nat
  ok : Option (PLift (ps.toList.all (fun p => Nat.blt p nt) = true ∧ codeOk nt cut as = true ∧ codeOk nt cut bd = true))

end Go.Tri
