/-
  REGIONS THAT DRAW THEIR ORDER, THIRD PART: one walk in the text's order serves every order.
-/
import Derived.Test.YtjcjjakmggfmcaaA14
namespace Go.Tri
open Go.RowKit

/-- The reading for a callee in a region that draws: what lies deeper than one name is let go. -/
def byval0 (M : Mem) (x : V) : V := match x with
  | .sl t _ off len => match M.get t with
    | some ob => view false ob off len (byvalN [] 4)
    | none => .any
  | .ptr t _ i o => match M.get t with
    | some ob => .at_ ob.sz (fun k => byvalN [] 4 (ob.c.f i k)) o
    | none => .any
  | x => byvalN [] 5 x

/-- One operation, as opW; of a callee its one result is asked. -/
def dOpW (X : Cx) (nm : Nat) (o : Oper) (e : Env) (M : Mem) (K : V → Mem → Prop) : Prop := match o.op with
  | .call c => match c.callee with
    | .builtin .append => match c.args.toList, c.argTypes.toList with
      | [s, x], [t, t'] => bif Nat.beq t t' then (match (X.T.row t).d with
        | .slice el => match aAppend X.T nm el (evA e s) (evA e x) M with
          | some (p, v, M') => p.req (forceV v fun v => K v M')
          | none => False
        | _ => False) else False
      | _, _ => False
    | .builtin b => match aBuiltin X.T b c.argTypes.toList (c.args.toList.map (evA e)) M with
      | some (p, v, M') => p.req (forceV v fun v => K v M')
      | none => False
    | .value f => match evA e f with
      | .clo f n g => bif Nat.beq c.args.size c.argTypes.size && !X.wr.contains f then
          ∃ R, (verOks M (c.args.toList.map (evA e) ++ (List.range n).map g)).req (APure X.P f (((c.args.toList.map (evA e) ++ (List.range n).map g).zip (c.argTypes.toList ++ List.replicate n 0)).map fun (x, t) => byval0 M (asInts X.T t x)) (fun R' => R' = R)) ∧ forceV R fun R => K R M
        else False
      | _ => False
    | _ => False
  | op => match aop X.T nm op (evA e) M with
    | some (p, v, M') => p.req (forceV v fun v => K v M')
    | none => False

/-- The walk in the text's order; 'n0': the first name, 'k': the operation's place. -/
def drawW (X : Cx) (ops : Array Oper) (n0 : Nat) : Nat → List Oper → Env → Mem → (Env → Mem → Prop) → Prop
  | _, [], e, M, K => K e M
  | k, o :: r, e, M, K => match o.dst with
    | none => guardW ops o e (fun e => dOpW X (n0 + k) o e M fun _ M' => drawW X ops n0 (k + 1) r e M' K) (fun e => drawW X ops n0 (k + 1) r e M K)
    | some d => guardW ops o e (fun e => dOpW X (n0 + k) o e M fun v M' => drawW X ops n0 (k + 1) r ((d, v) :: e) M' K) (fun e => drawW X ops n0 (k + 1) r ((d, .un) :: e) M K)

def evF (E : Nat → V) : Operand → V
  | .tmp t => E t
  | .const v => constV v
  | .global g => .lit (.pointer (some ⟨g, 0, none⟩))
  | .func f => .clo f 0 fun _ => .any

theorem evF_eq (e : Env) : evF (Env.get e) = evA e := by funext x; cases x <;> rfl

/-- What is known of an operation in the text's order. -/
inductive DOk (X : Cx) (nm : Nat) (o : Oper) (ev : Operand → V) (M : Mem) (v : V) : Option (Nat × Ob) → Prop where
  | op (p : Obl) (d : Option (Nat × Ob)) (hc : ∀ c, o.op ≠ .call c) (h : ∀ M', (isRd o.op = true → M.le M') → aop X.T nm o.op ev M' = some (p, v, patch M' d))
      (hd : ∀ n ob, d = some (n, ob) → n = nm ∧ isLoud o.op = false ∨ (isLoud o.op = true ∧ M.get n ≠ none ∧ ∃ x ∈ o.op.operands, ∃ ver i k, ev x = .ptr n ver i k)) (hp : p.holds) : DOk X nm o ev M v d
  | app (c : Call) (s x : Operand) (t el : TypeId) (p : Obl) (n : Nat) (ob : Ob) (ho : o.op = .call c) (hc : c.callee = .builtin .append) (ha : c.args.toList = [s, x]) (ht : c.argTypes.toList = [t, t]) (hd : (X.T.row t).d = .slice el)
      (h : ∀ M', M.le M' → aAppend X.T nm el (ev s) (ev x) M' = some (p, v, M'.put n ob)) (hn : n = nm ∨ (M.get n ≠ none ∧ ∃ ver off len, ev s = .sl n ver off len)) (hvn : ∃ ver len, v = .sl n ver 0 len) (hp : p.holds) : DOk X nm o ev M v (some (n, ob))
  | blt (c : Call) (b : Builtin) (p : Obl) (ho : o.op = .call c) (hc : c.callee = .builtin b) (hb : b ≠ .append) (h : ∀ M', M.le M' → aBuiltin X.T b c.argTypes.toList (c.args.toList.map ev) M' = some (p, v, M')) (hp : p.holds) : DOk X nm o ev M v none
  | pure (c : Call) (f : Operand) (g : FuncId) (n : Nat) (cap : Nat → V) (ho : o.op = .call c) (hc : c.callee = .value f) (hf : ev f = .clo g n cap) (hs : c.args.size = c.argTypes.size)
      (hv : (verOks M (c.args.toList.map ev ++ (List.range n).map cap)).holds)
      (h : APure X.P g (((c.args.toList.map ev ++ (List.range n).map cap).zip (c.argTypes.toList ++ List.replicate n 0)).map fun (x, t) => byval0 M (asInts X.T t x)) (fun R => R = v)) : DOk X nm o ev M v none

theorem dOpW_ok {X : Cx} {nm : Nat} {o : Oper} {e : Env} {M : Mem} {K : V → Mem → Prop} (h : dOpW X nm o e M K) : ∃ v d, DOk X nm o (evA e) M v d ∧ K v (patch M d) := by
  have plain : (∀ c, o.op ≠ .call c) → (match aop X.T nm o.op (evA e) M with
      | some (p, v, M') => p.req (forceV v fun v => K v M')
      | none => False) → ∃ v d, DOk X nm o (evA e) M v d ∧ K v (patch M d) := by
    intro hc h
    cases hq : aop X.T nm o.op (evA e) M with
    | none => rw [hq] at h; exact h.elim
    | some q =>
      obtain ⟨p, v, M'⟩ := q
      rw [hq] at h
      simp only at h
      rw [Obl.req_iff, forceV_eq] at h
      obtain ⟨d, rfl, h2, h3⟩ := aop_mono hq
      exact ⟨v, d, .op p d hc h2 h3 h.1, h.2⟩
  unfold dOpW at h
  cases ho : o.op with
  | call c =>
    rw [ho] at h
    simp only at h
    cases hcal : c.callee with
    | value f =>
      rw [hcal] at h
      simp only at h
      cases hf : evA e f with
      | clo g n cap =>
        rw [hf] at h
        simp only at h
        cases hb : (Nat.beq c.args.size c.argTypes.size && !X.wr.contains g) with
        | false => rw [hb] at h; exact h.elim
        | true =>
          rw [hb] at h
          simp only [cond_true] at h
          simp only [Bool.and_eq_true] at hb
          obtain ⟨R, h1, h2⟩ := h
          rw [Obl.req_iff] at h1
          rw [forceV_eq] at h2
          exact ⟨R, none, .pure c f g n cap ho hcal hf (Nat.eq_of_beq_eq_true hb.1) h1.1 h1.2, h2⟩
      | _ => rw [hf] at h; exact h.elim
    | invoke r m => rw [hcal] at h; exact h.elim
    | builtin b =>
      rw [hcal] at h
      have gen : b ≠ .append → (match aBuiltin X.T b c.argTypes.toList (c.args.toList.map (evA e)) M with
          | some (p, v, M') => p.req (forceV v fun v => K v M')
          | none => False) → ∃ v d, DOk X nm o (evA e) M v d ∧ K v (patch M d) := by
        intro hne hg
        cases hq : aBuiltin X.T b c.argTypes.toList (c.args.toList.map (evA e)) M with
        | none => rw [hq] at hg; exact hg.elim
        | some q =>
          obtain ⟨p, v, M'⟩ := q
          rw [hq] at hg
          simp only at hg
          rw [Obl.req_iff, forceV_eq] at hg
          obtain ⟨rfl, _⟩ := aBuiltin_mono (M' := M) (fun _ _ h => h) hq
          exact ⟨v, none, .blt c b p ho hcal hne (fun M' hM => (aBuiltin_mono hM hq).2) hg.1, hg.2⟩
      cases b with
      | append =>
        simp only at h
        split at h
        · next s x t t' he ht =>
          cases hb : Nat.beq t t' with
          | false => rw [hb] at h; exact h.elim
          | true =>
            rw [hb] at h
            simp only [cond_true] at h
            have hb := Nat.eq_of_beq_eq_true hb
            subst hb
            cases hd : (X.T.row t).d with
            | slice el =>
              rw [hd] at h
              simp only at h
              cases hq : aAppend X.T nm el (evA e s) (evA e x) M with
              | none => rw [hq] at h; exact h.elim
              | some q =>
                obtain ⟨p, v, M'⟩ := q
                rw [hq] at h
                simp only at h
                rw [Obl.req_iff, forceV_eq] at h
                obtain ⟨n, ob, rfl, h2, h3, h4⟩ := aAppend_all hq
                exact ⟨v, some (n, ob), .app c s x t el p n ob ho hcal he ht hd h2 h3 h4 h.1, h.2⟩
            | _ => rw [hd] at h; exact h.elim
        · exact h.elim
      | _ => exact gen (by intro h; cases h) h
  | _ =>
    refine plain (fun c hc => ?_) ?_
    · rw [ho] at hc; cases hc
    · rw [ho] at h ⊢; exact h

theorem byval0_ok {nb base : Nat} {φ : Phi} {w : World} {M : Mem} (hm : MemRel nb base φ w M) {x : V} {v : Value} (hx : Rep φ base w x v) (hv : (verOk M x).holds) : Rep (fun _ => none) 0 w (byval0 M x) v := by
  have hN : ∀ (d : Nat) (x : V) (v : Value), Rep φ base w x v → Rep (fun _ => none) 0 w (byvalN [] d x) v := by
    intro d
    induction d with
    | zero => exact fun x v _ => trivial
    | succ d ih =>
      intro x v hx
      cases x with
      | lit u => exact hx
      | ints fr xs =>
        obtain ⟨A, cap, rfl, h1, h2, h4⟩ := hx
        refine ⟨A, cap, rfl, h1, h2, fun hn => ?_⟩
        obtain ⟨b, off, rfl, g1, g2, g3⟩ := h4 hn
        exact ⟨b, off, rfl, notLive_none b, fun _ => Nat.zero_le b, g3⟩
      | seq fr sz n f =>
        obtain ⟨A, cap, rfl, h1, h2, h3, h4⟩ := hx
        refine ⟨A, cap, rfl, h1, h2, h3, fun hn => ?_⟩
        obtain ⟨b, off, rfl, g1, g2, g3⟩ := h4 hn
        refine ⟨b, off, rfl, notLive_none b, fun _ => Nat.zero_le b, fun j o hj ho => ?_⟩
        obtain ⟨c, e1, e2, e3⟩ := g3 j o hj ho
        exact ⟨c, e1, e2, ih _ _ e3⟩
      | sl t ver off len => exact (show Rep (fun _ => none) 0 w .any v from trivial)
      | ptr t ver i o => exact (show Rep (fun _ => none) 0 w .any v from trivial)
      | at_ sz g o =>
        obtain ⟨b, off, rfl, h0, h1, h2⟩ := hx
        refine ⟨b, off, rfl, h0, notLive_none b, fun k hk => ?_⟩
        obtain ⟨c, e1, e2, e3⟩ := h2 k hk
        exact ⟨c, e1, e2, ih _ _ e3⟩
      | agg n g =>
        obtain ⟨cs, rfl, h1, h2⟩ := hx
        exact ⟨cs, rfl, h1, fun i hi => by obtain ⟨c, e1, e2, e3⟩ := h2 i hi; exact ⟨c, e1, e2, ih _ _ e3⟩⟩
      | tup n g =>
        obtain ⟨cs, rfl, h1, h2⟩ := hx
        exact ⟨cs, rfl, h1, fun i hi => by obtain ⟨c, e1, e2⟩ := h2 i hi; exact ⟨c, e1, ih _ _ e2⟩⟩
      | clo f n g =>
        obtain ⟨cs, rfl, h1, h2⟩ := hx
        exact ⟨cs, rfl, h1, fun i hi => by obtain ⟨c, e1, e2⟩ := h2 i hi; exact ⟨c, e1, ih _ _ e2⟩⟩
      | emp => exact hx
      | any => trivial
  cases x with
  | sl t ver off len =>
    simp only [byval0]
    simp only [verOk] at hv
    cases ho : M.get t with
    | none => trivial
    | some ob =>
      rw [ho] at hv
      exact view_ok hm hx ho (eqnO_holds.1 hv) false (fun h => nomatch h) (fun x c h => hN 4 x c h)
  | ptr t ver i o =>
    simp only [byval0]
    simp only [verOk] at hv
    cases ho : M.get t with
    | none => trivial
    | some ob =>
      rw [ho] at hv
      obtain ⟨r, hrr, _, hle, hvv⟩ := hx
      obtain ⟨ob', ho', hrel⟩ := hm.obj t r hrr
      rw [ho] at ho'
      cases ho'
      obtain ⟨rfl, hi⟩ := hvv (by rw [← hrel.ver, eqnO_holds.1 hv])
      obtain ⟨c0, e0, _⟩ := hrel.cell hi hrel.pos
      refine ⟨r.g, i * r.sz, rfl, World.block_lt_of_cell? w _ e0, notLive_none _, fun k hk => ?_⟩
      obtain ⟨c, e1, e2, e3⟩ := hrel.cell hi (show k < r.sz by rw [← hrel.sz]; exact hk)
      exact ⟨c, e1, e2, hN 4 _ _ e3⟩
  | _ => exact hN 5 _ _ hx

end Go.Tri
