/-
  REGIONS THAT DRAW THEIR ORDER, SECOND PART: operands, the last writer, the order.
-/
import Derived.Test.YtciefpkelgjboaaA13
namespace Go.Tri
variable {lo : Nat}
open Go.RowKit

theorem aop_congr {T : Tab} {M : Mem} {nm : Nat} {o : Op} {ev ev' : Operand → V} (h : ∀ x ∈ o.operands, ev x = ev' x) : aop T nm o ev M = aop T nm o ev' M := by
  cases o with
  | move x => simp only [aop]; rw [h x (by simp [Op.operands])]
  | assign x => simp only [aop]; rw [h x (by simp [Op.operands])]
  | pick c a b => simp only [aop]; rw [h c (by simp [Op.operands]), h a (by simp [Op.operands]), h b (by simp [Op.operands])]
  | alloc t => rfl
  | box t x => simp only [aop]; rw [h x (by simp [Op.operands])]
  | build t parts =>
    have hp : ∀ p ∈ parts.toList, ev p.2 = ev' p.2 := fun p hp => h p.2 (by simp only [Op.operands, List.mem_toArray, List.mem_map]; exact ⟨p, hp, rfl⟩)
    simp only [aop]
    cases hd : (T.row t).d with
    | struct fs =>
      simp only
      have e1 : (parts.toList.all fun (i, x) => partOk T fs (T.row t).sz i (ev x)) = (parts.toList.all fun (i, x) => partOk T fs (T.row t).sz i (ev' x)) := by
        rw [Bool.eq_iff_iff, List.all_eq_true, List.all_eq_true]
        exact ⟨fun q p hq => by have := q p hq; simp only at this ⊢; rw [← hp p hq]; exact this, fun q p hq => by have := q p hq; simp only at this ⊢; rw [hp p hq]; exact this⟩
      have e2 : ∀ l : List V, (parts.toList.foldl (fun l (i, x) => setAt l (fs.getD i (0, 0)).2 (ev x)) l) = (parts.toList.foldl (fun l (i, x) => setAt l (fs.getD i (0, 0)).2 (ev' x)) l) := by
        generalize parts.toList = ps at hp
        induction ps with
        | nil => intro l; rfl
        | cons p r ih =>
          intro l
          simp only [List.foldl_cons]
          rw [hp p (by simp)]
          exact ih (fun q hq => hp q (by simp [hq])) _
      rw [e1, e2]
    | _ => rfl
  | buildSlice t n parts =>
    have hp : ∀ p ∈ parts.toList, ev p.2 = ev' p.2 := fun p hp => h p.2 (by simp only [Op.operands, List.mem_toArray, List.mem_map]; exact ⟨p, hp, rfl⟩)
    have e1 : (parts.toList.map fun p => ev p.2) = (parts.toList.map fun p => ev' p.2) := List.map_congr_left hp
    have e2 : ∀ x, parts.toList = [(0, x)] → ev x = ev' x := fun x hx => hp (0, x) (by rw [hx]; simp)
    simp only [aop]
    cases hd : (T.row t).d with
    | slice e =>
      simp only
      congr 1
      congr 1
      split
      · next x hx => rw [e2 x hx]
      · rw [e1]
    | _ => rfl
  | load t x => simp only [aop]; rw [h x (by simp [Op.operands])]
  | store t x y => simp only [aop]; rw [h x (by simp [Op.operands]), h y (by simp [Op.operands])]
  | nilCheck x => simp only [aop]; rw [h x (by simp [Op.operands])]
  | binOp op t x y t2 => simp only [aop]; rw [h x (by simp [Op.operands]), h y (by simp [Op.operands])]
  | unOp op t x => simp only [aop]; rw [h x (by simp [Op.operands])]
  | convert s d x => simp only [aop]; rw [h x (by simp [Op.operands])]
  | makeFunc fn first captured =>
    cases fn with
    | func f =>
      simp only [aop]
      rw [show captured.toList.map ev = captured.toList.map ev' from List.map_congr_left fun x hx => h x (by simp [Op.operands]; exact .inr (by simpa using hx)),
        show first.toList.map ev = first.toList.map ev' from List.map_congr_left fun x hx => h x (by simp [Op.operands]; exact .inl (by simpa using hx))]
    | _ => rfl
  | makeInterface t x => simp only [aop]; rw [h x (by simp [Op.operands])]
  | makeSlice t l c => simp only [aop]; rw [h l (by simp [Op.operands]), h c (by simp [Op.operands])]
  | slice t x lo hi mx =>
    have e1 : optInt ev lo = optInt ev' lo := by
      cases lo with
      | none => rfl
      | some x => simp only [optInt]; rw [h x (by simp [Op.operands])]
    have e2 : optInt ev hi = optInt ev' hi := by
      cases hi with
      | none => rfl
      | some x => simp only [optInt]; rw [h x (by simp [Op.operands])]
    cases mx with
    | none =>
      simp only [aop]
      rw [h x (by simp [Op.operands]), e1, e2]
      cases (T.row t).d <;> cases optInt ev' lo <;> cases optInt ev' hi <;> rfl
    | some y =>
      have ey := h y (by simp [Op.operands])
      simp only [aop]
      rw [h x (by simp [Op.operands]), e1, e2]
      cases (T.row t).d <;> (try rfl)
      rcases optInt ev' lo with _ | _ | _ <;> rcases optInt ev' hi with _ | _ | _ <;> first | rfl | (simp only [ey])
  | fieldAddr s x f => simp only [aop]; rw [h x (by simp [Op.operands])]
  | field t x f => simp only [aop]; rw [h x (by simp [Op.operands])]
  | indexAddr t x i => simp only [aop]; rw [h x (by simp [Op.operands]), h i (by simp [Op.operands])]
  | extract x i => simp only [aop]; rw [h x (by simp [Op.operands])]
  | index t x i => simp only [aop]; rw [h x (by simp [Op.operands]), h i (by simp [Op.operands])]
  | _ => rfl

/-! ## The last writer -/

def lastW {α : Type} (sel : Nat → Bool) (dst : Nat → Option Nat) (val : Nat → α) (init : Nat → α) : Nat → Nat → α
  | 0, t => init t
  | n + 1, t => if sel n = true ∧ dst n = some t then val n else lastW sel dst val init n t

section
variable {α : Type} {sel sel' : Nat → Bool} {dst : Nat → Option Nat} {val : Nat → α} {init : Nat → α}

theorem lastW_congr {n : Nat} {t : Nat} (h : ∀ k, k < n → dst k = some t → sel k = sel' k) : lastW sel dst val init n t = lastW sel' dst val init n t := by
  induction n with
  | zero => rfl
  | succ n ih =>
    simp only [lastW]
    rw [ih fun k hk => h k (by omega)]
    by_cases hd : dst n = some t
    · rw [h n (by omega) hd]
    · simp [hd]

/-- Nobody later is chosen: the first ones decide. -/
theorem lastW_short {n m : Nat} {t : Nat} (hmn : m ≤ n) (h : ∀ k, m ≤ k → k < n → dst k = some t → sel k = false) : lastW sel dst val init n t = lastW sel dst val init m t := by
  induction n with
  | zero => rw [show m = 0 from by omega]
  | succ n ih =>
    by_cases e : m = n + 1
    · rw [e]
    · simp only [lastW]
      rw [if_neg (fun hc => by rw [h n (by omega) (by omega) hc.2] at hc; cases hc.1)]
      exact ih (by omega) (fun k h1 h2 => h k h1 (by omega))

theorem lastW_at {n i : Nat} {t : Nat} (hi : i < n) (hs : sel i = true) (hd : dst i = some t) (h : ∀ k, i < k → k < n → dst k = some t → sel k = false) : lastW sel dst val init n t = val i := by
  rw [lastW_short (m := i + 1) (by omega) (fun k h1 h2 => h k (by omega) h2)]
  simp [lastW, hs, hd]

theorem lastW_none {n : Nat} {t : Nat} (h : ∀ k, k < n → dst k = some t → sel k = false) : lastW sel dst val init n t = init t := by
  rw [lastW_short (m := 0) (by omega) (fun k _ h2 => h k h2)]
  rfl
end

/-! ## What must come before -/

/-- A set of operations that holds what its members wait for. -/
def Down (ops : Array Oper) (L : Nat → Bool) : Prop := ∀ i o, ops[i]? = some o → L i = true → ∀ e ∈ o.after, Region.binds .any e = true → L e.on = true

theorem befs_ok (ops : Array Oper) (L : Nat → Bool) (hD : Down ops L) : ∀ i o j, ops[i]? = some o → (∀ e ∈ o.after, Region.binds .any e = true → L e.on = true) → ((befs ops).getD i 0).testBit j = true → L j = true := by
  have key : ∀ (l : List Oper) (acc : List Nat), (∀ j, l[j]? = ops.toList[acc.length + j]?) →
      (∀ i o j, i < acc.length → ops[i]? = some o → (∀ e ∈ o.after, Region.binds .any e = true → L e.on = true) → (acc.getD i 0).testBit j = true → L j = true) →
      ∀ i o j, ops[i]? = some o → (∀ e ∈ o.after, Region.binds .any e = true → L e.on = true) → ((l.foldl (fun acc o => acc ++ [befStep acc o]) acc).getD i 0).testBit j = true → L j = true := by
    intro l
    induction l with
    | nil =>
      intro acc hl hacc i o j ho he ht
      simp only [List.foldl_nil] at ht
      by_cases hi : i < acc.length
      · exact hacc i o j hi ho he ht
      · simp [List.getD, List.getElem?_eq_none (Nat.le_of_not_lt hi)] at ht
    | cons x r ih =>
      intro acc hl hacc i o j ho he ht
      simp only [List.foldl_cons] at ht
      refine ih (acc ++ [befStep acc x]) (fun j => by have := hl (j + 1); simpa [Nat.add_assoc, Nat.add_comm 1 j] using this) (fun i o j hi ho he ht => ?_) i o j ho he ht
      simp only [List.length_append, List.length_cons, List.length_nil, Nat.zero_add] at hi
      by_cases hlt : i < acc.length
      · rw [show (acc ++ [befStep acc x]).getD i 0 = acc.getD i 0 from by simp [List.getD, List.getElem?_append_left hlt]] at ht
        exact hacc i o j hlt ho he ht
      · have hi : i = acc.length := by omega
        subst hi
        rw [show (acc ++ [befStep acc x]).getD acc.length 0 = befStep acc x from by simp [List.getD]] at ht
        have hx : x = o := by
          have := hl 0
          simp only [List.getElem?_cons_zero, Nat.add_zero, Array.getElem?_toList, ho] at this
          exact Option.some.inj this
        subst hx
        have fold : ∀ (es : List Edge) (s : Nat), (∀ e ∈ es, Region.binds .any e = true → L e.on = true) →
            (es.foldl (fun s e => bif Region.binds .any e && Nat.blt e.on acc.length then s ||| 2 ^ e.on ||| acc.getD e.on 0 else s) s).testBit j = true → s.testBit j = true ∨ L j = true := by
          intro es
          induction es with
          | nil => exact fun s _ h => .inl h
          | cons e es ihe =>
            intro s hes h
            simp only [List.foldl_cons] at h
            rcases ihe _ (fun e' h' => hes e' (by simp [h'])) h with h | h
            · cases hb : (Region.binds .any e && Nat.blt e.on acc.length) with
              | false => rw [hb] at h; exact .inl h
              | true =>
                rw [hb] at h
                simp only [cond_true, Nat.testBit_or, Bool.or_eq_true] at h
                simp only [Bool.and_eq_true] at hb
                have hL := hes e (by simp) hb.1
                have hlt : e.on < acc.length := by simpa using hb.2
                rcases h with (h | h) | h
                · exact .inl h
                · rw [Nat.testBit_two_pow] at h
                  have : e.on = j := by simpa using h
                  rw [← this]
                  exact .inr hL
                · have hsz : e.on < ops.size := by
                    have : acc.length < ops.size := (Array.getElem?_eq_some_iff.1 ho).1
                    omega
                  exact .inr (hacc e.on ops[e.on] j hlt (Array.getElem?_eq_getElem hsz) (hD e.on _ (Array.getElem?_eq_getElem hsz) hL) h)
            · exact .inr h
        rcases fold x.after.toList 0 (fun e h => he e (by simpa using h)) ht with h | h
        · simp at h
        · exact h
  intro i o j ho he ht
  exact key ops.toList [] (fun j => by simp) (fun i o j hi => absurd hi (by simp)) i o j ho he ht

end Go.Tri
