/-
  REGIONS THAT DRAW THEIR ORDER, FIRST PART: an operation's effect on memory is a patch; it is the same over any memory that holds what it looks at.
-/
import Derived.Test.YtciefpkelgjboaaA12
namespace Go.Tri
variable {lo : Nat}
open Go.RowKit

def patch (M : Mem) : Option (Nat × Ob) → Mem
  | none => M
  | some (t, o) => M.put t o

/-- The patch and its name: what is new, or what was pointed at. -/
def PatchAt (nm : Nat) (o : Op) (φ : Phi) : Option (Nat × Ob) → Prop
  | none => True
  | some (t, _) => t = nm ∨ (isLoud o = true ∧ φ t ≠ none)

theorem loadV_mono {T : Tab} {M M' : Mem} (hM : M.le M') {t : Nat} {x v : V} {p : Obl} (h : loadV T M t x = some (p, v)) : loadV T M' t x = some (p, v) := by
  unfold loadV at h ⊢
  cases hk : knownT (T.row t) with
  | false => rw [hk] at h; cases h
  | true =>
    rw [hk] at h
    simp only [cond_true] at h ⊢
    cases x with
    | ptr n ver i o =>
      simp only [loadV'] at h ⊢
      cases hg : M.get n with
      | none => rw [hg] at h; cases h
      | some ob => rw [hg] at h; rw [hM n ob hg]; exact h
    | _ => exact h

theorem storeV_mono {T : Tab} {M M' M2 : Mem} (hM : M.le M') {t : Nat} {x y v : V} {p : Obl} (h : storeV T M t x y = some (p, v, M2)) :
    ∃ n ver i o ob, x = .ptr n ver i o ∧ M.get n ≠ none ∧ M2 = M.put n ob ∧ storeV T M' t x y = some (p, v, M'.put n ob) := by
  unfold storeV at h ⊢
  cases hk : knownT (T.row t) with
  | false => rw [hk] at h; cases h
  | true =>
    rw [hk] at h
    simp only [cond_true] at h ⊢
    cases x with
    | ptr n ver i o =>
      simp only at h ⊢
      cases hg : M.get n with
      | none => rw [hg] at h; cases h
      | some ob =>
        rw [hg] at h
        rw [hM n ob hg]
        simp only at h ⊢
        cases ha : isAggT (T.row t) with
        | true =>
          rw [ha] at h
          simp only [cond_true] at h ⊢
          cases y with
          | agg m g =>
            simp only at h ⊢
            cases har : (isArrT (T.row t) && ob.c.isCv) with
            | true =>
              rw [har] at h
              simp only [cond_true] at h ⊢
              cases hb : Nat.beq m (T.row t).sz with
              | false => rw [hb] at h; cases h
              | true =>
                rw [hb] at h
                simp only [cond_true, Option.some.injEq, Prod.mk.injEq] at h ⊢
                obtain ⟨rfl, rfl, rfl⟩ := h
                exact ⟨n, ver, i, o, _, rfl, (by rw [hg]; exact fun h => nomatch h), rfl, rfl, rfl, rfl⟩
            | false =>
            rw [har] at h
            simp only [cond_false] at h ⊢
            cases hc : (Nat.beq m (T.row t).sz && Nat.ble (o + m) ob.sz) with
            | false => rw [hc] at h; cases h
            | true =>
              rw [hc] at h
              simp only [cond_true] at h ⊢
              cases hs : storeCellsV ob.c ob.sz i o g m with
              | none => rw [hs] at h; cases h
              | some c' =>
                rw [hs] at h
                simp only [Option.some.injEq, Prod.mk.injEq] at h ⊢
                obtain ⟨rfl, rfl, rfl⟩ := h
                exact ⟨n, ver, i, o, _, rfl, (by rw [hg]; exact fun h => nomatch h), rfl, rfl, rfl, rfl⟩
          | _ => cases h
        | false =>
          rw [ha] at h
          simp only [cond_false] at h ⊢
          cases hc : Nat.beq (T.row t).sz 1 with
          | false => rw [hc] at h; cases h
          | true =>
            rw [hc] at h
            simp only [cond_true] at h ⊢
            cases hs : ob.c.set ob.sz i o y with
            | none => rw [hs] at h; cases h
            | some c' =>
              rw [hs] at h
              simp only [Option.some.injEq, Prod.mk.injEq] at h ⊢
              obtain ⟨rfl, rfl, rfl⟩ := h
              exact ⟨n, ver, i, o, _, rfl, (by rw [hg]; exact fun h => nomatch h), rfl, rfl, rfl, rfl⟩
    | _ => cases h

theorem nilV_mono {T : Tab} {M M' : Mem} (hM : M.le M') {op : BinOp} {t : Nat} {x : V} {q : Obl × V} (h : nilV T op t M x = some q) : nilV T op t M' x = some q := by
  have hn : ∀ p, nonEmpty M x = some p → nonEmpty M' x = some p := by
    intro p hp
    cases x with
    | sl nm ver off len =>
      simp only [nonEmpty] at hp ⊢
      cases hg : M.get nm with
      | none => rw [hg] at hp; cases hp
      | some ob => rw [hg] at hp; rw [hM nm ob hg]; exact hp
    | _ => exact hp
  unfold nilV at h ⊢
  split at h
  · next e hd hp =>
    cases hb : isNilV x with
    | false => rw [hb] at h; cases h
    | true =>
      have hx : nonEmpty M' x = none := by
        cases x with
        | emp nl => rfl
        | _ => cases hb
      rw [hb] at h
      rw [hd, hx]
      exact h
  · next e p hd hp => rw [hd, hn p hp]; exact h
  · cases h

theorem lenV_mono {M M' : Mem} (hM : M.le M') {x : V} {q : Obl × Int} (h : lenV M x = some q) : lenV M' x = some q := by
  cases x with
  | sl nm ver off len =>
    simp only [lenV] at h ⊢
    cases hg : M.get nm with
    | none => rw [hg] at h; cases h
    | some ob => rw [hg] at h; rw [hM nm ob hg]; exact h
  | _ => exact h

theorem indexV_mono {T : Tab} {M M' : Mem} (hM : M.le M') {t : Nat} {x : V} {i : Int} {q : Obl × V} (h : indexV T M t x i = some q) : indexV T M' t x i = some q := by
  unfold indexV at h ⊢
  cases hd : (T.row t).d with
  | slice e =>
    rw [hd] at h
    simp only at h ⊢
    cases hk : knownT (T.row e) with
    | false => rw [hk] at h; cases h
    | true =>
      rw [hk] at h
      simp only [cond_true] at h ⊢
      cases x with
      | sl nm ver off len =>
        simp only at h ⊢
        cases hg : M.get nm with
        | none => rw [hg] at h; cases h
        | some ob => rw [hg] at h; rw [hM nm ob hg]; exact h
      | _ => exact h
  | array n e =>
    rw [hd] at h
    simp only at h ⊢
    cases hk : knownT (T.row e) with
    | false => rw [hk] at h; cases h
    | true =>
      rw [hk] at h
      simp only [cond_true] at h ⊢
      cases x with
      | ptr nm ver i0 o =>
        simp only at h ⊢
        cases hg : M.get nm with
        | none => rw [hg] at h; cases h
        | some ob => rw [hg] at h; rw [hM nm ob hg]; exact h
      | _ => exact h
  | _ => rw [hd] at h; cases h

theorem sliceV_mono {M M' : Mem} (hM : M.le M') {sz : Nat} {x : V} {lo hi : Option Int} {q : Obl × V} (h : sliceV M sz x lo hi = some q) : sliceV M' sz x lo hi = some q := by
  cases x with
  | sl nm ver off len =>
    simp only [sliceV] at h ⊢
    cases hg : M.get nm with
    | none => rw [hg] at h; cases h
    | some ob => rw [hg] at h; rw [hM nm ob hg]; exact h
  | _ => exact h

theorem srcV_mono {M M' : Mem} (hM : M.le M') {sz : Nat} {int : Bool} {x : V} {q : Obl × Src} (h : srcV M sz int x = some q) : srcV M' sz int x = some q := by
  cases x with
  | sl nm ver off len =>
    simp only [srcV] at h ⊢
    cases hg : M.get nm with
    | none => rw [hg] at h; cases h
    | some ob => rw [hg] at h; rw [hM nm ob hg]; exact h
  | _ => exact h

theorem fullApp_mono {T : Tab} {M M' : Mem} (hM : M.le M') {e : Nat} {ys : List Int} {x v : V} {p : Obl} (h : fullApp T e ys x M = some (p, v)) : fullApp T e ys x M' = some (p, v) := by
  unfold fullApp at h ⊢
  cases hk : (knownT (T.row e) && Nat.beq (T.row e).sz 1 && Nat.blt 0 (T.row e).bs && isI64T (T.row e)) with
  | false => rw [hk] at h; cases h
  | true =>
    rw [hk] at h
    simp only [cond_true] at h ⊢
    cases hs : srcV M 1 true x with
    | none => rw [hs] at h; cases h
    | some q => rw [hs] at h; rw [srcV_mono hM hs]; exact h
theorem aAppend_mono {T : Tab} {M M' M2 : Mem} (hM : M.le M') {nm e : Nat} {s x v : V} {p : Obl} (h : aAppend T nm e s x M = some (p, v, M2)) :
    ∃ n ob, M2 = M.put n ob ∧ aAppend T nm e s x M' = some (p, v, M'.put n ob) ∧ (n = nm ∨ ∃ ver off len, s = .sl n ver off len) := by
  unfold aAppend at h ⊢
  cases hk : (knownT (T.row e) && Nat.blt 0 (T.row e).sz && Nat.blt 0 (T.row e).bs) with
  | false => rw [hk] at h; cases h
  | true =>
    rw [hk] at h
    simp only [cond_true] at h ⊢
    cases hs : srcV M (T.row e).sz (isI64T (T.row e)) x with
    | none => rw [hs] at h; cases h
    | some q =>
      obtain ⟨p0, src⟩ := q
      rw [hs] at h
      rw [srcV_mono hM hs]
      simp only at h ⊢
      cases s with
      | emp =>
        simp only [Option.some.injEq, Prod.mk.injEq] at h ⊢
        obtain ⟨rfl, rfl, rfl⟩ := h
        exact ⟨nm, _, rfl, ⟨rfl, rfl, rfl⟩, .inl rfl⟩
      | sl t ver off len =>
        simp only at h ⊢
        cases hg : M.get t with
        | none => rw [hg] at h; cases h
        | some ob =>
          rw [hg] at h
          rw [hM t ob hg]
          simp only at h ⊢
          cases hb : (Nat.beq ob.sz (T.row e).sz && Nat.beq ob.e e) with
          | false => rw [hb] at h; cases h
          | true =>
            rw [hb] at h
            simp only [cond_true] at h ⊢
            cases hk2 : kilApp ob.c (T.row e).sz off len src with
            | some c =>
              rw [hk2] at h
              simp only [Option.some.injEq, Prod.mk.injEq] at h ⊢
              obtain ⟨rfl, rfl, rfl⟩ := h
              exact ⟨t, _, rfl, ⟨rfl, rfl, rfl⟩, .inr ⟨ver, off, len, rfl⟩⟩
            | none =>
              rw [hk2] at h
              simp only at h ⊢
              cases hk3 : kilNew ob.c (T.row e).sz off len src with
              | some c =>
                rw [hk3] at h
                simp only [Option.some.injEq, Prod.mk.injEq] at h ⊢
                obtain ⟨rfl, rfl, rfl⟩ := h
                exact ⟨nm, _, rfl, ⟨rfl, rfl, rfl⟩, .inl rfl⟩
              | none =>
                rw [hk3] at h
                simp only at h ⊢
                cases hc : appCon ob.c len src with
                | none => rw [hc] at h; cases h
                | some c =>
                  rw [hc] at h
                  simp only [Option.some.injEq, Prod.mk.injEq] at h ⊢
                  obtain ⟨rfl, rfl, rfl⟩ := h
                  exact ⟨t, _, rfl, ⟨rfl, rfl, rfl⟩, .inr ⟨ver, off, len, rfl⟩⟩
      | _ => cases h

/-- The same, the patch apart. -/
def aAppendD (T : Tab) (nm e : Nat) (s x : V) (M : Mem) : Option (Obl × V × Nat × Ob) :=
  bif knownT (T.row e) && Nat.blt 0 (T.row e).sz && Nat.blt 0 (T.row e).bs then
    (match srcV M (T.row e).sz (isI64T (T.row e)) x with
    | some (p, src) => match s with
      | .emp _ => some (.and p (.le ((T.row e).bs * src.n) 140737488355328), .sl nm 0 0 src.n, nm, ⟨e, (T.row e).sz, 0, srcCon src⟩)
      | .sl t ver off len => match M.get t with
        | some ob => bif Nat.beq ob.sz (T.row e).sz && Nat.beq ob.e e then
            (match kilApp ob.c (T.row e).sz off len src with
            | some c => some (.and p (.and (eqnO ver ob.ver) (.le ((T.row e).bs * (len + src.n)) 140737488355328)), .sl t ver 0 (len + src.n), t, { ob with c := c })
            | none => match kilNew ob.c (T.row e).sz off len src with
            | some c => some (.and p (.and (eqnO ver ob.ver) (.le ((T.row e).bs * (len + src.n)) 140737488355328)), .sl nm 0 0 (len + src.n), nm, ⟨e, (T.row e).sz, 0, c⟩)
            | none => match appCon ob.c len src with
            | some c => some (.and p (.and (eqnO ver ob.ver) (.and (eqnO off 0) (.le ((T.row e).bs * (len + src.n)) 140737488355328))), .sl t (ver + 1) 0 (len + src.n), t, { ob with ver := ver + 1, c := c })
            | none => none) else none
        | none => none
      | _ => none
    | none => none) else none

theorem aAppend_eq {T : Tab} {nm e : Nat} {s x : V} {M : Mem} : aAppend T nm e s x M = (aAppendD T nm e s x M).map fun q => (q.1, q.2.1, M.put q.2.2.1 q.2.2.2) := by
  unfold aAppend aAppendD
  cases hk : (knownT (T.row e) && Nat.blt 0 (T.row e).sz && Nat.blt 0 (T.row e).bs) with
  | false => rfl
  | true =>
    simp only [cond_true]
    cases hs : srcV M (T.row e).sz (isI64T (T.row e)) x with
    | none => rfl
    | some q =>
      obtain ⟨p0, src⟩ := q
      cases s with
      | emp => rfl
      | sl t ver off len =>
        simp only
        cases hg : M.get t with
        | none => rfl
        | some ob =>
          simp only
          cases hb : (Nat.beq ob.sz (T.row e).sz && Nat.beq ob.e e) with
          | false => rfl
          | true =>
            simp only [cond_true]
            cases hk2 : kilApp ob.c (T.row e).sz off len src with
            | some c => rfl
            | none =>
              simp only
              cases hk3 : kilNew ob.c (T.row e).sz off len src with
              | some c => rfl
              | none =>
                simp only
                cases hc : appCon ob.c len src <;> rfl
      | _ => rfl

theorem aAppendD_mono {T : Tab} {M M' : Mem} (hM : M.le M') {nm e : Nat} {s x : V} {q : Obl × V × Nat × Ob} (h : aAppendD T nm e s x M = some q) :
    aAppendD T nm e s x M' = some q ∧ (q.2.2.1 = nm ∨ (M.get q.2.2.1 ≠ none ∧ ∃ ver off len, s = .sl q.2.2.1 ver off len)) ∧ (∃ ver len, q.2.1 = .sl q.2.2.1 ver 0 len) := by
  unfold aAppendD at h ⊢
  cases hk : (knownT (T.row e) && Nat.blt 0 (T.row e).sz && Nat.blt 0 (T.row e).bs) with
  | false => rw [hk] at h; cases h
  | true =>
    rw [hk] at h
    simp only [cond_true] at h ⊢
    cases hs : srcV M (T.row e).sz (isI64T (T.row e)) x with
    | none => rw [hs] at h; cases h
    | some q0 =>
      obtain ⟨p0, src⟩ := q0
      rw [hs] at h
      rw [srcV_mono hM hs]
      simp only at h ⊢
      cases s with
      | emp =>
        simp only [Option.some.injEq] at h ⊢
        subst h
        exact ⟨rfl, .inl rfl, _, _, rfl⟩
      | sl t ver off len =>
        simp only at h ⊢
        cases hg : M.get t with
        | none => rw [hg] at h; cases h
        | some ob =>
          rw [hg] at h
          rw [hM t ob hg]
          simp only at h ⊢
          cases hb : (Nat.beq ob.sz (T.row e).sz && Nat.beq ob.e e) with
          | false => rw [hb] at h; cases h
          | true =>
            rw [hb] at h
            simp only [cond_true] at h ⊢
            cases hk2 : kilApp ob.c (T.row e).sz off len src with
            | some c =>
              rw [hk2] at h
              simp only [Option.some.injEq] at h ⊢
              subst h
              exact ⟨rfl, .inr ⟨(by rw [hg]; exact fun h => nomatch h), ver, off, len, rfl⟩, _, _, rfl⟩
            | none =>
              rw [hk2] at h
              simp only at h ⊢
              cases hk3 : kilNew ob.c (T.row e).sz off len src with
              | some c =>
                rw [hk3] at h
                simp only [Option.some.injEq] at h ⊢
                subst h
                exact ⟨rfl, .inl rfl, _, _, rfl⟩
              | none =>
                rw [hk3] at h
                simp only at h ⊢
                cases hc : appCon ob.c len src with
                | none => rw [hc] at h; cases h
                | some c =>
                  rw [hc] at h
                  simp only [Option.some.injEq] at h ⊢
                  subst h
                  exact ⟨rfl, .inr ⟨(by rw [hg]; exact fun h => nomatch h), ver, off, len, rfl⟩, _, _, rfl⟩
      | _ => cases h

theorem aAppend_all {T : Tab} {M M2 : Mem} {nm e : Nat} {s x v : V} {p : Obl} (h : aAppend T nm e s x M = some (p, v, M2)) :
    ∃ n ob, M2 = M.put n ob ∧ (∀ M', M.le M' → aAppend T nm e s x M' = some (p, v, M'.put n ob)) ∧ (n = nm ∨ (M.get n ≠ none ∧ ∃ ver off len, s = .sl n ver off len)) ∧ (∃ ver len, v = .sl n ver 0 len) := by
  rw [aAppend_eq] at h
  cases hq : aAppendD T nm e s x M with
  | none => rw [hq] at h; cases h
  | some q =>
    rw [hq] at h
    simp only [Option.map_some, Option.some.injEq, Prod.mk.injEq] at h
    obtain ⟨rfl, rfl, rfl⟩ := h
    refine ⟨q.2.2.1, q.2.2.2, rfl, fun M' hM => ?_, (aAppendD_mono (fun _ _ h => h) hq).2.1, (aAppendD_mono (fun _ _ h => h) hq).2.2⟩
    rw [aAppend_eq, (aAppendD_mono hM hq).1]
    rfl

theorem aCopy_all {T : Tab} {M M2 : Mem} {e : Nat} {s x v : V} {p : Obl} (h : aCopy T e s x M = some (p, v, M2)) :
    ∃ n ob, M2 = M.put n ob ∧ (∀ M', M.le M' → aCopy T e s x M' = some (p, v, M'.put n ob)) ∧ (M.get n ≠ none ∧ ∃ ver off len, s = .sl n ver off len) := by
  unfold aCopy at h
  cases hk : (knownT (T.row e) && Nat.beq (T.row e).sz 1) with
  | false => rw [hk] at h; cases h
  | true =>
    rw [hk] at h
    simp only [cond_true] at h
    cases s with
    | sl t ver off len =>
      simp only at h
      cases hg : M.get t with
      | none => rw [hg] at h; cases h
      | some ob =>
        rw [hg] at h
        simp only at h
        cases hb : Nat.beq ob.sz 1 with
        | false => rw [hb] at h; cases h
        | true =>
          rw [hb] at h
          simp only [cond_true] at h
          split at h
          · next p0 ys hs =>
            split at h
            · next c hc =>
              simp only [Option.some.injEq, Prod.mk.injEq] at h
              obtain ⟨rfl, rfl, rfl⟩ := h
              refine ⟨t, _, rfl, fun M' hM => ?_, (by rw [hg]; exact fun h => nomatch h), ver, off, len, rfl⟩
              unfold aCopy
              rw [hk]
              simp only [cond_true, hM t ob hg, hb, srcV_mono hM hs, hc]
            · cases h
          · cases h
    | _ => cases h

theorem aBuiltin_mono {T : Tab} {M M' M2 : Mem} (hM : M.le M') {b : Builtin} {ts : List TypeId} {xs : List V} {v : V} {p : Obl} (h : aBuiltin T b ts xs M = some (p, v, M2)) : M2 = M ∧ aBuiltin T b ts xs M' = some (p, v, M') := by
  unfold aBuiltin at h ⊢
  split at h
  · next x t =>
    cases hd : (T.row t).d with
    | slice e =>
      rw [hd] at h
      simp only at h ⊢
      cases hl : lenV M x with
      | none => rw [hl] at h; cases h
      | some q =>
        rw [hl] at h
        rw [lenV_mono hM hl]
        simp only [Option.some.injEq, Prod.mk.injEq] at h ⊢
        exact ⟨h.2.2.symm, h.1, h.2.1, trivial⟩
    | string =>
      rw [hd] at h
      simp only at h ⊢
      cases x with
      | lit u =>
        cases u with
        | string s =>
          simp only [Option.some.injEq, Prod.mk.injEq] at h ⊢
          exact ⟨h.2.2.symm, h.1, h.2.1, trivial⟩
        | _ => cases h
      | _ => cases h
    | _ => rw [hd] at h; cases h
  · next nl t =>
    cases hd : (T.row t).d with
    | slice e =>
      rw [hd] at h
      simp only [Option.some.injEq, Prod.mk.injEq] at h ⊢
      exact ⟨h.2.2.symm, h.1, h.2.1, trivial⟩
    | _ => rw [hd] at h; cases h
  · simp only [Option.some.injEq, Prod.mk.injEq] at h ⊢
    exact ⟨h.2.2.symm, h.1, h.2.1, trivial⟩
  · simp only [Option.some.injEq, Prod.mk.injEq] at h ⊢
    exact ⟨h.2.2.symm, h.1, h.2.1, trivial⟩
  · simp only [Option.some.injEq, Prod.mk.injEq] at h ⊢
    exact ⟨h.2.2.symm, h.1, h.2.1, trivial⟩
  · cases h

/-- AN OPERATION OVER MORE MEMORY: the same value, the same patch. -/
theorem aop_mono {T : Tab} {M M2 : Mem} {nm : Nat} {o : Op} {ev : Operand → V} {p : Obl} {v : V} (h : aop T nm o ev M = some (p, v, M2)) :
    ∃ d, M2 = patch M d ∧ (∀ M', (isRd o = true → M.le M') → aop T nm o ev M' = some (p, v, patch M' d)) ∧
      (∀ n ob, d = some (n, ob) → n = nm ∧ isLoud o = false ∨ (isLoud o = true ∧ M.get n ≠ none ∧ ∃ t x y, o = .store t x y ∧ ∃ ver i k, ev x = .ptr n ver i k)) := by
  cases o with
  | move x =>
    simp only [aop, Option.some.injEq, Prod.mk.injEq] at h ⊢
    obtain ⟨rfl, rfl, rfl⟩ := h
    exact ⟨none, rfl, fun M' _ => ⟨rfl, rfl, rfl⟩, fun _ _ h => nomatch h⟩
  | assign x =>
    simp only [aop, Option.some.injEq, Prod.mk.injEq] at h ⊢
    obtain ⟨rfl, rfl, rfl⟩ := h
    exact ⟨none, rfl, fun M' _ => ⟨rfl, rfl, rfl⟩, fun _ _ h => nomatch h⟩
  | pick c a b =>
    simp only [aop] at h ⊢
    split at h
    · simp only [Option.some.injEq, Prod.mk.injEq] at h ⊢
      obtain ⟨rfl, rfl, rfl⟩ := h
      exact ⟨none, rfl, fun M' _ => ⟨rfl, rfl, rfl⟩, fun _ _ h => nomatch h⟩
    · simp only [Option.some.injEq, Prod.mk.injEq] at h ⊢
      obtain ⟨rfl, rfl, rfl⟩ := h
      exact ⟨none, rfl, fun M' _ => ⟨rfl, rfl, rfl⟩, fun _ _ h => nomatch h⟩
    · cases h
  | alloc t =>
    simp only [aop] at h ⊢
    cases hb : (knownT (T.row t) && Nat.blt 0 (T.row t).sz) with
    | false => rw [hb] at h; cases h
    | true =>
      rw [hb] at h
      simp only [cond_true, Option.some.injEq, Prod.mk.injEq] at h ⊢
      obtain ⟨rfl, rfl, rfl⟩ := h
      exact ⟨some (nm, _), rfl, fun M' _ => ⟨rfl, rfl, rfl⟩, fun _ _ h => by cases h; exact .inl ⟨rfl, rfl⟩⟩
  | box t x =>
    simp only [aop] at h ⊢
    split at h
    · next n g _ =>
      cases hb : Nat.blt 0 n with
      | false => rw [hb] at h; cases h
      | true =>
        rw [hb] at h
        simp only [cond_true, Option.some.injEq, Prod.mk.injEq] at h ⊢
        obtain ⟨rfl, rfl, rfl⟩ := h
        exact ⟨some (nm, _), rfl, fun M' _ => ⟨rfl, rfl, rfl⟩, fun _ _ h => by cases h; exact .inl ⟨rfl, rfl⟩⟩
    · cases hb : (ev x).leaf with
      | false => rw [hb] at h; cases h
      | true =>
        rw [hb] at h
        simp only [cond_true, Option.some.injEq, Prod.mk.injEq] at h ⊢
        obtain ⟨rfl, rfl, rfl⟩ := h
        exact ⟨some (nm, _), rfl, fun M' _ => ⟨rfl, rfl, rfl⟩, fun _ _ h => by cases h; exact .inl ⟨rfl, rfl⟩⟩
  | build t parts =>
    simp only [aop] at h ⊢
    cases hd : (T.row t).d with
    | struct fs =>
      rw [hd] at h
      simp only at h ⊢
      cases hb : (fs.all (fun q => knownT (T.row q.1)) && parts.toList.all (fun (i, x) => partOk T fs (T.row t).sz i (ev x))) with
      | false => rw [hb] at h; cases h
      | true =>
        rw [hb] at h
        simp only [cond_true, Option.some.injEq, Prod.mk.injEq] at h ⊢
        obtain ⟨rfl, rfl, rfl⟩ := h
        exact ⟨none, rfl, fun M' _ => ⟨rfl, rfl, rfl⟩, fun _ _ h => nomatch h⟩
    | _ => rw [hd] at h; cases h
  | buildSlice t n parts =>
    simp only [aop] at h ⊢
    cases hd : (T.row t).d with
    | slice e =>
      rw [hd] at h
      simp only at h ⊢
      cases hk : knownT (T.row e) with
      | false => rw [hk] at h; cases h
      | true =>
        rw [hk] at h
        simp only [cond_true] at h ⊢
        cases hb : (Nat.beq n 0 && parts.isEmpty) with
        | true =>
          rw [hb] at h
          simp only [cond_true, Option.some.injEq, Prod.mk.injEq] at h ⊢
          obtain ⟨rfl, rfl, rfl⟩ := h
          exact ⟨none, rfl, fun M' _ => ⟨rfl, rfl, rfl⟩, fun _ _ h => nomatch h⟩
        | false =>
          rw [hb] at h
          simp only [cond_false] at h ⊢
          split at h
          · next x _ =>
            cases hc : Nat.beq n 1 with
            | false => rw [hc] at h; cases h
            | true =>
              rw [hc] at h
              simp only [cond_true] at h ⊢
              split at h
              · next m g _ =>
                cases hq : (Nat.beq m (T.row e).sz && Nat.blt 0 m && Nat.ble m 1000) with
                | false => rw [hq] at h; cases h
                | true =>
                  rw [hq] at h
                  simp only [cond_true, Option.some.injEq, Prod.mk.injEq] at h ⊢
                  obtain ⟨rfl, rfl, rfl⟩ := h
                  exact ⟨some (nm, _), rfl, fun M' _ => ⟨rfl, rfl, rfl⟩, fun _ _ h => by cases h; exact .inl ⟨rfl, rfl⟩⟩
              · cases hq : ((ev x).leaf && Nat.beq (T.row e).sz 1) with
                | false => rw [hq] at h; cases h
                | true =>
                  rw [hq] at h
                  simp only [cond_true, Option.some.injEq, Prod.mk.injEq] at h ⊢
                  obtain ⟨rfl, rfl, rfl⟩ := h
                  exact ⟨some (nm, _), rfl, fun M' _ => ⟨rfl, rfl, rfl⟩, fun _ _ h => by cases h; exact .inl ⟨rfl, rfl⟩⟩
          · cases hq : (Nat.beq (parts.toList.map fun p => ev p.2).length n && Nat.beq (T.row e).sz 1 && Nat.blt 0 n && Nat.ble n 1000 && (parts.toList.map fun p => ev p.2).all V.leaf && (parts.toList.map (·.1) == List.range n)) with
            | false =>
              rw [hq] at h
              simp only [cond_false] at h ⊢
              cases hq2 : (Nat.beq (parts.toList.map fun p => ev p.2).length n && Nat.blt 0 (T.row e).sz && Nat.ble (T.row e).sz 1000 && Nat.blt 0 n && Nat.ble n 1000 && (parts.toList.map fun p => ev p.2).all (V.isAgg (T.row e).sz) && (parts.toList.map (·.1) == List.range n)) with
              | false => rw [hq2] at h; cases h
              | true =>
                rw [hq2] at h
                simp only [cond_true, Option.some.injEq, Prod.mk.injEq] at h ⊢
                obtain ⟨rfl, rfl, rfl⟩ := h
                exact ⟨some (nm, _), rfl, fun M' _ => ⟨rfl, rfl, rfl⟩, fun _ _ h => by cases h; exact .inl ⟨rfl, rfl⟩⟩
            | true =>
              rw [hq] at h
              simp only [cond_true] at h ⊢
              cases hi : (parts.toList.map fun p => ev p.2).all V.isI64 with
              | true =>
                rw [hi] at h
                simp only [cond_true, Option.some.injEq, Prod.mk.injEq] at h ⊢
                obtain ⟨rfl, rfl, rfl⟩ := h
                exact ⟨some (nm, _), rfl, fun M' _ => ⟨rfl, rfl, rfl⟩, fun _ _ h => by cases h; exact .inl ⟨rfl, rfl⟩⟩
              | false =>
                rw [hi] at h
                simp only [cond_false, Option.some.injEq, Prod.mk.injEq] at h ⊢
                obtain ⟨rfl, rfl, rfl⟩ := h
                exact ⟨some (nm, _), rfl, fun M' _ => ⟨rfl, rfl, rfl⟩, fun _ _ h => by cases h; exact .inl ⟨rfl, rfl⟩⟩
    | _ => rw [hd] at h; cases h
  | load t x =>
    simp only [aop] at h ⊢
    cases hl : loadV T M t (ev x) with
    | none => rw [hl] at h; cases h
    | some q =>
      rw [hl] at h
      simp only [Option.some.injEq, Prod.mk.injEq] at h
      obtain ⟨rfl, rfl, rfl⟩ := h
      refine ⟨none, rfl, fun M' hM => ?_, fun _ _ h => nomatch h⟩
      rw [loadV_mono (hM rfl) (p := q.1) (v := q.2) hl]
      rfl
  | store t x y =>
    simp only [aop] at h ⊢
    obtain ⟨n, ver, i, k, ob, hx, hgn, rfl, _⟩ := storeV_mono (M := M) (M' := M) (fun _ _ h => h) h
    refine ⟨some (n, ob), rfl, fun M' hM => ?_, fun n' ob' h' => by cases h'; exact .inr ⟨rfl, hgn, t, x, y, rfl, ver, i, k, hx⟩⟩
    obtain ⟨n', ver', i', k', ob', hx', _, h1, h2⟩ := storeV_mono (hM rfl) h
    rw [hx] at hx'
    cases hx'
    have : ob' = ob := by
      have e1 := Mem.get_put_same M n ob
      rw [h1, Mem.get_put_same] at e1
      cases e1
      rfl
    rw [← this]
    exact h2
  | nilCheck x =>
    simp only [aop] at h ⊢
    split at h
    · next a b c d _ =>
      cases hg : M.get a with
      | none => rw [hg] at h; cases h
      | some ob =>
        rw [hg] at h
        simp only [Option.some.injEq, Prod.mk.injEq] at h
        obtain ⟨rfl, rfl, rfl⟩ := h
        refine ⟨none, rfl, fun M' hM => ?_, fun _ _ h => nomatch h⟩
        rw [hM rfl a ob hg]
        rfl
    · simp only [Option.some.injEq, Prod.mk.injEq] at h ⊢
      obtain ⟨rfl, rfl, rfl⟩ := h
      exact ⟨none, rfl, fun M' _ => ⟨rfl, rfl, rfl⟩, fun _ _ h => nomatch h⟩
    · simp only [Option.some.injEq, Prod.mk.injEq] at h ⊢
      obtain ⟨rfl, rfl, rfl⟩ := h
      exact ⟨none, rfl, fun M' _ => ⟨rfl, rfl, rfl⟩, fun _ _ h => nomatch h⟩
    · simp only [Option.some.injEq, Prod.mk.injEq] at h ⊢
      obtain ⟨rfl, rfl, rfl⟩ := h
      exact ⟨none, rfl, fun M' _ => ⟨rfl, rfl, rfl⟩, fun _ _ h => nomatch h⟩
    · cases h
  | binOp op t x y t2 =>
    simp only [aop] at h ⊢
    cases hnl : isNilC y with
    | true =>
      rw [hnl] at h
      simp only [cond_true] at h ⊢
      cases hb : nilV T op t M (ev x) with
      | none => rw [hb] at h; cases h
      | some q =>
        rw [hb] at h
        simp only [Option.some.injEq, Prod.mk.injEq] at h ⊢
        obtain ⟨rfl, rfl, rfl⟩ := h
        refine ⟨none, rfl, fun M' hM => ?_, fun _ _ h => nomatch h⟩
        rw [nilV_mono (hM (by simp [isRd, hnl])) hb]
        rfl
    | false =>
      rw [hnl] at h
      simp only [cond_false] at h ⊢
      cases hb : binV T op t (ev x) (ev y) with
      | none => rw [hb] at h; cases h
      | some q =>
        rw [hb] at h
        simp only [Option.some.injEq, Prod.mk.injEq] at h ⊢
        obtain ⟨rfl, rfl, rfl⟩ := h
        exact ⟨none, rfl, fun M' _ => ⟨rfl, rfl, rfl⟩, fun _ _ h => nomatch h⟩
  | unOp op t x =>
    simp only [aop] at h ⊢
    split at h
    · simp only [Option.some.injEq, Prod.mk.injEq] at h ⊢
      obtain ⟨rfl, rfl, rfl⟩ := h
      exact ⟨none, rfl, fun M' _ => ⟨rfl, rfl, rfl⟩, fun _ _ h => nomatch h⟩
    · simp only [Option.some.injEq, Prod.mk.injEq] at h ⊢
      obtain ⟨rfl, rfl, rfl⟩ := h
      exact ⟨none, rfl, fun M' _ => ⟨rfl, rfl, rfl⟩, fun _ _ h => nomatch h⟩
    · cases h
  | convert s d x =>
    simp only [aop] at h ⊢
    split at h
    · simp only [Option.some.injEq, Prod.mk.injEq] at h ⊢
      obtain ⟨rfl, rfl, rfl⟩ := h
      exact ⟨none, rfl, fun M' _ => ⟨rfl, rfl, rfl⟩, fun _ _ h => nomatch h⟩
    · simp only [Option.some.injEq, Prod.mk.injEq] at h ⊢
      obtain ⟨rfl, rfl, rfl⟩ := h
      exact ⟨none, rfl, fun M' _ => ⟨rfl, rfl, rfl⟩, fun _ _ h => nomatch h⟩
    · cases h
  | makeFunc fn first captured =>
    cases fn with
    | func f =>
      simp only [aop] at h ⊢
      cases hb : first.isEmpty with
      | false =>
        rw [hb] at h
        simp only [cond_false] at h ⊢
        cases hb2 : captured.isEmpty with
        | false => rw [hb2] at h; cases h
        | true =>
          rw [hb2] at h
          simp only [cond_true, Option.some.injEq, Prod.mk.injEq] at h ⊢
          obtain ⟨rfl, rfl, rfl⟩ := h
          exact ⟨none, rfl, fun M' _ => ⟨rfl, rfl, rfl⟩, fun _ _ h => nomatch h⟩
      | true =>
        rw [hb] at h
        simp only [cond_true, Option.some.injEq, Prod.mk.injEq] at h ⊢
        obtain ⟨rfl, rfl, rfl⟩ := h
        exact ⟨none, rfl, fun M' _ => ⟨rfl, rfl, rfl⟩, fun _ _ h => nomatch h⟩
    | _ => simp [aop] at h
  | makeInterface t x =>
    simp only [aop] at h ⊢
    cases hk : concT (T.row t) with
    | false => rw [hk] at h; cases h
    | true =>
      rw [hk] at h
      simp only [cond_true, Option.some.injEq, Prod.mk.injEq] at h ⊢
      obtain ⟨rfl, rfl, rfl⟩ := h
      exact ⟨none, rfl, fun M' _ => ⟨rfl, rfl, rfl⟩, fun _ _ h => nomatch h⟩
  | makeSlice t l c =>
    simp only [aop] at h ⊢
    split at h
    · next e _ l' _ c' _ _ _ =>
      cases hb : (knownT (T.row e) && Nat.blt 0 (T.row e).sz && Nat.blt 0 (T.row e).bs) with
      | false => rw [hb] at h; cases h
      | true =>
        rw [hb] at h
        simp only [cond_true, Option.some.injEq, Prod.mk.injEq] at h ⊢
        obtain ⟨rfl, rfl, rfl⟩ := h
        exact ⟨some (nm, _), rfl, fun M' _ => ⟨rfl, rfl, rfl⟩, fun _ _ h => by cases h; exact .inl ⟨rfl, rfl⟩⟩
    · cases h
  | slice t x lo hi mx =>
    simp only [aop] at h ⊢
    split at h
    · next e lo' hi' _ _ _ =>
      cases hk : knownT (T.row e) with
      | false => rw [hk] at h; cases h
      | true =>
        rw [hk] at h
        simp only [cond_true] at h ⊢
        cases hs : sliceV M (T.row e).sz (ev x) lo' hi' with
        | none => rw [hs] at h; cases h
        | some q =>
          rw [hs] at h
          simp only [Option.some.injEq, Prod.mk.injEq] at h
          obtain ⟨rfl, rfl, rfl⟩ := h
          refine ⟨none, rfl, fun M' hM => ?_, fun _ _ h => nomatch h⟩
          rw [sliceV_mono (hM rfl) hs]
          rfl
    · next e y hi' _ _ _ =>
      cases hk : (knownT (T.row e) && Nat.beq (T.row e).sz 1) with
      | false => rw [hk] at h; cases h
      | true =>
        rw [hk] at h
        simp only [cond_true] at h ⊢
        split at h
        · simp only [Option.some.injEq, Prod.mk.injEq] at h
          obtain ⟨rfl, rfl, rfl⟩ := h
          exact ⟨none, rfl, fun M' _ => rfl, fun _ _ h => nomatch h⟩
        · cases h
    · next n e lo' hi' _ _ _ =>
      cases hk : (knownT (T.row e) && Nat.beq (T.row e).sz 1) with
      | false => rw [hk] at h; cases h
      | true =>
        rw [hk] at h
        simp only [cond_true] at h ⊢
        split at h
        · next sz g o _ =>
          cases hc : (Nat.beq sz n && Nat.beq o 0 && Nat.ble n 1000 && (List.range n).all (fun k => (g k).isI64)) with
          | false => rw [hc] at h; cases h
          | true =>
            rw [hc] at h
            simp only [cond_true, Option.some.injEq, Prod.mk.injEq] at h
            obtain ⟨rfl, rfl, rfl⟩ := h
            exact ⟨none, rfl, fun M' _ => by first | rfl | (simp only [cond_true]; rfl), fun _ _ h => nomatch h⟩
        · cases h
    · cases h
  | fieldAddr s x f =>
    simp only [aop] at h ⊢
    cases hd : (T.row s).d with
    | struct fs =>
      rw [hd] at h
      simp only at h ⊢
      cases hb : (Nat.blt f fs.length && knownT (T.row (fs.getD f (0, 0)).1) && Nat.blt 0 (T.row (fs.getD f (0, 0)).1).sz) with
      | false => rw [hb] at h; cases h
      | true =>
        rw [hb] at h
        simp only [cond_true] at h ⊢
        split at h
        · next n ver i o _ =>
          cases hg : M.get n with
          | none => rw [hg] at h; cases h
          | some ob =>
            rw [hg] at h
            simp only [Option.some.injEq, Prod.mk.injEq] at h
            obtain ⟨rfl, rfl, rfl⟩ := h
            refine ⟨none, rfl, fun M' hM => ?_, fun _ _ h => nomatch h⟩
            rw [hM rfl n ob hg]
            rfl
        · simp only [Option.some.injEq, Prod.mk.injEq] at h ⊢
          obtain ⟨rfl, rfl, rfl⟩ := h
          exact ⟨none, rfl, fun M' _ => ⟨rfl, rfl, rfl⟩, fun _ _ h => nomatch h⟩
        · cases h
    | _ => rw [hd] at h; cases h
  | field t x f =>
    simp only [aop] at h ⊢
    split at h
    · next fs n g _ _ =>
      cases hb : (Nat.blt f fs.length && knownT (T.row (fs.getD f (0, 0)).1) && Nat.ble ((fs.getD f (0, 0)).2 + (T.row (fs.getD f (0, 0)).1).sz) n) with
      | false => rw [hb] at h; cases h
      | true =>
        rw [hb] at h
        simp only [cond_true] at h ⊢
        cases ha : isAggT (T.row (fs.getD f (0, 0)).1) with
        | true =>
          rw [ha] at h
          simp only [cond_true, Option.some.injEq, Prod.mk.injEq] at h ⊢
          obtain ⟨rfl, rfl, rfl⟩ := h
          exact ⟨none, rfl, fun M' _ => ⟨rfl, rfl, rfl⟩, fun _ _ h => nomatch h⟩
        | false =>
          rw [ha] at h
          simp only [cond_false] at h ⊢
          cases hz : Nat.beq (T.row (fs.getD f (0, 0)).1).sz 1 with
          | false => rw [hz] at h; cases h
          | true =>
            rw [hz] at h
            simp only [cond_true, Option.some.injEq, Prod.mk.injEq] at h ⊢
            obtain ⟨rfl, rfl, rfl⟩ := h
            exact ⟨none, rfl, fun M' _ => ⟨rfl, rfl, rfl⟩, fun _ _ h => nomatch h⟩
    · cases h
  | indexAddr t x i =>
    simp only [aop] at h ⊢
    split at h
    · next k n _ =>
      cases hs : indexV T M t (ev x) n with
      | none => rw [hs] at h; cases h
      | some q =>
        rw [hs] at h
        simp only [Option.some.injEq, Prod.mk.injEq] at h
        obtain ⟨rfl, rfl, rfl⟩ := h
        refine ⟨none, rfl, fun M' hM => ?_, fun _ _ h => nomatch h⟩
        rw [indexV_mono (hM rfl) hs]
        rfl
    · cases h
  | index t x i =>
    simp only [aop] at h ⊢
    split at h
    · simp only [Option.some.injEq, Prod.mk.injEq] at h
      obtain ⟨rfl, rfl, rfl⟩ := h
      exact ⟨none, rfl, fun M' _ => rfl, fun _ _ h => nomatch h⟩
    · cases h
  | extract x i =>
    simp only [aop] at h ⊢
    split at h
    · next n g _ =>
      cases hb : Nat.blt i n with
      | false => rw [hb] at h; cases h
      | true =>
        rw [hb] at h
        simp only [cond_true, Option.some.injEq, Prod.mk.injEq] at h ⊢
        obtain ⟨rfl, rfl, rfl⟩ := h
        exact ⟨none, rfl, fun M' _ => ⟨rfl, rfl, rfl⟩, fun _ _ h => nomatch h⟩
    · cases h
  | _ => simp [aop] at h

end Go.Tri
