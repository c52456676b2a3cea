/-
  CALLS THAT MAKE MEMORY ALONE; what is handed over as it is from then on.
-/
import Derived.Test.YtciefpkelgjboaaA29
namespace Go.Tri
open Go.RowKit

theorem notLive_sub {φ φ' : Phi} (hs : ∀ t r, φ t = some r → φ' t = some r) {b : Nat} (h : notLive φ' b) : notLive φ b := fun t r ht hp => h t r (hs t r ht) hp

/-- What holds over more names holds over those that it tells of. -/
theorem Rep_sub {φ φ' : Phi} {base : Nat} {w w' : World} (hs : ∀ t r, φ t = some r → φ' t = some r) : ∀ {x : V} {v v' : Value}, Rep φ base w x v → Rep φ' base w' x v' → Rep φ base w' x v' := by
  have name : ∀ {t : Nat} {r r' : Row}, φ t = some r → φ' t = some r' → r' = r := fun h h' => by rw [hs _ _ h] at h'; exact (Option.some.inj h').symm
  intro x
  induction x with
  | lit u => exact fun _ h => h
  | ints fr xs =>
    rintro v v' _ ⟨A, cap, rfl, h1, h2, h3⟩
    refine ⟨A, cap, rfl, h1, h2, fun hn => ?_⟩
    obtain ⟨b, off, rfl, g1, g2, g3⟩ := h3 hn
    exact ⟨b, off, rfl, notLive_sub hs g1, g2, g3⟩
  | full xs =>
    rintro v v' _ ⟨A, rfl, h1, h3⟩
    refine ⟨A, rfl, h1, fun hn => ?_⟩
    obtain ⟨b, off, rfl, g1, g3⟩ := h3 hn
    exact ⟨b, off, rfl, notLive_sub hs g1, g3⟩
  | seq fr sz n f ih =>
    rintro v v' ⟨_, _, _, _, _, _, k4⟩ ⟨A, cap, rfl, h1, h2, h3, h4⟩
    refine ⟨A, cap, rfl, h1, h2, h3, fun hn => ?_⟩
    obtain ⟨b, off, rfl, g1, g2, g3⟩ := h4 hn
    obtain ⟨_, _, _, _, _, q3⟩ := k4 hn
    refine ⟨b, off, rfl, notLive_sub hs g1, g2, fun j o hj ho => ?_⟩
    obtain ⟨c, e1, e2, e3⟩ := g3 j o hj ho
    obtain ⟨c', _, _, f3⟩ := q3 j o hj ho
    exact ⟨c, e1, e2, ih j o f3 e3⟩
  | sl t ver off len =>
    rintro v v' ⟨r, hr, _⟩ ⟨r', hr', h⟩
    obtain rfl := name hr hr'
    exact ⟨_, hr, h⟩
  | ptr t ver i o =>
    rintro v v' ⟨r, hr, _⟩ ⟨r', hr', h⟩
    obtain rfl := name hr hr'
    exact ⟨_, hr, h⟩
  | yld t =>
    rintro v v' ⟨r, hr, _⟩ ⟨r', hr', h⟩
    obtain rfl := name hr hr'
    exact ⟨_, hr, h⟩
  | at_ sz g o ih =>
    rintro v v' ⟨_, _, _, _, _, k⟩ ⟨b, off, rfl, h0, h1, h2⟩
    refine ⟨b, off, rfl, h0, notLive_sub hs h1, fun j hj => ?_⟩
    obtain ⟨c, e1, e2, e3⟩ := h2 j hj
    obtain ⟨_, _, _, f3⟩ := k j hj
    exact ⟨c, e1, e2, ih j f3 e3⟩
  | agg n g ih =>
    rintro v v' ⟨_, _, _, k⟩ ⟨cs, rfl, h1, h2⟩
    exact ⟨cs, rfl, h1, fun i hi => by obtain ⟨c, e1, e2, e3⟩ := h2 i hi; obtain ⟨_, _, _, f3⟩ := k i hi; exact ⟨c, e1, e2, ih i f3 e3⟩⟩
  | tup n g ih =>
    rintro v v' ⟨_, _, _, k⟩ ⟨cs, rfl, h1, h2⟩
    exact ⟨cs, rfl, h1, fun i hi => by obtain ⟨c, e1, e3⟩ := h2 i hi; obtain ⟨_, _, f3⟩ := k i hi; exact ⟨c, e1, ih i f3 e3⟩⟩
  | clo f n g ih =>
    rintro v v' ⟨_, _, _, k⟩ ⟨cs, rfl, h1, h2⟩
    exact ⟨cs, rfl, h1, fun i hi => by obtain ⟨c, e1, e3⟩ := h2 i hi; obtain ⟨_, _, f3⟩ := k i hi; exact ⟨c, e1, ih i f3 e3⟩⟩
  | bnd f n g ih =>
    rintro v v' ⟨_, _, _, k⟩ ⟨cs, rfl, h1, h2⟩
    exact ⟨cs, rfl, h1, fun i hi => by obtain ⟨c, e1, e3⟩ := h2 i hi; obtain ⟨_, _, f3⟩ := k i hi; exact ⟨c, e1, ih i f3 e3⟩⟩
  | emp nl => exact fun _ h => h
  | any => exact fun _ _ => trivial
  | ifc ty x ih =>
    rintro v v' ⟨u, _, k⟩ ⟨u', rfl, h⟩
    exact ⟨u', rfl, ih k h⟩

theorem ORel_sub {φ φ' : Phi} {base : Nat} {w w' : World} (hs : ∀ t r, φ t = some r → φ' t = some r) {r : Row} {o : Ob} (h : ORel φ base w r o) (h' : ORel φ' base w' r o) : ORel φ base w' r o := by
  refine ⟨h'.n, h'.ver, h'.sz, h'.e, h'.pos, h'.le, h'.max, h'.dom, ?_, fun hC hp => ?_⟩
  · have s := h.spec
    have s' := h'.spec
    cases hc : o.c with
    | loop st pend e nt ps as bd inf =>
      rw [hc] at s s'
      obtain ⟨_, _, L0, l0⟩ := s
      obtain ⟨k1, k2, L, g1, g2, g3, g4, g5, g6, g7, g8⟩ := s'
      exact ⟨k1, k2, L, g1, g2, g3, g4, g5, g6, g7, fun i => Rep_sub hs (l0.slots i) (g8 i)⟩
    | kil => rw [hc] at s'; exact s'
    | _ => exact trivial
  · obtain ⟨cur, e1, e2, e3⟩ := h'.row hC hp
    obtain ⟨_, _, _, d3⟩ := h.row hC hp
    refine ⟨cur, e1, e2, fun j k hj hk => ?_⟩
    obtain ⟨c, f1, f2, f3⟩ := e3 j k hj hk
    obtain ⟨_, _, _, g3⟩ := d3 j k hj hk
    exact ⟨c, f1, f2, Rep_sub hs g3 f3⟩

/-- A call that leaves all names as they were, over any memory. -/
theorem AImm_of {P : Program} {f : FuncId} {xs : List V} {R0 : V} (hR : ∀ kp, Named kp R0) (h : ∀ M, ACM P f xs M (fun R M' => R = R0 ∧ ∀ t, t < M.length → M'.get t = M.get t)) : AImm P f xs (fun R => R = R0) := by
  have h0 := h []
  unfold ACM at h0
  unfold AImm
  refine ⟨h0.1, fun nb base φ w M args hm hs ha => ?_⟩
  have h1 := h M
  unfold ACM at h1
  refine (h1.2 nb base φ w args (fun _ h => nomatch h) hm hs ha).mono ?_
  rintro e w' ⟨v, R, M', φ', rfl, ⟨rfl, hM⟩, hm', hr, hev⟩
  have hsub : ∀ t r, φ t = some r → φ' t = some r := by
    intro t r ht
    obtain ⟨o, ho, hrel⟩ := hm.obj t r ht
    obtain ⟨r', h2, _, _, _, h5⟩ := hev.names t r ht
    obtain ⟨o', ho', hrel'⟩ := hm'.obj t r' h2
    rw [hM t (get_lt ho), ho] at ho'
    cases ho'
    rw [h5 (by rw [← hrel'.ver, hrel.ver])] at h2
    exact h2
  have hrs : restr (fun t => (φ t).isSome) φ' = φ := by
    funext t
    unfold restr
    cases ht : φ t with
    | none => simp [ht]
    | some r => simp only [ht, Option.isSome_some, if_true]; exact hsub t r ht
  refine ⟨v, R, rfl, rfl, ⟨fun t r ht => ?_, fun t t' r r' ht ht' hp hp' hg => hm.inj t t' r r' ht ht' hp hp' hg, fun t r ht hb hp => hm.own t r ht hb hp, Nat.le_trans hm.le hev.size⟩, ?_, ?_⟩
  · obtain ⟨o, ho, hrel⟩ := hm.obj t r ht
    obtain ⟨o', ho', hrel'⟩ := hm'.obj t r (hsub t r ht)
    rw [hM t (get_lt ho), ho] at ho'
    cases ho'
    exact ⟨o, ho, ORel_sub hsub hrel hrel'⟩
  · have := Rep_restr (kp := fun t => (φ t).isSome) (hR _) hr
    rwa [hrs] at this
  · have := hev.restr (kp := fun t => (φ t).isSome) (fun t r ht => by simp [ht])
    rwa [hrs] at this

theorem AImm.acm {P : Program} {f : FuncId} {xs : List V} {Q : V → Prop} {M : Mem} {nb0 : Option Nat} (h : AImm P f xs Q) : ACM P f xs M (fun R M' => Q R ∧ M' = M) nb0 := by
  unfold AImm at h
  unfold ACM
  refine ⟨h.1, fun nb base φ w args _ hm hs ha => (h.2 nb base φ w M args hm hs ha).mono ?_⟩
  rintro e w' ⟨v, R, he, hq, h1, h2, h3⟩
  exact ⟨v, R, M, φ, he, ⟨hq, rfl⟩, h1, h2, h3⟩
/-- .. and goes on with what it hands back. -/
theorem AImm.to {P : Program} {f : FuncId} {xs : List V} {r : V} {M : Mem} {Q : V → Mem → Prop} {nb0 : Option Nat} (h : AImm P f xs (fun R => R = r)) (hq : Q r M) : ACM P f xs M Q nb0 :=
  (h.acm (nb0 := nb0)).mono fun R M' hR => by obtain ⟨rfl, rfl⟩ := hR; exact hq

theorem AImm.arg1 {P : Program} {f : FuncId} {x y : V} {Q : V → Prop} (h : Sub x y) (hy : AImm P f [y] Q) : AImm P f [x] Q :=
  AImm.args (xs := [x]) (ys := [y]) rfl (fun i => match i with
    | 0 => h
    | _ + 1 => Sub.refl _) hy
theorem AImm.arg2 {P : Program} {f : FuncId} {x y x' y' : V} {Q : V → Prop} (h : Sub x y) (h' : Sub x' y') (hy : AImm P f [y, y'] Q) : AImm P f [x, x'] Q :=
  AImm.args (xs := [x, x']) (ys := [y, y']) rfl (fun i => match i with
    | 0 => h
    | 1 => h'
    | _ + 2 => Sub.refl _) hy

/-- An object that is handed over whole, and that nobody writes to from then on. -/
theorem ACM_freeze {P : Program} {f : FuncId} {xs : List V} {M : Mem} {Q : V → Mem → Prop} {nb i t ver len : Nat} {e : TypeId} {c : Con} {ys : List Int} (hi : i < xs.length) (hx : xs.getD i .any = .sl t ver 0 len) (hM : M.get t = some ⟨e, 1, ver, c⟩)
    (hc : c = .il ys ∨ c = .kil ys) (hl : len = ys.length) (hn : nb ≤ t) (h : ACM P f (xs.set i (.ints true ys)) (M.put t ⟨e, 1, ver + 1, .il []⟩) Q (some nb)) : ACM P f xs M Q (some nb) := by
  unfold ACM at h ⊢
  refine ⟨h.1, fun nb' base φ w args hnb hm hs ha => ?_⟩
  obtain rfl := hnb nb rfl
  have hai := ha i
  rw [hx] at hai
  obtain ⟨r, hr, _, _, hv⟩ := hai
  obtain ⟨o, ho, hrel⟩ := hm.obj t r hr
  rw [hM] at ho
  cases ho
  have hver : ver = r.ver := hrel.ver
  obtain ⟨v1, A, hv2, v3⟩ := hv hver.symm
  have hcn : c.n = ys.length := by rcases hc with rfl | rfl <;> rfl
  have hrn : r.n = ys.length := by rw [← hcn]; exact hrel.n.symm
  have hrs : r.sz = 1 := hrel.sz.symm
  have hcf : ∀ j, c.f j 0 = .int (ys.getD j 0) := fun j => by rcases hc with rfl | rfl <;> rfl
  obtain ⟨φ1, hφ1⟩ : ∃ φ1 : Phi, φ1 = φ.upd t ⟨r.g, 0, 0, r.sz, r.e, ver + 1⟩ := ⟨_, rfl⟩
  have p1 : φ1 t = some ⟨r.g, 0, 0, r.sz, r.e, ver + 1⟩ := by rw [hφ1]; exact Phi.upd_same _ _ _
  have p2 : ∀ s, s ≠ t → φ1 s = φ s := fun s h => by rw [hφ1]; exact Phi.upd_other _ _ h
  have hlive : ∀ s r', φ1 s = some r' → 0 < r'.cap → s ≠ t ∧ φ s = some r' := by
    intro s r' h1 h2
    by_cases he : s = t
    · subst he; rw [p1] at h1; cases h1; exact absurd h2 (Nat.lt_irrefl 0)
    · exact ⟨he, by rw [← p2 s he]; exact h1⟩
  have hevo : Evo w φ w φ1 := by
    refine ⟨rfl, rfl, rfl, Nat.le_refl _, fun _ _ _ => rfl, fun s r' h1 h2 _ hnl => hnl s r' (hlive s r' h1 h2).2 h2 rfl, fun s r' h1 => ?_⟩
    by_cases he : s = t
    · subst he
      rw [hr] at h1
      cases h1
      exact ⟨_, p1, rfl, rfl, by show r.ver ≤ ver + 1; omega, fun h => absurd h (by show ver + 1 ≠ r.ver; omega)⟩
    · exact ⟨r', by rw [p2 s he]; exact h1, rfl, rfl, Nat.le_refl _, fun _ => rfl⟩
  have hm1 : MemRel nb' base φ1 w (M.put t ⟨e, 1, ver + 1, .il []⟩) := by
    refine ⟨fun s r' h1 => ?_, fun s s' r' r'' h1 h2 q1 q2 hg => ?_, fun s r' h1 hb hp => ?_, hm.le⟩
    · by_cases he : s = t
      · subst he
        rw [p1] at h1
        cases h1
        refine ⟨_, Mem.get_put_same _ _ _, rfl, rfl, hrs.symm, hrel.e, by show 0 < r.sz; omega, Nat.le_refl _, Nat.zero_le _, fun h => absurd h (Nat.lt_irrefl 0), trivial, fun _ h => absurd h (Nat.lt_irrefl 0)⟩
      · rw [p2 s he] at h1
        obtain ⟨o', g1, g2⟩ := hm.obj s r' h1
        exact ⟨o', by rw [Mem.get_put_other _ he]; exact g1, g2.evo hevo (fun _ => rfl)⟩
    · exact hm.inj s s' r' r'' (hlive s r' h1 q1).2 (hlive s' r'' h2 q2).2 q1 q2 hg
    · exact hm.own s r' (hlive s r' h1 hp).2 hb hp
  have hargs : ∀ j, Rep φ1 base w ((xs.set i (.ints true ys)).getD j .any) (args.getD j undef) := by
    intro j
    by_cases he : j = i
    · subst he
      rw [show (xs.set j (.ints true ys)).getD j .any = .ints true ys from by simp [List.getD, hi]]
      rw [hv2, hl]
      simp only [Nat.sub_zero]
      refine ⟨A, r.cap, rfl, by have := hrel.le; omega, hrel.max, fun hp => ?_⟩
      have hcap : 0 < r.cap := by have := hrel.le; omega
      have hA := v3 hcap
      rw [Nat.zero_mul] at hA
      refine ⟨r.g, 0, hA, fun s r' h1 h2 hg => ?_, fun _ => hm.own t r hr hn hcap, fun k hk => ?_⟩
      · obtain ⟨q1, q2⟩ := hlive s r' h1 h2
        exact q1 (hm.inj s t r' r q2 hr h2 hcap hg)
      · obtain ⟨cv, e1, _, e3⟩ := hrel.cell (j := k) (k := 0) (by omega) (by omega)
        rw [hrs, Nat.mul_one, Nat.add_zero] at e1
        simp only [hcf] at e3
        rw [Nat.zero_add, e1]
        exact congrArg some e3
    · rw [show (xs.set i (.ints true ys)).getD j .any = xs.getD j .any from by simp only [List.getD]; rw [List.getElem?_set_ne (Ne.symm he)]]
      exact Rep.evo hevo (ha j)
  refine (h.2 nb' base φ1 w args (fun k hk => by cases hk; rfl) hm1 (by rw [hs, List.length_set]) hargs).mono ?_
  rintro e' w' ⟨v, R, M', φ', h1, h2, h3, h4, h5⟩
  exact ⟨v, R, M', φ', h1, h2, h3, h4, hevo.trans h5⟩

/-- An empty slice of any kind, as a list. -/
theorem sub_emp (nl fr : Bool) : Sub (.emp nl) (.ints fr []) := by
  rintro φ base w v ⟨A, rfl, _⟩
  exact ⟨A, 0, rfl, Nat.le_refl _, Nat.zero_le _, fun h => absurd h (by simp)⟩
theorem sub_ints (xs : List Int) : Sub (.ints true xs) (.ints false xs) := by
  rintro φ base w v ⟨A, cap, rfl, h1, h2, h3⟩
  refine ⟨A, cap, rfl, h1, h2, fun hn => ?_⟩
  obtain ⟨b, off, e, g1, _, g3⟩ := h3 hn
  exact ⟨b, off, e, g1, (fun h => nomatch h), g3⟩

theorem put_len (o : Ob) : ∀ M : Mem, (M.put M.length o).length = M.length + 1
  | [] => rfl
  | x :: r => by simp only [List.length_cons, Mem.put]; rw [put_len o r]
/-- Two new objects, over any memory: the first one, and what was there. -/
theorem get_new2 {M : Mem} {o o2 : Ob} : ((M.put M.length o).put (M.put M.length o).length o2).get M.length = some o := by
  rw [Mem.get_put_other _ (by rw [put_len]; omega), Mem.get_put_same]
/-! Over a memory that is not known: a store to an object that is; a struct that is returned. -/
def storeC (T : Tab) (ob : Ob) (t : TypeId) (ver i o : Nat) (x : V) : Option (Obl × Ob) := bif knownT (T.row t) then
    (bif isAggT (T.row t) then (match x with
      | .agg m g => bif isArrT (T.row t) && ob.c.isCv then (bif Nat.beq m (T.row t).sz then some (ldaO ver ob.ver (o + m) ob.sz, { ob with c := setArr ob.c ob.sz i o m g }) else none)
        else bif Nat.beq m (T.row t).sz && Nat.ble (o + m) ob.sz then (match storeCellsV ob.c ob.sz i o g m with
        | some c' => some (eqnO ver ob.ver, { ob with c := c' })
        | none => none) else none
      | _ => none)
    else bif Nat.beq (T.row t).sz 1 then (match ob.c.set ob.sz i o x with
      | some c' => some (ldO ver ob.ver o ob.sz, { ob with c := c' })
      | none => none) else none) else none
theorem aop_storeC {T : Tab} {nm : Nat} {t : TypeId} {x y : Operand} {ev : Operand → V} {M : Mem} {n ver i o : Nat} {ob ob' : Ob} {p : Obl} (hx : ev x = .ptr n ver i o) (hM : M.get n = some ob) (h : storeC T ob t ver i o (ev y) = some (p, ob')) :
    aop T nm (.store t x y) ev M = some (p, .any, M.put n ob') := by
  unfold storeC at h
  simp only [aop, hx, storeV, hM]
  cases hk : knownT (T.row t) with
  | false => rw [hk] at h; cases h
  | true =>
    rw [hk] at h
    simp only [cond_true] at h ⊢
    cases ha : isAggT (T.row t) with
    | true =>
      rw [ha] at h
      simp only [cond_true] at h ⊢
      cases hy : ev y with
      | agg m g =>
        rw [hy] at h
        simp only at h ⊢
        cases har : (isArrT (T.row t) && ob.c.isCv) with
        | true =>
          rw [har] at h
          simp only [cond_true] at h ⊢
          cases hb : Nat.beq m (T.row t).sz with
          | false => rw [hb] at h; cases h
          | true =>
            rw [hb] at h
            simp only [cond_true, Option.some.injEq, Prod.mk.injEq] at h ⊢
            obtain ⟨rfl, rfl⟩ := h
            exact ⟨rfl, trivial, rfl⟩
        | false =>
        rw [har] at h
        simp only [cond_false] at h ⊢
        cases hb : (Nat.beq m (T.row t).sz && Nat.ble (o + m) ob.sz) with
        | false => rw [hb] at h; cases h
        | true =>
          rw [hb] at h
          simp only [cond_true] at h ⊢
          cases hs : storeCellsV ob.c ob.sz i o g m with
          | none => rw [hs] at h; cases h
          | some c' =>
            rw [hs] at h
            simp only [Option.some.injEq, Prod.mk.injEq] at h
            obtain ⟨rfl, rfl⟩ := h
            rfl
      | _ => rw [hy] at h; cases h
    | false =>
      rw [ha] at h
      simp only [cond_false] at h ⊢
      cases hb : Nat.beq (T.row t).sz 1 with
      | false => rw [hb] at h; cases h
      | true =>
        rw [hb] at h
        simp only [cond_true] at h ⊢
        cases hs : ob.c.set ob.sz i o (ev y) with
        | none => rw [hs] at h; cases h
        | some c' =>
          rw [hs] at h
          simp only [Option.some.injEq, Prod.mk.injEq] at h
          obtain ⟨rfl, rfl⟩ := h
          rfl
theorem finM_agg {T : Tab} {a : Tmp} {t : TypeId} {e : Env} {M : Mem} {n ver i o : Nat} {ob : Ob} (he : Env.get e a = .ptr n ver i o) (hM : M.get n = some ob) (h : (knownT (T.row t) && isAggT (T.row t) && Nat.ble (o + (T.row t).sz) ob.sz && Nat.beq ver ob.ver) = true) :
    finM T [.cell a t] e M = some (.agg (T.row t).sz fun k => ob.c.f i (o + k)) := by
  simp only [Bool.and_eq_true] at h
  obtain ⟨⟨⟨h1, h2⟩, h3⟩, h4⟩ := h
  simp only [finM, resM, resV, loadV, h1, cond_true, loadV', he, hM, h2, ldaO, h3, eqnO, h4, Obl.dec]

/-! Steps over the code's make, one by one (where a walk in one go is too much for the kernel). -/
theorem awp_skip {X : Cx} {Q : Exit → Env → Mem → Prop} {e : Env} {M : Mem} (h : Q .normal e M) : awp X .skip Q e M := h
theorem awp_seq {X : Cx} {a b : Code} {Q : Exit → Env → Mem → Prop} {e : Env} {M : Mem} (h : awp X a (seqQ (awp X b Q) Q) e M) : awp X (.seq a b) Q e M := h
theorem awp_block {X : Cx} {id : Nat} {a : Code} {Q : Exit → Env → Mem → Prop} {e : Env} {M : Mem} (h : awp X a (blockQ id Q) e M) : awp X (.block id a) Q e M := h
theorem awp_region {X : Cx} {id : Nat} {ops : Array Oper} {Q : Exit → Env → Mem → Prop} {e : Env} {M : Mem} (hd : ops.toList.all (dstOk X.nt) = true) (h : opsW X ops ops.toList e M (Q .normal)) : awp X (.region id ops false) Q e M := by
  show (bif false then _ else bif ops.toList.all (dstOk X.nt) then opsW X ops ops.toList e M (Q .normal) else False)
  rw [hd]
  exact h
theorem seqQ_n {K : Env → Mem → Prop} {Q : Exit → Env → Mem → Prop} {e : Env} {M : Mem} (h : K e M) : seqQ K Q .normal e M := stepK_in h
theorem blockQ_n {id : Nat} {Q : Exit → Env → Mem → Prop} {e : Env} {M : Mem} (h : Q .normal e M) : blockQ id Q .normal e M := h
end Go.Tri
