/-
  A REGION IN PIECES: some operations are walked, one is taken by a rule of its own: an append onto 'xs[:h:h]' of a named row.
-/
import Derived.Test.YtafibngpgllcfaaA32
namespace Go.Tri
variable {lo : Nat}
open Go.RowKit

section
variable {X : Cx}

/-- What is kept beside the state: the slot d holds the first 'len' elements of the row t, with no more room. -/
abbrev Beside := Option (Nat × Nat × Nat × Nat)
def GF (G : Beside) (φ : Phi) (a : Act) : Prop := match G with
  | none => True
  | some (d, t, ver, len) => ∃ r, φ t = some r ∧ ver ≤ r.ver ∧ (r.ver = ver → len ≤ r.n ∧ ∃ A, a.tmps.getD d undef = .slice A len len ∧ (0 < len → A = some ⟨r.g, 0, none⟩))
def gOk (G : Beside) (o : Oper) : Bool := match G, o.dst with
  | some (d, _), some d' => !Nat.beq d d'
  | _, _ => true

theorem GF.evo {G : Beside} {w w' : World} {φ φ' : Phi} {a : Act} (hv : Evo w φ w' φ') (h : GF G φ a) : GF G φ' a := by
  cases G with
  | none => trivial
  | some q =>
    obtain ⟨d, t, ver, len⟩ := q
    obtain ⟨r, hr, hle, hx⟩ := h
    obtain ⟨r', h1, h2, h3, h4, h5⟩ := hv.names t r hr
    refine ⟨r', h1, Nat.le_trans hle h4, fun he => ?_⟩
    have : r' = r := h5 (by omega)
    subst this
    exact hx he
theorem getD_put {a : Act} {d d' : Nat} {cv : Value} (h : d ≠ d') : (a.put (some d') cv).tmps.getD d undef = a.tmps.getD d undef := by
  simp only [Act.put, Array.getD_eq_getD_getElem?]
  rw [Array.getElem?_setIfInBounds_ne (fun e => h e.symm)]
theorem GF.put {G : Beside} {φ : Phi} {a : Act} {o : Oper} {cv : Value} (ho : gOk G o = true) (h : GF G φ a) : GF G φ (a.put o.dst cv) := by
  cases G with
  | none => trivial
  | some q =>
    obtain ⟨d, t, ver, len⟩ := q
    obtain ⟨r, hr, hle, hx⟩ := h
    refine ⟨r, hr, hle, fun he => ?_⟩
    obtain ⟨h1, A, h2, h3⟩ := hx he
    refine ⟨h1, A, ?_, h3⟩
    cases hd : o.dst with
    | none => exact h2
    | some d' =>
      simp only [gOk, hd] at ho
      rw [getD_put (fun e => by subst e; rw [Nat.beq_refl] at ho; cases ho)]
      exact h2

/-- The operations from k on. -/
@[irreducible] def AWo (X : Cx) (ops : Array Oper) (k : Nat) (G : Beside) (Q : Exit → Env → Mem → Prop) (e : Env) (M : Mem) : Prop :=
  ∀ (ro : Option Nat) (lo base : Nat) (φ : Phi) (w : World) (a : Act), (X.rd = false → ro = none) → St lo X.nt X.nb base φ w M e a → GF G φ a →
    wpOpsIn (FZ ro) 0 X.P ops (Lift lo X base φ w Q) (List.range' k (ops.size - k)) a w

theorem AW_regionO {ops : Array Oper} {id : Nat} {Q : Exit → Env → Mem → Prop} {e : Env} {M : Mem} (h : AWo X ops 0 none Q e M) : AW X.P X.nt X.nb X.rd (.region id ops false) Q e M := by
  rw [AW_def]
  intro ro lo base φ w a hro hst
  refine wpIn_region ?_
  rw [List.range_eq_range']
  unfold AWo at h
  exact h ro lo base φ w a hro hst trivial
theorem AWo_end {ops : Array Oper} {G : Beside} {Q : Exit → Env → Mem → Prop} {e : Env} {M : Mem} (h : Q .normal e M) : AWo X ops ops.size G Q e M := by
  unfold AWo
  intro ro lo base φ w a _ hst _
  rw [Nat.sub_self]
  exact ⟨trivial, e, M, φ, h, hst, Evo.refl w φ⟩

theorem AWo_ops (hT : TabOk X.P X.T) {ops : Array Oper} {G : Beside} {Q : Exit → Env → Mem → Prop} : ∀ (l : List Oper) (k : Nat), (∀ j, j < l.length → l[j]? = ops[k + j]?) → (l.all (dstOk X.nt)) = true → (l.all (gOk G)) = true → ∀ (e : Env) (M : Mem),
    opsW X ops l e M (fun e M => AWo X ops (k + l.length) G Q e M) → AWo X ops k G Q e M := by
  intro l
  induction l with
  | nil => exact fun k _ _ _ e M h => h
  | cons o r ih =>
    intro k hl hd hg e M h
    simp only [List.all_cons, Bool.and_eq_true] at hd hg
    obtain ⟨hd1, hd2⟩ := hd
    obtain ⟨hg1, hg2⟩ := hg
    have ho : ops[k]? = some o := by simpa using (hl 0 (by simp)).symm
    have hk : k < ops.size := (Array.getElem?_eq_some_iff.1 ho).1
    have hl' : ∀ j, j < r.length → r[j]? = ops[(k + 1) + j]? := fun j hj => by have := hl (j + 1) (by simp; omega); simpa [Nat.add_assoc, Nat.add_comm 1 j] using this
    have ih := ih (k + 1) hl' hd2 hg2
    rw [List.length_cons, show k + (r.length + 1) = k + 1 + r.length by omega] at h
    unfold AWo
    intro ro lo base φ w a hro hst hG
    rw [show ops.size - k = (ops.size - (k + 1)) + 1 by omega, List.range'_succ]
    simp only [wpOpsIn, ho]
    have next : ∀ {φ' : Phi} {w' : World} {M' : Mem} {e' : Env} {a' : Act}, St lo X.nt X.nb base φ' w' M' e' a' → GF G φ' a' → opsW X ops r e' M' (fun e M => AWo X ops (k + 1 + r.length) G Q e M) →
        wpOpsIn (FZ ro) 0 X.P ops (Lift lo X base φ' w' Q) (List.range' (k + 1) (ops.size - (k + 1))) a' w' := fun hs hg hh => by
      have := ih _ _ hh
      unfold AWo at this
      exact this ro lo base _ _ _ hro hs hg
    have hnm : φ M.length = none := by
      cases hq : φ M.length with
      | none => rfl
      | some r =>
        obtain ⟨o', h1, _⟩ := hst.mem.obj _ r hq
        simp [Mem.get, List.getD] at h1
    unfold opsW at h
    simp only [forceMo_eq, forceNo_eq] at h
    cases hdst : o.dst with
    | none =>
      rw [hdst] at h
      simp only at h
      obtain ⟨e', hst', hg⟩ := guardW_ok hst h
      rcases hg with ⟨hw, hrun⟩ | ⟨hw, hskip⟩
      · rw [if_pos hw]
        refine Oper.wpIn_mono ?_ (opW_ok hT hst' hnm hrun)
        rintro a' w' ⟨v, M', φ', cv, hK, hm', hr, hv, rfl⟩
        have hG2 := (hG.evo hv).put (cv := cv) hg1
        rw [hdst] at hG2 ⊢
        exact wpOps_mono (fun _ _ _ hq => Lift.evo hv hq) _ _ _ (next (hst'.evo hv hm') hG2 hK)
      · rw [hw]
        simp only [Bool.false_eq_true, if_false]
        exact ⟨fun _ _ => trivial, next hst' hG hskip⟩
    | some d =>
      rw [hdst] at h
      simp only at h
      have hdn : d < X.nt := by simp only [dstOk, hdst] at hd1; simpa using hd1
      obtain ⟨e', hst', hg⟩ := guardW_ok hst h
      rcases hg with ⟨hw, hrun⟩ | ⟨hw, hskip⟩
      · rw [if_pos hw]
        refine Oper.wpIn_mono ?_ (opW_ok hT hst' hnm hrun)
        rintro a' w' ⟨v, M', φ', cv, hK, hm', hr, hv, rfl⟩
        have hG2 := (hG.evo hv).put (cv := cv) hg1
        rw [hdst] at hG2 ⊢
        exact wpOps_mono (fun _ _ _ hq => Lift.evo hv hq) _ _ _ (next (hst'.put' hm' hr hv d hdn) hG2 hK)
      · rw [hw]
        simp only [Bool.false_eq_true, if_false]
        have hG2 := hG.put (cv := undef) hg1
        rw [hdst] at hG2
        exact ⟨fun _ _ => trivial, next (hst'.skip d) hG2 hskip⟩
end

/-- A row of ints with no more room. -/
def FullR (w : World) (ys : List Int) (v : Value) : Prop := ∃ A, v = .slice A ys.length ys.length ∧ ys.length ≤ maxLen ∧ (0 < ys.length → ∃ b off, A = some ⟨b, off, none⟩ ∧ ∀ j, j < ys.length → w.cell? ⟨b, off + j, none⟩ = some (.int .i64 (ys.getD j 0)))
/-- 'append(s, x...)' onto ints of which the room is as long. -/
theorem fullAppR_ok {P : Program} {T : Tab} (hT : TabOk P T) {nb base nm : Nat} {φ : Phi} {w : World} {M : Mem} (hm : MemRel nb base φ w M) {t e ty : TypeId} (hd : (T.row t).d = .slice e) {ys : List Int} {x v : V} {cs cx : Value}
    (hs : FullR w ys cs) (hx : Rep φ base w x cx) {p : Obl} (h : fullApp T e ys x M = some (p, v)) (hp : p.holds) :
    ∃ cv w', (Builtin.append_ #[t, t] ty #[cs, cx]).run P w = .ok cv w' ∧ Step nb base nm φ w v M cv w' φ := by
  obtain ⟨it, z0, hr⟩ := hT.is (t := t) (by rw [hd]; exact fun h => nomatch h)
  have hu := und_slice (hr.d.symm.trans hd)
  unfold fullApp at h
  cases hb : (knownT (T.row e) && Nat.beq (T.row e).sz 1 && Nat.blt 0 (T.row e).bs && isI64T (T.row e)) with
  | false => rw [hb] at h; cases h
  | true =>
    rw [hb] at h
    simp only [cond_true] at h
    simp only [Bool.and_eq_true] at hb
    obtain ⟨⟨⟨hke, hsz⟩, hbs⟩, _⟩ := hb
    have hsz := Nat.eq_of_beq_eq_true hsz
    have hbs : 0 < (T.row e).bs := by simpa using hbs
    obtain ⟨ie, ze, hre⟩ := hT.is (knownT_ne hke)
    have hs1 : ie.size = 1 := by rw [← hre.sz]; exact hsz
    split at h
    · next p0 zs hsrc =>
      simp only [Option.some.injEq, Prod.mk.injEq] at h
      obtain ⟨rfl, rfl⟩ := h
      obtain ⟨hp0, hp1, hp2⟩ := hp
      have hp1 : (0 : Int) < (zs.length : Int) := hp1
      have hp2 : ((T.row e).bs : Int) * ((ys.length : Int) + (zs.length : Int)) ≤ 140737488355328 := hp2
      have hp2' : ((T.row e).bs : Int) * ((ys.length + zs.length : Nat) : Int) ≤ 140737488355328 := by rw [Int.natCast_add]; exact hp2
      obtain ⟨hb1, hb2⟩ := bytes_len (n := ys.length + zs.length) hbs hp2'
      have hmx : maxLen = 9223372036854775807 := maxLen_val
      obtain ⟨B, c, rfl, h1⟩ := (srcV_ok hm hx hsrc hp0).ex
      simp only [Src.n] at h1
      obtain ⟨b, off, rfl, h2⟩ := h1 (by omega)
      obtain ⟨news, q1, q2, q3, q4⟩ := src_list (by omega) h2
      rw [Nat.mul_one] at q1
      obtain ⟨A, rfl, g1, g2⟩ := hs
      obtain ⟨cap', hcap'⟩ : ∃ cap', cap' = grownCap w (ys.length + zs.length) ys.length e := ⟨_, rfl⟩
      have hge : ys.length + zs.length ≤ cap' := by rw [hcap']; exact grownCap_ge w _ _ e
      have hle : cap' ≤ maxLen := by rw [hcap']; exact grownCap_le_maxLen w _ _ e hb2
      have old : ∃ olds : List Value, olds.length = ys.length ∧ (∀ j, j < ys.length → olds[j]? = some (.int .i64 (ys.getD j 0))) ∧
          (Builtin.append_ #[t, t] ty #[.slice A ys.length ys.length, .slice (some ⟨b, off, none⟩) zs.length c]).run P w = .ok (.slice (some ⟨w.heap.size, 0, none⟩) (ys.length + zs.length) cap') (w.drew.alloc (.cells (olds.toArray ++ news.toArray ++ Builtin.zeroCells ze.cells (cap' - (ys.length + zs.length))) e)) := by
        obtain ⟨olds, ho⟩ : ∃ olds, olds = ys.map fun n => Value.int .i64 n := ⟨_, rfl⟩
        have hol : olds.length = ys.length := by rw [ho, List.length_map]
        have hog : ∀ j, j < ys.length → olds[j]? = some (.int .i64 (ys.getD j 0)) := fun j hj => by
          rw [ho, List.getElem?_map]
          simp [List.getD, hj]
        refine ⟨olds, hol, hog, ?_⟩
        cases A with
        | none =>
          have h0 : ys.length = 0 := by
            rcases Nat.eq_zero_or_pos ys.length with h | h
            · exact h
            · obtain ⟨_, _, h3, _⟩ := g2 h; cases h3
          have hy : ys = [] := List.eq_nil_of_length_eq_zero h0
          subst hy
          have hrun := run_append_nil (P := P) w t ty e ie ze hu hre.info hre.zero ⟨b, off, none⟩ zs.length c news (by rw [hs1, Nat.mul_one]; exact q1) q2 (by omega) (by omega) (by rw [← hre.bs]; simp only [List.length_nil, Nat.zero_add] at hb1; omega)
          have he : olds = [] := List.eq_nil_of_length_eq_zero hol
          simp only [List.length_nil, Nat.zero_add] at hcap' ⊢
          rw [he, hcap']
          simpa using hrun
        | some a =>
          have hrun := run_append_grow (P := P) w t ty e ie ze hu hre.info hre.zero a ys.length ys.length olds (by rw [hs1, Nat.mul_one]; exact hol) (fun j u hj => by
            have hjl : j < ys.length := by rw [← hol]; exact (List.getElem?_eq_some_iff.1 hj).1
            obtain ⟨b', off', ea, g3⟩ := g2 (by omega)
            cases ea
            rw [addr_add]
            rw [hog j hjl] at hj
            rw [← hj]
            exact g3 j hjl) ⟨b, off, none⟩ zs.length c news (by rw [hs1, Nat.mul_one]; exact q1) q2 (by omega) (by omega) (growslice_fits (by omega) (by rw [← hre.bs]; exact hb1))
          rw [hcap']
          exact hrun
      obtain ⟨olds, o1, o2, hrun⟩ := old
      obtain ⟨w', hw'⟩ : ∃ w', w' = w.drew.alloc (.cells (olds.toArray ++ news.toArray ++ Builtin.zeroCells ze.cells (cap' - (ys.length + zs.length))) e) := ⟨_, rfl⟩
      have hevo : Evo w φ w' φ := by
        rw [hw']
        exact ⟨rfl, rfl, rfl, by simp, fun b hb _ => heap_alloc_old w.drew _ hb, fun t r ht hp _ hn => hn t r ht hp rfl, fun _ r h => ⟨r, h, rfl, rfl, Nat.le_refl _, fun _ => rfl⟩, (by first | exact Nat.le_refl _ | exact Nat.le_succ _)⟩
      refine ⟨_, w', by rw [hw']; exact hrun, hm.evo hevo (fun t r ht hp => by rw [hw']; exact heap_alloc_old w.drew _ (hm.lt ht hp)), ?_, hevo, fun t r h => .inl ⟨r, h⟩⟩
      have hl : (ys ++ zs).length = ys.length + zs.length := List.length_append
      refine ⟨_, cap', by rw [hl], by rw [hl]; exact hge, hle, fun _ => ⟨w.heap.size, 0, rfl, hm.fresh (Nat.le_refl _), fun _ => hm.le, fun j hj => ?_⟩⟩
      rw [hl] at hj
      have hrow : w'.heap[w.heap.size]? = some (.cells (olds.toArray ++ news.toArray ++ Builtin.zeroCells ze.cells (cap' - (ys.length + zs.length))) e (0, 0)) := by rw [hw']; exact heap_alloc_new w.drew _
      rw [cell_of_row w' w.heap.size (0 + j) _ e (0, 0) hrow, Nat.zero_add, Array.append_assoc]
      by_cases hj1 : j < ys.length
      · rw [Array.getElem?_append_left (by simp; omega)]
        have := o2 j hj1
        simp only [List.getElem?_toArray, this]
        congr 2
        simp [List.getD, List.getElem?_append_left hj1]
      · rw [Array.getElem?_append_right (by simp; omega), Array.getElem?_append_left (by simp; omega)]
        obtain ⟨u, e1, _, e3⟩ := q4 (j - ys.length) 0 (by omega) (by omega)
        rw [Nat.mul_one, Nat.add_zero] at e1
        have e3 : u = .int .i64 (zs.getD (j - ys.length) 0) := e3
        simp only [List.size_toArray, List.getElem?_toArray, o1, e1, e3]
        congr 2
        simp [List.getD, List.getElem?_append_right (show ys.length ≤ j by omega)]
    · cases h


theorem revApp_ok {P : Program} {T : Tab} (hT : TabOk P T) {nb base nm : Nat} {φ : Phi} {w : World} {M : Mem} (hm : MemRel nb base φ w M) (hn : φ nm = none) {t e ty : TypeId} (hd : (T.row t).d = .slice e) {ys : List Int} {x v : V} {cs cx : Value}
    (hs : FullR w ys cs) (hx : Rep φ base w x cx) {p : Obl} (hz0 : isZ64 (T.row e) = true) (h : fullApp T e ys x M = some (p, v)) (hp : p.holds) :
    ∃ (L : List Int) (c : Nat), v = .ints true L ∧ L.length ≤ c ∧ ∃ cv w' φ', (Builtin.append_ #[t, t] ty #[cs, cx]).run P w = .ok cv w' ∧ Step nb base nm φ w (.sl nm 0 0 L.length) (M.put nm ⟨e, 1, 0, .kil (L ++ List.replicate (c - L.length) 0)⟩) cv w' φ' := by
  obtain ⟨it, z0, hr⟩ := hT.is (t := t) (by rw [hd]; exact fun h => nomatch h)
  have hu := und_slice (hr.d.symm.trans hd)
  unfold fullApp at h
  cases hb : (knownT (T.row e) && Nat.beq (T.row e).sz 1 && Nat.blt 0 (T.row e).bs && isI64T (T.row e)) with
  | false => rw [hb] at h; cases h
  | true =>
    rw [hb] at h
    simp only [cond_true] at h
    simp only [Bool.and_eq_true] at hb
    obtain ⟨⟨⟨hke, hsz⟩, hbs⟩, _⟩ := hb
    have hsz := Nat.eq_of_beq_eq_true hsz
    have hbs : 0 < (T.row e).bs := by simpa using hbs
    obtain ⟨ie, ze, hre⟩ := hT.is (knownT_ne hke)
    have hs1 : ie.size = 1 := by rw [← hre.sz]; exact hsz
    split at h
    · next p0 zs hsrc =>
      simp only [Option.some.injEq, Prod.mk.injEq] at h
      obtain ⟨rfl, rfl⟩ := h
      obtain ⟨hp0, hp1, hp2⟩ := hp
      have hp1 : (0 : Int) < (zs.length : Int) := hp1
      have hp2 : ((T.row e).bs : Int) * ((ys.length : Int) + (zs.length : Int)) ≤ 140737488355328 := hp2
      have hp2' : ((T.row e).bs : Int) * ((ys.length + zs.length : Nat) : Int) ≤ 140737488355328 := by rw [Int.natCast_add]; exact hp2
      obtain ⟨hb1, hb2⟩ := bytes_len (n := ys.length + zs.length) hbs hp2'
      have hmx : maxLen = 9223372036854775807 := maxLen_val
      obtain ⟨B, c, rfl, h1⟩ := (srcV_ok hm hx hsrc hp0).ex
      simp only [Src.n] at h1
      obtain ⟨b, off, rfl, h2⟩ := h1 (by omega)
      obtain ⟨news, q1, q2, q3, q4⟩ := src_list (by omega) h2
      rw [Nat.mul_one] at q1
      obtain ⟨A, rfl, g1, g2⟩ := hs
      obtain ⟨cap', hcap'⟩ : ∃ cap', cap' = grownCap w (ys.length + zs.length) ys.length e := ⟨_, rfl⟩
      have hge : ys.length + zs.length ≤ cap' := by rw [hcap']; exact grownCap_ge w _ _ e
      have hle : cap' ≤ maxLen := by rw [hcap']; exact grownCap_le_maxLen w _ _ e hb2
      have old : ∃ olds : List Value, olds.length = ys.length ∧ (∀ j, j < ys.length → olds[j]? = some (.int .i64 (ys.getD j 0))) ∧
          (Builtin.append_ #[t, t] ty #[.slice A ys.length ys.length, .slice (some ⟨b, off, none⟩) zs.length c]).run P w = .ok (.slice (some ⟨w.heap.size, 0, none⟩) (ys.length + zs.length) cap') (w.drew.alloc (.cells (olds.toArray ++ news.toArray ++ Builtin.zeroCells ze.cells (cap' - (ys.length + zs.length))) e)) := by
        obtain ⟨olds, ho⟩ : ∃ olds, olds = ys.map fun n => Value.int .i64 n := ⟨_, rfl⟩
        have hol : olds.length = ys.length := by rw [ho, List.length_map]
        have hog : ∀ j, j < ys.length → olds[j]? = some (.int .i64 (ys.getD j 0)) := fun j hj => by
          rw [ho, List.getElem?_map]
          simp [List.getD, hj]
        refine ⟨olds, hol, hog, ?_⟩
        cases A with
        | none =>
          have h0 : ys.length = 0 := by
            rcases Nat.eq_zero_or_pos ys.length with h | h
            · exact h
            · obtain ⟨_, _, h3, _⟩ := g2 h; cases h3
          have hy : ys = [] := List.eq_nil_of_length_eq_zero h0
          subst hy
          have hrun := run_append_nil (P := P) w t ty e ie ze hu hre.info hre.zero ⟨b, off, none⟩ zs.length c news (by rw [hs1, Nat.mul_one]; exact q1) q2 (by omega) (by omega) (by rw [← hre.bs]; simp only [List.length_nil, Nat.zero_add] at hb1; omega)
          have he : olds = [] := List.eq_nil_of_length_eq_zero hol
          simp only [List.length_nil, Nat.zero_add] at hcap' ⊢
          rw [he, hcap']
          simpa using hrun
        | some a =>
          have hrun := run_append_grow (P := P) w t ty e ie ze hu hre.info hre.zero a ys.length ys.length olds (by rw [hs1, Nat.mul_one]; exact hol) (fun j u hj => by
            have hjl : j < ys.length := by rw [← hol]; exact (List.getElem?_eq_some_iff.1 hj).1
            obtain ⟨b', off', ea, g3⟩ := g2 (by omega)
            cases ea
            rw [addr_add]
            rw [hog j hjl] at hj
            rw [← hj]
            exact g3 j hjl) ⟨b, off, none⟩ zs.length c news (by rw [hs1, Nat.mul_one]; exact q1) q2 (by omega) (by omega) (growslice_fits (by omega) (by rw [← hre.bs]; exact hb1))
          rw [hcap']
          exact hrun
      obtain ⟨olds, o1, o2, hrun⟩ := old
      have hl : (ys ++ zs).length = ys.length + zs.length := List.length_append
      have hzc : ze.cells = #[.int .i64 0] := by
        unfold isZ64 at hz0
        split at hz0
        · next hzz => apply Array.toList_inj.1; rw [← hre.zs, hzz]
        · cases hz0
      have hnl : news.length = zs.length := q1
      have hs := step_row (w' := w.drew.alloc (.cells (olds.toArray ++ news.toArray ++ Builtin.zeroCells ze.cells (cap' - (ys.length + zs.length))) e)) hm (t := nm) (r' := ⟨w.heap.size, cap', cap', 1, e, 0⟩) (o' := ⟨e, 1, 0, .kil (ys ++ zs ++ List.replicate (cap' - (ys ++ zs).length) 0)⟩) (.inl hn) (.inr (.inl (Nat.le_refl _)))
        rfl rfl rfl (by simp) (fun b hb _ => heap_alloc_old w.drew _ hb)
        (fun hev => ⟨by simp [Con.n]; omega, rfl, rfl, rfl, Nat.one_pos, Nat.le_refl _, hle, fun _ => (by have := heap_alloc_new w.drew (.cells (olds.toArray ++ news.toArray ++ Builtin.zeroCells ze.cells (cap' - (ys.length + zs.length))) e); exact (Array.getElem?_eq_some_iff.1 this).1), rfl, fun _ _ => by
          refine ⟨_, heap_alloc_new w.drew _, ?_, fun j k hj hk => ?_⟩
          · rw [Array.size_append, Array.size_append, size_zeroCells, hzc]
            simp only [List.size_toArray]
            rw [o1, hnl]
            simp
            omega
          · have hk : k < 1 := hk
            have hj : j < cap' := hj
            have hk0 : k = 0 := by omega
            subst hk0
            rw [Nat.mul_one, Nat.add_zero, Array.append_assoc]
            by_cases hj1 : j < ys.length
            · refine ⟨.int .i64 (ys.getD j 0), ?_, rfl, ?_⟩
              · rw [Array.getElem?_append_left (by simp; omega)]
                simpa using o2 j hj1
              · show Value.int .i64 (ys.getD j 0) = Value.int .i64 ((ys ++ zs ++ List.replicate (cap' - (ys ++ zs).length) 0).getD j 0)
                simp [List.getD, List.append_assoc, List.getElem?_append_left hj1]
            · by_cases hj2 : j < ys.length + zs.length
              · obtain ⟨u, e1, _, e3⟩ := q4 (j - ys.length) 0 (by omega) (by omega)
                rw [Nat.mul_one, Nat.add_zero] at e1
                have e3 : u = .int .i64 (zs.getD (j - ys.length) 0) := e3
                refine ⟨.int .i64 (zs.getD (j - ys.length) 0), ?_, rfl, ?_⟩
                · rw [Array.getElem?_append_right (by simp; omega), Array.getElem?_append_left (by simp; omega)]
                  simp only [List.size_toArray, List.getElem?_toArray, o1, e1, e3]
                · show Value.int .i64 (zs.getD (j - ys.length) 0) = Value.int .i64 ((ys ++ zs ++ List.replicate (cap' - (ys ++ zs).length) 0).getD j 0)
                  simp [List.getD, List.append_assoc, List.getElem?_append_right (show ys.length ≤ j by omega), List.getElem?_append_left (show j - ys.length < zs.length by omega)]
              · refine ⟨.int .i64 0, ?_, rfl, ?_⟩
                · rw [Array.getElem?_append_right (by simp; omega), Array.getElem?_append_right (by simp; omega)]
                  simp only [List.size_toArray, o1, hnl]
                  exact zeroCells_one _ _ hzc _ _ (by omega)
                · show Value.int .i64 0 = Value.int .i64 ((ys ++ zs ++ List.replicate (cap' - (ys ++ zs).length) 0).getD j 0)
                  simp only [List.getD]
                  rw [List.getElem?_append_right (by rw [hl]; omega), List.getElem?_replicate]
                  split <;> rfl⟩)
      refine ⟨ys ++ zs, cap', rfl, by rw [hl]; exact hge, _, _, _, hrun, hs.1, ?_, hs.2.1, hs.2.2⟩
      exact ⟨_, Phi.upd_same _ _ _, rfl, Nat.le_refl _, fun _ => ⟨by rw [Nat.zero_add, hl]; exact hge, some ⟨w.heap.size, 0, none⟩, by simp, fun _ => by simp⟩⟩
    · cases h

section
variable {X : Cx}
/-- 'xs[:h:h]' of a named row: the slot is kept beside the state. -/
theorem AWo_s3 (hT : TabOk X.P X.T) {ops : Array Oper} {Q : Exit → Env → Mem → Prop} {e : Env} {M : Mem} {k d : Nat} {o : Oper} {t el : TypeId} {x hi mx : Operand} {tt ver len : Nat} {ob : Ob} (ho : ops[k]? = some o) (hop : o.op = .slice t x none (some hi) (some mx)) (hdst : o.dst = some d) (hg : o.guard = none)
    (hd : d < X.nt) (hte : (X.T.row t).d = .slice el) (hke : knownT (X.T.row el) = true) (hx : evA e x = .sl tt ver 0 len) (hh : evA e hi = .int len) (hm : evA e mx = .int len) (hM : M.get tt = some ob) (hv : ob.ver = ver)
    (h : AWo X ops (k + 1) (some (d, tt, ver, len)) Q ((d, .any) :: e) M) : AWo X ops k none Q e M := by
  have hk : k < ops.size := (Array.getElem?_eq_some_iff.1 ho).1
  unfold AWo at h ⊢
  intro ro lo base φ w a hro hst _
  rw [show ops.size - k = (ops.size - (k + 1)) + 1 by omega, List.range'_succ]
  simp only [wpOpsIn, ho]
  have hw : Region.wanted o (yielded ops a.tmps) = true := by unfold Region.wanted; rw [hg]
  rw [if_pos hw]
  have h1 := hst.eval x
  have h2 := hst.eval hi
  have h3 := hst.eval mx
  rw [hx] at h1
  rw [hh] at h2
  rw [hm] at h3
  have h2 : a.eval hi = .int .i64 len := h2
  have h3 : a.eval mx = .int .i64 len := h3
  obtain ⟨r, hr, _, hle, hvv⟩ := h1
  obtain ⟨ob', ho', hrel⟩ := hst.mem.obj tt r hr
  rw [hM] at ho'
  cases ho'
  obtain ⟨g1, A, hA, g2⟩ := hvv (by rw [← hrel.ver, hv])
  rw [Nat.zero_add] at g1
  simp only [Nat.sub_zero, Nat.zero_mul] at hA g2
  obtain ⟨it, z, hrt⟩ := hT.is (t := t) (by rw [hte]; exact fun h => nomatch h)
  have hu := und_slice (hrt.d.symm.trans hte)
  obtain ⟨ie, ze, hre⟩ := hT.is (knownT_ne hke)
  have c1 : len ≤ r.cap := by have := hrel.le; omega
  have hrun : (execOp a.eval o).run X.P w = .ok (.value (.slice (if len = 0 then A else A.map (·.add (0 * ie.size))) len len)) w := by
    unfold execOp
    rw [hop]
    simp only [Option.map_none, Option.map_some, h2, h3, hA]
    simp [Instr.sliceAt, Instr.slice, Instr.sliceBounds, Instr.sliceBound, asIntOf, run_underlying hu, sizeOf, typeInfo, hre.info, c1]
  unfold Oper.wpIn
  refine ⟨fun _ _ => trivial, ?_⟩
  rw [Oper.semAt_eq _ _ _ (by rw [hop]; exact fun _ h => nomatch h), hrun]
  simp only [Oper.uponIn, hdst]
  have hst2 := hst.put' (v := V.any) (cv := .slice (if len = 0 then A else A.map (·.add (0 * ie.size))) len len) hst.mem trivial (Evo.refl w φ) d hd
  refine h ro lo base φ w _ hro hst2 ⟨r, hr, hle, fun _ => ⟨by omega, (if len = 0 then A else A.map (·.add (0 * ie.size))), ?_, fun h0 => ?_⟩⟩
  · simp only [Act.put, Array.getD_eq_getD_getElem?]
    rw [Array.getElem?_setIfInBounds_self_of_lt (by rw [hst.size]; exact hd)]
    rfl
  · rw [if_neg (by omega), g2 (by omega)]
    simp [addr_add]
/-- The same of a slice without room. -/
theorem AWo_s3e (hT : TabOk X.P X.T) {ops : Array Oper} {Q : Exit → Env → Mem → Prop} {e : Env} {M : Mem} {k d : Nat} {o : Oper} {t el : TypeId} {x hi mx : Operand} {nl : Bool} (ho : ops[k]? = some o) (hop : o.op = .slice t x none (some hi) (some mx)) (hdst : o.dst = some d) (hg : o.guard = none)
    (hd : d < X.nt) (hte : (X.T.row t).d = .slice el) (hke : knownT (X.T.row el) = true) (hx : evA e x = .emp nl) (hh : evA e hi = .int 0) (hm : evA e mx = .int 0)
    (h : AWo X ops (k + 1) none Q ((d, .full []) :: e) M) : AWo X ops k none Q e M := by
  have hk : k < ops.size := (Array.getElem?_eq_some_iff.1 ho).1
  unfold AWo at h ⊢
  intro ro lo base φ w a hro hst _
  rw [show ops.size - k = (ops.size - (k + 1)) + 1 by omega, List.range'_succ]
  simp only [wpOpsIn, ho]
  have hw : Region.wanted o (yielded ops a.tmps) = true := by unfold Region.wanted; rw [hg]
  rw [if_pos hw]
  have h1 := hst.eval x
  have h2 := hst.eval hi
  have h3 := hst.eval mx
  rw [hx] at h1
  rw [hh] at h2
  rw [hm] at h3
  have h2 : a.eval hi = .int .i64 0 := h2
  have h3 : a.eval mx = .int .i64 0 := h3
  obtain ⟨A, hA, _⟩ := h1
  obtain ⟨it, z, hrt⟩ := hT.is (t := t) (by rw [hte]; exact fun h => nomatch h)
  have hu := und_slice (hrt.d.symm.trans hte)
  obtain ⟨ie, ze, hre⟩ := hT.is (knownT_ne hke)
  have hrun : (execOp a.eval o).run X.P w = .ok (.value (.slice A 0 0)) w := by
    unfold execOp
    rw [hop]
    simp only [Option.map_none, Option.map_some, h2, h3, hA]
    simp [Instr.sliceAt, Instr.slice, Instr.sliceBounds, Instr.sliceBound, asIntOf, run_underlying hu, sizeOf, typeInfo, hre.info]
  unfold Oper.wpIn
  refine ⟨fun _ _ => trivial, ?_⟩
  rw [Oper.semAt_eq _ _ _ (by rw [hop]; exact fun _ h => nomatch h), hrun]
  simp only [Oper.uponIn, hdst]
  have hst2 := hst.put' (v := V.full []) (cv := .slice A 0 0) hst.mem ⟨A, rfl, Nat.zero_le _, fun h => absurd h (by simp)⟩ (Evo.refl w φ) d hd
  exact h ro lo base φ w _ hro hst2 trivial
/-- An append onto it. -/
theorem AWo_app3 (hT : TabOk X.P X.T) {ops : Array Oper} {Q : Exit → Env → Mem → Prop} {e : Env} {M : Mem} {k d d2 : Nat} {o : Oper} {c : Call} {t el : TypeId} {x : Operand} {tt ver len : Nat} {ob : Ob} {xs : List Int} {p : Obl} {v : V} (ho : ops[k]? = some o) (hop : o.op = .call c) (hcal : c.callee = .builtin .append)
    (hargs : c.args.toList = [.tmp d, x]) (hts : c.argTypes.toList = [t, t]) (hdst : o.dst = some d2) (hg : o.guard = none) (hd : d2 < X.nt) (hte : (X.T.row t).d = .slice el) (hM : M.get tt = some ob) (hv : ob.ver = ver) (hc : ob.c = .il xs) (hsz : ob.sz = 1)
    (hap : fullApp X.T el (xs.take len) (evA e x) M = some (p, v)) (h : p.req (AWo X ops (k + 1) none Q ((d2, v) :: e) M)) : AWo X ops k (some (d, tt, ver, len)) Q e M := by
  rw [Obl.req_iff] at h
  obtain ⟨hp, h⟩ := h
  have hk : k < ops.size := (Array.getElem?_eq_some_iff.1 ho).1
  unfold AWo at h ⊢
  intro ro lo base φ w a hro hst hG
  rw [show ops.size - k = (ops.size - (k + 1)) + 1 by omega, List.range'_succ]
  simp only [wpOpsIn, ho]
  have hw : Region.wanted o (yielded ops a.tmps) = true := by unfold Region.wanted; rw [hg]
  rw [if_pos hw]
  obtain ⟨r, hr, hle, hx⟩ := hG
  obtain ⟨ob', ho', hrel⟩ := hst.mem.obj tt r hr
  rw [hM] at ho'
  cases ho'
  obtain ⟨g1, A, hA, g2⟩ := hx (by rw [← hrel.ver, hv])
  have hn : xs.length = r.n := by rw [← hrel.n, hc]; rfl
  have hs1 : r.sz = 1 := by rw [← hrel.sz]; exact hsz
  have hl : (xs.take len).length = len := by rw [List.length_take]; omega
  have hfull : FullR w (xs.take len) (a.tmps.getD d undef) := by
    refine ⟨A, by rw [hl]; exact hA, by rw [hl]; have := hrel.le; have := hrel.max; omega, fun h0 => ?_⟩
    rw [hl] at h0
    refine ⟨r.g, 0, g2 h0, fun j hj => ?_⟩
    rw [hl] at hj
    obtain ⟨u, e1, e2, e3⟩ := hrel.cell (j := j) (k := 0) (by omega) (by omega)
    rw [hs1, Nat.mul_one, Nat.add_zero] at e1
    rw [hc] at e3
    have e3 : u = .int .i64 (xs.getD j 0) := e3
    rw [Nat.zero_add, e1, e3]
    simp [List.getD, List.getElem?_take_of_lt hj]
  have harr : c.args.map a.eval = #[a.tmps.getD d undef, a.eval x] := by apply Array.toList_inj.1; rw [Array.toList_map, hargs]; rfl
  have htt : c.argTypes = #[t, t] := by apply Array.toList_inj.1; exact hts
  have hnm : φ M.length = none := by
    cases hq : φ M.length with
    | none => rfl
    | some r =>
      obtain ⟨o', h1, _⟩ := hst.mem.obj _ r hq
      simp [Mem.get, List.getD] at h1
  obtain ⟨cv, w', r1, r2⟩ := fullAppR_ok (P := X.P) (ty := o.type) (nm := M.length) hT hst.mem hte hfull (hst.eval x) hap hp
  have hrun : (execOp a.eval o).run X.P w = .ok (.value cv) w' := by
    unfold execOp
    rw [hop]
    simp only [resolve, hcal, Sem.run_bind, Sem.run_pure, Result.andThen_ok, invoke, harr, htt, builtin, r1]
  unfold Oper.wpIn
  refine ⟨fun _ _ => trivial, ?_⟩
  rw [Oper.semAt_eq _ _ _ (by rw [hop]; exact fun _ h => nomatch h), hrun]
  simp only [Oper.uponIn, hdst]
  exact wpOps_mono (fun _ _ _ hq => Lift.evo r2.evo hq) _ _ _ (h ro lo base φ w' _ hro (hst.put' r2.mem r2.rep r2.evo d2 hd) trivial)
/-- What has no more room. -/
def FullIn (M : Mem) (v : V) (ys : List Int) : Prop := (∃ nl, v = .emp nl ∧ ys = []) ∨ v = .full ys ∨ ∃ t ver ob, v = .sl t ver 0 ys.length ∧ M.get t = some ob ∧ ob.ver = ver ∧ ob.c = .kil ys ∧ ob.sz = 1
theorem FullIn.row {lo nt nb base : Nat} {φ : Phi} {w : World} {M : Mem} {e : Env} {a : Act} {v : V} {cv : Value} {ys : List Int} (hst : St lo nt nb base φ w M e a) (hv : Rep φ base w v cv) (h : FullIn M v ys) : FullR w ys cv := by
  rcases h with ⟨nl, rfl, rfl⟩ | rfl | ⟨t, ver, ob, rfl, hM, hver, hc, hsz⟩
  · obtain ⟨A, rfl, _⟩ := hv
    exact ⟨A, rfl, Nat.zero_le _, fun h => absurd h (by simp)⟩
  · obtain ⟨A, rfl, h1, h2⟩ := hv
    exact ⟨A, rfl, h1, fun h0 => by obtain ⟨b, off, k1, _, k3⟩ := h2 h0; exact ⟨b, off, k1, k3⟩⟩
  · obtain ⟨r, hr, _, hle, hvv⟩ := hv
    obtain ⟨ob', ho', hrel⟩ := hst.mem.obj t r hr
    rw [hM] at ho'
    cases ho'
    obtain ⟨g1, A, rfl, g2⟩ := hvv (by rw [← hrel.ver, hver])
    have hn : ys.length = r.n := by rw [← hrel.n, hc]; rfl
    have hs1 : r.sz = 1 := by rw [← hrel.sz]; exact hsz
    have hcap : r.cap = r.n := by
      have := hrel.spec
      rw [hc] at this
      exact this
    rw [Nat.zero_add] at g1
    simp only [Nat.sub_zero, Nat.zero_mul] at g2 ⊢
    refine ⟨A, by rw [hn, hcap], by have := hrel.max; omega, fun h0 => ⟨r.g, 0, g2 (by omega), fun j hj => ?_⟩⟩
    obtain ⟨u, e1, e2, e3⟩ := hrel.cell (j := j) (k := 0) (by omega) (by omega)
    rw [hs1, Nat.mul_one, Nat.add_zero] at e1
    rw [hc] at e3
    have e3 : u = .int .i64 (ys.getD j 0) := e3
    rw [Nat.zero_add, e1, e3]
/-- An append that makes a row anew: its room is some number. -/
theorem AWo_rev (hT : TabOk X.P X.T) {ops : Array Oper} {Q : Exit → Env → Mem → Prop} {e : Env} {M : Mem} {k d2 : Nat} {o : Oper} {c : Call} {t el : TypeId} {s x : Operand} {ys L : List Int} {p : Obl} (ho : ops[k]? = some o) (hop : o.op = .call c) (hcal : c.callee = .builtin .append)
    (hargs : c.args.toList = [s, x]) (hts : c.argTypes.toList = [t, t]) (hdst : o.dst = some d2) (hg : o.guard = none) (hd : d2 < X.nt) (hte : (X.T.row t).d = .slice el) (hz0 : isZ64 (X.T.row el) = true) (hfull : FullIn M (evA e s) ys)
    (hap : fullApp X.T el ys (evA e x) M = some (p, .ints true L)) (h : p.req (∀ c : Nat, L.length ≤ c → AWo X ops (k + 1) none Q ((d2, .sl M.length 0 0 L.length) :: e) (M.put M.length ⟨el, 1, 0, .kil (L ++ List.replicate (c - L.length) 0)⟩))) : AWo X ops k none Q e M := by
  rw [Obl.req_iff] at h
  obtain ⟨hp, h⟩ := h
  have hk : k < ops.size := (Array.getElem?_eq_some_iff.1 ho).1
  unfold AWo
  intro ro lo base φ w a hro hst _
  rw [show ops.size - k = (ops.size - (k + 1)) + 1 by omega, List.range'_succ]
  simp only [wpOpsIn, ho]
  have hw : Region.wanted o (yielded ops a.tmps) = true := by unfold Region.wanted; rw [hg]
  rw [if_pos hw]
  have hrow := hfull.row hst (hst.eval s)
  have harr : c.args.map a.eval = #[a.eval s, a.eval x] := by apply Array.toList_inj.1; rw [Array.toList_map, hargs]; rfl
  have htt : c.argTypes = #[t, t] := by apply Array.toList_inj.1; exact hts
  have hnm : φ M.length = none := by
    cases hq : φ M.length with
    | none => rfl
    | some r =>
      obtain ⟨o', h1, _⟩ := hst.mem.obj _ r hq
      simp [Mem.get, List.getD] at h1
  obtain ⟨L', c', hL, hc', cv, w', φ', r1, r2⟩ := revApp_ok (P := X.P) (ty := o.type) (nm := M.length) hT hst.mem hnm hte hrow (hst.eval x) hz0 hap hp
  cases hL
  have hrun : (execOp a.eval o).run X.P w = .ok (.value cv) w' := by
    unfold execOp
    rw [hop]
    simp only [resolve, hcal, Sem.run_bind, Sem.run_pure, Result.andThen_ok, invoke, harr, htt, builtin, r1]
  unfold Oper.wpIn
  refine ⟨fun _ _ => trivial, ?_⟩
  rw [Oper.semAt_eq _ _ _ (by rw [hop]; exact fun _ h => nomatch h), hrun]
  simp only [Oper.uponIn, hdst]
  have h := h c' hc'
  unfold AWo at h
  exact wpOps_mono (fun _ _ _ hq => Lift.evo r2.evo hq) _ _ _ (h ro lo base φ' w' _ hro (hst.put' r2.mem r2.rep r2.evo d2 hd) trivial)
theorem AWo_take (hT : TabOk X.P X.T) {ops : Array Oper} {k : Nat} {G : Beside} {Q : Exit → Env → Mem → Prop} {e : Env} {M : Mem} (i : Nat) (hi : Nat.ble (k + i) ops.size = true) (hd : (((ops.toList.drop k).take i).all (dstOk X.nt)) = true) (hg : (((ops.toList.drop k).take i).all (gOk G)) = true)
    (h : opsW X ops ((ops.toList.drop k).take i) e M (fun e M => AWo X ops (k + i) G Q e M)) : AWo X ops k G Q e M := by
  have hi := Nat.le_of_ble_eq_true hi
  have hl : ((ops.toList.drop k).take i).length = i := by simp; omega
  refine AWo_ops hT ((ops.toList.drop k).take i) k (fun j hj => ?_) hd hg e M (by rw [hl]; exact h)
  rw [hl] at hj
  rw [List.getElem?_take_of_lt hj, List.getElem?_drop]
  simp
theorem AWo_fin {ops : Array Oper} {k : Nat} {G : Beside} {Q : Exit → Env → Mem → Prop} {e : Env} {M : Mem} (hk : Nat.beq k ops.size = true) (h : Q .normal e M) : AWo X ops k G Q e M := by
  rw [Nat.eq_of_beq_eq_true hk]
  exact AWo_end h

/-- A condition. -/
theorem AW_cond {P : Program} {nt nb : Nat} {rd : Bool} {c : Operand} {a b : Code} {Q : Exit → Env → Mem → Prop} {e : Env} {M : Mem} {t : Bool} (hc : evA e c = .bool t) (h1 : t = true → AW P nt nb rd a Q e M) (h2 : t = false → AW P nt nb rd b Q e M) : AW P nt nb rd (.cond c a b) Q e M := by
  rw [AW_def]
  intro ro lo base φ w a' hro hst
  have hv := hst.eval c
  rw [hc] at hv
  have hv : a'.eval c = .bool t := hv
  refine wpIn_cond hv ?_
  cases t with
  | true => exact AW_def.1 (h1 rfl) ro lo base φ w a' hro hst
  | false => exact AW_def.1 (h2 rfl) ro lo base φ w a' hro hst
/-- A loop whose rounds go in pieces. -/
theorem AW_loopAW (_hT : TabOk X.P X.T) (keys : List Nat) (kp : Nat → Bool) (I : List V → Mem → Prop) (mu : List V → Mem → Nat) {c : Code} {Q : Exit → Env → Mem → Prop} {e : Env} {M : Mem} (hk : ∀ t, t < M.length → kp t = true)
    (h0 : ∃ vs M', SubL (sel keys e) vs ∧ MSub M M' ∧ I vs M')
    (round : ∀ vs M', I vs M' → AW X.P X.nt X.nb X.rd c (loopQA keys kp I mu (mu vs M') Q) (keys.zip vs) M') : AW X.P X.nt X.nb X.rd (.loop c) Q e M := by
  rw [AW_def]
  intro ro lo base φ w a hro hst
  have hdom : ∀ t r, φ t = some r → kp t = true := by
    intro t r ht
    obtain ⟨o, ho, _⟩ := hst.mem.obj t r ht
    refine hk t ?_
    rcases Nat.lt_or_ge t M.length with h | h
    · exact h
    · simp [Mem.get, List.getD, List.getElem?_eq_none h] at ho
  obtain ⟨vs0, M0, s1, s2, hI0⟩ := h0
  refine wpIn_loop_ghost (fun n a' w' => ∃ vs M' φ', mu vs M' = n ∧ I vs M' ∧ St lo X.nt X.nb base φ' w' M' (keys.zip vs) a' ∧ Evo w φ w' φ') (mu vs0 M0)
    ⟨_, M0, φ, rfl, hI0, (hst.sel keys).sub s1 s2, Evo.refl w φ⟩ ?_
  rintro n a' w' ⟨vs, M', φ', rfl, hI, hst', hv⟩
  refine wpIn_mono (AW_def.1 (round vs M' hI) ro lo base φ' w' a' hro hst') ?_
  rintro x a₁ w₁ ⟨hx, e₁, M₁, φ₁, hq, hst₁, hv₁⟩
  cases x with
  | normal =>
    obtain ⟨hn, vs2, M2, t1, t2, hI2, hmu⟩ := hq
    exact ⟨_, hmu, _, _, _, rfl, hI2, ((hst₁.sel keys).mask hn.1 hn.2).sub t1 t2, (hv.trans hv₁).restr hdom⟩
  | panic c => exact hx.elim
  | outgrown => exact hx.elim
  | _ => exact ⟨trivial, e₁, M₁, φ₁, hq, hst₁, hv.trans hv₁⟩
end
end Go.Tri
