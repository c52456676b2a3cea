/-
  SOUNDNESS, EIGHTH PART: builtins, calls, regions in the text's order.
-/
import Derived.Test.YtciefpkelgjboaaA10
namespace Go.Tri
variable {lo : Nat}
open Go.RowKit

section
variable {P : Program} {T : Tab}

theorem eval_list {ev : Operand → V} {l : List Operand} {x : V} {r : List V} (h : l.map ev = x :: r) : ∃ o l', l = o :: l' ∧ ev o = x ∧ l'.map ev = r := by
  cases l with
  | nil => cases h
  | cons o l' => cases h; exact ⟨o, l', rfl, rfl, rfl⟩

theorem aBuiltin_ok (hT : TabOk P T) {nb base : Nat} {φ : Phi} {w : World} {M M' : Mem} (hm : MemRel nb base φ w M) {ev : Operand → V} {ρ : Operand → Value} (hev : ∀ x, Rep φ base w (ev x) (ρ x))
    {b : Builtin} {ts : Array TypeId} {ty : TypeId} {cs : Array Bool} {args : Array Operand} {p : Obl} {v : V} (h : aBuiltin T b ts.toList (args.toList.map ev) M = some (p, v, M')) (hp : p.holds) :
    M' = M ∧ ∃ cv, (builtin b ts ty cs (args.map ρ)).run P w = .ok (.value cv) w ∧ Rep φ base w v cv := by
  unfold aBuiltin at h
  split at h
  · next x t he ht =>
    obtain ⟨o, l', hl, ho, hl'⟩ := eval_list he
    have hl' : l' = [] := by simpa using hl'
    subst hl'
    have harr : args.map ρ = #[ρ o] := by apply Array.toList_inj.1; rw [Array.toList_map, hl]; rfl
    have htt : ts = #[t] := by apply Array.toList_inj.1; exact ht
    subst htt
    have hx := hev o
    rw [ho] at hx
    rw [harr]
    cases hd : (T.row t).d with
    | slice e =>
      obtain ⟨it, z, hr⟩ := hT.is (t := t) (by rw [hd]; exact fun h => nomatch h)
      have hu := und_slice (hr.d.symm.trans hd)
      rw [hd] at h
      simp only at h
      cases hq : lenV M x with
      | none => rw [hq] at h; cases h
      | some q =>
        obtain ⟨p', n⟩ := q
        rw [hq] at h
        simp only [Option.some.injEq, Prod.mk.injEq] at h
        obtain ⟨rfl, rfl, rfl⟩ := h
        have key : ∃ A len cap, ρ o = .slice A len cap ∧ n = (len : Int) := by
          cases x with
          | ints fr xs =>
            simp only [lenV, Option.some.injEq, Prod.mk.injEq] at hq
            obtain ⟨A, cap, hv, _⟩ := hx
            exact ⟨A, _, cap, hv, hq.2.symm⟩
          | seq fr sz m f =>
            simp only [lenV, Option.some.injEq, Prod.mk.injEq] at hq
            obtain ⟨A, cap, hv, _⟩ := hx
            exact ⟨A, _, cap, hv, hq.2.symm⟩
          | sl nm ver off len =>
            obtain ⟨r, hrr, _, hle, hv⟩ := hx
            obtain ⟨ob, hob, hrel⟩ := hm.obj nm r hrr
            simp only [lenV, hob, Option.some.injEq, Prod.mk.injEq] at hq
            obtain ⟨rfl, rfl⟩ := hq
            have hver := eqnO_holds.1 hp
            obtain ⟨_, A, hv, _⟩ := hv (by rw [← hrel.ver, hver])
            exact ⟨A, _, _, hv, rfl⟩
          | emp =>
            simp only [lenV, Option.some.injEq, Prod.mk.injEq] at hq
            obtain ⟨A, hv, _⟩ := hx
            exact ⟨A, 0, 0, hv, hq.2.symm⟩
          | _ => simp [lenV] at hq
        obtain ⟨A, len, cap, hv, rfl⟩ := key
        refine ⟨rfl, .int .i64 len, ?_, rfl⟩
        rw [hv]
        simp [builtin, Builtin.len_, run_underlying hu, goInt]
    | string =>
      obtain ⟨it, z, hr⟩ := hT.is (t := t) (by rw [hd]; exact fun h => nomatch h)
      have hu : P.underlying t = some .string := by
        have := hr.d.symm.trans hd
        unfold convD at this
        split at this <;> cases this
        assumption
      rw [hd] at h
      cases x with
      | lit u =>
        cases u with
        | string s =>
          simp only [Option.some.injEq, Prod.mk.injEq] at h
          obtain ⟨rfl, rfl, rfl⟩ := h
          have hx : ρ o = .string s := hx
          refine ⟨rfl, .int .i64 s.size, ?_, rfl⟩
          rw [hx]
          simp [builtin, Builtin.len_, run_underlying hu, goInt]
        | _ => simp at h
      | _ => simp at h
    | _ => rw [hd] at h; simp at h
  · next nl t he ht =>
    obtain ⟨o, l', hl, ho, hl'⟩ := eval_list he
    have hl' : l' = [] := by simpa using hl'
    subst hl'
    have harr : args.map ρ = #[ρ o] := by apply Array.toList_inj.1; rw [Array.toList_map, hl]; rfl
    have htt : ts = #[t] := by apply Array.toList_inj.1; exact ht
    subst htt
    have hx := hev o
    rw [ho] at hx
    rw [harr]
    cases hd : (T.row t).d with
    | slice e =>
      obtain ⟨it, z, hr⟩ := hT.is (t := t) (by rw [hd]; exact fun h => nomatch h)
      have hu := und_slice (hr.d.symm.trans hd)
      rw [hd] at h
      simp only [Option.some.injEq, Prod.mk.injEq] at h
      obtain ⟨rfl, rfl, rfl⟩ := h
      obtain ⟨A, hv, _⟩ := hx
      refine ⟨rfl, .int .i64 0, ?_, rfl⟩
      rw [hv]
      simp [builtin, Builtin.cap_, run_underlying hu, goInt]
    | _ => rw [hd] at h; cases h
  · next x y he =>
    obtain ⟨o1, l1, hl, ho1, hl1⟩ := eval_list he
    obtain ⟨o2, l2, rfl, ho2, hl2⟩ := eval_list hl1
    have hl2 : l2 = [] := by simpa using hl2
    subst hl2
    have harr : args.map ρ = #[ρ o1, ρ o2] := by apply Array.toList_inj.1; rw [Array.toList_map, hl]; rfl
    have h1 := hev o1
    have h2 := hev o2
    rw [ho1] at h1
    rw [ho2] at h2
    have h1 : ρ o1 = .int .i64 x := h1
    have h2 : ρ o2 = .int .i64 y := h2
    simp only [Option.some.injEq, Prod.mk.injEq] at h
    obtain ⟨rfl, rfl, rfl⟩ := h
    refine ⟨rfl, .int .i64 (maxI x y), ?_, rfl⟩
    rw [harr, h1, h2]
    simp [builtin, run_max_int2, maxI]
  · next x y z he =>
    obtain ⟨o1, l1, hl, ho1, hl1⟩ := eval_list he
    obtain ⟨o2, l2, rfl, ho2, hl2⟩ := eval_list hl1
    obtain ⟨o3, l3, rfl, ho3, hl3⟩ := eval_list hl2
    have hl3 : l3 = [] := by simpa using hl3
    subst hl3
    have harr : args.map ρ = #[ρ o1, ρ o2, ρ o3] := by apply Array.toList_inj.1; rw [Array.toList_map, hl]; rfl
    have h1 := hev o1
    have h2 := hev o2
    have h3 := hev o3
    rw [ho1] at h1
    rw [ho2] at h2
    rw [ho3] at h3
    have h1 : ρ o1 = .int .i64 x := h1
    have h2 : ρ o2 = .int .i64 y := h2
    have h3 : ρ o3 = .int .i64 z := h3
    simp only [Option.some.injEq, Prod.mk.injEq] at h
    obtain ⟨rfl, rfl, rfl⟩ := h
    refine ⟨rfl, .int .i64 (maxI (maxI x y) z), ?_, rfl⟩
    rw [harr, h1, h2, h3]
    simp [builtin, run_max_int3, maxI]
  · next x y he =>
    obtain ⟨o1, l1, hl, ho1, hl1⟩ := eval_list he
    obtain ⟨o2, l2, rfl, ho2, hl2⟩ := eval_list hl1
    have hl2 : l2 = [] := by simpa using hl2
    subst hl2
    have harr : args.map ρ = #[ρ o1, ρ o2] := by apply Array.toList_inj.1; rw [Array.toList_map, hl]; rfl
    have h1 := hev o1
    have h2 := hev o2
    rw [ho1] at h1
    rw [ho2] at h2
    have h1 : ρ o1 = .int .i64 x := h1
    have h2 : ρ o2 = .int .i64 y := h2
    simp only [Option.some.injEq, Prod.mk.injEq] at h
    obtain ⟨rfl, rfl, rfl⟩ := h
    refine ⟨rfl, .int .i64 (minI x y), ?_, rfl⟩
    rw [harr, h1, h2]
    simp [builtin, run_min_int2, minI]
  · cases h

theorem run_callFunc {f : FuncId} (h : FnOk P f) (args : Array Value) (w : World) : (callFunc f args).run P w = .ok (.enter f args) w := by
  obtain ⟨fn, h1, h2, h3⟩ := h
  have h2' : ¬ fn.name = "runtime.NumGoroutine" := by simpa using h2
  have h3' : ¬ fn.body = none := by intro e; rw [e] at h3; cases h3
  simp [callFunc, h1, h2', h3']

/-- What an operation leaves, calls too. -/
def Left (X : Cx) (base : Nat) (φ : Phi) (w : World) (o : Oper) (a : Act) (K : V → Mem → Prop) : Act → World → Prop := fun a' w' =>
  ∃ v M' φ' cv, K v M' ∧ MemRel X.nb base φ' w' M' ∧ Rep φ' base w' v cv ∧ Evo w φ w' φ' ∧ a' = a.put o.dst cv

theorem callsIn_FZ {ro : Option Nat} {n : Nat} {P : Program} {f : FuncId} {args : Array Value} {w : World} {R : Ending → World → Prop} (h : Calls P f args w R) : CallsIn (FZ ro) n P f args w R :=
  (callsIn_wide (n := n)).2 h
theorem roundIn_FZ {ro : Option Nat} {n l : Nat} {P : Program} {f : FuncId} {tmps : Array Value} {as bd : Code} {w : World} {R : Ending → World → Prop} (h : RoundIn Fence.wide 0 P l f tmps as bd w R) : RoundIn (FZ ro) n P l f tmps as bd w R :=
  ⟨trivial, fun c cs _ => h.2 c cs (room_wide _)⟩
theorem FZ_depth {ro : Option Nat} {p : Prop} : (FZ ro).depth.isSome = true → p := fun h => nomatch h

theorem Runs.left {X : Cx} {ro : Option Nat} {base nm : Nat} {φ : Phi} {w : World} {v : V} {M' : Mem} {o : Oper} {a : Act} {K : V → Mem → Prop} {Q : Exit → Act → World → Prop} (hd : ∀ c, o.op ≠ .defer c) (h : Runs X.nb base nm φ w v M' ((execOp a.eval o).run X.P w)) (hK : K v M') :
    o.wpIn (FZ ro) 0 X.P a w (Left X base φ w o a K) Q := by
  obtain ⟨cv, w', φ', hr, hs⟩ := h
  unfold Oper.wpIn
  refine ⟨fun _ _ => trivial, ?_⟩
  rw [Oper.semAt_eq _ _ _ hd]
  rcases hr with hr | ⟨hr, rfl⟩
  · rw [hr]
    exact ⟨v, M', φ', cv, hK, hs.mem, hs.rep, hs.evo, rfl⟩
  · rw [hr]
    exact ⟨v, M', φ', undef, hK, hs.mem, hs.rep, hs.evo, rfl⟩

theorem callV_ok {X : Cx} {base : Nat} {φ : Phi} {w : World} {M : Mem} (hm : MemRel X.nb base φ w M) {f : FuncId} {ts : List TypeId} {xs : List V} {args : Array Value} (hl : xs.length = ts.length) (hs : args.size = xs.length)
    (hargs : ∀ i, Rep φ base w (xs.getD i .any) (args.getD i undef)) {K : V → Mem → Prop} (h : callV X f ts xs M K) :
    FnOk X.P f ∧ Calls X.P f args w fun e w' => ∃ cv, e = .returned cv ∧ ∃ v M' φ', K v M' ∧ MemRel X.nb base φ' w' M' ∧ Rep φ' base w' v cv ∧ Evo w φ w' φ' := by
  unfold callV at h
  cases hb : X.wr.contains f with
  | true =>
    rw [hb] at h
    simp only [cond_true] at h
    unfold ACM at h
    obtain ⟨h0, h1⟩ := h
    refine ⟨h0, (h1 X.nb base φ w args (fun k hk => by cases hk; rfl) hm hs hargs).mono fun e w' hq => ?_⟩
    obtain ⟨v, R, M', φ', he, hK, hm', hR, hev⟩ := hq
    exact ⟨v, he, R, M', φ', hK, hm', hR, hev⟩
  | false =>
    rw [hb] at h
    simp only [cond_false] at h
    rw [Obl.req_iff] at h
    obtain ⟨hv, h⟩ := h
    unfold APure at h
    obtain ⟨h0, h1⟩ := h
    have hvs : ∀ l : List V, (verOks M l).holds → ∀ i, (verOk M (l.getD i .any)).holds := by
      intro l
      induction l with
      | nil => intro _ i; simp [verOk, Obl.holds]
      | cons x r ih =>
        rintro ⟨a, b⟩ i
        cases i with
        | zero => exact a
        | succ i => simpa using ih b i
    refine ⟨h0, (h1 w args (by simp [hs, hl]) (fun i => ?_)).mono fun e w' hq => ?_⟩
    · by_cases hi : i < xs.length
      · have hi2 : i < ts.length := by omega
        have e1 : ((xs.zip ts).map fun (x, t) => byval M 4 (asInts X.T t x)).getD i .any = byval M 4 (asInts X.T ts[i] xs[i]) := by
          simp only [List.getD, List.getElem?_map]
          rw [List.getElem?_eq_getElem (by simp; omega)]
          simp
        rw [e1]
        have hx := hargs i
        have e2 : xs.getD i .any = xs[i] := by simp [List.getD, hi]
        rw [e2] at hx
        have hvi := hvs xs hv i
        rw [e2] at hvi
        have hva : (verOk M (asInts X.T ts[i] xs[i])).holds := by
          cases hxx : xs[i] with
          | emp =>
            simp only [asInts]
            split
            · split <;> trivial
            · trivial
          | _ => rw [hxx] at hvi; exact hvi
        exact byval_ok hm (fun _ _ h => h) 4 (asInts_ok hx) hva
      · have e1 : ((xs.zip ts).map fun (x, t) => byval M 4 (asInts X.T t x)).getD i .any = .any := by
          simp only [List.getD]
          rw [List.getElem?_eq_none (by simp; omega)]
          rfl
        rw [e1]
        trivial
    · obtain ⟨v, R, he, hK, hF, hR, hev⟩ := hq
      have hmw : ∀ t r, φ t = some r → 0 < r.cap → w'.heap[r.g]? = w.heap[r.g]? := fun t r ht hp => hev.block r.g (hm.lt ht hp) (notLive_none _)
      have hevo : Evo w φ w' φ := ⟨hev.os, hev.tape, hev.output, hev.size, fun b hb _ => hev.block b hb (notLive_none b), fun t r ht hp _ hn => hn t r ht hp rfl, fun _ r h => ⟨r, h, rfl, rfl, Nat.le_refl _, fun _ => rfl⟩⟩
      exact ⟨v, he, R, M, φ, hK, hm.evo hevo hmw, Rep_fresh (fun t r ht hp => hm.lt ht hp) hm.le R v hF hR, hevo⟩

/-- The call comes to this function, with this. -/
structure CalleeIs (P : Program) (c : Call) (ev : Operand → V) (g : FuncId) (ts : List TypeId) (xs : List V) : Prop where
  len : xs.length = ts.length
  run : FnOk P g → ∀ (φ : Phi) (base : Nat) (w : World) (ρ : Operand → Value) (ty : TypeId), (∀ x ∈ c.operands, Rep φ base w (ev x) (ρ x)) →
    ∃ args : Array Value, args.size = xs.length ∧ (∀ i, Rep φ base w (xs.getD i .any) (args.getD i undef)) ∧ ((do let d ← resolve ρ c ty; invoke d.target d.args) : Sem Next).run P w = .ok (.enter g args) w

theorem callV_fn {X : Cx} {f : FuncId} {ts : List TypeId} {xs : List V} {M : Mem} {K : V → Mem → Prop} (h : callV X f ts xs M K) : FnOk X.P f := by
  unfold callV at h
  cases hb : X.wr.contains f with
  | true => rw [hb] at h; simp only [cond_true] at h; unfold ACM at h; exact h.1
  | false =>
    rw [hb] at h
    simp only [cond_false] at h
    rw [Obl.req_iff] at h
    have h := h.2
    unfold APure at h
    exact h.1

theorem calleeW_ok {P : Program} {ev : Operand → V} {c : Call} {K : FuncId → List TypeId → List V → Prop} (h : calleeW P ev c K) : ∃ g ts xs, K g ts xs ∧ CalleeIs P c ev g ts xs := by
  unfold calleeW at h
  have marg : ∀ x ∈ c.args.toList, x ∈ c.operands := by
    intro x hx
    simp only [Call.operands, Array.mem_append]
    exact .inr (by simpa using hx)
  cases hcal : c.callee with
  | builtin b => rw [hcal] at h; exact h.elim
  | value f =>
    rw [hcal] at h
    simp only at h
    have mf : f ∈ c.operands := by simp [Call.operands, hcal]
    cases hff : ev f with
    | clo g n cap =>
      rw [hff] at h
      simp only at h
      cases hb : Nat.beq c.args.size c.argTypes.size with
      | false => rw [hb] at h; exact h.elim
      | true =>
        rw [hb] at h
        simp only [cond_true] at h
        have hb := Nat.eq_of_beq_eq_true hb
        refine ⟨g, _, _, h, by simp [hb], fun h0 φ base w ρ ty hev => ?_⟩
        have hf := hev f mf
        rw [hff] at hf
        obtain ⟨cs, hv, hcs1, hcs2⟩ := hf
        refine ⟨c.args.map ρ ++ cs, by simp [hcs1], fun i => ?_, ?_⟩
        · by_cases hi : i < c.args.size
          · have e1 : (c.args.toList.map ev ++ (List.range n).map cap).getD i .any = ev c.args[i] := by
              simp only [List.getD]
              rw [List.getElem?_append_left (by simpa using hi)]
              simp [hi]
            have e2 : (c.args.map ρ ++ cs).getD i undef = ρ c.args[i] := by
              simp [Array.getD, hi]
              omega
            rw [e1, e2]
            exact hev _ (marg _ (by simp))
          · by_cases hi2 : i < c.args.size + n
            · have e1 : (c.args.toList.map ev ++ (List.range n).map cap).getD i .any = cap (i - c.args.size) := by
                simp only [List.getD]
                rw [List.getElem?_append_right (by simp; omega)]
                simp [show i - c.args.size < n from by omega]
              obtain ⟨u, q1, q2⟩ := hcs2 (i - c.args.size) (by omega)
              have e2 : (c.args.map ρ ++ cs).getD i undef = u := by
                rw [Array.getD_eq_getD_getElem?, Array.getElem?_append_right (by simp; omega)]
                simp [q1]
              rw [e1, e2]
              exact q2
            · have e1 : (c.args.toList.map ev ++ (List.range n).map cap).getD i .any = .any := by
                simp only [List.getD]
                rw [List.getElem?_eq_none (by simp; omega)]
                rfl
              rw [e1]
              trivial
        · simp only [resolve, hcal, hv, Deferred.ofValue, Sem.run_bind, Sem.run_pure, Result.andThen_ok, invoke]
          rw [Array.empty_append]
          exact run_callFunc h0 _ w
    | bnd g n cap =>
      rw [hff] at h
      simp only at h
      cases hb : Nat.beq c.args.size c.argTypes.size with
      | false => rw [hb] at h; exact h.elim
      | true =>
        rw [hb] at h
        simp only [cond_true] at h
        have hb := Nat.eq_of_beq_eq_true hb
        refine ⟨g, _, _, h, by simp [hb], fun h0 φ base w ρ ty hev => ?_⟩
        have hf := hev f mf
        rw [hff] at hf
        obtain ⟨cs, hv, hcs1, hcs2⟩ := hf
        refine ⟨cs ++ c.args.map ρ, by simp [hcs1], fun i => ?_, ?_⟩
        · by_cases hi : i < n
          · have e1 : ((List.range n).map cap ++ c.args.toList.map ev).getD i .any = cap i := by
              simp only [List.getD]
              rw [List.getElem?_append_left (by simpa using hi)]
              simp [hi]
            obtain ⟨u, q1, q2⟩ := hcs2 i hi
            have e2 : (cs ++ c.args.map ρ).getD i undef = u := by
              rw [Array.getD_eq_getD_getElem?, Array.getElem?_append_left (by omega), q1]
              rfl
            rw [e1, e2]
            exact q2
          · by_cases hi2 : i < n + c.args.size
            · have e1 : ((List.range n).map cap ++ c.args.toList.map ev).getD i .any = ev c.args[i - n] := by
                simp only [List.getD]
                rw [List.getElem?_append_right (by simp; omega)]
                simp [show i - n < c.args.size from by omega]
              have e2 : (cs ++ c.args.map ρ).getD i undef = ρ c.args[i - n] := by
                rw [Array.getD_eq_getD_getElem?, Array.getElem?_append_right (by omega)]
                simp [hcs1, show i - n < c.args.size from by omega]
              rw [e1, e2]
              exact hev _ (marg _ (by simp))
            · have e1 : ((List.range n).map cap ++ c.args.toList.map ev).getD i .any = .any := by
                simp only [List.getD]
                rw [List.getElem?_eq_none (by simp; omega)]
                rfl
              rw [e1]
              trivial
        · simp only [resolve, hcal, hv, Deferred.ofValue, Sem.run_bind, Sem.run_pure, Result.andThen_ok, invoke]
          rw [Array.append_empty]
          exact run_callFunc h0 _ w
    | _ => rw [hff] at h; exact h.elim
  | invoke r m =>
    rw [hcal] at h
    simp only at h
    have mr : r ∈ c.operands := by simp [Call.operands, hcal]
    cases hff : ev r with
    | ifc ty x =>
      rw [hff] at h
      simp only at h
      cases hb : Nat.beq c.args.size c.argTypes.size with
      | false => rw [hb] at h; exact h.elim
      | true =>
        rw [hb] at h
        simp only [cond_true] at h
        have hb := Nat.eq_of_beq_eq_true hb
        obtain ⟨f, hm, h⟩ := h
        unfold MethodIs at hm
        refine ⟨f, _, _, h, by simp [hb], fun h0 φ base w ρ ty2 hev => ?_⟩
        have hf := hev r mr
        rw [hff] at hf
        obtain ⟨u, hv, hx⟩ := hf
        refine ⟨#[u] ++ c.args.map ρ, by simp; omega, fun i => ?_, ?_⟩
        · cases i with
          | zero =>
            rw [show (#[u] ++ c.args.map ρ).getD 0 undef = u from by simp [Array.getD]]
            exact hx
          | succ i =>
            by_cases hi : i < c.args.size
            · have e1 : (x :: c.args.toList.map ev).getD (i + 1) .any = ev c.args[i] := by simp [List.getD, hi]
              have e2 : (#[u] ++ c.args.map ρ).getD (i + 1) undef = ρ c.args[i] := by
                rw [Array.getD_eq_getD_getElem?, Array.getElem?_append_right (by simp)]
                simp [hi]
              rw [e1, e2]
              exact hev _ (marg _ (by simp))
            · have e1 : (x :: c.args.toList.map ev).getD (i + 1) .any = .any := by
                simp only [List.getD]
                rw [List.getElem?_eq_none (by simp; omega)]
                rfl
              rw [e1]
              trivial
        · simp only [resolve, hcal, hv, Sem.run_bind, Sem.run_pure, Result.andThen_ok, invoke]
          have e0 : (#[Value.iface ty u] ++ c.args.map ρ)[0]? = some (Value.iface ty u) := by
            rw [Array.getElem?_append_left (by simp)]
            rfl
          have e1 : (#[Value.iface ty u] ++ c.args.map ρ).extract 1 (#[Value.iface ty u] ++ c.args.map ρ).size = c.args.map ρ := by
            apply Array.ext_getElem?
            intro i
            rw [Array.getElem?_extract]
            have hsz : (#[Value.iface ty u] ++ c.args.map ρ).size = c.args.size + 1 := by rw [Array.size_append, Array.size_map]; show 1 + _ = _; omega
            rw [hsz]
            by_cases hi : i < c.args.size
            · rw [if_pos (by omega), Array.getElem?_append_right (by show 1 ≤ 1 + i; omega)]
              congr 1
              show 1 + i - 1 = i
              omega
            · rw [if_neg (by omega), Array.getElem?_eq_none (by rw [Array.size_map]; omega)]
          have e2 : (program : Sem Program).run P w = .ok P w := by simp
          simp only [e0, e1, callMethod, Sem.run_bind, e2, Result.andThen_ok, hm]
          exact run_callFunc h0 _ w
    | _ => rw [hff] at h; exact h.elim

theorem opW_ok {X : Cx} {ro : Option Nat} (hT : TabOk X.P X.T) {base nm : Nat} {φ : Phi} {w : World} {M : Mem} {e : Env} {a : Act} (hst : St lo X.nt X.nb base φ w M e a) (hn : φ nm = none) {o : Oper} {K : V → Mem → Prop} {Q : Exit → Act → World → Prop}
    (h : opW X nm o e M K) : o.wpIn (FZ ro) 0 X.P a w (Left X base φ w o a K) Q := by
  have hev := fun x => hst.eval x
  have plain : (∀ c, o.op ≠ .call c) → (∀ c, o.op ≠ .defer c) → (match aop X.T nm o.op (evA e) M with
      | some (p, v, M') => p.req (forceV v fun v => K v M')
      | none => False) → o.wpIn (FZ ro) 0 X.P a w (Left X base φ w o a K) Q := by
    intro hc hdf h
    cases hq : aop X.T nm o.op (evA e) M with
    | none => rw [hq] at h; exact h.elim
    | some q =>
      obtain ⟨p, v, M'⟩ := q
      rw [hq] at h
      simp only at h
      rw [Obl.req_iff, forceV_eq] at h
      exact Runs.left hdf (aop_ok hT hst.mem hn hev (fun _ => rfl) hc hq h.1) h.2
  unfold opW at h
  cases ho : o.op with
  | call c =>
    rw [ho] at h
    simp only at h
    unfold Oper.wpIn
    refine ⟨fun _ _ => trivial, ?_⟩
    rw [Oper.semAt_eq _ _ _ (by rw [ho]; exact fun _ h => nomatch h)]
    have hex : (execOp a.eval o).run X.P w = ((do let d ← resolve a.eval c o.type; invoke d.target d.args) : Sem Next).run X.P w := by
      unfold execOp; rw [ho]
    have callee : calleeW X.P (evA e) c (fun f ts xs => callV X f ts xs M K) → o.uponIn (FZ ro) 0 X.P a (Left X base φ w o a K) Q (((do let d ← resolve a.eval c o.type; invoke d.target d.args) : Sem Next).run X.P w) := by
      intro h
      obtain ⟨g, ts, xs, hK, hC⟩ := calleeW_ok h
      obtain ⟨args, s1, s2, s3⟩ := hC.run (callV_fn hK) φ base w a.eval o.type (fun x _ => hev x)
      rw [s3]
      obtain ⟨_, h1⟩ := callV_ok hst.mem hC.len s1 s2 hK
      refine ⟨FZ_depth, callsIn_FZ (h1.mono fun e' w' hq => ?_)⟩
      obtain ⟨cv, rfl, v, M', φ', hK, q1, q2, q3⟩ := hq
      exact ⟨v, M', φ', cv, hK, q1, q2, q3, rfl⟩
    rw [hex]
    cases hcal : c.callee with
    | value f =>
      rw [hcal] at h
      simp only at h
      have hf := hev f
      cases hff : evA e f with
      | yld t =>
        rw [hff] at h hf
        simp only at h
        unfold YW at h
        obtain ⟨r, hr1, _, hq3⟩ := hf
        obtain ⟨hr2, f', tmps', as', bd', hr4, hr5⟩ := h X.nb base φ w (c.args.map a.eval) r hr1 hst.mem (by simp) (fun i => by
          by_cases hi : i < c.args.size
          · have e1 : (c.args.toList.map (evA e)).getD i .any = evA e c.args[i] := by simp [List.getD, hi]
            have e2 : (c.args.map a.eval).getD i undef = a.eval c.args[i] := by simp [Array.getD, hi]
            rw [e1, e2]
            exact hev _
          · have e1 : (c.args.toList.map (evA e)).getD i .any = .any := by
              simp only [List.getD]
              rw [List.getElem?_eq_none (by simp; omega)]
              rfl
            rw [e1]
            trivial)
        obtain ⟨_, hv⟩ := hq3 hr2
        have hr : ((do let d ← resolve a.eval c o.type; invoke d.target d.args) : Sem Next).run X.P w = .ok (.round r.g f' tmps' as' bd') w := by
          simp only [resolve, hcal, hv, Deferred.ofValue, Sem.run_bind, Sem.run_pure, Result.andThen_ok, invoke]
          rw [Array.empty_append]
          exact hr4
        rw [hr]
        refine ⟨FZ_depth, roundIn_FZ (hr5.mono fun e' w' hq => ?_)⟩
        obtain ⟨cv, v, M', φ', rfl, hK, q1, q2, q3⟩ := hq
        exact ⟨v, M', φ', cv, hK, q1, q2, q3, rfl⟩
      | _ => rw [hff] at h; exact callee h
    | invoke r m => rw [hcal] at h; exact callee h
    | builtin b =>
      rw [hcal] at h
      have hres : ((do let d ← resolve a.eval c o.type; invoke d.target d.args) : Sem Next).run X.P w = (builtin b c.argTypes o.type (c.args.map fun | .const _ => true | _ => false) (c.args.map a.eval)).run X.P w := by
        simp only [resolve, hcal, Sem.run_bind, Sem.run_pure, Result.andThen_ok, invoke]
        rfl
      rw [hres]
      have gen : (match aBuiltin X.T b c.argTypes.toList (c.args.toList.map (evA e)) M with
          | some (p, v, M') => p.req (forceV v fun v => K v M')
          | none => False) → o.uponIn (FZ ro) 0 X.P a (Left X base φ w o a K) Q ((builtin b c.argTypes o.type (c.args.map fun | .const _ => true | _ => false) (c.args.map a.eval)).run X.P w) := by
        intro hg
        cases hq : aBuiltin X.T b c.argTypes.toList (c.args.toList.map (evA e)) M with
        | none => rw [hq] at hg; exact hg.elim
        | some q =>
          obtain ⟨p, v, M'⟩ := q
          rw [hq] at hg
          simp only at hg
          rw [Obl.req_iff, forceV_eq] at hg
          obtain ⟨rfl, cv, r1, r2⟩ := aBuiltin_ok (ty := o.type) (cs := c.args.map fun | .const _ => true | _ => false) hT hst.mem hev hq hg.1
          rw [r1]
          exact ⟨v, M', φ, cv, hg.2, hst.mem, r2, Evo.refl w φ, rfl⟩
      cases b with
      | append =>
        simp only at h
        split at h
        · next s x t t' he ht =>
          have harr : c.args.map a.eval = #[a.eval s, a.eval x] := by apply Array.toList_inj.1; rw [Array.toList_map, he]; rfl
          have htt : c.argTypes = #[t, t'] := by apply Array.toList_inj.1; exact ht
          cases hb : Nat.beq t t' with
          | false =>
            rw [hb] at h
            simp only [cond_false] at h
            cases hq : aMake X.T nm t t' (evA e s) (evA e x) M with
            | none => rw [hq] at h; exact h.elim
            | some q =>
              obtain ⟨p, v, M'⟩ := q
              rw [hq] at h
              simp only at h
              rw [Obl.req_iff, forceV_eq] at h
              obtain ⟨cv, w', φ', r1, r2⟩ := aMake_ok (P := X.P) (ty := o.type) hT hst.mem hn (hev s) (hev x) hq h.1
              rw [harr, htt]
              simp only [builtin, Sem.run_bind, r1, Result.andThen_ok, Sem.run_pure]
              exact ⟨v, M', φ', cv, h.2, r2.mem, r2.rep, r2.evo, rfl⟩
          | true =>
            rw [hb] at h
            simp only [cond_true] at h
            have hb := Nat.eq_of_beq_eq_true hb
            subst hb
            cases hd : (X.T.row t).d with
            | slice el =>
              rw [hd] at h
              simp only at h
              cases hf : (evA e s).isFull with
              | some ys =>
                rw [hf] at h
                simp only at h
                cases hq : fullApp X.T el ys (evA e x) M with
                | none => rw [hq] at h; exact h.elim
                | some q =>
                  obtain ⟨p, v⟩ := q
                  rw [hq] at h
                  simp only at h
                  rw [Obl.req_iff, forceV_eq] at h
                  have hs := hev s
                  rw [isFull_eq hf] at hs
                  obtain ⟨cv, w', r1, r2⟩ := fullApp_ok (P := X.P) (ty := o.type) (nm := nm) hT hst.mem hd hs (hev x) hq h.1
                  rw [harr, htt]
                  simp only [builtin, Sem.run_bind, r1, Result.andThen_ok, Sem.run_pure]
                  exact ⟨v, M, φ, cv, h.2, r2.mem, r2.rep, r2.evo, rfl⟩
              | none =>
              rw [hf] at h
              simp only at h
              cases hq : aAppend X.T nm el (evA e s) (evA e x) M with
              | none => rw [hq] at h; exact h.elim
              | some q =>
                obtain ⟨p, v, M'⟩ := q
                rw [hq] at h
                simp only at h
                rw [Obl.req_iff, forceV_eq] at h
                obtain ⟨cv, w', φ', r1, r2⟩ := aAppend_ok (P := X.P) (ty := o.type) hT hst.mem hn hd (hev s) (hev x) hq h.1
                rw [harr, htt]
                simp only [builtin, Sem.run_bind, r1, Result.andThen_ok, Sem.run_pure]
                exact ⟨v, M', φ', cv, h.2, r2.mem, r2.rep, r2.evo, rfl⟩
            | _ => rw [hd] at h; exact h.elim
        · exact h.elim
      | copy =>
        simp only at h
        split at h
        · next s x t t' he ht =>
          have harr : c.args.map a.eval = #[a.eval s, a.eval x] := by apply Array.toList_inj.1; rw [Array.toList_map, he]; rfl
          have htt : c.argTypes = #[t, t'] := by apply Array.toList_inj.1; exact ht
          cases hd : (X.T.row t).d with
          | slice el =>
            rw [hd] at h
            simp only at h
            cases hq : aCopy X.T el (evA e s) (evA e x) M with
            | none => rw [hq] at h; exact h.elim
            | some q =>
              obtain ⟨p, v, M'⟩ := q
              rw [hq] at h
              simp only at h
              rw [Obl.req_iff, forceV_eq] at h
              obtain ⟨cv, w', r1, r2⟩ := aCopy_ok (P := X.P) (t' := t') (ty := o.type) (nm := nm) hT hst.mem hd (hev s) (hev x) hq h.1
              rw [harr, htt]
              simp only [builtin, Sem.run_bind, r1, Result.andThen_ok, Sem.run_pure]
              exact ⟨v, M', φ, cv, h.2, r2.mem, r2.rep, r2.evo, rfl⟩
          | _ => rw [hd] at h; exact h.elim
        · exact h.elim
      | _ => exact gen h
  | binOp op t x y t2 =>
    rw [ho] at h
    simp only at h
    cases hq : aop X.T nm (.binOp op t x y t2) (evA e) M with
    | some q =>
      rw [hq] at h
      refine plain (fun c hc => ?_) (fun c hc => ?_) ?_
      · rw [ho] at hc; cases hc
      · rw [ho] at hc; cases hc
      · rw [ho, hq]; exact h
    | none =>
      rw [hq] at h
      simp only at h
      cases hb : (isNilC y && isSliceT (X.T.row t) && isEqB op && mayNil (evA e x)) with
      | false => rw [hb] at h; exact h.elim
      | true =>
        rw [hb] at h
        simp only [Bool.and_eq_true] at hb
        obtain ⟨b, hr⟩ := nilAny_ok (P := X.P) hT (ρ := a.eval) (fun _ => rfl) (hev x) x hb.1.1.1 hb.1.1.2 hb.1.2 hb.2
        refine Runs.left (v := .bool b) (M' := M) (nm := nm) (fun c hc => by rw [ho] at hc; cases hc) ?_ (match b with | true => h.1 | false => h.2)
        have := Runs.val (nm := nm) (v := .bool b) hst.mem hr rfl
        unfold execOp
        rw [ho]
        exact this
  | _ =>
    first
      | (refine plain (fun c hc => ?_) (fun c hc => ?_) ?_
         · rw [ho] at hc; cases hc
         · rw [ho] at hc; cases hc
         · rw [ho] at h ⊢; exact h)
      | (rw [ho] at h; exact h.elim)

end
end Go.Tri
