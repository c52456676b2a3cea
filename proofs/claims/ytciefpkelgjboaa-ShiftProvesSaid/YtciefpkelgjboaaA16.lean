/-
  REGIONS THAT DRAW THEIR ORDER, FOURTH PART: the theorem.
-/
import Derived.Test.YtciefpkelgjboaaA15
namespace Go.Tri
variable {lo : Nat}
open Go.RowKit

section
variable {X : Cx}

/-- What an operation leaves, with its names. -/
def LeftD (X : Cx) (base nm : Nat) (φ : Phi) (w : World) (M : Mem) (o : Oper) (a : Act) (v : V) (d : Option (Nat × Ob)) : Act → World → Prop := fun a' w' =>
  ∃ φ' cv, MemRel X.nb base φ' w' (patch M d) ∧ Rep φ' base w' v cv ∧ Evo w φ w' φ' ∧ a' = a.put o.dst cv ∧ (∀ t r, φ' t = some r → (∃ r0, φ t = some r0) ∨ t = nm) ∧
    (∀ t ob, d = some (t, ob) → t = nm ∨ (isLoud o.op = true ∧ φ t ≠ none)) ∧ (isLoud o.op = true → ∀ t ob, d = some (t, ob) → φ' t ≠ none)

theorem le_refl' (M : Mem) : M.le M := fun _ _ h => h

theorem mem_args (c : Call) {x : Operand} (h : x ∈ c.args.toList) : x ∈ c.operands := by
  simp only [Call.operands, Array.mem_append]
  exact .inr (by simpa using h)

theorem DOk.run {ro : Option Nat} (hT : TabOk X.P X.T) {nm base : Nat} {φ : Phi} {w : World} {M M' : Mem} {o : Oper} {a : Act} {ev : Operand → V} {v : V} {d : Option (Nat × Ob)} (h : DOk X nm o ev M v d)
    (hev : ∀ x ∈ o.op.operands, Rep φ base w (ev x) (a.eval x)) (hle : isRd o.op = true → M.le M' ∨ (isLd o.op = true ∧ M.leN (wkName ev o.op) M')) (hm : MemRel X.nb base φ w M') (hn : φ nm = none) {Q : Exit → Act → World → Prop} :
    o.wpIn (FZ ro) 0 X.P a w (LeftD X base nm φ w M' o a v d) Q := by
  classical
  have hev' : ∀ x, Rep φ base w (if x ∈ o.op.operands then ev x else .any) (a.eval x) := by
    intro x
    split
    · next hx => exact hev x hx
    · trivial
  cases h with
  | op p d hld hc h hd hp =>
    have hcg : aop X.T nm o.op (fun x => if x ∈ o.op.operands then ev x else .any) M' = some (p, v, patch M' d) := by
      have hgo : aop X.T nm o.op ev M' = some (p, v, patch M' d) := by
        cases hld' : isLd o.op with
        | true =>
          obtain ⟨rfl, h4⟩ := hld hld'
          rcases hle (by cases ho : o.op <;> rw [ho] at hld' <;> first | rfl | cases hld') with h5 | ⟨_, h5⟩
          · exact h4 M' fun n ob _ hg => h5 n ob hg
          · exact h4 M' h5
        | false =>
          refine h M' fun hr => ?_
          rcases hle hr with h5 | ⟨h5, _⟩
          · exact h5
          · rw [hld'] at h5; cases h5
      rw [← hgo]
      exact aop_congr fun x hx => by simp [hx]
    obtain ⟨cv, w', φ', hr, hs⟩ := aop_ok (P := X.P) hT hm hn hev' (fun _ => rfl) hc hcg hp
    have hname : ∀ t ob, d = some (t, ob) → t = nm ∨ (isLoud o.op = true ∧ φ t ≠ none) := by
      intro t ob he
      rcases hd t ob he with ⟨h1, _⟩ | ⟨h1, _, t2, x, y, hst, ver, i, k, hev1⟩
      · exact .inl h1
      · refine .inr ⟨h1, fun hnone => ?_⟩
        have := hev x (by rw [hst]; simp [Op.operands])
        rw [hev1] at this
        obtain ⟨r, hr, _⟩ := this
        rw [hnone] at hr
        cases hr
    have hborn : isLoud o.op = true → ∀ t ob, d = some (t, ob) → φ' t ≠ none := by
      intro hl t ob he
      rcases hd t ob he with ⟨_, h2⟩ | ⟨_, _, t2, x, y, hst, ver, i, k, hev1⟩
      · rw [hl] at h2; cases h2
      · have := hev x (by rw [hst]; simp [Op.operands])
        rw [hev1] at this
        obtain ⟨r, hr, _⟩ := this
        obtain ⟨r', h2, _⟩ := hs.evo.names t r hr
        rw [h2]
        exact fun h => nomatch h
    unfold Oper.wpIn
    refine ⟨fun _ _ => trivial, ?_⟩
    rw [Oper.semAt_eq _ _ _ (fun c e => by rw [e] at hcg; simp [aop] at hcg)]
    rcases hr with hr | ⟨hr, rfl⟩
    · rw [hr]
      exact ⟨φ', _, hs.mem, hs.rep, hs.evo, rfl, hs.dom, hname, hborn⟩
    · rw [hr]
      exact ⟨φ', _, hs.mem, hs.rep, hs.evo, rfl, hs.dom, hname, hborn⟩
  | app c s x t el p n ob ho hc ha ht hd h hname hvn hp =>
    have hl : isLoud o.op = true := by rw [ho]; simp [isLoud, hc]
    have hrd : isRd o.op = true := by rw [ho]; rfl
    have ms : s ∈ o.op.operands := by rw [ho]; exact mem_args c (by rw [ha]; simp)
    have mx : x ∈ o.op.operands := by rw [ho]; exact mem_args c (by rw [ha]; simp)
    obtain ⟨cv, w', φ', r1, r2⟩ := aAppend_ok (P := X.P) (ty := o.type) hT hm hn hd (hev s ms) (hev x mx) (h M' ((hle hrd).resolve_right (by rw [ho]; exact fun h => nomatch h.1))) hp
    have harr : c.args.map a.eval = #[a.eval s, a.eval x] := by apply Array.toList_inj.1; rw [Array.toList_map, ha]; rfl
    have htt : c.argTypes = #[t, t] := by apply Array.toList_inj.1; exact ht
    have hrun : (execOp a.eval o).run X.P w = .ok (.value cv) w' := by
      unfold execOp
      rw [ho]
      simp only [resolve, hc, Sem.run_bind, Sem.run_pure, Result.andThen_ok, invoke]
      rw [harr, htt]
      simp only [builtin, Sem.run_bind, r1, Result.andThen_ok, Sem.run_pure]
    unfold Oper.wpIn
    refine ⟨fun _ _ => trivial, ?_⟩
    rw [Oper.semAt_eq _ _ _ (by rw [ho]; exact fun _ h => nomatch h)]
    rw [hrun]
    have hborn : φ' n ≠ none := by
      obtain ⟨ver, len, rfl⟩ := hvn
      obtain ⟨r, hr, _⟩ := r2.rep
      rw [hr]
      exact fun h => nomatch h
    refine ⟨φ', cv, r2.mem, r2.rep, r2.evo, rfl, r2.dom, fun t' ob' he => ?_, fun _ t' ob' he => by cases he; exact hborn⟩
    cases he
    rcases hname with h1 | ⟨_, ver, off, len, h1⟩
    · exact .inl h1
    · refine .inr ⟨hl, fun hnone => ?_⟩
      have := hev s ms
      rw [h1] at this
      obtain ⟨r, hr, _⟩ := this
      rw [hnone] at hr
      cases hr
  | cpy c s x t t' el p n ob ho hc ha ht hd h hname hp =>
    have hl : isLoud o.op = true := by rw [ho]; simp [isLoud, hc]
    have hrd : isRd o.op = true := by rw [ho]; rfl
    have ms : s ∈ o.op.operands := by rw [ho]; exact mem_args c (by rw [ha]; simp)
    have mx : x ∈ o.op.operands := by rw [ho]; exact mem_args c (by rw [ha]; simp)
    obtain ⟨cv, w', r1, r2⟩ := aCopy_ok (P := X.P) (t' := t') (ty := o.type) (nm := nm) hT hm hd (hev s ms) (hev x mx) (h M' ((hle hrd).resolve_right (by rw [ho]; exact fun h => nomatch h.1))) hp
    have harr : c.args.map a.eval = #[a.eval s, a.eval x] := by apply Array.toList_inj.1; rw [Array.toList_map, ha]; rfl
    have htt : c.argTypes = #[t, t'] := by apply Array.toList_inj.1; exact ht
    have hrun : (execOp a.eval o).run X.P w = .ok (.value cv) w' := by
      unfold execOp
      rw [ho]
      simp only [resolve, hc, Sem.run_bind, Sem.run_pure, Result.andThen_ok, invoke]
      rw [harr, htt]
      simp only [builtin, Sem.run_bind, r1, Result.andThen_ok, Sem.run_pure]
    unfold Oper.wpIn
    refine ⟨fun _ _ => trivial, ?_⟩
    rw [Oper.semAt_eq _ _ _ (by rw [ho]; exact fun _ h => nomatch h)]
    rw [hrun]
    have hborn : φ n ≠ none := by
      obtain ⟨_, ver, off, len, h1⟩ := hname
      have := hev s ms
      rw [h1] at this
      obtain ⟨r, hr, _⟩ := this
      rw [hr]
      exact fun h => nomatch h
    exact ⟨φ, cv, r2.mem, r2.rep, r2.evo, rfl, r2.dom, fun t' ob' he => by cases he; exact .inr ⟨hl, hborn⟩, fun _ t' ob' he => by cases he; exact hborn⟩
  | blt c b p ho hc hb h hp =>
    have hrd : isRd o.op = true := by rw [ho]; rfl
    have hmap : c.args.toList.map ev = c.args.toList.map (fun x => if x ∈ o.op.operands then ev x else .any) := by
      refine List.map_congr_left fun x hx => ?_
      rw [if_pos]
      rw [ho]
      exact mem_args c hx
    have hq := h M' ((hle hrd).resolve_right (by rw [ho]; exact fun h => nomatch h.1))
    rw [hmap] at hq
    obtain ⟨_, cv, r1, r2⟩ := aBuiltin_ok (ty := o.type) (cs := c.args.map fun | .const _ => true | _ => false) hT hm hev' hq hp
    have hrun : (execOp a.eval o).run X.P w = .ok (.value cv) w := by
      unfold execOp
      rw [ho]
      simp only [resolve, hc, Sem.run_bind, Sem.run_pure, Result.andThen_ok, invoke]
      exact r1
    unfold Oper.wpIn
    refine ⟨fun _ _ => trivial, ?_⟩
    rw [Oper.semAt_eq _ _ _ (by rw [ho]; exact fun _ h => nomatch h)]
    rw [hrun]
    exact ⟨φ, cv, hm, r2, Evo.refl w φ, rfl, fun t r h => .inl ⟨r, h⟩, (fun t ob he => nomatch he), (fun _ t ob he => nomatch he)⟩
  | fapp c s x t el ys p ho hc ha ht hd hs h hp =>
    have hrd : isRd o.op = true := by rw [ho]; rfl
    have ms : s ∈ o.op.operands := by rw [ho]; exact mem_args c (by rw [ha]; simp)
    have mx : x ∈ o.op.operands := by rw [ho]; exact mem_args c (by rw [ha]; simp)
    have harr : c.args.map a.eval = #[a.eval s, a.eval x] := by apply Array.toList_inj.1; rw [Array.toList_map, ha]; rfl
    have htt : c.argTypes = #[t, t] := by apply Array.toList_inj.1; exact ht
    have hvs := hev s ms
    rw [hs] at hvs
    obtain ⟨cv, w', r1, r2⟩ := fullApp_ok (P := X.P) (ty := o.type) (nm := nm) hT hm hd hvs (hev x mx) (h M' ((hle hrd).resolve_right (by rw [ho]; exact fun h => nomatch h.1))) hp
    have hrun : (execOp a.eval o).run X.P w = .ok (.value cv) w' := by
      unfold execOp
      rw [ho]
      simp only [resolve, hc, Sem.run_bind, Sem.run_pure, Result.andThen_ok, invoke, harr, htt, builtin, r1]
    unfold Oper.wpIn
    refine ⟨fun _ _ => trivial, ?_⟩
    rw [Oper.semAt_eq _ _ _ (by rw [ho]; exact fun _ h => nomatch h)]
    rw [hrun]
    exact ⟨φ, cv, r2.mem, r2.rep, r2.evo, rfl, fun t r h => .inl ⟨r, h⟩, (fun t ob he => nomatch he), (fun _ t ob he => nomatch he)⟩
  | imm c g ts xs ho hC h =>
    unfold AImm at h
    obtain ⟨h0, h1⟩ := h
    obtain ⟨args, s1, s2, s3⟩ := hC.run h0 φ base w a.eval o.type (fun x hx => hev x (by rw [ho]; exact hx))
    have hcalls := h1 _ base φ w M' args hm s1 s2
    have hrun : (execOp a.eval o).run X.P w = .ok (.enter g args) w := by
      unfold execOp
      rw [ho]
      exact s3
    unfold Oper.wpIn
    refine ⟨fun _ _ => trivial, ?_⟩
    rw [Oper.semAt_eq _ _ _ (by rw [ho]; exact fun _ h => nomatch h)]
    rw [hrun]
    refine ⟨FZ_depth, callsIn_FZ (hcalls.mono fun e' w' hq => ?_)⟩
    obtain ⟨u, R, rfl, rfl, hm2, hR, hevo⟩ := hq
    exact ⟨φ, u, hm2, hR, hevo, rfl, fun t r h => .inl ⟨r, h⟩, (fun t ob he => nomatch he), (fun _ t ob he => nomatch he)⟩
  | pure c g ts xs ho hC hv h =>
    have hrd : isRd o.op = true := by rw [ho]; rfl
    unfold APure at h
    obtain ⟨h0, h1⟩ := h
    have hM := (hle hrd).resolve_right (by rw [ho]; exact fun h => nomatch h.1)
    obtain ⟨args, s1, s2, s3⟩ := hC.run h0 φ base w a.eval o.type (fun x hx => hev x (by rw [ho]; exact hx))
    have harg : ∀ (t : TypeId) (y : V) (u : Value), Rep φ base w y u → (verOk M y).holds → Rep (fun _ => none) 0 w (byval M 4 (asInts X.T t y)) u := by
      intro t y u hr hvv
      refine byval_ok hm hM 4 (asInts_ok (T := X.T) (t := t) hr) ?_
      cases y with
      | emp =>
        simp only [asInts]
        split
        · split <;> trivial
        · trivial
      | _ => exact hvv
    have hvs : ∀ l : List V, (verOks M l).holds → ∀ i, (verOk M (l.getD i .any)).holds := by
      intro l
      induction l with
      | nil => intro _ i; simp [verOk, Obl.holds]
      | cons x r ih =>
        rintro ⟨a, b⟩ i
        cases i with
        | zero => exact a
        | succ i => simpa using ih b i
    have hcalls := h1 w args (by simp [s1, hC.len]) (fun i => by
      by_cases hi : i < xs.length
      · have hi2 : i < ts.length := by have := hC.len; omega
        have e1 : ((xs.zip ts).map fun (x, t) => byval M 4 (asInts X.T t x)).getD i .any = byval M 4 (asInts X.T ts[i] (xs.getD i .any)) := by
          simp only [List.getD, List.getElem?_map]
          rw [List.getElem?_eq_getElem (by simp only [List.length_zip]; omega), List.getElem?_eq_getElem hi]
          simp
        rw [e1]
        exact harg _ _ _ (s2 i) (hvs _ hv i)
      · have e1 : ((xs.zip ts).map fun (x, t) => byval M 4 (asInts X.T t x)).getD i .any = .any := by
          simp only [List.getD]
          rw [List.getElem?_eq_none (by simp only [List.length_map, List.length_zip]; omega)]
          rfl
        rw [e1]
        trivial)
    have hrun : (execOp a.eval o).run X.P w = .ok (.enter g args) w := by
      unfold execOp
      rw [ho]
      exact s3
    unfold Oper.wpIn
    refine ⟨fun _ _ => trivial, ?_⟩
    rw [Oper.semAt_eq _ _ _ (by rw [ho]; exact fun _ h => nomatch h)]
    rw [hrun]
    refine ⟨FZ_depth, callsIn_FZ (hcalls.mono fun e' w' hq => ?_)⟩
    obtain ⟨u, R, rfl, rfl, hF, hR, hevo⟩ := hq
    have hmw : ∀ t r, φ t = some r → 0 < r.cap → w'.heap[r.g]? = w.heap[r.g]? := fun t r ht hp => hevo.block r.g (hm.lt ht hp) (notLive_none _)
    have hev2 : Evo w φ w' φ := ⟨hevo.os, hevo.tape, hevo.output, hevo.size, fun b hb _ => hevo.block b hb (notLive_none b), fun t r ht hp _ hn => hn t r ht hp rfl, fun _ r h => ⟨r, h, rfl, rfl, Nat.le_refl _, fun _ => rfl⟩⟩
    exact ⟨φ, u, hm.evo hev2 hmw, Rep_fresh (fun t r ht hp => hm.lt ht hp) hm.le R u hF hR, hev2, rfl, fun t r h => .inl ⟨r, h⟩, (fun t ob he => nomatch he), (fun _ t ob he => nomatch he)⟩

end
end Go.Tri
