/-
  A REGION THAT DRAWS, BY ALL ITS ORDERS: for few operations; calls that write may stand in it.
-/
import Derived.Test.YtafibngpgllcfaaA35
namespace Go.Tri
variable {lo : Nat}
open Go.RowKit

/-- One operation of a region, then what follows. -/
def stepA (X : Cx) (ops : Array Oper) (o : Oper) (e : Env) (M : Mem) (K : Env → Mem → Prop) : Prop := match o.dst with
  | none => guardW ops o e (fun e => forceNo o.op M.length fun nm => opW X nm o e M fun _ M' => forceMo o.op M' fun M' => K e M') (fun e => K e M)
  | some d => guardW ops o e (fun e => forceNo o.op M.length fun nm => opW X nm o e M fun v M' => forceMo o.op M' fun M' => K ((d, v) :: e) M') (fun e => K ((d, .un) :: e) M)
def allI : List Nat → (Nat → Prop) → Prop
  | [], _ => True
  | [i], K => K i
  | i :: j :: r, K => K i ∧ allI (j :: r) K
theorem allI_mem {K : Nat → Prop} : ∀ {l : List Nat}, allI l K → ∀ i ∈ l, K i
  | [i], h, j, hj => by
    rw [List.mem_singleton] at hj
    rw [hj]
    exact h
  | i :: j :: r, h, q, hq => by
    rcases List.mem_cons.1 hq with rfl | hq
    · exact h.1
    · exact allI_mem h.2 q hq
/-- All orders. -/
def anyW (X : Cx) (ops : Array Oper) (Q : Env → Mem → Prop) : Nat → Array Bool → Env → Mem → Prop
  | 0, L, e, M => match Region.ready .any ops L with
    | [] => Q e M
    | _ :: _ => False
  | f + 1, L, e, M => match Region.ready .any ops L with
    | [] => Q e M
    | i :: r => allI (i :: r) fun i => match ops[i]? with
      | none => True
      | some o => stepA X ops o e M (anyW X ops Q f (L.setIfInBounds i true))

section
variable {X : Cx} {ops : Array Oper}
theorem anyW_ok {ro : Option Nat} (hT : TabOk X.P X.T) (hdst : ops.toList.all (dstOk X.nt) = true) {Q : Exit → Env → Mem → Prop} {base : Nat} {φ0 : Phi} {w0 : World} :
    ∀ (fuel : Nat) (L : Array Bool) (φ : Phi) (w : World) (M : Mem) (e : Env) (a : Act), St lo X.nt X.nb base φ w M e a → Evo w0 φ0 w φ → anyW X ops (Q .normal) fuel L e M →
      wpAnyIn (FZ ro) 0 X.P .any ops (Lift lo X base φ0 w0 Q) fuel L a w := by
  intro fuel
  induction fuel with
  | zero =>
    intro L φ w M e a hst hv h
    unfold anyW at h
    cases hr : Region.ready .any ops L with
    | nil => rw [hr] at h; exact ⟨hr, trivial, e, M, φ, h, hst, hv⟩
    | cons i r => rw [hr] at h; exact h.elim
  | succ f ih =>
    intro L φ w M e a hst hv h
    unfold anyW at h
    cases hr : Region.ready .any ops L with
    | nil =>
      rw [hr] at h
      exact ⟨fun _ => ⟨trivial, e, M, φ, h, hst, hv⟩, fun i hi => by rw [hr] at hi; cases hi⟩
    | cons i0 r =>
      rw [hr] at h
      refine ⟨fun hn => absurd (hr.symm.trans hn) (by simp), fun i hi => ?_⟩
      rw [hr] at hi
      have h := allI_mem h i hi
      have hnm : φ M.length = none := by
        cases hq : φ M.length with
        | none => rfl
        | some r =>
          obtain ⟨o', h1, _⟩ := hst.mem.obj _ r hq
          simp [Mem.get, List.getD] at h1
      unfold wpOpIn
      cases ho : ops[i]? with
      | none =>
        exfalso
        have hm : i ∈ Region.ready .any ops L := by rw [hr]; exact hi
        rw [mem_ready] at hm
        obtain ⟨_, o, h2, _⟩ := hm
        rw [ho] at h2
        cases h2
      | some o =>
        rw [ho] at h
        simp only at h ⊢
        have hd1 : dstOk X.nt o = true := by
          obtain ⟨hlt, he⟩ := Array.getElem?_eq_some_iff.1 ho
          exact List.all_eq_true.1 hdst _ (by rw [← he]; simp)
        unfold stepA at h
        simp only [forceMo_eq, forceNo_eq] at h
        cases hdst : o.dst with
        | none =>
          rw [hdst] at h
          simp only at h
          obtain ⟨e', hst', hg⟩ := guardW_ok hst h
          rcases hg with ⟨hw, hrun⟩ | ⟨hw, hskip⟩
          · rw [if_pos hw]
            have := opW_ok (ro := ro) (Q := Lift lo X base φ0 w0 Q) hT hst' hnm hrun
            refine Oper.wpIn_mono ?_ this
            rintro a' w' ⟨v, M', φ', cv, hK, hm', hr, hv', rfl⟩
            rw [hdst]
            exact ih _ φ' w' M' e' _ (hst'.evo hv' hm') (hv.trans hv') hK
          · rw [hw]
            simp only [Bool.false_eq_true, if_false]
            exact ⟨fun _ _ => trivial, ih _ φ w M e' _ hst' hv hskip⟩
        | some d =>
          rw [hdst] at h
          simp only at h
          have hdn : d < X.nt := by simp only [dstOk, hdst] at hd1; simpa using hd1
          obtain ⟨e', hst', hg⟩ := guardW_ok hst h
          rcases hg with ⟨hw, hrun⟩ | ⟨hw, hskip⟩
          · rw [if_pos hw]
            have := opW_ok (ro := ro) (Q := Lift lo X base φ0 w0 Q) hT hst' hnm hrun
            refine Oper.wpIn_mono ?_ this
            rintro a' w' ⟨v, M', φ', cv, hK, hm', hr, hv', rfl⟩
            rw [hdst]
            exact ih _ φ' w' M' _ _ (hst'.put' hm' hr hv' d hdn) (hv.trans hv') hK
          · rw [hw]
            simp only [Bool.false_eq_true, if_false]
            exact ⟨fun _ _ => trivial, ih _ φ w M _ _ (hst'.skip d) hv hskip⟩

/-- A REGION THAT DRAWS, BY ALL ITS ORDERS. -/
theorem AW_drawE (hT : TabOk X.P X.T) (hm : X.P.follows .mixedOrders = true) {id : Nat} (hdst : ops.toList.all (dstOk X.nt) = true) {Q : Exit → Env → Mem → Prop} {e : Env} {M : Mem}
    (h : anyW X ops (Q .normal) ops.size (Array.replicate ops.size false) e M) : AW X.P X.nt X.nb X.rd (.region id ops true) Q e M := by
  rw [AW_def]
  intro ro lo base φ w a hro hst
  refine wpIn_region_any hm ?_
  have hv : Evo w φ { w with drawn := w.drawn + 1 } φ := ⟨rfl, rfl, rfl, Nat.le_refl _, fun _ _ _ => rfl, fun t r ht hp _ hn => hn t r ht hp rfl, fun _ r h => ⟨r, h, rfl, rfl, Nat.le_refl _, fun _ => rfl⟩, (by first | exact Nat.le_refl _ | exact Nat.le_succ _)⟩
  exact anyW_ok (ro := ro) hT hdst _ _ φ _ M e a (hst.evo hv (hst.mem.evo hv fun _ _ _ _ => rfl)) hv h
end
end Go.Tri
