/-
  REGIONS THAT DRAW THEIR ORDER: one step, all steps.
-/
import Derived.Test.YtciefpkelgjboaaA18
namespace Go.Tri
variable {lo : Nat}
open Go.RowKit

section
variable {X : Cx} {ops : Array Oper} {base : Nat} {φ0 : Phi} {w0 : World} {e0 : Env} {M0 : Mem}
  {run : Nat → Bool} {val : Nat → V} {del : Nat → Option (Nat × Ob)} {Es : Nat → Nat → V} {Ms : Nat → Mem}

theorem env_step {nt : Nat} (hd : drawOk nt ops = true) {L L' : Nat → Bool} (hD : Down ops L) {i : Nat} {o : Oper} (ho : ops[i]? = some o) (hr : ∀ e ∈ o.after, Region.binds .any e = true → L e.on = true) (hi : L i = false)
    (hL : ∀ j, L' j = if i = j then true else L j) (t : Nat) : lastW L' (dstAt ops) val (Env.get e0) ops.size t = if dstAt ops i = some t then val i else lastW L (dstAt ops) val (Env.get e0) ops.size t := by
  have hisz : i < ops.size := (Array.getElem?_eq_some_iff.1 ho).1
  by_cases hdt : dstAt ops i = some t
  · rw [if_pos hdt]
    refine lastW_at hisz (by rw [hL]; simp) hdt (fun k hk hk2 hdk => ?_)
    rw [hL, if_neg (by omega)]
    have hb : ops[k]? = some ops[k] := Array.getElem?_eq_getElem hk2
    have hdst : ops[k].dst = some t := by simpa [dstAt, hb] using hdk
    have hot : o.dst = some t := by simpa [dstAt, ho] using hdt
    have := others hd hD ho hr hi hb (by omega) (conflicts_dst hdst (by simp [mention, hot]))
    cases hq : L k with
    | false => rfl
    | true => have := this.1 hq; omega
  · rw [if_neg hdt]
    exact lastW_congr fun k hk hdk => by rw [hL, if_neg (fun e => hdt (by rw [e]; exact hdk))]

theorem mem_step {nt : Nat} (hd : drawOk nt ops = true) (hW : Walk X ops e0 M0 run val del Es Ms) {L L' : Nat → Bool} (hD : Down ops L) {i : Nat} {o : Oper} (ho : ops[i]? = some o) (hr : ∀ e ∈ o.after, Region.binds .any e = true → L e.on = true) (hi : L i = false)
    {φ : Phi} (hun : φ (M0.length + i) = none) (hlo : ∀ k, k < ops.size → L k = true → loudAt ops k = true → ∀ t ob, del k = some (t, ob) → φ t ≠ none)
    (hL : ∀ j, L' j = if i = j then true else L j) (t : Nat) : (patch (memOf (selM ops L) del M0 ops.size) (del i)).get t = (memOf (selM ops L') del M0 ops.size).get t := by
  have hisz : i < ops.size := (Array.getElem?_eq_some_iff.1 ho).1
  have hsel : ∀ k, k ≠ i → selM ops L' k = selM ops L k := fun k hk => by unfold selM; rw [hL, if_neg (Ne.symm hk)]
  rw [patch_get, memOf_get, memOf_get]
  by_cases hdt : (del i).map (·.1) = some t
  · rw [if_pos hdt]
    symm
    refine lastW_at (sel := selM ops L') (dst := fun k => (del k).map (·.1)) (val := fun k => (del k).map (·.2)) hisz (by simp [selM, hL]) hdt (fun k hk hk2 hdk => ?_)
    rw [hsel k (by omega)]
    cases hdk' : del k with
    | none => rw [hdk'] at hdk; cases hdk
    | some q =>
      obtain ⟨s, ob⟩ := q
      rw [hdk'] at hdk
      have hs : s = t := by simpa using hdk
      subst hs
      cases hdi' : del i with
      | none => rw [hdi'] at hdt; cases hdt
      | some q' =>
        obtain ⟨s', ob'⟩ := q'
        rw [hdi'] at hdt
        have hs' : s' = s := by simpa using hdt
        subst hs'
        have hb : ops[k]? = some ops[k] := Array.getElem?_eq_getElem hk2
        cases hlk : loudAt ops k with
        | false =>
          exfalso
          rcases hW.name hk2 hdk' with h1 | ⟨h1, _⟩
          · rcases hW.name hisz hdi' with h2 | ⟨_, h2⟩
            · omega
            · rw [h1] at h2
              exact h2 (hW.unborn i (by omega) k (by omega))
          · rw [hlk] at h1; cases h1
        | true =>
          simp only [selM, hlk, Bool.not_true, Bool.false_or]
          cases hq : L k with
          | false => rfl
          | true =>
            exfalso
            cases hli : loudAt ops i with
            | true =>
              have h1 : isLoud o.op = true := by simpa [loudAt, ho] using hli
              have h2 : isLoud ops[k].op = true := by simpa [loudAt, hb] using hlk
              have := others hd hD ho hr hi hb (by omega) (conflicts_loud h2 (loud_rd h1) (by rw [loud_ld h1, Bool.and_false]))
              have := this.1 hq
              omega
            | false =>
              have hne := hlo k hk2 hq hlk s' ob hdk'
              rcases hW.name hisz hdi' with h2 | ⟨h2, _⟩
              · rw [h2] at hne; exact hne hun
              · rw [hli] at h2; cases h2
  · rw [if_neg hdt]
    exact lastW_congr fun k hk hdk => by
      rw [hsel k (fun e => hdt (by rw [← e]; exact hdk))]

/-- ONE STEP. -/
theorem draw_step {ro : Option Nat} (hT : TabOk X.P X.T) (hd : drawOk X.nt ops = true) (hW : Walk X ops e0 M0 run val del Es Ms) {L : Array Bool} {φ : Phi} {a : Act} {w : World} (hI : Inv lo X ops base φ0 w0 e0 M0 val del L φ a w) {i : Nat} {o : Oper} (ho : ops[i]? = some o)
    (hr : ∀ e ∈ o.after, Region.binds .any e = true → L.getD e.on false = true) (hi : L.getD i false = false) {K : Act → World → Prop} {Q : Exit → Act → World → Prop}
    (hK : ∀ φ' a' w', Inv lo X ops base φ0 w0 e0 M0 val del (L.setIfInBounds i true) φ' a' w' → K a' w') : wpOpIn (FZ ro) 0 X.P ops Q i K a w := by
  have hisz : i < ops.size := (Array.getElem?_eq_some_iff.1 ho).1
  have hLs : ∀ j, (L.setIfInBounds i true).getD j false = if i = j then true else L.getD j false := fun j => getD_set L i j (by rw [hI.size]; exact hisz)
  have hdst : dstAt ops i = o.dst := by simp [dstAt, ho]
  have hdn : ∀ d, o.dst = some d → d < X.nt := by
    intro d hod
    simp only [drawOk, Bool.and_eq_true] at hd
    have := List.all_eq_true.1 hd.1.1 o (by rw [List.mem_iff_getElem?]; exact ⟨i, by simpa using ho⟩)
    simp only [dstOk, hod] at this
    simpa using this
  have hdown : Down ops (fun j => (L.setIfInBounds i true).getD j false) := by
    intro j b hb hj e he hbind
    simp only [hLs] at hj ⊢
    by_cases hij : i = j
    · subst hij
      rw [ho] at hb
      cases hb
      have := hr e he hbind
      simp [this]
    · rw [if_neg hij] at hj
      have := hI.down j b hb hj e he hbind
      simp only at this
      simp [this]
  -- the frame behind the step
  have frame : ∀ (φ' : Phi) (w' : World) (cv : Value), MemRel X.nb base φ' w' (patch (memOf (selM ops (fun j => L.getD j false)) del M0 ops.size) (del i)) → Rep φ' base w' (val i) cv → Evo w φ w' φ' →
      (∀ t r, φ' t = some r → (∃ r0, φ t = some r0) ∨ t = M0.length + i) → (loudAt ops i = true → ∀ t ob, del i = some (t, ob) → φ' t ≠ none) →
      Inv lo X ops base φ0 w0 e0 M0 val del (L.setIfInBounds i true) φ' (a.put o.dst cv) w' := by
    intro φ' w' cv hm hrep hv hdom hborn
    refine ⟨by simp [hI.size], hdown, hm.congr (fun t => mem_step hd hW hI.down ho hr hi (hI.unborn i hisz hi) hI.louds hLs t), ?_, Nat.le_trans hI.low hv.size, ?_, fun t => ?_, fun k hk hkL => ?_, fun k hk hkL hlk t ob hdk => ?_, hI.evo.trans hv⟩
    · cases h : o.dst <;> exact hI.dfr.evo hv
    · cases h : o.dst with
      | none => exact hI.tsize
      | some d => simp [Act.put, hI.tsize]
    · rw [env_step hd hI.down ho hr hi hLs t, hdst]
      by_cases hdt : o.dst = some t
      · rw [if_pos hdt, hdt]
        simp only [Act.put]
        rw [show (a.tmps.setIfInBounds t cv).getD t undef = cv from by simp [Array.getD, hI.tsize, hdn t hdt]]
        exact hrep
      · rw [if_neg hdt]
        have : (a.put o.dst cv).tmps.getD t undef = a.tmps.getD t undef := by
          cases h : o.dst with
          | none => rfl
          | some d =>
            have hne : d ≠ t := fun e => hdt (by rw [h, e])
            simp only [Act.put]
            rw [Array.getD_eq_getD_getElem?, Array.getD_eq_getD_getElem?, Array.getElem?_setIfInBounds_ne hne]
        rw [this]
        exact Rep.evo hv (hI.slots t)
    · rw [hLs] at hkL
      by_cases hik : i = k
      · rw [if_pos hik] at hkL; cases hkL
      · rw [if_neg hik] at hkL
        have := hI.unborn k hk hkL
        cases hq : φ' (M0.length + k) with
        | none => rfl
        | some r =>
          rcases hdom _ r hq with ⟨r0, h0⟩ | h0
          · rw [this] at h0; cases h0
          · omega
    · rw [hLs] at hkL
      by_cases hik : i = k
      · subst hik; exact hborn hlk t ob hdk
      · rw [if_neg hik] at hkL
        have := hI.louds k hk hkL hlk t ob hdk
        cases hq : φ t with
        | none => exact absurd hq this
        | some r =>
          obtain ⟨r', h2, _⟩ := hv.names t r hq
          rw [h2]
          exact fun h => nomatch h
  -- the guard
  have guard : ∀ b, guardIs ops o (Es i) b → Region.wanted o (yielded ops a.tmps) = b := by
    intro b hb
    unfold guardIs at hb
    unfold Region.wanted
    cases hg : o.guard with
    | none => rw [hg] at hb; simpa using hb.symm
    | some q =>
      obtain ⟨j, want⟩ := q
      rw [hg] at hb
      simp only at hb ⊢
      cases hdj : (ops[j]?).bind (·.dst) with
      | none => rw [hdj] at hb; simp only at hb; simp [yielded, hdj, hb]
      | some d =>
        rw [hdj] at hb
        have hmen0 : d ∈ mention ops o := by simp [mention, hg, hdj]
        rcases hb.symm with ⟨rfl, u, hu⟩ | ⟨c, hc, rfl⟩
        · have hs := hI.slots d
          rw [slot_at hd hW hI.down ho hr hi hmen0, hu] at hs
          have hs : a.tmps.getD d undef = .tuple u := hs
          have hy : yielded ops a.tmps j = none := by
            simp only [yielded, hdj, Option.bind_some]
            rw [Array.getD_eq_getD_getElem?] at hs
            cases hq : a.tmps[d]? with
            | none => rfl
            | some u' => rw [hq] at hs; simp only [Option.getD_some] at hs; rw [hs]
          rw [hy]
          rfl
        have hmen : d ∈ mention ops o := by simp [mention, hg, hdj]
        have hs := hI.slots d
        rw [slot_at hd hW hI.down ho hr hi hmen, hc] at hs
        have hs : a.tmps.getD d undef = .bool c := hs
        have hget : a.tmps[d]? = some (.bool c) := by
          rw [Array.getD_eq_getD_getElem?] at hs
          cases hq : a.tmps[d]? with
          | none => rw [hq] at hs; simp [undef] at hs
          | some u => rw [hq] at hs; simpa using hs
        have hy : yielded ops a.tmps j = some c := by simp [yielded, hdj, hget]
        rw [hy]
        cases c <;> cases want <;> rfl
  unfold wpOpIn
  rw [ho]
  simp only
  obtain ⟨o', ho', hE, hM, hs⟩ := (hW.step i hisz).ex
  rw [ho] at ho'
  cases ho'
  rcases hs with ⟨hrun, hg, hD⟩ | ⟨hrun, hg, hval, hdel⟩
  · rw [guard true hg]
    simp only [if_true]
    refine Oper.wpIn_mono ?_ (DOk.run hT hD (fun x hx => operand_at hd hW hI ho hr hi hx) (fun hrd => by
      cases hwk : wkL ops i with
      | false => exact .inl (mem_at hd hW hI.down ho hr hi hrd hwk)
      | true => exact .inr ⟨wkL_ld ho hwk, mem_atN hd hW hI.down ho hr hi hwk hrun⟩) hI.mem (hI.unborn i hisz hi))
    rintro a' w' ⟨φ', cv, h1, h2, h3, rfl, h5, h6, h7⟩
    exact hK φ' _ w' (frame φ' w' cv h1 h2 h3 h5 (fun hl => h7 (by simpa [loudAt, ho] using hl)))
  · rw [guard false hg]
    simp only [Bool.false_eq_true, if_false]
    refine ⟨fun _ _ => trivial, ?_⟩
    refine hK φ _ w (frame φ w undef ?_ (by rw [hval]; rfl) (Evo.refl w φ) (fun t r h => .inl ⟨r, h⟩) (fun _ t ob h => by rw [hdel] at h; cases h))
    rw [hdel]
    exact hI.mem

theorem draw_any {ro : Option Nat} (hT : TabOk X.P X.T) (hd : drawOk X.nt ops = true) (hW : Walk X ops e0 M0 run val del Es Ms) {Qc : Exit → Act → World → Prop}
    (hQ : ∀ L φ a w, Inv lo X ops base φ0 w0 e0 M0 val del L φ a w → (∀ i, i < ops.size → L.getD i false = true) → Qc .normal a w) :
    ∀ (fuel : Nat) (L : Array Bool) (φ : Phi) (a : Act) (w : World), Inv lo X ops base φ0 w0 e0 M0 val del L φ a w → ((List.range ops.size).filter fun i => !L.getD i false).length ≤ fuel → wpAnyIn (FZ ro) 0 X.P .any ops Qc fuel L a w := by
  have done : ∀ (L : Array Bool) (φ : Phi) (a : Act) (w : World), Inv lo X ops base φ0 w0 e0 M0 val del L φ a w → Region.ready .any ops L = [] → ∀ i, i < ops.size → L.getD i false = true := by
    intro L φ a w hI hnil i
    induction i using Nat.strongRecOn with
    | _ i ih =>
      intro hi
      cases hq : L.getD i false with
      | true => rfl
      | false =>
        exfalso
        have hsz : i < L.size := by rw [hI.size]; exact hi
        have hmem : i ∈ Region.ready .any ops L := by
          rw [mem_ready]
          refine ⟨by rw [← hq]; simp [Array.getD, hsz], ops[i], Array.getElem?_eq_getElem hi, fun e he hb => ?_⟩
          simp only [drawOk, Bool.and_eq_true] at hd
          have := List.all_eq_true.1 hd.1.2 i (List.mem_range.2 hi)
          rw [Array.getElem?_eq_getElem hi] at this
          simp only at this
          have := Array.all_eq_true_iff_forall_mem.1 this e he
          simp only [hb, Bool.not_true, Bool.false_or] at this
          have hlt : e.on < i := by simpa using this
          exact ih e.on hlt (by omega)
        rw [hnil] at hmem
        cases hmem
  intro fuel
  induction fuel with
  | zero =>
    intro L φ a w hI hf
    have hall : ∀ i, i < ops.size → L.getD i false = true := by
      intro i hi
      cases hq : L.getD i false with
      | true => rfl
      | false =>
        exfalso
        have : i ∈ (List.range ops.size).filter fun i => !L.getD i false := List.mem_filter.2 ⟨List.mem_range.2 hi, by rw [hq]; rfl⟩
        have := List.length_pos_of_mem this
        omega
    refine ⟨?_, hQ L φ a w hI hall⟩
    cases hq : Region.ready .any ops L with
    | nil => rfl
    | cons i r =>
      exfalso
      have hm : i ∈ Region.ready .any ops L := by rw [hq]; simp
      rw [mem_ready] at hm
      obtain ⟨h1, o, ho, _⟩ := hm
      have hi : i < ops.size := (Array.getElem?_eq_some_iff.1 ho).1
      have hsz : i < L.size := by rw [hI.size]; exact hi
      have h2 := hall i hi
      have : L.getD i true = L.getD i false := by simp [Array.getD, hsz]
      rw [this, h2] at h1
      cases h1
  | succ fuel ih =>
    intro L φ a w hI hf
    refine ⟨fun hnil => hQ L φ a w hI (done L φ a w hI hnil), fun i hi => ?_⟩
    rw [mem_ready] at hi
    obtain ⟨h1, o, ho, he⟩ := hi
    have hisz : i < ops.size := (Array.getElem?_eq_some_iff.1 ho).1
    have hsz : i < L.size := by rw [hI.size]; exact hisz
    have hif : L.getD i false = false := by rw [← h1]; simp [Array.getD, hsz]
    refine draw_step hT hd hW hI ho he hif (fun φ' a' w' hI' => ih _ φ' a' w' hI' ?_)
    have := count_lt (n := ops.size) (i := i) (f := fun j => !L.getD j false) (g := fun j => !(L.setIfInBounds i true).getD j false) hisz (by simp [hif]) (by simp only [getD_set L i i hsz]; rfl) (fun j hj => by
      simp only [getD_set L i j hsz] at hj
      by_cases hij : i = j
      · rw [if_pos hij] at hj; cases hj
      · rw [if_neg hij] at hj; exact hj)
    omega

/-- What a walk in the text's order says of every order. -/
theorem draw_core {ro : Option Nat} (hT : TabOk X.P X.T) (hd : drawOk X.nt ops = true) {Kf : Env → Mem → Prop} {e : Env} {M : Mem} (h : drawW X ops M.length 0 ops.toList [] [] e M Kf) {base : Nat} {φ : Phi} {w : World} {a : Act} (hst : St lo X.nt X.nb base φ w M e a)
    {Qc : Exit → Act → World → Prop} (hQ : ∀ e' M' φ' a' w', Kf e' M' → St lo X.nt X.nb base φ' w' M' e' a' → Evo w φ w' φ' → Qc .normal a' w') :
    wpAnyIn (FZ ro) 0 X.P .any ops Qc ops.size (Array.replicate ops.size false) a { w with drawn := w.drawn + 1 } := by
  obtain ⟨run, val, del, Es, Ms, h1, h2, h3, hS, e', h4, h5⟩ := drawW_trace ops.toList 0 [] [] e M (fun j => by simp) h
  have hW : Walk X ops e M run val del Es Ms := ⟨h1, h2, by simpa using hS, fun j hj => h3 j (Nat.zero_le j) (by simpa using hj)⟩
  simp only [Nat.zero_add, Array.length_toList] at h4 h5
  have hevo : Evo w φ { w with drawn := w.drawn + 1 } φ := ⟨rfl, rfl, rfl, Nat.le_refl _, fun _ _ _ => rfl, fun t r ht hp _ hn => hn t r ht hp rfl, fun _ r h => ⟨r, h, rfl, rfl, Nat.le_refl _, fun _ => rfl⟩⟩
  have hmem : MemRel X.nb base φ { w with drawn := w.drawn + 1 } M := hst.mem.evo hevo (fun _ _ _ _ => rfl)
  have hdom : ∀ k, φ (M.length + k) = none := by
    intro k
    cases hq : φ (M.length + k) with
    | none => rfl
    | some r =>
      obtain ⟨o, ho, _⟩ := hmem.obj _ r hq
      simp [Mem.get, List.getD] at ho
  have hLf : ∀ j, (Array.replicate ops.size false).getD j false = false := by
    intro j
    simp only [Array.getD, Array.size_replicate]
    split
    · rw [Array.getInternal_eq_getElem, Array.getElem_replicate]
    · rfl
  refine (draw_any (ro := ro) (lo := lo) (base := base) (φ0 := φ) (w0 := w) hT hd hW ?_ ops.size _ φ a _ ?_ ?_)
  · intro L φ' a' w' hI hall
    refine hQ e' (Ms ops.size) φ' a' w' h5 ⟨hI.mem.congr fun t => ?_, hI.dfr, hI.low, hI.tsize, fun t => ?_⟩ hI.evo
    · rw [hW.mem _ (Nat.le_refl _), memOf_get, memOf_get]
      exact lastW_congr fun k hk _ => by simp [selM, hall k hk]
    · have := hI.slots t
      rw [h4, hW.env _ (Nat.le_refl _)]
      rw [lastW_congr (sel' := fun _ => true) (fun k hk _ => hall k hk)] at this
      exact this
  · refine ⟨by simp, fun i o ho hL => ?_, ⟨fun t r ht => ?_, hmem.inj, hmem.own, hmem.le⟩, hst.dfr.evo hevo, hst.low, hst.size, fun t => ?_, fun k hk _ => hdom k, fun k hk hL => ?_, hevo⟩
    · simp only [hLf] at hL; cases hL
    · obtain ⟨o, ho, hrel⟩ := hmem.obj t r ht
      refine ⟨o, ?_, hrel⟩
      rw [memOf_get, ← ho]
      refine lastW_none fun k hk hdk => ?_
      cases hdd : del k with
      | none => rw [hdd] at hdk; cases hdk
      | some q =>
        obtain ⟨s, ob⟩ := q
        rw [hdd] at hdk
        have hs : s = t := by simpa using hdk
        subst hs
        cases hl : loudAt ops k with
        | true =>
          simp only [selM, hl, Bool.not_true, Bool.false_or]
          exact hLf k
        | false =>
          exfalso
          rcases hW.name hk hdd with h | ⟨h, _⟩
          · rw [h, hdom k] at ht; cases ht
          · rw [hl] at h; cases h
    · rw [lastW_none (fun k _ _ => hLf k)]
      exact Rep.evo hevo (hst.slots t)
    · rw [hLf] at hL; cases hL
  · have : ((List.range ops.size).filter fun i => !(Array.replicate ops.size false).getD i false).length ≤ (List.range ops.size).length := List.length_filter_le _ _
    simpa using this

/-- A REGION THAT DRAWS: one walk in the text's order. -/
theorem AW_draw (hT : TabOk X.P X.T) (hm : X.P.follows .mixedOrders = true) {id : Nat} (hd : drawOk X.nt ops = true) {Q : Exit → Env → Mem → Prop} {e : Env} {M : Mem} (h : drawW X ops M.length 0 ops.toList [] [] e M (Q .normal)) :
    AW X.P X.nt X.nb X.rd (.region id ops true) Q e M := by
  rw [AW_def]
  intro ro lo base φ w a hro hst
  exact wpIn_region_any hm (draw_core hT hd h hst (fun e' M' φ' a' w' hq hst' hv => ⟨trivial, e', M', φ', hq, hst', hv⟩))

end
end Go.Tri
