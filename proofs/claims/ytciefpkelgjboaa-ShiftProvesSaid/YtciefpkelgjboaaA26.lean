/-
  REGIONS THAT DRAW, WITH A CALL THAT WRITES: all that stands before it comes before it, and what stands behind it goes by the text.
-/
import Derived.Test.YtciefpkelgjboaaA25
namespace Go.Tri
variable {lo : Nat}
open Go.RowKit

section
variable {X : Cx} {ops : Array Oper}

/-- The first c are done, and k more. -/
def listedTo (n k : Nat) : Array Bool := Array.replicate k true ++ Array.replicate (n - k) false

theorem listedTo_get {n k i : Nat} (h : k ≤ n) (d : Bool) : (listedTo n k).getD i d = if i < k then true else if i < n then false else d := by
  unfold listedTo
  rw [Array.getD_eq_getD_getElem?]
  by_cases h1 : i < k
  · rw [if_pos h1, Array.getElem?_append_left (by simpa using h1)]
    simp [h1]
  · rw [if_neg h1, Array.getElem?_append_right (by simp; omega)]
    simp only [Array.size_replicate]
    by_cases h2 : i < n
    · rw [if_pos h2]
      simp [show i - k < n - k from by omega]
    · rw [if_neg h2]
      rw [Array.getElem?_eq_none (by simp; omega)]
      rfl

theorem listedTo_set {n k : Nat} (h : k < n) : (listedTo n k).setIfInBounds k true = listedTo n (k + 1) := by
  apply Array.ext
  · simp [listedTo]; omega
  · intro i h1 h2
    have e1 := listedTo_get (n := n) (k := k) (i := i) (by omega) false
    have e2 := listedTo_get (n := n) (k := k + 1) (i := i) (by omega) false
    rw [Array.getElem_setIfInBounds (by simpa using h1)]
    have g1 : (listedTo n k)[i]'(by simpa using h1) = (listedTo n k).getD i false := by simp [Array.getD, show i < (listedTo n k).size by simpa using h1]
    have g2 : (listedTo n (k + 1))[i]'h2 = (listedTo n (k + 1)).getD i false := by simp [Array.getD, h2]
    rw [g1, g2, e1, e2]
    by_cases hi : k = i
    · subst hi; simp
    · rw [if_neg hi]
      by_cases hik : i < k
      · rw [if_pos hik, if_pos (by omega)]
      · rw [if_neg (show ¬ i < k + 1 by omega)]; simp [hik]

theorem down_to {k : Nat} (hk : k ≤ ops.size) (hed : ∀ i o, ops[i]? = some o → ∀ e ∈ o.after, Region.binds .any e = true → e.on < i) : Down ops (fun i => (listedTo ops.size k).getD i false) := by
  intro i o ho hL e he hb
  have hi : i < ops.size := (Array.getElem?_eq_some_iff.1 ho).1
  have := hed i o ho e he hb
  simp only [listedTo_get hk] at hL ⊢
  by_cases h1 : i < k
  · rw [if_pos (by omega)]
  · rw [if_neg h1, if_pos hi] at hL; cases hL

/-- Behind the cut the text's order is the only one. -/
theorem any_chain {ro : Option Nat} (hT : TabOk X.P X.T) {c : Nat} (hed : ∀ i o, ops[i]? = some o → ∀ e ∈ o.after, Region.binds .any e = true → e.on < i) (hdst : ops.toList.all (dstOk X.nt) = true)
    (hch : ∀ i, i < ops.size → c < i → ((befs ops).getD i 0).testBit (i - 1) = true) {Q : Exit → Env → Mem → Prop} {base : Nat} {φ0 : Phi} {w0 : World} :
    ∀ (m k fuel : Nat), ops.size - k = m → c ≤ k → k ≤ ops.size → m ≤ fuel → ∀ (φ : Phi) (w : World) (M : Mem) (e : Env) (a : Act), St lo X.nt X.nb base φ w M e a → Evo w0 φ0 w φ → opsW X ops (ops.toList.drop k) e M (Q .normal) →
      wpAnyIn (FZ ro) 0 X.P .any ops (Lift lo X base φ0 w0 Q) fuel (listedTo ops.size k) a w := by
  have notready : ∀ k i, c ≤ k → k < ops.size → i ∈ Region.ready .any ops (listedTo ops.size k) → i = k := by
    intro k i hck hk hi
    rw [mem_ready] at hi
    obtain ⟨h1, o, ho, he⟩ := hi
    have hisz : i < ops.size := (Array.getElem?_eq_some_iff.1 ho).1
    rw [listedTo_get (by omega)] at h1
    have hik : ¬ i < k := fun h => by rw [if_pos h] at h1; cases h1
    by_cases hik2 : i = k
    · exact hik2
    · exfalso
      have := befs_ok ops _ (down_to (k := k) (by omega) hed) i o (i - 1) ho he (hch i hisz (by omega))
      rw [listedTo_get (by omega), if_neg (by omega), if_pos (by omega)] at this
      cases this
  intro m
  induction m with
  | zero =>
    intro k fuel hm hck hk hf φ w M e a hst hv h
    have hke : k = ops.size := by omega
    subst hke
    have hl : ops.toList.drop ops.size = [] := by rw [List.drop_eq_nil_iff]; simp
    rw [hl] at h
    have hQ : Lift lo X base φ0 w0 Q .normal a w := ⟨trivial, e, M, φ, h, hst, hv⟩
    have hnil : Region.ready .any ops (listedTo ops.size ops.size) = [] := by
      cases hq : Region.ready .any ops (listedTo ops.size ops.size) with
      | nil => rfl
      | cons i r =>
        exfalso
        have hm : i ∈ Region.ready .any ops (listedTo ops.size ops.size) := by rw [hq]; simp
        rw [mem_ready] at hm
        obtain ⟨h1, o, ho, _⟩ := hm
        have hisz : i < ops.size := (Array.getElem?_eq_some_iff.1 ho).1
        rw [listedTo_get (Nat.le_refl _), if_pos hisz] at h1
        cases h1
    cases fuel with
    | zero => exact ⟨hnil, hQ⟩
    | succ f => exact ⟨fun _ => hQ, fun i hi => by rw [hnil] at hi; cases hi⟩
  | succ m ih =>
    intro k fuel hm hck hk hf φ w M e a hst hv h
    have hklt : k < ops.size := by omega
    cases fuel with
    | zero => omega
    | succ f =>
      have ho : ops[k]? = some ops[k] := Array.getElem?_eq_getElem hklt
      refine ⟨fun hnil => ?_, fun i hi => ?_⟩
      · exfalso
        have : k ∈ Region.ready .any ops (listedTo ops.size k) := by
          rw [mem_ready]
          refine ⟨by rw [listedTo_get hk, if_neg (by omega), if_pos hklt], ops[k], ho, fun e he hb => ?_⟩
          rw [listedTo_get hk, if_pos (hed k _ ho e he hb)]
        rw [hnil] at this
        cases this
      · have := notready k i hck hklt hi
        subst this
        rw [listedTo_set hklt]
        have hdrop : ops.toList.drop i = ops[i] :: ops.toList.drop (i + 1) := by
          rw [List.drop_eq_getElem_cons (by simpa using hklt)]
          simp
        rw [hdrop] at h
        have hd1 : dstOk X.nt ops[i] = true := List.all_eq_true.1 hdst _ (by simp)
        have hnm : φ M.length = none := by
          cases hq : φ M.length with
          | none => rfl
          | some r =>
            obtain ⟨o', h1, _⟩ := hst.mem.obj _ r hq
            simp [Mem.get, List.getD] at h1
        unfold wpOpIn
        rw [ho]
        simp only
        generalize ops[i] = o at *
        unfold opsW at h
        simp only [forceMo_eq, forceNo_eq] at h
        cases hdst : o.dst with
        | none =>
          rw [hdst] at h
          simp only at h
          obtain ⟨e', hst', hg⟩ := guardW_ok hst h
          rcases hg with ⟨hw, hrun⟩ | ⟨hw, hskip⟩
          · rw [if_pos hw]
            have := opW_ok (ro := ro) (Q := Lift lo X base φ0 w0 Q) hT hst' hnm hrun
            refine Oper.wpIn_mono ?_ this
            rintro a' w' ⟨v, M', φ', cv, hK, hm', hr, hv', rfl⟩
            rw [hdst]
            exact ih (i + 1) f (by omega) (by omega) (by omega) (by omega) φ' w' M' e' _ (hst'.evo hv' hm') (hv.trans hv') hK
          · rw [hw]
            simp only [Bool.false_eq_true, if_false]
            exact ⟨fun _ _ => trivial, ih (i + 1) f (by omega) (by omega) (by omega) (by omega) φ w M e' _ hst' hv hskip⟩
        | some d =>
          rw [hdst] at h
          simp only at h
          have hdn : d < X.nt := by simp only [dstOk, hdst] at hd1; simpa using hd1
          obtain ⟨e', hst', hg⟩ := guardW_ok hst h
          rcases hg with ⟨hw, hrun⟩ | ⟨hw, hskip⟩
          · rw [if_pos hw]
            have := opW_ok (ro := ro) (Q := Lift lo X base φ0 w0 Q) hT hst' hnm hrun
            refine Oper.wpIn_mono ?_ this
            rintro a' w' ⟨v, M', φ', cv, hK, hm', hr, hv', rfl⟩
            rw [hdst]
            exact ih (i + 1) f (by omega) (by omega) (by omega) (by omega) φ' w' M' _ _ (hst'.put' hm' hr hv' d hdn) (hv.trans hv') hK
          · rw [hw]
            simp only [Bool.false_eq_true, if_false]
            exact ⟨fun _ _ => trivial, ih (i + 1) f (by omega) (by omega) (by omega) (by omega) φ w M _ _ (hst'.skip d) hv hskip⟩

/-- Ahead of the cut: the orders of the operations there. -/
theorem any_pre {F : Fence} {n : Nat} {P : Program} {c : Nat} (hc : c < ops.size) (hed : ∀ i o, ops[i]? = some o → ∀ e ∈ o.after, Region.binds .any e = true → e.on < i)
    (hcut : ∀ j, j < c → ((befs ops).getD c 0).testBit j = true) (hch : ∀ i, i < ops.size → c < i → ((befs ops).getD i 0).testBit (i - 1) = true) (hgd : ∀ i o j b, i < c → ops[i]? = some o → o.guard = some (j, b) → j < c)
    {K : Act → World → Prop} {Q Qc : Exit → Act → World → Prop} (hQc : ∀ a w, Qc .normal a w → K a w) (hQx : ∀ x a w, x ≠ .normal → Qc x a w → Q x a w)
    (hK : ∀ fuel a w, K a w → ops.size - c ≤ fuel → wpAnyIn F n P .any ops Q fuel (listedTo ops.size c) a w) :
    ∀ (fp : Nat) (L' : Array Bool) (fuel : Nat) (a : Act) (w : World), L'.size = c → Down ops (fun i => (L' ++ Array.replicate (ops.size - c) false).getD i false) → fp + (ops.size - c) ≤ fuel →
      wpAnyIn F n P .any (ops.extract 0 c) Qc fp L' a w → wpAnyIn F n P .any ops Q fuel (L' ++ Array.replicate (ops.size - c) false) a w := by
  have hget : ∀ (L' : Array Bool) (i : Nat) (d : Bool), L'.size = c → (L' ++ Array.replicate (ops.size - c) false).getD i d = if i < c then L'.getD i d else if i < ops.size then false else d := by
    intro L' i d hs
    rw [Array.getD_eq_getD_getElem?]
    by_cases h1 : i < c
    · rw [if_pos h1, Array.getElem?_append_left (by omega), Array.getD_eq_getD_getElem?]
    · rw [if_neg h1, Array.getElem?_append_right (by omega)]
      by_cases h2 : i < ops.size
      · rw [if_pos h2]
        simp [hs, show i - c < ops.size - c from by omega]
      · rw [if_neg h2, Array.getElem?_eq_none (by simp; omega)]
        rfl
  have hops : ∀ i, i < c → (ops.extract 0 c)[i]? = ops[i]? := by
    intro i hi
    rw [Array.getElem?_extract]
    rw [if_pos (by omega), Nat.zero_add]
  have hopn : ∀ i, c ≤ i → (ops.extract 0 c)[i]? = none := by
    intro i hi
    rw [Array.getElem?_eq_none]
    simp
    omega
  -- what is ready
  have inpre : ∀ (L' : Array Bool), L'.size = c → Down ops (fun i => (L' ++ Array.replicate (ops.size - c) false).getD i false) → (∃ j, j < c ∧ L'.getD j false = false) → ∀ i ∈ Region.ready .any ops (L' ++ Array.replicate (ops.size - c) false), i < c := by
    rintro L' hs hD ⟨j, hj, hjL⟩ i hi
    rw [mem_ready] at hi
    obtain ⟨h1, o, ho, he⟩ := hi
    have hisz : i < ops.size := (Array.getElem?_eq_some_iff.1 ho).1
    rcases Nat.lt_or_ge i c with h | h
    · exact h
    · exfalso
      by_cases hic : i = c
      · subst hic
        have := befs_ok ops _ hD i o j ho he (hcut j hj)
        rw [hget L' j false hs, if_pos hj, hjL] at this
        cases this
      · have := befs_ok ops _ hD i o (i - 1) ho he (hch i hisz (by omega))
        rw [hget L' (i - 1) false hs, if_neg (by omega), if_pos (by omega)] at this
        cases this
  have ready' : ∀ (L' : Array Bool), L'.size = c → ∀ i, i < c → (i ∈ Region.ready .any ops (L' ++ Array.replicate (ops.size - c) false) ↔ i ∈ Region.ready .any (ops.extract 0 c) L') := by
    intro L' hs i hi
    rw [mem_ready, mem_ready, hget L' i true hs, if_pos hi, hops i hi]
    constructor
    · rintro ⟨h1, o, ho, he⟩
      refine ⟨h1, o, ho, fun e hee hb => ?_⟩
      have := he e hee hb
      rw [hget L' e.on false hs, if_pos (by have := hed i o ho e hee hb; omega)] at this
      exact this
    · rintro ⟨h1, o, ho, he⟩
      refine ⟨h1, o, ho, fun e hee hb => ?_⟩
      rw [hget L' e.on false hs, if_pos (by have := hed i o ho e hee hb; omega)]
      exact he e hee hb
  have full : ∀ (L' : Array Bool), L'.size = c → (∀ j, j < c → L'.getD j false = true) → L' ++ Array.replicate (ops.size - c) false = listedTo ops.size c := by
    intro L' hs h
    unfold listedTo
    congr 1
    apply Array.ext
    · simpa using hs
    · intro i h1 h2
      have := h i (by omega)
      simp only [Array.getD, h1, dif_pos] at this
      simpa using this
  -- a whole prefix has nothing ready
  have nilfull : ∀ (L' : Array Bool), L'.size = c → Region.ready .any (ops.extract 0 c) L' = [] → ∀ j, j < c → L'.getD j false = true := by
    intro L' hs hnil j
    induction j using Nat.strongRecOn with
    | _ j ih =>
      intro hj
      cases hq : L'.getD j false with
      | true => rfl
      | false =>
        exfalso
        have hjs : j < ops.size := by omega
        have hm : j ∈ Region.ready .any (ops.extract 0 c) L' := by
          rw [mem_ready]
          refine ⟨by rw [← hq]; simp [Array.getD, show j < L'.size by omega], ops[j], by rw [hops j hj]; exact Array.getElem?_eq_getElem hjs, fun e he hb => ?_⟩
          have := hed j _ (Array.getElem?_eq_getElem hjs) e he hb
          exact ih e.on this (by omega)
        rw [hnil] at hm
        cases hm
  intro fp
  induction fp with
  | zero =>
    intro L' fuel a w hs hD hf h
    have hall := nilfull L' hs h.1
    rw [full L' hs hall]
    exact hK fuel a w (hQc a w h.2) (by omega)
  | succ fp ih =>
    intro L' fuel a w hs hD hf h
    by_cases hnil : Region.ready .any (ops.extract 0 c) L' = []
    · rw [full L' hs (nilfull L' hs hnil)]
      exact hK fuel a w (hQc a w (h.1 hnil)) (by omega)
    · have hex : ∃ j, j < c ∧ L'.getD j false = false := by
        obtain ⟨j, hj⟩ := List.exists_mem_of_ne_nil _ hnil
        rw [mem_ready] at hj
        obtain ⟨h1, o, ho, _⟩ := hj
        have hjc : j < c := by
          rcases Nat.lt_or_ge j c with h | h
          · exact h
          · rw [hopn j h] at ho; cases ho
        exact ⟨j, hjc, by rw [← h1]; simp [Array.getD, show j < L'.size by omega]⟩
      cases fuel with
      | zero => omega
      | succ fuel =>
        refine ⟨fun hn => ?_, fun i hi => ?_⟩
        · exfalso
          obtain ⟨j, hj⟩ := List.exists_mem_of_ne_nil _ hnil
          have hjc : j < c := by
            have hj' := hj
            rw [mem_ready] at hj'
            obtain ⟨_, o, ho, _⟩ := hj'
            rcases Nat.lt_or_ge j c with h | h
            · exact h
            · rw [hopn j h] at ho; cases ho
          have := (ready' L' hs j hjc).2 hj
          rw [hn] at this
          cases this
        · have hic := inpre L' hs hD hex i hi
          have hi' := (ready' L' hs i hic).1 hi
          have hstep := h.2 i hi'
          have hset : (L' ++ Array.replicate (ops.size - c) false).setIfInBounds i true = L'.setIfInBounds i true ++ Array.replicate (ops.size - c) false := by
            rw [Array.setIfInBounds_append_left (by omega)]
          rw [hset]
          have hisz : i < ops.size := by omega
          have ho : ops[i]? = some ops[i] := Array.getElem?_eq_getElem hisz
          have hD' : Down ops (fun j => (L'.setIfInBounds i true ++ Array.replicate (ops.size - c) false).getD j false) := by
            intro j b hb hj e he hbind
            simp only at hj ⊢
            rw [← hset, getD_set _ i _ (by simp; omega)] at hj ⊢
            by_cases hij : i = j
            · subst hij
              rw [mem_ready] at hi
              obtain ⟨_, o', ho', he'⟩ := hi
              rw [hb] at ho'
              cases ho'
              have := he' e he hbind
              rw [this]
              simp
            · rw [if_neg hij] at hj
              have := hD j b hb hj e he hbind
              simp only at this
              rw [this]
              simp
          have hKs : ∀ a w, wpAnyIn F n P .any (ops.extract 0 c) Qc fp (L'.setIfInBounds i true) a w → wpAnyIn F n P .any ops Q fuel (L'.setIfInBounds i true ++ Array.replicate (ops.size - c) false) a w :=
            fun a w h => ih _ fuel a w (by simpa using hs) hD' (by omega) h
          unfold wpOpIn at hstep ⊢
          rw [hops i hic] at hstep
          rw [ho] at hstep ⊢
          simp only at hstep ⊢
          have hwant : Region.wanted ops[i] (yielded (ops.extract 0 c) a.tmps) = Region.wanted ops[i] (yielded ops a.tmps) := by
            unfold Region.wanted
            cases hg : ops[i].guard with
            | none => rfl
            | some q =>
              obtain ⟨j, want⟩ := q
              have hj := hgd i _ j want hic ho hg
              simp only [yielded, hops j hj]
          rw [hwant] at hstep
          by_cases hw : Region.wanted ops[i] (yielded ops a.tmps) = true
          · rw [if_pos hw] at hstep ⊢
            unfold Oper.wpIn at hstep ⊢
            refine ⟨hstep.1, ?_⟩
            have h := hstep.2
            generalize (ops[i].semAt F.round a.eval).run P w = r at h ⊢
            cases r with
            | ok nx w' =>
              cases nx <;> simp only [Oper.uponIn] at h ⊢ <;> first
                | exact hKs _ _ h
                | exact h.elim
                | exact ⟨h.1, RowsIn.mono h.2 (fun _ _ he => hKs _ _ he)⟩
                | exact ⟨h.1, CallsIn.mono h.2 (fun e w'' he => by
                    cases e with
                    | returned v => exact hKs _ _ he
                    | panicked ch => exact hQx _ _ _ (fun h => nomatch h) he
                    | outgrown => obtain ⟨a₀, w₀, h2⟩ := he; exact ⟨a₀, w₀, hQx _ _ _ (fun h => nomatch h) h2⟩)⟩
                | exact ⟨h.1, RoundIn.mono h.2 (fun e w'' he => by
                    cases e with
                    | returned v => exact hKs _ _ he
                    | panicked ch => exact hQx _ _ _ (fun h => nomatch h) he
                    | outgrown => obtain ⟨a₀, w₀, h2⟩ := he; exact ⟨a₀, w₀, hQx _ _ _ (fun h => nomatch h) h2⟩)⟩
            | halt x w' => cases x <;> simp only [Oper.uponIn] at h ⊢ <;> first | exact hQx _ _ _ (fun h => nomatch h) h | exact h.elim
          · rw [if_neg hw] at hstep ⊢
            exact ⟨hstep.1, hKs _ _ hstep.2⟩

/-- A REGION THAT DRAWS, WITH A CALL THAT WRITES. -/
theorem AW_drawC (hT : TabOk X.P X.T) (hm : X.P.follows .mixedOrders = true) {id : Nat} (c : Nat) (hc : c < ops.size) (hok : cutOk X.nt ops c = true) {Q : Exit → Env → Mem → Prop} {e : Env} {M : Mem}
    (h : drawW X (ops.extract 0 c) M.length 0 (ops.extract 0 c).toList [] [] e M (fun e' M' => opsW X ops (ops.toList.drop c) e' M' (Q .normal))) :
    AW X.P X.nt X.nb X.rd (.region id ops true) Q e M := by
  rw [AW_def]
  intro ro lo base φ w a hro hst
  simp only [cutOk, Bool.and_eq_true] at hok
  obtain ⟨⟨⟨⟨⟨⟨k1, k2⟩, _⟩, k3⟩, k4⟩, k5⟩, k6⟩ := hok
  have hed : ∀ i o, ops[i]? = some o → ∀ e ∈ o.after, Region.binds .any e = true → e.on < i := by
    intro i o ho e he hb
    have hi : i < ops.size := (Array.getElem?_eq_some_iff.1 ho).1
    have := List.all_eq_true.1 k3 i (List.mem_range.2 hi)
    rw [ho] at this
    simp only at this
    have := Array.all_eq_true_iff_forall_mem.1 this e he
    simp only [hb, Bool.not_true, Bool.false_or] at this
    simpa using this
  have hcut : ∀ j, j < c → ((befs ops).getD c 0).testBit j = true := fun j hj => List.all_eq_true.1 k4 j (List.mem_range.2 hj)
  have hch : ∀ i, i < ops.size → c < i → ((befs ops).getD i 0).testBit (i - 1) = true := by
    intro i hi hci
    have := List.all_eq_true.1 k5 i (List.mem_range.2 hi)
    have hn : Nat.ble i c = false := by
      cases hq : Nat.ble i c with
      | false => rfl
      | true => have := Nat.le_of_ble_eq_true hq; omega
    rw [hn, Bool.false_or] at this
    exact this
  have hgd : ∀ i o j b, i < c → ops[i]? = some o → o.guard = some (j, b) → j < c := by
    intro i o j b hi ho hg
    have := List.all_eq_true.1 k6 i (List.mem_range.2 hi)
    rw [ho] at this
    simp only [hg] at this
    simpa using this
  have hsz : (ops.extract 0 c).size = c := by simp; omega
  have hcore := draw_core (ro := ro) hT k1 h hst (Qc := fun x a' w' => x = .normal ∧ ∃ e' M' φ', opsW X ops (ops.toList.drop c) e' M' (Q .normal) ∧ St lo X.nt X.nb base φ' w' M' e' a' ∧ Evo w φ w' φ')
    (fun e' M' φ' a' w' hq hst' hv => ⟨rfl, e', M', φ', hq, hst', hv⟩)
  rw [hsz] at hcore
  refine wpIn_region_any hm ?_
  have hrep : Array.replicate ops.size false = Array.replicate c false ++ Array.replicate (ops.size - c) false := by
    rw [Array.replicate_append_replicate]
    congr 1
    omega
  have hLf : ∀ j, (Array.replicate ops.size false).getD j false = false := by
    intro j
    simp only [Array.getD, Array.size_replicate]
    split
    · rw [Array.getInternal_eq_getElem, Array.getElem_replicate]
    · rfl
  rw [hrep]
  refine any_pre (K := fun a' w' => ∃ e' M' φ', opsW X ops (ops.toList.drop c) e' M' (Q .normal) ∧ St lo X.nt X.nb base φ' w' M' e' a' ∧ Evo w φ w' φ') hc hed hcut hch hgd (fun a w h => h.2) (fun x a w hx h => absurd h.1 hx) ?_ c (Array.replicate c false) ops.size a _ (by simp) ?_ (by omega) hcore
  · rintro fuel a' w' ⟨e', M', φ', hq, hst', hv⟩ hf
    exact any_chain hT hed k2 hch _ c fuel rfl (Nat.le_refl _) (by omega) hf φ' w' M' e' a' hst' hv hq
  · rw [← hrep]
    intro i o _ hL
    simp only [hLf] at hL
    cases hL

end
end Go.Tri
