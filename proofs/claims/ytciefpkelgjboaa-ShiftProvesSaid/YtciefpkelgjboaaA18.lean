/-
  REGIONS THAT DRAW THEIR ORDER: the theorem.
-/
import Derived.Test.YtciefpkelgjboaaA17
namespace Go.Tri
variable {lo : Nat}
open Go.RowKit

section
variable {X : Cx} (hT : TabOk X.P X.T) {ops : Array Oper} {base : Nat} {φ0 : Phi} {w0 : World} {e0 : Env} {M0 : Mem}
  {run : Nat → Bool} {val : Nat → V} {del : Nat → Option (Nat × Ob)} {Es : Nat → Nat → V} {Ms : Nat → Mem}

def dstAt (ops : Array Oper) (k : Nat) : Option Tmp := (ops[k]?).bind (·.dst)
def loudAt (ops : Array Oper) (k : Nat) : Bool := match ops[k]? with
  | some o => isLoud o.op
  | none => false
def selM (ops : Array Oper) (L : Nat → Bool) (k : Nat) : Bool := !loudAt ops k || L k

/-- The whole walk, in the text's order. -/
structure Walk (X : Cx) (ops : Array Oper) (e0 : Env) (M0 : Mem) (run : Nat → Bool) (val : Nat → V) (del : Nat → Option (Nat × Ob)) (Es : Nat → Nat → V) (Ms : Nat → Mem) : Prop where
  e0 : Es 0 = Env.get e0
  m0 : Ms 0 = M0
  sep : Sep ops run del Es 0 ops.size [] []
  step : ∀ j, j < ops.size → StepAt X ops M0.length j (run j) (val j) (del j) (Es j) (Ms j) (Es (j + 1)) (Ms (j + 1))

theorem Walk.env (h : Walk X ops e0 M0 run val del Es Ms) : ∀ i, i ≤ ops.size → ∀ t, Es i t = lastW (fun _ => true) (dstAt ops) val (Env.get e0) i t := by
  intro i
  induction i with
  | zero => intro _ t; rw [h.e0]; rfl
  | succ i ih =>
    intro hi t
    obtain ⟨o, ho, hE, _, _⟩ := (h.step i (by omega)).ex
    rw [hE]
    simp only [lastW, updE]
    have hd : dstAt ops i = o.dst := by simp [dstAt, ho]
    rw [hd, ih (by omega) t]
    by_cases h : o.dst = some t
    · rw [if_pos h, if_pos ⟨trivial, h⟩]
    · rw [if_neg h, if_neg (fun hc => h hc.2)]

theorem Walk.mem (h : Walk X ops e0 M0 run val del Es Ms) : ∀ i, i ≤ ops.size → Ms i = memOf (fun _ => true) del M0 i := by
  intro i
  induction i with
  | zero => intro _; rw [h.m0]; rfl
  | succ i ih =>
    intro hi
    obtain ⟨o, ho, _, hM, _⟩ := (h.step i (by omega)).ex
    rw [hM, ih (by omega)]
    rfl

/-- The name of a patch: the operation's own, or that of something that stood there, by a loud one. -/
theorem Walk.name (h : Walk X ops e0 M0 run val del Es Ms) {i t : Nat} {ob : Ob} (hi : i < ops.size) (hd : del i = some (t, ob)) :
    t = M0.length + i ∨ (loudAt ops i = true ∧ (Ms i).get t ≠ none) := by
  obtain ⟨o, ho, _, _, hs⟩ := (h.step i hi).ex
  have hl : loudAt ops i = isLoud o.op := by simp [loudAt, ho]
  rcases hs with ⟨_, _, hD⟩ | ⟨_, _, _, hn⟩
  · rw [hd] at hD
    cases hD with
    | op p d hld hc hh hdd hp =>
      rcases hdd t ob rfl with ⟨h1, _⟩ | ⟨h1, h2, _⟩
      · exact .inl h1
      · exact .inr ⟨by rw [hl]; exact h1, h2⟩
    | app c s x t' el p n ob' ho' hc ha ht hd' hh hname hvn hp =>
      rcases hname with h1 | ⟨h2, _⟩
      · exact .inl h1
      · exact .inr ⟨by rw [hl, ho']; simp [isLoud, hc], h2⟩
    | cpy c s x t' t2 el p n ob' ho' hc ha ht hd' hh hname hp => exact .inr ⟨by rw [hl, ho']; simp [isLoud, hc], hname.1⟩
  · rw [hn] at hd; cases hd

theorem Walk.unborn (h : Walk X ops e0 M0 run val del Es Ms) : ∀ i, i ≤ ops.size → ∀ k, i ≤ k → (Ms i).get (M0.length + k) = none := by
  intro i
  induction i with
  | zero =>
    intro _ k _
    rw [h.m0]
    simp [Mem.get, List.getD]
  | succ i ih =>
    intro hi k hk
    obtain ⟨o, ho, _, hM, _⟩ := (h.step i (by omega)).ex
    rw [hM, patch_get]
    rw [if_neg]
    · exact ih (by omega) k (by omega)
    · intro hc
      cases hd : del i with
      | none => rw [hd] at hc; cases hc
      | some q =>
        obtain ⟨t, ob⟩ := q
        rw [hd] at hc
        have ht : t = M0.length + k := by simpa using hc
        rcases h.name (by omega) hd with h1 | ⟨_, h2⟩
        · omega
        · rw [ht] at h2
          exact h2 (ih (by omega) k (by omega))

/-- What holds when just the operations of L have been carried out. -/
structure Inv (lo : Nat) (X : Cx) (ops : Array Oper) (base : Nat) (φ0 : Phi) (w0 : World) (e0 : Env) (M0 : Mem) (val : Nat → V) (del : Nat → Option (Nat × Ob)) (L : Array Bool) (φ : Phi) (a : Act) (w : World) : Prop where
  size : L.size = ops.size
  down : Down ops (fun i => L.getD i false)
  mem : MemRel X.nb base φ w (memOf (selM ops (fun i => L.getD i false)) del M0 ops.size)
  dfr : Dfr lo φ w a.defers
  low : lo ≤ w.heap.size
  tsize : a.tmps.size = X.nt
  slots : ∀ t, Rep φ base w (lastW (fun i => L.getD i false) (dstAt ops) val (Env.get e0) ops.size t) (a.tmps.getD t undef)
  unborn : ∀ k, k < ops.size → L.getD k false = false → φ (M0.length + k) = none
  louds : ∀ k, k < ops.size → L.getD k false = true → loudAt ops k = true → ∀ t ob, del k = some (t, ob) → φ t ≠ none
  evo : Evo w0 φ0 w φ

theorem getD_set (L : Array Bool) (i j : Nat) (hi : i < L.size) : (L.setIfInBounds i true).getD j false = if i = j then true else L.getD j false := by
  rw [Array.getD_eq_getD_getElem?, Array.getD_eq_getD_getElem?, Array.getElem?_setIfInBounds]
  by_cases h : i = j
  · subst h
    simp [hi]
  · simp [h]

/-- Two that conflict are ordered. -/
theorem ordered {nt : Nat} (hd : drawOk nt ops = true) {k i : Nat} (hk : k < i) (hi : i < ops.size) {a b : Oper} (ha : ops[k]? = some a) (hb : ops[i]? = some b) (hc : conflicts ops a b = true) : ((befs ops).getD i 0).testBit k = true := by
  simp only [drawOk, Bool.and_eq_true] at hd
  have h1 := List.all_eq_true.1 hd.2 i (List.mem_range.2 hi)
  have h2 := List.all_eq_true.1 h1 k (List.mem_range.2 hk)
  rw [ha, hb] at h2
  simpa [hc] using h2

theorem conflicts_symm (a b : Oper) : conflicts ops a b = conflicts ops b a := by
  unfold conflicts
  exact Bool.or_comm _ _

/-- Of those that are ordered with a ready operation just the earlier ones have been carried out. -/
theorem others_of {L : Nat → Bool} (hD : Down ops L) {i k : Nat} {o b : Oper} (ho : ops[i]? = some o) (hr : ∀ e ∈ o.after, Region.binds .any e = true → L e.on = true) (hi : L i = false)
    (hb : ops[k]? = some b) (hc : bef ops k i = true) : L k = true ↔ k < i := by
  constructor
  · intro hL
    rcases Nat.lt_or_ge k i with h | h
    · exact h
    · have hlt : ¬ k < i := by omega
      have hbl : Nat.blt k i = false := by
        cases hq : Nat.blt k i with
        | false => rfl
        | true => exact absurd (by simpa using hq) hlt
      rw [bef, hbl, cond_false] at hc
      have := befs_ok ops L hD k b i hb (hD k b hb hL) hc
      rw [hi] at this
      cases this
  · intro hlt
    have hbl : Nat.blt k i = true := by simpa using hlt
    rw [bef, hbl, cond_true] at hc
    exact befs_ok ops L hD i o k ho hr hc

/-- THE OTHERS' PLACES: of those that conflict with a ready operation just the earlier ones have been carried out. -/
theorem others {nt : Nat} (hd : drawOk nt ops = true) {L : Nat → Bool} (hD : Down ops L) {i k : Nat} {o b : Oper} (ho : ops[i]? = some o) (hr : ∀ e ∈ o.after, Region.binds .any e = true → L e.on = true) (hi : L i = false)
    (hb : ops[k]? = some b) (hne : k ≠ i) (hc : conflicts ops b o = true) : L k = true ↔ k < i := by
  have hisz : i < ops.size := (Array.getElem?_eq_some_iff.1 ho).1
  have hksz : k < ops.size := (Array.getElem?_eq_some_iff.1 hb).1
  constructor
  · intro hL
    rcases Nat.lt_or_ge k i with h | h
    · exact h
    · have hlt : i < k := by omega
      have := befs_ok ops L hD k b i hb (hD k b hb hL) (ordered hd hlt hksz ho hb (by rw [conflicts_symm]; exact hc))
      rw [hi] at this
      cases this
  · intro hlt
    exact befs_ok ops L hD i o k ho hr (ordered hd hlt hisz hb ho hc)

theorem conflicts_dst {a b : Oper} {t : Tmp} (ha : a.dst = some t) (hb : t ∈ mention ops b) : conflicts ops a b = true := by
  simp [conflicts, touches, ha, hb]
theorem conflicts_loud {a b : Oper} (ha : isLoud a.op = true) (hb : isRd b.op = true) (hl : (isApp a.op && isLd b.op) = false) : conflicts ops a b = true := by
  simp only [conflicts, touches, ha, hb, hl]
  simp
theorem loud_ld {o : Op} (h : isLoud o = true) : isLd o = false := by
  cases o <;> first | rfl | cases h
theorem loud_rd {o : Op} (h : isLoud o = true) : isRd o = true := by
  cases o <;> first | rfl | cases h

/-- A slot that a ready operation looks at or writes holds what it holds in the text's order. -/
theorem slot_at {nt : Nat} (hd : drawOk nt ops = true) (hW : Walk X ops e0 M0 run val del Es Ms) {L : Nat → Bool} (hD : Down ops L) {i : Nat} {o : Oper} (ho : ops[i]? = some o) (hr : ∀ e ∈ o.after, Region.binds .any e = true → L e.on = true) (hi : L i = false)
    {t : Tmp} (ht : t ∈ mention ops o) : lastW L (dstAt ops) val (Env.get e0) ops.size t = Es i t := by
  have hisz : i < ops.size := (Array.getElem?_eq_some_iff.1 ho).1
  have key : ∀ k, k < ops.size → dstAt ops k = some t → k ≠ i → (L k = true ↔ k < i) := by
    intro k hk hdk hne
    have hb : ops[k]? = some ops[k] := Array.getElem?_eq_getElem hk
    have hdst : ops[k].dst = some t := by simpa [dstAt, hb] using hdk
    exact others hd hD ho hr hi hb hne (conflicts_dst hdst ht)
  rw [hW.env i (by omega)]
  rw [lastW_short (m := i) (n := ops.size) (by omega) (fun k h1 h2 hdk => by
    by_cases hne : k = i
    · rw [hne]; exact hi
    · cases hL : L k with
      | false => rfl
      | true => have := (key k h2 hdk hne).1 hL; omega)]
  exact lastW_congr fun k hk hdk => (key k (by omega) hdk (by omega)).2 hk

theorem operand_at {nt : Nat} (hd : drawOk nt ops = true) (hW : Walk X ops e0 M0 run val del Es Ms) {L : Array Bool} {φ : Phi} {a : Act} {w : World} (hI : Inv lo X ops base φ0 w0 e0 M0 val del L φ a w) {i : Nat} {o : Oper} (ho : ops[i]? = some o)
    (hr : ∀ e ∈ o.after, Region.binds .any e = true → L.getD e.on false = true) (hi : L.getD i false = false) {x : Operand} (hx : x ∈ o.op.operands) : Rep φ base w (evF (Es i) x) (a.eval x) := by
  cases x with
  | tmp t =>
    have ht : t ∈ mention ops o := by
      simp only [mention, List.mem_append, List.mem_filterMap]
      exact .inl (.inr ⟨.tmp t, by simpa using hx, rfl⟩)
    have := hI.slots t
    rw [slot_at hd hW hI.down ho hr hi ht] at this
    exact this
  | const v => exact Rep.constV φ base w v
  | global g => rfl
  | func f => exact ⟨#[], rfl, rfl, fun i hi => absurd hi (by omega)⟩

/-- What a looking operation finds is what it finds in the text's order. -/
theorem mem_at {nt : Nat} (hd : drawOk nt ops = true) (hW : Walk X ops e0 M0 run val del Es Ms) {L : Nat → Bool} (hD : Down ops L) {i : Nat} {o : Oper} (ho : ops[i]? = some o) (hr : ∀ e ∈ o.after, Region.binds .any e = true → L e.on = true) (hi : L i = false)
    (hrd : isRd o.op = true) (hwk : wkL ops i = false) : (Ms i).le (memOf (selM ops L) del M0 ops.size) := by
  have hisz : i < ops.size := (Array.getElem?_eq_some_iff.1 ho).1
  intro t ob hg
  have hg' := hg
  rw [hW.mem i (by omega), memOf_get] at hg
  rw [memOf_get, ← hg]
  have hnu : ∀ k, i ≤ k → t ≠ M0.length + k := by
    intro k hk e
    subst e
    rw [hW.unborn i (by omega) k hk] at hg'
    cases hg'
  have key : ∀ k, k < ops.size → (del k).map (·.1) = some t → k ≠ i → (selM ops L k = true ↔ k < i) := by
    intro k hk hdk hne
    have hb : ops[k]? = some ops[k] := Array.getElem?_eq_getElem hk
    have hl : loudAt ops k = isLoud ops[k].op := by simp [loudAt, hb]
    cases hlk : loudAt ops k with
    | true =>
      simp only [selM, hlk, Bool.not_true, Bool.false_or]
      cases hal : (isApp ops[k].op && isLd o.op) with
      | false => exact others hd hD ho hr hi hb hne (conflicts_loud (by rw [← hl]; exact hlk) hrd hal)
      | true =>
        simp only [Bool.and_eq_true] at hal
        refine others_of hD ho hr hi hb ?_
        simp only [wkL, ho, hal.2, Bool.true_and] at hwk
        have := List.any_eq_false.1 hwk k (List.mem_range.2 hk)
        simp only [hb, hal.1, Bool.true_and] at this
        simpa using this
    | false =>
      simp only [selM, hlk, Bool.not_false, Bool.true_or, true_iff]
      cases hdd : del k with
      | none => rw [hdd] at hdk; cases hdk
      | some q =>
        obtain ⟨s, ob'⟩ := q
        rw [hdd] at hdk
        have hs : s = t := by simpa using hdk
        rcases hW.name hk hdd with h1 | ⟨h1, _⟩
        · rcases Nat.lt_or_ge k i with h | h
          · exact h
          · exact absurd (hs.symm.trans h1) (hnu k h)
        · rw [hlk] at h1; cases h1
  have hself : (del i).map (·.1) = some t → selM ops L i = false := by
    intro hdi
    have hl : loudAt ops i = isLoud o.op := by simp [loudAt, ho]
    cases hlk : loudAt ops i with
    | true => simp [selM, hlk, hi]
    | false =>
      exfalso
      cases hdd : del i with
      | none => rw [hdd] at hdi; cases hdi
      | some q =>
        obtain ⟨s, ob'⟩ := q
        rw [hdd] at hdi
        have hs : s = t := by simpa using hdi
        rcases hW.name hisz hdd with h1 | ⟨h1, _⟩
        · exact hnu i (Nat.le_refl _) (hs.symm.trans h1)
        · rw [hlk] at h1; cases h1
  rw [lastW_short (m := i) (n := ops.size) (by omega) (fun k h1 h2 hdk => by
    by_cases hne : k = i
    · subst hne; exact hself hdk
    · cases hL : selM ops L k with
      | false => rfl
      | true => have := (key k h2 hdk hne).1 hL; omega)]
  exact lastW_congr fun k hk hdk => (key k (by omega) hdk (by omega)).2 hk

/-- A look at one object finds what it finds in the text's order. -/
theorem mem_atN {nt : Nat} (hd : drawOk nt ops = true) (hW : Walk X ops e0 M0 run val del Es Ms) {L : Nat → Bool} (hD : Down ops L) {i : Nat} {o : Oper} (ho : ops[i]? = some o) (hr : ∀ e ∈ o.after, Region.binds .any e = true → L e.on = true) (hi : L i = false)
    (hwk : wkL ops i = true) (hrun : run i = true) : (Ms i).leN (wkName (evF (Es i)) o.op) (memOf (selM ops L) del M0 ops.size) := by
  have hisz : i < ops.size := (Array.getElem?_eq_some_iff.1 ho).1
  intro t ob hnm hg
  have hld := wkL_ld ho hwk
  have hrd : isRd o.op = true := by cases hoo : o.op <;> rw [hoo] at hld <;> first | rfl | cases hld
  have hg' := hg
  rw [hW.mem i (by omega), memOf_get] at hg
  rw [memOf_get, ← hg]
  have hnu : ∀ k, i ≤ k → t ≠ M0.length + k := by
    intro k hk e
    subst e
    rw [hW.unborn i (by omega) k hk] at hg'
    cases hg'
  have key : ∀ k, k < ops.size → (del k).map (·.1) = some t → k ≠ i → (selM ops L k = true ↔ k < i) := by
    intro k hk hdk hne
    have hb : ops[k]? = some ops[k] := Array.getElem?_eq_getElem hk
    have hl : loudAt ops k = isLoud ops[k].op := by simp [loudAt, hb]
    cases hlk : loudAt ops k with
    | true =>
      simp only [selM, hlk, Bool.not_true, Bool.false_or]
      cases hal : (isApp ops[k].op && isLd o.op) with
      | false => exact others hd hD ho hr hi hb hne (conflicts_loud (by rw [← hl]; exact hlk) hrd hal)
      | true =>
        exfalso
        simp only [Bool.and_eq_true] at hal
        cases hdd : del k with
        | none => rw [hdd] at hdk; cases hdk
        | some q =>
          obtain ⟨s, ob'⟩ := q
          rw [hdd] at hdk
          have hs : s = t := by simpa using hdk
          exact hW.sep.s i k t s ob' o ops[k] (Nat.zero_le _) hisz (Nat.zero_le _) hk ho hrun hwk hnm hb hal.1 hdd hs.symm
    | false =>
      simp only [selM, hlk, Bool.not_false, Bool.true_or, true_iff]
      cases hdd : del k with
      | none => rw [hdd] at hdk; cases hdk
      | some q =>
        obtain ⟨s, ob'⟩ := q
        rw [hdd] at hdk
        have hs : s = t := by simpa using hdk
        rcases hW.name hk hdd with h1 | ⟨h1, _⟩
        · rcases Nat.lt_or_ge k i with h | h
          · exact h
          · exact absurd (hs.symm.trans h1) (hnu k h)
        · rw [hlk] at h1; cases h1
  have hself : (del i).map (·.1) = some t → selM ops L i = false := by
    intro hdi
    have hl : loudAt ops i = isLoud o.op := by simp [loudAt, ho]
    cases hlk : loudAt ops i with
    | true => simp [selM, hlk, hi]
    | false =>
      exfalso
      cases hdd : del i with
      | none => rw [hdd] at hdi; cases hdi
      | some q =>
        obtain ⟨s, ob'⟩ := q
        rw [hdd] at hdi
        have hs : s = t := by simpa using hdi
        rcases hW.name hisz hdd with h1 | ⟨h1, _⟩
        · exact hnu i (Nat.le_refl _) (hs.symm.trans h1)
        · rw [hlk] at h1; cases h1
  rw [lastW_short (m := i) (n := ops.size) (by omega) (fun k h1 h2 hdk => by
    by_cases hne : k = i
    · subst hne; exact hself hdk
    · cases hL : selM ops L k with
      | false => rfl
      | true => have := (key k h2 hdk hne).1 hL; omega)]
  exact lastW_congr fun k hk hdk => (key k (by omega) hdk (by omega)).2 hk

end
end Go.Tri
