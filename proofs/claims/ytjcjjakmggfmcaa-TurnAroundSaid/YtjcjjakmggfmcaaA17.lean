/-
  REGIONS THAT DRAW THEIR ORDER, LAST PART: every order leaves what the text's order leaves.
-/
import Derived.Test.YtjcjjakmggfmcaaA16
namespace Go.Tri
open Go.RowKit

def updE (E : Nat → V) (d : Option Tmp) (v : V) : Nat → V := fun t => if d = some t then v else E t

theorem get_cons (e : Env) (d : Tmp) (v : V) : Env.get ((d, v) :: e) = updE (Env.get e) (some d) v := by
  funext i
  simp only [Env.get, updE, Option.some.injEq]

def guardIs (ops : Array Oper) (o : Oper) (E : Nat → V) (b : Bool) : Prop := match o.guard with
  | none => b = true
  | some (j, want) => match (ops[j]?).bind (·.dst) with
    | none => b = false
    | some d => (∃ c, E d = .bool c ∧ b = (c == want)) ∨ (b = false ∧ ∃ u, E d = .lit (.tuple u))

theorem guardW_is {ops : Array Oper} {o : Oper} {e : Env} {run skip : Env → Prop} (h : guardW ops o e run skip) :
    ∃ e', Env.get e' = Env.get e ∧ ((guardIs ops o (Env.get e) true ∧ run e') ∨ (guardIs ops o (Env.get e) false ∧ skip e')) := by
  unfold guardW at h
  unfold guardIs
  cases hg : o.guard with
  | none => rw [hg] at h; exact ⟨e, rfl, .inl ⟨rfl, h⟩⟩
  | some q =>
    obtain ⟨j, want⟩ := q
    rw [hg] at h
    simp only at h ⊢
    cases hd : (ops[j]?).bind (·.dst) with
    | none => rw [hd] at h; exact ⟨e, rfl, .inr ⟨trivial, h⟩⟩
    | some d =>
      rw [hd] at h
      simp only at h ⊢
      cases hx : Env.get e d with
      | lit u =>
        rw [hx] at h
        cases u with
        | bool b =>
          simp only at h
          rw [br_iff] at h
          have hk : Env.get ((d, .bool b) :: e) = Env.get e := by
            rw [get_cons]
            funext i
            simp only [updE]
            split
            · next h => cases h; exact hx.symm
            · rfl
          cases b with
          | true =>
            have h := h.1 rfl
            cases want with
            | true => exact ⟨_, hk, .inl ⟨.inl ⟨true, rfl, rfl⟩, h⟩⟩
            | false => exact ⟨_, hk, .inr ⟨.inl ⟨true, rfl, rfl⟩, h⟩⟩
          | false =>
            have h := h.2 rfl
            cases want with
            | true => exact ⟨_, hk, .inr ⟨.inl ⟨false, rfl, rfl⟩, h⟩⟩
            | false => exact ⟨_, hk, .inl ⟨.inl ⟨false, rfl, rfl⟩, h⟩⟩
        | tuple u =>
          simp only at h
          exact ⟨e, rfl, .inr ⟨.inr ⟨trivial, u, rfl⟩, h⟩⟩
        | _ => exact h.elim
      | _ => rw [hx] at h; exact h.elim

/-- One step in the text's order. -/
structure StepAt (X : Cx) (ops : Array Oper) (n0 j : Nat) (run : Bool) (v : V) (d : Option (Nat × Ob)) (E : Nat → V) (M : Mem) (E' : Nat → V) (M' : Mem) : Prop where
  ex : ∃ o, ops[j]? = some o ∧ E' = updE E o.dst v ∧ M' = patch M d ∧ ((run = true ∧ guardIs ops o E true ∧ DOk X (n0 + j) o (evF E) M v d) ∨ (run = false ∧ guardIs ops o E false ∧ v = .un ∧ d = none))

theorem drawW_trace {X : Cx} {ops : Array Oper} {n0 : Nat} {K : Env → Mem → Prop} : ∀ (l : List Oper) (k : Nat) (e : Env) (M : Mem), (∀ j, l[j]? = ops[k + j]?) → drawW X ops n0 k l e M K →
    ∃ (run : Nat → Bool) (val : Nat → V) (del : Nat → Option (Nat × Ob)) (Es : Nat → Nat → V) (Ms : Nat → Mem), Es k = Env.get e ∧ Ms k = M ∧
      (∀ j, k ≤ j → j < k + l.length → StepAt X ops n0 j (run j) (val j) (del j) (Es j) (Ms j) (Es (j + 1)) (Ms (j + 1))) ∧ ∃ e', Env.get e' = Es (k + l.length) ∧ K e' (Ms (k + l.length)) := by
  intro l
  induction l with
  | nil =>
    intro k e M _ h
    exact ⟨fun _ => true, fun _ => .any, fun _ => none, fun _ => Env.get e, fun _ => M, rfl, rfl, fun j h1 h2 => by simp at h2; omega, e, rfl, h⟩
  | cons o r ih =>
    intro k e M hl h
    have ho : ops[k]? = some o := by simpa using (hl 0).symm
    have hl' : ∀ j, r[j]? = ops[(k + 1) + j]? := fun j => by have := hl (j + 1); simpa [Nat.add_assoc, Nat.add_comm 1 j] using this
    have fin : ∀ (b : Bool) (v : V) (d : Option (Nat × Ob)) (e' : Env), Env.get e' = updE (Env.get e) o.dst v →
        ((b = true ∧ guardIs ops o (Env.get e) true ∧ DOk X (n0 + k) o (evF (Env.get e)) M v d) ∨ (b = false ∧ guardIs ops o (Env.get e) false ∧ v = .un ∧ d = none)) →
        drawW X ops n0 (k + 1) r e' (patch M d) K →
        ∃ (run : Nat → Bool) (val : Nat → V) (del : Nat → Option (Nat × Ob)) (Es : Nat → Nat → V) (Ms : Nat → Mem), Es k = Env.get e ∧ Ms k = M ∧
          (∀ j, k ≤ j → j < k + (o :: r).length → StepAt X ops n0 j (run j) (val j) (del j) (Es j) (Ms j) (Es (j + 1)) (Ms (j + 1))) ∧ ∃ e', Env.get e' = Es (k + (o :: r).length) ∧ K e' (Ms (k + (o :: r).length)) := by
      intro b v d e' he hs hr
      obtain ⟨run, val, del, Es, Ms, h1, h2, h3, e2, h4, h5⟩ := ih (k + 1) e' (patch M d) hl' hr
      refine ⟨fun j => if j = k then b else run j, fun j => if j = k then v else val j, fun j => if j = k then d else del j, fun j => if j = k then Env.get e else Es j, fun j => if j = k then M else Ms j, by simp, by simp, fun j hj hj2 => ?_, e2, ?_, ?_⟩
      · by_cases hjk : j = k
        · subst hjk
          simp only [if_true]
          rw [if_neg (by omega), if_neg (by omega)]
          exact ⟨o, ho, by rw [h1, he], h2, hs⟩
        · simp only [if_neg hjk]
          rw [if_neg (by omega), if_neg (by omega)]
          exact h3 j (by omega) (by simp only [List.length_cons] at hj2; omega)
      · simp only [List.length_cons]
        rw [if_neg (by omega), show k + (r.length + 1) = k + 1 + r.length from by omega]
        exact h4
      · simp only [List.length_cons]
        rw [if_neg (by omega), show k + (r.length + 1) = k + 1 + r.length from by omega]
        exact h5
    unfold drawW at h
    cases hdst : o.dst with
    | none =>
      rw [hdst] at h
      simp only at h
      obtain ⟨e', he', hg⟩ := guardW_is h
      rcases hg with ⟨hw, hrun⟩ | ⟨hw, hskip⟩
      · obtain ⟨v, d, hD, hK⟩ := dOpW_ok hrun
        rw [← evF_eq, he'] at hD
        exact fin true v d e' (by rw [he', hdst]; rfl) (.inl ⟨rfl, hw, hD⟩) hK
      · exact fin false .un none e' (by rw [he', hdst]; rfl) (.inr ⟨rfl, hw, rfl, rfl⟩) hskip
    | some d0 =>
      rw [hdst] at h
      simp only at h
      obtain ⟨e', he', hg⟩ := guardW_is h
      rcases hg with ⟨hw, hrun⟩ | ⟨hw, hskip⟩
      · obtain ⟨v, d, hD, hK⟩ := dOpW_ok hrun
        rw [← evF_eq, he'] at hD
        exact fin true v d _ (by rw [get_cons, he', hdst]) (.inl ⟨rfl, hw, hD⟩) hK
      · exact fin false .un none _ (by rw [get_cons, he', hdst]) (.inr ⟨rfl, hw, rfl, rfl⟩) hskip

theorem patch_get (M : Mem) (d : Option (Nat × Ob)) (t : Nat) : (patch M d).get t = if d.map (·.1) = some t then d.map (·.2) else M.get t := by
  cases d with
  | none => simp [patch]
  | some q =>
    obtain ⟨s, o⟩ := q
    simp only [patch, Option.map_some, Option.some.injEq]
    by_cases h : s = t
    · subst h; rw [if_pos rfl, Mem.get_put_same]
    · rw [if_neg h, Mem.get_put_other M (fun e => h e.symm)]

def memOf (sel : Nat → Bool) (del : Nat → Option (Nat × Ob)) (M0 : Mem) : Nat → Mem
  | 0 => M0
  | k + 1 => if sel k = true then patch (memOf sel del M0 k) (del k) else memOf sel del M0 k

theorem memOf_get (sel : Nat → Bool) (del : Nat → Option (Nat × Ob)) (M0 : Mem) (m t : Nat) : (memOf sel del M0 m).get t = lastW sel (fun k => (del k).map (·.1)) (fun k => (del k).map (·.2)) M0.get m t := by
  induction m with
  | zero => rfl
  | succ m ih =>
    simp only [memOf, lastW]
    by_cases hs : sel m = true
    · rw [if_pos hs, patch_get, ih]
      by_cases hd : (del m).map (·.1) = some t
      · rw [if_pos hd, if_pos ⟨hs, hd⟩]
      · rw [if_neg hd, if_neg (fun h => hd h.2)]
    · rw [if_neg hs, if_neg (fun h => hs h.1), ih]

theorem MemRel.congr {nb base : Nat} {φ : Phi} {w : World} {M M' : Mem} (h : MemRel nb base φ w M) (he : ∀ t, M.get t = M'.get t) : MemRel nb base φ w M' :=
  ⟨fun t r ht => by obtain ⟨o, h1, h2⟩ := h.obj t r ht; exact ⟨o, by rw [← he]; exact h1, h2⟩, h.inj, h.own, h.le⟩

theorem count_lt {n i : Nat} {f g : Nat → Bool} (hi : i < n) (hfi : f i = true) (hgi : g i = false) (h : ∀ j, g j = true → f j = true) : ((List.range n).filter g).length < ((List.range n).filter f).length := by
  induction n with
  | zero => omega
  | succ n ih =>
    have mono : ∀ m, ((List.range m).filter g).length ≤ ((List.range m).filter f).length := by
      intro m
      induction m with
      | zero => simp
      | succ m ihm =>
        simp only [List.range_succ, List.filter_append, List.length_append]
        cases hg : g m with
        | false => simp [hg]; omega
        | true => simp [hg, h m hg]; omega
    simp only [List.range_succ, List.filter_append, List.length_append]
    by_cases he : i = n
    · subst he
      have := mono i
      simp [hfi, hgi]
      omega
    · have := ih (by omega)
      cases hg : g n with
      | false => simp [hg]; omega
      | true => simp [hg, h n hg]; omega

end Go.Tri
