/-
  REGIONS THAT DRAW THEIR ORDER, LAST PART: every order leaves what the text's order leaves.
-/
import Derived.Below
import Derived.Test.YtafibngpgllcfaaA16
namespace Go.Tri
variable {lo : Nat}
open Go.RowKit

def updE (E : Nat → V) (d : Option Tmp) (v : V) : Nat → V := fun t => if d = some t then v else E t

theorem get_cons (e : Env) (d : Tmp) (v : V) : Env.get ((d, v) :: e) = updE (Env.get e) (some d) v := by
  funext i
  simp only [Env.get, updE, Option.some.injEq]

def guardIs (ops : Array Oper) (o : Oper) (E : Nat → V) (b : Bool) : Prop := match o.guard with
  | none => b = true
  | some (j, want) => match (ops[j]?).bind (·.dst) with
    | none => b = false
    | some d => (∃ c, E d = .bool c ∧ b = (c == want)) ∨ (b = false ∧ ∃ u, E d = .lit (.tuple u))

theorem guardW_is {ops : Array Oper} {o : Oper} {e : Env} {run skip : Env → Prop} (h : guardW ops o e run skip) :
    ∃ e', Env.get e' = Env.get e ∧ ((guardIs ops o (Env.get e) true ∧ run e') ∨ (guardIs ops o (Env.get e) false ∧ skip e')) := by
  unfold guardW at h
  unfold guardIs
  cases hg : o.guard with
  | none => rw [hg] at h; exact ⟨e, rfl, .inl ⟨rfl, h⟩⟩
  | some q =>
    obtain ⟨j, want⟩ := q
    rw [hg] at h
    simp only at h ⊢
    cases hd : (ops[j]?).bind (·.dst) with
    | none => rw [hd] at h; exact ⟨e, rfl, .inr ⟨trivial, h⟩⟩
    | some d =>
      rw [hd] at h
      simp only at h ⊢
      cases hx : Env.get e d with
      | lit u =>
        rw [hx] at h
        cases u with
        | bool b =>
          simp only at h
          rw [br_iff] at h
          have hk : Env.get ((d, .bool b) :: e) = Env.get e := by
            rw [get_cons]
            funext i
            simp only [updE]
            split
            · next h => cases h; exact hx.symm
            · rfl
          cases b with
          | true =>
            have h := h.1 rfl
            cases want with
            | true => exact ⟨_, hk, .inl ⟨.inl ⟨true, rfl, rfl⟩, h⟩⟩
            | false => exact ⟨_, hk, .inr ⟨.inl ⟨true, rfl, rfl⟩, h⟩⟩
          | false =>
            have h := h.2 rfl
            cases want with
            | true => exact ⟨_, hk, .inr ⟨.inl ⟨false, rfl, rfl⟩, h⟩⟩
            | false => exact ⟨_, hk, .inl ⟨.inl ⟨false, rfl, rfl⟩, h⟩⟩
        | tuple u =>
          simp only at h
          exact ⟨e, rfl, .inr ⟨.inr ⟨trivial, u, rfl⟩, h⟩⟩
        | _ => exact h.elim
      | _ => rw [hx] at h; exact h.elim

/-- One step in the text's order. -/
structure StepAt (X : Cx) (ops : Array Oper) (n0 j : Nat) (run : Bool) (v : V) (d : Option (Nat × Ob)) (E : Nat → V) (M : Mem) (E' : Nat → V) (M' : Mem) : Prop where
  ex : ∃ o, ops[j]? = some o ∧ E' = updE E o.dst v ∧ M' = patch M d ∧ ((run = true ∧ guardIs ops o E true ∧ DOk X (n0 + j) o (evF E) M v d) ∨ (run = false ∧ guardIs ops o E false ∧ v = .un ∧ d = none))

/-- What has been looked at beside an append is another object. -/
structure Sep (ops : Array Oper) (run : Nat → Bool) (del : Nat → Option (Nat × Ob)) (Es : Nat → Nat → V) (lo hi : Nat) (ap wn : List Nat) : Prop where
  w : ∀ i n o, lo ≤ i → i < hi → ops[i]? = some o → run i = true → wkL ops i = true → wkName (evF (Es i)) o.op = some n → n ∉ ap
  a : ∀ i t ob o, lo ≤ i → i < hi → ops[i]? = some o → isApp o.op = true → del i = some (t, ob) → t ∉ wn
  s : ∀ i j n t ob o b, lo ≤ i → i < hi → lo ≤ j → j < hi → ops[i]? = some o → run i = true → wkL ops i = true → wkName (evF (Es i)) o.op = some n → ops[j]? = some b → isApp b.op = true → del j = some (t, ob) → n ≠ t

theorem wkL_ld {ops : Array Oper} {i : Nat} {o : Oper} (ho : ops[i]? = some o) (h : wkL ops i = true) : isLd o.op = true := by
  simp only [wkL, ho, Bool.and_eq_true] at h
  exact h.1
theorem ld_app {o : Op} (h : isLd o = true) : isApp o = false := by
  cases o <;> first | rfl | cases h

theorem logStep_ok {ops : Array Oper} {k : Nat} {o : Oper} {ev : Operand → V} {v : V} {ap wn : List Nat} {K : List Nat → List Nat → Prop} (h : logStep ops k o ev v ap wn K) :
    ∃ ap' wn', K ap' wn' ∧ (∀ x, x ∈ ap → x ∈ ap') ∧ (∀ x, x ∈ wn → x ∈ wn') ∧ (isApp o.op = true → ∃ q, apTgt o.op ev v = some q ∧ ∀ t, q = some t → t ∉ wn ∧ t ∈ ap') ∧
      (isApp o.op = false → wkL ops k = true → ∀ n, wkName ev o.op = some n → n ∉ ap ∧ n ∈ wn') := by
  unfold logStep at h
  cases ha : isApp o.op with
  | true =>
    rw [ha] at h
    simp only [cond_true] at h
    split at h
    · next t hq =>
      cases hc : wn.contains t with
      | true => rw [hc] at h; exact h.elim
      | false =>
        rw [hc] at h
        exact ⟨_, _, h, fun x hx => by simp [hx], fun x hx => hx, fun _ => ⟨_, hq, fun t' h' => by cases h'; exact ⟨by simpa using hc, by simp⟩⟩, fun h => nomatch h⟩
    · next hq => exact ⟨_, _, h, fun x hx => hx, fun x hx => hx, fun _ => ⟨_, hq, fun t' h' => nomatch h'⟩, fun h => nomatch h⟩
    · exact h.elim
  | false =>
    rw [ha] at h
    simp only [cond_false] at h
    cases hw : wkL ops k with
    | false =>
      rw [hw] at h
      exact ⟨_, _, h, fun x hx => hx, fun x hx => hx, (fun h => nomatch h), fun _ h => nomatch h⟩
    | true =>
      rw [hw] at h
      simp only [cond_true] at h
      split at h
      · next n hn =>
        cases hc : ap.contains n with
        | true => rw [hc] at h; exact h.elim
        | false =>
          rw [hc] at h
          refine ⟨_, _, h, fun x hx => hx, fun x hx => by simp [hx], (fun h => nomatch h), fun _ _ m hm => ?_⟩
          rw [hn] at hm
          cases hm
          exact ⟨by simpa using hc, by simp⟩
      · next hn => exact ⟨_, _, h, fun x hx => hx, fun x hx => hx, (fun h => nomatch h), fun _ _ m hm => by rw [hn] at hm; cases hm⟩

/-- One step more. -/
theorem Sep.cons {ops : Array Oper} {run run' : Nat → Bool} {del del' : Nat → Option (Nat × Ob)} {Es Es' : Nat → Nat → V} {k hi : Nat} {ap wn ap' wn' : List Nat} {o : Oper} (ho : ops[k]? = some o) (h : Sep ops run del Es (k + 1) hi ap' wn')
    (hr : ∀ j, k < j → run' j = run j) (hd : ∀ j, k < j → del' j = del j) (hE : ∀ j, k < j → Es' j = Es j) (hap : ∀ x, x ∈ ap → x ∈ ap') (hwn : ∀ x, x ∈ wn → x ∈ wn')
    (ha : isApp o.op = true → ∀ t ob, del' k = some (t, ob) → t ∉ wn ∧ t ∈ ap') (hw : run' k = true → wkL ops k = true → ∀ n, wkName (evF (Es' k)) o.op = some n → n ∉ ap ∧ n ∈ wn') : Sep ops run' del' Es' k hi ap wn := by
  refine ⟨fun i n b h1 h2 hb hrun hwk hn => ?_, fun i t ob b h1 h2 hb hap' hdel => ?_, fun i j n t ob b c h1 h2 h3 h4 hb hrun hwk hn hc happ hdel => ?_⟩
  · by_cases hik : i = k
    · subst hik
      rw [ho] at hb
      cases hb
      exact (hw hrun hwk n hn).1
    · rw [hr i (by omega)] at hrun
      rw [hE i (by omega)] at hn
      exact fun hm => h.w i n b (by omega) h2 hb hrun hwk hn (hap _ hm)
  · by_cases hik : i = k
    · subst hik
      rw [ho] at hb
      cases hb
      exact (ha hap' t ob hdel).1
    · rw [hd i (by omega)] at hdel
      exact fun hm => h.a i t ob b (by omega) h2 hb hap' hdel (hwn _ hm)
  · by_cases hik : i = k
    · subst hik
      rw [ho] at hb
      cases hb
      by_cases hjk : j = i
      · subst hjk
        rw [ho] at hc
        cases hc
        rw [ld_app (wkL_ld ho hwk)] at happ
        cases happ
      · rw [hd j (by omega)] at hdel
        have := h.a j t ob c (by omega) h4 hc happ hdel
        intro e
        subst e
        exact this (hw hrun hwk n hn).2
    · rw [hr i (by omega)] at hrun
      rw [hE i (by omega)] at hn
      by_cases hjk : j = k
      · subst hjk
        rw [ho] at hc
        cases hc
        have := h.w i n b (by omega) h2 hb hrun hwk hn
        intro e
        subst e
        exact this (ha happ n ob hdel).2
      · rw [hd j (by omega)] at hdel
        exact h.s i j n t ob b c (by omega) h2 (by omega) h4 hb hrun hwk hn hc happ hdel

theorem DOk.appName {X : Cx} {nm : Nat} {o : Oper} {ev : Operand → V} {M : Mem} {v : V} {d : Option (Nat × Ob)} (h : DOk X nm o ev M v d) (ha : isApp o.op = true) {t : Nat} {ob : Ob} (hd : d = some (t, ob)) : apTgt o.op ev v = some (some t) := by
  cases h with
  | op p d hld hc hh hdd hp =>
    rcases hdd t ob hd with ⟨_, h1⟩ | ⟨_, _, t2, x, y, hst, ver, i, k, hx⟩
    · cases ho : o.op with
      | call c => exact absurd ho (hc c)
      | store t x y => rw [ho] at h1; cases h1
      | _ => rw [ho] at ha; cases ha
    · rw [hst]
      simp only [apTgt, hx]
  | app c s x t' el p n ob' ho hc ha' ht hd' hh hname hvn hp =>
    cases hd
    obtain ⟨ver, len, rfl⟩ := hvn
    rw [ho]
    rfl
  | cpy c s x t' t2 el p n ob' ho hc => rw [ho] at ha; simp [isApp, hc] at ha
  | blt => cases hd
  | pure => cases hd
  | imm => cases hd
  | fapp => cases hd

theorem logApp {X : Cx} {nm : Nat} {o : Oper} {ev : Operand → V} {M : Mem} {v : V} {d : Option (Nat × Ob)} {ap' wn : List Nat} (hD : DOk X nm o ev M v d) (h : isApp o.op = true → ∃ q, apTgt o.op ev v = some q ∧ ∀ t, q = some t → t ∉ wn ∧ t ∈ ap') :
    isApp o.op = true → ∀ t ob, d = some (t, ob) → t ∉ wn ∧ t ∈ ap' := by
  intro ha t ob hd
  have h4 := hD.appName ha hd
  obtain ⟨q, h1, h2⟩ := h ha
  rw [h4] at h1
  cases h1
  exact h2 t rfl

theorem logWk {ops : Array Oper} {k : Nat} {o : Oper} {ev : Operand → V} {ap wn' : List Nat} (h : isApp o.op = false → wkL ops k = true → ∀ n, wkName ev o.op = some n → n ∉ ap ∧ n ∈ wn') :
    true = true → wkL ops k = true → ∀ n, wkName ev o.op = some n → n ∉ ap ∧ n ∈ wn' := by
  intro _ hw n hn
  refine h ?_ hw n hn
  cases hx : wkX o.op with
  | none => simp [wkName, hx] at hn
  | some x => cases ho : o.op <;> rw [ho] at hx <;> first | rfl | cases hx

theorem drawW_trace {X : Cx} {ops : Array Oper} {n0 : Nat} {K : Env → Mem → Prop} : ∀ (l : List Oper) (k : Nat) (ap wn : List Nat) (e : Env) (M : Mem), (∀ j, l[j]? = ops[k + j]?) → drawW X ops n0 k l ap wn e M K →
    ∃ (run : Nat → Bool) (val : Nat → V) (del : Nat → Option (Nat × Ob)) (Es : Nat → Nat → V) (Ms : Nat → Mem), Es k = Env.get e ∧ Ms k = M ∧
      (∀ j, k ≤ j → j < k + l.length → StepAt X ops n0 j (run j) (val j) (del j) (Es j) (Ms j) (Es (j + 1)) (Ms (j + 1))) ∧ Sep ops run del Es k (k + l.length) ap wn ∧ ∃ e', Env.get e' = Es (k + l.length) ∧ K e' (Ms (k + l.length)) := by
  intro l
  induction l with
  | nil =>
    intro k ap wn e M _ h
    exact ⟨fun _ => true, fun _ => .any, fun _ => none, fun _ => Env.get e, fun _ => M, rfl, rfl, fun j h1 h2 => by simp at h2; omega,
      ⟨fun i n o h1 h2 => by simp at h2; omega, fun i t ob o h1 h2 => by simp at h2; omega, fun i j n t ob o b h1 h2 => by simp at h2; omega⟩, e, rfl, h⟩
  | cons o r ih =>
    intro k ap wn e M hl h
    have ho : ops[k]? = some o := by simpa using (hl 0).symm
    have hl' : ∀ j, r[j]? = ops[(k + 1) + j]? := fun j => by have := hl (j + 1); simpa [Nat.add_assoc, Nat.add_comm 1 j] using this
    have fin : ∀ (b : Bool) (v : V) (d : Option (Nat × Ob)) (e' : Env) (ap' wn' : List Nat), (∀ x, x ∈ ap → x ∈ ap') → (∀ x, x ∈ wn → x ∈ wn') →
        (isApp o.op = true → ∀ t ob, d = some (t, ob) → t ∉ wn ∧ t ∈ ap') → (b = true → wkL ops k = true → ∀ n, wkName (evF (Env.get e)) o.op = some n → n ∉ ap ∧ n ∈ wn') → Env.get e' = updE (Env.get e) o.dst v →
        ((b = true ∧ guardIs ops o (Env.get e) true ∧ DOk X (n0 + k) o (evF (Env.get e)) M v d) ∨ (b = false ∧ guardIs ops o (Env.get e) false ∧ v = .un ∧ d = none)) →
        drawW X ops n0 (k + 1) r ap' wn' e' (patch M d) K →
        ∃ (run : Nat → Bool) (val : Nat → V) (del : Nat → Option (Nat × Ob)) (Es : Nat → Nat → V) (Ms : Nat → Mem), Es k = Env.get e ∧ Ms k = M ∧
          (∀ j, k ≤ j → j < k + (o :: r).length → StepAt X ops n0 j (run j) (val j) (del j) (Es j) (Ms j) (Es (j + 1)) (Ms (j + 1))) ∧ Sep ops run del Es k (k + (o :: r).length) ap wn ∧ ∃ e', Env.get e' = Es (k + (o :: r).length) ∧ K e' (Ms (k + (o :: r).length)) := by
      intro b v d e' ap' wn' hap hwn hla hlw he hs hr
      obtain ⟨run, val, del, Es, Ms, h1, h2, h3, hS, e2, h4, h5⟩ := ih (k + 1) ap' wn' e' (patch M d) hl' hr
      refine ⟨fun j => if j = k then b else run j, fun j => if j = k then v else val j, fun j => if j = k then d else del j, fun j => if j = k then Env.get e else Es j, fun j => if j = k then M else Ms j, by simp, by simp, fun j hj hj2 => ?_, ?_, e2, ?_, ?_⟩
      · by_cases hjk : j = k
        · subst hjk
          simp only [if_true]
          rw [if_neg (by omega), if_neg (by omega)]
          exact ⟨o, ho, by rw [h1, he], h2, hs⟩
        · simp only [if_neg hjk]
          rw [if_neg (by omega), if_neg (by omega)]
          exact h3 j (by omega) (by simp only [List.length_cons] at hj2; omega)
      · rw [show k + (o :: r).length = k + 1 + r.length from by simp only [List.length_cons]; omega]
        exact hS.cons ho (fun j hj => if_neg (by omega)) (fun j hj => if_neg (by omega)) (fun j hj => if_neg (by omega)) hap hwn (fun ha t ob hd => hla ha t ob (by simpa using hd)) (fun hb hw n hn => hlw (by simpa using hb) hw n (by simpa using hn))
      · simp only [List.length_cons]
        rw [if_neg (by omega), show k + (r.length + 1) = k + 1 + r.length from by omega]
        exact h4
      · simp only [List.length_cons]
        rw [if_neg (by omega), show k + (r.length + 1) = k + 1 + r.length from by omega]
        exact h5
    unfold drawW at h
    simp only [forceMo_eq, forceNo_eq] at h
    cases hdst : o.dst with
    | none =>
      rw [hdst] at h
      simp only at h
      obtain ⟨e', he', hg⟩ := guardW_is h
      rcases hg with ⟨hw, hrun⟩ | ⟨hw, hskip⟩
      · obtain ⟨v, d, hD, hK⟩ := dOpW_ok hrun
        rw [← evF_eq, he'] at hD
        obtain ⟨ap', wn', hK, l1, l2, l3, l4⟩ := logStep_ok hK
        rw [← evF_eq, he'] at l3 l4
        exact fin true v d e' ap' wn' l1 l2 (logApp hD l3) (logWk l4) (by rw [he', hdst]; rfl) (.inl ⟨rfl, hw, hD⟩) hK
      · exact fin false .un none e' ap wn (fun _ h => h) (fun _ h => h) (fun _ _ _ h => nomatch h) (fun h => nomatch h) (by rw [he', hdst]; rfl) (.inr ⟨rfl, hw, rfl, rfl⟩) hskip
    | some d0 =>
      rw [hdst] at h
      simp only at h
      obtain ⟨e', he', hg⟩ := guardW_is h
      rcases hg with ⟨hw, hrun⟩ | ⟨hw, hskip⟩
      · obtain ⟨v, d, hD, hK⟩ := dOpW_ok hrun
        rw [← evF_eq, he'] at hD
        obtain ⟨ap', wn', hK, l1, l2, l3, l4⟩ := logStep_ok hK
        rw [← evF_eq, he'] at l3 l4
        exact fin true v d _ ap' wn' l1 l2 (logApp hD l3) (logWk l4) (by rw [get_cons, he', hdst]) (.inl ⟨rfl, hw, hD⟩) hK
      · exact fin false .un none _ ap wn (fun _ h => h) (fun _ h => h) (fun _ _ _ h => nomatch h) (fun h => nomatch h) (by rw [get_cons, he', hdst]) (.inr ⟨rfl, hw, rfl, rfl⟩) hskip

theorem patch_get (M : Mem) (d : Option (Nat × Ob)) (t : Nat) : (patch M d).get t = if d.map (·.1) = some t then d.map (·.2) else M.get t := by
  cases d with
  | none => simp [patch]
  | some q =>
    obtain ⟨s, o⟩ := q
    simp only [patch, Option.map_some, Option.some.injEq]
    by_cases h : s = t
    · subst h; rw [if_pos rfl, Mem.get_put_same]
    · rw [if_neg h, Mem.get_put_other M (fun e => h e.symm)]

def memOf (sel : Nat → Bool) (del : Nat → Option (Nat × Ob)) (M0 : Mem) : Nat → Mem
  | 0 => M0
  | k + 1 => if sel k = true then patch (memOf sel del M0 k) (del k) else memOf sel del M0 k

theorem memOf_get (sel : Nat → Bool) (del : Nat → Option (Nat × Ob)) (M0 : Mem) (m t : Nat) : (memOf sel del M0 m).get t = lastW sel (fun k => (del k).map (·.1)) (fun k => (del k).map (·.2)) M0.get m t := by
  induction m with
  | zero => rfl
  | succ m ih =>
    simp only [memOf, lastW]
    by_cases hs : sel m = true
    · rw [if_pos hs, patch_get, ih]
      by_cases hd : (del m).map (·.1) = some t
      · rw [if_pos hd, if_pos ⟨hs, hd⟩]
      · rw [if_neg hd, if_neg (fun h => hd h.2)]
    · rw [if_neg hs, if_neg (fun h => hs h.1), ih]

theorem MemRel.congr {nb base : Nat} {φ : Phi} {w : World} {M M' : Mem} (h : MemRel nb base φ w M) (he : ∀ t, M.get t = M'.get t) : MemRel nb base φ w M' :=
  ⟨fun t r ht => by obtain ⟨o, h1, h2⟩ := h.obj t r ht; exact ⟨o, by rw [← he]; exact h1, h2⟩, h.inj, h.own, h.le⟩

theorem count_lt {n i : Nat} {f g : Nat → Bool} (hi : i < n) (hfi : f i = true) (hgi : g i = false) (h : ∀ j, g j = true → f j = true) : ((List.range n).filter g).length < ((List.range n).filter f).length := by
  induction n with
  | zero => omega
  | succ n ih =>
    have mono : ∀ m, ((List.range m).filter g).length ≤ ((List.range m).filter f).length := by
      intro m
      induction m with
      | zero => simp
      | succ m ihm =>
        simp only [List.range_succ, List.filter_append, List.length_append]
        cases hg : g m with
        | false => simp [hg]; omega
        | true => simp [hg, h m hg]; omega
    simp only [List.range_succ, List.filter_append, List.length_append]
    by_cases he : i = n
    · subst he
      have := mono i
      simp [hfi, hgi]
      omega
    · have := ih (by omega)
      cases hg : g n with
      | false => simp [hg]; omega
      | true => simp [hg, h n hg]; omega

end Go.Tri

/-
  REGIONS THAT DRAW THEIR ORDER: the theorem.
-/
namespace Go.Tri
variable {lo : Nat}
open Go.RowKit

section
variable {X : Cx} (hT : TabOk X.P X.T) {ops : Array Oper} {base : Nat} {φ0 : Phi} {w0 : World} {e0 : Env} {M0 : Mem}
  {run : Nat → Bool} {val : Nat → V} {del : Nat → Option (Nat × Ob)} {Es : Nat → Nat → V} {Ms : Nat → Mem}

def dstAt (ops : Array Oper) (k : Nat) : Option Tmp := (ops[k]?).bind (·.dst)
def loudAt (ops : Array Oper) (k : Nat) : Bool := match ops[k]? with
  | some o => isLoud o.op
  | none => false
def selM (ops : Array Oper) (L : Nat → Bool) (k : Nat) : Bool := !loudAt ops k || L k

/-- The whole walk, in the text's order. -/
structure Walk (X : Cx) (ops : Array Oper) (e0 : Env) (M0 : Mem) (run : Nat → Bool) (val : Nat → V) (del : Nat → Option (Nat × Ob)) (Es : Nat → Nat → V) (Ms : Nat → Mem) : Prop where
  e0 : Es 0 = Env.get e0
  m0 : Ms 0 = M0
  sep : Sep ops run del Es 0 ops.size [] []
  step : ∀ j, j < ops.size → StepAt X ops M0.length j (run j) (val j) (del j) (Es j) (Ms j) (Es (j + 1)) (Ms (j + 1))

theorem Walk.env (h : Walk X ops e0 M0 run val del Es Ms) : ∀ i, i ≤ ops.size → ∀ t, Es i t = lastW (fun _ => true) (dstAt ops) val (Env.get e0) i t := by
  intro i
  induction i with
  | zero => intro _ t; rw [h.e0]; rfl
  | succ i ih =>
    intro hi t
    obtain ⟨o, ho, hE, _, _⟩ := (h.step i (by omega)).ex
    rw [hE]
    simp only [lastW, updE]
    have hd : dstAt ops i = o.dst := by simp [dstAt, ho]
    rw [hd, ih (by omega) t]
    by_cases h : o.dst = some t
    · rw [if_pos h, if_pos ⟨trivial, h⟩]
    · rw [if_neg h, if_neg (fun hc => h hc.2)]

theorem Walk.mem (h : Walk X ops e0 M0 run val del Es Ms) : ∀ i, i ≤ ops.size → Ms i = memOf (fun _ => true) del M0 i := by
  intro i
  induction i with
  | zero => intro _; rw [h.m0]; rfl
  | succ i ih =>
    intro hi
    obtain ⟨o, ho, _, hM, _⟩ := (h.step i (by omega)).ex
    rw [hM, ih (by omega)]
    rfl

/-- The name of a patch: the operation's own, or that of something that stood there, by a loud one. -/
theorem Walk.name (h : Walk X ops e0 M0 run val del Es Ms) {i t : Nat} {ob : Ob} (hi : i < ops.size) (hd : del i = some (t, ob)) :
    t = M0.length + i ∨ (loudAt ops i = true ∧ (Ms i).get t ≠ none) := by
  obtain ⟨o, ho, _, _, hs⟩ := (h.step i hi).ex
  have hl : loudAt ops i = isLoud o.op := by simp [loudAt, ho]
  rcases hs with ⟨_, _, hD⟩ | ⟨_, _, _, hn⟩
  · rw [hd] at hD
    cases hD with
    | op p d hld hc hh hdd hp =>
      rcases hdd t ob rfl with ⟨h1, _⟩ | ⟨h1, h2, _⟩
      · exact .inl h1
      · exact .inr ⟨by rw [hl]; exact h1, h2⟩
    | app c s x t' el p n ob' ho' hc ha ht hd' hh hname hvn hp =>
      rcases hname with h1 | ⟨h2, _⟩
      · exact .inl h1
      · exact .inr ⟨by rw [hl, ho']; simp [isLoud, hc], h2⟩
    | cpy c s x t' t2 el p n ob' ho' hc ha ht hd' hh hname hp => exact .inr ⟨by rw [hl, ho']; simp [isLoud, hc], hname.1⟩
  · rw [hn] at hd; cases hd

theorem Walk.unborn (h : Walk X ops e0 M0 run val del Es Ms) : ∀ i, i ≤ ops.size → ∀ k, i ≤ k → (Ms i).get (M0.length + k) = none := by
  intro i
  induction i with
  | zero =>
    intro _ k _
    rw [h.m0]
    simp [Mem.get, List.getD]
  | succ i ih =>
    intro hi k hk
    obtain ⟨o, ho, _, hM, _⟩ := (h.step i (by omega)).ex
    rw [hM, patch_get]
    rw [if_neg]
    · exact ih (by omega) k (by omega)
    · intro hc
      cases hd : del i with
      | none => rw [hd] at hc; cases hc
      | some q =>
        obtain ⟨t, ob⟩ := q
        rw [hd] at hc
        have ht : t = M0.length + k := by simpa using hc
        rcases h.name (by omega) hd with h1 | ⟨_, h2⟩
        · omega
        · rw [ht] at h2
          exact h2 (ih (by omega) k (by omega))

/-- What holds when just the operations of L have been carried out. -/
structure Inv (lo : Nat) (X : Cx) (ops : Array Oper) (base : Nat) (φ0 : Phi) (w0 : World) (e0 : Env) (M0 : Mem) (val : Nat → V) (del : Nat → Option (Nat × Ob)) (L : Array Bool) (φ : Phi) (a : Act) (w : World) : Prop where
  size : L.size = ops.size
  down : Down ops (fun i => L.getD i false)
  mem : MemRel X.nb base φ w (memOf (selM ops (fun i => L.getD i false)) del M0 ops.size)
  dfr : Dfr lo φ w a.defers
  low : lo ≤ w.heap.size
  tsize : a.tmps.size = X.nt
  slots : ∀ t, Rep φ base w (lastW (fun i => L.getD i false) (dstAt ops) val (Env.get e0) ops.size t) (a.tmps.getD t undef)
  unborn : ∀ k, k < ops.size → L.getD k false = false → φ (M0.length + k) = none
  louds : ∀ k, k < ops.size → L.getD k false = true → loudAt ops k = true → ∀ t ob, del k = some (t, ob) → φ t ≠ none
  evo : Evo w0 φ0 w φ

theorem getD_set (L : Array Bool) (i j : Nat) (hi : i < L.size) : (L.setIfInBounds i true).getD j false = if i = j then true else L.getD j false := by
  rw [Array.getD_eq_getD_getElem?, Array.getD_eq_getD_getElem?, Array.getElem?_setIfInBounds]
  by_cases h : i = j
  · subst h
    simp [hi]
  · simp [h]

/-- Two that conflict are ordered. -/
theorem ordered {nt : Nat} (hd : drawOk nt ops = true) {k i : Nat} (hk : k < i) (hi : i < ops.size) {a b : Oper} (ha : ops[k]? = some a) (hb : ops[i]? = some b) (hc : conflicts ops a b = true) : ((befs ops).getD i 0).testBit k = true := by
  simp only [drawOk, Bool.and_eq_true] at hd
  have h1 := List.all_eq_true.1 hd.2 i (List.mem_range.2 hi)
  have h2 := List.all_eq_true.1 h1 k (List.mem_range.2 hk)
  rw [ha, hb] at h2
  simpa [hc] using h2

theorem conflicts_symm (a b : Oper) : conflicts ops a b = conflicts ops b a := by
  unfold conflicts
  exact Bool.or_comm _ _

/-- Of those that are ordered with a ready operation just the earlier ones have been carried out. -/
theorem others_of {L : Nat → Bool} (hD : Down ops L) {i k : Nat} {o b : Oper} (ho : ops[i]? = some o) (hr : ∀ e ∈ o.after, Region.binds .any e = true → L e.on = true) (hi : L i = false)
    (hb : ops[k]? = some b) (hc : bef ops k i = true) : L k = true ↔ k < i := by
  constructor
  · intro hL
    rcases Nat.lt_or_ge k i with h | h
    · exact h
    · have hlt : ¬ k < i := by omega
      have hbl : Nat.blt k i = false := by
        cases hq : Nat.blt k i with
        | false => rfl
        | true => exact absurd (by simpa using hq) hlt
      rw [bef, hbl, cond_false] at hc
      have := befs_ok ops L hD k b i hb (hD k b hb hL) hc
      rw [hi] at this
      cases this
  · intro hlt
    have hbl : Nat.blt k i = true := by simpa using hlt
    rw [bef, hbl, cond_true] at hc
    exact befs_ok ops L hD i o k ho hr hc

/-- THE OTHERS' PLACES: of those that conflict with a ready operation just the earlier ones have been carried out. -/
theorem others {nt : Nat} (hd : drawOk nt ops = true) {L : Nat → Bool} (hD : Down ops L) {i k : Nat} {o b : Oper} (ho : ops[i]? = some o) (hr : ∀ e ∈ o.after, Region.binds .any e = true → L e.on = true) (hi : L i = false)
    (hb : ops[k]? = some b) (hne : k ≠ i) (hc : conflicts ops b o = true) : L k = true ↔ k < i := by
  have hisz : i < ops.size := (Array.getElem?_eq_some_iff.1 ho).1
  have hksz : k < ops.size := (Array.getElem?_eq_some_iff.1 hb).1
  constructor
  · intro hL
    rcases Nat.lt_or_ge k i with h | h
    · exact h
    · have hlt : i < k := by omega
      have := befs_ok ops L hD k b i hb (hD k b hb hL) (ordered hd hlt hksz ho hb (by rw [conflicts_symm]; exact hc))
      rw [hi] at this
      cases this
  · intro hlt
    exact befs_ok ops L hD i o k ho hr (ordered hd hlt hisz hb ho hc)

theorem conflicts_dst {a b : Oper} {t : Tmp} (ha : a.dst = some t) (hb : t ∈ mention ops b) : conflicts ops a b = true := by
  simp [conflicts, touches, ha, hb]
theorem conflicts_loud {a b : Oper} (ha : isLoud a.op = true) (hb : isRd b.op = true) (hl : (isApp a.op && isLd b.op) = false) : conflicts ops a b = true := by
  simp only [conflicts, touches, ha, hb, hl]
  simp
theorem loud_ld {o : Op} (h : isLoud o = true) : isLd o = false := by
  cases o <;> first | rfl | cases h
theorem loud_rd {o : Op} (h : isLoud o = true) : isRd o = true := by
  cases o <;> first | rfl | cases h

/-- A slot that a ready operation looks at or writes holds what it holds in the text's order. -/
theorem slot_at {nt : Nat} (hd : drawOk nt ops = true) (hW : Walk X ops e0 M0 run val del Es Ms) {L : Nat → Bool} (hD : Down ops L) {i : Nat} {o : Oper} (ho : ops[i]? = some o) (hr : ∀ e ∈ o.after, Region.binds .any e = true → L e.on = true) (hi : L i = false)
    {t : Tmp} (ht : t ∈ mention ops o) : lastW L (dstAt ops) val (Env.get e0) ops.size t = Es i t := by
  have hisz : i < ops.size := (Array.getElem?_eq_some_iff.1 ho).1
  have key : ∀ k, k < ops.size → dstAt ops k = some t → k ≠ i → (L k = true ↔ k < i) := by
    intro k hk hdk hne
    have hb : ops[k]? = some ops[k] := Array.getElem?_eq_getElem hk
    have hdst : ops[k].dst = some t := by simpa [dstAt, hb] using hdk
    exact others hd hD ho hr hi hb hne (conflicts_dst hdst ht)
  rw [hW.env i (by omega)]
  rw [lastW_short (m := i) (n := ops.size) (by omega) (fun k h1 h2 hdk => by
    by_cases hne : k = i
    · rw [hne]; exact hi
    · cases hL : L k with
      | false => rfl
      | true => have := (key k h2 hdk hne).1 hL; omega)]
  exact lastW_congr fun k hk hdk => (key k (by omega) hdk (by omega)).2 hk

theorem operand_at {nt : Nat} (hd : drawOk nt ops = true) (hW : Walk X ops e0 M0 run val del Es Ms) {L : Array Bool} {φ : Phi} {a : Act} {w : World} (hI : Inv lo X ops base φ0 w0 e0 M0 val del L φ a w) {i : Nat} {o : Oper} (ho : ops[i]? = some o)
    (hr : ∀ e ∈ o.after, Region.binds .any e = true → L.getD e.on false = true) (hi : L.getD i false = false) {x : Operand} (hx : x ∈ o.op.operands) : Rep φ base w (evF (Es i) x) (a.eval x) := by
  cases x with
  | tmp t =>
    have ht : t ∈ mention ops o := by
      simp only [mention, List.mem_append, List.mem_filterMap]
      exact .inl (.inr ⟨.tmp t, by simpa using hx, rfl⟩)
    have := hI.slots t
    rw [slot_at hd hW hI.down ho hr hi ht] at this
    exact this
  | const v => exact Rep.constV φ base w v
  | global g => rfl
  | func f => exact ⟨#[], rfl, rfl, fun i hi => absurd hi (by omega)⟩

/-- What a looking operation finds is what it finds in the text's order. -/
theorem mem_at {nt : Nat} (hd : drawOk nt ops = true) (hW : Walk X ops e0 M0 run val del Es Ms) {L : Nat → Bool} (hD : Down ops L) {i : Nat} {o : Oper} (ho : ops[i]? = some o) (hr : ∀ e ∈ o.after, Region.binds .any e = true → L e.on = true) (hi : L i = false)
    (hrd : isRd o.op = true) (hwk : wkL ops i = false) : (Ms i).le (memOf (selM ops L) del M0 ops.size) := by
  have hisz : i < ops.size := (Array.getElem?_eq_some_iff.1 ho).1
  intro t ob hg
  have hg' := hg
  rw [hW.mem i (by omega), memOf_get] at hg
  rw [memOf_get, ← hg]
  have hnu : ∀ k, i ≤ k → t ≠ M0.length + k := by
    intro k hk e
    subst e
    rw [hW.unborn i (by omega) k hk] at hg'
    cases hg'
  have key : ∀ k, k < ops.size → (del k).map (·.1) = some t → k ≠ i → (selM ops L k = true ↔ k < i) := by
    intro k hk hdk hne
    have hb : ops[k]? = some ops[k] := Array.getElem?_eq_getElem hk
    have hl : loudAt ops k = isLoud ops[k].op := by simp [loudAt, hb]
    cases hlk : loudAt ops k with
    | true =>
      simp only [selM, hlk, Bool.not_true, Bool.false_or]
      cases hal : (isApp ops[k].op && isLd o.op) with
      | false => exact others hd hD ho hr hi hb hne (conflicts_loud (by rw [← hl]; exact hlk) hrd hal)
      | true =>
        simp only [Bool.and_eq_true] at hal
        refine others_of hD ho hr hi hb ?_
        simp only [wkL, ho, hal.2, Bool.true_and] at hwk
        have := List.any_eq_false.1 hwk k (List.mem_range.2 hk)
        simp only [hb, hal.1, Bool.true_and] at this
        simpa using this
    | false =>
      simp only [selM, hlk, Bool.not_false, Bool.true_or, true_iff]
      cases hdd : del k with
      | none => rw [hdd] at hdk; cases hdk
      | some q =>
        obtain ⟨s, ob'⟩ := q
        rw [hdd] at hdk
        have hs : s = t := by simpa using hdk
        rcases hW.name hk hdd with h1 | ⟨h1, _⟩
        · rcases Nat.lt_or_ge k i with h | h
          · exact h
          · exact absurd (hs.symm.trans h1) (hnu k h)
        · rw [hlk] at h1; cases h1
  have hself : (del i).map (·.1) = some t → selM ops L i = false := by
    intro hdi
    have hl : loudAt ops i = isLoud o.op := by simp [loudAt, ho]
    cases hlk : loudAt ops i with
    | true => simp [selM, hlk, hi]
    | false =>
      exfalso
      cases hdd : del i with
      | none => rw [hdd] at hdi; cases hdi
      | some q =>
        obtain ⟨s, ob'⟩ := q
        rw [hdd] at hdi
        have hs : s = t := by simpa using hdi
        rcases hW.name hisz hdd with h1 | ⟨h1, _⟩
        · exact hnu i (Nat.le_refl _) (hs.symm.trans h1)
        · rw [hlk] at h1; cases h1
  rw [lastW_short (m := i) (n := ops.size) (by omega) (fun k h1 h2 hdk => by
    by_cases hne : k = i
    · subst hne; exact hself hdk
    · cases hL : selM ops L k with
      | false => rfl
      | true => have := (key k h2 hdk hne).1 hL; omega)]
  exact lastW_congr fun k hk hdk => (key k (by omega) hdk (by omega)).2 hk

/-- A look at one object finds what it finds in the text's order. -/
theorem mem_atN {nt : Nat} (hd : drawOk nt ops = true) (hW : Walk X ops e0 M0 run val del Es Ms) {L : Nat → Bool} (hD : Down ops L) {i : Nat} {o : Oper} (ho : ops[i]? = some o) (hr : ∀ e ∈ o.after, Region.binds .any e = true → L e.on = true) (hi : L i = false)
    (hwk : wkL ops i = true) (hrun : run i = true) : (Ms i).leN (wkName (evF (Es i)) o.op) (memOf (selM ops L) del M0 ops.size) := by
  have hisz : i < ops.size := (Array.getElem?_eq_some_iff.1 ho).1
  intro t ob hnm hg
  have hld := wkL_ld ho hwk
  have hrd : isRd o.op = true := by cases hoo : o.op <;> rw [hoo] at hld <;> first | rfl | cases hld
  have hg' := hg
  rw [hW.mem i (by omega), memOf_get] at hg
  rw [memOf_get, ← hg]
  have hnu : ∀ k, i ≤ k → t ≠ M0.length + k := by
    intro k hk e
    subst e
    rw [hW.unborn i (by omega) k hk] at hg'
    cases hg'
  have key : ∀ k, k < ops.size → (del k).map (·.1) = some t → k ≠ i → (selM ops L k = true ↔ k < i) := by
    intro k hk hdk hne
    have hb : ops[k]? = some ops[k] := Array.getElem?_eq_getElem hk
    have hl : loudAt ops k = isLoud ops[k].op := by simp [loudAt, hb]
    cases hlk : loudAt ops k with
    | true =>
      simp only [selM, hlk, Bool.not_true, Bool.false_or]
      cases hal : (isApp ops[k].op && isLd o.op) with
      | false => exact others hd hD ho hr hi hb hne (conflicts_loud (by rw [← hl]; exact hlk) hrd hal)
      | true =>
        exfalso
        simp only [Bool.and_eq_true] at hal
        cases hdd : del k with
        | none => rw [hdd] at hdk; cases hdk
        | some q =>
          obtain ⟨s, ob'⟩ := q
          rw [hdd] at hdk
          have hs : s = t := by simpa using hdk
          exact hW.sep.s i k t s ob' o ops[k] (Nat.zero_le _) hisz (Nat.zero_le _) hk ho hrun hwk hnm hb hal.1 hdd hs.symm
    | false =>
      simp only [selM, hlk, Bool.not_false, Bool.true_or, true_iff]
      cases hdd : del k with
      | none => rw [hdd] at hdk; cases hdk
      | some q =>
        obtain ⟨s, ob'⟩ := q
        rw [hdd] at hdk
        have hs : s = t := by simpa using hdk
        rcases hW.name hk hdd with h1 | ⟨h1, _⟩
        · rcases Nat.lt_or_ge k i with h | h
          · exact h
          · exact absurd (hs.symm.trans h1) (hnu k h)
        · rw [hlk] at h1; cases h1
  have hself : (del i).map (·.1) = some t → selM ops L i = false := by
    intro hdi
    have hl : loudAt ops i = isLoud o.op := by simp [loudAt, ho]
    cases hlk : loudAt ops i with
    | true => simp [selM, hlk, hi]
    | false =>
      exfalso
      cases hdd : del i with
      | none => rw [hdd] at hdi; cases hdi
      | some q =>
        obtain ⟨s, ob'⟩ := q
        rw [hdd] at hdi
        have hs : s = t := by simpa using hdi
        rcases hW.name hisz hdd with h1 | ⟨h1, _⟩
        · exact hnu i (Nat.le_refl _) (hs.symm.trans h1)
        · rw [hlk] at h1; cases h1
  rw [lastW_short (m := i) (n := ops.size) (by omega) (fun k h1 h2 hdk => by
    by_cases hne : k = i
    · subst hne; exact hself hdk
    · cases hL : selM ops L k with
      | false => rfl
      | true => have := (key k h2 hdk hne).1 hL; omega)]
  exact lastW_congr fun k hk hdk => (key k (by omega) hdk (by omega)).2 hk

end
end Go.Tri

/-
  REGIONS THAT DRAW THEIR ORDER: one step, all steps.
-/
namespace Go.Tri
variable {lo : Nat}
open Go.RowKit

section
variable {X : Cx} {ops : Array Oper} {base : Nat} {φ0 : Phi} {w0 : World} {e0 : Env} {M0 : Mem}
  {run : Nat → Bool} {val : Nat → V} {del : Nat → Option (Nat × Ob)} {Es : Nat → Nat → V} {Ms : Nat → Mem}

theorem env_step {nt : Nat} (hd : drawOk nt ops = true) {L L' : Nat → Bool} (hD : Down ops L) {i : Nat} {o : Oper} (ho : ops[i]? = some o) (hr : ∀ e ∈ o.after, Region.binds .any e = true → L e.on = true) (hi : L i = false)
    (hL : ∀ j, L' j = if i = j then true else L j) (t : Nat) : lastW L' (dstAt ops) val (Env.get e0) ops.size t = if dstAt ops i = some t then val i else lastW L (dstAt ops) val (Env.get e0) ops.size t := by
  have hisz : i < ops.size := (Array.getElem?_eq_some_iff.1 ho).1
  by_cases hdt : dstAt ops i = some t
  · rw [if_pos hdt]
    refine lastW_at hisz (by rw [hL]; simp) hdt (fun k hk hk2 hdk => ?_)
    rw [hL, if_neg (by omega)]
    have hb : ops[k]? = some ops[k] := Array.getElem?_eq_getElem hk2
    have hdst : ops[k].dst = some t := by simpa [dstAt, hb] using hdk
    have hot : o.dst = some t := by simpa [dstAt, ho] using hdt
    have := others hd hD ho hr hi hb (by omega) (conflicts_dst hdst (by simp [mention, hot]))
    cases hq : L k with
    | false => rfl
    | true => have := this.1 hq; omega
  · rw [if_neg hdt]
    exact lastW_congr fun k hk hdk => by rw [hL, if_neg (fun e => hdt (by rw [e]; exact hdk))]

theorem mem_step {nt : Nat} (hd : drawOk nt ops = true) (hW : Walk X ops e0 M0 run val del Es Ms) {L L' : Nat → Bool} (hD : Down ops L) {i : Nat} {o : Oper} (ho : ops[i]? = some o) (hr : ∀ e ∈ o.after, Region.binds .any e = true → L e.on = true) (hi : L i = false)
    {φ : Phi} (hun : φ (M0.length + i) = none) (hlo : ∀ k, k < ops.size → L k = true → loudAt ops k = true → ∀ t ob, del k = some (t, ob) → φ t ≠ none)
    (hL : ∀ j, L' j = if i = j then true else L j) (t : Nat) : (patch (memOf (selM ops L) del M0 ops.size) (del i)).get t = (memOf (selM ops L') del M0 ops.size).get t := by
  have hisz : i < ops.size := (Array.getElem?_eq_some_iff.1 ho).1
  have hsel : ∀ k, k ≠ i → selM ops L' k = selM ops L k := fun k hk => by unfold selM; rw [hL, if_neg (Ne.symm hk)]
  rw [patch_get, memOf_get, memOf_get]
  by_cases hdt : (del i).map (·.1) = some t
  · rw [if_pos hdt]
    symm
    refine lastW_at (sel := selM ops L') (dst := fun k => (del k).map (·.1)) (val := fun k => (del k).map (·.2)) hisz (by simp [selM, hL]) hdt (fun k hk hk2 hdk => ?_)
    rw [hsel k (by omega)]
    cases hdk' : del k with
    | none => rw [hdk'] at hdk; cases hdk
    | some q =>
      obtain ⟨s, ob⟩ := q
      rw [hdk'] at hdk
      have hs : s = t := by simpa using hdk
      subst hs
      cases hdi' : del i with
      | none => rw [hdi'] at hdt; cases hdt
      | some q' =>
        obtain ⟨s', ob'⟩ := q'
        rw [hdi'] at hdt
        have hs' : s' = s := by simpa using hdt
        subst hs'
        have hb : ops[k]? = some ops[k] := Array.getElem?_eq_getElem hk2
        cases hlk : loudAt ops k with
        | false =>
          exfalso
          rcases hW.name hk2 hdk' with h1 | ⟨h1, _⟩
          · rcases hW.name hisz hdi' with h2 | ⟨_, h2⟩
            · omega
            · rw [h1] at h2
              exact h2 (hW.unborn i (by omega) k (by omega))
          · rw [hlk] at h1; cases h1
        | true =>
          simp only [selM, hlk, Bool.not_true, Bool.false_or]
          cases hq : L k with
          | false => rfl
          | true =>
            exfalso
            cases hli : loudAt ops i with
            | true =>
              have h1 : isLoud o.op = true := by simpa [loudAt, ho] using hli
              have h2 : isLoud ops[k].op = true := by simpa [loudAt, hb] using hlk
              have := others hd hD ho hr hi hb (by omega) (conflicts_loud h2 (loud_rd h1) (by rw [loud_ld h1, Bool.and_false]))
              have := this.1 hq
              omega
            | false =>
              have hne := hlo k hk2 hq hlk s' ob hdk'
              rcases hW.name hisz hdi' with h2 | ⟨h2, _⟩
              · rw [h2] at hne; exact hne hun
              · rw [hli] at h2; cases h2
  · rw [if_neg hdt]
    exact lastW_congr fun k hk hdk => by
      rw [hsel k (fun e => hdt (by rw [← e]; exact hdk))]

/-- ONE STEP. -/
theorem draw_step {ro : Option Nat} (hT : TabOk X.P X.T) (hd : drawOk X.nt ops = true) (hW : Walk X ops e0 M0 run val del Es Ms) {L : Array Bool} {φ : Phi} {a : Act} {w : World} (hI : Inv lo X ops base φ0 w0 e0 M0 val del L φ a w) {i : Nat} {o : Oper} (ho : ops[i]? = some o)
    (hr : ∀ e ∈ o.after, Region.binds .any e = true → L.getD e.on false = true) (hi : L.getD i false = false) {K : Act → World → Prop} {Q : Exit → Act → World → Prop}
    (hK : ∀ φ' a' w', Inv lo X ops base φ0 w0 e0 M0 val del (L.setIfInBounds i true) φ' a' w' → K a' w') : wpOpIn (FZ ro) 0 X.P ops Q i K a w := by
  have hisz : i < ops.size := (Array.getElem?_eq_some_iff.1 ho).1
  have hLs : ∀ j, (L.setIfInBounds i true).getD j false = if i = j then true else L.getD j false := fun j => getD_set L i j (by rw [hI.size]; exact hisz)
  have hdst : dstAt ops i = o.dst := by simp [dstAt, ho]
  have hdn : ∀ d, o.dst = some d → d < X.nt := by
    intro d hod
    simp only [drawOk, Bool.and_eq_true] at hd
    have := List.all_eq_true.1 hd.1.1 o (by rw [List.mem_iff_getElem?]; exact ⟨i, by simpa using ho⟩)
    simp only [dstOk, hod] at this
    simpa using this
  have hdown : Down ops (fun j => (L.setIfInBounds i true).getD j false) := by
    intro j b hb hj e he hbind
    simp only [hLs] at hj ⊢
    by_cases hij : i = j
    · subst hij
      rw [ho] at hb
      cases hb
      have := hr e he hbind
      simp [this]
    · rw [if_neg hij] at hj
      have := hI.down j b hb hj e he hbind
      simp only at this
      simp [this]
  -- the frame behind the step
  have frame : ∀ (φ' : Phi) (w' : World) (cv : Value), MemRel X.nb base φ' w' (patch (memOf (selM ops (fun j => L.getD j false)) del M0 ops.size) (del i)) → Rep φ' base w' (val i) cv → Evo w φ w' φ' →
      (∀ t r, φ' t = some r → (∃ r0, φ t = some r0) ∨ t = M0.length + i) → (loudAt ops i = true → ∀ t ob, del i = some (t, ob) → φ' t ≠ none) →
      Inv lo X ops base φ0 w0 e0 M0 val del (L.setIfInBounds i true) φ' (a.put o.dst cv) w' := by
    intro φ' w' cv hm hrep hv hdom hborn
    refine ⟨by simp [hI.size], hdown, hm.congr (fun t => mem_step hd hW hI.down ho hr hi (hI.unborn i hisz hi) hI.louds hLs t), ?_, Nat.le_trans hI.low hv.size, ?_, fun t => ?_, fun k hk hkL => ?_, fun k hk hkL hlk t ob hdk => ?_, hI.evo.trans hv⟩
    · cases h : o.dst <;> exact hI.dfr.evo hv
    · cases h : o.dst with
      | none => exact hI.tsize
      | some d => simp [Act.put, hI.tsize]
    · rw [env_step hd hI.down ho hr hi hLs t, hdst]
      by_cases hdt : o.dst = some t
      · rw [if_pos hdt, hdt]
        simp only [Act.put]
        rw [show (a.tmps.setIfInBounds t cv).getD t undef = cv from by simp [Array.getD, hI.tsize, hdn t hdt]]
        exact hrep
      · rw [if_neg hdt]
        have : (a.put o.dst cv).tmps.getD t undef = a.tmps.getD t undef := by
          cases h : o.dst with
          | none => rfl
          | some d =>
            have hne : d ≠ t := fun e => hdt (by rw [h, e])
            simp only [Act.put]
            rw [Array.getD_eq_getD_getElem?, Array.getD_eq_getD_getElem?, Array.getElem?_setIfInBounds_ne hne]
        rw [this]
        exact Rep.evo hv (hI.slots t)
    · rw [hLs] at hkL
      by_cases hik : i = k
      · rw [if_pos hik] at hkL; cases hkL
      · rw [if_neg hik] at hkL
        have := hI.unborn k hk hkL
        cases hq : φ' (M0.length + k) with
        | none => rfl
        | some r =>
          rcases hdom _ r hq with ⟨r0, h0⟩ | h0
          · rw [this] at h0; cases h0
          · omega
    · rw [hLs] at hkL
      by_cases hik : i = k
      · subst hik; exact hborn hlk t ob hdk
      · rw [if_neg hik] at hkL
        have := hI.louds k hk hkL hlk t ob hdk
        cases hq : φ t with
        | none => exact absurd hq this
        | some r =>
          obtain ⟨r', h2, _⟩ := hv.names t r hq
          rw [h2]
          exact fun h => nomatch h
  -- the guard
  have guard : ∀ b, guardIs ops o (Es i) b → Region.wanted o (yielded ops a.tmps) = b := by
    intro b hb
    unfold guardIs at hb
    unfold Region.wanted
    cases hg : o.guard with
    | none => rw [hg] at hb; simpa using hb.symm
    | some q =>
      obtain ⟨j, want⟩ := q
      rw [hg] at hb
      simp only at hb ⊢
      cases hdj : (ops[j]?).bind (·.dst) with
      | none => rw [hdj] at hb; simp only at hb; simp [yielded, hdj, hb]
      | some d =>
        rw [hdj] at hb
        have hmen0 : d ∈ mention ops o := by simp [mention, hg, hdj]
        rcases hb.symm with ⟨rfl, u, hu⟩ | ⟨c, hc, rfl⟩
        · have hs := hI.slots d
          rw [slot_at hd hW hI.down ho hr hi hmen0, hu] at hs
          have hs : a.tmps.getD d undef = .tuple u := hs
          have hy : yielded ops a.tmps j = none := by
            simp only [yielded, hdj, Option.bind_some]
            rw [Array.getD_eq_getD_getElem?] at hs
            cases hq : a.tmps[d]? with
            | none => rfl
            | some u' => rw [hq] at hs; simp only [Option.getD_some] at hs; rw [hs]
          rw [hy]
          rfl
        have hmen : d ∈ mention ops o := by simp [mention, hg, hdj]
        have hs := hI.slots d
        rw [slot_at hd hW hI.down ho hr hi hmen, hc] at hs
        have hs : a.tmps.getD d undef = .bool c := hs
        have hget : a.tmps[d]? = some (.bool c) := by
          rw [Array.getD_eq_getD_getElem?] at hs
          cases hq : a.tmps[d]? with
          | none => rw [hq] at hs; simp [undef] at hs
          | some u => rw [hq] at hs; simpa using hs
        have hy : yielded ops a.tmps j = some c := by simp [yielded, hdj, hget]
        rw [hy]
        cases c <;> cases want <;> rfl
  unfold wpOpIn
  rw [ho]
  simp only
  obtain ⟨o', ho', hE, hM, hs⟩ := (hW.step i hisz).ex
  rw [ho] at ho'
  cases ho'
  rcases hs with ⟨hrun, hg, hD⟩ | ⟨hrun, hg, hval, hdel⟩
  · rw [guard true hg]
    simp only [if_true]
    refine Oper.wpIn_mono ?_ (DOk.run hT hD (fun x hx => operand_at hd hW hI ho hr hi hx) (fun hrd => by
      cases hwk : wkL ops i with
      | false => exact .inl (mem_at hd hW hI.down ho hr hi hrd hwk)
      | true => exact .inr ⟨wkL_ld ho hwk, mem_atN hd hW hI.down ho hr hi hwk hrun⟩) hI.mem (hI.unborn i hisz hi))
    rintro a' w' ⟨φ', cv, h1, h2, h3, rfl, h5, h6, h7⟩
    exact hK φ' _ w' (frame φ' w' cv h1 h2 h3 h5 (fun hl => h7 (by simpa [loudAt, ho] using hl)))
  · rw [guard false hg]
    simp only [Bool.false_eq_true, if_false]
    refine ⟨fun _ _ => trivial, ?_⟩
    refine hK φ _ w (frame φ w undef ?_ (by rw [hval]; rfl) (Evo.refl w φ) (fun t r h => .inl ⟨r, h⟩) (fun _ t ob h => by rw [hdel] at h; cases h))
    rw [hdel]
    exact hI.mem

theorem draw_any {ro : Option Nat} (hT : TabOk X.P X.T) (hd : drawOk X.nt ops = true) (hW : Walk X ops e0 M0 run val del Es Ms) {Qc : Exit → Act → World → Prop}
    (hQ : ∀ L φ a w, Inv lo X ops base φ0 w0 e0 M0 val del L φ a w → (∀ i, i < ops.size → L.getD i false = true) → Qc .normal a w) :
    ∀ (fuel : Nat) (L : Array Bool) (φ : Phi) (a : Act) (w : World), Inv lo X ops base φ0 w0 e0 M0 val del L φ a w → ((List.range ops.size).filter fun i => !L.getD i false).length ≤ fuel → wpAnyIn (FZ ro) 0 X.P .any ops Qc fuel L a w := by
  have done : ∀ (L : Array Bool) (φ : Phi) (a : Act) (w : World), Inv lo X ops base φ0 w0 e0 M0 val del L φ a w → Region.ready .any ops L = [] → ∀ i, i < ops.size → L.getD i false = true := by
    intro L φ a w hI hnil i
    induction i using Nat.strongRecOn with
    | _ i ih =>
      intro hi
      cases hq : L.getD i false with
      | true => rfl
      | false =>
        exfalso
        have hsz : i < L.size := by rw [hI.size]; exact hi
        have hmem : i ∈ Region.ready .any ops L := by
          rw [mem_ready]
          refine ⟨by rw [← hq]; simp [Array.getD, hsz], ops[i], Array.getElem?_eq_getElem hi, fun e he hb => ?_⟩
          simp only [drawOk, Bool.and_eq_true] at hd
          have := List.all_eq_true.1 hd.1.2 i (List.mem_range.2 hi)
          rw [Array.getElem?_eq_getElem hi] at this
          simp only at this
          have := Array.all_eq_true_iff_forall_mem.1 this e he
          simp only [hb, Bool.not_true, Bool.false_or] at this
          have hlt : e.on < i := by simpa using this
          exact ih e.on hlt (by omega)
        rw [hnil] at hmem
        cases hmem
  intro fuel
  induction fuel with
  | zero =>
    intro L φ a w hI hf
    have hall : ∀ i, i < ops.size → L.getD i false = true := by
      intro i hi
      cases hq : L.getD i false with
      | true => rfl
      | false =>
        exfalso
        have : i ∈ (List.range ops.size).filter fun i => !L.getD i false := List.mem_filter.2 ⟨List.mem_range.2 hi, by rw [hq]; rfl⟩
        have := List.length_pos_of_mem this
        omega
    refine ⟨?_, hQ L φ a w hI hall⟩
    cases hq : Region.ready .any ops L with
    | nil => rfl
    | cons i r =>
      exfalso
      have hm : i ∈ Region.ready .any ops L := by rw [hq]; simp
      rw [mem_ready] at hm
      obtain ⟨h1, o, ho, _⟩ := hm
      have hi : i < ops.size := (Array.getElem?_eq_some_iff.1 ho).1
      have hsz : i < L.size := by rw [hI.size]; exact hi
      have h2 := hall i hi
      have : L.getD i true = L.getD i false := by simp [Array.getD, hsz]
      rw [this, h2] at h1
      cases h1
  | succ fuel ih =>
    intro L φ a w hI hf
    refine ⟨fun hnil => hQ L φ a w hI (done L φ a w hI hnil), fun i hi => ?_⟩
    rw [mem_ready] at hi
    obtain ⟨h1, o, ho, he⟩ := hi
    have hisz : i < ops.size := (Array.getElem?_eq_some_iff.1 ho).1
    have hsz : i < L.size := by rw [hI.size]; exact hisz
    have hif : L.getD i false = false := by rw [← h1]; simp [Array.getD, hsz]
    refine draw_step hT hd hW hI ho he hif (fun φ' a' w' hI' => ih _ φ' a' w' hI' ?_)
    have := count_lt (n := ops.size) (i := i) (f := fun j => !L.getD j false) (g := fun j => !(L.setIfInBounds i true).getD j false) hisz (by simp [hif]) (by simp only [getD_set L i i hsz]; rfl) (fun j hj => by
      simp only [getD_set L i j hsz] at hj
      by_cases hij : i = j
      · rw [if_pos hij] at hj; cases hj
      · rw [if_neg hij] at hj; exact hj)
    omega

/-- What a walk in the text's order says of every order. -/
theorem draw_core {ro : Option Nat} (hT : TabOk X.P X.T) (hd : drawOk X.nt ops = true) {Kf : Env → Mem → Prop} {e : Env} {M : Mem} (h : drawW X ops M.length 0 ops.toList [] [] e M Kf) {base : Nat} {φ : Phi} {w : World} {a : Act} (hst : St lo X.nt X.nb base φ w M e a)
    {Qc : Exit → Act → World → Prop} (hQ : ∀ e' M' φ' a' w', Kf e' M' → St lo X.nt X.nb base φ' w' M' e' a' → Evo w φ w' φ' → Qc .normal a' w') :
    wpAnyIn (FZ ro) 0 X.P .any ops Qc ops.size (Array.replicate ops.size false) a { w with drawn := w.drawn + 1 } := by
  obtain ⟨run, val, del, Es, Ms, h1, h2, h3, hS, e', h4, h5⟩ := drawW_trace ops.toList 0 [] [] e M (fun j => by simp) h
  have hW : Walk X ops e M run val del Es Ms := ⟨h1, h2, by simpa using hS, fun j hj => h3 j (Nat.zero_le j) (by simpa using hj)⟩
  simp only [Nat.zero_add, Array.length_toList] at h4 h5
  have hevo : Evo w φ { w with drawn := w.drawn + 1 } φ := ⟨rfl, rfl, rfl, Nat.le_refl _, fun _ _ _ => rfl, fun t r ht hp _ hn => hn t r ht hp rfl, fun _ r h => ⟨r, h, rfl, rfl, Nat.le_refl _, fun _ => rfl⟩, (by first | exact Nat.le_refl _ | exact Nat.le_succ _)⟩
  have hmem : MemRel X.nb base φ { w with drawn := w.drawn + 1 } M := hst.mem.evo hevo (fun _ _ _ _ => rfl)
  have hdom : ∀ k, φ (M.length + k) = none := by
    intro k
    cases hq : φ (M.length + k) with
    | none => rfl
    | some r =>
      obtain ⟨o, ho, _⟩ := hmem.obj _ r hq
      simp [Mem.get, List.getD] at ho
  have hLf : ∀ j, (Array.replicate ops.size false).getD j false = false := by
    intro j
    simp only [Array.getD, Array.size_replicate]
    split
    · rw [Array.getInternal_eq_getElem, Array.getElem_replicate]
    · rfl
  refine (draw_any (ro := ro) (lo := lo) (base := base) (φ0 := φ) (w0 := w) hT hd hW ?_ ops.size _ φ a _ ?_ ?_)
  · intro L φ' a' w' hI hall
    refine hQ e' (Ms ops.size) φ' a' w' h5 ⟨hI.mem.congr fun t => ?_, hI.dfr, hI.low, hI.tsize, fun t => ?_⟩ hI.evo
    · rw [hW.mem _ (Nat.le_refl _), memOf_get, memOf_get]
      exact lastW_congr fun k hk _ => by simp [selM, hall k hk]
    · have := hI.slots t
      rw [h4, hW.env _ (Nat.le_refl _)]
      rw [lastW_congr (sel' := fun _ => true) (fun k hk _ => hall k hk)] at this
      exact this
  · refine ⟨by simp, fun i o ho hL => ?_, ⟨fun t r ht => ?_, hmem.inj, hmem.own, hmem.le⟩, hst.dfr.evo hevo, hst.low, hst.size, fun t => ?_, fun k hk _ => hdom k, fun k hk hL => ?_, hevo⟩
    · simp only [hLf] at hL; cases hL
    · obtain ⟨o, ho, hrel⟩ := hmem.obj t r ht
      refine ⟨o, ?_, hrel⟩
      rw [memOf_get, ← ho]
      refine lastW_none fun k hk hdk => ?_
      cases hdd : del k with
      | none => rw [hdd] at hdk; cases hdk
      | some q =>
        obtain ⟨s, ob⟩ := q
        rw [hdd] at hdk
        have hs : s = t := by simpa using hdk
        subst hs
        cases hl : loudAt ops k with
        | true =>
          simp only [selM, hl, Bool.not_true, Bool.false_or]
          exact hLf k
        | false =>
          exfalso
          rcases hW.name hk hdd with h | ⟨h, _⟩
          · rw [h, hdom k] at ht; cases ht
          · rw [hl] at h; cases h
    · rw [lastW_none (fun k _ _ => hLf k)]
      exact Rep.evo hevo (hst.slots t)
    · rw [hLf] at hL; cases hL
  · have : ((List.range ops.size).filter fun i => !(Array.replicate ops.size false).getD i false).length ≤ (List.range ops.size).length := List.length_filter_le _ _
    simpa using this

/-- A REGION THAT DRAWS: one walk in the text's order. -/
theorem AW_draw (hT : TabOk X.P X.T) (hm : X.P.follows .mixedOrders = true) {id : Nat} (hd : drawOk X.nt ops = true) {Q : Exit → Env → Mem → Prop} {e : Env} {M : Mem} (h : drawW X ops M.length 0 ops.toList [] [] e M (Q .normal)) :
    AW X.P X.nt X.nb X.rd (.region id ops true) Q e M := by
  rw [AW_def]
  intro ro lo base φ w a hro hst
  exact wpIn_region_any hm (draw_core hT hd h hst (fun e' M' φ' a' w' hq hst' hv => ⟨trivial, e', M', φ', hq, hst', hv⟩))

end
end Go.Tri

/-
  FROM A FUNCTION'S CONTRACT TO A LAW'S WALK.
-/
namespace Go.Tri
variable {lo : Nat}
open Go.RowKit

theorem rep_row {w : World} {a : Option Addr} {len cap : Nat} {zs : List Int} (h : (a = none ∧ len = 0 ∧ cap = 0 ∧ zs = []) ∨
    ∃ x, a = some x ∧ len ≤ cap ∧ cap ≤ maxLen ∧ zs.length = cap ∧ (∀ i, i < zs.length → w.cell? (x.add i) = some (.int .i64 (zs.getD i 0))) ∧ ∀ n ∈ zs, (Lit.int .i64 n).wf = true) :
    Rep (fun _ => none) 0 w (.ints false (zs.take len)) (.slice a len cap) := by
  rcases h with ⟨rfl, rfl, rfl, rfl⟩ | ⟨x, rfl, h1, h2, h3, h4, _⟩
  · exact ⟨none, 0, rfl, Nat.le_refl _, Nat.zero_le _, fun h => absurd h (by simp)⟩
  · have hl : (zs.take len).length = len := by rw [List.length_take]; omega
    refine ⟨some x, cap, by rw [hl], by omega, h2, fun hp => ?_⟩
    have h0 := h4 0 (by omega)
    obtain ⟨b, off, sp⟩ := x
    have hsp : sp = none := World.cell?_spot h0
    subst hsp
    refine ⟨b, off, rfl, fun t r h => (nomatch h), fun h => (nomatch h), fun j hj => ?_⟩
    have := h4 j (by omega)
    rw [show (zs.take len).getD j 0 = zs.getD j 0 from by simp only [List.getD, List.getElem?_take]; rw [if_pos (by omega)]]
    have e : (⟨b, off, none⟩ : Addr).add j = ⟨b, off + j, none⟩ := by unfold Addr.add; split <;> simp_all
    rw [e] at this
    exact this

theorem wf_row {w : World} {a : Option Addr} {len cap : Nat} {zs : List Int} (h : (a = none ∧ len = 0 ∧ cap = 0 ∧ zs = []) ∨
    ∃ x, a = some x ∧ len ≤ cap ∧ cap ≤ maxLen ∧ zs.length = cap ∧ (∀ i, i < zs.length → w.cell? (x.add i) = some (.int .i64 (zs.getD i 0))) ∧ ∀ n ∈ zs, (Lit.int .i64 n).wf = true) :
    ∀ n ∈ zs.take len, -9223372036854775808 ≤ n ∧ n ≤ 9223372036854775807 := by
  intro n hn
  rcases h with ⟨rfl, rfl, rfl, rfl⟩ | ⟨x, rfl, h1, h2, h3, h4, h5⟩
  · simp at hn
  · have := h5 n (List.mem_of_mem_take hn)
    simp [Lit.wf, IntKind.min, IntKind.max, IntKind.signed, IntKind.bits] at this
    omega

/-- The arguments, one by one. -/
def Reps (w : World) : List V → List Value → Prop
  | [], [] => True
  | x :: xs, v :: vs => Rep (fun _ => none) 0 w x v ∧ Reps w xs vs
  | _, _ => False

theorem Reps.len {w : World} : ∀ {xs : List V} {vs : List Value}, Reps w xs vs → vs.length = xs.length
  | [], [], _ => rfl
  | _ :: _, _ :: _, h => by simp [Reps.len h.2]
  | [], _ :: _, h => h.elim
  | _ :: _, [], h => h.elim

theorem rep_nth {w : World} : ∀ {xs : List V} {vs : List Value}, Reps w xs vs → ∀ i, Rep (fun _ => none) 0 w (xs.getD i .any) (vs.toArray.getD i undef)
  | [], [], _, i => by simp; trivial
  | x :: xs, v :: vs, h, 0 => by simpa [Array.getD] using h.1
  | x :: xs, v :: vs, h, i + 1 => by have := rep_nth h.2 i; simpa [Array.getD_eq_getD_getElem?] using this
  | [], _ :: _, h, _ => h.elim
  | _ :: _, [], h, _ => h.elim

theorem APure.law {P : Program} {f : FuncId} {xs : List V} (h : APure P f xs (fun R => R = .bool true)) {w : World} {vs : List Value} (hr : Reps w xs vs) :
    Calls P f vs.toArray w fun e w' => e = .returned (.bool true) ∧ Below w.heap.size w w' := by
  unfold APure at h
  refine (h.2 w vs.toArray (by simp [hr.len]) (rep_nth hr)).mono fun e w' hq => ?_
  obtain ⟨v, R, rfl, rfl, _, hv, he⟩ := hq
  have hv : v = .bool true := hv
  subst hv
  exact ⟨rfl, he.os, he.tape, he.output, he.size, fun k hk => he.block k hk (fun t r h => (nomatch h))⟩

end Go.Tri

/-
  LOOPS WHOSE ROUNDS LEAVE LITTER: names that are wanted no more are let go.
-/
namespace Go.Tri
variable {lo : Nat}
open Go.RowKit

/-- All names in it are kept. -/
def Named (kp : Nat → Bool) : V → Prop
  | .seq _ sz n f => ∀ j k, j < n → k < sz → Named kp (f j k)
  | .sl t _ _ _ => kp t = true
  | .ptr t _ _ _ => kp t = true
  | .at_ sz g _ => ∀ k, k < sz → Named kp (g k)
  | .agg n g => ∀ k, k < n → Named kp (g k)
  | .tup n g => ∀ k, k < n → Named kp (g k)
  | .clo _ n g => ∀ k, k < n → Named kp (g k)
  | .bnd _ n g => ∀ k, k < n → Named kp (g k)
  | .ifc _ x => Named kp x
  | .yld t => kp t = true
  | .mp t => kp t = true
  | _ => True

def NamedE (kp : Nat → Bool) : Env → Prop
  | [] => True
  | (_, v) :: r => Named kp v ∧ NamedE kp r

def NamedL (kp : Nat → Bool) : List V → Prop
  | [] => True
  | v :: r => Named kp v ∧ NamedL kp r

def NamedC (kp : Nat → Bool) (sz : Nat) : Con → Prop
  | .cv n f => ∀ j k, j < n → k < sz → Named kp (f j k)
  | .one cs => NamedL kp cs
  | .loop _ _ e _ _ _ _ _ => NamedE kp e
  | _ => True

def NamedM (kp : Nat → Bool) : Mem → Prop
  | [] => True
  | some ob :: r => NamedC kp ob.sz ob.c ∧ NamedM kp r
  | none :: r => NamedM kp r

def consM : Option Ob → Mem → Mem
  | none, [] => []
  | o, r => o :: r

/-- What is kept of a memory. -/
def maskM (kp : Nat → Bool) : Nat → Mem → Mem
  | _, [] => []
  | i, o :: r => consM (bif kp i then o else none) (maskM kp (i + 1) r)

def restr (kp : Nat → Bool) (φ : Phi) : Phi := fun t => if kp t = true then φ t else none

theorem consM_get (o : Option Ob) (r : Mem) (t : Nat) : (consM o r).get t = Mem.get (o :: r) t := by
  cases o with
  | some o => cases r <;> rfl
  | none =>
    cases r with
    | nil => cases t <;> simp [consM, Mem.get, List.getD]
    | cons => rfl

theorem maskM_get (kp : Nat → Bool) : ∀ (M : Mem) (i t : Nat), (maskM kp i M).get t = if kp (i + t) = true then M.get t else none := by
  intro M
  induction M with
  | nil => intro i t; simp [maskM, Mem.get, List.getD]
  | cons o r ih =>
    intro i t
    simp only [maskM]
    rw [consM_get]
    cases t with
    | zero =>
      simp only [Mem.get, List.getD_cons_zero, Nat.add_zero]
      cases kp i <;> simp
    | succ t =>
      have := ih (i + 1) t
      simp only [Mem.get, List.getD_cons_succ] at this ⊢
      rw [this, show i + 1 + t = i + (t + 1) from by omega]

theorem notLive_restr {kp : Nat → Bool} {φ : Phi} {b : Nat} (h : notLive φ b) : notLive (restr kp φ) b := by
  intro t r ht hc
  unfold restr at ht
  split at ht
  · exact h t r ht hc
  · cases ht

theorem Rep_restr {kp : Nat → Bool} {φ : Phi} {base : Nat} {w : World} : ∀ {x : V} {v : Value}, Named kp x → Rep φ base w x v → Rep (restr kp φ) base w x v := by
  intro x
  induction x with
  | ints fr xs =>
    rintro v _ ⟨A, cap, rfl, h1, h2, h4⟩
    refine ⟨A, cap, rfl, h1, h2, fun h => ?_⟩
    obtain ⟨b, off, rfl, g1, g2, g3⟩ := h4 h
    exact ⟨b, off, rfl, notLive_restr g1, g2, g3⟩
  | full xs =>
    rintro v _ ⟨A, rfl, h1, h4⟩
    refine ⟨A, rfl, h1, fun h => ?_⟩
    obtain ⟨b, off, rfl, g1, g3⟩ := h4 h
    exact ⟨b, off, rfl, notLive_restr g1, g3⟩
  | seq fr sz n f ih =>
    rintro v hn ⟨A, cap, rfl, h1, h2, h3, h4⟩
    refine ⟨A, cap, rfl, h1, h2, h3, fun h => ?_⟩
    obtain ⟨b, off, rfl, g1, g2, g3⟩ := h4 h
    refine ⟨b, off, rfl, notLive_restr g1, g2, fun j o hj ho => ?_⟩
    obtain ⟨c, e1, e2, e3⟩ := g3 j o hj ho
    exact ⟨c, e1, e2, ih j o (hn j o hj ho) e3⟩
  | sl t ver off len =>
    rintro v hn ⟨r, hr, h⟩
    have hn : kp t = true := hn
    exact ⟨r, by unfold restr; rw [if_pos hn]; exact hr, h⟩
  | ptr t ver i o =>
    rintro v hn ⟨r, hr, h⟩
    have hn : kp t = true := hn
    exact ⟨r, by unfold restr; rw [if_pos hn]; exact hr, h⟩
  | at_ sz g o ih =>
    rintro v hn ⟨b, off, rfl, h0, h1, h2⟩
    refine ⟨b, off, rfl, h0, notLive_restr h1, fun k hk => ?_⟩
    obtain ⟨c, e1, e2, e3⟩ := h2 k hk
    exact ⟨c, e1, e2, ih k (hn k hk) e3⟩
  | agg n g ih =>
    rintro v hn ⟨cs, rfl, h1, h2⟩
    exact ⟨cs, rfl, h1, fun i hi => by obtain ⟨c, e1, e2, e3⟩ := h2 i hi; exact ⟨c, e1, e2, ih i (hn i hi) e3⟩⟩
  | tup n g ih =>
    rintro v hn ⟨cs, rfl, h1, h2⟩
    exact ⟨cs, rfl, h1, fun i hi => by obtain ⟨c, e1, e2⟩ := h2 i hi; exact ⟨c, e1, ih i (hn i hi) e2⟩⟩
  | clo f n g ih =>
    rintro v hn ⟨cs, rfl, h1, h2⟩
    exact ⟨cs, rfl, h1, fun i hi => by obtain ⟨c, e1, e2⟩ := h2 i hi; exact ⟨c, e1, ih i (hn i hi) e2⟩⟩
  | bnd f n g ih =>
    rintro v hn ⟨cs, rfl, h1, h2⟩
    exact ⟨cs, rfl, h1, fun i hi => by obtain ⟨c, e1, e2⟩ := h2 i hi; exact ⟨c, e1, ih i (hn i hi) e2⟩⟩
  | ifc ty x ih =>
    rintro v hn ⟨u, rfl, h1⟩
    exact ⟨u, rfl, ih hn h1⟩
  | yld t =>
    rintro v hn ⟨r, hr, h⟩
    have hn : kp t = true := hn
    exact ⟨r, by unfold restr; rw [if_pos hn]; exact hr, h⟩
  | mp t =>
    rintro v hn ⟨r, hr, h⟩
    have hn : kp t = true := hn
    exact ⟨r, by unfold restr; rw [if_pos hn]; exact hr, h⟩
  | _ => exact fun _ h => h

theorem NamedE.get {kp : Nat → Bool} : ∀ {e : Env}, NamedE kp e → ∀ i, Named kp (Env.get e i)
  | [], _, i => trivial
  | (j, v) :: r, h, i => by
    simp only [Env.get]
    split
    · exact h.1
    · exact NamedE.get h.2 i

theorem Dfr_restr {kp : Nat → Bool} {φ : Phi} {w : World} : ∀ {ds : List Deferred}, Dfr lo φ w ds → Dfr lo (restr kp φ) w ds
  | [], _ => trivial
  | _ :: _, ⟨⟨D, h1, h2, h3, h4, h5⟩, h6⟩ => ⟨⟨D, h1, h2, h3, notLive_restr h4, h5⟩, Dfr_restr h6⟩

theorem NamedL.get {kp : Nat → Bool} : ∀ {vs : List V}, NamedL kp vs → ∀ i, Named kp (vs.getD i .any)
  | [], _, i => by simp [Named]
  | v :: r, h, 0 => by simpa using h.1
  | v :: r, h, i + 1 => by have := NamedL.get h.2 i; simpa using this

theorem NamedM.get {kp : Nat → Bool} : ∀ {M : Mem}, NamedM kp M → ∀ t ob, M.get t = some ob → NamedC kp ob.sz ob.c
  | [], _, t, ob, h => by simp [Mem.get, List.getD] at h
  | some ob :: r, h, 0, ob', he => by simp [Mem.get] at he; subst he; exact h.1
  | none :: r, h, 0, ob', he => by simp [Mem.get] at he
  | some ob :: r, h, t + 1, ob', he => NamedM.get h.2 t ob' (by simpa [Mem.get] using he)
  | none :: r, h, t + 1, ob', he => NamedM.get (M := r) h t ob' (by simpa [Mem.get] using he)

theorem NamedC.f {kp : Nat → Bool} {sz : Nat} {c : Con} (h : NamedC kp sz c) (j k : Nat) (hj : j < c.n) (hk : k < sz) : Named kp (c.f j k) := by
  cases c with
  | cv n f => exact h j k hj hk
  | one cs => exact NamedL.get h k
  | _ => exact trivial

theorem MemRel.mask {kp : Nat → Bool} {nb base : Nat} {φ : Phi} {w : World} {M : Mem} (h : MemRel nb base φ w M) (hn : NamedM kp (maskM kp 0 M)) : MemRel nb base (restr kp φ) w (maskM kp 0 M) := by
  refine ⟨fun t r ht => ?_, fun t t' r r' ht ht' => ?_, fun t r ht => ?_, h.le⟩
  · unfold restr at ht
    split at ht
    · next hk =>
      obtain ⟨o, h1, h2⟩ := h.obj t r ht
      have hg : (maskM kp 0 M).get t = some o := by rw [maskM_get, Nat.zero_add, if_pos hk]; exact h1
      refine ⟨o, hg, h2.n, h2.ver, h2.sz, h2.e, h2.pos, h2.le, h2.max, h2.dom, ?_, fun hC hp => ?_⟩
      · have hs := h2.spec
        have hnm := hn.get t o hg
        cases hc : o.c with
        | loop st pend e' nt' ps as bd inf =>
          rw [hc] at hs hnm
          obtain ⟨k1, k2, L, g1, g2, g3, g4, g5, g6, g7, g8⟩ := hs
          exact ⟨k1, k2, L, g1, g2, g3, g4, g5, g6, g7, fun i => Rep_restr (NamedE.get hnm i) (g8 i)⟩
        | kil => rw [hc] at hs; exact hs
        | mpi => rw [hc] at hs; exact hs
        | _ => exact trivial
      obtain ⟨cur, e1, e2, e3⟩ := h2.row hC hp
      refine ⟨cur, e1, e2, fun j k hj hk => ?_⟩
      obtain ⟨c, f1, f2, f3⟩ := e3 j k hj hk
      exact ⟨c, f1, f2, Rep_restr ((hn.get t o hg).f j k (by rw [h2.n]; exact hj) (by rw [h2.sz]; exact hk)) f3⟩
    · cases ht
  · unfold restr at ht ht'
    split at ht
    · split at ht'
      · exact h.inj t t' r r' ht ht'
      · cases ht'
    · cases ht
  · unfold restr at ht
    split at ht
    · exact h.own t r ht
    · cases ht

theorem Evo.restr {kp : Nat → Bool} {w w' : World} {φ φ' : Phi} (h : Evo w φ w' φ') (hk : ∀ t r, φ t = some r → kp t = true) : Evo w φ w' (restr kp φ') := by
  refine ⟨h.os, h.tape, h.output, h.size, h.block, fun t r ht => ?_, fun t r ht => ?_, h.drawn⟩
  · unfold Tri.restr at ht
    split at ht
    · exact h.live t r ht
    · cases ht
  · obtain ⟨r', h1, h2⟩ := h.names t r ht
    exact ⟨r', by unfold Tri.restr; rw [if_pos (hk t r ht)]; exact h1, h2⟩

theorem St.mask {kp : Nat → Bool} {nt nb base : Nat} {φ : Phi} {w : World} {M : Mem} {keys : List Nat} {vs : List V} {a : Act} (h : St lo nt nb base φ w M (keys.zip vs) a) (hv : NamedL kp vs) (hn : NamedM kp (maskM kp 0 M)) : St lo nt nb base (restr kp φ) w (maskM kp 0 M) (keys.zip vs) a := by
  refine ⟨h.mem.mask hn, Dfr_restr h.dfr, h.low, h.size, fun i => Rep_restr ?_ (h.slots i)⟩
  clear h
  induction keys generalizing vs with
  | nil => exact trivial
  | cons k r ih =>
    cases vs with
    | nil => exact trivial
    | cons v vs =>
      simp only [List.zip_cons_cons, Env.get]
      split
      · exact hv.1
      · exact ih hv.2

/-- A CALL; behind it only what was there ahead of it is kept. -/
theorem ACM_mask {P : Program} {f : FuncId} {xs : List V} {M M0 : Mem} {R0 : V} {kp : Nat → Bool} {nb0 : Option Nat} (h : ACM P f xs M (fun R M' => R = R0 ∧ M' = M0) nb0) (hk : ∀ t, t < M.length → kp t = true) (hR : Named kp R0) (hM : NamedM kp (maskM kp 0 M0)) :
    ACM P f xs M (fun R M' => R = R0 ∧ M' = maskM kp 0 M0) nb0 := by
  unfold ACM at h ⊢
  refine ⟨h.1, fun nb base φ w args hnb hm hs ha => ?_⟩
  refine (h.2 nb base φ w args hnb hm hs ha).mono ?_
  rintro e w' ⟨v, R, M', φ', rfl, ⟨rfl, rfl⟩, h2, h3, h4⟩
  refine ⟨v, R, _, restr kp φ', rfl, ⟨rfl, rfl⟩, h2.mask hM, Rep_restr hR h3, h4.restr fun t r ht => ?_⟩
  obtain ⟨o, ho, _⟩ := hm.obj t r ht
  refine hk t ?_
  rcases Nat.lt_or_ge t M.length with h | h
  · exact h
  · simp [Mem.get, List.getD, List.getElem?_eq_none h] at ho

/-! ## The same by evaluation -/

def namedB (kp : Nat → Bool) : V → Bool
  | .seq _ sz n f => (List.range n).all fun j => (List.range sz).all fun k => namedB kp (f j k)
  | .sl t _ _ _ => kp t
  | .ptr t _ _ _ => kp t
  | .at_ sz g _ => (List.range sz).all fun k => namedB kp (g k)
  | .agg n g => (List.range n).all fun k => namedB kp (g k)
  | .tup n g => (List.range n).all fun k => namedB kp (g k)
  | .clo _ n g => (List.range n).all fun k => namedB kp (g k)
  | .bnd _ n g => (List.range n).all fun k => namedB kp (g k)
  | .ifc _ x => namedB kp x
  | .yld t => kp t
  | .mp t => kp t
  | _ => true

theorem namedB_ok {kp : Nat → Bool} : ∀ {x : V}, namedB kp x = true → Named kp x := by
  intro x
  induction x with
  | seq fr sz n f ih =>
    intro h j k hj hk
    exact ih j k (List.all_eq_true.1 (List.all_eq_true.1 h j (List.mem_range.2 hj)) k (List.mem_range.2 hk))
  | sl => exact fun h => h
  | ptr => exact fun h => h
  | at_ sz g o ih => exact fun h k hk => ih k (List.all_eq_true.1 h k (List.mem_range.2 hk))
  | agg n g ih => exact fun h k hk => ih k (List.all_eq_true.1 h k (List.mem_range.2 hk))
  | tup n g ih => exact fun h k hk => ih k (List.all_eq_true.1 h k (List.mem_range.2 hk))
  | clo f n g ih => exact fun h k hk => ih k (List.all_eq_true.1 h k (List.mem_range.2 hk))
  | bnd f n g ih => exact fun h k hk => ih k (List.all_eq_true.1 h k (List.mem_range.2 hk))
  | ifc ty x ih => exact fun h => ih h
  | yld t => exact fun h => h
  | mp t => exact fun h => h
  | _ => exact fun _ => trivial

def namedEB (kp : Nat → Bool) : Env → Bool
  | [] => true
  | (_, v) :: r => namedB kp v && namedEB kp r
def namedLB (kp : Nat → Bool) : List V → Bool
  | [] => true
  | v :: r => namedB kp v && namedLB kp r
def namedCB (kp : Nat → Bool) (sz : Nat) : Con → Bool
  | .cv n f => (List.range n).all fun j => (List.range sz).all fun k => namedB kp (f j k)
  | .one cs => namedLB kp cs
  | .loop _ _ e _ _ _ _ _ => namedEB kp e
  | _ => true
def namedMB (kp : Nat → Bool) : Mem → Bool
  | [] => true
  | some ob :: r => namedCB kp ob.sz ob.c && namedMB kp r
  | none :: r => namedMB kp r

theorem namedEB_ok {kp : Nat → Bool} : ∀ {e : Env}, namedEB kp e = true → NamedE kp e
  | [], _ => trivial
  | (_, v) :: r, h => by
    simp only [namedEB, Bool.and_eq_true] at h
    exact ⟨namedB_ok h.1, namedEB_ok h.2⟩
theorem namedLB_ok {kp : Nat → Bool} : ∀ {e : List V}, namedLB kp e = true → NamedL kp e
  | [], _ => trivial
  | v :: r, h => by
    simp only [namedLB, Bool.and_eq_true] at h
    exact ⟨namedB_ok h.1, namedLB_ok h.2⟩
theorem namedMB_ok {kp : Nat → Bool} : ∀ {M : Mem}, namedMB kp M = true → NamedM kp M
  | [], _ => trivial
  | none :: r, h => namedMB_ok (M := r) h
  | some ob :: r, h => by
    simp only [namedMB, Bool.and_eq_true] at h
    refine ⟨?_, namedMB_ok h.2⟩
    have h := h.1
    cases hc : ob.c with
    | cv n f =>
      rw [hc] at h
      exact fun j k hj hk => namedB_ok (List.all_eq_true.1 (List.all_eq_true.1 h j (List.mem_range.2 hj)) k (List.mem_range.2 hk))
    | one cs => rw [hc] at h; exact namedLB_ok h
    | loop => rw [hc] at h; exact namedEB_ok h
    | _ => exact trivial

/-- What a call leaves: what was there ahead of it, where nothing tells of more. -/
def gcE (n : Nat) (R : V) (M : Mem) : Mem := bif namedB (fun t => Nat.blt t n) R && namedMB (fun t => Nat.blt t n) (maskM (fun t => Nat.blt t n) 0 M) then maskM (fun t => Nat.blt t n) 0 M else M

theorem ACM_gc {P : Program} {f : FuncId} {xs : List V} {M M0 : Mem} {R0 : V} {nb0 : Option Nat} (h : ACM P f xs M (fun R M' => R = R0 ∧ M' = M0) nb0) : ACM P f xs M (fun R M' => R = R0 ∧ M' = gcE M.length R0 M0) nb0 := by
  unfold gcE
  cases hb : (namedB (fun t => Nat.blt t M.length) R0 && namedMB (fun t => Nat.blt t M.length) (maskM (fun t => Nat.blt t M.length) 0 M0)) with
  | false => exact h
  | true =>
    simp only [Bool.and_eq_true] at hb
    exact ACM_mask h (fun t ht => by simpa using ht) (namedB_ok hb.1) (namedMB_ok hb.2)

def loopQK (keys : List Nat) (kp : Nat → Bool) (I : List V → Mem → Prop) (mu : List V → Mem → Nat) (n : Nat) (Q : Exit → Env → Mem → Prop) : Exit → Env → Mem → Prop
  | .normal, e, M => (NamedL kp (sel keys e) ∧ NamedM kp (maskM kp 0 M)) ∧ I (sel keys e) (maskM kp 0 M) ∧ mu (sel keys e) (maskM kp 0 M) < n
  | x, e, M => Q x e M

section
variable {X : Cx}
/-- A LOOP; at each round's end only the names that 'kp' says are kept: all that were there ahead of the loop, and some more. -/
theorem AW_loopK (hT : TabOk X.P X.T) (keys : List Nat) (kp : Nat → Bool) (I : List V → Mem → Prop) (mu : List V → Mem → Nat) {c : Code} {Q : Exit → Env → Mem → Prop} {e : Env} {M : Mem} (hk : ∀ t, t < M.length → kp t = true) (h0 : I (sel keys e) M)
    (round : ∀ vs M', I vs M' → awp X c (loopQK keys kp I mu (mu vs M') Q) (keys.zip vs) M') : AW X.P X.nt X.nb X.rd (.loop c) Q e M := by
  rw [AW_def]
  intro ro lo base φ w a hro hst
  have hdom : ∀ t r, φ t = some r → kp t = true := by
    intro t r ht
    obtain ⟨o, ho, _⟩ := hst.mem.obj t r ht
    refine hk t ?_
    rcases Nat.lt_or_ge t M.length with h | h
    · exact h
    · simp [Mem.get, List.getD, List.getElem?_eq_none h] at ho
  refine wpIn_loop_ghost (fun n a' w' => ∃ vs M' φ', mu vs M' = n ∧ I vs M' ∧ St lo X.nt X.nb base φ' w' M' (keys.zip vs) a' ∧ Evo w φ w' φ') (mu (sel keys e) M)
    ⟨_, M, φ, rfl, h0, hst.sel keys, Evo.refl w φ⟩ ?_
  rintro n a' w' ⟨vs, M', φ', rfl, hI, hst', hv⟩
  refine wpIn_mono (awp_ok hT hro c _ base φ' w' M' _ a' hst' (round vs M' hI)) ?_
  rintro x a₁ w₁ ⟨hx, e₁, M₁, φ₁, hq, hst₁, hv₁⟩
  cases x with
  | normal => exact ⟨_, hq.2.2, _, _, _, rfl, hq.2.1, (hst₁.sel keys).mask hq.1.1 hq.1.2, (hv.trans hv₁).restr hdom⟩
  | panic c => exact hx.elim
  | outgrown => exact hx.elim
  | _ => exact ⟨trivial, e₁, M₁, φ₁, hq, hst₁, hv.trans hv₁⟩
end
end Go.Tri
