/-
  REGIONS THAT DRAW THEIR ORDER, LAST PART: every order leaves what the text's order leaves.
-/
import Derived.Test.YtciefpkelgjboaaA16
namespace Go.Tri
variable {lo : Nat}
open Go.RowKit

def updE (E : Nat → V) (d : Option Tmp) (v : V) : Nat → V := fun t => if d = some t then v else E t

theorem get_cons (e : Env) (d : Tmp) (v : V) : Env.get ((d, v) :: e) = updE (Env.get e) (some d) v := by
  funext i
  simp only [Env.get, updE, Option.some.injEq]

def guardIs (ops : Array Oper) (o : Oper) (E : Nat → V) (b : Bool) : Prop := match o.guard with
  | none => b = true
  | some (j, want) => match (ops[j]?).bind (·.dst) with
    | none => b = false
    | some d => (∃ c, E d = .bool c ∧ b = (c == want)) ∨ (b = false ∧ ∃ u, E d = .lit (.tuple u))

theorem guardW_is {ops : Array Oper} {o : Oper} {e : Env} {run skip : Env → Prop} (h : guardW ops o e run skip) :
    ∃ e', Env.get e' = Env.get e ∧ ((guardIs ops o (Env.get e) true ∧ run e') ∨ (guardIs ops o (Env.get e) false ∧ skip e')) := by
  unfold guardW at h
  unfold guardIs
  cases hg : o.guard with
  | none => rw [hg] at h; exact ⟨e, rfl, .inl ⟨rfl, h⟩⟩
  | some q =>
    obtain ⟨j, want⟩ := q
    rw [hg] at h
    simp only at h ⊢
    cases hd : (ops[j]?).bind (·.dst) with
    | none => rw [hd] at h; exact ⟨e, rfl, .inr ⟨trivial, h⟩⟩
    | some d =>
      rw [hd] at h
      simp only at h ⊢
      cases hx : Env.get e d with
      | lit u =>
        rw [hx] at h
        cases u with
        | bool b =>
          simp only at h
          rw [br_iff] at h
          have hk : Env.get ((d, .bool b) :: e) = Env.get e := by
            rw [get_cons]
            funext i
            simp only [updE]
            split
            · next h => cases h; exact hx.symm
            · rfl
          cases b with
          | true =>
            have h := h.1 rfl
            cases want with
            | true => exact ⟨_, hk, .inl ⟨.inl ⟨true, rfl, rfl⟩, h⟩⟩
            | false => exact ⟨_, hk, .inr ⟨.inl ⟨true, rfl, rfl⟩, h⟩⟩
          | false =>
            have h := h.2 rfl
            cases want with
            | true => exact ⟨_, hk, .inr ⟨.inl ⟨false, rfl, rfl⟩, h⟩⟩
            | false => exact ⟨_, hk, .inl ⟨.inl ⟨false, rfl, rfl⟩, h⟩⟩
        | tuple u =>
          simp only at h
          exact ⟨e, rfl, .inr ⟨.inr ⟨trivial, u, rfl⟩, h⟩⟩
        | _ => exact h.elim
      | _ => rw [hx] at h; exact h.elim

/-- One step in the text's order. -/
structure StepAt (X : Cx) (ops : Array Oper) (n0 j : Nat) (run : Bool) (v : V) (d : Option (Nat × Ob)) (E : Nat → V) (M : Mem) (E' : Nat → V) (M' : Mem) : Prop where
  ex : ∃ o, ops[j]? = some o ∧ E' = updE E o.dst v ∧ M' = patch M d ∧ ((run = true ∧ guardIs ops o E true ∧ DOk X (n0 + j) o (evF E) M v d) ∨ (run = false ∧ guardIs ops o E false ∧ v = .un ∧ d = none))

/-- What has been looked at beside an append is another object. -/
structure Sep (ops : Array Oper) (run : Nat → Bool) (del : Nat → Option (Nat × Ob)) (Es : Nat → Nat → V) (lo hi : Nat) (ap wn : List Nat) : Prop where
  w : ∀ i n o, lo ≤ i → i < hi → ops[i]? = some o → run i = true → wkL ops i = true → wkName (evF (Es i)) o.op = some n → n ∉ ap
  a : ∀ i t ob o, lo ≤ i → i < hi → ops[i]? = some o → isApp o.op = true → del i = some (t, ob) → t ∉ wn
  s : ∀ i j n t ob o b, lo ≤ i → i < hi → lo ≤ j → j < hi → ops[i]? = some o → run i = true → wkL ops i = true → wkName (evF (Es i)) o.op = some n → ops[j]? = some b → isApp b.op = true → del j = some (t, ob) → n ≠ t

theorem wkL_ld {ops : Array Oper} {i : Nat} {o : Oper} (ho : ops[i]? = some o) (h : wkL ops i = true) : isLd o.op = true := by
  simp only [wkL, ho, Bool.and_eq_true] at h
  exact h.1
theorem ld_app {o : Op} (h : isLd o = true) : isApp o = false := by
  cases o <;> first | rfl | cases h

theorem logStep_ok {ops : Array Oper} {k : Nat} {o : Oper} {ev : Operand → V} {v : V} {ap wn : List Nat} {K : List Nat → List Nat → Prop} (h : logStep ops k o ev v ap wn K) :
    ∃ ap' wn', K ap' wn' ∧ (∀ x, x ∈ ap → x ∈ ap') ∧ (∀ x, x ∈ wn → x ∈ wn') ∧ (isApp o.op = true → ∃ q, apTgt o.op ev v = some q ∧ ∀ t, q = some t → t ∉ wn ∧ t ∈ ap') ∧
      (isApp o.op = false → wkL ops k = true → ∀ n, wkName ev o.op = some n → n ∉ ap ∧ n ∈ wn') := by
  unfold logStep at h
  cases ha : isApp o.op with
  | true =>
    rw [ha] at h
    simp only [cond_true] at h
    split at h
    · next t hq =>
      cases hc : wn.contains t with
      | true => rw [hc] at h; exact h.elim
      | false =>
        rw [hc] at h
        exact ⟨_, _, h, fun x hx => by simp [hx], fun x hx => hx, fun _ => ⟨_, hq, fun t' h' => by cases h'; exact ⟨by simpa using hc, by simp⟩⟩, fun h => nomatch h⟩
    · next hq => exact ⟨_, _, h, fun x hx => hx, fun x hx => hx, fun _ => ⟨_, hq, fun t' h' => nomatch h'⟩, fun h => nomatch h⟩
    · exact h.elim
  | false =>
    rw [ha] at h
    simp only [cond_false] at h
    cases hw : wkL ops k with
    | false =>
      rw [hw] at h
      exact ⟨_, _, h, fun x hx => hx, fun x hx => hx, (fun h => nomatch h), fun _ h => nomatch h⟩
    | true =>
      rw [hw] at h
      simp only [cond_true] at h
      split at h
      · next n hn =>
        cases hc : ap.contains n with
        | true => rw [hc] at h; exact h.elim
        | false =>
          rw [hc] at h
          refine ⟨_, _, h, fun x hx => hx, fun x hx => by simp [hx], (fun h => nomatch h), fun _ _ m hm => ?_⟩
          rw [hn] at hm
          cases hm
          exact ⟨by simpa using hc, by simp⟩
      · next hn => exact ⟨_, _, h, fun x hx => hx, fun x hx => hx, (fun h => nomatch h), fun _ _ m hm => by rw [hn] at hm; cases hm⟩

/-- One step more. -/
theorem Sep.cons {ops : Array Oper} {run run' : Nat → Bool} {del del' : Nat → Option (Nat × Ob)} {Es Es' : Nat → Nat → V} {k hi : Nat} {ap wn ap' wn' : List Nat} {o : Oper} (ho : ops[k]? = some o) (h : Sep ops run del Es (k + 1) hi ap' wn')
    (hr : ∀ j, k < j → run' j = run j) (hd : ∀ j, k < j → del' j = del j) (hE : ∀ j, k < j → Es' j = Es j) (hap : ∀ x, x ∈ ap → x ∈ ap') (hwn : ∀ x, x ∈ wn → x ∈ wn')
    (ha : isApp o.op = true → ∀ t ob, del' k = some (t, ob) → t ∉ wn ∧ t ∈ ap') (hw : run' k = true → wkL ops k = true → ∀ n, wkName (evF (Es' k)) o.op = some n → n ∉ ap ∧ n ∈ wn') : Sep ops run' del' Es' k hi ap wn := by
  refine ⟨fun i n b h1 h2 hb hrun hwk hn => ?_, fun i t ob b h1 h2 hb hap' hdel => ?_, fun i j n t ob b c h1 h2 h3 h4 hb hrun hwk hn hc happ hdel => ?_⟩
  · by_cases hik : i = k
    · subst hik
      rw [ho] at hb
      cases hb
      exact (hw hrun hwk n hn).1
    · rw [hr i (by omega)] at hrun
      rw [hE i (by omega)] at hn
      exact fun hm => h.w i n b (by omega) h2 hb hrun hwk hn (hap _ hm)
  · by_cases hik : i = k
    · subst hik
      rw [ho] at hb
      cases hb
      exact (ha hap' t ob hdel).1
    · rw [hd i (by omega)] at hdel
      exact fun hm => h.a i t ob b (by omega) h2 hb hap' hdel (hwn _ hm)
  · by_cases hik : i = k
    · subst hik
      rw [ho] at hb
      cases hb
      by_cases hjk : j = i
      · subst hjk
        rw [ho] at hc
        cases hc
        rw [ld_app (wkL_ld ho hwk)] at happ
        cases happ
      · rw [hd j (by omega)] at hdel
        have := h.a j t ob c (by omega) h4 hc happ hdel
        intro e
        subst e
        exact this (hw hrun hwk n hn).2
    · rw [hr i (by omega)] at hrun
      rw [hE i (by omega)] at hn
      by_cases hjk : j = k
      · subst hjk
        rw [ho] at hc
        cases hc
        have := h.w i n b (by omega) h2 hb hrun hwk hn
        intro e
        subst e
        exact this (ha happ n ob hdel).2
      · rw [hd j (by omega)] at hdel
        exact h.s i j n t ob b c (by omega) h2 (by omega) h4 hb hrun hwk hn hc happ hdel

theorem DOk.appName {X : Cx} {nm : Nat} {o : Oper} {ev : Operand → V} {M : Mem} {v : V} {d : Option (Nat × Ob)} (h : DOk X nm o ev M v d) (ha : isApp o.op = true) {t : Nat} {ob : Ob} (hd : d = some (t, ob)) : apTgt o.op ev v = some (some t) := by
  cases h with
  | op p d hld hc hh hdd hp =>
    rcases hdd t ob hd with ⟨_, h1⟩ | ⟨_, _, t2, x, y, hst, ver, i, k, hx⟩
    · cases ho : o.op with
      | call c => exact absurd ho (hc c)
      | store t x y => rw [ho] at h1; cases h1
      | _ => rw [ho] at ha; cases ha
    · rw [hst]
      simp only [apTgt, hx]
  | app c s x t' el p n ob' ho hc ha' ht hd' hh hname hvn hp =>
    cases hd
    obtain ⟨ver, len, rfl⟩ := hvn
    rw [ho]
    rfl
  | cpy c s x t' t2 el p n ob' ho hc => rw [ho] at ha; simp [isApp, hc] at ha
  | blt => cases hd
  | pure => cases hd
  | imm => cases hd
  | fapp => cases hd

theorem logApp {X : Cx} {nm : Nat} {o : Oper} {ev : Operand → V} {M : Mem} {v : V} {d : Option (Nat × Ob)} {ap' wn : List Nat} (hD : DOk X nm o ev M v d) (h : isApp o.op = true → ∃ q, apTgt o.op ev v = some q ∧ ∀ t, q = some t → t ∉ wn ∧ t ∈ ap') :
    isApp o.op = true → ∀ t ob, d = some (t, ob) → t ∉ wn ∧ t ∈ ap' := by
  intro ha t ob hd
  have h4 := hD.appName ha hd
  obtain ⟨q, h1, h2⟩ := h ha
  rw [h4] at h1
  cases h1
  exact h2 t rfl

theorem logWk {ops : Array Oper} {k : Nat} {o : Oper} {ev : Operand → V} {ap wn' : List Nat} (h : isApp o.op = false → wkL ops k = true → ∀ n, wkName ev o.op = some n → n ∉ ap ∧ n ∈ wn') :
    true = true → wkL ops k = true → ∀ n, wkName ev o.op = some n → n ∉ ap ∧ n ∈ wn' := by
  intro _ hw n hn
  refine h ?_ hw n hn
  cases hx : wkX o.op with
  | none => simp [wkName, hx] at hn
  | some x => cases ho : o.op <;> rw [ho] at hx <;> first | rfl | cases hx

theorem drawW_trace {X : Cx} {ops : Array Oper} {n0 : Nat} {K : Env → Mem → Prop} : ∀ (l : List Oper) (k : Nat) (ap wn : List Nat) (e : Env) (M : Mem), (∀ j, l[j]? = ops[k + j]?) → drawW X ops n0 k l ap wn e M K →
    ∃ (run : Nat → Bool) (val : Nat → V) (del : Nat → Option (Nat × Ob)) (Es : Nat → Nat → V) (Ms : Nat → Mem), Es k = Env.get e ∧ Ms k = M ∧
      (∀ j, k ≤ j → j < k + l.length → StepAt X ops n0 j (run j) (val j) (del j) (Es j) (Ms j) (Es (j + 1)) (Ms (j + 1))) ∧ Sep ops run del Es k (k + l.length) ap wn ∧ ∃ e', Env.get e' = Es (k + l.length) ∧ K e' (Ms (k + l.length)) := by
  intro l
  induction l with
  | nil =>
    intro k ap wn e M _ h
    exact ⟨fun _ => true, fun _ => .any, fun _ => none, fun _ => Env.get e, fun _ => M, rfl, rfl, fun j h1 h2 => by simp at h2; omega,
      ⟨fun i n o h1 h2 => by simp at h2; omega, fun i t ob o h1 h2 => by simp at h2; omega, fun i j n t ob o b h1 h2 => by simp at h2; omega⟩, e, rfl, h⟩
  | cons o r ih =>
    intro k ap wn e M hl h
    have ho : ops[k]? = some o := by simpa using (hl 0).symm
    have hl' : ∀ j, r[j]? = ops[(k + 1) + j]? := fun j => by have := hl (j + 1); simpa [Nat.add_assoc, Nat.add_comm 1 j] using this
    have fin : ∀ (b : Bool) (v : V) (d : Option (Nat × Ob)) (e' : Env) (ap' wn' : List Nat), (∀ x, x ∈ ap → x ∈ ap') → (∀ x, x ∈ wn → x ∈ wn') →
        (isApp o.op = true → ∀ t ob, d = some (t, ob) → t ∉ wn ∧ t ∈ ap') → (b = true → wkL ops k = true → ∀ n, wkName (evF (Env.get e)) o.op = some n → n ∉ ap ∧ n ∈ wn') → Env.get e' = updE (Env.get e) o.dst v →
        ((b = true ∧ guardIs ops o (Env.get e) true ∧ DOk X (n0 + k) o (evF (Env.get e)) M v d) ∨ (b = false ∧ guardIs ops o (Env.get e) false ∧ v = .un ∧ d = none)) →
        drawW X ops n0 (k + 1) r ap' wn' e' (patch M d) K →
        ∃ (run : Nat → Bool) (val : Nat → V) (del : Nat → Option (Nat × Ob)) (Es : Nat → Nat → V) (Ms : Nat → Mem), Es k = Env.get e ∧ Ms k = M ∧
          (∀ j, k ≤ j → j < k + (o :: r).length → StepAt X ops n0 j (run j) (val j) (del j) (Es j) (Ms j) (Es (j + 1)) (Ms (j + 1))) ∧ Sep ops run del Es k (k + (o :: r).length) ap wn ∧ ∃ e', Env.get e' = Es (k + (o :: r).length) ∧ K e' (Ms (k + (o :: r).length)) := by
      intro b v d e' ap' wn' hap hwn hla hlw he hs hr
      obtain ⟨run, val, del, Es, Ms, h1, h2, h3, hS, e2, h4, h5⟩ := ih (k + 1) ap' wn' e' (patch M d) hl' hr
      refine ⟨fun j => if j = k then b else run j, fun j => if j = k then v else val j, fun j => if j = k then d else del j, fun j => if j = k then Env.get e else Es j, fun j => if j = k then M else Ms j, by simp, by simp, fun j hj hj2 => ?_, ?_, e2, ?_, ?_⟩
      · by_cases hjk : j = k
        · subst hjk
          simp only [if_true]
          rw [if_neg (by omega), if_neg (by omega)]
          exact ⟨o, ho, by rw [h1, he], h2, hs⟩
        · simp only [if_neg hjk]
          rw [if_neg (by omega), if_neg (by omega)]
          exact h3 j (by omega) (by simp only [List.length_cons] at hj2; omega)
      · rw [show k + (o :: r).length = k + 1 + r.length from by simp only [List.length_cons]; omega]
        exact hS.cons ho (fun j hj => if_neg (by omega)) (fun j hj => if_neg (by omega)) (fun j hj => if_neg (by omega)) hap hwn (fun ha t ob hd => hla ha t ob (by simpa using hd)) (fun hb hw n hn => hlw (by simpa using hb) hw n (by simpa using hn))
      · simp only [List.length_cons]
        rw [if_neg (by omega), show k + (r.length + 1) = k + 1 + r.length from by omega]
        exact h4
      · simp only [List.length_cons]
        rw [if_neg (by omega), show k + (r.length + 1) = k + 1 + r.length from by omega]
        exact h5
    unfold drawW at h
    simp only [forceMo_eq, forceNo_eq] at h
    cases hdst : o.dst with
    | none =>
      rw [hdst] at h
      simp only at h
      obtain ⟨e', he', hg⟩ := guardW_is h
      rcases hg with ⟨hw, hrun⟩ | ⟨hw, hskip⟩
      · obtain ⟨v, d, hD, hK⟩ := dOpW_ok hrun
        rw [← evF_eq, he'] at hD
        obtain ⟨ap', wn', hK, l1, l2, l3, l4⟩ := logStep_ok hK
        rw [← evF_eq, he'] at l3 l4
        exact fin true v d e' ap' wn' l1 l2 (logApp hD l3) (logWk l4) (by rw [he', hdst]; rfl) (.inl ⟨rfl, hw, hD⟩) hK
      · exact fin false .un none e' ap wn (fun _ h => h) (fun _ h => h) (fun _ _ _ h => nomatch h) (fun h => nomatch h) (by rw [he', hdst]; rfl) (.inr ⟨rfl, hw, rfl, rfl⟩) hskip
    | some d0 =>
      rw [hdst] at h
      simp only at h
      obtain ⟨e', he', hg⟩ := guardW_is h
      rcases hg with ⟨hw, hrun⟩ | ⟨hw, hskip⟩
      · obtain ⟨v, d, hD, hK⟩ := dOpW_ok hrun
        rw [← evF_eq, he'] at hD
        obtain ⟨ap', wn', hK, l1, l2, l3, l4⟩ := logStep_ok hK
        rw [← evF_eq, he'] at l3 l4
        exact fin true v d _ ap' wn' l1 l2 (logApp hD l3) (logWk l4) (by rw [get_cons, he', hdst]) (.inl ⟨rfl, hw, hD⟩) hK
      · exact fin false .un none _ ap wn (fun _ h => h) (fun _ h => h) (fun _ _ _ h => nomatch h) (fun h => nomatch h) (by rw [get_cons, he', hdst]) (.inr ⟨rfl, hw, rfl, rfl⟩) hskip

theorem patch_get (M : Mem) (d : Option (Nat × Ob)) (t : Nat) : (patch M d).get t = if d.map (·.1) = some t then d.map (·.2) else M.get t := by
  cases d with
  | none => simp [patch]
  | some q =>
    obtain ⟨s, o⟩ := q
    simp only [patch, Option.map_some, Option.some.injEq]
    by_cases h : s = t
    · subst h; rw [if_pos rfl, Mem.get_put_same]
    · rw [if_neg h, Mem.get_put_other M (fun e => h e.symm)]

def memOf (sel : Nat → Bool) (del : Nat → Option (Nat × Ob)) (M0 : Mem) : Nat → Mem
  | 0 => M0
  | k + 1 => if sel k = true then patch (memOf sel del M0 k) (del k) else memOf sel del M0 k

theorem memOf_get (sel : Nat → Bool) (del : Nat → Option (Nat × Ob)) (M0 : Mem) (m t : Nat) : (memOf sel del M0 m).get t = lastW sel (fun k => (del k).map (·.1)) (fun k => (del k).map (·.2)) M0.get m t := by
  induction m with
  | zero => rfl
  | succ m ih =>
    simp only [memOf, lastW]
    by_cases hs : sel m = true
    · rw [if_pos hs, patch_get, ih]
      by_cases hd : (del m).map (·.1) = some t
      · rw [if_pos hd, if_pos ⟨hs, hd⟩]
      · rw [if_neg hd, if_neg (fun h => hd h.2)]
    · rw [if_neg hs, if_neg (fun h => hs h.1), ih]

theorem MemRel.congr {nb base : Nat} {φ : Phi} {w : World} {M M' : Mem} (h : MemRel nb base φ w M) (he : ∀ t, M.get t = M'.get t) : MemRel nb base φ w M' :=
  ⟨fun t r ht => by obtain ⟨o, h1, h2⟩ := h.obj t r ht; exact ⟨o, by rw [← he]; exact h1, h2⟩, h.inj, h.own, h.le⟩

theorem count_lt {n i : Nat} {f g : Nat → Bool} (hi : i < n) (hfi : f i = true) (hgi : g i = false) (h : ∀ j, g j = true → f j = true) : ((List.range n).filter g).length < ((List.range n).filter f).length := by
  induction n with
  | zero => omega
  | succ n ih =>
    have mono : ∀ m, ((List.range m).filter g).length ≤ ((List.range m).filter f).length := by
      intro m
      induction m with
      | zero => simp
      | succ m ihm =>
        simp only [List.range_succ, List.filter_append, List.length_append]
        cases hg : g m with
        | false => simp [hg]; omega
        | true => simp [hg, h m hg]; omega
    simp only [List.range_succ, List.filter_append, List.length_append]
    by_cases he : i = n
    · subst he
      have := mono i
      simp [hfi, hgi]
      omega
    · have := ih (by omega)
      cases hg : g n with
      | false => simp [hg]; omega
      | true => simp [hg, h n hg]; omega

end Go.Tri
