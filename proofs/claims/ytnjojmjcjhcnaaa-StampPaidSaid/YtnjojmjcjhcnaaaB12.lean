/-
  CONTRACTS: Clone, Pay; the reference's exactly, Pay.
-/
import Derived.Test.YtnjojmjcjhcnaaaB11
import Derived.Test.YtnjojmjcjhcnaaaM1
namespace Go.Tri
open Go.Proofs

theorem Clone_pure (l : List Int) (hl : l.length ≤ 100000) : APure Try.prog 42 [.ints false l] (fun R => R = .ints true l) := by
  cases l with
  | nil =>
    refine APure_of (X := cx 8) (cx_ok 8) rfl (rs := [(.tmp 2, 22)]) Try.func42 (by decide) rfl rfl rfl (by simp [cx]) (by simp [NoFr]) ?_
    intro _
    conv => whnf
    refine ⟨?_, ?_⟩
    · conv => whnf
      exact ⟨rfl, rfl⟩
    · conv => whnf
      refine ⟨(show (8 : Int) * 0 ≤ 140737488355328 by omega), ?_⟩
      conv => whnf
      exact ⟨rfl, rfl⟩
  | cons x r =>
    refine APure_of (X := cx 8) (cx_ok 8) rfl (rs := [(.tmp 2, 22)]) Try.func42 (by decide) rfl rfl rfl (by simp [cx]) (by simp [NoFr]) ?_
    intro hlen
    have h1 : (0 : Int) < ((x :: r).length : Int) := by simp only [List.length_cons]; omega
    have h8 : (8 : Int) * ((x :: r).length : Int) ≤ 140737488355328 := by omega
    conv => whnf
    refine ⟨h1, ?_⟩
    conv => whnf
    refine ⟨h8, ?_⟩
    conv => whnf
    refine ⟨rfl, Ql ?_⟩
    show ((x :: r).drop 0).take (x :: r).length = x :: r
    rw [List.drop_zero, List.take_length]

theorem aApp_kilNew {T : Tab} {nm e t len : Nat} {M : Mem} {ts ys : List Int} {x : V} {p : Obl} (hT : (knownT (T.row e) && Nat.blt 0 (T.row e).sz && Nat.blt 0 (T.row e).bs) = true) (hs : (T.row e).sz = 1)
    (hx : srcV M (T.row e).sz (isI64T (T.row e)) x = some (p, .ints ys)) (hM : M.get t = some ⟨e, 1, 0, .kil ts⟩) (h0 : 0 < ts.length) (hl : ts.length < len + ys.length) :
    aAppend T nm e (.sl t 0 0 len) x M = some (.and p (.and .tt (.le ((T.row e).bs * (len + ys.length)) 140737488355328)), .sl nm 0 0 (len + ys.length), M.put nm ⟨e, 1, 0, .il (ts.take len ++ ys)⟩) := by
  unfold aAppend
  rw [hT, hx]
  simp only [cond_true, hM, hs, Nat.beq_refl, Bool.and_self, kilApp, kilNew, Src.n]
  rw [show Nat.blt 0 ts.length = true from by rw [Nat.blt_eq]; exact h0, show Nat.ble (len + ys.length) ts.length = false from by
    cases hq : Nat.ble (len + ys.length) ts.length with
    | false => rfl
    | true => have := Nat.le_of_ble_eq_true hq; omega, show Nat.blt ts.length (len + ys.length) = true from by rw [Nat.blt_eq]; exact hl]
  rfl

/-! ## The first list that pays an amount -/

def firstDown {α : Type} (f : Nat → Option α) : Nat → Option α
  | 0 => none
  | k + 1 => match f k with
    | some l => some l
    | none => firstDown f k
def firstUp {α : Type} (f : Nat → Option α) : Nat → Nat → Option α
  | 0, _ => none
  | n + 1, j => match f j with
    | some l => some l
    | none => firstUp f n (j + 1)
def exF : Nat → List Int → Int → Option (List Int)
  | 0, _, a => if a = 0 then some [] else none
  | m + 1, vals, a => firstDown (fun k => if vals.getD k 0 ≤ a then (exF m (vals.drop k) (a - vals.getD k 0)).map (vals.getD k 0 :: ·) else none) vals.length
theorem firstDown_map {α β : Type} {f : Nat → Option β} {g : Nat → Option α} {F : α → β} : ∀ n, (∀ k, k < n → f k = (g k).map F) → firstDown f n = (firstDown g n).map F := by
  intro n
  induction n with
  | zero => intro _; rfl
  | succ n ih =>
    intro h
    simp only [firstDown]
    rw [h n (by omega), ih (fun k hk => h k (by omega))]
    cases g n <;> rfl
theorem firstDown_some {α : Type} {f : Nat → Option α} {x : α} : ∀ {n : Nat}, firstDown f n = some x → ∃ k, k < n ∧ f k = some x := by
  intro n
  induction n with
  | zero => intro h; cases h
  | succ n ih =>
    intro h
    simp only [firstDown] at h
    split at h
    · next l h1 => cases h; exact ⟨n, by omega, h1⟩
    · obtain ⟨k, h1, h2⟩ := ih h; exact ⟨k, by omega, h2⟩
theorem exF_len : ∀ {m : Nat} {vals : List Int} {a : Int} {l : List Int}, exF m vals a = some l → l.length = m := by
  intro m
  induction m with
  | zero =>
    intro vals a l h
    simp only [exF] at h
    split at h
    · cases h; rfl
    · cases h
  | succ m ih =>
    intro vals a l h
    simp only [exF] at h
    obtain ⟨k, _, h2⟩ := firstDown_some h
    split at h2
    · cases hq : exF m (vals.drop k) (a - vals.getD k 0) with
      | none => rw [hq] at h2; cases h2
      | some l' =>
        rw [hq] at h2
        simp only [Option.map_some, Option.some.injEq] at h2
        rw [← h2, List.length_cons, ih hq]
    · cases h2

theorem find_flat (P : List Int × Int → Bool) (f : Nat → List (List Int × Int)) : ∀ n, ((revTo n).flatMap f).find? P = firstDown (fun k => (f k).find? P) n := by
  intro n
  induction n with
  | zero => rfl
  | succ n ih =>
    simp only [revTo, List.flatMap_cons, List.find?_append, ih, firstDown]
    cases (f n).find? P <;> rfl
theorem find_ext : ∀ (m : Nat) (list : List Int) (p a : Int) (vals : List Int), (∀ x ∈ vals, 1 ≤ x ∧ x ≤ 200) → (ext m list p vals).find? (fun q => decide (q.2 = p + a)) = (exF m vals a).map (fun l => (list ++ l, p + a)) := by
  intro m
  induction m with
  | zero =>
    intro list p a vals _
    simp only [ext, exF, List.find?_cons, List.find?_nil]
    by_cases h : a = 0
    · subst h; simp
    · rw [if_neg h, show decide (p = p + a) = false from by rw [decide_eq_false_iff_not]; omega]
      rfl
  | succ m ih =>
    intro list p a vals hv
    simp only [ext, exF]
    rw [find_flat]
    refine firstDown_map _ (fun k hk => ?_)
    have hvd : ∀ x ∈ vals.drop k, 1 ≤ x ∧ x ≤ 200 := fun x hx => hv x (List.mem_of_mem_drop hx)
    by_cases hle : vals.getD k 0 ≤ a
    · rw [if_pos hle]
      have h1 := ih (list ++ [vals.getD k 0]) (p + vals.getD k 0) (a - vals.getD k 0) (vals.drop k) hvd
      rw [show p + vals.getD k 0 + (a - vals.getD k 0) = p + a from by omega] at h1
      rw [h1, Option.map_map]
      congr 1
      funext l
      simp
    · rw [if_neg hle]
      rw [Option.map_none, List.find?_eq_none]
      intro q hq
      have := (ext_paid m _ _ _ hvd q hq).1
      simp only [decide_eq_true_eq]
      omega

/-- The first list that pays an amount, with at most h stamps. -/
def payO (h : Nat) (v : List Int) (a : Int) : Option (List Int) := firstUp (fun m => exF m v a) (h + 1) 0
theorem find_all {h : Nat} {v : List Int} (hv : Vals v) (a : Int) : ((allX h v).find? (fun q => decide (q.2 = a))).map (·.1) = payO h v a := by
  unfold allX fromX payO
  simp only [Nat.sub_zero]
  have : ∀ n j, (((List.range' j n).flatMap fun m => ext m [] 0 v).find? (fun q => decide (q.2 = a))).map (·.1) = firstUp (fun m => exF m v a) n j := by
    intro n
    induction n with
    | zero => intro j; rfl
    | succ n ih =>
      intro j
      rw [List.range'_succ, List.flatMap_cons, List.find?_append]
      have h1 := find_ext j [] 0 a v (fun x hx => by have := hv.mem x hx; have := hv.last; omega)
      rw [Int.zero_add] at h1
      rw [h1]
      simp only [firstUp]
      cases exF j v a with
      | none => exact ih (j + 1)
      | some l => rfl
  exact this _ _

theorem ext_qlen : ∀ (m : Nat) (l : List Int) (p : Int) (vals : List Int), ∀ q ∈ ext m l p vals, q.1.length = l.length + m := by
  intro m
  induction m with
  | zero =>
    intro l p vals q hq
    simp only [ext, List.mem_singleton] at hq
    subst hq
    rfl
  | succ m ih =>
    intro l p vals q hq
    simp only [ext, List.mem_flatMap] at hq
    obtain ⟨k, _, hq⟩ := hq
    rw [ih _ _ _ q hq]
    simp
    omega
/-- The list that is found. -/
def stepP (amount : Int) (s : Option (List Int)) (l : List Int) (p : Int) : Option (List Int) × Bool := if p = amount then (some l, false) else (s, true)
theorem foldP (amount : Int) : ∀ qs : List (List Int × Int), (foldU (stepP amount) qs none).1 = (qs.find? (fun q => decide (q.2 = amount))).map (·.1) := by
  intro qs
  induction qs with
  | nil => rfl
  | cons q r ih =>
    obtain ⟨l, p⟩ := q
    simp only [foldU, stepP, List.find?_cons]
    by_cases h : p = amount
    · simp [h]
    · simp only [h, if_false, if_true, decide_false]
      exact ih

/-- The cell of the result. -/
@[reducible] def c1P (s : Option (List Int)) : Ob := ⟨22, 1, 0, .one [match s with
  | none => .emp true
  | some l => .ints true l]⟩

set_option maxRecDepth 100000 in
theorem Pay_pure (h : Int) (v : List Int) (a : Int) : APure Try.prog 17 [.int h, .ints false v, .int a] (fun R => R = tup2 (.ints true (if amtE h v a = 0 then (payO h.toNat v a).getD [] else [])) (.int (if amtE h v a = 0 then (if (payO h.toNat v a).isSome then 0 else 10) else amtE h v a))) := by
  refine APure_of (X := ⟨Try.prog, tab, wrL, 28, 0, false⟩) tab_ok rfl (rs := [(.cell 6 22, 22), (.cell 7 24, 24)]) Try.func17 (by decide) rfl rfl rfl (by simp) (by simp [NoFr]) ?_
  intro hlen
  conv => whnf
  refine APure.to (checkAmount_pure h v a) ?_
  conv => whnf
  refine br_ne (fun h0 => ?_) (fun h0 => ?_)
  · conv => whnf
    exact ⟨rfl, trivial, Q2 (Ql (by rw [if_neg h0])) (Qi (by rw [if_neg h0]))⟩
  obtain ⟨hh, hv, ha0, ha1⟩ := amtE_inv h0
  obtain ⟨n, rfl⟩ : ∃ n : Nat, h = n := ⟨h.toNat, by omega⟩
  rw [if_pos h0, if_pos h0, Int.toNat_natCast]
  have hl := hv.last
  conv => whnf
  refine (lists_cm n v _).mono ?_
  rintro R M' ⟨rfl, rfl⟩
  conv => whnf
  refine AW_rangeL (X := ⟨Try.prog, tab, wrL, 28, 0, false⟩) tab_ok rfl [5, 6, 7] rfl rfl (fun lp hlp hround => ?_)
  have hB : P7.BodyOk (stepP a) (fun _ s => s = none) (fun l _ => l.length ≤ 1000) (fun _ => ⟨3, 1, 0, .one [.int a]⟩) c1P (fun _ => ⟨24, 1, 0, .one [.int 0]⟩) (fun s => match s with
      | none => lp .ready none
      | some _ => lp .done (some .ret)) := by
    refine ⟨fun s => ⟨⟨trivial, trivial⟩, ?_, ⟨trivial, trivial⟩, ?_⟩, ?_, fun s => ⟨rfl, rfl, rfl, ?_⟩, ?_, ?_⟩
    · cases s with
      | none => exact ⟨trivial, trivial⟩
      | some l => exact ⟨rfl, trivial⟩
    · cases s <;> exact hlp.flat _ _ _ ⟨rfl, rfl, rfl, trivial⟩
    · rintro k s rfl
      exact ⟨⟨trivial, trivial⟩, ⟨trivial, trivial⟩, ⟨trivial, trivial⟩, hlp.nofr _ _ ⟨trivial, trivial, trivial, trivial⟩⟩
    · cases s <;> exact hlp.ver _ _
    · rintro k s l p rfl hs
      simp only [stepP] at hs ⊢
      split at hs
      · cases hs
      · next hp => rw [if_neg hp]
    · rintro k s l p ts E rfl hl1 htk
      have hts : (ts.drop 0).take l.length = l := by rw [List.drop_zero]; exact htk
      refine hround _ _ _ rfl rfl (fun nb => AW_of_awp (X := ⟨Try.prog, tab, wrL, 28, nb, true⟩) tab_ok ?_)
      conv => whnf
      refine ⟨rfl, ?_⟩
      conv => whnf
      refine br_eq (fun hp => ?_) (fun hp => ?_)
      · have hc : ∀ l', l' = l → APure Try.prog 42 [.ints false l'] (fun R => R = .ints true l) := fun l' h => by rw [h]; exact Clone_pure l (by omega)
        conv => whnf
        refine APure.to (hc ((ts.drop 0).take l.length) hts) ?_
        conv => whnf
        rw [forceM_eq]
        conv => whnf
        rw [forceM_eq]
        conv => whnf
        have es : stepP a none l p = (some l, false) := by unfold stepP; rw [if_pos hp]
        rw [es]
        exact ⟨rfl, rfl, rfl⟩
      · conv => whnf
        have es : stepP a none l p = (none, true) := by unfold stepP; rw [if_neg hp]
        rw [es]
        exact ⟨rfl, rfl, rfl⟩
  have hlens : ∀ q ∈ allX n v, q.1.length ≤ 1000 := by
    intro q hq
    unfold allX fromX at hq
    rw [List.mem_flatMap] at hq
    obtain ⟨m, hm, hq⟩ := hq
    rw [List.mem_range'] at hm
    obtain ⟨i, hi, rfl⟩ := hm
    have := ext_qlen _ _ _ _ q hq
    simp only [List.length_nil] at this
    omega
  refine ACM.mono (P7.lists1_cm hB n (by omega) v (fun x hx => by have := hv.mem x hx; omega) (by have := hv.2.1; omega) none rfl hlens) ?_
  rintro _ M' ⟨ts, rfl⟩
  rw [foldP, find_all hv]
  cases payO n v a with
  | none =>
    refine ⟨.ready, none, by decide, rfl, ?_⟩
    conv => whnf
    exact ⟨rfl, trivial, Q2 (Ql rfl) (Qi rfl)⟩
  | some l =>
    refine ⟨.done, some .ret, by decide, rfl, ?_⟩
    conv => whnf
    exact ⟨rfl, trivial, Q2 (Ql rfl) (Qi rfl)⟩

theorem refexactly_pure (v : List Int) (hv : Vals v) : ∀ (m f : Nat) (a : Int), m ≤ 6 → f ≤ v.length → 0 ≤ a → a ≤ 1200 →
    APure Try.prog 44 [.ints false v, .int m, .int f, .int a] (fun R => R = tup2 (.ints true ((exF m (v.drop f) a).getD [])) (.bool (exF m (v.drop f) a).isSome)) := by
  have h1l := hv.1
  have h6l := hv.2.1
  intro m
  induction m with
  | zero =>
    intro f a hm hf ha0 ha1
    refine APure_of (X := cx 55) (cx_ok 55) rfl (rs := [(.tmp 8, 22), (.tmp 9, 4)]) Try.func44 (by decide) rfl rfl rfl (by simp [cx]) (by simp [NoFr]) ?_
    intro hlen
    conv => whnf
    refine ⟨rfl, trivial, ?_⟩
    simp only [exF]
    by_cases h : a = 0
    · rw [if_pos h, h]; rfl
    · rw [if_neg h]
      exact Q2 rfl (Qb (by simp [h]))
  | succ m ih =>
    intro f a hm hf ha0 ha1
    refine APure_of (X := cx 55) (cx_ok 55) rfl (rs := [(.tmp 8, 22), (.tmp 9, 4)]) Try.func44 (by decide) rfl rfl rfl (by simp [cx]) (by simp [NoFr]) ?_
    intro hlen
    obtain ⟨g, hg⟩ : ∃ g : Nat → Option (List Int), g = fun k => if v.getD k 0 ≤ a then (exF m (v.drop k) (a - v.getD k 0)).map (v.getD k 0 :: ·) else none := ⟨_, rfl⟩
    have hex : exF (m + 1) (v.drop f) a = firstDown (fun k => g (f + k)) (v.length - f) := by
      simp only [exF, List.length_drop, hg, List.drop_drop]
      congr 1
      funext k
      rw [show (v.drop f).getD k 0 = v.getD (f + k) 0 from by simp [List.getD]]
    rw [hex]
    conv => whnf
    refine ⟨inr (by omega), ?_⟩
    conv => whnf
    refine AW_loop (X := cx 55) (cx_ok 55) [0, 1, 2, 3, 10] (fun vs M => ∃ j : Nat, j ≤ v.length - f ∧ firstDown (fun k => g (f + k)) (v.length - f) = firstDown (fun k => g (f + k)) j ∧ vs = [.ints false v, .int (m + 1 : Nat), .int f, .int a, .int ((f : Int) + j - 1)] ∧ M = [])
      (fun vs _ => ((vs.getD 4 .any).toInt + 1 - f).toNat) ?_ ?_
    · refine ⟨v.length - f, Nat.le_refl _, rfl, ?_, rfl⟩
      rw [show ((f : Int) + (v.length - f : Nat) - 1) = (v.length : Int) - 1 from by omega]
      rfl
    rintro vs M ⟨j, hj, hfd, rfl, rfl⟩
    conv => whnf
    refine br_dec (fun hlt => ?_) (fun hge => ?_)
    · obtain ⟨i, rfl⟩ : ∃ i, j = i + 1 := ⟨j - 1, by omega⟩
      have e1 : ((f : Int) + (i + 1 : Nat) - 1) = ((f + i : Nat) : Int) := by omega
      have e2 : (((m + 1 : Nat) : Int) - 1) = m := by omega
      rw [e1]
      have hvk := hv.at (i := f + i) (by omega)
      have hstep : firstDown (fun k => g (f + k)) (i + 1) = (match g (f + i) with
        | some l => some l
        | none => firstDown (fun k => g (f + k)) i) := by simp only [firstDown]; cases g (f + i) <;> rfl
      have hgi : g (f + i) = if v.getD (f + i) 0 ≤ a then (exF m (v.drop (f + i)) (a - v.getD (f + i) 0)).map (v.getD (f + i) 0 :: ·) else none := by rw [hg]
      conv => whnf
      refine ⟨by omega, ?_⟩
      conv => whnf
      refine ⟨by omega, ?_⟩
      conv => whnf
      refine br_dec (fun h1 => ?_) (fun h1 => ?_)
      · have h1 : v.getD (f + i) 0 > a := h1
        conv => whnf
        refine ⟨inr (by omega), ?_⟩
        conv => whnf
        refine ⟨⟨i, by omega, ?_, ?_, rfl⟩, ?_⟩
        · rw [hfd, hstep, hgi, if_neg (by omega)]
        · rw [show ((f : Int) + i - 1) = ((f + i : Nat) : Int) - 1 from by omega]; rfl
        · simp [V.toInt, sel, Env.get]; omega
      · have h1 : ¬ v.getD (f + i) 0 > a := h1
        have i2 := ih (f + i) (a - v.getD (f + i) 0) (by omega) (by omega) (by omega) (by omega)
        conv => whnf
        refine ⟨inr (by omega), ?_⟩
        conv => whnf
        refine ⟨by omega, ?_⟩
        conv => whnf
        refine ⟨by omega, ?_⟩
        conv => whnf
        refine ⟨inr (show -9223372036854775808 ≤ a - v.getD (f + i) 0 ∧ a - v.getD (f + i) 0 ≤ 9223372036854775807 by omega), ?_⟩
        conv => whnf
        rw [e2]
        refine APure.to i2 ?_
        have hln : ∀ l, exF m (v.drop (f + i)) (a - v.getD (f + i) 0) = some l → l.length = m := fun l h => exF_len h
        rw [if_pos (by omega)] at hgi
        generalize exF m (v.drop (f + i)) (a - v.getD (f + i) 0) = q at *
        cases q with
        | none =>
          rw [Option.map_none] at hgi
          conv => whnf
          refine ⟨inr (by omega), ?_⟩
          conv => whnf
          refine ⟨⟨i, by omega, ?_, ?_, rfl⟩, ?_⟩
          · rw [hfd, hstep, hgi]
          · rw [show ((f : Int) + i - 1) = ((f + i : Nat) : Int) - 1 from by omega]; rfl
          · simp [V.toInt, sel, Env.get]; omega
        | some l =>
          rw [Option.map_some] at hgi
          have hfin : firstDown (fun k => g (f + k)) (v.length - f) = some (v.getD (f + i) 0 :: l) := by rw [hfd, hstep, hgi]
          have hlm := hln l rfl
          rw [hfin]
          conv => whnf
          refine ⟨by omega, ?_⟩
          conv => whnf
          refine ⟨by omega, ?_⟩
          conv => whnf
          rcases (by omega : l.length = 0 ∨ 1 ≤ l.length) with hl0 | hl1
          · obtain rfl := List.length_eq_zero_iff.1 hl0
            conv => whnf
            refine ⟨(show (8 : Int) * ((1 : Int) + 0) ≤ 140737488355328 by omega), ?_⟩
            conv => whnf
            exact ⟨rfl, trivial, Q2 (Ql rfl) rfl⟩
          · refine stepO (by exact aApp_kilNew (p := .tt) (len := 1) (ts := [v.getD (f + i) 0]) (ys := l) rfl rfl rfl rfl (by simp) (by simp only [List.length_cons, List.length_nil]; omega)) ?_
            conv => whnf
            refine ⟨(show (8 : Int) * ((1 : Int) + (l.length : Int)) ≤ 140737488355328 by omega), ?_⟩
            conv => whnf
            refine ⟨rfl, trivial, Q2 (Ql ?_) rfl⟩
            show (([v.getD (f + i) 0].take 1 ++ l).drop 0).take (1 + l.length) = v.getD (f + i) 0 :: l
            rw [List.drop_zero, List.take_of_length_le (by simp [Nat.add_comm])]
            rfl
    · conv => whnf
      refine ⟨rfl, trivial, ?_⟩
      rw [hfd, show j = 0 from by omega]
      rfl

theorem refPay_pure (h : Int) (v : List Int) (a : Int) : APure Try.prog 18 [.int h, .ints false v, .int a] (fun R => R = tup2 (.ints true (if amtE h v a = 0 then (payO h.toNat v a).getD [] else [])) (.int (if amtE h v a = 0 then (if (payO h.toNat v a).isSome then 0 else 10) else amtE h v a))) := by
  refine APure_of (X := cx 33) (cx_ok 33) rfl (rs := [(.tmp 6, 22), (.tmp 7, 24)]) Try.func18 (by decide) rfl rfl rfl (by simp [cx]) (by simp [NoFr]) ?_
  intro hlen
  conv => whnf
  refine APure.to (refAsked_pure h v a) ?_
  conv => whnf
  refine br_ne (fun h0 => ?_) (fun h0 => ?_)
  · conv => whnf
    exact ⟨rfl, trivial, Q2 (Ql (by rw [if_neg h0])) (Qi (by rw [if_neg h0]))⟩
  obtain ⟨hh, hv, ha0, ha1⟩ := amtE_inv h0
  obtain ⟨n, rfl⟩ : ∃ n : Nat, h = n := ⟨h.toNat, by omega⟩
  rw [if_pos h0, if_pos h0, Int.toNat_natCast]
  have hb := mul_bd hh hv.last
  conv => whnf
  refine AW_loop (X := cx 33) (cx_ok 33) [0, 1, 2, 9] (fun vs M => ∃ j : Nat, j ≤ n + 1 ∧ payO n v a = firstUp (fun m => exF m v a) (n + 1 - j) j ∧ vs = [.int n, .ints false v, .int a, .int j] ∧ M = [])
    (fun vs _ => n + 1 - (vs.getD 3 .any).toInt.toNat) ?_ ?_
  · exact ⟨0, Nat.zero_le _, rfl, rfl, rfl⟩
  rintro vs M ⟨j, hj, hp, rfl, rfl⟩
  conv => whnf
  refine br_dec (fun hlt => ?_) (fun hge => ?_)
  · have i2 := refexactly_pure v hv j 0 a (by omega) (by omega) ha0 (by omega)
    rw [List.drop_zero] at i2
    have hstep : payO n v a = (match exF j v a with
        | some l => some l
        | none => firstUp (fun m => exF m v a) (n + 1 - (j + 1)) (j + 1)) := by
      rw [hp, show n + 1 - j = (n + 1 - (j + 1)) + 1 from by omega]
      simp only [firstUp]
      cases exF j v a <;> rfl
    conv => whnf
    refine APure.to i2 ?_
    generalize exF j v a = q at *
    cases q with
    | none =>
      conv => whnf
      refine ⟨inr (by omega), ?_⟩
      conv => whnf
      refine ⟨⟨j + 1, by omega, hstep, rfl, rfl⟩, ?_⟩
      simp [V.toInt, sel, Env.get]; omega
    | some l =>
      rw [hstep]
      conv => whnf
      exact ⟨rfl, trivial, Q2 (Ql rfl) (Qi rfl)⟩
  · rw [hp, show n + 1 - j = 0 from by omega]
    conv => whnf
    exact ⟨rfl, trivial, Q2 (Ql rfl) (Qi rfl)⟩
end Go.Tri
