/-
  CONTRACTS: Index, reach, Range, Holes, Ways; the reference's Holes, ways, Ways.
-/
import Derived.Test.YtnjojmjcjhcnaaaB6
import Derived.Test.YtnjojmjcjhcnaaaB7
namespace Go.Tri
open Go.Proofs

/-- The first place of x, from place k on; -1 if there is none. -/
def idxI (x : Int) : List Int → Nat → Int
  | [], _ => -1
  | y :: r, k => if x = y then k else idxI x r (k + 1)
theorem idxI_drop {x : Int} {l : List Int} {k : Nat} (hk : k < l.length) (h : ∀ j, j < k → x ≠ l.getD j 0) : idxI x l 0 = idxI x (l.drop k) k := by
  induction k with
  | zero => simp
  | succ k ih =>
    rw [ih (by omega) (fun j hj => h j (by omega))]
    have := h k (by omega)
    rw [List.drop_eq_getElem_cons (by omega : k < l.length)]
    simp only [idxI]
    rw [if_neg (by rw [show l[k] = l.getD k 0 from by simp [List.getD, show k < l.length by omega]]; exact this)]
theorem idxI_at {x : Int} {l : List Int} {k : Nat} (hk : k < l.length) (h : ∀ j, j < k → x ≠ l.getD j 0) (he : x = l.getD k 0) : idxI x l 0 = k := by
  rw [idxI_drop hk h, List.drop_eq_getElem_cons hk]
  simp only [idxI]
  rw [if_pos (by rw [show l[k] = l.getD k 0 from by simp [List.getD, hk]]; exact he)]
theorem idxI_none {x : Int} {l : List Int} (h : ∀ j, j < l.length → x ≠ l.getD j 0) : ∀ k, idxI x l k = -1 := by
  induction l with
  | nil => intro k; rfl
  | cons y r ih =>
    intro k
    simp only [idxI]
    rw [if_neg (by have := h 0 (by simp); simpa using this)]
    exact ih (fun j hj => by have := h (j + 1) (by simp; omega); simpa using this) _

theorem Index_pure (l : List Int) (x : Int) : APure Try.prog 67 [.ints false l, .int x] (fun R => R = .int (idxI x l 0)) := by
  refine APure_of (X := cx 19) (cx_ok 19) rfl (rs := [(.tmp 4, 3)]) Try.func67 (by decide) rfl rfl rfl (by simp [cx]) (by simp [NoFr]) ?_
  intro hlen
  have hla : (l.length : Int) ≤ 9223372036854775807 := hlen (.ints false l) (by simp)
  conv => whnf
  refine AW_loop (X := cx 19) (cx_ok 19) [0, 1, 7, 8] (fun vs M => ∃ k : Nat, k ≤ l.length ∧ (∀ j, j < k → x ≠ l.getD j 0) ∧ vs = [.ints false l, .int x, .int l.length, .int k] ∧ M = []) (fun vs _ => l.length - (vs.getD 3 .any).toInt.toNat) ?_ ?_
  · exact ⟨0, Nat.zero_le _, fun j hj => absurd hj (by omega), rfl, rfl⟩
  rintro vs M ⟨k, hk, hkx, rfl, rfl⟩
  conv => whnf
  refine br_dec (fun hlt => ?_) (fun hge => ?_)
  · have hk' : k < l.length := by omega
    conv => whnf
    repeat ((first | refine ⟨by omega, ?_⟩ | refine ⟨inr (by omega), ?_⟩ | refine eqn_self ?_ | refine ⟨ms (by omega), ?_⟩ | refine ⟨ms (by simp only [Src.n]; omega), ?_⟩ | refine ⟨msk (by omega), ?_⟩ | refine ⟨ms1, ?_⟩); conv => whnf)
    refine br_eq (fun h => ?_) (fun h => ?_)
    · conv => whnf
      exact ⟨trivial, Qi (idxI_at hk' hkx h).symm⟩
    · conv => whnf
      repeat ((first | refine ⟨by omega, ?_⟩ | refine ⟨inr (by omega), ?_⟩ | refine eqn_self ?_ | refine ⟨ms (by omega), ?_⟩ | refine ⟨ms (by simp only [Src.n]; omega), ?_⟩ | refine ⟨msk (by omega), ?_⟩ | refine ⟨ms1, ?_⟩); conv => whnf)
      refine ⟨⟨k + 1, by omega, fun j hj => ?_, rfl, rfl⟩, ?_⟩
      · rcases (by omega : j = k ∨ j < k) with rfl | h1
        · exact h
        · exact hkx j h1
      · simp [V.toInt, sel, Env.get]; omega
  · conv => whnf
    refine ⟨trivial, Qi ?_⟩
    exact (idxI_none (fun j hj => hkx j (by omega)) 0).symm

/-- Payable, by the letters. -/
def hasB (w : List Int) (a : Nat) : Bool := decide (w.getD a 0 ≠ 0)
theorem lettersL_len (h : Nat) (v : List Int) : (lettersL h v).length = (h * lastV v + 1).toNat := by
  unfold lettersL
  rw [foldL_len, List.length_replicate]
def reachP (w : List Int) : Int := if idxI 0 w 0 ≥ 0 then idxI 0 w 0 - 1 else w.length - 1
theorem reachP_rangeOf {w : List Int} (hw : 1 ≤ w.length) (h0 : w.getD 0 0 ≠ 0) : reachP w = rangeOf (hasB w) (w.length - 1) 0 := by
  unfold reachP
  by_cases hz : ∃ k, k < w.length ∧ w.getD k 0 = 0
  · -- the first hole
    have : ∃ k, k < w.length ∧ w.getD k 0 = 0 ∧ ∀ j, j < k → w.getD j 0 ≠ 0 := by
      obtain ⟨k, h1, h2⟩ := hz
      induction k using Nat.strongRecOn with
      | _ k ih =>
        by_cases hj : ∃ j, j < k ∧ w.getD j 0 = 0
        · obtain ⟨j, h3, h4⟩ := hj
          exact ih j h3 (by omega) h4
        · exact ⟨k, h1, h2, fun j h3 h4 => hj ⟨j, h3, h4⟩⟩
    obtain ⟨k, h1, h2, h3⟩ := this
    have hk0 : k ≠ 0 := fun e => by subst e; exact h0 h2
    rw [idxI_at h1 (fun j hj e => h3 j hj e.symm) h2.symm, if_pos (by omega)]
    have := rangeOf_stop (p := hasB w) (k := k) (by unfold hasB; simp [-List.getD_eq_getElem?_getD, h2]) (w.length - 1) 0 (fun a _ ha2 => by unfold hasB; simp [-List.getD_eq_getElem?_getD, h3 a ha2]) (by omega) (by omega)
    rw [this]
    omega
  · have hall : ∀ j, j < w.length → w.getD j 0 ≠ 0 := fun j hj e => hz ⟨j, hj, e⟩
    rw [idxI_none (fun j hj e => hall j hj e.symm) 0, if_neg (by omega)]
    rw [rangeOf_full (p := hasB w) (w.length - 1) 0 (fun a _ ha2 => by unfold hasB; simp [-List.getD_eq_getElem?_getD, hall a (by omega)])]
    omega

theorem reach_pure (h : Nat) (hh : 1 ≤ h ∧ h ≤ 6) (v : List Int) (hv : Vals v) : APure Try.prog 51 [.int h, .ints false v] (fun R => R = .int (reachP (lettersL h v))) := by
  have hb := mul_bd (h := h) (by omega) hv.last
  have hll := lettersL_len h v
  refine APure_of (X := cx 19) (cx_ok 19) rfl (rs := [(.tmp 4, 3)]) Try.func51 (by decide) rfl rfl rfl (by simp [cx]) (by simp [NoFr]) ?_
  intro hlen
  conv => whnf
  refine APure.to (letters_pure h hh v hv) ?_
  generalize lettersL h v = w at hll
  have hib : -1 ≤ idxI 0 w 0 ∧ idxI 0 w 0 ≤ w.length := by
    have : ∀ (l : List Int) (k : Nat), -1 ≤ idxI 0 l k ∧ idxI 0 l k ≤ k + l.length := by
      intro l
      induction l with
      | nil => intro k; simp [idxI]
      | cons y r ih =>
        intro k
        have := ih (k + 1)
        simp only [idxI, List.length_cons]
        split <;> omega
    have := this w 0
    omega
  conv => whnf
  refine APure.to (Index_pure w 0) ?_
  conv => whnf
  refine br_dec (fun h1 => ?_) (fun h1 => ?_)
  · conv => whnf
    refine ⟨inr (by omega), ?_⟩
    conv => whnf
    exact ⟨trivial, Qi (by unfold reachP; rw [if_pos h1])⟩
  · conv => whnf
    refine ⟨inr (by omega), ?_⟩
    conv => whnf
    exact ⟨trivial, Qi (by unfold reachP; rw [if_neg h1])⟩

theorem Range_pure (h : Int) (v : List Int) : APure Try.prog 24 [.int h, .ints false v] (fun R => R = tup2 (.int (if tickE h v = 0 then reachP (lettersL h.toNat v) else 0)) (.int (tickE h v))) := by
  refine APure_of (X := cx 16) (cx_ok 16) rfl (rs := [(.tmp 4, 3), (.tmp 5, 24)]) Try.func24 (by decide) rfl rfl rfl (by simp [cx]) (by simp [NoFr]) ?_
  intro hlen
  conv => whnf
  refine APure.to (checkTicket_pure h v) ?_
  conv => whnf
  refine br_ne (fun h0 => ?_) (fun h0 => ?_)
  · conv => whnf
    exact ⟨trivial, trivial, Q2 (Qi (by rw [if_neg h0])) rfl⟩
  · obtain ⟨hh, hv⟩ := tickE_inv h0
    obtain ⟨n, rfl⟩ : ∃ n : Nat, h = n := ⟨h.toNat, by omega⟩
    conv => whnf
    refine APure.to (reach_pure n (by omega) v hv) ?_
    conv => whnf
    exact ⟨trivial, trivial, Q2 (Qi (by rw [if_pos h0]; rfl)) (Qi h0.symm)⟩

/-- The amounts below k of which p holds. -/
def hol (p : Nat → Bool) : Nat → List Int
  | 0 => []
  | k + 1 => hol p k ++ (if p k = true then [(k : Int)] else [])
theorem hol_congr {p q : Nat → Bool} : ∀ k, (∀ a, a < k → p a = q a) → hol p k = hol q k := by
  intro k
  induction k with
  | zero => intro _; rfl
  | succ k ih => intro h; simp only [hol]; rw [ih (fun a ha => h a (by omega)), h k (by omega)]
theorem hol_len (p : Nat → Bool) : ∀ k, (hol p k).length ≤ k := by
  intro k
  induction k with
  | zero => simp [hol]
  | succ k ih =>
    simp only [hol, List.length_append]
    split <;> simp <;> omega

/-- A list that has been appended to, from nil on: nothing yet, or an object of the name 1. -/
def Out1 (l : List Int) (o : V) (R : Mem) : Prop := (l = [] ∧ o = .emp true ∧ R = []) ∨ ∃ ver, o = .sl 1 ver 0 l.length ∧ R = [none, some ⟨3, 1, ver, .il l⟩]

theorem Holes_pure (h : Int) (v : List Int) : APure Try.prog 26 [.int h, .ints false v] (fun R => R = tup2 (.ints true (if tickE h v = 0 then hol (fun a => !hasB (lettersL h.toNat v) a) (lettersL h.toNat v).length else [])) (.int (tickE h v))) := by
  refine APure_of (X := cx 33) (cx_ok 33) rfl (rs := [(.tmp 4, 22), (.tmp 5, 24)]) Try.func26 (by decide) rfl rfl rfl (by simp [cx]) (by simp [NoFr]) ?_
  intro hlen
  conv => whnf
  refine APure.to (checkTicket_pure h v) ?_
  conv => whnf
  refine br_ne (fun h0 => ?_) (fun h0 => ?_)
  · conv => whnf
    exact ⟨rfl, trivial, Q2 (Ql (by rw [if_neg h0])) rfl⟩
  obtain ⟨hh, hv⟩ := tickE_inv h0
  obtain ⟨n, rfl⟩ : ∃ n : Nat, h = n := ⟨h.toNat, by omega⟩
  rw [if_pos h0, Int.toNat_natCast]
  have hb := mul_bd hh hv.last
  have hll := lettersL_len n v
  conv => whnf
  refine APure.to (letters_pure n (by omega) v hv) ?_
  generalize lettersL n v = w at hll
  conv => whnf
  refine AW_loopA (X := cx 33) (cx_ok 33) [7, 18, 19, 20] (fun t => Nat.beq t 1) (fun vs M => ∃ (k : Nat) (o : V), k ≤ w.length ∧ Out1 (hol (fun a => !hasB w a) k) o M ∧ vs = [o, .ints true w, .int w.length, .int k])
    (fun vs _ => w.length - (vs.getD 3 .any).toInt.toNat) (fun t ht => absurd ht (by simp)) ?_ ?_
  · exact same0 ⟨0, .emp true, Nat.zero_le _, .inl ⟨rfl, rfl, rfl⟩, rfl⟩
  rintro vs M ⟨k, o, hk, hO, rfl⟩
  have hhl := hol_len (fun a => !hasB w a) k
  conv => whnf
  refine br_dec (fun hlt => ?_) (fun hge => ?_)
  · have hk' : k < w.length := by omega
    conv => whnf
    refine ⟨by omega, ?_⟩
    conv => whnf
    refine ⟨by omega, ?_⟩
    conv => whnf
    refine br_eq (fun h1 => ?_) (fun h1 => ?_)
    · have hnext : hol (fun a => !hasB w a) (k + 1) = hol (fun a => !hasB w a) k ++ [(k : Int)] := by
        simp only [hol]
        rw [if_pos (by unfold hasB; simp only [Int.toNat_natCast] at h1; simp [-List.getD_eq_getElem?_getD, h1])]
      generalize hol (fun a => !hasB w a) k = l at *
      rcases hO with ⟨rfl, rfl, rfl⟩ | ⟨ver, rfl, rfl⟩
      · conv => whnf
        repeat ((first | refine ⟨by omega, ?_⟩ | refine ⟨inr (by omega), ?_⟩ | refine eqn_self ?_ | refine ⟨ms (by omega), ?_⟩ | refine ⟨ms (by simp only [Src.n]; omega), ?_⟩ | refine ⟨msk (by omega), ?_⟩ | refine ⟨ms1, ?_⟩); conv => whnf)
        refine ⟨by repeat (first | exact trivial | exact rfl | exact fun _ => trivial | exact fun _ _ => trivial | exact fun _ _ _ => trivial | exact fun _ _ _ _ => trivial | refine And.intro ?_ ?_), memA1 [none, some ⟨3, 1, 0, .il (hol (fun a => !hasB w a) (k + 1))⟩] ⟨ObSub.ii (by rw [hnext]; rfl), trivial⟩ ⟨⟨k + 1, _, by omega, .inr ⟨0, rfl, rfl⟩, ?_⟩, ?_⟩⟩
        · rw [hnext]; rfl
        · simp [V.toInt, sel, Env.get]; omega
      · conv => whnf
        repeat ((first | refine ⟨by omega, ?_⟩ | refine ⟨inr (by omega), ?_⟩ | refine eqn_self ?_ | refine ⟨ms (by omega), ?_⟩ | refine ⟨ms (by simp only [Src.n]; omega), ?_⟩ | refine ⟨msk (by omega), ?_⟩ | refine ⟨ms1, ?_⟩); conv => whnf)
        refine ⟨by repeat (first | exact trivial | exact rfl | exact fun _ => trivial | exact fun _ _ => trivial | exact fun _ _ _ => trivial | exact fun _ _ _ _ => trivial | refine And.intro ?_ ?_), memA1 [none, some ⟨3, 1, ver + 1, .il (hol (fun a => !hasB w a) (k + 1))⟩] ⟨ObSub.ii (by rw [hnext, List.take_length]; rfl), trivial⟩ ⟨⟨k + 1, _, by omega, .inr ⟨ver + 1, rfl, rfl⟩, ?_⟩, ?_⟩⟩
        · rw [hnext, List.length_append]; rfl
        · simp [V.toInt, sel, Env.get]; omega
    · have hnext : hol (fun a => !hasB w a) (k + 1) = hol (fun a => !hasB w a) k := by
        simp only [hol]
        rw [if_neg (by unfold hasB; simp only [Int.toNat_natCast] at h1; simp [-List.getD_eq_getElem?_getD, h1])]
        simp
      rcases hO with ⟨hl0, rfl, rfl⟩ | ⟨ver, rfl, rfl⟩
      · conv => whnf
        refine ⟨inr (by omega), ?_⟩
        conv => whnf
        refine ⟨by repeat (first | exact trivial | exact rfl | exact fun _ => trivial | exact fun _ _ => trivial | exact fun _ _ _ => trivial | exact fun _ _ _ _ => trivial | refine And.intro ?_ ?_), same1 ⟨⟨k + 1, _, by omega, .inl ⟨by rw [hnext]; exact hl0, rfl, rfl⟩, rfl⟩, ?_⟩⟩
        simp [V.toInt, sel, Env.get]; omega
      · conv => whnf
        refine ⟨inr (by omega), ?_⟩
        conv => whnf
        refine ⟨by repeat (first | exact trivial | exact rfl | exact fun _ => trivial | exact fun _ _ => trivial | exact fun _ _ _ => trivial | exact fun _ _ _ _ => trivial | refine And.intro ?_ ?_), same1 ⟨⟨k + 1, _, by omega, .inr ⟨ver, by rw [hnext]; rfl, by rw [hnext]; rfl⟩, rfl⟩, ?_⟩⟩
        simp [V.toInt, sel, Env.get]; omega
  · obtain rfl : k = w.length := by omega
    rcases hO with ⟨hl0, rfl, rfl⟩ | ⟨ver, rfl, rfl⟩
    · conv => whnf
      exact ⟨rfl, trivial, Q2 (Ql (by rw [hl0])) (Qi h0.symm)⟩
    · conv => whnf
      repeat ((first | refine ⟨by omega, ?_⟩ | refine ⟨inr (by omega), ?_⟩ | refine eqn_self ?_ | refine ⟨ms (by omega), ?_⟩ | refine ⟨ms (by simp only [Src.n]; omega), ?_⟩ | refine ⟨msk (by omega), ?_⟩ | refine ⟨ms1, ?_⟩); conv => whnf)
      exact ⟨rfl, trivial, Q2 (Ql (by simp)) (Qi h0.symm)⟩

theorem Ways_pure (h : Int) (v : List Int) (a : Int) : APure Try.prog 22 [.int h, .ints false v, .int a] (fun R => R = tup2 (.int (if amtE h v a = 0 then (lettersL h.toNat v).getD a.toNat 0 else 0)) (.int (amtE h v a))) := by
  refine APure_of (X := cx 22) (cx_ok 22) rfl (rs := [(.tmp 6, 3), (.tmp 7, 24)]) Try.func22 (by decide) rfl rfl rfl (by simp [cx]) (by simp [NoFr]) ?_
  intro hlen
  conv => whnf
  refine APure.to (checkAmount_pure h v a) ?_
  conv => whnf
  refine br_ne (fun h0 => ?_) (fun h0 => ?_)
  · conv => whnf
    exact ⟨trivial, trivial, Q2 (Qi (by rw [if_neg h0])) rfl⟩
  · obtain ⟨hh, hv, ha0, ha1⟩ := amtE_inv h0
    obtain ⟨n, rfl⟩ : ∃ n : Nat, h = n := ⟨h.toNat, by omega⟩
    have hll := lettersL_len n v
    conv => whnf
    refine APure.to (letters_pure n (by omega) v hv) ?_
    conv => whnf
    refine ⟨by omega, ?_⟩
    conv => whnf
    refine ⟨by omega, ?_⟩
    conv => whnf
    exact ⟨trivial, trivial, Q2 (Qi (by rw [if_pos h0]; rfl)) (Qi h0.symm)⟩
end Go.Tri
