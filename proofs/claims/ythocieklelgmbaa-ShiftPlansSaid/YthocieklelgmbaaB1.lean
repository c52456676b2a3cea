/-
  CONTRACTS: the checks, the program's and the reference's; few, same.
-/
import Derived.Test.YthocieklelgmbaaS
import Derived.Test.YthocieklelgmbaaA32
namespace Go.Tri
open Go.Proofs

theorem eqn_self {x : Nat} {K : Prop} (h : K) : (eqnO x x).req K := (Obl.req_iff _ _).2 ⟨eqnO_holds.2 rfl, h⟩
theorem ms {n : Nat} {x : Int} (h : 8 * x ≤ 140737488355328) : (((cx n).T.row 3).bs : Int) * x ≤ 140737488355328 := h
theorem ms1 {n : Nat} : (((cx n).T.row 3).bs : Int) * ((1 : Nat) : Int) ≤ 140737488355328 := show (8 : Int) * 1 ≤ _ by decide
theorem msk {n k : Nat} (h : 8 * ((k : Int) + 1) ≤ 140737488355328) : (((cx n).T.row 3).bs : Int) * ((k : Int) + ((1 : Nat) : Int)) ≤ 140737488355328 := h
theorem Qb {b c : Bool} (h : b = c) : V.bool b = V.bool c := by rw [h]
theorem Qi {b c : Int} (h : b = c) : V.int b = V.int c := by rw [h]
theorem Ql {b : Bool} {c d : List Int} (h : c = d) : V.ints b c = V.ints b d := by rw [h]
@[reducible] def tup2 (a b : V) : V := .tup 2 fun k => match k with | 0 => a | _ => b
@[reducible] def tup3 (a b c : V) : V := .tup 3 fun k => match k with | 0 => a | 1 => b | _ => c
theorem Q2 {a b a' b' : V} (h : a = a') (h' : b = b') : tup2 a b = tup2 a' b' := by rw [h, h']
theorem Q3 {a b c a' b' c' : V} (h : a = a') (h' : b = b') (h2 : c = c') : tup3 a b c = tup3 a' b' c' := by rw [h, h', h2]
theorem take_succ_getD (l : List Int) (k : Nat) (h : k < l.length) : l.take (k + 1) = l.take k ++ [l.getD k 0] := by
  rw [List.take_add_one]; simp [List.getD, h]
theorem take_len {l : List Int} {k : Nat} (h : l.length ≤ k) : l.take k = l := List.take_of_length_le h
theorem getD_mem' {l : List Int} {k : Nat} (h : k < l.length) : l.getD k 0 ∈ l := by simp [List.getD, h]
theorem LenI {l : List Int} {r : List V} (h : ∀ x ∈ V.ints false l :: r, LenOk x) : (l.length : Int) ≤ 9223372036854775807 := h (.ints false l) (by simp)
theorem ext_getD {l m : List Int} (h : l.length = m.length) (hg : ∀ j, j < l.length → l.getD j 0 = m.getD j 0) : l = m := by
  apply List.ext_getElem h
  intro i h1 h2
  have := hg i h1
  simpa [List.getD, h1, h2] using this
theorem forceV_rw {x y : V} {K : V → Prop} (h : x = y) (k : forceV y K) : forceV x K := h ▸ k
theorem ldk {ver o sz : Nat} {K : Prop} (h : o < sz) (k : K) : (ldO ver ver o sz).req K := (Obl.req_iff _ _).2 ⟨ldO_holds.2 ⟨rfl, h⟩, k⟩
theorem ldak {ver m sz : Nat} {K : Prop} (h : m ≤ sz) (k : K) : (ldaO ver ver m sz).req K := (Obl.req_iff _ _).2 ⟨ldaO_holds.2 ⟨rfl, h⟩, k⟩
theorem set_get {c : Prop} [Decidable c] {a b v : V} (h : c → a = v) (h' : ¬ c → b = v) : (if c then a else b) = v := by
  split
  · exact h (by assumption)
  · exact h' (by assumption)

/-- The first k of a list lie between a and b. -/
def bet (a b : Int) (l : List Int) (k : Nat) : Prop := ∀ j, j < k → a ≤ l.getD j 0 ∧ l.getD j 0 ≤ b
theorem bet.succ {a b : Int} {l : List Int} {k : Nat} (h : bet a b l k) (h1 : a ≤ l.getD k 0) (h2 : l.getD k 0 ≤ b) : bet a b l (k + 1) := fun j hj => by
  rcases (by omega : j < k ∨ j = k) with h4 | rfl
  · exact h j h4
  · exact ⟨h1, h2⟩
/-- Needs that are right. -/
def Nds (l : List Int) : Prop := 1 ≤ l.length ∧ l.length ≤ 12 ∧ bet 0 50 l l.length
def isPl (n : Nat) (p : List Int) : Prop := p.length = n ∧ bet 0 600 p p.length
def isPr (n : Nat) (p : List Int) : Prop := 1 ≤ p.length ∧ p.length ≤ 60 ∧ bet 0 (n - 1) p p.length
open Classical in
noncomputable def ndsE (l : List Int) : Int := if l.length > 12 then 3 else if Nds l then 0 else 2
open Classical in
noncomputable def dayE (l : List Int) (long : Int) : Int := if ndsE l = 0 then (if 1 ≤ long ∧ long ≤ l.length then 0 else 2) else ndsE l
theorem ndsE_bad {l : List Int} (h : ¬ l.length > 12) (h2 : ¬ Nds l) : ndsE l = 2 := by unfold ndsE; rw [if_neg h, if_neg h2]
theorem ndsE_ok {l : List Int} (h2 : Nds l) : ndsE l = 0 := by unfold ndsE; rw [if_neg (by have := h2.2.1; omega), if_pos h2]
theorem ndsE_inv {l : List Int} (h : ndsE l = 0) : Nds l := by
  unfold ndsE at h
  split at h
  · omega
  · split at h
    · assumption
    · omega
theorem dayE_inv {l : List Int} {long : Int} (h : dayE l long = 0) : Nds l ∧ 1 ≤ long ∧ long ≤ l.length := by
  unfold dayE at h
  split at h
  · next h1 =>
    split at h
    · next h2 => exact ⟨ndsE_inv h1, h2⟩
    · omega
  · next h1 => exact absurd h h1
theorem dayE_ok {l : List Int} {long : Int} (h : Nds l) (h1 : 1 ≤ long) (h2 : long ≤ l.length) : dayE l long = 0 := by
  unfold dayE
  rw [if_pos (ndsE_ok h), if_pos ⟨h1, h2⟩]

/-- The first place from k on (fuel f) where p holds, or -1. -/
def idxP (p : Int → Bool) (l : List Int) : Nat → Nat → Int
  | _, 0 => -1
  | k, f + 1 => if p (l.getD k 0) = true then k else idxP p l (k + 1) f
theorem idxP_ge (p : Int → Bool) (l : List Int) : ∀ f k, (0 ≤ idxP p l k f) ↔ ∃ j, k ≤ j ∧ j < k + f ∧ p (l.getD j 0) = true := by
  intro f
  induction f with
  | zero => intro k; simp only [idxP]; exact ⟨fun h => absurd h (by omega), fun ⟨j, h1, h2, _⟩ => by omega⟩
  | succ f ih =>
    intro k
    simp only [idxP]
    by_cases h : p (l.getD k 0) = true
    · rw [if_pos h]; exact ⟨fun _ => ⟨k, by omega, by omega, h⟩, fun _ => by omega⟩
    · rw [if_neg h, ih]
      constructor
      · rintro ⟨j, h1, h2, h3⟩; exact ⟨j, by omega, by omega, h3⟩
      · rintro ⟨j, h1, h2, h3⟩
        refine ⟨j, ?_, by omega, h3⟩
        rcases (by omega : k = j ∨ k + 1 ≤ j) with rfl | h4
        · exact absurd h3 h
        · exact h4
theorem idxP_bd (p : Int → Bool) (l : List Int) : ∀ f k, -1 ≤ idxP p l k f ∧ idxP p l k f < k + f + 1 := by
  intro f
  induction f with
  | zero => intro k; simp only [idxP]; omega
  | succ f ih =>
    intro k
    simp only [idxP]
    split
    · omega
    · have := ih (k + 1); omega

theorem subC0 {f : Nat} {g g' : Nat → V} : Sub (.clo f 0 g) (.clo f 0 g') := sub_clo fun i hi => absurd hi (by omega)
theorem subC1 {f : Nat} {g : Nat → V} {h : Nat → V} {z : Int} (h1 : g 0 = .at_ 1 h 0) (h2 : h 0 = .int z) : Sub (.clo f 1 g) (.clo f 1 fun _ => .at_ 1 (fun _ => .int z) 0) := sub_clo fun i hi => by
  rw [show i = 0 by omega, h1]
  exact sub_at fun j hj => by rw [show j = 0 by omega, h2]; exact Sub.refl _
theorem IndexFunc0 (p : Int → Bool) (f : Nat) (l : List Int) (hp : ∀ x : Int, APure Try.prog f [.int x] (fun R => R = .bool (p x))) :
    APure Try.prog 77 [.ints false l, .clo f 0 fun _ => .any] (fun R => R = .int (idxP p l 0 l.length)) := by
  refine APure_of (X := cx 19) (cx_ok 19) rfl (rs := [(.tmp 4, 3)]) Try.func77 (by decide) rfl rfl rfl (by simp [cx]) (by simp [NoFr]) ?_
  intro hlen
  have hla := LenI hlen
  ((conv => whnf); repeat (refine stepK_in ?_; (repeat (first | refine seqQ_n ?_ | refine blockQ_n ?_ | refine awp_skip ?_ | refine awp_seq ?_ | refine awp_block ?_)); (conv => whnf)))
  refine AW_loop (X := cx 19) (cx_ok 19) [0, 1, 7, 8] (fun vs M => ∃ k : Nat, k ≤ l.length ∧ idxP p l 0 l.length = idxP p l k (l.length - k) ∧ vs = [.ints false l, .clo f 0 fun _ => .any, .int l.length, .int k] ∧ M = []) (fun vs _ => l.length - (vs.getD 3 .any).toInt.toNat) ?_ ?_
  · exact ⟨0, Nat.zero_le _, rfl, rfl, rfl⟩
  rintro vs M ⟨k, hk, hi, rfl, rfl⟩
  ((conv => whnf); repeat (refine stepK_in ?_; (repeat (first | refine seqQ_n ?_ | refine blockQ_n ?_ | refine awp_skip ?_ | refine awp_seq ?_ | refine awp_block ?_)); (conv => whnf)))
  refine br_dec (fun hlt => ?_) (fun hge => ?_)
  · have hk' : k < l.length := by omega
    obtain ⟨q, hq⟩ : ∃ q, l.length - k = q + 1 := ⟨l.length - k - 1, by omega⟩
    rw [hq] at hi
    simp only [idxP] at hi
    ((conv => whnf); repeat (refine stepK_in ?_; (repeat (first | refine seqQ_n ?_ | refine blockQ_n ?_ | refine awp_skip ?_ | refine awp_seq ?_ | refine awp_block ?_)); (conv => whnf)))
    repeat ((first | refine ⟨by omega, ?_⟩ | refine ⟨inr (by omega), ?_⟩ | refine eqn_self ?_ | refine ⟨ms (by omega), ?_⟩ | refine ⟨ms (by simp only [Src.n]; omega), ?_⟩ | refine ⟨msk (by omega), ?_⟩ | refine ⟨ms1, ?_⟩); ((conv => whnf); repeat (refine stepK_in ?_; (repeat (first | refine seqQ_n ?_ | refine blockQ_n ?_ | refine awp_skip ?_ | refine awp_seq ?_ | refine awp_block ?_)); (conv => whnf))))
    refine APure.to (hp _) ?_
    ((conv => whnf); repeat (refine stepK_in ?_; (repeat (first | refine seqQ_n ?_ | refine blockQ_n ?_ | refine awp_skip ?_ | refine awp_seq ?_ | refine awp_block ?_)); (conv => whnf)))
    refine br_mk (fun hb => ?_) (fun hb => ?_)
    · rw [if_pos (by simpa using hb)] at hi
      ((conv => whnf); repeat (refine stepK_in ?_; (repeat (first | refine seqQ_n ?_ | refine blockQ_n ?_ | refine awp_skip ?_ | refine awp_seq ?_ | refine awp_block ?_)); (conv => whnf)))
      exact ⟨trivial, Qi hi.symm⟩
    · rw [if_neg (by simpa using hb)] at hi
      ((conv => whnf); repeat (refine stepK_in ?_; (repeat (first | refine seqQ_n ?_ | refine blockQ_n ?_ | refine awp_skip ?_ | refine awp_seq ?_ | refine awp_block ?_)); (conv => whnf)))
      refine ⟨inr (by omega), ?_⟩
      ((conv => whnf); repeat (refine stepK_in ?_; (repeat (first | refine seqQ_n ?_ | refine blockQ_n ?_ | refine awp_skip ?_ | refine awp_seq ?_ | refine awp_block ?_)); (conv => whnf)))
      refine ⟨⟨k + 1, by omega, ?_, rfl, rfl⟩, ?_⟩
      · rw [hi, show l.length - (k + 1) = q by omega]
      · simp [V.toInt, sel, Env.get]; omega
  · obtain rfl : k = l.length := by omega
    ((conv => whnf); repeat (refine stepK_in ?_; (repeat (first | refine seqQ_n ?_ | refine blockQ_n ?_ | refine awp_skip ?_ | refine awp_seq ?_ | refine awp_block ?_)); (conv => whnf)))
    refine ⟨trivial, Qi ?_⟩
    rw [hi, Nat.sub_self]
    rfl

theorem IndexFunc1 (p : Int → Bool) (f : Nat) (z : Int) (l : List Int) (hp : ∀ x : Int, APure Try.prog f [.int x, .at_ 1 (fun _ => .int z) 0] (fun R => R = .bool (p x))) :
    APure Try.prog 77 [.ints false l, .clo f 1 fun _ => .at_ 1 (fun _ => .int z) 0] (fun R => R = .int (idxP p l 0 l.length)) := by
  refine APure_of (X := cx 19) (cx_ok 19) rfl (rs := [(.tmp 4, 3)]) Try.func77 (by decide) rfl rfl rfl (by simp [cx]) (by simp [NoFr]) ?_
  intro hlen
  have hla := LenI hlen
  ((conv => whnf); repeat (refine stepK_in ?_; (repeat (first | refine seqQ_n ?_ | refine blockQ_n ?_ | refine awp_skip ?_ | refine awp_seq ?_ | refine awp_block ?_)); (conv => whnf)))
  refine AW_loop (X := cx 19) (cx_ok 19) [0, 1, 7, 8] (fun vs M => ∃ k : Nat, k ≤ l.length ∧ idxP p l 0 l.length = idxP p l k (l.length - k) ∧ vs = [.ints false l, .clo f 1 fun _ => .at_ 1 (fun _ => .int z) 0, .int l.length, .int k] ∧ M = []) (fun vs _ => l.length - (vs.getD 3 .any).toInt.toNat) ?_ ?_
  · exact ⟨0, Nat.zero_le _, rfl, rfl, rfl⟩
  rintro vs M ⟨k, hk, hi, rfl, rfl⟩
  ((conv => whnf); repeat (refine stepK_in ?_; (repeat (first | refine seqQ_n ?_ | refine blockQ_n ?_ | refine awp_skip ?_ | refine awp_seq ?_ | refine awp_block ?_)); (conv => whnf)))
  refine br_dec (fun hlt => ?_) (fun hge => ?_)
  · have hk' : k < l.length := by omega
    obtain ⟨q, hq⟩ : ∃ q, l.length - k = q + 1 := ⟨l.length - k - 1, by omega⟩
    rw [hq] at hi
    simp only [idxP] at hi
    ((conv => whnf); repeat (refine stepK_in ?_; (repeat (first | refine seqQ_n ?_ | refine blockQ_n ?_ | refine awp_skip ?_ | refine awp_seq ?_ | refine awp_block ?_)); (conv => whnf)))
    repeat ((first | refine ⟨by omega, ?_⟩ | refine ⟨inr (by omega), ?_⟩ | refine eqn_self ?_ | refine ⟨ms (by omega), ?_⟩ | refine ⟨ms (by simp only [Src.n]; omega), ?_⟩ | refine ⟨msk (by omega), ?_⟩ | refine ⟨ms1, ?_⟩); ((conv => whnf); repeat (refine stepK_in ?_; (repeat (first | refine seqQ_n ?_ | refine blockQ_n ?_ | refine awp_skip ?_ | refine awp_seq ?_ | refine awp_block ?_)); (conv => whnf))))
    refine APure.to (hp _) ?_
    ((conv => whnf); repeat (refine stepK_in ?_; (repeat (first | refine seqQ_n ?_ | refine blockQ_n ?_ | refine awp_skip ?_ | refine awp_seq ?_ | refine awp_block ?_)); (conv => whnf)))
    refine br_mk (fun hb => ?_) (fun hb => ?_)
    · rw [if_pos (by simpa using hb)] at hi
      ((conv => whnf); repeat (refine stepK_in ?_; (repeat (first | refine seqQ_n ?_ | refine blockQ_n ?_ | refine awp_skip ?_ | refine awp_seq ?_ | refine awp_block ?_)); (conv => whnf)))
      exact ⟨trivial, Qi hi.symm⟩
    · rw [if_neg (by simpa using hb)] at hi
      ((conv => whnf); repeat (refine stepK_in ?_; (repeat (first | refine seqQ_n ?_ | refine blockQ_n ?_ | refine awp_skip ?_ | refine awp_seq ?_ | refine awp_block ?_)); (conv => whnf)))
      refine ⟨inr (by omega), ?_⟩
      ((conv => whnf); repeat (refine stepK_in ?_; (repeat (first | refine seqQ_n ?_ | refine blockQ_n ?_ | refine awp_skip ?_ | refine awp_seq ?_ | refine awp_block ?_)); (conv => whnf)))
      refine ⟨⟨k + 1, by omega, ?_, rfl, rfl⟩, ?_⟩
      · rw [hi, show l.length - (k + 1) = q by omega]
      · simp [V.toInt, sel, Env.get]; omega
  · obtain rfl : k = l.length := by omega
    ((conv => whnf); repeat (refine stepK_in ?_; (repeat (first | refine seqQ_n ?_ | refine blockQ_n ?_ | refine awp_skip ?_ | refine awp_seq ?_ | refine awp_block ?_)); (conv => whnf)))
    refine ⟨trivial, Qi ?_⟩
    rw [hi, Nat.sub_self]
    rfl

theorem ContainsFunc0 (p : Int → Bool) (f : Nat) (l : List Int) (hp : ∀ x : Int, APure Try.prog f [.int x] (fun R => R = .bool (p x))) :
    APure Try.prog 59 [.ints false l, .clo f 0 fun _ => .any] (fun R => R = .bool (decide (0 ≤ idxP p l 0 l.length))) := by
  refine APure_of (X := cx 9) (cx_ok 9) rfl (rs := [(.tmp 4, 4)]) Try.func59 (by decide) rfl rfl rfl (by simp [cx]) (by simp [NoFr]) ?_
  intro hlen
  ((conv => whnf); repeat (refine stepK_in ?_; (repeat (first | refine seqQ_n ?_ | refine blockQ_n ?_ | refine awp_skip ?_ | refine awp_seq ?_ | refine awp_block ?_)); (conv => whnf)))
  refine APure.to (APure.arg2 (Sub.refl _) subC0 (IndexFunc0 p f l hp)) ?_
  ((conv => whnf); repeat (refine stepK_in ?_; (repeat (first | refine seqQ_n ?_ | refine blockQ_n ?_ | refine awp_skip ?_ | refine awp_seq ?_ | refine awp_block ?_)); (conv => whnf)))
  exact ⟨trivial, rfl⟩

theorem ContainsFunc1 (p : Int → Bool) (f : Nat) (z : Int) (l : List Int) (hp : ∀ x : Int, APure Try.prog f [.int x, .at_ 1 (fun _ => .int z) 0] (fun R => R = .bool (p x))) :
    APure Try.prog 59 [.ints false l, .clo f 1 fun _ => .at_ 1 (fun _ => .int z) 0] (fun R => R = .bool (decide (0 ≤ idxP p l 0 l.length))) := by
  refine APure_of (X := cx 9) (cx_ok 9) rfl (rs := [(.tmp 4, 4)]) Try.func59 (by decide) rfl rfl rfl (by simp [cx]) (by simp [NoFr]) ?_
  intro hlen
  ((conv => whnf); repeat (refine stepK_in ?_; (repeat (first | refine seqQ_n ?_ | refine blockQ_n ?_ | refine awp_skip ?_ | refine awp_seq ?_ | refine awp_block ?_)); (conv => whnf)))
  refine APure.to (APure.arg2 (Sub.refl _) (subC1 rfl rfl) (IndexFunc1 p f z l hp)) ?_
  ((conv => whnf); repeat (refine stepK_in ?_; (repeat (first | refine seqQ_n ?_ | refine blockQ_n ?_ | refine awp_skip ?_ | refine awp_seq ?_ | refine awp_block ?_)); (conv => whnf)))
  exact ⟨trivial, rfl⟩

theorem cn1_pure (x : Int) : APure Try.prog 75 [.int x] (fun R => R = .bool (decide (x < 0 ∨ x > 50))) := by
  refine APure_of (X := cx 9) (cx_ok 9) rfl (rs := [(.tmp 2, 4)]) Try.func75 (by decide) rfl rfl rfl (by simp [cx]) (by simp [NoFr]) ?_
  intro _
  ((conv => whnf); repeat (refine stepK_in ?_; (repeat (first | refine seqQ_n ?_ | refine blockQ_n ?_ | refine awp_skip ?_ | refine awp_seq ?_ | refine awp_block ?_)); (conv => whnf)))
  refine br_dec (fun h => ?_) (fun h => ?_)
  · ((conv => whnf); repeat (refine stepK_in ?_; (repeat (first | refine seqQ_n ?_ | refine blockQ_n ?_ | refine awp_skip ?_ | refine awp_seq ?_ | refine awp_block ?_)); (conv => whnf)))
    exact ⟨trivial, Qb (decide_eq_true (Or.inl h)).symm⟩
  · ((conv => whnf); repeat (refine stepK_in ?_; (repeat (first | refine seqQ_n ?_ | refine blockQ_n ?_ | refine awp_skip ?_ | refine awp_seq ?_ | refine awp_block ?_)); (conv => whnf)))
    exact ⟨trivial, Qb (decide_eq_decide.2 (by omega))⟩
theorem isMany_pure (x : Int) : APure Try.prog 49 [.int x] (fun R => R = .bool (decide (0 ≤ x ∧ x ≤ 600))) := by
  refine APure_of (X := cx 9) (cx_ok 9) rfl (rs := [(.tmp 2, 4)]) Try.func49 (by decide) rfl rfl rfl (by simp [cx]) (by simp [NoFr]) ?_
  intro _
  ((conv => whnf); repeat (refine stepK_in ?_; (repeat (first | refine seqQ_n ?_ | refine blockQ_n ?_ | refine awp_skip ?_ | refine awp_seq ?_ | refine awp_block ?_)); (conv => whnf)))
  refine br_dec (fun h => ?_) (fun h => ?_)
  · ((conv => whnf); repeat (refine stepK_in ?_; (repeat (first | refine seqQ_n ?_ | refine blockQ_n ?_ | refine awp_skip ?_ | refine awp_seq ?_ | refine awp_block ?_)); (conv => whnf)))
    exact ⟨trivial, Qb (decide_eq_decide.2 (by omega))⟩
  · ((conv => whnf); repeat (refine stepK_in ?_; (repeat (first | refine seqQ_n ?_ | refine blockQ_n ?_ | refine awp_skip ?_ | refine awp_seq ?_ | refine awp_block ?_)); (conv => whnf)))
    exact ⟨trivial, Qb (decide_eq_false (by omega)).symm⟩
theorem ip1_pure (x : Int) : APure Try.prog 60 [.int x] (fun R => R = .bool (!decide (0 ≤ x ∧ x ≤ 600))) := by
  refine APure_of (X := cx 6) (cx_ok 6) rfl (rs := [(.tmp 2, 4)]) Try.func60 (by decide) rfl rfl rfl (by simp [cx]) (by simp [NoFr]) ?_
  intro _
  ((conv => whnf); repeat (refine stepK_in ?_; (repeat (first | refine seqQ_n ?_ | refine blockQ_n ?_ | refine awp_skip ?_ | refine awp_seq ?_ | refine awp_block ?_)); (conv => whnf)))
  refine APure.to (isMany_pure x) ?_
  ((conv => whnf); repeat (refine stepK_in ?_; (repeat (first | refine seqQ_n ?_ | refine blockQ_n ?_ | refine awp_skip ?_ | refine awp_seq ?_ | refine awp_block ?_)); (conv => whnf)))
  exact ⟨trivial, rfl⟩
theorem ipr1_pure (x z : Int) : APure Try.prog 68 [.int x, .at_ 1 (fun _ => .int z) 0] (fun R => R = .bool (decide (x < 0 ∨ x ≥ z))) := by
  refine APure_of (X := cx 11) (cx_ok 11) rfl (rs := [(.tmp 3, 4)]) Try.func68 (by decide) rfl rfl rfl (by simp [cx]) (by simp [NoFr]) ?_
  intro _
  ((conv => whnf); repeat (refine stepK_in ?_; (repeat (first | refine seqQ_n ?_ | refine blockQ_n ?_ | refine awp_skip ?_ | refine awp_seq ?_ | refine awp_block ?_)); (conv => whnf)))
  refine br_dec (fun h => ?_) (fun h => ?_)
  · ((conv => whnf); repeat (refine stepK_in ?_; (repeat (first | refine seqQ_n ?_ | refine blockQ_n ?_ | refine awp_skip ?_ | refine awp_seq ?_ | refine awp_block ?_)); (conv => whnf)))
    exact ⟨trivial, Qb (decide_eq_true (Or.inl h)).symm⟩
  · ((conv => whnf); repeat (refine stepK_in ?_; (repeat (first | refine seqQ_n ?_ | refine blockQ_n ?_ | refine awp_skip ?_ | refine awp_seq ?_ | refine awp_block ?_)); (conv => whnf)))
    exact ⟨trivial, Qb (decide_eq_decide.2 (by omega))⟩

theorem checkNeeds_pure (l : List Int) : APure Try.prog 55 [.ints false l] (fun R => R = .int (ndsE l)) := by
  refine APure_of (X := cx 13) (cx_ok 13) rfl (rs := [(.tmp 2, 25)]) Try.func55 (by decide) rfl rfl rfl (by simp [cx]) (by simp [NoFr]) ?_
  intro hlen
  ((conv => whnf); repeat (refine stepK_in ?_; (repeat (first | refine seqQ_n ?_ | refine blockQ_n ?_ | refine awp_skip ?_ | refine awp_seq ?_ | refine awp_block ?_)); (conv => whnf)))
  refine br_dec (fun h => ?_) (fun h => ?_)
  · ((conv => whnf); repeat (refine stepK_in ?_; (repeat (first | refine seqQ_n ?_ | refine blockQ_n ?_ | refine awp_skip ?_ | refine awp_seq ?_ | refine awp_block ?_)); (conv => whnf)))
    exact ⟨trivial, Qi (by unfold ndsE; rw [if_pos (by omega)])⟩
  have h12 : ¬ l.length > 12 := by omega
  ((conv => whnf); repeat (refine stepK_in ?_; (repeat (first | refine seqQ_n ?_ | refine blockQ_n ?_ | refine awp_skip ?_ | refine awp_seq ?_ | refine awp_block ?_)); (conv => whnf)))
  refine br_eq (fun h0 => ?_) (fun h0 => ?_)
  · ((conv => whnf); repeat (refine stepK_in ?_; (repeat (first | refine seqQ_n ?_ | refine blockQ_n ?_ | refine awp_skip ?_ | refine awp_seq ?_ | refine awp_block ?_)); (conv => whnf)))
    exact ⟨trivial, Qi (ndsE_bad h12 fun hv => by have := hv.1; omega).symm⟩
  ((conv => whnf); repeat (refine stepK_in ?_; (repeat (first | refine seqQ_n ?_ | refine blockQ_n ?_ | refine awp_skip ?_ | refine awp_seq ?_ | refine awp_block ?_)); (conv => whnf)))
  refine APure.to (APure.arg2 (Sub.refl _) subC0 (ContainsFunc0 _ _ l cn1_pure)) ?_
  ((conv => whnf); repeat (refine stepK_in ?_; (repeat (first | refine seqQ_n ?_ | refine blockQ_n ?_ | refine awp_skip ?_ | refine awp_seq ?_ | refine awp_block ?_)); (conv => whnf)))
  have hiff := idxP_ge (fun x => decide (x < 0 ∨ x > 50)) l l.length 0
  refine br_dec (fun h => ?_) (fun h => ?_)
  · ((conv => whnf); repeat (refine stepK_in ?_; (repeat (first | refine seqQ_n ?_ | refine blockQ_n ?_ | refine awp_skip ?_ | refine awp_seq ?_ | refine awp_block ?_)); (conv => whnf)))
    obtain ⟨j, _, h2, h3⟩ := hiff.1 h
    refine ⟨trivial, Qi (ndsE_bad h12 fun hv => ?_).symm⟩
    have := hv.2.2 j (by omega)
    have h3 := of_decide_eq_true h3
    omega
  · ((conv => whnf); repeat (refine stepK_in ?_; (repeat (first | refine seqQ_n ?_ | refine blockQ_n ?_ | refine awp_skip ?_ | refine awp_seq ?_ | refine awp_block ?_)); (conv => whnf)))
    refine ⟨trivial, Qi (ndsE_ok ⟨by omega, by omega, fun j hj => ?_⟩).symm⟩
    have : ¬ (l.getD j 0 < 0 ∨ l.getD j 0 > 50) := fun h3 => h (hiff.2 ⟨j, by omega, by omega, decide_eq_true h3⟩)
    omega

theorem checkShifts_pure (l : List Int) (long : Int) : APure Try.prog 37 [.ints false l, .int long] (fun R => R = .int (dayE l long)) := by
  refine APure_of (X := cx 19) (cx_ok 19) rfl (rs := [(.tmp 4, 25)]) Try.func37 (by decide) rfl rfl rfl (by simp [cx]) (by simp [NoFr]) ?_
  intro hlen
  ((conv => whnf); repeat (refine stepK_in ?_; (repeat (first | refine seqQ_n ?_ | refine blockQ_n ?_ | refine awp_skip ?_ | refine awp_seq ?_ | refine awp_block ?_)); (conv => whnf)))
  refine APure.to (checkNeeds_pure l) ?_
  ((conv => whnf); repeat (refine stepK_in ?_; (repeat (first | refine seqQ_n ?_ | refine blockQ_n ?_ | refine awp_skip ?_ | refine awp_seq ?_ | refine awp_block ?_)); (conv => whnf)))
  refine br_ne (fun h => ?_) (fun h => ?_)
  · ((conv => whnf); repeat (refine stepK_in ?_; (repeat (first | refine seqQ_n ?_ | refine blockQ_n ?_ | refine awp_skip ?_ | refine awp_seq ?_ | refine awp_block ?_)); (conv => whnf)))
    exact ⟨trivial, Qi (by unfold dayE; rw [if_neg h])⟩
  ((conv => whnf); repeat (refine stepK_in ?_; (repeat (first | refine seqQ_n ?_ | refine blockQ_n ?_ | refine awp_skip ?_ | refine awp_seq ?_ | refine awp_block ?_)); (conv => whnf)))
  refine br_dec (fun h1 => ?_) (fun h1 => ?_)
  · ((conv => whnf); repeat (refine stepK_in ?_; (repeat (first | refine seqQ_n ?_ | refine blockQ_n ?_ | refine awp_skip ?_ | refine awp_seq ?_ | refine awp_block ?_)); (conv => whnf)))
    exact ⟨trivial, Qi (by unfold dayE; rw [if_pos h, if_neg (by omega)])⟩
  · ((conv => whnf); repeat (refine stepK_in ?_; (repeat (first | refine seqQ_n ?_ | refine blockQ_n ?_ | refine awp_skip ?_ | refine awp_seq ?_ | refine awp_block ?_)); (conv => whnf)))
    refine br_dec (fun h2 => ?_) (fun h2 => ?_)
    · ((conv => whnf); repeat (refine stepK_in ?_; (repeat (first | refine seqQ_n ?_ | refine blockQ_n ?_ | refine awp_skip ?_ | refine awp_seq ?_ | refine awp_block ?_)); (conv => whnf)))
      exact ⟨trivial, Qi (by unfold dayE; rw [if_pos h, if_neg (by omega)])⟩
    · ((conv => whnf); repeat (refine stepK_in ?_; (repeat (first | refine seqQ_n ?_ | refine blockQ_n ?_ | refine awp_skip ?_ | refine awp_seq ?_ | refine awp_block ?_)); (conv => whnf)))
      exact ⟨trivial, Qi (by unfold dayE; rw [if_pos h, if_pos (by omega)])⟩

open Classical in
theorem isPlan_pure (p : List Int) (n : Nat) : APure Try.prog 38 [.ints false p, .int n] (fun R => R = .bool (decide (isPl n p))) := by
  refine APure_of (X := cx 14) (cx_ok 14) rfl (rs := [(.tmp 4, 4)]) Try.func38 (by decide) rfl rfl rfl (by simp [cx]) (by simp [NoFr]) ?_
  intro hlen
  ((conv => whnf); repeat (refine stepK_in ?_; (repeat (first | refine seqQ_n ?_ | refine blockQ_n ?_ | refine awp_skip ?_ | refine awp_seq ?_ | refine awp_block ?_)); (conv => whnf)))
  have hiff := idxP_ge (fun x => !decide (0 ≤ x ∧ x ≤ 600)) p p.length 0
  refine br_eq (fun h => ?_) (fun h => ?_)
  · ((conv => whnf); repeat (refine stepK_in ?_; (repeat (first | refine seqQ_n ?_ | refine blockQ_n ?_ | refine awp_skip ?_ | refine awp_seq ?_ | refine awp_block ?_)); (conv => whnf)))
    refine APure.to (APure.arg2 (Sub.refl _) subC0 (ContainsFunc0 _ _ p ip1_pure)) ?_
    ((conv => whnf); repeat (refine stepK_in ?_; (repeat (first | refine seqQ_n ?_ | refine blockQ_n ?_ | refine awp_skip ?_ | refine awp_seq ?_ | refine awp_block ?_)); (conv => whnf)))
    refine ⟨trivial, Qb ?_⟩
    by_cases hd : 0 ≤ idxP (fun x => !decide (0 ≤ x ∧ x ≤ 600)) p 0 p.length
    · rw [decide_eq_true hd]
      refine (decide_eq_false fun hv => ?_).symm
      obtain ⟨j, _, h2, h3⟩ := hiff.1 hd
      have := hv.2 j (by omega)
      rw [decide_eq_true this] at h3
      cases h3
    · rw [decide_eq_false hd]
      refine (decide_eq_true ⟨by omega, fun j hj => ?_⟩).symm
      apply Classical.byContradiction
      intro hne
      exact hd (hiff.2 ⟨j, by omega, by omega, by rw [decide_eq_false hne]; rfl⟩)
  · ((conv => whnf); repeat (refine stepK_in ?_; (repeat (first | refine seqQ_n ?_ | refine blockQ_n ?_ | refine awp_skip ?_ | refine awp_seq ?_ | refine awp_block ?_)); (conv => whnf)))
    refine ⟨trivial, Qb (decide_eq_false fun hv => h (by rw [hv.1])).symm⟩

open Classical in
theorem isProof_pure (p : List Int) (n : Nat) : APure Try.prog 51 [.ints false p, .int n] (fun R => R = .bool (decide (isPr n p))) := by
  refine APure_of (X := cx 17) (cx_ok 17) rfl (rs := [(.tmp 4, 4)]) Try.func51 (by decide) rfl rfl rfl (by simp [cx]) (by simp [NoFr]) ?_
  intro hlen
  ((conv => whnf); repeat (refine stepK_in ?_; (repeat (first | refine seqQ_n ?_ | refine blockQ_n ?_ | refine awp_skip ?_ | refine awp_seq ?_ | refine awp_block ?_)); (conv => whnf)))
  refine br_eq (fun h => ?_) (fun h => ?_)
  · ((conv => whnf); repeat (refine stepK_in ?_; (repeat (first | refine seqQ_n ?_ | refine blockQ_n ?_ | refine awp_skip ?_ | refine awp_seq ?_ | refine awp_block ?_)); (conv => whnf)))
    refine ⟨trivial, Qb (decide_eq_false fun hv => ?_).symm⟩
    have := hv.1; omega
  ((conv => whnf); repeat (refine stepK_in ?_; (repeat (first | refine seqQ_n ?_ | refine blockQ_n ?_ | refine awp_skip ?_ | refine awp_seq ?_ | refine awp_block ?_)); (conv => whnf)))
  refine br_dec (fun h1 => ?_) (fun h1 => ?_)
  · ((conv => whnf); repeat (refine stepK_in ?_; (repeat (first | refine seqQ_n ?_ | refine blockQ_n ?_ | refine awp_skip ?_ | refine awp_seq ?_ | refine awp_block ?_)); (conv => whnf)))
    refine ⟨trivial, Qb (decide_eq_false fun hv => ?_).symm⟩
    have := hv.2.1; omega
  ((conv => whnf); repeat (refine stepK_in ?_; (repeat (first | refine seqQ_n ?_ | refine blockQ_n ?_ | refine awp_skip ?_ | refine awp_seq ?_ | refine awp_block ?_)); (conv => whnf)))
  refine APure.to (APure.arg2 (Sub.refl _) (subC1 rfl rfl) (ContainsFunc1 _ _ _ p fun x => ipr1_pure x n)) ?_
  ((conv => whnf); repeat (refine stepK_in ?_; (repeat (first | refine seqQ_n ?_ | refine blockQ_n ?_ | refine awp_skip ?_ | refine awp_seq ?_ | refine awp_block ?_)); (conv => whnf)))
  have hiff := idxP_ge (fun x => decide (x < 0 ∨ x ≥ (n : Int))) p p.length 0
  refine ⟨trivial, Qb ?_⟩
  by_cases hd : 0 ≤ idxP (fun x => decide (x < 0 ∨ x ≥ (n : Int))) p 0 p.length
  · rw [decide_eq_true hd]
    refine (decide_eq_false fun hv => ?_).symm
    obtain ⟨j, _, h2, h3⟩ := hiff.1 hd
    have := hv.2.2 j (by omega)
    have h3 := of_decide_eq_true h3
    omega
  · rw [decide_eq_false hd]
    refine (decide_eq_true ⟨by omega, by omega, fun j hj => ?_⟩).symm
    have : ¬ (p.getD j 0 < 0 ∨ p.getD j 0 ≥ n) := fun h3 => hd (hiff.2 ⟨j, by omega, by omega, decide_eq_true h3⟩)
    omega
end Go.Tri
