/-
 CONTRACTS: lists of ints: Clone, Index, Contains; the numbers from 0 on.
-/
import Derived.Test.YtpolaegggclhcaaS
import Derived.Test.YtpolaegggclhcaaA34
namespace Go.Tri
open Go.Proofs

theorem eqn_self {x : Nat} {K : Prop} (h : K) : (eqnO x x).req K := (Obl.req_iff _ _).2 ⟨eqnO_holds.2 rfl, h⟩
theorem ms {n : Nat} {x : Int} (h : 8 * x ≤ 140737488355328) : (((cx n).T.row 3).bs : Int) * x ≤ 140737488355328 := h
theorem ms1 {n : Nat} : (((cx n).T.row 3).bs : Int) * ((1 : Nat) : Int) ≤ 140737488355328 := show (8 : Int) * 1 ≤ _ by decide
theorem msk {n k : Nat} (h : 8 * ((k : Int) + 1) ≤ 140737488355328) : (((cx n).T.row 3).bs : Int) * ((k : Int) + ((1 : Nat) : Int)) ≤ 140737488355328 := h
theorem Qb {b c : Bool} (h : b = c) : V.bool b = V.bool c := by rw [h]
theorem Qi {b c : Int} (h : b = c) : V.int b = V.int c := by rw [h]
theorem Ql {b : Bool} {c d : List Int} (h : c = d) : V.ints b c = V.ints b d := by rw [h]
@[reducible] def tup2 (a b : V) : V := .tup 2 fun k => match k with | 0 => a | _ => b
@[reducible] def tup3 (a b c : V) : V := .tup 3 fun k => match k with | 0 => a | 1 => b | _ => c
theorem Q2 {a b a' b' : V} (h : a = a') (h' : b = b') : tup2 a b = tup2 a' b' := by rw [h, h']
theorem Q3 {a b c a' b' c' : V} (h : a = a') (h' : b = b') (h2 : c = c') : tup3 a b c = tup3 a' b' c' := by rw [h, h', h2]
theorem take_succ_getD (l : List Int) (k : Nat) (h : k < l.length) : l.take (k + 1) = l.take k ++ [l.getD k 0] := by
 rw [List.take_add_one]; simp [List.getD, h]
theorem take_len {l : List Int} {k : Nat} (h : l.length ≤ k) : l.take k = l := List.take_of_length_le h
theorem getD_mem' {l : List Int} {k : Nat} (h : k < l.length) : l.getD k 0 ∈ l := by simp [List.getD, h]
theorem LenI {l : List Int} {r : List V} (h : ∀ x ∈ V.ints false l :: r, LenOk x) : (l.length : Int) ≤ 9223372036854775807 := h (.ints false l) (by simp)
theorem ext_getD {l m : List Int} (h : l.length = m.length) (hg : ∀ j, j < l.length → l.getD j 0 = m.getD j 0) : l = m := by
 apply List.ext_getElem h
 intro i h1 h2
 have := hg i h1
 simpa [List.getD, h1, h2] using this
theorem forceV_rw {x y : V} {K : V → Prop} (h : x = y) (k : forceV y K) : forceV x K := h ▸ k
theorem ldk {ver o sz : Nat} {K : Prop} (h : o < sz) (k : K) : (ldO ver ver o sz).req K := (Obl.req_iff _ _).2 ⟨ldO_holds.2 ⟨rfl, h⟩, k⟩
theorem ldak {ver m sz : Nat} {K : Prop} (h : m ≤ sz) (k : K) : (ldaO ver ver m sz).req K := (Obl.req_iff _ _).2 ⟨ldaO_holds.2 ⟨rfl, h⟩, k⟩
theorem set_get {c : Prop} [Decidable c] {a b v : V} (h : c → a = v) (h' : ¬ c → b = v) : (if c then a else b) = v := by
 split
 ·exact h (by assumption)
 ·exact h' (by assumption)

/-- The first k of a list lie between a and b. -/
def bet (a b : Int) (l : List Int) (k : Nat) : Prop := ∀ j, j < k → a ≤ l.getD j 0 ∧ l.getD j 0 ≤ b
theorem bet.succ {a b : Int} {l : List Int} {k : Nat} (h : bet a b l k) (h1 : a ≤ l.getD k 0) (h2 : l.getD k 0 ≤ b) : bet a b l (k + 1) := fun j hj => by
 rcases (by omega : j < k ∨ j = k) with h4 | rfl
 ·exact h j h4
 ·exact ⟨h1, h2⟩

theorem Clone_pure (l : List Int) (hl : l.length ≤ 100000) : APure Try.prog 110 [.ints false l] (fun R => R = .ints true l) := by
 cases l with
 | nil =>
  refine APure_of (X := cx 8) (cx_ok 8) rfl (rs := [(.tmp 2, 22)]) Try.func110 (by decide) rfl rfl rfl (by simp [cx]) (by simp [NoFr]) ?_
  intro _
  ((conv=>whnf);repeat (refine Wa ?_;(repeat (first|refine Wb ?_|refine Wc ?_|refine Wd ?_|refine We ?_|refine Wf ?_));(conv=>whnf)))
  refine ⟨?_, ?_⟩
  ·((conv=>whnf);repeat (refine Wa ?_;(repeat (first|refine Wb ?_|refine Wc ?_|refine Wd ?_|refine We ?_|refine Wf ?_));(conv=>whnf)))
   exact ⟨rfl, rfl⟩
  ·((conv=>whnf);repeat (refine Wa ?_;(repeat (first|refine Wb ?_|refine Wc ?_|refine Wd ?_|refine We ?_|refine Wf ?_));(conv=>whnf)))
   refine ⟨(show (8 : Int) * 0 ≤ 140737488355328 by omega), ?_⟩
   ((conv=>whnf);repeat (refine Wa ?_;(repeat (first|refine Wb ?_|refine Wc ?_|refine Wd ?_|refine We ?_|refine Wf ?_));(conv=>whnf)))
   exact ⟨rfl, rfl⟩
 | cons x r =>
  refine APure_of (X := cx 8) (cx_ok 8) rfl (rs := [(.tmp 2, 22)]) Try.func110 (by decide) rfl rfl rfl (by simp [cx]) (by simp [NoFr]) ?_
  intro hlen
  have h1 : (0 : Int) < ((x :: r).length : Int) := by simp only [List.length_cons]; omega
  have h8 : (8 : Int) * ((x :: r).length : Int) ≤ 140737488355328 := by omega
  ((conv=>whnf);repeat (refine Wa ?_;(repeat (first|refine Wb ?_|refine Wc ?_|refine Wd ?_|refine We ?_|refine Wf ?_));(conv=>whnf)))
  refine ⟨h1, ?_⟩
  ((conv=>whnf);repeat (refine Wa ?_;(repeat (first|refine Wb ?_|refine Wc ?_|refine Wd ?_|refine We ?_|refine Wf ?_));(conv=>whnf)))
  refine ⟨h8, ?_⟩
  ((conv=>whnf);repeat (refine Wa ?_;(repeat (first|refine Wb ?_|refine Wc ?_|refine Wd ?_|refine We ?_|refine Wf ?_));(conv=>whnf)))
  refine ⟨rfl, Ql ?_⟩
  show ((x :: r).drop 0).take (x :: r).length = x :: r
  rw [List.drop_zero, List.take_length]

theorem memI_at {l : List Int} {x : Int} (h : x ∈ l) : ∃ j, j < l.length ∧ l.getD j 0 = x := by
 obtain ⟨j, hj, rfl⟩ := List.getElem_of_mem h
 exact ⟨j, hj, by simp [List.getD, hj]⟩
theorem Index_pure (l : List Int) (x : Int) : APure Try.prog 118 [.ints false l, .int x] (fun R => ∃ i : Int, R = .int i ∧ (0 ≤ i ↔ x ∈ l)) := by
 refine APure_of (X := cx 19) (cx_ok 19) rfl (rs := [(.tmp 4, 3)]) Try.func118 (by decide) rfl rfl rfl (by simp [cx]) (by simp [NoFr]) ?_
 intro hlen
 have hla : (l.length : Int) ≤ 9223372036854775807 := hlen (.ints false l) (by simp)
 ((conv=>whnf);repeat (refine Wa ?_;(repeat (first|refine Wb ?_|refine Wc ?_|refine Wd ?_|refine We ?_|refine Wf ?_));(conv=>whnf)))
 refine AW_loop (X := cx 19) (cx_ok 19) [0, 1, 7, 8] (fun vs M => ∃ k : Nat, k ≤ l.length ∧ (∀ j, j < k → x ≠ l.getD j 0) ∧ vs = [.ints false l, .int x, .int l.length, .int k] ∧ M = []) (fun vs _ => l.length - (vs.getD 3 .any).toInt.toNat) ?_ ?_
 ·exact ⟨0, Nat.zero_le _, fun j hj => absurd hj (by omega), rfl, rfl⟩
 rintro vs M ⟨k, hk, hkx, rfl, rfl⟩
 ((conv=>whnf);repeat (refine Wa ?_;(repeat (first|refine Wb ?_|refine Wc ?_|refine Wd ?_|refine We ?_|refine Wf ?_));(conv=>whnf)))
 refine br_dec (fun hlt => ?_) (fun hge => ?_)
 ·have hk' : k < l.length := by omega
  ((conv=>whnf);repeat (refine Wa ?_;(repeat (first|refine Wb ?_|refine Wc ?_|refine Wd ?_|refine We ?_|refine Wf ?_));(conv=>whnf)))
  refine ⟨(show (0 : Int) ≤ (k : Int) by omega), ?_⟩
  refine ⟨(show (k : Int) < (l.length : Int) by omega), ?_⟩
  ((conv=>whnf);repeat (refine Wa ?_;(repeat (first|refine Wb ?_|refine Wc ?_|refine Wd ?_|refine We ?_|refine Wf ?_));(conv=>whnf)))
  refine br_eq (fun h => ?_) (fun h => ?_)
  ·((conv=>whnf);repeat (refine Wa ?_;(repeat (first|refine Wb ?_|refine Wc ?_|refine Wd ?_|refine We ?_|refine Wf ?_));(conv=>whnf)))
   exact ⟨trivial, _, rfl, fun _ => by rw [h, Int.toNat_natCast]; exact getD_mem' hk', fun _ => by omega⟩
  ·((conv=>whnf);repeat (refine Wa ?_;(repeat (first|refine Wb ?_|refine Wc ?_|refine Wd ?_|refine We ?_|refine Wf ?_));(conv=>whnf)))
   refine ⟨inr (by omega), ?_⟩
   ((conv=>whnf);repeat (refine Wa ?_;(repeat (first|refine Wb ?_|refine Wc ?_|refine Wd ?_|refine We ?_|refine Wf ?_));(conv=>whnf)))
   refine ⟨⟨k + 1, by omega, fun j hj => ?_, rfl, rfl⟩, ?_⟩
   ·rcases (by omega : j = k ∨ j < k) with rfl | h1
    ·exact h
    ·exact hkx j h1
   ·simp [V.toInt, sel, Env.get]; omega
 ·((conv=>whnf);repeat (refine Wa ?_;(repeat (first|refine Wb ?_|refine Wc ?_|refine Wd ?_|refine We ?_|refine Wf ?_));(conv=>whnf)))
  refine ⟨trivial, _, rfl, fun h => absurd h (by decide), fun h => ?_⟩
  obtain ⟨j, hj, rfl⟩ := memI_at h
  exact absurd rfl (hkx j (by omega))
theorem Contains_pure (l : List Int) (x : Int) : APure Try.prog 111 [.ints false l, .int x] (fun R => R = .bool (decide (x ∈ l))) := by
 refine APure_of (X := cx 9) (cx_ok 9) rfl (rs := [(.tmp 4, 4)]) Try.func111 (by decide) rfl rfl rfl (by simp [cx]) (by simp [NoFr]) ?_
 intro hlen
 ((conv=>whnf);repeat (refine Wa ?_;(repeat (first|refine Wb ?_|refine Wc ?_|refine Wd ?_|refine We ?_|refine Wf ?_));(conv=>whnf)))
 refine APure.mono (Index_pure l x) ?_
 rintro R ⟨i, rfl, hi⟩
 ((conv=>whnf);repeat (refine Wa ?_;(repeat (first|refine Wb ?_|refine Wc ?_|refine Wd ?_|refine We ?_|refine Wf ?_));(conv=>whnf)))
 exact ⟨trivial, Qb (decide_eq_decide.2 hi)⟩
end Go.Tri
