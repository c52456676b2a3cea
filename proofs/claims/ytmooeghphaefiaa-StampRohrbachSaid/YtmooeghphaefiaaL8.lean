/-
  LAW: StampRohrbach, number by number.
-/
import Derived.Test.YtmooeghphaefiaaK5
namespace Go.Tri
open Go.Proofs
/-- What is known of Best and Range. -/
noncomputable def knownB : List (Kn Try.prog) := [⟨16, [], .bool true, alive_pure⟩,
  ⟨28, [.int 1, .int 1], triple (.ints true [1]) (.int 1) (.int 0), best1_1⟩,
  ⟨28, [.int 1, .int 2], triple (.ints true [1, 2]) (.int 2) (.int 0), best2_1⟩,
  ⟨24, [.int 1, .ints false [1, 2]], pair (.int 2) (.int 0), range_1⟩,
  ⟨28, [.int 2, .int 1], triple (.ints true [1]) (.int 2) (.int 0), best1_2⟩,
  ⟨28, [.int 2, .int 2], triple (.ints true [1, 2]) (.int 4) (.int 0), best2_2⟩,
  ⟨24, [.int 2, .ints false [1, 2]], pair (.int 4) (.int 0), range_2⟩,
  ⟨28, [.int 3, .int 1], triple (.ints true [1]) (.int 3) (.int 0), best1_3⟩,
  ⟨28, [.int 3, .int 2], triple (.ints true [1, 3]) (.int 7) (.int 0), best2_3⟩,
  ⟨24, [.int 3, .ints false [1, 3]], pair (.int 7) (.int 0), range_3⟩,
  ⟨28, [.int 4, .int 1], triple (.ints true [1]) (.int 4) (.int 0), best1_4⟩,
  ⟨28, [.int 4, .int 2], triple (.ints true [1, 3]) (.int 10) (.int 0), best2_4⟩,
  ⟨24, [.int 4, .ints false [1, 3]], pair (.int 10) (.int 0), range_4⟩,
  ⟨28, [.int 5, .int 1], triple (.ints true [1]) (.int 5) (.int 0), best1_5⟩,
  ⟨28, [.int 5, .int 2], triple (.ints true [1, 4]) (.int 14) (.int 0), best2_5⟩,
  ⟨24, [.int 5, .ints false [1, 4]], pair (.int 14) (.int 0), range_5⟩,
  ⟨28, [.int 6, .int 1], triple (.ints true [1]) (.int 6) (.int 0), best1_6⟩,
  ⟨28, [.int 6, .int 2], triple (.ints true [1, 4]) (.int 18) (.int 0), best2_6⟩,
  ⟨24, [.int 6, .ints false [1, 4]], pair (.int 18) (.int 0), range_6⟩]
set_option maxRecDepth 100000 in
theorem okR_ok : [10, 19].all (okFn Try.prog cuts) = true := by kernel_rfl
noncomputable def evR : Ev := ⟨Try.prog, tab, wrL, [10, 19], [], cuts, 500, okR_ok, knownB⟩
/-- Is it true at this number? -/
def isT : Option (V × Mem) → Bool
  | some (.lit (.bool true), []) => true
  | _ => false
theorem isT_ok {o : Option (V × Mem)} (h : isT o = true) : o = some (.bool true, []) := by
  unfold isT at h
  split at h
  · rfl
  · cases h
noncomputable def rohr (p : Int) : Bool := isT (evFn evR 10 true 10 [.lit (.int .u8 p)] [])
noncomputable def upto (f : Int → Bool) (a : Int) : Nat → Bool
  | 0 => true
  | n + 1 => f a && upto f (a + 1) n
theorem upto_ok {f : Int → Bool} : ∀ {n : Nat} {a : Int}, upto f a n = true → ∀ p, a ≤ p → p < a + n → f p = true := by
  intro n
  induction n with
  | zero => intro a _ p h1 h2; omega
  | succ n ih =>
    intro a h p h1 h2
    simp only [upto, Bool.and_eq_true] at h
    rcases (by omega : p = a ∨ a + 1 ≤ p) with rfl | h3
    · exact h.1
    · exact ih h.2 p h3 (by omega)
set_option maxRecDepth 100000 in
theorem rohr_0 : upto rohr 0 32 = true := by kernel_rfl
set_option maxRecDepth 100000 in
theorem rohr_1 : upto rohr 32 32 = true := by kernel_rfl
set_option maxRecDepth 100000 in
theorem rohr_2 : upto rohr 64 32 = true := by kernel_rfl
set_option maxRecDepth 100000 in
theorem rohr_3 : upto rohr 96 32 = true := by kernel_rfl
set_option maxRecDepth 100000 in
theorem rohr_4 : upto rohr 128 32 = true := by kernel_rfl
set_option maxRecDepth 100000 in
theorem rohr_5 : upto rohr 160 32 = true := by kernel_rfl
set_option maxRecDepth 100000 in
theorem rohr_6 : upto rohr 192 32 = true := by kernel_rfl
set_option maxRecDepth 100000 in
theorem rohr_7 : upto rohr 224 32 = true := by kernel_rfl
theorem rohr_all (p : Int) (h : 0 ≤ p ∧ p ≤ 255) : rohr p = true := by
  rcases (by omega : p < 32 ∨ (32 ≤ p ∧ p < 64) ∨ (64 ≤ p ∧ p < 96) ∨ (96 ≤ p ∧ p < 128) ∨ (128 ≤ p ∧ p < 160) ∨ (160 ≤ p ∧ p < 192) ∨ (192 ≤ p ∧ p < 224) ∨ 224 ≤ p) with h1 | h1 | h1 | h1 | h1 | h1 | h1 | h1
  · exact upto_ok rohr_0 p (by omega) (by omega)
  · exact upto_ok rohr_1 p (by omega) (by omega)
  · exact upto_ok rohr_2 p (by omega) (by omega)
  · exact upto_ok rohr_3 p (by omega) (by omega)
  · exact upto_ok rohr_4 p (by omega) (by omega)
  · exact upto_ok rohr_5 p (by omega) (by omega)
  · exact upto_ok rohr_6 p (by omega) (by omega)
  · exact upto_ok rohr_7 p (by omega) (by omega)

theorem wf_u8 {a : Int} (h : (Lit.int .u8 a).wf = true) : 0 ≤ a ∧ a ≤ 255 := by
  simp only [Lit.wf, Bool.and_eq_true, decide_eq_true_eq] at h
  exact h

theorem StampRohrbach_pure (p : Int) (hp : (Lit.int .u8 p).wf = true) : APure Try.prog 10 [.lit (.int .u8 p)] (fun R => R = .bool true) :=
  APure_eval (E := evR) tab_ok mixed (by intro q hq; cases hq) (by simp [NoFr]) (isT_ok (rohr_all p (wf_u8 hp)))
end Go.Tri
